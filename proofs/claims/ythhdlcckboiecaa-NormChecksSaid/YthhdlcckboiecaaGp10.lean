/- The reference's tree (burinref06): Fits. -/
import Derived.Test.YthhdlcckboiecaaGp9
import Derived.IntWalk
import Derived.WalkSmall
namespace Go.Proofs.Ythhdlcckboiecaa
open Go.RowKit
set_option linter.unusedVariables false
namespace Td
/-- Are a node's fields as its kind has them? -/
def fitsV (K num mn mx L : Int) (S U M T Z C NB : Bool) : Bool :=
  if K = 1 ∨ K = 2 ∨ K = 4 then S && (U && (M && (T && (Z && (L == 0)))))
  else if K = 3 then !S && (C && (U && (M && (T && (Z && (L == 0))))))
  else if K = 5 then S && (decide (1 ≤ num) && (decide (num ≤ 6) && (M && (T && (Z && (L == 0))))))
  else if K = 6 then S && (decide (1 ≤ num) && ((M || NB) && (T && (Z && (L == 1)))))
  else if K = 7 ∨ K = 8 then S && (U && (M && (T && (Z && decide (2 ≤ L)))))
  else if K = 9 then S && (U && (M && (decide (0 ≤ mn) && (decide (mn ≤ 1000) && ((mx == -1 || (decide (mn ≤ mx) && decide (mx ≤ 1000))) && (L == 1))))))
  else false
def fitsB (n : Nd) : Bool :=
  fitsV (kind n) (num n) (mn n) (mx n) (subs n).length (((set n).length : Int) == 0) (num n == 0) (name n).toList.isEmpty (mn n == 0 && mx n == 0) (!lazy n) (Rg.checkF none (set n) == 0) (nameB (name n))
end Td
set_option maxRecDepth 100000 in
set_option maxHeartbeats 8000000 in
theorem refFits_any (W : World) (n : Nd) (cs : List Value) (h : NdIs W n cs) : Calls Try.prog 29 #[.agg cs.toArray] W fun e w' => e = .returned (.bool (Td.fitsB n)) ∧ Below W.heap.size W w' := by
  obtain ⟨vs, a, cap, C, hC⟩ := h.cells
  obtain ⟨sa, scap, hvs, hsl, _, _⟩ := hC.set
  have hcs := hC.eq
  have hlen := hC.len
  have hnm := hC.name
  have hset := hC.set
  subst hvs
  subst hcs
  obtain ⟨R, hR⟩ : ∃ R, Td.fitsB n = R := ⟨_, rfl⟩
  have HR := Lib.hid hR
  rw [hR]
  have HC := Lib.hid hset
  clear h hC hset hR
  unfold Td.fitsB at HR
  obtain ⟨K, hK⟩ : ∃ K, Td.kind n = K := ⟨_, rfl⟩
  obtain ⟨num, hnum⟩ : ∃ num, Td.num n = num := ⟨_, rfl⟩
  obtain ⟨mn, hmn⟩ : ∃ mn, Td.mn n = mn := ⟨_, rfl⟩
  obtain ⟨mx, hmx⟩ : ∃ mx, Td.mx n = mx := ⟨_, rfl⟩
  obtain ⟨L, hL⟩ : ∃ L, (Td.subs n).length = L := ⟨_, rfl⟩
  obtain ⟨N, hN⟩ : ∃ N, (Td.set n).length = N := ⟨_, rfl⟩
  obtain ⟨nm, hnm0⟩ : ∃ nm, Td.name n = nm := ⟨_, rfl⟩
  obtain ⟨lz, hlz⟩ : ∃ lz, Td.lazy n = lz := ⟨_, rfl⟩
  obtain ⟨NB, hNB⟩ : ∃ NB, Td.nameB nm = NB := ⟨_, rfl⟩
  have HNB := Lib.hid hNB
  obtain ⟨CK, hCK⟩ : ∃ CK, Rg.checkF none (Td.set n) = CK := ⟨_, rfl⟩
  have HCK := Lib.hid hCK
  obtain ⟨S, hS⟩ : ∃ S, ((N : Int) == 0) = S := ⟨_, rfl⟩
  obtain ⟨U, hU⟩ : ∃ U, (num == 0) = U := ⟨_, rfl⟩
  obtain ⟨M, hM⟩ : ∃ M, nm.toList.isEmpty = M := ⟨_, rfl⟩
  obtain ⟨Z, hZ⟩ : ∃ Z, (!lz) = Z := ⟨_, rfl⟩
  rw [hK, hnum, hmn, hmx, hL, hN, hnm0, hlz, hS, hU, hM, hZ, hNB, hCK] at HR
  rw [hK, hnum, hmn, hmx, hL, hN, hnm0, hlz]
  rw [hN] at hsl HC
  rw [hL] at hlen
  rw [hnm0] at hnm
  have HS := Lib.hid hS
  have HU := Lib.hid hU
  have HM := Lib.hid hM
  have HZ := Lib.hid hZ
  clear hNB hCK hK hnum hmn hmx hL hN hnm0 hlz hS hU hM hZ
  obtain ⟨W1, hW1⟩ : ∃ W1, W.alloc (.cells #[.int .i64 K, .slice sa N scap, .int .i64 num, .string nm, .int .i64 mn, .int .i64 mx, .bool lz, .slice a L cap] 25) = W1 := ⟨_, rfl⟩
  have B1 := Lib.hid (hW1 ▸ (Below.refl W.heap.size W).alloc (Nat.le_refl _) (.cells #[.int .i64 K, .slice sa N scap, .int .i64 num, .string nm, .int .i64 mn, .int .i64 mx, .bool lz, .slice a L cap] 25) : Below W.heap.size W W1)
  have HW1 := Lib.hid hW1
  have c0 : Hid (∀ q, (W1.drewN q).cell? ⟨W.heap.size, 0, none⟩ = some (.int .i64 K)) := Lib.hid (fun q => by rw [← hW1]; simp)
  have c1 : Hid (∀ q, (W1.drewN q).cell? ⟨W.heap.size, 1, none⟩ = some (.slice sa N scap)) := Lib.hid (fun q => by rw [← hW1]; simp)
  have c2 : Hid (∀ q, (W1.drewN q).cell? ⟨W.heap.size, 2, none⟩ = some (.int .i64 num)) := Lib.hid (fun q => by rw [← hW1]; simp)
  have c3 : Hid (∀ q, (W1.drewN q).cell? ⟨W.heap.size, 3, none⟩ = some (.string nm)) := Lib.hid (fun q => by rw [← hW1]; simp)
  have c4 : Hid (∀ q, (W1.drewN q).cell? ⟨W.heap.size, 4, none⟩ = some (.int .i64 mn)) := Lib.hid (fun q => by rw [← hW1]; simp)
  have c5 : Hid (∀ q, (W1.drewN q).cell? ⟨W.heap.size, 5, none⟩ = some (.int .i64 mx)) := Lib.hid (fun q => by rw [← hW1]; simp)
  have c6 : Hid (∀ q, (W1.drewN q).cell? ⟨W.heap.size, 6, none⟩ = some (.bool lz)) := Lib.hid (fun q => by rw [← hW1]; simp)
  have c7 : Hid (∀ q, (W1.drewN q).cell? ⟨W.heap.size, 7, none⟩ = some (.slice a L cap)) := Lib.hid (fun q => by rw [← hW1]; simp)
  have hbs : W.heap.size < W1.heap.size := by rw [← hW1]; simp
  have HBS := Lib.hid hbs
  clear hW1 hbs
  by_cases k0 : mn = 0
  · subst k0
    obtain ⟨T, hT⟩ : ∃ T, (mx == 0) = T := ⟨_, rfl⟩
    have HT := Lib.hid hT
    rw [show ((0 : Int) == 0 && mx == 0) = T from by rw [hT]; rfl] at HR
    clear hT
    go_enter Try.func29, Try.ntmps29
    go_wp2
    go_quiet (fail)
    rw [HS.out, HU.out, HM.out, HZ.out]
    rw [HT.out]
    rw [HW1.out]
    have HX := Lib.hid (below_drewNr B1.out nq)
    replace c0 := c0.out nq
    replace c1 := c1.out nq
    replace c2 := c2.out nq
    replace c3 := c3.out nq
    replace c4 := c4.out nq
    replace c5 := c5.out nq
    replace c6 := c6.out nq
    replace c7 := c7.out nq
    obtain ⟨W2, hW2⟩ : ∃ W2, W1.drewN nq = W2 := ⟨_, rfl⟩
    have hb2 : W.heap.size < W2.heap.size := by rw [← hW2]; simpa using HBS.out
    rw [hW2] at c0 c1 c2 c3 c4 c5 c6 c7 HX ⊢
    clear hW2
    by_cases k1 : K = 1
    · subst k1
      cases S
      · go_wp2
        go_ret
        exact ⟨by rw [← HR.out]; simp [Td.fitsV, *] <;> (intros; omega), HX.out⟩
      · cases U
        · go_wp2
          go_ret
          exact ⟨by rw [← HR.out]; simp [Td.fitsV, *] <;> (intros; omega), HX.out⟩
        · cases M
          · go_wp2
            go_ret
            exact ⟨by rw [← HR.out]; simp [Td.fitsV, *] <;> (intros; omega), HX.out⟩
          · cases T
            · go_wp2
              go_ret
              exact ⟨by rw [← HR.out]; simp [Td.fitsV, *] <;> (intros; omega), HX.out⟩
            · cases Z
              · go_wp2
                go_ret
                exact ⟨by rw [← HR.out]; simp [Td.fitsV, *] <;> (intros; omega), HX.out⟩
              · go_wp2
                go_ret
                exact ⟨by rw [← HR.out]; simp [Td.fitsV, *] <;> (intros; omega), HX.out⟩
    by_cases k2 : K = 2
    · subst k2
      cases S
      · go_wp2
        go_ret
        exact ⟨by rw [← HR.out]; simp [Td.fitsV, *] <;> (intros; omega), HX.out⟩
      · cases U
        · go_wp2
          go_ret
          exact ⟨by rw [← HR.out]; simp [Td.fitsV, *] <;> (intros; omega), HX.out⟩
        · cases M
          · go_wp2
            go_ret
            exact ⟨by rw [← HR.out]; simp [Td.fitsV, *] <;> (intros; omega), HX.out⟩
          · cases T
            · go_wp2
              go_ret
              exact ⟨by rw [← HR.out]; simp [Td.fitsV, *] <;> (intros; omega), HX.out⟩
            · cases Z
              · go_wp2
                go_ret
                exact ⟨by rw [← HR.out]; simp [Td.fitsV, *] <;> (intros; omega), HX.out⟩
              · go_wp2
                go_ret
                exact ⟨by rw [← HR.out]; simp [Td.fitsV, *] <;> (intros; omega), HX.out⟩
    by_cases k4 : K = 4
    · subst k4
      cases S
      · go_wp2
        go_ret
        exact ⟨by rw [← HR.out]; simp [Td.fitsV, *] <;> (intros; omega), HX.out⟩
      · cases U
        · go_wp2
          go_ret
          exact ⟨by rw [← HR.out]; simp [Td.fitsV, *] <;> (intros; omega), HX.out⟩
        · cases M
          · go_wp2
            go_ret
            exact ⟨by rw [← HR.out]; simp [Td.fitsV, *] <;> (intros; omega), HX.out⟩
          · cases T
            · go_wp2
              go_ret
              exact ⟨by rw [← HR.out]; simp [Td.fitsV, *] <;> (intros; omega), HX.out⟩
            · cases Z
              · go_wp2
                go_ret
                exact ⟨by rw [← HR.out]; simp [Td.fitsV, *] <;> (intros; omega), HX.out⟩
              · go_wp2
                go_ret
                exact ⟨by rw [← HR.out]; simp [Td.fitsV, *] <;> (intros; omega), HX.out⟩
    by_cases k3 : K = 3
    · subst k3
      cases S
      · go_wp2_with fail
        refine (refCheck_any _ _ _ (HC.out.below (Nat.le_refl _) HX.out)).mono ?_
        rintro e w' ⟨rfl, d, rfl⟩
        rw [HCK.out]
        replace HX := Lib.hid (below_drewNr HX.out d)
        by_cases hck : CK = 0
        · cases U
          · go_wp2
            go_ret
            exact ⟨by rw [← HR.out]; simp [Td.fitsV, *] <;> (intros; omega), HX.out⟩
          · cases M
            · go_wp2
              go_ret
              exact ⟨by rw [← HR.out]; simp [Td.fitsV, *] <;> (intros; omega), HX.out⟩
            · cases T
              · go_wp2
                go_ret
                exact ⟨by rw [← HR.out]; simp [Td.fitsV, *] <;> (intros; omega), HX.out⟩
              · cases Z
                · go_wp2
                  go_ret
                  exact ⟨by rw [← HR.out]; simp [Td.fitsV, *] <;> (intros; omega), HX.out⟩
                · go_wp2
                  go_ret
                  exact ⟨by rw [← HR.out]; simp [Td.fitsV, *] <;> (intros; omega), HX.out⟩
        · go_wp2
          go_ret
          exact ⟨by rw [← HR.out]; simp [Td.fitsV, *] <;> (intros; omega), HX.out⟩
      · go_wp2
        go_ret
        exact ⟨by rw [← HR.out]; simp [Td.fitsV, *] <;> (intros; omega), HX.out⟩
    by_cases k5 : K = 5
    · subst k5
      cases S
      · go_wp2
        go_ret
        exact ⟨by rw [← HR.out]; simp [Td.fitsV, *] <;> (intros; omega), HX.out⟩
      · by_cases n1 : (1 : Int) ≤ num
        · by_cases n6 : num ≤ 6
          · cases M
            · go_wp2
              go_ret
              exact ⟨by rw [← HR.out]; simp [Td.fitsV, *] <;> (intros; omega), HX.out⟩
            · cases T
              · go_wp2
                go_ret
                exact ⟨by rw [← HR.out]; simp [Td.fitsV, *] <;> (intros; omega), HX.out⟩
              · cases Z
                · go_wp2
                  go_ret
                  exact ⟨by rw [← HR.out]; simp [Td.fitsV, *] <;> (intros; omega), HX.out⟩
                · go_wp2
                  go_ret
                  exact ⟨by rw [← HR.out]; simp [Td.fitsV, *] <;> (intros; omega), HX.out⟩
          · go_wp2
            go_ret
            exact ⟨by rw [← HR.out]; simp [Td.fitsV, *] <;> (intros; omega), HX.out⟩
        · go_wp2
          go_ret
          exact ⟨by rw [← HR.out]; simp [Td.fitsV, *] <;> (intros; omega), HX.out⟩
    by_cases k6 : K = 6
    · subst k6
      cases S
      · go_wp2
        go_ret
        exact ⟨by rw [← HR.out]; simp [Td.fitsV, *] <;> (intros; omega), HX.out⟩
      · by_cases n1 : (1 : Int) ≤ num
        · cases M
          · go_wp2_with fail
            refine (refName_any _ _ hnm).mono ?_
            rintro e w' ⟨rfl, rfl⟩
            rw [HNB.out]
            cases NB
            · go_wp2
              go_ret
              exact ⟨by rw [← HR.out]; simp [Td.fitsV, *] <;> (intros; omega), HX.out⟩
            · cases T
              · go_wp2
                go_ret
                exact ⟨by rw [← HR.out]; simp [Td.fitsV, *] <;> (intros; omega), HX.out⟩
              · cases Z
                · go_wp2
                  go_ret
                  exact ⟨by rw [← HR.out]; simp [Td.fitsV, *] <;> (intros; omega), HX.out⟩
                · go_wp2
                  go_ret
                  exact ⟨by rw [← HR.out]; simp [Td.fitsV, *] <;> (intros; omega), HX.out⟩
          · cases T
            · go_wp2
              go_ret
              exact ⟨by rw [← HR.out]; simp [Td.fitsV, *] <;> (intros; omega), HX.out⟩
            · cases Z
              · go_wp2
                go_ret
                exact ⟨by rw [← HR.out]; simp [Td.fitsV, *] <;> (intros; omega), HX.out⟩
              · go_wp2
                go_ret
                exact ⟨by rw [← HR.out]; simp [Td.fitsV, *] <;> (intros; omega), HX.out⟩
        · go_wp2
          go_ret
          exact ⟨by rw [← HR.out]; simp [Td.fitsV, *] <;> (intros; omega), HX.out⟩
    by_cases k7 : K = 7
    · subst k7
      cases S
      · go_wp2
        go_ret
        exact ⟨by rw [← HR.out]; simp [Td.fitsV, *] <;> (intros; omega), HX.out⟩
      · cases U
        · go_wp2
          go_ret
          exact ⟨by rw [← HR.out]; simp [Td.fitsV, *] <;> (intros; omega), HX.out⟩
        · cases M
          · go_wp2
            go_ret
            exact ⟨by rw [← HR.out]; simp [Td.fitsV, *] <;> (intros; omega), HX.out⟩
          · cases T
            · go_wp2
              go_ret
              exact ⟨by rw [← HR.out]; simp [Td.fitsV, *] <;> (intros; omega), HX.out⟩
            · cases Z
              · go_wp2
                go_ret
                exact ⟨by rw [← HR.out]; simp [Td.fitsV, *] <;> (intros; omega), HX.out⟩
              · go_wp2
                go_ret
                exact ⟨by rw [← HR.out]; simp [Td.fitsV, *] <;> (intros; omega), HX.out⟩
    by_cases k8 : K = 8
    · subst k8
      cases S
      · go_wp2
        go_ret
        exact ⟨by rw [← HR.out]; simp [Td.fitsV, *] <;> (intros; omega), HX.out⟩
      · cases U
        · go_wp2
          go_ret
          exact ⟨by rw [← HR.out]; simp [Td.fitsV, *] <;> (intros; omega), HX.out⟩
        · cases M
          · go_wp2
            go_ret
            exact ⟨by rw [← HR.out]; simp [Td.fitsV, *] <;> (intros; omega), HX.out⟩
          · cases T
            · go_wp2
              go_ret
              exact ⟨by rw [← HR.out]; simp [Td.fitsV, *] <;> (intros; omega), HX.out⟩
            · cases Z
              · go_wp2
                go_ret
                exact ⟨by rw [← HR.out]; simp [Td.fitsV, *] <;> (intros; omega), HX.out⟩
              · go_wp2
                go_ret
                exact ⟨by rw [← HR.out]; simp [Td.fitsV, *] <;> (intros; omega), HX.out⟩
    by_cases k9 : K = 9
    · subst k9
      cases S
      · go_wp2
        go_ret
        exact ⟨by rw [← HR.out]; simp [Td.fitsV, *] <;> (intros; omega), HX.out⟩
      · cases U
        · go_wp2
          go_ret
          exact ⟨by rw [← HR.out]; simp [Td.fitsV, *] <;> (intros; omega), HX.out⟩
        · cases M
          · go_wp2
            go_ret
            exact ⟨by rw [← HR.out]; simp [Td.fitsV, *] <;> (intros; omega), HX.out⟩
          · by_cases xx : mx = -1
            · go_wp2
              go_ret
              exact ⟨by rw [← HR.out]; simp [Td.fitsV, *] <;> (intros; omega), HX.out⟩
            · by_cases x1 : (0 : Int) ≤ mx
              · by_cases x2 : mx ≤ 1000
                · go_wp2
                  go_ret
                  exact ⟨by rw [← HR.out]; simp [Td.fitsV, *] <;> (intros; omega), HX.out⟩
                · go_wp2
                  go_ret
                  exact ⟨by rw [← HR.out]; simp [Td.fitsV, *] <;> (intros; omega), HX.out⟩
              · go_wp2
                go_ret
                exact ⟨by rw [← HR.out]; simp [Td.fitsV, *] <;> (intros; omega), HX.out⟩
    go_wp2
    go_ret
    exact ⟨by rw [← HR.out]; simp [Td.fitsV, *] <;> (intros; omega), HX.out⟩
  · have hT : (mn == 0 && mx == 0) = false := by simp [k0]
    rw [hT] at HR
    clear hT
    go_enter Try.func29, Try.ntmps29
    go_wp2
    go_quiet (fail)
    rw [HS.out, HU.out, HM.out, HZ.out]
    rw [HW1.out]
    have HX := Lib.hid (below_drewNr B1.out nq)
    replace c0 := c0.out nq
    replace c1 := c1.out nq
    replace c2 := c2.out nq
    replace c3 := c3.out nq
    replace c4 := c4.out nq
    replace c5 := c5.out nq
    replace c6 := c6.out nq
    replace c7 := c7.out nq
    obtain ⟨W2, hW2⟩ : ∃ W2, W1.drewN nq = W2 := ⟨_, rfl⟩
    have hb2 : W.heap.size < W2.heap.size := by rw [← hW2]; simpa using HBS.out
    rw [hW2] at c0 c1 c2 c3 c4 c5 c6 c7 HX ⊢
    clear hW2
    by_cases k1 : K = 1
    · subst k1
      cases S
      · go_wp2
        go_ret
        exact ⟨by rw [← HR.out]; simp [Td.fitsV, *] <;> (intros; omega), HX.out⟩
      · cases U
        · go_wp2
          go_ret
          exact ⟨by rw [← HR.out]; simp [Td.fitsV, *] <;> (intros; omega), HX.out⟩
        · cases M
          · go_wp2
            go_ret
            exact ⟨by rw [← HR.out]; simp [Td.fitsV, *] <;> (intros; omega), HX.out⟩
          · go_wp2
            go_ret
            exact ⟨by rw [← HR.out]; simp [Td.fitsV, *] <;> (intros; omega), HX.out⟩
    by_cases k2 : K = 2
    · subst k2
      cases S
      · go_wp2
        go_ret
        exact ⟨by rw [← HR.out]; simp [Td.fitsV, *] <;> (intros; omega), HX.out⟩
      · cases U
        · go_wp2
          go_ret
          exact ⟨by rw [← HR.out]; simp [Td.fitsV, *] <;> (intros; omega), HX.out⟩
        · cases M
          · go_wp2
            go_ret
            exact ⟨by rw [← HR.out]; simp [Td.fitsV, *] <;> (intros; omega), HX.out⟩
          · go_wp2
            go_ret
            exact ⟨by rw [← HR.out]; simp [Td.fitsV, *] <;> (intros; omega), HX.out⟩
    by_cases k4 : K = 4
    · subst k4
      cases S
      · go_wp2
        go_ret
        exact ⟨by rw [← HR.out]; simp [Td.fitsV, *] <;> (intros; omega), HX.out⟩
      · cases U
        · go_wp2
          go_ret
          exact ⟨by rw [← HR.out]; simp [Td.fitsV, *] <;> (intros; omega), HX.out⟩
        · cases M
          · go_wp2
            go_ret
            exact ⟨by rw [← HR.out]; simp [Td.fitsV, *] <;> (intros; omega), HX.out⟩
          · go_wp2
            go_ret
            exact ⟨by rw [← HR.out]; simp [Td.fitsV, *] <;> (intros; omega), HX.out⟩
    by_cases k3 : K = 3
    · subst k3
      cases S
      · go_wp2_with fail
        refine (refCheck_any _ _ _ (HC.out.below (Nat.le_refl _) HX.out)).mono ?_
        rintro e w' ⟨rfl, d, rfl⟩
        rw [HCK.out]
        replace HX := Lib.hid (below_drewNr HX.out d)
        by_cases hck : CK = 0
        · cases U
          · go_wp2
            go_ret
            exact ⟨by rw [← HR.out]; simp [Td.fitsV, *] <;> (intros; omega), HX.out⟩
          · cases M
            · go_wp2
              go_ret
              exact ⟨by rw [← HR.out]; simp [Td.fitsV, *] <;> (intros; omega), HX.out⟩
            · go_wp2
              go_ret
              exact ⟨by rw [← HR.out]; simp [Td.fitsV, *] <;> (intros; omega), HX.out⟩
        · go_wp2
          go_ret
          exact ⟨by rw [← HR.out]; simp [Td.fitsV, *] <;> (intros; omega), HX.out⟩
      · go_wp2
        go_ret
        exact ⟨by rw [← HR.out]; simp [Td.fitsV, *] <;> (intros; omega), HX.out⟩
    by_cases k5 : K = 5
    · subst k5
      cases S
      · go_wp2
        go_ret
        exact ⟨by rw [← HR.out]; simp [Td.fitsV, *] <;> (intros; omega), HX.out⟩
      · by_cases n1 : (1 : Int) ≤ num
        · by_cases n6 : num ≤ 6
          · cases M
            · go_wp2
              go_ret
              exact ⟨by rw [← HR.out]; simp [Td.fitsV, *] <;> (intros; omega), HX.out⟩
            · go_wp2
              go_ret
              exact ⟨by rw [← HR.out]; simp [Td.fitsV, *] <;> (intros; omega), HX.out⟩
          · go_wp2
            go_ret
            exact ⟨by rw [← HR.out]; simp [Td.fitsV, *] <;> (intros; omega), HX.out⟩
        · go_wp2
          go_ret
          exact ⟨by rw [← HR.out]; simp [Td.fitsV, *] <;> (intros; omega), HX.out⟩
    by_cases k6 : K = 6
    · subst k6
      cases S
      · go_wp2
        go_ret
        exact ⟨by rw [← HR.out]; simp [Td.fitsV, *] <;> (intros; omega), HX.out⟩
      · by_cases n1 : (1 : Int) ≤ num
        · cases M
          · go_wp2_with fail
            refine (refName_any _ _ hnm).mono ?_
            rintro e w' ⟨rfl, rfl⟩
            rw [HNB.out]
            cases NB
            · go_wp2
              go_ret
              exact ⟨by rw [← HR.out]; simp [Td.fitsV, *] <;> (intros; omega), HX.out⟩
            · go_wp2
              go_ret
              exact ⟨by rw [← HR.out]; simp [Td.fitsV, *] <;> (intros; omega), HX.out⟩
          · go_wp2
            go_ret
            exact ⟨by rw [← HR.out]; simp [Td.fitsV, *] <;> (intros; omega), HX.out⟩
        · go_wp2
          go_ret
          exact ⟨by rw [← HR.out]; simp [Td.fitsV, *] <;> (intros; omega), HX.out⟩
    by_cases k7 : K = 7
    · subst k7
      cases S
      · go_wp2
        go_ret
        exact ⟨by rw [← HR.out]; simp [Td.fitsV, *] <;> (intros; omega), HX.out⟩
      · cases U
        · go_wp2
          go_ret
          exact ⟨by rw [← HR.out]; simp [Td.fitsV, *] <;> (intros; omega), HX.out⟩
        · cases M
          · go_wp2
            go_ret
            exact ⟨by rw [← HR.out]; simp [Td.fitsV, *] <;> (intros; omega), HX.out⟩
          · go_wp2
            go_ret
            exact ⟨by rw [← HR.out]; simp [Td.fitsV, *] <;> (intros; omega), HX.out⟩
    by_cases k8 : K = 8
    · subst k8
      cases S
      · go_wp2
        go_ret
        exact ⟨by rw [← HR.out]; simp [Td.fitsV, *] <;> (intros; omega), HX.out⟩
      · cases U
        · go_wp2
          go_ret
          exact ⟨by rw [← HR.out]; simp [Td.fitsV, *] <;> (intros; omega), HX.out⟩
        · cases M
          · go_wp2
            go_ret
            exact ⟨by rw [← HR.out]; simp [Td.fitsV, *] <;> (intros; omega), HX.out⟩
          · go_wp2
            go_ret
            exact ⟨by rw [← HR.out]; simp [Td.fitsV, *] <;> (intros; omega), HX.out⟩
    by_cases k9 : K = 9
    · subst k9
      cases S
      · go_wp2
        go_ret
        exact ⟨by rw [← HR.out]; simp [Td.fitsV, *] <;> (intros; omega), HX.out⟩
      · cases U
        · go_wp2
          go_ret
          exact ⟨by rw [← HR.out]; simp [Td.fitsV, *] <;> (intros; omega), HX.out⟩
        · cases M
          · go_wp2
            go_ret
            exact ⟨by rw [← HR.out]; simp [Td.fitsV, *] <;> (intros; omega), HX.out⟩
          · by_cases m0 : (0 : Int) ≤ mn
            · by_cases m1 : mn ≤ 1000
              · by_cases xx : mx = -1
                · go_wp2
                  go_ret
                  exact ⟨by rw [← HR.out]; simp [Td.fitsV, *] <;> (intros; omega), HX.out⟩
                · by_cases x1 : mn ≤ mx
                  · by_cases x2 : mx ≤ 1000
                    · go_wp2
                      go_ret
                      exact ⟨by rw [← HR.out]; simp [Td.fitsV, *] <;> (intros; omega), HX.out⟩
                    · go_wp2
                      go_ret
                      exact ⟨by rw [← HR.out]; simp [Td.fitsV, *] <;> (intros; omega), HX.out⟩
                  · go_wp2
                    go_ret
                    exact ⟨by rw [← HR.out]; simp [Td.fitsV, *] <;> (intros; omega), HX.out⟩
              · go_wp2
                go_ret
                exact ⟨by rw [← HR.out]; simp [Td.fitsV, *] <;> (intros; omega), HX.out⟩
            · go_wp2
              go_ret
              exact ⟨by rw [← HR.out]; simp [Td.fitsV, *] <;> (intros; omega), HX.out⟩
    go_wp2
    go_ret
    exact ⟨by rw [← HR.out]; simp [Td.fitsV, *] <;> (intros; omega), HX.out⟩
end Go.Proofs.Ythhdlcckboiecaa
