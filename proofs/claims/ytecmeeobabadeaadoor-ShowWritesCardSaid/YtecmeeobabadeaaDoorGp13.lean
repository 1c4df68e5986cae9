/- The reference's tree (burinref06): Depth. · The contract of the reference's Check (burinref02). -/
import Derived.Test.YtecmeeobabadeaaDoorGp2
import Derived.IntWalk
import Derived.Test.YtecmeeobabadeaaDoorGp1
import Derived.Test.YtecmeeobabadeaaDoorGp3
namespace Go.Proofs.YtecmeeobabadeaaDoor
open Go.RowKit
set_option linter.unusedVariables false
def DepOk (k : Nat) : Prop := ∀ (W : World) (n : Nd) (cs : List Value), NdIs W n cs → Calls Tryd.prog 19 #[.agg cs.toArray, .int .i64 (k : Int)] W fun e w' => e = .returned (.int .i64 (Td.dep k n : Nat)) ∧ Below W.heap.size W w'
set_option maxRecDepth 100000 in
set_option maxHeartbeats 4000000 in
theorem dep_step (k M : Nat) (hM : M = k + 1) (hk : k ≤ 100000) (ih : DepOk k) : DepOk M := by
  intro W n cs h
  have hM1 : (M : Int) - 1 = (k : Int) := by omega
  have HM0 := Lib.hid hM
  have HN := Lib.hid h
  obtain ⟨vs, a, cap, C, hC⟩ := h.cells
  obtain ⟨N, hN⟩ : ∃ N, (Td.subs n).length = N := ⟨_, rfl⟩
  have hcs := hC.eq
  have hlen := hC.len
  rw [hN] at hcs hlen
  subst hcs
  have HC := Lib.hid hC
  have HNN := Lib.hid hN
  obtain ⟨D, hD⟩ : ∃ D : Nat, Td.dep M n = D := ⟨_, rfl⟩
  have HD := Lib.hid hD
  rw [hD]
  have IH := Lib.hid ih
  clear h hC hN hD ih hM
  have D1 := Lib.hid (Td.dep_le M n)
  obtain ⟨W1, hW1⟩ : ∃ W1, W.alloc (.cells #[.int .i64 (Td.kind n), vs, .int .i64 (Td.num n), .string (Td.name n), .int .i64 (Td.mn n), .int .i64 (Td.mx n), .bool (Td.lazy n), .slice a N cap] 25) = W1 := ⟨_, rfl⟩
  have B1 := Lib.hid (hW1 ▸ (Below.refl W.heap.size W).alloc (Nat.le_refl _) (.cells #[.int .i64 (Td.kind n), vs, .int .i64 (Td.num n), .string (Td.name n), .int .i64 (Td.mn n), .int .i64 (Td.mx n), .bool (Td.lazy n), .slice a N cap] 25) : Below W.heap.size W W1)
  have hbx : W1.cell? ⟨W.heap.size, 7, none⟩ = some (.slice a N cap) := by rw [← hW1]; simp
  have hsz1 : W1.heap.size = W.heap.size + 1 := by rw [← hW1]; simp
  have HBX := Lib.hid hbx
  have HSZ := Lib.hid hsz1
  have HW1 := Lib.hid hW1
  clear hbx hsz1 hW1
  go_enter Tryd.func19, Tryd.ntmps19
  go_wp2
  · have h1 : D = 1 := by
      have := D1.out
      rw [HD.out] at this
      have h2 := HD.out
      rw [HM0.out, Td.dep] at h2
      omega
    have hk0 : M = 1 := by omega
    rw [HW1.out]
    go_ret
    exact ⟨by rw [h1, hk0]; rfl, B1.out⟩
  · go_loopw [5, 6] (fun dv iv wr => ∃ i d : Nat, i ≤ N ∧ dv = .int .i64 (d : Int) ∧ iv = .int .i64 (i : Int) ∧ d ≤ k ∧ Hid (d = (((Td.subs n).map (Td.dep k)).take i).foldl max 0) ∧ Hid (Below W1.heap.size W1 wr)) (fun _ iv _ => N - (intOf iv).toNat)
    case atStart => exact ⟨0, 0, Nat.zero_le _, rfl, rfl, Nat.zero_le _, Lib.hid (by simp), Lib.hid (by rw [← HW1.out]; exact Below.refl _ _)⟩
    case round =>
      obtain ⟨i, d, hi, rfl, rfl, hd, HD2, HB⟩ := hrel
      have hbx : wr.cell? ⟨W.heap.size, 7, none⟩ = some (.slice a N cap) := (HB.out.cell (p := ⟨W.heap.size, 7, none⟩) (by rw [HSZ.out]; simp)).trans HBX.out
      have hbs : W.heap.size < wr.heap.size := by have := HB.out.size; rw [HSZ.out] at this; omega
      by_cases hlt : i < N
      · obtain ⟨b, off, m, u0, u1, u2, u3, u4, u5, u6, u7, rfl, hb, hm, hnd, q0, q1, q2, q3, q4, q5, q6, q7⟩ := HC.out.sub i (by rw [HNN.out]; exact hlt)
        have hbw : Below W.heap.size W wr := B1.out.trans (HB.out.mono B1.out.size)
        have kc : ∀ o v, W.cell? ⟨b, o, none⟩ = some v → wr.cell? ⟨b, o, none⟩ = some v := fun o v h => (hbw.cell (p := ⟨b, o, none⟩) hb).trans h
        replace q0 := kc _ _ q0; replace q1 := kc _ _ q1; replace q2 := kc _ _ q2; replace q3 := kc _ _ q3
        replace q4 := kc _ _ q4; replace q5 := kc _ _ q5; replace q6 := kc _ _ q6; replace q7 := kc _ _ q7
        have hbl : b < wr.heap.size := Nat.lt_of_lt_of_le hb hbw.size
        have HND := Lib.hid (hnd.kept hbw)
        have HM := Lib.hid hm
        have HBW := Lib.hid hbw
        clear kc hm hnd hbw
        go_wp2_with fail
        refine (IH.out _ _ _ HND.out).mono ?_
        rintro e w5 ⟨rfl, hb5⟩
        obtain ⟨x, hx⟩ : ∃ x : Nat, Td.dep k m = x := ⟨_, rfl⟩
        have hxk : x ≤ k := by rw [← hx]; exact Td.dep_le k m
        have HB5 := Lib.hid (HB.out.trans (hb5.mono HB.out.size))
        have hMX : Hid (max d x = (((Td.subs n).map (Td.dep k)).take (i + 1)).foldl max 0) := Lib.hid (by
          have hi' : i < ((Td.subs n).map (Td.dep k)).length := by rw [List.length_map, HNN.out]; exact hlt
          rw [Td.foldl_max_succ _ _ hi', ← HD2.out]
          have e1 : ((Td.subs n).map (Td.dep k))[i] = x := by
            rw [List.getElem_map]
            have h2 := HM.out
            rw [List.getElem?_eq_getElem (by rw [HNN.out]; exact hlt)] at h2
            rw [Option.some.inj h2, hx]
          rw [e1])
        rw [hx]
        clear hb5 hx HD2
        by_cases hgt : d < x
        · rw [Nat.max_eq_right (by omega)] at hMX
          go_wp2
          go_roundw
          case rel => exact ⟨i + 1, x, by omega, rfl, by go_num, hxk, hMX, HB5⟩
          case measure => simp [intOf]; omega
        · rw [Nat.max_eq_left (by omega)] at hMX
          go_wp2
          go_roundw
          case rel => exact ⟨i + 1, d, by omega, rfl, by go_num, hd, hMX, HB5⟩
          case measure => simp [intOf]; omega
      · obtain rfl : i = N := by omega
        have hE : Hid (D = d + 1) := Lib.hid (by
          rw [← HD.out, HM0.out, HD2.out, Td.dep, List.take_of_length_le (by rw [List.length_map, HNN.out]; exact Nat.le_refl _)])
        go_wp2
        go_ret
        exact ⟨by rw [hE.out]; rfl, B1.out.trans (HB.out.mono B1.out.size)⟩
theorem refDepth_any : ∀ k : Nat, k ≤ 100000 → DepOk k
  | 0, _ => by
    intro W n cs h
    obtain ⟨vs, a, cap, C, hC⟩ := h.cells
    have hcs := hC.eq
    subst hcs
    clear hC h
    go_enter Tryd.func19, Tryd.ntmps19
    go_wp2
    go_ret
    exact ⟨rfl, (Below.refl _ _).alloc (Nat.le_refl _) _⟩
  | k + 1, h => dep_step k _ rfl (by omega) (refDepth_any k (by omega))
end Go.Proofs.YtecmeeobabadeaaDoor
namespace Go.Proofs.YtecmeeobabadeaaDoor
open Go.RowKit
set_option linter.unusedVariables false
set_option maxRecDepth 100000 in
set_option maxHeartbeats 2000000 in
theorem refCheck_walk (W : World) (a : Option Addr) (n cap : Nat) (l : List (Int × Int)) (hn : l.length = n) (hn2 : n ≤ 8796093022208)
    (hc : ∀ j, j < n → ∃ b off, a = some ⟨b, off, none⟩ ∧ b < W.heap.size ∧ W.cell? ⟨b, off + j * 2, none⟩ = some (.int .i64 (l[j]?.getD (0, 0)).1) ∧ W.cell? ⟨b, off + j * 2 + 1, none⟩ = some (.int .i64 (l[j]?.getD (0, 0)).2)) :
    Calls Tryd.prog 41 #[.slice a n cap] W fun e w' => e = .returned (.int .i64 (Rg.checkF none l)) ∧ ∃ d, w' = W.drewN d := by
  have HN := Lib.hid hn
  have HC := Lib.hid hc
  clear hn hc
  go_enter Tryd.func41, Tryd.ntmps41
  go_wp2
  go_loopw [2, 3] (fun R i wr => ∃ k : Nat, k ≤ n ∧ i = .int .i64 k ∧ Hid (Rg.checkF none l = Rg.checkF (Rg.prevAt l k) (l.drop k)) ∧ ∃ d, wr = W.drewN d) (fun _ i _ => n - (intOf i).toNat)
  case atStart => exact ⟨0, Nat.zero_le _, rfl, Lib.hid rfl, 0, rfl⟩
  case round =>
    obtain ⟨k, hk, rfl, HF, d, rfl⟩ := hrel
    by_cases hlt : k < n
    · have HS := Lib.hid (Rg.checkF_step l k (by rw [HN.out]; exact hlt))
      obtain ⟨b, off, rfl, hb, hc1, hc2⟩ := HC.out k hlt
      obtain ⟨p, hp⟩ : ∃ p, l[k]?.getD (0, 0) = p := ⟨_, rfl⟩
      rw [hp] at hc1 hc2
      rw [hp] at HS
      clear hp
      obtain ⟨p1, p2⟩ := p
      dsimp only at hc1 hc2
      by_cases a1 : p1 < 0 ∨ p2 < 0 ∨ p1 > 1114111 ∨ p2 > 1114111
      · have HE : Hid (Rg.checkF none l = 1) := Lib.hid (by rw [HF.out, HS.out, show Rg.check1 (Rg.prevAt l k) (p1, p2) = 1 from if_pos a1, if_neg (by decide)])
        go_wp2
        all_goals first
          | (go_ret; exact ⟨by rw [HE.out]; rfl, _, rfl⟩)
          | (exfalso; omega)
      · obtain ⟨q1, q2, q3, q4⟩ : 0 ≤ p1 ∧ 0 ≤ p2 ∧ p1 ≤ 1114111 ∧ p2 ≤ 1114111 := by omega
        by_cases a2 : p1 > p2
        · have HE : Hid (Rg.checkF none l = 4) := Lib.hid (by rw [HF.out, HS.out, show Rg.check1 (Rg.prevAt l k) (p1, p2) = 4 from (if_neg a1).trans (if_pos (.inl a2)), if_neg (by decide)])
          clear a1
          go_wp2
          go_quiet (fail)
          go_wp2
          go_ret
          exact ⟨by rw [HE.out]; rfl, _, by first | rfl | exact World.drewN_drewN _ _ _⟩
        · by_cases hkp : 0 < k; rotate_left
          · have hz : Rg.check1 (Rg.prevAt l k) (p1, p2) = 0 := (if_neg a1).trans (if_neg (by rintro (h | ⟨h, h1, h2⟩); exact a2 h; exact absurd h1 (by simp [Rg.prevAt, show k = 0 by omega])))
            have HE : Hid (Rg.checkF none l = Rg.checkF (Rg.prevAt l (k + 1)) (l.drop (k + 1))) := Lib.hid (by rw [HF.out, HS.out, hz, if_pos rfl])
            clear a1 hz
            go_wp2
            have a2' : ¬ p2 < p1 := by omega
            have hkz : ¬ (0 : Int) < (k : Int) := by omega
            go_quiet (fail)
            go_wp2
            go_round
            case rel => exact ⟨k + 1, by omega, by go_num, HE, _, rfl⟩
            case measure => simp [intOf]; omega
          · obtain ⟨j, rfl⟩ : ∃ j, k = j + 1 := ⟨k - 1, by omega⟩
            obtain ⟨b', off', hbb, _, _, hc4⟩ := HC.out j (by omega)
            injection hbb with hbb; injection hbb with hb1 hb2; subst hb1; subst hb2
            obtain ⟨h, hh⟩ : ∃ h, (l[j]?.getD (0, 0)).2 = h := ⟨_, rfl⟩
            have hprev : Rg.prevAt l (j + 1) = some h := by simp only [Rg.prevAt, Nat.add_one_ne_zero, if_false, Nat.add_sub_cancel]; rw [hh]
            rw [hh] at hc4
            rw [hprev] at HS
            clear hh
            by_cases a3 : p1 - 1 ≤ h
            · have HE : Hid (Rg.checkF none l = 4) := Lib.hid (by rw [HF.out, hprev, HS.out, show Rg.check1 (some h) (p1, p2) = 4 from (if_neg a1).trans (if_pos (.inr ⟨h, rfl, a3⟩)), if_neg (by decide)])
              clear a1 hprev
              go_wp2
              have a2' : ¬ p2 < p1 := by omega
              have hkz : (0 : Int) < ((j + 1 : Nat) : Int) := by omega
              go_quiet (fail)
              go_wp2
              go_ret
              exact ⟨by rw [HE.out]; rfl, _, by first | rfl | exact World.drewN_drewN _ _ _⟩
            · have hz : Rg.check1 (some h) (p1, p2) = 0 := (if_neg a1).trans (if_neg (by rintro (h | ⟨h, h1, h2⟩); exact a2 h; injection h1 with h1; subst h1; exact a3 h2))
              have HE : Hid (Rg.checkF none l = Rg.checkF (Rg.prevAt l (j + 1 + 1)) (l.drop (j + 1 + 1))) := Lib.hid (by rw [HF.out, hprev, HS.out, hz, if_pos rfl])
              clear a1 hz hprev
              go_wp2
              have a2' : ¬ p2 < p1 := by omega
              have hkz : (0 : Int) < ((j + 1 : Nat) : Int) := by omega
              have a3' : ¬ p1 - 1 ≤ h := by omega
              go_quiet (fail)
              go_wp2
              go_round
              case rel => exact ⟨j + 1 + 1, by omega, by go_num, HE, _, rfl⟩
              case measure => simp [intOf]; omega
    · obtain rfl : k = n := by omega
      have HE : Hid (Rg.checkF none l = 0) := Lib.hid (by rw [HF.out, List.drop_eq_nil_of_le (by rw [HN.out]; exact Nat.le_refl _)]; rfl)
      go_wp2
      go_ret
      exact ⟨by rw [HE.out]; rfl, _, rfl⟩
theorem refCheck_any (W : World) (v : Value) (l : List (Int × Int)) (h : RRow W v l) :
    Calls Tryd.prog 41 #[v] W fun e w' => e = .returned (.int .i64 (Rg.checkF none l)) ∧ ∃ d, w' = W.drewN d := by
  obtain ⟨a, cap, rfl, hl, hw, hc⟩ := h
  exact refCheck_walk W a _ cap l rfl hl hc
end Go.Proofs.YtecmeeobabadeaaDoor
