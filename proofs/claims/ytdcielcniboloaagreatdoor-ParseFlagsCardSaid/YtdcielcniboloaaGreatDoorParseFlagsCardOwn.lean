/- burinlaw09.ParseFlags, walked. -/
import Derived.Test.YtdcielcniboloaaGreatDoorGp39
import Derived.Test.YtdcielcniboloaaGreatDoorGp43
import Derived.Test.YtdcielcniboloaaGreatDoorGp26
namespace Go.Proofs.YtdcielcniboloaaGreatDoor
open Go.RowKit
open Lx (Tk TR LR)
set_option linter.unusedVariables false
def letB (i : Nat) : ByteArray := if i = 0 then ⟨#[105]⟩ else if i = 1 then ⟨#[109]⟩ else if i = 2 then ⟨#[115]⟩ else ⟨#[85]⟩
def bitB (i m d u : Bool) (k : Nat) : Bool := if k = 0 then i else if k = 1 then m else if k = 2 then d else u
def hdB (i m d u : Bool) : Nat → ByteArray
  | 0 => ⟨#[40, 63]⟩
  | k + 1 => if bitB i m d u k = true then hdB i m d u k ++ letB k else hdB i m d u k
theorem letB_size (k : Nat) : (letB k).size = 1 := by unfold letB; (repeat' split) <;> rfl
theorem hdB_four (i m d u : Bool) : hdB i m d u 4 ++ ⟨#[41]⟩ = Ps.headF i m d u := by cases i <;> cases m <;> cases d <;> cases u <;> kernel_rfl
theorem hdB_none : hdB false false false false 4 = ⟨#[40, 63]⟩ := by kernel_rfl
theorem hdB_size (i m d u : Bool) (k : Nat) (hk : k ≤ 4) : (hdB i m d u k).size ≤ 6 := by
  have h : ∀ k, k ≤ 4 → (hdB i m d u k).size ≤ 2 + k := by
    intro k
    induction k with
    | zero => intro _; exact Nat.le_refl _
    | succ k ih =>
      intro hk
      have := ih (by omega)
      rw [hdB]
      split
      · rw [ByteArray.size_append]
        have : (letB k).size = 1 := by unfold letB; (repeat' split) <;> rfl
        omega
      · omega
  have := h k hk
  omega
theorem letB_cell (w : World) (k : Nat) (hk : k < 4) : (w.alloc (.cells #[.string ⟨#[105]⟩, .string ⟨#[109]⟩, .string ⟨#[115]⟩, .string ⟨#[85]⟩] 9)).cell? ⟨w.heap.size, k, none⟩ = some (.string (letB k)) := by
  have h := heap_alloc_new w (.cells #[.string ⟨#[105]⟩, .string ⟨#[109]⟩, .string ⟨#[115]⟩, .string ⟨#[85]⟩] 9)
  rcases (show k = 0 ∨ k = 1 ∨ k = 2 ∨ k = 3 by omega) with rfl | rfl | rfl | rfl
  all_goals (unfold World.cell?; dsimp only; rw [h]; rfl)
set_option maxRecDepth 100000 in
set_option maxHeartbeats 8000000 in
theorem walkParseFlags (W : World) (s : ByteArray) (f : Int) (hs : s.size ≤ 140737488351232) (hfw : (Lit.int .i64 f).wf = true) (hE : Ev W) : Calls Tryz.prog 6 #[.string s, .int .i64 f] W fun e w' => e = .returned (.bool true) ∧ Below W.heap.size W w' := by
  have HE := Lib.hid hE
  clear hE
  by_cases h3 : 200 < s.size
  · have h3i : (200 : Int) < (s.size : Int) := by omega
    go_enter Tryz.func6, Tryz.ntmps6
    go_wp2_with fail
    refine (works9_any _ HE.out).mono ?_
    rintro e w1 ⟨rfl, hb⟩
    have HB := Lib.hid hb
    clear hb
    go_wp2
    go_ret
    exact ⟨rfl, HB.out⟩
  have h3i : ¬ (200 : Int) < (s.size : Int) := by omega
  have hsz : s.size ≤ 200 := by omega
  obtain ⟨i, hi⟩ : ∃ i, Ps.hasP f 1 = i := ⟨_, rfl⟩
  obtain ⟨m, hm⟩ : ∃ m, Ps.hasP f 2 = m := ⟨_, rfl⟩
  obtain ⟨d, hd⟩ : ∃ d, Ps.hasP f 4 = d := ⟨_, rfl⟩
  obtain ⟨u, hu⟩ : ∃ u, Ps.hasP f 8 = u := ⟨_, rfl⟩
  have HBIT : Hid (∀ k : Nat, k < 4 → (bits .and .i64 (f / 2 ^ k) 1 == 1) = bitB i m d u k) := Lib.hid (fun k hk => by
    rcases (show k = 0 ∨ k = 1 ∨ k = 2 ∨ k = 3 by omega) with rfl | rfl | rfl | rfl
    · rw [Ps.flag_bit f 0 (by decide) 1 (by decide)]; exact hi
    · rw [Ps.flag_bit f 1 (by decide) 2 (by decide)]; exact hm
    · rw [Ps.flag_bit f 2 (by decide) 4 (by decide)]; exact hd
    · rw [Ps.flag_bit f 3 (by decide) 8 (by decide)]; exact hu)
  have HP := Lib.hid (fun w (hw : Ev w) => parse_any w s (by omega) f hw)
  have hq := Ps.head_size i m d u
  have HQ := Lib.hid (fun w (hw : Ev w) => parse_any w (Ps.headF i m d u ++ s) (by rw [ByteArray.size_append]; omega) 0 hw)
  have HFAR : Hid ((i || m || d || u) = true → Ps.FarX (Ps.headF i m d u).size (parseF s f) (parseF (Ps.headF i m d u ++ s) 0)) := Lib.hid (fun h => parse_flags s f i m d u hi hm hd hu h)
  have HRX := Lib.hid (parse_right s f (by omega))
  have HF4 := Lib.hid (hdB_four i m d u)
  have HHZ := Lib.hid hq
  have HF0 : Hid ((i || m || d || u) = false → hdB i m d u 4 = ⟨#[40, 63]⟩) := Lib.hid (fun h => by
    cases i <;> cases m <;> cases d <;> cases u <;> first | exact hdB_none | cases h)
  have HF1 : Hid ((i || m || d || u) = true → ¬ hdB i m d u 4 = ⟨#[40, 63]⟩) := Lib.hid (fun h e => by
    have e2 := congrArg ByteArray.size e
    revert e2
    cases i <;> cases m <;> cases d <;> cases u <;> first | decide | cases h)
  have hsz4 := fun k (hk : k ≤ 4) => hdB_size i m d u k hk
  have HSZ4 := Lib.hid hsz4
  have HSZ := Lib.hid hsz
  clear hi hm hd hu hq hsz4 h3 hsz
  go_enter Tryz.func6, Tryz.ntmps6
  go_wp2_with fail
  refine (works9_any _ HE.out).mono ?_
  rintro e w1 ⟨rfl, hb⟩
  have HB := Lib.hid hb
  clear hb
  go_wp2
  obtain ⟨wL, hwL⟩ : ∃ wL, w1.alloc (.cells #[.string ⟨#[105]⟩, .string ⟨#[109]⟩, .string ⟨#[115]⟩, .string ⟨#[85]⟩] 9) = wL := ⟨_, rfl⟩
  have HCL : Hid (∀ k, k < 4 → wL.cell? ⟨w1.heap.size, k, none⟩ = some (.string (letB k))) := Lib.hid (fun k hk => by rw [← hwL]; exact letB_cell w1 k hk)
  have HBL : Hid (Below W.heap.size W wL) := Lib.hid (by rw [← hwL]; exact HB.out.alloc HB.out.size _)
  rw [hwL]
  have HWL := Lib.hid hwL
  clear hwL
  go_loopw [5, 21] (fun hv iv wr => ∃ k : Nat, k ≤ 4 ∧ iv = .int .i64 (k : Int) ∧ hv = .string (hdB i m d u k) ∧ wr = wL) (fun _ iv _ => 4 - (intOf iv).toNat)
  case atStart => exact ⟨0, Nat.zero_le _, rfl, rfl, rfl⟩
  case round =>
    obtain ⟨k, hk', rfl, rfl, rfl⟩ := hrel
    by_cases hlt : k < 4
    · have hlti : (k : Int) < 4 := by omega
      have q0 := HCL.out k hlt
      have hbit := HBIT.out k hlt
      have hw : IntKind.i64.wrap ((k : Int) + 1) = ((k + 1 : Nat) : Int) := by rw [IntKind.wrap_i64]; omega
      have HST : Hid (hdB i m d u (k + 1) = if bitB i m d u k = true then hdB i m d u k ++ letB k else hdB i m d u k) := Lib.hid (by rw [hdB])
      cases hb : bitB i m d u k with
      | true =>
        rw [hb] at hbit HST
        have hz1 := HSZ4.out k hk'
        have hno : ¬ 9223372036854775807 < (hdB i m d u k).size + (letB k).size := by rw [letB_size]; omega
        clear hz1
        go_wp2
        exact ⟨⟨k + 1, by omega, by go_num, by rw [HST.out, if_pos rfl], trivial⟩, by simp [intOf]; omega⟩
      | false =>
        rw [hb] at hbit HST
        go_wp2
        go_roundw
        case rel => exact ⟨k + 1, by omega, by go_num, by rw [HST.out, if_neg (by decide)], trivial⟩
        case measure => simp [intOf]; omega
    · obtain rfl : k = 4 := by omega
      obtain ⟨H, hH⟩ : ∃ H, hdB i m d u 4 = H := ⟨_, rfl⟩
      have hz1 := HSZ4.out 4 (Nat.le_refl _)
      rw [hH] at hz1
      have hf0 := HF0.out
      have hf1 := HF1.out
      have hf4 := HF4.out
      rw [hH] at hf0 hf1 hf4
      cases hB : (i || m || d || u) with
      | false =>
        have h0 := hf0 hB
        clear hf0 hf1 hf4 hB hz1
        rw [hH]
        subst h0
        go_wp2
        go_ret
        exact ⟨rfl, HBL.out⟩
      | true =>
        have h1 := hf1 hB
        have h1b : (H.toList == ([40, 63] : List UInt8)) = false := by
          rw [beq_eq_false_iff_ne]
          intro e
          apply h1
          rw [ByteArray.toList_eq] at e
          cases H with
          | mk d => exact congrArg ByteArray.mk (Array.toList_inj.1 (by simpa using e))
        have HX := Lib.hid (HFAR.out hB)
        have HF := Lib.hid hf4
        have hno : ¬ 9223372036854775807 < H.size + 1 := by omega
        have hno2 : ¬ 9223372036854775807 < (Ps.headF i m d u).size + s.size := by have := HHZ.out; omega
        clear hf0 hf1 hf4 hB hz1
        rw [hH]
        obtain ⟨n, hn⟩ : ∃ n, (Ps.headF i m d u).size = n := ⟨_, rfl⟩
        have hn3 := HHZ.out
        rw [hn] at hn3 HX hno2
        obtain ⟨D, hD⟩ : ∃ D, Ps.headF i m d u = D := ⟨_, rfl⟩
        rw [hD] at hn HF HQ HX
        have HN := Lib.hid hn
        obtain ⟨X, a, c, hX⟩ : ∃ X a c, parseF s f = (X, a, c) := ⟨_, _, _, rfl⟩
        obtain ⟨Y, k, c2, hY⟩ : ∃ X a c, parseF (D ++ s) 0 = (X, a, c) := ⟨_, _, _, rfl⟩
        rw [hX] at HP HX
        rw [hY] at HQ HX
        have hR := HRX.out
        have hno9 : X = none → c ≠ 0 ∧ 0 ≤ a ∧ a ≤ s.size := fun h => hR.no a c (by rw [hX, h])
        have hyes9 : ∀ x, X = some x → a = 0 ∧ c = 0 ∧ Td.checkN x = 0 := fun x h => by
          obtain ⟨e1, e2, _, _, _, e3, _⟩ := hR.yes x a c (by rw [hX, h])
          exact ⟨e1, e2, e3⟩
        have HNO := Lib.hid hno9
        have HYES := Lib.hid hyes9
        clear hn hD hX hY hR hno9 hyes9 hH
        go_wp2_with fail
        refine (HP.out _ (HE.out.below (Nat.le_refl _) HBL.out)).mono ?_
        rintro e w2 ⟨cs, rfl, hnd, hb2⟩
        have HB2 := Lib.hid (HBL.out.trans (hb2.mono HBL.out.size))
        clear hb2
        have HND := Lib.hid hnd
        obtain ⟨u0, u1, u2, u3, u4, u5, u6, u7, sa, sc, aa, ac, rfl, F⟩ := hnd.form_of
        obtain ⟨rfl, rfl, rfl, rfl, rfl, rfl, rfl, rfl⟩ := F
        obtain ⟨x, hx⟩ : ∃ x, (X, a, c).1.getD (Ps.leafN 0 0) = x := ⟨_, rfl⟩
        rw [hx] at HND
        rw [hx]
        obtain ⟨nb, hnb⟩ : ∃ nb, w2.heap.size = nb := ⟨_, rfl⟩
        obtain ⟨wn, hwn⟩ : ∃ wn, w2.alloc (.cells #[.int .i64 (Td.kind x), .slice sa (Td.set x).length sc, .int .i64 (Td.num x), .string (Td.name x), .int .i64 (Td.mn x), .int .i64 (Td.mx x), .bool (Td.lazy x), .slice aa (Td.subs x).length ac] 26) = wn := ⟨_, rfl⟩
        have hn2 : wn.heap[nb]? = some (.cells #[.int .i64 (Td.kind x), .slice sa (Td.set x).length sc, .int .i64 (Td.num x), .string (Td.name x), .int .i64 (Td.mn x), .int .i64 (Td.mx x), .bool (Td.lazy x), .slice aa (Td.subs x).length ac] 26 (0, 0)) := by rw [← hwn, ← hnb]; exact heap_alloc_new _ _
        have hbn : Below w2.heap.size w2 wn := by rw [← hwn]; exact (Below.refl _ _).alloc (Nat.le_refl _) _
        have HBN := Lib.hid (HB2.out.trans (hbn.mono HB2.out.size))
        have HNDN := Lib.hid (HND.out.kept hbn)
        have HN2 := Lib.hid hn2
        have HWN := Lib.hid hwn
        have HNB := Lib.hid hnb
        have HXX := Lib.hid hx
        clear hnd hn2 hbn hwn hnb hx HND
        rw [HF.out]
        have hno3 : ¬ 9223372036854775807 < D.size + s.size := by rw [HN.out]; exact hno2
        go_wp2_with fail
        rw [HWN.out, HNB.out]
        refine (HQ.out _ (HE.out.below (Nat.le_refl _) HBN.out)).mono ?_
        rintro e w4 ⟨ds, rfl, hnd4, hb4⟩
        have HB4 := Lib.hid (HBN.out.trans (hb4.mono HBN.out.size))
        have HB24 := Lib.hid hb4
        have HND4 := Lib.hid hnd4
        obtain ⟨y0, y1, y2, y3, y4, y5, y6, y7, za, zc, ia, ic, rfl, F⟩ := hnd4.form_of
        obtain ⟨rfl, rfl, rfl, rfl, rfl, rfl, rfl, rfl⟩ := F
        obtain ⟨y, hy⟩ : ∃ y, (Y, k, c2).1.getD (Ps.leafN 0 0) = y := ⟨_, rfl⟩
        rw [hy] at HND4
        rw [hy]
        have HYY := Lib.hid hy
        clear hnd4 hb4 hy
        cases X with
        | none =>
          obtain ⟨hc0, ha0, ha1⟩ := HNO.out rfl
          obtain ⟨k2, hk2, hkk⟩ := HX.out.1 a c rfl
          injection hk2 with e1 e2
          injection e2 with e2 e3
          subst e1 e2 e3
          have hc : (c2 != 0) = true := by simpa using hc0
          have hcc : (c2 == c2) = true := by simp
          have hw : IntKind.i64.wrap (a + (n : Int)) = a + n := by rw [IntKind.wrap_i64]; omega
          have hDn := HN.out
          clear hc0 HX HP HQ
          rcases hkk with rfl | ⟨rfl, hcs⟩
          · have hkb : (a + (n : Int) == a + n) = true := by simp
            go_wp2
            go_ret
            exact ⟨rfl, HB4.out.alloc HB4.out.size _⟩
          · have hkb : (k == k + (n : Int)) = false := by simp; omega
            have hkk : (k == k) = true := by simp
            rcases hcs with rfl | rfl | rfl
            · go_wp2
              go_ret
              exact ⟨rfl, HB4.out.alloc HB4.out.size _⟩
            · go_wp2
              go_ret
              exact ⟨rfl, HB4.out.alloc HB4.out.size _⟩
            · go_wp2
              go_ret
              exact ⟨rfl, HB4.out.alloc HB4.out.size _⟩
        | some x' =>
          obtain ⟨rfl, rfl, hck⟩ := HYES.out x' rfl
          have h9 := HX.out.2 x' 0 0 rfl
          injection h9 with e1 e2
          injection e2 with e2 e3
          subst e1 e2 e3
          have hx9 : x' = x := HXX.out
          have hy9 : x' = y := HYY.out
          subst hx9
          subst hy9
          have hdep : Td.dep 1001 x' ≤ 1000 := by
            unfold Td.checkN at hck
            split at hck
            · cases hck
            · omega
          have HS1 := Lib.hid (Td.same_ok hdep)
          obtain ⟨mb, hmb⟩ : ∃ mb, w4.heap.size = mb := ⟨_, rfl⟩
          obtain ⟨w5, hw5⟩ : ∃ w5, w4.alloc (.cells #[.int .i64 (Td.kind x'), .slice za (Td.set x').length zc, .int .i64 (Td.num x'), .string (Td.name x'), .int .i64 (Td.mn x'), .int .i64 (Td.mx x'), .bool (Td.lazy x'), .slice ia (Td.subs x').length ic] 26) = w5 := ⟨_, rfl⟩
          have hm5 : w5.heap[mb]? = some (.cells #[.int .i64 (Td.kind x'), .slice za (Td.set x').length zc, .int .i64 (Td.num x'), .string (Td.name x'), .int .i64 (Td.mn x'), .int .i64 (Td.mx x'), .bool (Td.lazy x'), .slice ia (Td.subs x').length ic] 26 (0, 0)) := by rw [← hw5, ← hmb]; exact heap_alloc_new _ _
          have hb5 : Below w4.heap.size w4 w5 := by rw [← hw5]; exact (Below.refl _ _).alloc (Nat.le_refl _) _
          have hb25 := HB24.out.trans (hb5.mono HB24.out.size)
          have hn5 := (hb25.block _ (Array.getElem?_eq_some_iff.1 HN2.out).1).trans HN2.out
          have hn4 := (HB24.out.block _ (Array.getElem?_eq_some_iff.1 HN2.out).1).trans HN2.out
          have hD := fun o : Obj => box_facts (heap_alloc_oldp (x := o) hn4)
          have d0 := fun o => (hD o).1
          have d1 := fun o => (hD o).2.1
          have d2 := fun o => (hD o).2.2.1
          have d3 := fun o => (hD o).2.2.2.1
          have d4 := fun o => (hD o).2.2.2.2.1
          have d5 := fun o => (hD o).2.2.2.2.2.1
          have d6 := fun o => (hD o).2.2.2.2.2.2.1
          have d7 := fun o => (hD o).2.2.2.2.2.2.2.1
          have HSM := Lib.hid (trSame_any w5 x' x' _ _ (HNDN.out.kept hb25) (HND4.out.kept hb5))
          have HB5 := Lib.hid (HB4.out.trans (hb5.mono HB4.out.size))
          rw [HS1.out] at HSM
          have HW5 := Lib.hid hw5
          have HMB := Lib.hid hmb
          clear hck hdep hm5 hb5 hb25 hn5 hw5 hmb hD hn4 HX HP HQ
          go_wp2_with fail
          rw [HW5.out]
          refine HSM.out.mono ?_
          rintro e w6 ⟨rfl, hb6⟩
          have HB6 := Lib.hid (HB5.out.trans (hb6.mono HB5.out.size))
          clear hb6
          go_wp2
          go_ret
          exact ⟨rfl, HB6.out⟩
end Go.Proofs.YtdcielcniboloaaGreatDoor
