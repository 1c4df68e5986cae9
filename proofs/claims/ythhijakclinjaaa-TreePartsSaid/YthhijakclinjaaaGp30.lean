/- The book's tree (burinbook): Weigh, Great. · A tree that is small has few nodes: from Great's 'no' to the bounds of All. · An argument that is a list of ranges, opened. -/
import Derived.Test.YthhijakclinjaaaGp5
import Derived.IntWalk
import Derived.Test.YthhijakclinjaaaGp7
import Derived.Test.YthhijakclinjaaaGp3
import Derived.Deep.SlicePairs
import Derived.ProofKit
import Derived.SizedLaws
import Derived.Lib.RowBridge
namespace Go.Proofs.Ythhijakclinjaaa
open Go.RowKit
set_option linter.unusedVariables false
namespace Td
/-- What a tree weighs, down to a depth. -/
def wgt : Nat → Nd → Nat
  | 0, _ => 0
  | k + 1, n => 1 + (set n).length + ((subs n).map (wgt k)).sum
/-- Is a tree no deeper than that, and nothing in it too long? -/
def fit : Nat → Nd → Prop
  | 0, _ => False
  | k + 1, n => (set n).length ≤ 200 ∧ (name n).size ≤ 100 ∧ (subs n).length ≤ 200 ∧ ∀ m ∈ subs n, fit k m
theorem sum_take_succ (l : List Nat) (k : Nat) (hk : k < l.length) : (l.take (k + 1)).sum = (l.take k).sum + l[k] := by
  rw [List.take_succ_eq_append_getElem hk, List.sum_append]; simp
end Td
def WghOk (k : Nat) : Prop := ∀ (W : World) (n : Nd) (cs : List Value) (left : Int), -1000000 ≤ left → left ≤ 1000000 → NdIs W n cs →
  Calls Try.prog 31 #[.agg cs.toArray, .int .i64 left, .int .i64 (k : Int)] W fun e w' => ∃ r : Int, e = .returned (.int .i64 r) ∧ -1 ≤ r ∧ (0 ≤ r → r = left - Td.wgt k n ∧ Td.fit k n) ∧ Below W.heap.size W w'
set_option maxRecDepth 100000 in
set_option maxHeartbeats 4000000 in
theorem wgh_step (k M : Nat) (hM : M = k + 1) (hk : k ≤ 100000) (ih : WghOk k) : WghOk M := by
  intro W n cs left hl0 hl1 h
  have hM1 : (M : Int) - 1 = (k : Int) := by omega
  have hM0 : ¬ ((M : Int) = 0) := by omega
  have HM0 := Lib.hid hM
  obtain ⟨vs, a, cap, C, hC⟩ := h.cells
  obtain ⟨sa, scap, hvs, hsl, _, _⟩ := hC.set
  obtain ⟨N, hN⟩ : ∃ N, (Td.subs n).length = N := ⟨_, rfl⟩
  obtain ⟨L, hL⟩ : ∃ L, (Td.set n).length = L := ⟨_, rfl⟩
  have hcs := hC.eq
  have hlen := hC.len
  have hnm := hC.name
  rw [hN] at hcs hlen
  rw [hL] at hvs hsl
  subst hvs
  subst hcs
  have HC := Lib.hid hC
  have HNN := Lib.hid hN
  have HLL := Lib.hid hL
  have IH := Lib.hid ih
  clear h hC hN hL ih hM
  obtain ⟨W1, hW1⟩ : ∃ W1, W.alloc (.cells #[.int .i64 (Td.kind n), .slice sa L scap, .int .i64 (Td.num n), .string (Td.name n), .int .i64 (Td.mn n), .int .i64 (Td.mx n), .bool (Td.lazy n), .slice a N cap] 25) = W1 := ⟨_, rfl⟩
  have B1 := Lib.hid (hW1 ▸ (Below.refl W.heap.size W).alloc (Nat.le_refl _) (.cells #[.int .i64 (Td.kind n), .slice sa L scap, .int .i64 (Td.num n), .string (Td.name n), .int .i64 (Td.mn n), .int .i64 (Td.mx n), .bool (Td.lazy n), .slice a N cap] 25) : Below W.heap.size W W1)
  have hbx : W1.cell? ⟨W.heap.size, 7, none⟩ = some (.slice a N cap) := by rw [← hW1]; simp
  have hsz1 : W1.heap.size = W.heap.size + 1 := by rw [← hW1]; simp
  have HBX := Lib.hid hbx
  have HSZ := Lib.hid hsz1
  have HW1 := Lib.hid hW1
  clear hbx hsz1 hW1
  by_cases b1 : left - 1 < 0
  · go_enter Try.func31, Try.ntmps31
    go_wp2
    rw [HW1.out]
    go_ret
    exact ⟨-1, rfl, by omega, fun h => absurd h (by omega), B1.out⟩
  by_cases b2 : (200 : Int) < L
  · go_enter Try.func31, Try.ntmps31
    go_wp2
    rw [HW1.out]
    go_ret
    exact ⟨-1, rfl, by omega, fun h => absurd h (by omega), B1.out⟩
  by_cases b3 : (100 : Int) < (Td.name n).size
  · go_enter Try.func31, Try.ntmps31
    go_wp2
    rw [HW1.out]
    go_ret
    exact ⟨-1, rfl, by omega, fun h => absurd h (by omega), B1.out⟩
  by_cases b4 : (200 : Int) < N
  · go_enter Try.func31, Try.ntmps31
    go_wp2
    rw [HW1.out]
    go_ret
    exact ⟨-1, rfl, by omega, fun h => absurd h (by omega), B1.out⟩
  go_enter Try.func31, Try.ntmps31
  go_wp2
  go_loopw [1, 7] (fun vv iv wr => ∃ (i : Nat) (v : Int), i ≤ N ∧ vv = .int .i64 v ∧ iv = .int .i64 (i : Int) ∧ -200 ≤ v ∧ v ≤ 1000000 ∧ Hid (0 ≤ v → v = left - 1 - (L : Int) - ((((Td.subs n).map (Td.wgt k)).take i).sum : Nat) ∧ ∀ j (hj : j < (Td.subs n).length), j < i → Td.fit k (Td.subs n)[j]) ∧ Hid (Below W1.heap.size W1 wr)) (fun _ iv _ => N - (intOf iv).toNat)
  case atStart => exact ⟨0, left - 1 - L, Nat.zero_le _, by go_num, rfl, by omega, by omega, Lib.hid (fun _ => ⟨by simp, fun j hj h => absurd h (by omega)⟩), Lib.hid (by rw [← HW1.out]; exact Below.refl _ _)⟩
  case round =>
    obtain ⟨i, v, hi, rfl, rfl, hv0, hv1, HD2, HB⟩ := hrel
    have hbx : wr.cell? ⟨W.heap.size, 7, none⟩ = some (.slice a N cap) := (HB.out.cell (p := ⟨W.heap.size, 7, none⟩) (by rw [HSZ.out]; simp)).trans HBX.out
    have hbs : W.heap.size < wr.heap.size := by have := HB.out.size; rw [HSZ.out] at this; omega
    by_cases hlt : i < N
    · by_cases hv : 0 ≤ v
      · obtain ⟨b, off, m, u0, u1, u2, u3, u4, u5, u6, u7, rfl, hb, hm, hnd, q0, q1, q2, q3, q4, q5, q6, q7⟩ := HC.out.sub i (by rw [HNN.out]; exact hlt)
        have hbw : Below W.heap.size W wr := B1.out.trans (HB.out.mono B1.out.size)
        have kc : ∀ o v, W.cell? ⟨b, o, none⟩ = some v → wr.cell? ⟨b, o, none⟩ = some v := fun o v h => (hbw.cell (p := ⟨b, o, none⟩) hb).trans h
        replace q0 := kc _ _ q0; replace q1 := kc _ _ q1; replace q2 := kc _ _ q2; replace q3 := kc _ _ q3
        replace q4 := kc _ _ q4; replace q5 := kc _ _ q5; replace q6 := kc _ _ q6; replace q7 := kc _ _ q7
        have hbl : b < wr.heap.size := Nat.lt_of_lt_of_le hb hbw.size
        have HND := Lib.hid (hnd.kept hbw)
        have HM := Lib.hid hm
        clear kc hm hnd hbw
        go_wp2_with fail
        refine (IH.out _ _ _ _ (by omega) (by omega) HND.out).mono ?_
        rintro e w5 ⟨r, rfl, hr0, hr1, hb5⟩
        have HB5 := Lib.hid (HB.out.trans (hb5.mono HB.out.size))
        have hr2 : r ≤ 1000000 := by
          by_cases h0 : 0 ≤ r
          · have := (hr1 h0).1; omega
          · omega
        have HD3 : Hid (0 ≤ r → r = left - 1 - (L : Int) - ((((Td.subs n).map (Td.wgt k)).take (i + 1)).sum : Nat) ∧ ∀ j (hj : j < (Td.subs n).length), j < i + 1 → Td.fit k (Td.subs n)[j]) := Lib.hid (fun h0 => by
          obtain ⟨h1, h2⟩ := hr1 h0
          obtain ⟨h3, h4⟩ := HD2.out hv
          have hi0 : i < (Td.subs n).length := by rw [HNN.out]; exact hlt
          have hi' : i < ((Td.subs n).map (Td.wgt k)).length := by rw [List.length_map]; exact hi0
          have e0 : (Td.subs n)[i] = m := by
            have h5 := HM.out
            rw [List.getElem?_eq_getElem hi0] at h5
            exact Option.some.inj h5
          refine ⟨?_, fun j hj hji => ?_⟩
          · rw [Td.sum_take_succ _ _ hi', List.getElem_map, e0]
            omega
          · by_cases hjj : j < i
            · exact h4 j hj hjj
            · obtain rfl : j = i := by omega
              rw [e0]; exact h2)
        clear hb5 hr1 HD2
        go_wp2
        go_roundw
        case rel => exact ⟨i + 1, r, by omega, rfl, by go_num, by omega, hr2, HD3, HB5⟩
        case measure => simp [intOf]; omega
      · go_wp2
        all_goals go_ret
        all_goals exact ⟨_, rfl, by omega, fun h => absurd h (by omega), B1.out.trans (HB.out.mono B1.out.size)⟩
    · obtain rfl : i = N := by omega
      have hE : Hid (0 ≤ v → v = left - (Td.wgt M n : Nat) ∧ Td.fit M n) := Lib.hid (fun h0 => by
        obtain ⟨h1, h2⟩ := HD2.out h0
        rw [HM0.out]
        refine ⟨?_, ?_⟩
        · rw [Td.wgt, HLL.out, h1, List.take_of_length_le (by rw [List.length_map, HNN.out]; exact Nat.le_refl _)]
          omega
        · rw [Td.fit, HLL.out, HNN.out]
          refine ⟨by omega, by omega, by omega, fun m hm => ?_⟩
          obtain ⟨j, hj, rfl⟩ := List.getElem_of_mem hm
          exact h2 j hj (by rw [← HNN.out]; exact hj))
      have HB6 := Lib.hid (B1.out.trans (HB.out.mono B1.out.size))
      clear HD2
      by_cases hv : 0 ≤ v
      · go_wp2
        go_ret
        exact ⟨v, rfl, by omega, hE.out, HB6.out⟩
      · go_wp2
        all_goals go_ret
        all_goals exact ⟨_, rfl, by omega, fun h => absurd h (by omega), HB6.out⟩
theorem refWeigh_any : ∀ k : Nat, k ≤ 100000 → WghOk k
  | 0, _ => by
    intro W n cs left hl0 hl1 h
    obtain ⟨vs, a, cap, C, hC⟩ := h.cells
    have hcs := hC.eq
    subst hcs
    clear hC h
    go_enter Try.func31, Try.ntmps31
    go_wp2
    go_ret
    exact ⟨-1, rfl, by omega, fun h => absurd h (by omega), (Below.refl _ _).alloc (Nat.le_refl _) _⟩
  | k + 1, h => wgh_step k _ rfl (by omega) (refWeigh_any k (by omega))
/-- Great, told no: the tree is small. -/
theorem refGreat_any (W : World) (n : Nd) (cs : List Value) (most : Int) (h0 : -1000000 ≤ most) (h1 : most ≤ 1000000) (h : NdIs W n cs) :
    Calls Try.prog 9 #[.agg cs.toArray, .int .i64 most] W fun e w' => ∃ b : Bool, e = .returned (.bool b) ∧ (b = false → (Td.wgt 40 n : Int) ≤ most ∧ Td.fit 40 n) ∧ Below W.heap.size W w' := by
  have H1 := Lib.hid (h.kept ((Below.refl W.heap.size W).alloc (Nat.le_refl _) (.cells cs.toArray 25)))
  have HB := Lib.hid ((Below.refl W.heap.size W).alloc (Nat.le_refl _) (.cells cs.toArray 25))
  obtain ⟨vs, a, cap, C, hC⟩ := h.cells
  have hcs := hC.eq
  subst hcs
  clear hC h
  go_enter Try.func9, Try.ntmps9
  go_wp2_with fail
  refine (refWeigh_any 40 (by omega) _ _ _ _ h0 h1 H1.out).mono ?_
  rintro e w5 ⟨r, rfl, hr0, hr1, hb5⟩
  have HB5 := Lib.hid (HB.out.trans (hb5.mono HB.out.size))
  by_cases hr : r < 0
  · go_wp2
    go_ret
    exact ⟨_, rfl, fun h => by simp [hr] at h, HB5.out⟩
  · go_wp2
    go_ret
    exact ⟨_, rfl, fun _ => ⟨by have := (hr1 (by omega)).1; omega, (hr1 (by omega)).2⟩, HB5.out⟩
end Go.Proofs.Ythhijakclinjaaa
namespace Go.Proofs.Ythhijakclinjaaa
set_option linter.unusedVariables false
namespace Td
theorem flat_sum_le (f : Nd → List (Nat × Nd)) (g : Nd → Nat) : ∀ (l : List Nd), (∀ m ∈ l, (f m).length ≤ g m) → (l.flatMap f).length ≤ (l.map g).sum
  | [], _ => by simp
  | m :: l, h => by
    have h1 := h m (by simp)
    have h2 := flat_sum_le f g l (fun x hx => h x (List.mem_cons_of_mem _ hx))
    rw [List.flatMap_cons, List.length_append, List.map_cons, List.sum_cons]; omega
theorem all_le_wgt : ∀ (k j d : Nat) (n : Nd), fit k n → (all j d n).length ≤ wgt k n
  | 0, _, _, _, h => h.elim
  | k + 1, 0, _, _, _ => by simp [all]
  | k + 1, j + 1, d, n, h => by
    rw [all, wgt, List.length_cons]
    have := flat_sum_le (all j (d + 1)) (wgt k) (subs n) (fun m hm => all_le_wgt k j (d + 1) m (h.2.2.2 m hm))
    omega
theorem all_small (n : Nd) (most : Int) (hm : most ≤ 1000000) (h : (wgt 40 n : Int) ≤ most ∧ fit 40 n) (d : Nat) : (all 1000 d n).length ≤ 1000000 := by
  have := all_le_wgt 40 1000 d n h.2
  omega
/-- The depth of a tree that is no deeper than k. -/
theorem dep_fit : ∀ (k j : Nat) (n : Nd), fit k n → dep j n ≤ k
  | 0, _, _, h => h.elim
  | k + 1, 0, _, _ => by simp [dep]
  | k + 1, j + 1, n, h => by
    rw [dep]
    have := foldl_max_le ((subs n).map (dep j)) 0 k (fun x hx => by
      obtain ⟨m, hm, rfl⟩ := List.mem_map.1 hx
      exact dep_fit k j m (h.2.2.2 m hm)) (by omega)
    omega
end Td
end Go.Proofs.Ythhijakclinjaaa
namespace Go.Proofs.Ythhijakclinjaaa
open Go.ChangeShapes Go.WideShapes Go.ChangeAt Go.RowKit
set_option linter.unusedVariables false
theorem laidOut : laidOutB Try.prog = true := by kernel_rfl
theorem rangeStruct : ∃ f0 f1 : Field, Try.prog.underlying 62 = some (.struct #[f0, f1]) ∧ f0.offset = 0 ∧ f1.offset = 1 ∧ f0.type = 3 ∧ f1.type = 3 := ⟨_, _, Try.underlying62, rfl, rfl, rfl, rfl⟩
theorem rangeCells : Try.prog.cellsOf 62 = 2 := by kernel_rfl
theorem intCells : Try.prog.cellsOf 3 = 1 := by kernel_rfl
theorem rangeBytes : Try.prog.bytesOf 62 = 16 := by kernel_rfl
theorem choose_pairs {α : Type} {n : Nat} {p : Nat → α → Prop} [Inhabited α] (h : ∀ i, i < n → ∃ x, p i x) : ∃ f : Nat → α, ∀ i, i < n → p i (f i) := by
  classical
  exact ⟨fun i => if hi : i < n then (h i hi).choose else default, fun i hi => by simp only [dif_pos hi]; exact (h i hi).choose_spec⟩
set_option maxRecDepth 100000 in
theorem open_ranges {H : Type} {enc : TypeId × Value → H} {W : World} {base : Nat} {v : Value} {d : DataW H} {p : List MemPlace} (hv : Value.okWide Try.prog W .any base 22 v)
    (h : DataW.Trod enc Try.prog W 0 (fun _ => true) true 22 v d p) (hs : ∀ elems spare, d = .slice elems spare → (elems.length + spare.length) * 16 ≤ 140737488351232) : ∃ l, RRow W v l := by
  obtain ⟨fuel, hf⟩ := h
  obtain ⟨f0, f1, he, o0, o1, t0, t1⟩ := rangeStruct
  obtain ⟨a0, len0, cap0, rfl⟩ := okWide_slice Try.underlying22 hv
  rcases Deep.open_slice_pairs Try.underlying22 he rangeCells o0 o1 (by rw [t0]; exact intCells) (by rw [t1]; exact intCells) hf with ⟨hcs, hx⟩ | ⟨a, len, cap, m, n, V0, V1, D0, D1, P0, P1, hcs, hb, hl, hm, hmm, hx, hi⟩
  · simp [Value.cells] at hcs
    obtain ⟨rfl, rfl, rfl⟩ := hcs
    exact ⟨[], RRow.nil W⟩
  · simp [Value.cells] at hcs
    obtain ⟨rfl, rfl, rfl⟩ := hcs
    simp only [if_true] at hmm
    subst hmm
    simp only [Prod.mk.injEq] at hx
    have hsz := hs _ _ hx.1
    simp only [List.length_map, List.length_range] at hsz
    have each : ∀ i, i < m → ∃ x : Int × Int, V0 i = .int .i64 x.1 ∧ V1 i = .int .i64 x.2 ∧ (Lit.int .i64 x.1).wf = true ∧ (Lit.int .i64 x.2).wf = true := by
      intro i him
      obtain ⟨_, _, h3, h4⟩ := hi i him
      rw [t0] at h3
      rw [t1] at h4
      obtain ⟨z0, e0, _, w0⟩ := DataW.trod_int Try.underlying3 h3
      obtain ⟨z1, e1, _, w1⟩ := DataW.trod_int Try.underlying3 h4
      exact ⟨(z0, z1), by simpa using e0, by simpa using e1, w0, w1⟩
    obtain ⟨f, hf2⟩ := choose_pairs each
    refine ⟨(List.range len0).map f, _, _, by rw [List.length_map, List.length_range], by rw [List.length_map, List.length_range]; omega, fun q hq => ?_, fun j hj => ?_⟩
    · obtain ⟨i, hir, rfl⟩ := List.mem_map.1 hq
      have hil := List.mem_range.1 hir
      obtain ⟨_, _, w0, w1⟩ := hf2 i (by omega)
      have h1 : IntKind.i64.min = -9223372036854775808 := rfl
      have h2 : IntKind.i64.max = 9223372036854775807 := rfl
      simp [Lit.wf, h1, h2] at w0 w1
      omega
    · rw [List.length_map, List.length_range] at hj
      obtain ⟨c0, c1, _, _⟩ := hi j (by omega)
      obtain ⟨b, off, spot⟩ := a
      have hspot : spot = none := by simpa [Addr.add] using World.cell?_spot (hi 0 (by omega)).1
      subst hspot
      obtain ⟨e0, e1, _, _⟩ := hf2 j (by omega)
      rw [e0, add_plain] at c0
      rw [e1, add_plain] at c1
      have hg : ((List.range len0).map f)[j]?.getD (0, 0) = f j := by simp [hj]
      rw [hg]
      exact ⟨b, off, rfl, World.block_lt_of_cell? W _ c0, c0, by rw [Nat.add_assoc]; exact c1⟩
end Go.Proofs.Ythhijakclinjaaa
