/- The landed prog: strings.Cut, strconv.Atoi; number, opOf. -/
import Derived.Test.YtfnimmbmcjgdpaaDoorGp16
import Derived.Lib.ConvBytes
namespace Go.Proofs.YtfnimmbmcjgdpaaDoor
open Go.RowKit Go.Shelf
set_option linter.unusedVariables false
namespace Pgm
/-- What is read of the library's variables, and the tables. -/
structure EvP (W : World) : Prop where
  ops : EvO W
  tab : EvT W
  ltM : 2 < W.heap.size
  max : ∃ m, W.cell? ⟨2, 0, none⟩ = some (.int .i64 m)
  ltS : 5 < W.heap.size
  syn : ∃ ev, W.cell? ⟨5, 0, none⟩ = some ev ∧ (ev = .nilIface ∨ ∃ te pe, ev = .iface te pe)
  ltR : 6 < W.heap.size
  rng : ∃ ev, W.cell? ⟨6, 0, none⟩ = some ev ∧ (ev = .nilIface ∨ ∃ te pe, ev = .iface te pe)
theorem EvP.below {W W' : World} (h : EvP W) (hb : Below W.heap.size W W') : EvP W' :=
  ⟨h.ops.below (Nat.le_refl _) hb, h.tab.below hb, Nat.lt_of_lt_of_le h.ltM hb.size, by
    obtain ⟨m, hm⟩ := h.max
    exact ⟨m, (hb.cell (p := ⟨2, 0, none⟩) h.ltM).trans hm⟩, Nat.lt_of_lt_of_le h.ltS hb.size, by
    obtain ⟨m, hm, q⟩ := h.syn
    exact ⟨m, (hb.cell (p := ⟨5, 0, none⟩) h.ltS).trans hm, q⟩, Nat.lt_of_lt_of_le h.ltR hb.size, by
    obtain ⟨m, hm, q⟩ := h.rng
    exact ⟨m, (hb.cell (p := ⟨6, 0, none⟩) h.ltR).trans hm, q⟩⟩
theorem cut14 (W : World) (s : ByteArray) (hs : s.size ≤ 1000000000) (c : UInt8) (hE : EvP W) : Calls Tryd.prog 81 #[.string s, .string ⟨#[c]⟩] W fun e w' =>
    e = .returned (.tuple #[.string (txB (cutA c s.data.toList)), .string (txB (cutB c s.data.toList)), .bool (decide (c ∈ s.data.toList))]) ∧ Below W.heap.size W w' := by
  obtain ⟨m, hm⟩ := hE.max
  have h9 := Any.strings_Cut (P := Tryd.prog) Tryd.layCut s ⟨#[c]⟩ m W (by omega) hm
  change Calls Tryd.prog 81 _ _ _ at h9
  refine h9.mono ?_
  rintro e w' ⟨he, d, rfl⟩
  have hc : Lib.cut s.data.toList (⟨#[c]⟩ : ByteArray).data.toList = (cutA c s.data.toList, cutB c s.data.toList, decide (c ∈ s.data.toList)) := cut_is c s.data.toList
  rw [hc] at he
  exact ⟨he, below_drewN (Below.refl _ W) d⟩
theorem atoi14 (W : World) (s : ByteArray) (hs : s.size ≤ 1000000000) (hE : EvP W) : Calls Tryd.prog 105 #[.string s] W fun e w' => ∃ u, e = .returned (.tuple #[.int .i64 (atoiV s.data.toList), u]) ∧ Below W.heap.size W w' := by
  unfold atoiV
  cases h : Lib.atoiAll s.data.toList with
  | ok v =>
    have h9 := Any.strconv_Atoi_ok (P := Tryd.prog) Tryd.layAtoi s (by omega) v h W
    change Calls Tryd.prog 105 _ _ _ at h9
    refine h9.mono ?_
    rintro e w' ⟨he, hw⟩
    refine ⟨_, he, ?_⟩
    rcases hw with rfl | ⟨t, rfl⟩
    · exact Below.refl _ _
    · exact Lib.bytesWorld_below _ _ _
  | «syntax» =>
    obtain ⟨ev, hv, hev⟩ := hE.syn
    have h9 := Any.strconv_Atoi_syntax (P := Tryd.prog) Tryd.layAtoi s (by omega) h ev W hv hev
    change Calls Tryd.prog 105 _ _ _ at h9
    refine h9.mono ?_
    rintro e w' ⟨N, he, _, _, hb⟩
    exact ⟨_, he, hb⟩
  | range =>
    obtain ⟨ev, hv, hev⟩ := hE.rng
    have h9 := Any.strconv_Atoi_range (P := Tryd.prog) Tryd.layAtoi s (by omega) h ev W hv hev
    change Calls Tryd.prog 105 _ _ _ at h9
    refine h9.mono ?_
    rintro e w' ⟨N, he, _, _, hb⟩
    exact ⟨_, he, hb⟩
set_option maxRecDepth 100000 in
set_option maxHeartbeats 2000000 in
theorem number14 (W : World) (s : ByteArray) (hs : s.size ≤ 1000000000) (hE : EvP W) : Calls Tryd.prog 82 #[.string s] W fun e w' => e = .returned (.tuple #[.int .i64 (numV s.data.toList), .string (txB (cutB 32 s.data.toList))]) ∧ Below W.heap.size W w' := by
  have HC := Lib.hid (cut14 W s hs 32 hE)
  have HA := Lib.hid (fun w hw => atoi14 w (txB (cutA 32 s.data.toList)) (by
    rw [txB_size]
    have h1 := cutA_le 32 s.data.toList
    have h2 : s.data.toList.length = s.size := by simp
    omega) hw)
  have HE := Lib.hid hE
  rw [txB_list] at HA
  unfold numV
  obtain ⟨a, ha⟩ : ∃ a, txB (cutA 32 s.data.toList) = a := ⟨_, rfl⟩
  obtain ⟨b, hb⟩ : ∃ b, txB (cutB 32 s.data.toList) = b := ⟨_, rfl⟩
  obtain ⟨z, hz⟩ : ∃ z, atoiV (cutA 32 s.data.toList) = z := ⟨_, rfl⟩
  obtain ⟨q, hq⟩ : ∃ q, decide ((32 : UInt8) ∈ s.data.toList) = q := ⟨_, rfl⟩
  rw [ha, hb, hq] at HC
  rw [ha, hz] at HA
  rw [hz, hb]
  clear ha hb hz hE hs hq
  go_enter Tryd.func82, Tryd.ntmps82
  go_wp2_with fail
  refine HC.out.mono ?_
  rintro e w1 ⟨rfl, hb1⟩
  have HB1 := Lib.hid hb1
  clear hb1
  go_wp2_with fail
  refine (HA.out w1 (HE.out.below HB1.out)).mono ?_
  rintro e w2 ⟨u, rfl, hb2⟩
  have HB2 := Lib.hid (HB1.out.trans (hb2.mono HB1.out.size))
  clear hb2
  go_wp2
  go_ret2
  exact ⟨rfl, HB2.out⟩
/-- The first Op from k on that has the word. -/
theorem opOf_first {w : List UInt8} {k : Nat} (hk : k < 7) (hw : wBytes (k : Int) = w) (hb : ∀ j : Nat, j < k → wBytes (j : Int) ≠ w) : opOf w = k := by
  have : k = 0 ∨ k = 1 ∨ k = 2 ∨ k = 3 ∨ k = 4 ∨ k = 5 ∨ k = 6 := by omega
  rcases this with rfl | rfl | rfl | rfl | rfl | rfl | rfl <;> subst hw <;> decide
theorem opOf_none {w : List UInt8} (hb : ∀ j : Nat, j < 7 → wBytes (j : Int) ≠ w) : opOf w = 0 := by
  unfold opOf
  have h1 := hb 1 (by omega)
  have h2 := hb 2 (by omega)
  have h3 := hb 3 (by omega)
  have h4 := hb 4 (by omega)
  have h5 := hb 5 (by omega)
  have h6 := hb 6 (by omega)
  rw [if_neg (fun e => h1 e.symm), if_neg (fun e => h2 e.symm), if_neg (fun e => h3 e.symm), if_neg (fun e => h4 e.symm), if_neg (fun e => h5 e.symm), if_neg (fun e => h6 e.symm)]
theorem opAll_at (o q : Nat) (ho : o < 7) (hq : q < 9) : opAll[o * 9 + q]? = (opC o)[q]? := by
  have : o = 0 ∨ o = 1 ∨ o = 2 ∨ o = 3 ∨ o = 4 ∨ o = 5 ∨ o = 6 := by omega
  have h2 : q = 0 ∨ q = 1 ∨ q = 2 ∨ q = 3 ∨ q = 4 ∨ q = 5 ∨ q = 6 ∨ q = 7 ∨ q = 8 := by omega
  rcases this with rfl | rfl | rfl | rfl | rfl | rfl | rfl <;> rcases h2 with rfl | rfl | rfl | rfl | rfl | rfl | rfl | rfl | rfl <;> rfl
theorem index_op (k : Nat) (h : k < 7) (w : World) : (Instr.index 89 (.agg opAll.toArray) (.int .i64 (k : Int))).run Tryd.prog w = .ok (.agg (opC k).toArray) w := by
  have : k = 0 ∨ k = 1 ∨ k = 2 ∨ k = 3 ∨ k = 4 ∨ k = 5 ∨ k = 6 := by omega
  rcases this with rfl | rfl | rfl | rfl | rfl | rfl | rfl
  · show (Instr.index 89 (.agg opAll.toArray) (.int .i64 0)).run Tryd.prog w = _; kernel_rfl
  · show (Instr.index 89 (.agg opAll.toArray) (.int .i64 1)).run Tryd.prog w = _; kernel_rfl
  · show (Instr.index 89 (.agg opAll.toArray) (.int .i64 2)).run Tryd.prog w = _; kernel_rfl
  · show (Instr.index 89 (.agg opAll.toArray) (.int .i64 3)).run Tryd.prog w = _; kernel_rfl
  · show (Instr.index 89 (.agg opAll.toArray) (.int .i64 4)).run Tryd.prog w = _; kernel_rfl
  · show (Instr.index 89 (.agg opAll.toArray) (.int .i64 5)).run Tryd.prog w = _; kernel_rfl
  · show (Instr.index 89 (.agg opAll.toArray) (.int .i64 6)).run Tryd.prog w = _; kernel_rfl
end Pgm
end Go.Proofs.YtfnimmbmcjgdpaaDoor
