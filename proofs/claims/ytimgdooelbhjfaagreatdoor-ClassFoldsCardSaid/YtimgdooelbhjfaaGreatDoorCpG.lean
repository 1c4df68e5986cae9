/- The landed class: Names. -/
import Derived.Test.YtimgdooelbhjfaaGreatDoorCpD
import Derived.Test.YtimgdooelbhjfaaGreatDoorTRow
import Derived.Sort.OwnSorted
import Derived.Deep.AppendLies
import Derived.Test.YtimgdooelbhjfaaGreatDoorRgE0
namespace Go.Proofs.YtimgdooelbhjfaaGreatDoor
open Go.RowKit Go.Shelf
set_option linter.unusedVariables false
namespace Cl
def propN : List ByteArray := propB.map Prod.fst
def propS : List (List UInt8) := propN.map fun s => s.data.toList
theorem propS_sorted : (propS.mergeSort fun x y => decide (x ≤ y)) = namesL := by
  have hs : (propS.mergeSort fun x y => decide (x ≤ y)).Pairwise (fun a b => a ≤ b) := by
    have := List.pairwise_mergeSort (le := fun (x y : List UInt8) => decide (x ≤ y)) (fun a b c h1 h2 => by simp only [decide_eq_true_eq] at *; exact List.le_trans h1 h2) (fun a b => by simp only [Bool.or_eq_true, decide_eq_true_eq]; exact List.le_total a b) propS
    exact this.imp (fun h => by simpa using h)
  have hp : (propS.mergeSort fun x y => decide (x ≤ y)).Perm namesL := (List.mergeSort_perm _ _).trans (by decide)
  exact hp.eq_of_pairwise (le := fun a b => a ≤ b) (fun a b _ _ h1 h2 => List.le_antisymm h1 h2) hs (by decide)
theorem cells_at (T : List (ByteArray × ByteArray)) (k : Nat) (p : ByteArray × ByteArray) (h : T[k]? = some p) : (Cl.cellsT T)[k * 2]? = some (.string p.1) ∧ (Cl.cellsT T)[k * 2 + 1]? = some (.string p.2) := by
  unfold Cl.cellsT
  simp only [List.getElem?_toArray]
  induction T generalizing k with
  | nil => simp at h
  | cons a t ih =>
    cases k with
    | zero => simp at h; subst h; simp
    | succ k =>
      have h' : t[k]? = some p := by simpa using h
      have e1 : (k + 1) * 2 = k * 2 + 1 + 1 := by omega
      rw [e1]
      simpa using ih k h'
end Cl
theorem info_string : ∃ i, Tryz.prog.info? 9 = some i ∧ i.zero = some (.string ByteArray.empty) ∧ i.size = 1 ∧ i.bytes = 16 := by
  have h : (Tryz.prog.info? 9).map (fun i => (i.zero, i.size, i.bytes)) = some (some (.string ByteArray.empty), 1, 16) := by kernel_rfl
  cases hi : Tryz.prog.info? 9 with
  | none => rw [hi] at h; cases h
  | some i => rw [hi] at h; simp at h; exact ⟨i, rfl, h.1, h.2.1, h.2.2⟩
/-- A row of texts that is owned. -/
def SOwn (W : World) (base : Nat) (v : Value) (L : List ByteArray) : Prop := W.ownsRow base 9 1 v L.length (L.map Value.string)
theorem SOwn.row {W : World} {base : Nat} {v : Value} {L : List ByteArray} (h : SOwn W base v L) : TRow W v (L.map fun s => s.data.toList) := by
  rcases h.2 with ⟨hv, h0⟩ | ⟨g, cap, cur, hv, hb, hg, hnc, hcm, hcs, _⟩
  · exact ⟨none, 0, by rw [List.length_map, h0]; exact hv, by rw [List.length_map]; omega, by omega, fun j hj => by rw [List.length_map] at hj; omega⟩
  · refine ⟨_, cap, by rw [List.length_map]; exact hv, by rw [List.length_map]; exact hnc, by simpa [maxLen] using hcm, fun j hj => ?_⟩
    rw [List.length_map] at hj
    refine ⟨g, L[j], rfl, (Array.getElem?_eq_some_iff.1 hg).1, ?_, by rw [ByteArray.toList_eq]; simp [hj]⟩
    subst hv
    rw [World.ownsRow.cellAt h j (by omega)]
    simp [List.getElem?_eq_getElem hj]
theorem SOwn.below {W W' : World} {base : Nat} {v : Value} {l : List ByteArray} (h : SOwn W base v l) (hb : Below W.heap.size W W') : SOwn W' base v l :=
  World.ownsRow.kept h ⟨hb.os, hb.tape, hb.output, hb.size, fun k hk _ => hb.block k hk⟩ (row := none) (by cases hv : v.ownBlock <;> simp)
theorem below_grownByS {w w' : World} {base g : Nat} (h : w.grownBy w' (some g)) (hb : base ≤ g) (hg : g < w.heap.size) : Below base w w' :=
  ⟨h.os, h.tape, h.output, h.size, fun k hk => h.block k (by omega) (by intro e; injection e with e; omega)⟩
theorem sort_names (W : World) (base : Nat) (v : Value) (h : SOwn W base v Cl.propN) :
    Calls Tryz.prog 35 #[v] W fun e w' => e = .returned (.tuple #[]) ∧ SOwn w' base v namesB ∧ Below base W w' := by
  have hown := h
  rcases hown.2 with ⟨_, hz⟩ | ⟨g, cap, cur, rfl, hbg, hg, hnc, hcm, hcs, ht⟩
  · exact absurd hz (by decide)
  · have hlt : g < W.heap.size := (Array.getElem?_eq_some_iff.1 hg).1
    have ht2 : cur.toList.take Cl.propS.length = Cl.propS.map Go.Proofs.encStr := by
      rw [Nat.mul_one] at ht
      rw [show Cl.propS.length = Cl.propN.length by decide]
      rw [ht]; rfl
    have hcon := Any.slices_Sort_string (P := Tryz.prog) Tryz.laySort g 0 cap Cl.propS W (holds_of_block hg ht2) hlt (by decide)
    change Calls Tryz.prog 35 _ _ _ at hcon
    refine hcon.mono ?_
    rintro e w' ⟨rfl, n, os, rfl⟩
    rw [Cl.propS_sorted]
    refine ⟨rfl, ?_, below_grownByS (grownBy_sorted _) hbg hlt⟩
    have := ownsRow_sorted (n := n) (os := os) (ss := Cl.propS) (ts := namesL) (by decide) hbg hg hnc hcm hcs
    exact this
set_option maxRecDepth 100000 in
set_option maxHeartbeats 4000000 in
theorem cNames_any (W : World) : Calls Tryz.prog 15 #[] W fun e w' => ∃ v, e = .returned v ∧ TRow w' v namesL ∧ Below W.heap.size W w' := by
  obtain ⟨i0, hi, hz0, hz1, hz2⟩ := info_string
  go_enter Tryz.func15, Tryz.ntmps15
  go_wp2_with fail
  refine (properties_any _).mono ?_
  rintro e w1 ⟨rfl, rfl⟩
  have HG := Lib.hid (heap_alloc_new W (.cells (Cl.cellsT Cl.propB) 56))
  have hB0 := Lib.hid ((Below.refl W.heap.size W).alloc (Nat.le_refl _) (.cells (Cl.cellsT Cl.propB) 56))
  obtain ⟨W1, hW1⟩ : ∃ W1, W.alloc (.cells (Cl.cellsT Cl.propB) 56) = W1 := ⟨_, rfl⟩
  have hgs : W.heap.size < W1.heap.size := by rw [← hW1]; simp
  rw [hW1] at HG hB0 ⊢
  clear hW1
  rw [show (Cl.propB.length : Nat) = 8 from rfl]
  go_wp2
  go_loopw [1, 6] (fun V i wr => ∃ k : Nat, k ≤ 8 ∧ i = .int .i64 k ∧ Hid (SOwn wr W1.heap.size V (Cl.propN.take k)) ∧ Hid (Below W1.heap.size W1 wr)) (fun _ i _ => 8 - (intOf i).toNat)
  case atStart => exact ⟨0, by omega, rfl, Lib.hid (World.ownsRow_nil _ _ _ _), Lib.hid (Below.refl _ _)⟩
  case round =>
    obtain ⟨k, hk, rfl, HO, HB⟩ := hrel
    by_cases hlt : k < 8
    · obtain ⟨p, hp⟩ : ∃ p, Cl.propB[k]? = some p := ⟨Cl.propB[k]'(hlt), List.getElem?_eq_getElem _⟩
      have hgr : wr.heap[W.heap.size]? = some (.cells (Cl.cellsT Cl.propB) 56 (0, 0)) := (HB.out.block _ hgs).trans HG.out
      have hca := Cl.cells_at Cl.propB k p hp
      have hc1 : wr.cell? ⟨W.heap.size, k * 2, none⟩ = some (.string p.1) := by simp only [World.cell?, hgr]; exact hca.1
      have hc2 : wr.cell? ⟨W.heap.size, k * 2 + 1, none⟩ = some (.string p.2) := by simp only [World.cell?, hgr]; exact hca.2
      have hgl : W.heap.size < wr.heap.size := Nat.lt_of_lt_of_le hgs HB.out.size
      have hsz := HB.out.size
      have hpl : (Cl.propN.take k).length = k := by rw [List.length_take]; exact Nat.min_eq_left hk
      have HPS : Hid (Cl.propN.take (k + 1) = Cl.propN.take k ++ [p.1]) := Lib.hid (by rw [List.take_add_one]; unfold Cl.propN; rw [List.getElem?_map, hp]; rfl)
      obtain ⟨p1, p2⟩ := p
      dsimp only at hc1 hc2 HPS
      have hown := HO.out
      unfold SOwn at hown
      rw [hpl] at hown
      have hsl : ∃ a cap, u1 = Value.slice a k cap := by
        rcases hown.2 with ⟨hv, h0⟩ | ⟨g, cap, cur, hv, _⟩
        · exact ⟨none, 0, by rw [h0]; exact hv⟩
        · exact ⟨_, _, hv⟩
      obtain ⟨a1, cap1, rfl⟩ := hsl
      obtain ⟨g, cap, W2, hrun, hown2, hgrow, hat, hlt2⟩ := run_append_lies (P := Tryz.prog) ((wr.alloc (.cells #[.string p1, .string p2] 56)).alloc (.cells #[.string p1] 9)) 29 29 W1.heap.size 9 i0 (.string ByteArray.empty) 1 16 Tryz.underlying29 hi hz0 hz1 hz2 rfl (by omega) _ k ((Cl.propN.take k).map Value.string) ((hown.alloc _).alloc _)
        ⟨wr.heap.size + 1, 0, none⟩ 1 1 [.string p1] (by rfl) (by
          have := World.news_of_block (cs := #[.string p1]) (t := 9) (fr := (0, 0)) (heap_alloc_new (wr.alloc (.cells #[.string p1, .string p2] 56)) (.cells #[.string p1] 9))
          rw [World.size_alloc] at this; exact this) (by simp [Value.oneCell']) (by omega) (by unfold maxLen; omega) (by omega) (by simp; omega) (wr.heap.size + 1 + 1) (by simp)
      have HP := Lib.hid hp
      clear hca hgr hp hi hz0 hz1 hz2
      go_wp2_with (at_builtin; refine wpList_append_run rfl _ _ 29 rfl _ _ (.slice (some ⟨g, 0, none⟩) (k + 1) cap) W2 rfl rfl hrun ?_)
      have hO2 : SOwn W2 W1.heap.size (.slice (some ⟨g, 0, none⟩) (k + 1) cap) (Cl.propN.take (k + 1)) := by
        rw [HPS.out]; unfold SOwn; rw [List.length_append, hpl, List.map_append]; exact hown2
      have hlt3 : ∀ q, (Value.slice a1 k cap1).ownBlock = some q → W1.heap.size ≤ q := fun q hq => (World.ownsRow.lt hown q hq).1
      have hB2 := ((HB.out.alloc hsz (.cells #[.string p1, .string p2] 56)).alloc (by simp; omega) (.cells #[.string p1] 9)).grown hgrow (by simp; omega) (fun q hq => hlt3 q hq)
      go_roundw
      case rel => exact ⟨k + 1, by omega, by go_num, Lib.hid hO2, Lib.hid hB2⟩
      case measure => simp [intOf]; omega
    · obtain rfl : k = 8 := by omega
      have hO := HO.out
      rw [show Cl.propN.take 8 = Cl.propN from rfl] at hO
      have HO2 := Lib.hid hO
      clear hO
      go_wp2_with fail
      refine (sort_names _ _ _ HO2.out).mono ?_
      rintro e w5 ⟨rfl, ho5, hb5⟩
      have HO5 := Lib.hid ho5
      have HB5 := Lib.hid (HB.out.trans hb5)
      clear ho5 hb5
      go_wp2
      go_ret
      exact ⟨_, rfl, HO5.out.row, hB0.out.trans (HB5.out.mono hB0.out.size)⟩
end Go.Proofs.YtimgdooelbhjfaaGreatDoor
