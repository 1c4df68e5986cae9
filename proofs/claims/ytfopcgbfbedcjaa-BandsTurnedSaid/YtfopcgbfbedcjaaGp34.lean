/- An argument that is a list of ranges, opened. · What the laws of ranges use: lent lists as rows, the reference's Check on rows. · The law BandsSplits, walked. -/
import Derived.Test.YtfopcgbfbedcjaaGp4
import Derived.Deep.SlicePairs
import Derived.ProofKit
import Derived.SizedLaws
import Derived.Lib.RowBridge
import Derived.Test.YtfopcgbfbedcjaaGp9
import Derived.Test.YtfopcgbfbedcjaaGp30
import Derived.Test.YtfopcgbfbedcjaaGp18
namespace Go.Proofs.Ytfopcgbfbedcjaa
open Go.ChangeShapes Go.WideShapes Go.ChangeAt Go.RowKit
set_option linter.unusedVariables false
theorem laidOut : laidOutB Try.prog = true := by kernel_rfl
theorem rangeStruct : ∃ f0 f1 : Field, Try.prog.underlying 44 = some (.struct #[f0, f1]) ∧ f0.offset = 0 ∧ f1.offset = 1 ∧ f0.type = 3 ∧ f1.type = 3 := ⟨_, _, Try.underlying44, rfl, rfl, rfl, rfl⟩
theorem rangeCells : Try.prog.cellsOf 44 = 2 := by kernel_rfl
theorem intCells : Try.prog.cellsOf 3 = 1 := by kernel_rfl
theorem rangeBytes : Try.prog.bytesOf 44 = 16 := by kernel_rfl
theorem choose_pairs {α : Type} {n : Nat} {p : Nat → α → Prop} [Inhabited α] (h : ∀ i, i < n → ∃ x, p i x) : ∃ f : Nat → α, ∀ i, i < n → p i (f i) := by
  classical
  exact ⟨fun i => if hi : i < n then (h i hi).choose else default, fun i hi => by simp only [dif_pos hi]; exact (h i hi).choose_spec⟩
set_option maxRecDepth 100000 in
theorem open_ranges {H : Type} {enc : TypeId × Value → H} {W : World} {base : Nat} {v : Value} {d : DataW H} {p : List MemPlace} (hv : Value.okWide Try.prog W .any base 22 v)
    (h : DataW.Trod enc Try.prog W 0 (fun _ => true) true 22 v d p) (hs : ∀ elems spare, d = .slice elems spare → (elems.length + spare.length) * 16 ≤ 140737488351232) : ∃ l, RRow W v l := by
  obtain ⟨fuel, hf⟩ := h
  obtain ⟨f0, f1, he, o0, o1, t0, t1⟩ := rangeStruct
  obtain ⟨a0, len0, cap0, rfl⟩ := okWide_slice Try.underlying22 hv
  rcases Deep.open_slice_pairs Try.underlying22 he rangeCells o0 o1 (by rw [t0]; exact intCells) (by rw [t1]; exact intCells) hf with ⟨hcs, hx⟩ | ⟨a, len, cap, m, n, V0, V1, D0, D1, P0, P1, hcs, hb, hl, hm, hmm, hx, hi⟩
  · simp [Value.cells] at hcs
    obtain ⟨rfl, rfl, rfl⟩ := hcs
    exact ⟨[], RRow.nil W⟩
  · simp [Value.cells] at hcs
    obtain ⟨rfl, rfl, rfl⟩ := hcs
    simp only [if_true] at hmm
    subst hmm
    simp only [Prod.mk.injEq] at hx
    have hsz := hs _ _ hx.1
    simp only [List.length_map, List.length_range] at hsz
    have each : ∀ i, i < m → ∃ x : Int × Int, V0 i = .int .i64 x.1 ∧ V1 i = .int .i64 x.2 ∧ (Lit.int .i64 x.1).wf = true ∧ (Lit.int .i64 x.2).wf = true := by
      intro i him
      obtain ⟨_, _, h3, h4⟩ := hi i him
      rw [t0] at h3
      rw [t1] at h4
      obtain ⟨z0, e0, _, w0⟩ := DataW.trod_int Try.underlying3 h3
      obtain ⟨z1, e1, _, w1⟩ := DataW.trod_int Try.underlying3 h4
      exact ⟨(z0, z1), by simpa using e0, by simpa using e1, w0, w1⟩
    obtain ⟨f, hf2⟩ := choose_pairs each
    refine ⟨(List.range len0).map f, _, _, by rw [List.length_map, List.length_range], by rw [List.length_map, List.length_range]; omega, fun q hq => ?_, fun j hj => ?_⟩
    · obtain ⟨i, hir, rfl⟩ := List.mem_map.1 hq
      have hil := List.mem_range.1 hir
      obtain ⟨_, _, w0, w1⟩ := hf2 i (by omega)
      have h1 : IntKind.i64.min = -9223372036854775808 := rfl
      have h2 : IntKind.i64.max = 9223372036854775807 := rfl
      simp [Lit.wf, h1, h2] at w0 w1
      omega
    · rw [List.length_map, List.length_range] at hj
      obtain ⟨c0, c1, _, _⟩ := hi j (by omega)
      obtain ⟨b, off, spot⟩ := a
      have hspot : spot = none := by simpa [Addr.add] using World.cell?_spot (hi 0 (by omega)).1
      subst hspot
      obtain ⟨e0, e1, _, _⟩ := hf2 j (by omega)
      rw [e0, add_plain] at c0
      rw [e1, add_plain] at c1
      have hg : ((List.range len0).map f)[j]?.getD (0, 0) = f j := by simp [hj]
      rw [hg]
      exact ⟨b, off, rfl, World.block_lt_of_cell? W _ c0, c0, by rw [Nat.add_assoc]; exact c1⟩
end Go.Proofs.Ytfopcgbfbedcjaa
namespace Go.Proofs.Ytfopcgbfbedcjaa
open Go.RowKit
set_option linter.unusedVariables false
theorem lend_row {W : World} {base g cap : Nat} {l : List (Int × Int)} {p : Int × Int} (h : RgOwn W base (.slice (some ⟨g, 0, none⟩) (l.length + 1) cap) (l ++ [p])) (hl : l.length ≤ 8796093022208) (hw : Wide64 l) :
    RRow W (.slice (some ⟨g, 0, none⟩) l.length cap) l ∧ W.cell? ⟨g, l.length * 2, none⟩ = some (.int .i64 p.1) ∧ W.cell? ⟨g, l.length * 2 + 1, none⟩ = some (.int .i64 p.2) ∧ g < W.heap.size := by
  obtain ⟨g', cap', hv, hb, hg⟩ := RgOwn.form h
  injection hv with hv _ _
  injection hv with hv
  injection hv with hv _ _
  subst hv
  have h' : W.ownsRow base 44 2 (.slice (some ⟨g, 0, none⟩) (l.length + 1) cap) (l.length + 1) (flat2 (l ++ [p])) := by
    have := h; unfold RgOwn at this; rw [List.length_append] at this; exact this
  have get : ∀ j, j < l.length + 1 → W.cell? ⟨g, j * 2, none⟩ = some (.int .i64 ((l ++ [p])[j]?.getD (0, 0)).1) ∧ W.cell? ⟨g, j * 2 + 1, none⟩ = some (.int .i64 ((l ++ [p])[j]?.getD (0, 0)).2) := by
    intro j hj
    have hf := flat2_get (l ++ [p]) j (by simpa using hj)
    exact ⟨(h'.cellAt _ (by omega)).trans hf.1, (h'.cellAt _ (by omega)).trans hf.2⟩
  have last := get l.length (by omega)
  rw [List.getElem?_append_right (Nat.le_refl _), Nat.sub_self] at last
  refine ⟨⟨_, cap, rfl, hl, hw, fun j hj => ⟨g, 0, rfl, hg, ?_, ?_⟩⟩, last.1, last.2, hg⟩
  · have := (get j (by omega)).1
    rw [List.getElem?_append_left hj] at this
    rw [Nat.zero_add]; exact this
  · have := (get j (by omega)).2
    rw [List.getElem?_append_left hj] at this
    rw [Nat.zero_add]; exact this
theorem RRow.wide {W : World} {v : Value} {l : List (Int × Int)} (h : RRow W v l) : l.length ≤ 8796093022208 ∧ Wide64 l := by
  obtain ⟨a, cap, hv, hl, hw, hc⟩ := h
  exact ⟨hl, hw⟩
/-- A lent list: it reads as l, and the mark lies behind it. -/
structure Lent (W : World) (g n cap : Nat) (l : List (Int × Int)) : Prop where
  len : l.length = n
  row : RRow W (.slice (some ⟨g, 0, none⟩) n cap) l
  cap : n + 1 ≤ cap
  lo : W.cell? ⟨g, n * 2, none⟩ = some (.int .i64 7)
  hi : W.cell? ⟨g, n * 2 + 1, none⟩ = some (.int .i64 0)
  lt : g < W.heap.size
theorem Lent.below {W W' : World} {g n cap : Nat} {l : List (Int × Int)} (h : Lent W g n cap l) (hb : Below W.heap.size W W') : Lent W' g n cap l :=
  ⟨h.len, h.row.below (Nat.le_refl _) hb, h.cap, (hb.cell (p := ⟨g, n * 2, none⟩) h.lt).trans h.lo, (hb.cell (p := ⟨g, n * 2 + 1, none⟩) h.lt).trans h.hi, Nat.lt_of_lt_of_le h.lt hb.size⟩
theorem lend_any (W : World) (v : Value) (l : List (Int × Int)) (n : Nat) (hn : l.length = n) (h : RRow W v l) :
    Calls Try.prog 9 #[v] W fun e w' => ∃ g cap, e = .returned (.slice (some ⟨g, 0, none⟩) n cap) ∧ Lent w' g n cap l ∧ Below W.heap.size W w' := by
  subst hn
  refine (lend_walk W v l h).mono ?_
  rintro e w' ⟨g, cap, hc, rfl, ho, hb⟩
  obtain ⟨h1, h2, h3, h4⟩ := lend_row ho h.wide.1 h.wide.2
  exact ⟨g, cap, rfl, ⟨rfl, h1, hc, h2, h3, h4⟩, hb⟩
theorem kept_any (W : World) (vb : Value) (g n cap : Nat) (l : List (Int × Int)) (h : Lent W g n cap l) (hb : RRow W vb l) :
    Calls Try.prog 15 #[.slice (some ⟨g, 0, none⟩) n cap, vb] W fun e w' => e = .returned (.bool true) ∧ ∃ d, w' = W.drewN d :=
  kept_walk W vb g n cap l h.len h.row hb h.cap (by have := hb.wide.1; have := h.len; omega) h.lo h.hi
theorem same_refl_row (W : World) (va vb : Value) (l m : List (Int × Int)) (ha : RRow W va l) (hb : RRow W vb m) (e : l = m) :
    Calls Try.prog 25 #[va, vb] W fun e W' => e = .returned (.bool true) ∧ Below W.heap.size W W' := by
  subst e
  refine (same_rg W va vb l l ha hb).mono ?_
  rintro e w' ⟨rfl, d, rfl⟩
  exact ⟨by rw [decide_eq_true rfl], below_drewN (Below.refl _ _) d⟩
end Go.Proofs.Ytfopcgbfbedcjaa
namespace Go.Proofs.Ytfopcgbfbedcjaa
open Go.RowKit
set_option linter.unusedVariables false
theorem wf_i64 {a : Int} (h : (Lit.int .i64 a).wf = true) : -9223372036854775808 ≤ a ∧ a ≤ 9223372036854775807 := by
  have h1 : IntKind.i64.min = -9223372036854775808 := rfl
  have h2 : IntKind.i64.max = 9223372036854775807 := rfl
  simp [Lit.wf, h1, h2] at h
  omega
set_option maxRecDepth 100000 in
set_option maxHeartbeats 4000000 in
theorem walkBandsSplits (W : World) (lo hi : Int) (v : Value) (l : List (Int × Int)) (w1 : (Lit.int .i64 lo).wf = true) (w2 : (Lit.int .i64 hi).wf = true) (hr : RRow W v l) :
    Calls Try.prog 3 #[.int .i64 lo, .int .i64 hi, v] W fun e w' => e = .returned (.bool true) ∧ Below W.heap.size W w' := by
  have HR := Lib.hid hr
  obtain ⟨a, cap, rfl, hl, _⟩ := hr
  obtain ⟨n, hn⟩ : ∃ n, l.length = n := ⟨_, rfl⟩
  rw [hn] at HR hl ⊢
  have HN := Lib.hid hn
  have HLO := Lib.hid (wf_i64 w1)
  have HHI := Lib.hid (wf_i64 w2)
  clear hn w1 w2
  by_cases h20 : 20 < n
  · go_enter Try.func3, Try.ntmps3
    go_wp2_with fail
    refine (works5_any _).mono ?_
    rintro e w1 ⟨rfl, hb⟩
    have HB := Lib.hid hb
    clear hb
    go_wp2
    go_ret
    exact ⟨rfl, HB.out⟩
  · go_enter Try.func3, Try.ntmps3
    go_wp2_with fail
    refine (lend_any _ _ l n HN.out HR.out).mono ?_
    rintro e w1 ⟨g, c1, rfl, hL, hb⟩
    have HL := Lib.hid hL
    have HV := Lib.hid (HR.out.below (Nat.le_refl _) hb)
    have HB := Lib.hid hb
    clear hL hb
    go_wp2_with fail
    refine (split_any _ lo hi HLO.out HHI.out).mono ?_
    rintro e w2 ⟨v2, us2, rfl, hq, hb⟩
    have HQ2 := Lib.hid (hq.row2 (Bd.splitL_ok lo hi))
    have D2 := Lib.hid hb
    clear hq hb
    go_wp2_with fail
    refine (refSplit_any _ lo hi).mono ?_
    rintro e w3 ⟨v3, us3, rfl, hq, hb⟩
    have HQ3 := Lib.hid (hq.row2 (Bd.splitL_ok lo hi))
    have HQ2' := Lib.hid (HQ2.out.below hb)
    have D3 := Lib.hid (D2.out.trans (hb.mono D2.out.size))
    clear hq hb
    go_wp2_with fail
    refine (same_seq_eq _ _ _ _ HQ2'.out HQ3.out).mono ?_
    rintro e w4 ⟨rfl, hb⟩
    have D4 := Lib.hid (D3.out.trans (hb.mono D3.out.size))
    clear hb HQ2 HQ3 HQ2'
    go_wp2_with fail
    refine (of_any _ _ l (HL.out.below D4.out).row).mono ?_
    rintro e w5 ⟨C, hC, v5, us5, rfl, hq, hb⟩
    have HC := Lib.hid hC
    have HQ5 := Lib.hid (hq.row2 (Bd.ofL_ok hC.norm))
    have D5 := Lib.hid (D4.out.trans (hb.mono D4.out.size))
    clear hq hb hC
    go_wp2_with fail
    refine (refOf_any _ _ l (HV.out.below (Nat.le_refl _) D5.out)).mono ?_
    rintro e w6 ⟨B, hB, v6, us6, rfl, hq, hb⟩
    have hBC : Bd.ofL C = Bd.ofL B := by rw [Bd.both_pieces hB HC.out, Bd.ofL_pieces]
    have HQ5' := Lib.hid (HQ5.out.below hb)
    rw [hBC] at HQ5'
    have HQ6 := Lib.hid (hq.row2 (Bd.ofL_ok hB.norm))
    have D6 := Lib.hid (D5.out.trans (hb.mono D5.out.size))
    clear hq hb hB hBC HQ5
    go_wp2_with fail
    refine (same_seq_eq _ _ _ _ HQ5'.out HQ6.out).mono ?_
    rintro e w7 ⟨rfl, hb⟩
    have D7 := Lib.hid (D6.out.trans (hb.mono D6.out.size))
    clear hb
    go_wp2_with fail
    refine (kept_any _ _ g n c1 l (HL.out.below D7.out) (HV.out.below (Nat.le_refl _) D7.out)).mono ?_
    rintro e w8 ⟨rfl, d8, rfl⟩
    have D8 := Lib.hid (below_drewN D7.out d8)
    go_wp2_with fail
    refine (works5_any _).mono ?_
    rintro e w9 ⟨rfl, hb⟩
    have D9 := Lib.hid (D8.out.trans (hb.mono D8.out.size))
    clear hb
    go_wp2
    go_ret
    exact ⟨rfl, HB.out.trans (D9.out.mono HB.out.size)⟩
end Go.Proofs.Ytfopcgbfbedcjaa
