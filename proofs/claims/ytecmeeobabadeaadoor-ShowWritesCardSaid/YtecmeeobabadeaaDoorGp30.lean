/- A tree that is small has few nodes: from Great's 'no' to the bounds of All. · burinlaw10.ShowWrites, walked; the reference's Show. · An argument that is a list of ranges, opened. · An argument that is a tree, opened over this program. · What the rows' listed variables give the walks of show: a start that meets the list. · The closed facts of a row, part by part. -/
import Derived.Test.YtecmeeobabadeaaDoorGp29
import Derived.Test.YtecmeeobabadeaaDoorGp15
import Derived.Test.YtecmeeobabadeaaDoorGp21
import Derived.Test.YtecmeeobabadeaaDoorGp16
import Derived.Test.YtecmeeobabadeaaDoorGp1
import Derived.Deep.SlicePairs
import Derived.ProofKit
import Derived.SizedLaws
import Derived.Lib.RowBridge
import Derived.Test.YtecmeeobabadeaaDoorGp2
import Derived.Test.YtecmeeobabadeaaDoorGp7
import Derived.LaidMore
import Derived.Stop.Joined
import Derived.Stop.LaidErr
import Derived.Lib.LaidTab
import Derived.Lib.TrailingZeros
import Derived.JoinedOf
import Derived.KernelRfl
namespace Go.Proofs.YtecmeeobabadeaaDoor
set_option linter.unusedVariables false
namespace Td
theorem flat_sum_le (f : Nd → List (Nat × Nd)) (g : Nd → Nat) : ∀ (l : List Nd), (∀ m ∈ l, (f m).length ≤ g m) → (l.flatMap f).length ≤ (l.map g).sum
  | [], _ => by simp
  | m :: l, h => by
    have h1 := h m (by simp)
    have h2 := flat_sum_le f g l (fun x hx => h x (List.mem_cons_of_mem _ hx))
    rw [List.flatMap_cons, List.length_append, List.map_cons, List.sum_cons]; omega
theorem all_le_wgt : ∀ (k j d : Nat) (n : Nd), fit k n → (all j d n).length ≤ wgt k n
  | 0, _, _, _, h => h.elim
  | k + 1, 0, _, _, _ => by simp [all]
  | k + 1, j + 1, d, n, h => by
    rw [all, wgt, List.length_cons]
    have := flat_sum_le (all j (d + 1)) (wgt k) (subs n) (fun m hm => all_le_wgt k j (d + 1) m (h.2.2.2 m hm))
    omega
theorem all_small (n : Nd) (most : Int) (hm : most ≤ 1000000) (h : (wgt 40 n : Int) ≤ most ∧ fit 40 n) (d : Nat) : (all 1000 d n).length ≤ 1000000 := by
  have := all_le_wgt 40 1000 d n h.2
  omega
end Td
end Go.Proofs.YtecmeeobabadeaaDoor
namespace Go.Proofs.YtecmeeobabadeaaDoor
open Go.RowKit
set_option linter.unusedVariables false
set_option maxRecDepth 100000 in
set_option maxHeartbeats 8000000 in
theorem refShow_any (W : World) (n : Nd) (cs : List Value) (hn : NdIs W n cs) (hlen : (Td.all 1000 1 n).length ≤ 1000000) :
    Calls Tryd.prog 7 #[.agg cs.toArray] W fun e w' => ∃ T c, e = .returned (.tuple #[.string T, .int .i64 c]) ∧ ShowIs n T c ∧ Below W.heap.size W w' := by
  have HON := Lib.hid hn
  obtain ⟨u0, u1, u2, u3, u4, u5, u6, u7, sa, sc, aa, ac, rfl, F⟩ := hn.form_of
  obtain ⟨wb, hwb⟩ : ∃ wb, W.alloc (.cells #[u0, u1, u2, u3, u4, u5, u6, u7] 25) = wb := ⟨_, rfl⟩
  have hbb : Below W.heap.size W wb := by rw [← hwb]; exact (Below.refl _ _).alloc (Nat.le_refl _) _
  have hbx : wb.heap[W.heap.size]? = some (.cells #[u0, u1, u2, u3, u4, u5, u6, u7] 25 (0, 0)) := by rw [← hwb]; exact heap_alloc_new _ _
  obtain ⟨s0, hs0⟩ : ∃ s0, W.heap.size = s0 := ⟨_, rfl⟩
  have HS0 := Lib.hid hs0
  have HWB := Lib.hid hwb
  have HBB := Lib.hid hbb
  rw [hs0] at hbx
  have HBX := Lib.hid hbx
  have hlt := (Array.getElem?_eq_some_iff.1 hbx).1
  obtain ⟨C, hC⟩ : ∃ C, Td.checkN n = C := ⟨_, rfl⟩
  have HC := Lib.hid hC
  have HCK := Lib.hid (fun w (h : Below W.heap.size W w) => refCheck6_any w n _ (HON.out.kept h) hlen)
  rw [hC] at HCK
  have HTX := Lib.hid (fun w (h : Below W.heap.size W w) (hz : FitZ 1000 n) => textR_any 1000 w n _ 4096 1 (HON.out.kept h) hz hlen ⟨by omega, by omega⟩)
  obtain ⟨rfl, rfl, rfl, rfl, rfl, rfl, rfl, rfl⟩ := F
  clear hbb hbx hwb hn hs0 hC
  go_enter Tryd.func7, Tryd.ntmps7
  go_wp2_with fail
  rw [HWB.out, HS0.out]
  refine (HCK.out _ HBB.out).mono ?_
  rintro e w1 ⟨rfl, hb1⟩
  have hx1 := (hb1.block _ hlt).trans HBX.out
  have HB1 := Lib.hid (HBB.out.trans (hb1.mono HBB.out.size))
  obtain ⟨d0, d1, d2, d3, d4, d5, d6, d7⟩ := box_cells hx1
  clear hb1 hx1
  by_cases h0 : C = 0
  · subst h0
    have HFZ := Lib.hid (fitZ_check HC.out)
    go_wp2_with fail
    refine (HTX.out _ HB1.out HFZ.out).mono ?_
    rintro e w2 ⟨T, rfl, hT, hb2⟩
    have HB2 := Lib.hid (HB1.out.trans (hb2.mono HB1.out.size))
    have HT := Lib.hid hT
    clear hb2 hT d0 d1 d2 d3 d4 d5 d6 d7
    by_cases hl : (4096 : Int) < (T.size : Int)
    · have HFN : Hid (ShowIs n ⟨#[]⟩ 2) := Lib.hid (.inr ⟨HC.out, .inr ⟨by have := HT.out.short; omega, rfl, rfl⟩⟩)
      go_wp2
      go_ret2
      exact ⟨_, _, rfl, HFN.out, HB2.out⟩
    · have HFN : Hid (ShowIs n T 0) := Lib.hid (by
        have h9 : ((Sh.shL 1000 n).length : Int) ≤ 4096 := by
          rcases Int.lt_or_le 4096 ((Sh.shL 1000 n).length : Int) with h | h
          · exact absurd (HT.out.cut h) hl
          · exact h
        exact .inr ⟨HC.out, .inl ⟨by omega, HT.out.all h9, rfl⟩⟩)
      go_wp2
      go_ret2
      exact ⟨_, _, rfl, HFN.out, HB2.out⟩
  · have hC0 : (C == 0) = false := by rw [beq_eq_false_iff_ne]; exact h0
    have HFIN : Hid (ShowIs n ⟨#[]⟩ C) := Lib.hid (.inl ⟨by rw [HC.out]; exact h0, rfl, HC.out.symm⟩)
    clear h0 d0 d1 d2 d3 d4 d5 d6 d7
    go_wp2
    go_ret2
    exact ⟨_, _, rfl, HFIN.out, HB1.out⟩
theorem show_same {n : Nd} {T U : ByteArray} {c d : Int} (h : ShowIs n T c) (k : ShowIs n U d) : T = U ∧ c = d := by
  rcases h with ⟨h1, h2, h3⟩ | ⟨h1, h2⟩
  · rcases k with ⟨k1, k2, k3⟩ | ⟨k1, k2⟩
    · exact ⟨by rw [h2, k2], by rw [h3, k3]⟩
    · exact absurd k1 h1
  · rcases k with ⟨k1, k2, k3⟩ | ⟨k1, k2⟩
    · exact absurd h1 k1
    · rcases h2 with ⟨a1, a2, a3⟩ | ⟨a1, a2, a3⟩
      · rcases k2 with ⟨b1, b2, b3⟩ | ⟨b1, b2, b3⟩
        · exact ⟨Br.nums_inj' (a2.trans b2.symm), by rw [a3, b3]⟩
        · omega
      · rcases k2 with ⟨b1, b2, b3⟩ | ⟨b1, b2, b3⟩
        · omega
        · exact ⟨by rw [a2, b2], by rw [a3, b3]⟩
set_option maxRecDepth 100000 in
set_option maxHeartbeats 8000000 in
theorem walkShowWrites (W : World) (cs : List Value) (n : Nd) (hn : NdIs W n cs) (hS : EvS W) : Calls Tryd.prog 3 #[.agg cs.toArray] W fun e w' => e = .returned (.bool true) ∧ Below W.heap.size W w' := by
  have HS := Lib.hid hS
  have HON := Lib.hid hn
  obtain ⟨u0, u1, u2, u3, u4, u5, u6, u7, sa, sc, aa, ac, rfl, F⟩ := hn.form_of
  obtain ⟨wb, hwb⟩ : ∃ wb, W.alloc (.cells #[u0, u1, u2, u3, u4, u5, u6, u7] 25) = wb := ⟨_, rfl⟩
  have hbb : Below W.heap.size W wb := by rw [← hwb]; exact (Below.refl _ _).alloc (Nat.le_refl _) _
  have hbx : wb.heap[W.heap.size]? = some (.cells #[u0, u1, u2, u3, u4, u5, u6, u7] 25 (0, 0)) := by rw [← hwb]; exact heap_alloc_new _ _
  obtain ⟨s0, hs0⟩ : ∃ s0, W.heap.size = s0 := ⟨_, rfl⟩
  have HS0 := Lib.hid hs0
  have HWB := Lib.hid hwb
  have HBB := Lib.hid hbb
  rw [hs0] at hbx
  have HBX := Lib.hid hbx
  have hlt := (Array.getElem?_eq_some_iff.1 hbx).1
  obtain ⟨rfl, rfl, rfl, rfl, rfl, rfl, rfl, rfl⟩ := F
  clear hbb hbx hwb hn hS hs0
  go_enter Tryd.func3, Tryd.ntmps3
  go_wp2_with fail
  rw [HWB.out, HS0.out]
  refine (refGreat_any _ n _ 600 (by omega) (by omega) (HON.out.kept HBB.out)).mono ?_
  rintro e w2 ⟨b, rfl, hgr, hb2⟩
  have HB2 := Lib.hid (HBB.out.trans (hb2.mono HBB.out.size))
  have hx2 := (hb2.block _ hlt).trans HBX.out
  have HX2 := Lib.hid hx2
  have h02 := (Array.getElem?_eq_some_iff.1 hx2).1
  obtain ⟨d0, d1, d2, d3, d4, d5, d6, d7⟩ := box_cells hx2
  clear hb2 hx2
  cases b with
  | true =>
    clear hgr d0 d1 d2 d3 d4 d5 d6 d7
    go_wp2_with fail
    refine (works10_any _ (HS.out.below (Nat.le_refl _) HB2.out)).mono ?_
    rintro e w3 ⟨rfl, hb3⟩
    have HB3 := Lib.hid (HB2.out.trans (hb3.mono HB2.out.size))
    clear hb3
    go_wp2
    go_ret
    exact ⟨rfl, HB3.out⟩
  | false =>
    have HLEN := Lib.hid (Td.all_small n 600 (by omega) (hgr rfl) 1)
    clear hgr
    go_wp2_with fail
    refine (show_any w2 n _ (HON.out.kept HB2.out) (HS.out.below (Nat.le_refl _) HB2.out) HLEN.out).mono ?_
    rintro e w3 ⟨T, c, rfl, hT, hb3⟩
    have HB3 := Lib.hid (HB2.out.trans (hb3.mono HB2.out.size))
    have hx3 := (hb3.block _ h02).trans HX2.out
    have HT := Lib.hid hT
    clear hb3 hT d0 d1 d2 d3 d4 d5 d6 d7
    obtain ⟨d0, d1, d2, d3, d4, d5, d6, d7⟩ := box_cells hx3
    clear hx3
    go_wp2_with fail
    refine (refShow_any w3 n _ (HON.out.kept HB3.out) HLEN.out).mono ?_
    rintro e w4 ⟨U, u, rfl, hU, hb4⟩
    obtain ⟨hu1, rfl⟩ := show_same hU HT.out
    subst hu1
    have HB4 := Lib.hid (HB3.out.trans (hb4.mono HB3.out.size))
    have huu : (U.toList == U.toList) = true := by simp
    have hcc : (u == u) = true := by simp
    clear hb4 hU d0 d1 d2 d3 d4 d5 d6 d7
    go_wp2_with fail
    refine (works10_any _ (HS.out.below (Nat.le_refl _) HB4.out)).mono ?_
    rintro e w5 ⟨rfl, hb5⟩
    have HB5 := Lib.hid (HB4.out.trans (hb5.mono HB4.out.size))
    clear hb5
    go_wp2
    go_ret
    exact ⟨rfl, HB5.out⟩
end Go.Proofs.YtecmeeobabadeaaDoor
namespace Go.Proofs.YtecmeeobabadeaaDoor
open Go.ChangeShapes Go.WideShapes Go.ChangeAt Go.RowKit
set_option linter.unusedVariables false
theorem laidOut : laidOutB Tryd.prog = true := by kernel_rfl
theorem rangeStruct : ∃ f0 f1 : Field, Tryd.prog.underlying 40 = some (.struct #[f0, f1]) ∧ f0.offset = 0 ∧ f1.offset = 1 ∧ f0.type = 3 ∧ f1.type = 3 := ⟨_, _, Tryd.underlying40, rfl, rfl, rfl, rfl⟩
theorem rangeCells : Tryd.prog.cellsOf 40 = 2 := by kernel_rfl
theorem intCells : Tryd.prog.cellsOf 3 = 1 := by kernel_rfl
theorem rangeBytes : Tryd.prog.bytesOf 40 = 16 := by kernel_rfl
end Go.Proofs.YtecmeeobabadeaaDoor
namespace Go.Proofs.YtecmeeobabadeaaDoor
open Go.ChangeShapes Go.WideShapes Go.ChangeAt Go.RowKit
set_option linter.unusedVariables false
theorem rgTypes6 : RgTypes Tryd.prog 22 40 3 :=
  ⟨Tryd.underlying22, rangeStruct, Tryd.underlying3, rangeCells, intCells, rangeBytes⟩
theorem ndTypes : NdTypes Tryd.prog 25 23 22 40 3 9 4 :=
  ⟨rgTypes6, ⟨_, _, _, _, _, _, _, _, Tryd.underlying25, ⟨rfl, rfl, rfl, rfl, rfl, rfl, rfl, rfl⟩, rfl, rfl, rfl, rfl, rfl, rfl, rfl, rfl⟩, Tryd.underlying23, Tryd.underlying9, Tryd.underlying4,
    ⟨by kernel_rfl, by kernel_rfl, by kernel_rfl, by kernel_rfl, by kernel_rfl, by kernel_rfl⟩, by kernel_rfl⟩
set_option maxRecDepth 100000 in
theorem open_node {H : Type} {enc : TypeId × Value → H} {W : World} {base : Nat} {v : Value} {d : DataW H} {p : List MemPlace} (hv : Value.okWide Tryd.prog W .any base 25 v)
    (h : DataW.Trod enc Tryd.prog W 0 (fun _ => true) true 25 v d p) (hs : ∀ n ∈ d.weights Tryd.prog 25, n ≤ reachBytes) : ∃ cs n, v = .agg cs.toArray ∧ NdIs W n cs := by
  obtain ⟨fuel, hf⟩ := h
  obtain ⟨cs, rfl, hsz⟩ := okWide_struct Tryd.underlying25 hv
  obtain ⟨n, hn⟩ := open_node_g ndTypes fuel hf hs
  exact ⟨cs.toList, n, by simp, hn⟩
end Go.Proofs.YtecmeeobabadeaaDoor
namespace Go.Proofs.YtecmeeobabadeaaDoor
open Go.RowKit
set_option linter.unusedVariables false
theorem own10 : ownKnob Tryd.prog.godebug = none := by kernel_rfl
def laid10 : List (String × DataW Unit) := Rows.showWritesRow.laid
theorem door10 (os : Os) (args : Array Value) : laidMetH Tryd.prog laid10 ((World.doorLaid Tryd.prog 24 os).forCall (fun _ _ => 0) ⟨#[], args, []⟩).memory := by
  rw [MakeChecks.laidMetH_plain _ _ _ (by kernel_rfl)]
  exact laidMet_of_run' 65 (by kernel_rfl) (by kernel_rfl)
theorem laid_db : (Rows.laid_math_bits_deBruijn64tab : DataW Unit) = Lib.tabData .u8 (Lib.deBruijn64tab.map (fun n : Nat => (n : Int))) := by kernel_rfl
theorem laid_p10 : (Rows.laid_internal_strconv_uint64pow10 : DataW Unit) = Lib.tabData .u64 Lib.pow10Tab := by kernel_rfl
theorem evs_of {W : World} (h : laidMetH Tryd.prog laid10 W) : EvS W := by
  rw [MakeChecks.laidMetH_plain _ _ _ (by kernel_rfl)] at h
  have h1 : laidMet Tryd.prog [("math/bits.deBruijn64tab", Rows.laid_math_bits_deBruijn64tab), ("internal/strconv.uint64pow10", Rows.laid_internal_strconv_uint64pow10)] W := h.tail
  have h2 : laidMet Tryd.prog [("internal/strconv.uint64pow10", Rows.laid_internal_strconv_uint64pow10)] W := h.tail.tail
  rw [laid_db] at h1
  rw [laid_p10] at h2
  have t1 := Lib.tabIs_of_head (g := 2) (by kernel_rfl) (by kernel_rfl) (t := 96) (n := 64) Tryd.underlying96 Tryd.underlying5 (by kernel_rfl) (by kernel_rfl) h1
  refine ⟨?_, Lib.tabIs_of_head (g := 0) (by kernel_rfl) (by kernel_rfl) (t := 89) (n := 20) Tryd.underlying89 Tryd.underlying82 (by kernel_rfl) (by kernel_rfl) h2⟩
  have h3 := t1.cell (g := 2) (by kernel_rfl) (16 * 285870213051353865 % 18446744073709551616 / 288230376151711744) (by decide +kernel)
  exact h3
end Go.Proofs.YtecmeeobabadeaaDoor
namespace Go.Proofs.YtecmeeobabadeaaDoor
open Go.ChangeShapes Go.WideShapes
set_option linter.unusedVariables false
def j1B (P : Program) (f : FuncId) (fn : Func) (s : ChangeSpec) (c : OpenClaim) : Bool := c.inPlace == P.inPlace f
def j2B (P : Program) (f : FuncId) (fn : Func) (s : ChangeSpec) (c : OpenClaim) : Bool := c.unfollowed == P.unfollowed f
def j3B (P : Program) (f : FuncId) (fn : Func) (s : ChangeSpec) (c : OpenClaim) : Bool := c.recurses == P.recurses f
def j4B (P : Program) (f : FuncId) (fn : Func) (s : ChangeSpec) (c : OpenClaim) : Bool := c.named == P.varsNamed f
def j5B (P : Program) (f : FuncId) (fn : Func) (s : ChangeSpec) (c : OpenClaim) : Bool := c.wf (OpenSpec.ofChange s) && laidOutB P && mapsRowed P && fn.params.all (P.readableRec ·) && namedTie P c.named s.vars && (c.stops == []) && (P.stops == []) && (c.knobs == []) && (P.stopKnobs == [])
def j6B (P : Program) (f : FuncId) (fn : Func) (s : ChangeSpec) (c : OpenClaim) : Bool := (c.maps == (fn.params.toList ++ s.plain.varTypes P).any (P.mapsRec ·)) && (c.ifaces == (fn.params.toList ++ s.plain.varTypes P).any (P.ifacesRec ·)) && (c.mapsOut == P.mapsAmong fn.resultTypes.toList) && (c.loops == (fn.params.toList ++ s.plain.varTypes P).any (P.loopsFrom ·)) && (c.wideKeys == (fn.params.toList ++ s.plain.varTypes P ++ fn.resultTypes.toList).any (P.wideKeysFrom ·))
def j7B (P : Program) (f : FuncId) (fn : Func) (s : ChangeSpec) (c : OpenClaim) : Bool := s.vars.all (P.varReadable ·) && fn.resultTypes.all (fun t => P.readableRec t && decide (t < P.types.size)) && (c.ifacesOut == fn.resultTypes.toList.any (P.ifacesRec ·)) && (c.loopsOut == fn.resultTypes.toList.any (P.loopsFrom ·)) && (c.plainKeys == P.plainKeys) && c.shortTexts.isNone && P.stopsHeard
def j8B (P : Program) (f : FuncId) (fn : Func) (s : ChangeSpec) (c : OpenClaim) : Bool := P.mayEnter
def j9B (P : Program) (f : FuncId) (fn : Func) (s : ChangeSpec) (c : OpenClaim) : Bool := (c.lifted == P.liftsFinal) && (P.make == some c.make)
def j10B (P : Program) (f : FuncId) (fn : Func) (s : ChangeSpec) (c : OpenClaim) : Bool := (c.kinds == (if c.domain.isEmpty then [] else fn.params.toList.map fun t => match P.underlying t with | some (.int k) => some k | _ => none)) && (c.pinned == c.pinnedBy)
def j11B (P : Program) (f : FuncId) (fn : Func) (s : ChangeSpec) (c : OpenClaim) : Bool := (c.veiled == (fn.params.toList ++ s.plain.varTypes P ++ fn.resultTypes.toList).any (P.veiledRec ·)) && c.veiledFits P fn.params.toList (fn.params.toList ++ s.plain.varTypes P ++ fn.resultTypes.toList)
theorem joined_of (P : Program) (f : FuncId) (fn : Func) (s : ChangeSpec) (c : OpenClaim) (h1 : j1B P f fn s c = true) (h2 : j2B P f fn s c = true) (h3 : j3B P f fn s c = true) (h4 : j4B P f fn s c = true) (h5 : j5B P f fn s c = true) (h6 : j6B P f fn s c = true) (h7 : j7B P f fn s c = true) (h8 : j8B P f fn s c = true) (h9 : j9B P f fn s c = true) (h10 : j10B P f fn s c = true) (h11 : j11B P f fn s c = true) : joinedFacts P f fn s c = true := by
  unfold j1B j2B j3B j4B j5B j6B j7B j8B j9B j10B j11B at *
  unfold joinedFacts
  simp only [Bool.and_eq_true] at *
  obtain ⟨⟨⟨⟨⟨⟨⟨⟨h5x1, h5x2⟩, h5x3⟩, h5x4⟩, h5x5⟩, h5x6⟩, h5x7⟩, h5x8⟩, h5x9⟩ := h5
  obtain ⟨⟨⟨⟨h6x1, h6x2⟩, h6x3⟩, h6x4⟩, h6x5⟩ := h6
  obtain ⟨⟨⟨⟨⟨⟨h7x1, h7x2⟩, h7x3⟩, h7x4⟩, h7x5⟩, h7x6⟩, h7x7⟩ := h7
  obtain ⟨h9x1, h9x2⟩ := h9
  obtain ⟨h10x1, h10x2⟩ := h10
  obtain ⟨h11x1, h11x2⟩ := h11
  and_intros <;> assumption
end Go.Proofs.YtecmeeobabadeaaDoor
