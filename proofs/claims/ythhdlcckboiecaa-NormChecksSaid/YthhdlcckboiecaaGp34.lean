/- The landed norm: Check. -/
import Derived.Test.YthhdlcckboiecaaGp33
import Derived.Test.YthhdlcckboiecaaGp25
import Derived.Test.YthhdlcckboiecaaGp17
namespace Go.Proofs.Ythhdlcckboiecaa
open Go.RowKit Go.Shelf
attribute [local go_sem] Oper.semAt_some
set_option linter.unusedVariables false
namespace Nm
/-- What Check of the core says. -/
def checkC (n : Nd) : Int := if 2000 < Td.dep 2001 n then 61 else if 4000 < (Td.all 2001 1 n).length then 110 else if (Td.all 2000 1 n).all (fun p => fitB p.2) then 0 else 60
theorem checkC_deep {n : Nd} (h : 2000 < Td.dep 2001 n) : checkC n = 61 := by unfold checkC; rw [if_pos h]
theorem deep_cut2 (l : List (Nat × Nd)) (n : Nd) (h : l <+: Td.all 2001 1 n) (hd : 2000 < Td.deepL l 0) : 2000 < Td.dep 2001 n := by
  obtain ⟨t, ht⟩ := h
  have h2 := Td.deep_all 2001 n
  rw [← ht, Td.deepL_append] at h2
  have := Td.deepL_le t (Td.deepL l 0)
  omega
end Nm
open _root_.Go.Proofs.Ythhdlcckboiecaa.Nm
set_option maxRecDepth 100000 in
set_option maxHeartbeats 8000000 in
theorem ncheck_in (n : Nat) (hn : 3 ≤ n) (W : World) (nd : Nd) (cs : List Value) (h : NdIs W nd cs) (hlen : (Td.all 2001 1 nd).length ≤ 1000000) (hH : Her nd) :
    CallsIn Fence.wide n Try.prog 7 #[.agg cs.toArray] W fun e W' => e = .returned (.int .i64 (checkC nd)) ∧ Below W.heap.size W W' := by
  have h1 : 1 ≤ n := by omega
  have HND := Lib.hid h
  obtain ⟨u0, u1, u2, u3, u4, u5, u6, u7, sa, sc, a, c, hcs, F⟩ := h.form_of
  subst hcs
  obtain ⟨rfl, rfl, rfl, rfl, rfl, rfl, rfl, rfl⟩ := F
  clear h
  refine callsIn_of_wp_marks Try.func7 rfl trivial ?_ rfl
  simp only [Try.ntmps7, List.size_toArray, List.length_cons, List.length_nil, Nat.reduceAdd, Nat.reduceSub, Array.replicate_succ, Array.replicate_zero, List.push_toArray, List.append_toArray, List.nil_append, List.cons_append]
  gi_wp2_with fail
  refine ⟨trivial, ?_⟩
  obtain ⟨w1, hw1⟩ : ∃ w1, ((W.alloc (.cells #[.int .i64 (Td.kind nd), .slice sa (Td.set nd).length sc, .int .i64 (Td.num nd), .string (Td.name nd), .int .i64 (Td.mn nd), .int .i64 (Td.mx nd), .bool (Td.lazy nd), .slice a (Td.subs nd).length c] 25)).alloc (.cells #[.int .i64 0] 28)).alloc (.cells #[.int .i64 0] 3) = w1 := ⟨_, rfl⟩
  have hb1 : Below W.heap.size W w1 := by rw [← hw1]; exact (((Below.refl _ W).alloc (Nat.le_refl _) _).alloc (by simp) _).alloc (by simp; omega) _
  have hsz : w1.heap.size = W.heap.size + 3 := by rw [← hw1]; simp
  have hnw : w1.heap[W.heap.size]? = some (.cells #[.int .i64 (Td.kind nd), .slice sa (Td.set nd).length sc, .int .i64 (Td.num nd), .string (Td.name nd), .int .i64 (Td.mn nd), .int .i64 (Td.mx nd), .bool (Td.lazy nd), .slice a (Td.subs nd).length c] 25 (0, 0)) := by
    rw [← hw1]; exact (Below.heap_alloc _ _ _ (by simp; omega)).trans ((Below.heap_alloc _ _ _ (by simp)).trans (heap_alloc_new W _))
  have bR : Boxed w1 (W.heap.size + 1) 28 (.int .i64 0) := by
    rw [← hw1]
    have h9 := (Boxed.new (W.alloc (.cells #[.int .i64 (Td.kind nd), .slice sa (Td.set nd).length sc, .int .i64 (Td.num nd), .string (Td.name nd), .int .i64 (Td.mn nd), .int .i64 (Td.mx nd), .bool (Td.lazy nd), .slice a (Td.subs nd).length c] 25)) 28 (.int .i64 0)).alloc (.cells #[.int .i64 0] 3)
    rwa [World.size_alloc] at h9
  have bN : Boxed w1 (W.heap.size + 2) 3 (.int .i64 0) := by
    rw [← hw1]
    have h9 := Boxed.new ((W.alloc (.cells #[.int .i64 (Td.kind nd), .slice sa (Td.set nd).length sc, .int .i64 (Td.num nd), .string (Td.name nd), .int .i64 (Td.mn nd), .int .i64 (Td.mx nd), .bool (Td.lazy nd), .slice a (Td.subs nd).length c] 25)).alloc (.cells #[.int .i64 0] 28)) 3 (.int .i64 0)
    rwa [World.size_alloc, World.size_alloc] at h9
  rw [hw1]
  have HSZ := Lib.hid hsz
  have HNW := Lib.hid hnw
  clear hw1 hsz hnw
  refine (callsIn_wide.2 (nodes_anyN w1 nd _ 2001 (HND.out.kept hb1))).mono ?_
  rintro e w' ⟨rfl, rfl⟩
  gi_wp2
  have hX1 : w1.heap[W.heap.size]? = some (.cells #[.int .i64 (Td.kind nd), .slice sa (Td.set nd).length sc, .int .i64 (Td.num nd), .string (Td.name nd), .int .i64 (Td.mn nd), .int .i64 (Td.mx nd), .bool (Td.lazy nd), .slice a (Td.subs nd).length c] 25 (0, 0)) := HNW.out
  refine wpIn_rangeFunc_ownG rfl h1 (gf := 24) (lb := #[.pointer (some ⟨w1.heap.size, 0, none⟩), .pointer (some ⟨w1.heap.size + 1, 0, none⟩)]) rfl trivial (enters_of Try.func24 (by kernel_rfl) rfl)
    (nodes_stopsN W w1 (n - 1) (W.heap.size + 5) 2001 (by omega) (by omega) nd _ HND.out hb1 (by rw [HSZ.out]; omega)) kpN_t (kpN_b (by simp [HSZ.out]; omega)) (Below.refl _ _) (fun _ => rfl)
    (fun pre W' => (dpL pre ≤ 2000 ∧ Boxed W' (W.heap.size + 2) 3 (.int .i64 (pre.length : Int)) ∧ Boxed W' (W.heap.size + 1) 28 (.int .i64 0) ∧ W'.heap[W.heap.size]? = some (.cells #[.int .i64 (Td.kind nd), .slice sa (Td.set nd).length sc, .int .i64 (Td.num nd), .string (Td.name nd), .int .i64 (Td.mn nd), .int .i64 (Td.mx nd), .bool (Td.lazy nd), .slice a (Td.subs nd).length c] 25 (0, 0))) ∧ Below W.heap.size W W')
    (fun c pre W' => (c = .ret ∧ 2000 < dpL pre ∧ Boxed W' (W.heap.size + 1) 28 (.int .i64 61)) ∧ Below W.heap.size W W')
    (OwnFrom.and (OwnFrom.and (fun _ _ _ _ hs _ _ => hs) (OwnFrom.and (Own.from (boxed_own _ _ _) _) (OwnFrom.and (Own.from (boxed_own _ _ _) _) (fun s A B row hs hg hr => blk_kept hs hg (fun r e => (hr r e).2))))) (ownFrom_below (Nat.le_refl _) (by simp [HSZ.out]; omega)))
    (fun c => OwnFrom.and (OwnFrom.and (fun _ _ _ _ hs _ _ => hs) (OwnFrom.and (fun _ _ _ _ hs _ _ => hs) (Own.from (boxed_own _ _ _) _))) (ownFrom_below (Nat.le_refl _) (by simp [HSZ.out]; omega)))
    ⟨⟨by simp [dpL, Td.deepL], (bN.alloc _).alloc _, (bR.alloc _).alloc _, (Below.heap_alloc _ _ _ (by simp [HSZ.out]; omega)).trans ((Below.heap_alloc _ _ _ (by simp [HSZ.out])).trans hX1)⟩, (hb1.alloc (by rw [HSZ.out]; omega) _).alloc (by simp [HSZ.out]; omega) _⟩
    (fun x => { tmps := #[.agg #[.int .i64 (Td.kind nd), .slice sa (Td.set nd).length sc, .int .i64 (Td.num nd), .string (Td.name nd), .int .i64 (Td.mn nd), .int .i64 (Td.mx nd), .bool (Td.lazy nd), .slice a (Td.subs nd).length c], .pointer (some ⟨W.heap.size, 0, none⟩), .pointer (some ⟨W.heap.size + 1, 0, none⟩), .pointer (some ⟨W.heap.size + 1 + 1, 0, none⟩), .int .i64 (x.1.1 : Int), undef, undef, .agg #[.int .i64 (Td.kind nd), .slice sa (Td.set nd).length sc, .int .i64 (Td.num nd), .string (Td.name nd), .int .i64 (Td.mn nd), .int .i64 (Td.mx nd), .bool (Td.lazy nd), .slice a (Td.subs nd).length c], .func (.func 24) #[] #[.pointer (some ⟨w1.heap.size, 0, none⟩), .pointer (some ⟨w1.heap.size + 1, 0, none⟩)], .int .i64 (x.1.1 : Int), .agg x.1.2.2.toArray, undef, undef, undef, undef, undef, undef, undef, undef, undef, undef, undef, undef, undef], defers := [] }) ?assign ?body ?done ?stop
  case assign =>
    intro l x W2 K hK
    unfold encN
    gi_wp2
    exact hK
  case body =>
    rintro l pre x W2 ⟨⟨hle, hc, hr, hX⟩, hB⟩ hl
    have hcc := hc.cell
    have hff := hc.frozen
    have hrc := hr.cell
    have hrf := hr.frozen
    have hw : IntKind.i64.wrap ((pre.length : Int) + 1) = ((pre.length + 1 : Nat) : Int) := by rw [IntKind.wrap_i64]; omega
    by_cases hgt : (2000 : Int) < (x.1.1 : Int)
    · gi_wp2
      exact ⟨(KeepsOthers.setCell _ _ _).from _, ⟨rfl, by rw [dpL_snoc]; omega, hr.set _⟩, hB.setCell (p := ⟨W.heap.size + 1, 0, none⟩) (by simp) _⟩
    · gi_wp2
      exact ⟨(KeepsOthers.setCell _ _ _).from _, KpN.set _ _ _ (by show W.heap.size ≤ W.heap.size + 1 + 1; omega) (by simp), ⟨by rw [dpL_snoc]; omega, by rw [List.length_append]; exact hc.set _, hr.kept (grownBy_setCell' _ _ _) (by simp), (heap_setOther _ _ _ _ _ (by omega)).trans hX⟩, hB.setCell (p := ⟨W.heap.size + 2, 0, none⟩) (by simp) _⟩
  case stop =>
    rintro D c pre W2 hD hpre ⟨⟨rfl, hdp, hr⟩, hB⟩ hK
    have hyl : checkC nd = 61 := checkC_deep (deep_cut2 _ _ hpre hdp)
    have HLN := Lib.hid hyl
    have HR := Lib.hid hr
    clear hpre hyl hr hdp
    gi_wp2
    refine ⟨by simp, .inl ⟨_, _, rfl, run_takeDeferred hK, ?_⟩⟩
    have hc5 := cell_kept HR.out.cell (grownBy_putObj' _ D (.deferred none)) (fun r e => by cases e; exact ⟨_, hK, rfl⟩)
    refine ⟨.int .i64 61, ?_, by rw [HLN.out], hB.trans (belowK_b (w := W) (Nat.le_refl _) _ D _ _ (by simp [HSZ.out] at hD; omega) hK rfl rfl)⟩
    simp [results, Try.f7, go_sem, hc5]
  case done =>
    rintro D ys W2 hD hys ⟨⟨hle, hc, hr, hX⟩, hB⟩ hK
    have hyl := len_map hys
    have hdl : ¬ 2000 < Td.dep 2001 nd := by
      have h8 : dpL ys = Td.dep 2001 nd := by unfold dpL; rw [hys]; exact Td.deep_all 2001 nd
      omega
    obtain ⟨L, hL⟩ : ∃ L, (Td.all 2001 1 nd).length = L := ⟨_, rfl⟩
    rw [hyl, hL] at hc
    have hcc := hc.cell
    have hrc := hr.cell
    have hrf := hr.frozen
    have HX2 := Lib.hid hX
    have HB2 := Lib.hid hB
    have HKD := Lib.hid hK
    have HR2 := Lib.hid hr
    have HDL := Lib.hid hdl
    have HLL := Lib.hid hL
    clear hys hyl hle hc hr hX hB hK hdl hL
    by_cases hbig : (4000 : Int) < (L : Int)
    · have hE : Hid (checkC nd = 110) := Lib.hid (by unfold checkC; rw [if_neg HDL.out, HLL.out, if_pos (by omega)])
      have hset := HR2.out.set (.int .i64 110)
      have HSET := Lib.hid hset
      have HB7 := Lib.hid (HB2.out.setCell (p := ⟨W.heap.size + 1, 0, none⟩) (by simp) (.int .i64 110))
      clear hset
      gi_wp2
      have hK' := (KeepsOthers.setCell W2 ⟨W.heap.size + 1, 0, none⟩ (.int .i64 110)).same D _ HKD.out rfl
      refine ⟨by simp, .inl ⟨_, _, rfl, run_takeDeferred hK', ?_⟩⟩
      have hc5 := cell_kept HSET.out.cell (grownBy_putObj' _ D (.deferred none)) (fun r e => by cases e; exact ⟨_, hK', rfl⟩)
      refine ⟨.int .i64 110, ?_, by rw [hE.out], HB7.out.trans (belowK_b (w := W) (Nat.le_refl _) _ D _ _ (by simp [HSZ.out] at hD; omega) hK' rfl rfl)⟩
      simp [results, Try.f7, go_sem, hc5]
    · have hE : Hid (checkC nd = if (Td.all 2000 1 nd).all (fun p => fitB p.2) then 0 else 60) := Lib.hid (by unfold checkC; rw [if_neg HDL.out, HLL.out, if_neg (by omega)])
      have b0 := blkc HX2.out 0
      have b1 := blkc HX2.out 1
      have b2 := blkc HX2.out 2
      have b3 := blkc HX2.out 3
      have b4 := blkc HX2.out 4
      have b5 := blkc HX2.out 5
      have b6 := blkc HX2.out 6
      have b7 := blkc HX2.out 7
      simp only [List.getElem?_toArray, List.getElem?_cons_zero, List.getElem?_cons_succ] at b0 b1 b2 b3 b4 b5 b6 b7
      gi_wp2_with fail
      refine ⟨trivial, ?_⟩
      refine (callsIn_wide.2 (nodes_anyN W2 nd _ 2000 (HND.out.kept HB2.out))).mono ?_
      rintro e w' ⟨rfl, rfl⟩
      clear b0 b1 b2 b3 b4 b5 b6 b7 hcc hrc hrf
      have hd2 : W.heap.size + 5 ≤ D := by
        have := hD
        simp only [World.size_alloc, HSZ.out] at this
        omega
      have hDl : D < W2.heap.size := (Array.getElem?_eq_some_iff.1 HKD.out).1
      have h5 : W.heap.size + 5 < W2.heap.size := by omega
      gi_wp2
      refine wpIn_rangeFunc_ownH rfl h1 (gf := 24) (lb := #[.pointer (some ⟨W2.heap.size, 0, none⟩), .pointer (some ⟨W2.heap.size + 1, 0, none⟩)]) rfl trivial (enters_of Try.func24 (by kernel_rfl) rfl)
        (nodes_stopsP W W2 (n - 1) (W2.heap.size + 2) 2000 (by omega) (by omega) nd _ HND.out HB2.out (Nat.le_refl _) hH) kpN_t (kpN_b (by simp only [World.size_alloc]; omega)) (Below.refl _ _) (fun _ => rfl)
        (fun pre W' => (pre.all (fun x => fitB x.1.1.2.1) = true ∧ Boxed W' (W.heap.size + 1) 28 (.int .i64 0) ∧ W'.heap[D]? = some (.deferred (some []))) ∧ Below W.heap.size W W')
        (fun c pre W' => (c = .ret ∧ pre.all (fun x => fitB x.1.1.2.1) = false ∧ Boxed W' (W.heap.size + 1) 28 (.int .i64 60) ∧ W'.heap[D]? = some (.deferred (some []))) ∧ Below W.heap.size W W')
        (OwnFrom.and (OwnFrom.and (fun _ _ _ _ hs _ _ => hs) (OwnFrom.and (Own.from (boxed_own _ _ _) _) (fun s A B row hs hg hr => dfr_kept hs hg (fun r e => by have := (hr r e).1; simp only [World.size_alloc] at this; omega)))) (ownFrom_below (Nat.le_refl _) (by simp only [World.size_alloc]; omega)))
        (fun c => OwnFrom.and (OwnFrom.and (fun _ _ _ _ hs _ _ => hs) (OwnFrom.and (fun _ _ _ _ hs _ _ => hs) (OwnFrom.and (Own.from (boxed_own _ _ _) _) (fun s A B row hs hg hr => dfr_kept hs hg (fun r e => by have := (hr r e).1; simp only [World.size_alloc] at this; omega))))) (ownFrom_below (Nat.le_refl _) (by simp only [World.size_alloc]; omega)))
        ⟨⟨rfl, (HR2.out.alloc _).alloc _, (Below.heap_alloc _ _ _ (by simp only [World.size_alloc]; omega)).trans ((Below.heap_alloc _ _ _ hDl).trans HKD.out)⟩, (HB2.out.alloc HB2.out.size _).alloc (by simp only [World.size_alloc]; omega) _⟩
        (fun x a' W' => ∃ Bx, W'.heap[Bx]? = some (.cells x.1.1.2.2.toArray 25 (0, 0)) ∧ a' = { tmps := #[.agg #[.int .i64 (Td.kind nd), .slice sa (Td.set nd).length sc, .int .i64 (Td.num nd), .string (Td.name nd), .int .i64 (Td.mn nd), .int .i64 (Td.mx nd), .bool (Td.lazy nd), .slice a (Td.subs nd).length c], .pointer (some ⟨W.heap.size, 0, none⟩), .pointer (some ⟨W.heap.size + 1, 0, none⟩), .pointer (some ⟨W.heap.size + 1 + 1, 0, none⟩), undef, undef, .pointer (some ⟨Bx, 0, none⟩), .agg #[.int .i64 (Td.kind nd), .slice sa (Td.set nd).length sc, .int .i64 (Td.num nd), .string (Td.name nd), .int .i64 (Td.mn nd), .int .i64 (Td.mx nd), .bool (Td.lazy nd), .slice a (Td.subs nd).length c], .func (.func 24) #[] #[.pointer (some ⟨w1.heap.size, 0, none⟩), .pointer (some ⟨w1.heap.size + 1, 0, none⟩)], undef, undef, undef, undef, undef, undef, .int .i64 L, .bool false, .agg #[.int .i64 (Td.kind nd), .slice sa (Td.set nd).length sc, .int .i64 (Td.num nd), .string (Td.name nd), .int .i64 (Td.mn nd), .int .i64 (Td.mx nd), .bool (Td.lazy nd), .slice a (Td.subs nd).length c], .func (.func 24) #[] #[.pointer (some ⟨W2.heap.size, 0, none⟩), .pointer (some ⟨W2.heap.size + 1, 0, none⟩)], .int .i64 (x.1.1.1 : Int), .agg x.1.1.2.2.toArray, undef, undef, undef], defers := [] })
        (fun x a' s A B row hs hg hr => by
          obtain ⟨Bx, q2, q3⟩ := hs
          exact ⟨Bx, blk_kept q2 hg (fun r e => (hr r e).2), q3⟩) ?assign2 ?body2 ?done2 ?stop2
      case assign2 =>
        intro l pre x W3 K hi hK
        obtain ⟨⟨hok, hR, hdf⟩, hB⟩ := hi
        obtain ⟨v0, v1, v2, v3, v4, v5, v6, v7, sa', sc', a', c', hx, F'⟩ := x.1.2.form_of
        have HK : Hid (∀ (W' : World) (cs' : Array Value), cs' = x.1.1.2.2.toArray → W' = W3.alloc (.cells cs' 25) → ∀ a', a' = _ → K a' W') := Lib.hid (fun W' cs' ec ew a' ea => hK a' W' (by rw [ew]; exact (KeepsOthers.alloc _ _).from _) (by rw [ew]; exact KpN.alloc _ _ hB.size)
          (by rw [ew]; exact ⟨⟨hok, hR.alloc _, (Below.heap_alloc _ _ _ (Array.getElem?_eq_some_iff.1 hdf).1).trans hdf⟩, hB.alloc hB.size _⟩) ⟨W3.heap.size, by rw [ew, ec]; exact heap_alloc_new _ _, ea⟩)
        obtain ⟨rfl, rfl, rfl, rfl, rfl, rfl, rfl, rfl⟩ := F'
        unfold encN
        rw [hx]
        clear hK hR hB hok hdf
        gi_wp2
        exact HK.out _ _ (by rw [hx]) rfl _ (by rw [hx])
      case body2 =>
        rintro l pre x a' W3 hl0 hrec ⟨⟨hok, hR, hdf⟩, hB⟩ ⟨Bx, hbx, rfl⟩ hl
        have HFT := Lib.hid (fits_any W3 x.1.1.2.1 x.1.1.2.2 (x.1.2.kept hB) x.2.here)
        obtain ⟨v0, v1, v2, v3, v4, v5, v6, v7, sa', sc', a', c', hx, F'⟩ := x.1.2.form_of
        obtain ⟨rfl, rfl, rfl, rfl, rfl, rfl, rfl, rfl⟩ := F'
        rw [hx] at hbx HFT
        have c0 := blkc hbx 0
        have c1 := blkc hbx 1
        have c2 := blkc hbx 2
        have c3 := blkc hbx 3
        have c4 := blkc hbx 4
        have c5 := blkc hbx 5
        have c6 := blkc hbx 6
        have c7 := blkc hbx 7
        simp only [List.getElem?_toArray, List.getElem?_cons_zero, List.getElem?_cons_succ] at c0 c1 c2 c3 c4 c5 c6 c7
        obtain ⟨fb, hfb⟩ : ∃ fb, fitB x.1.1.2.1 = fb := ⟨_, rfl⟩
        rw [hfb] at HFT
        have HALL : Hid ((pre ++ [x]).all (fun x => fitB x.1.1.2.1) = fb) := Lib.hid (by rw [List.all_append, hok]; simp [hfb])
        rw [hx]
        obtain ⟨m, hm⟩ : ∃ m, x.1.1.2.1 = m := ⟨_, rfl⟩
        rw [hm] at HFT hbx c0 c1 c2 c3 c4 c5 c6 c7 ⊢
        have HR3 := Lib.hid hR
        have HDF := Lib.hid hdf
        have HB3 := Lib.hid hB
        clear hok hR hdf hB hx hfb hm hrec hl hl0 hbx
        gi_wp2_with fail
        refine ⟨trivial, fun h => (by cases h), ?_⟩
        refine (CallsIn.inRound l (callsIn_wide.2 HFT.out)).mono ?_
        rintro e w4 ⟨rfl, hb4⟩
        clear c0 c1 c2 c3 c4 c5 c6 c7
        have hR4 := boxed_low HR3.out hb4
        have hD4 := (hb4.block D (Array.getElem?_eq_some_iff.1 HDF.out).1).trans HDF.out
        have hB4 := HB3.out.trans (hb4.mono HB3.out.size)
        have hrc := hR4.cell
        have hrf := hR4.frozen
        cases fb with
        | false =>
          gi_wp2
          exact ⟨(keepsFrom_below hb4).trans ((KeepsOthers.setCell _ _ _).from _), ⟨rfl, HALL.out, hR4.set _, (heap_setOther _ _ _ _ _ (by omega)).trans hD4⟩, hB4.setCell (p := ⟨W.heap.size + 1, 0, none⟩) (by simp) _⟩
        | true =>
          gi_wp2
          exact ⟨keepsFrom_below hb4, KpN.of_below hb4 HB3.out.size, ⟨HALL.out, hR4, hD4⟩, hB4⟩
      case done2 =>
        rintro D2 ys W4 hD2 hys ⟨⟨hok, hR, hdf⟩, hB⟩ hK
        simp only [World.size_alloc] at hD2
        have hyl : checkC nd = 0 := by
          rw [hE.out, ← hys, List.all_map]
          exact if_pos hok
        have hcc := hR.cell
        have hff := hR.frozen
        have HLN := Lib.hid hyl
        have HSET := Lib.hid (hR.set (.int .i64 0))
        have HB7 := Lib.hid (hB.setCell (p := ⟨W.heap.size + 1, 0, none⟩) (by simp) (.int .i64 0))
        have HKK := Lib.hid hK
        have HDF := Lib.hid hdf
        clear hyl hok hR hB hK hdf
        gi_wp2
        have hK' := (KeepsOthers.setCell W4 ⟨W.heap.size + 1, 0, none⟩ (.int .i64 0)).same D2 _ HKK.out rfl
        refine ⟨by simp, .inl ⟨_, _, rfl, run_takeDeferred hK', ?_⟩⟩
        have hD1 := dfr_kept ((heap_setOther W4 (W.heap.size + 1) 0 D (.int .i64 0) (by omega)).trans HDF.out) (grownBy_putObj' _ D2 (.deferred none)) (fun r e => by cases e; omega)
        refine ⟨by simp, .inl ⟨_, _, rfl, run_takeDeferred hD1, ?_⟩⟩
        have hc4 := cell_kept HSET.out.cell (grownBy_putObj' _ D2 (.deferred none)) (fun r e => by cases e; exact ⟨_, hK', rfl⟩)
        have hc5 := cell_kept hc4 (grownBy_putObj' _ D (.deferred none)) (fun r e => by cases e; exact ⟨_, hD1, rfl⟩)
        have hb8 := HB7.out.trans (belowK_b (w := W) (Nat.le_refl _) _ D2 _ (.deferred none) (by omega) hK' rfl rfl)
        refine ⟨.int .i64 0, ?_, by rw [HLN.out], hb8.trans (belowK_b (w := W) (Nat.le_refl _) _ D _ (.deferred none) (by omega) hD1 rfl rfl)⟩
        simp [results, Try.f7, go_sem, hc5]
      case stop2 =>
        rintro D2 c pre W4 hD2 hpre ⟨⟨rfl, hno, hr, hdf⟩, hB⟩ hK
        simp only [World.size_alloc] at hD2
        have hyl : checkC nd = 60 := by
          obtain ⟨t, ht⟩ := hpre
          rw [hE.out, ← ht, List.all_append, List.all_map]
          refine if_neg ?_
          have h9 : (pre.all ((fun p : Nat × Nd => fitB p.2) ∘ fun x => ndP x.1)) = false := hno
          rw [h9]; simp
        have HLN := Lib.hid hyl
        have HR := Lib.hid hr
        have HDF := Lib.hid hdf
        clear hpre hyl hno hr hdf
        gi_wp2
        refine ⟨by simp, .inl ⟨_, _, rfl, run_takeDeferred hK, ?_⟩⟩
        have hD1 := dfr_kept HDF.out (grownBy_putObj' _ D2 (.deferred none)) (fun r e => by cases e; omega)
        refine ⟨by simp, .inl ⟨_, _, rfl, run_takeDeferred hD1, ?_⟩⟩
        have hc4 := cell_kept HR.out.cell (grownBy_putObj' _ D2 (.deferred none)) (fun r e => by cases e; exact ⟨_, hK, rfl⟩)
        have hc5 := cell_kept hc4 (grownBy_putObj' _ D (.deferred none)) (fun r e => by cases e; exact ⟨_, hD1, rfl⟩)
        have hb8 := hB.trans (belowK_b (w := W) (Nat.le_refl _) _ D2 _ (.deferred none) (by omega) hK rfl rfl)
        refine ⟨.int .i64 60, ?_, by rw [HLN.out], hb8.trans (belowK_b (w := W) (Nat.le_refl _) _ D _ (.deferred none) (by omega) hD1 rfl rfl)⟩
        simp [results, Try.f7, go_sem, hc5]
end Go.Proofs.Ythhdlcckboiecaa
