/- The landed show: node, the kinds with parts. · The reference's tree (burinref06): Depth. · The contract of the reference's Check (burinref02). · The reference's tree (burinref06): Fits. · The reference's tree (burinref06): All: the nodes of a tree, in an owned row of steps (nine cells each). · The reference's tree (burinref06): Groups; an owned row of texts. · The reference's tree (burinref06): Check. -/
import Derived.Test.YtanffablfgnioaaGreatDoorGp9
import Derived.Test.YtanffablfgnioaaGreatDoorGp2
import Derived.IntWalk
import Derived.Test.YtanffablfgnioaaGreatDoorGp1
import Derived.Test.YtanffablfgnioaaGreatDoorGp5
import Derived.Test.YtanffablfgnioaaGreatDoorGp6
import Derived.WalkSmall
import Derived.Maps.Range
import Derived.Deep.RegionHeld3
import Derived.Deep.AppendLies
import Derived.Laws.OwnMore
import Derived.BigQuiet
namespace Go.Proofs.YtanffablfgnioaaGreatDoor
open Go.RowKit
set_option linter.unusedVariables false
theorem SubsIn.kp {W W' : World} {B : Nat} {a : Option Addr} {L : List Nd} (h : SubsIn W B a L) (hB : B ≤ W.heap.size) (k : Kp W B W') : SubsIn W' B a L := by
  refine ⟨h.1, fun j hj => ?_⟩
  obtain ⟨g, off, u0, u1, u2, u3, u4, u5, u6, u7, e, hg, hn, c0, c1, c2, c3, c4, c5, c6, c7⟩ := h.2 j hj
  have kb := k.below hB
  exact ⟨g, off, u0, u1, u2, u3, u4, u5, u6, u7, e, hg, hn.kp k, (kb.cell hg).trans c0, (kb.cell hg).trans c1, (kb.cell hg).trans c2, (kb.cell hg).trans c3, (kb.cell hg).trans c4, (kb.cell hg).trans c5, (kb.cell hg).trans c6, (kb.cell hg).trans c7⟩
theorem wrap7 (k : Nat) (m : Nd) : Sh.wrapL (decide (Td.kind m ∈ ([7, 8] : List Int))) (Sh.shL k m) = Sh.partL k 7 m := by
  unfold Sh.partL
  congr 1
  unfold Sh.wrapB
  by_cases h7 : Td.kind m = 7
  · simp [h7]
  · by_cases h8 : Td.kind m = 8
    · simp [h8]
    · simp [h7, h8]
theorem wrap9 (k : Nat) (m : Nd) : Sh.wrapL (decide (Td.kind m ∈ ([7, 8, 9] : List Int))) (Sh.shL k m) = Sh.partL k 9 m := by
  unfold Sh.partL
  congr 1
  unfold Sh.wrapB
  by_cases h7 : Td.kind m = 7
  · simp [h7]
  · by_cases h8 : Td.kind m = 8
    · simp [h8]
    · by_cases h9 : Td.kind m = 9
      · simp [h9]
      · simp [h7, h8, h9]
theorem sh_six (k : Nat) (n m : Nd) (hk : Td.kind n = 6) (hs : Td.subs n = [m]) : Sh.shL (k + 1) n = Utf.nums (opnB (Td.name n)) ++ (Sh.shL k m ++ [41]) := by
  rw [Sh.shL, hk, if_neg (by decide), if_neg (by decide), if_neg (by decide), if_neg (by decide), if_neg (by decide), if_pos rfl, hs, opB_nums]
  simp
theorem sh_seven (k : Nat) (n : Nd) (hk : Td.kind n = 7) : Sh.shL (k + 1) n = (Td.subs n).flatMap (Sh.partL k 7) := by
  rw [Sh.shL, hk, if_neg (by decide), if_neg (by decide), if_neg (by decide), if_neg (by decide), if_neg (by decide), if_neg (by decide), if_pos rfl]
  rfl
theorem sh_eight (k : Nat) (n : Nd) (hk : Td.kind n = 8) : Sh.shL (k + 1) n = Sh.altL ((Td.subs n).map (Sh.partL k 8)) := by
  rw [Sh.shL, hk, if_neg (by decide), if_neg (by decide), if_neg (by decide), if_neg (by decide), if_neg (by decide), if_neg (by decide), if_neg (by decide), if_pos rfl]
  rfl
theorem sh_nine (k : Nat) (n m : Nd) (hk : Td.kind n = 9) (hs : Td.subs n = [m]) : Sh.shL (k + 1) n = Sh.partL k 9 m ++ Sh.timesL (Td.mn n) (Td.mx n) (Td.lazy n) := by
  rw [Sh.shL, hk, if_neg (by decide), if_neg (by decide), if_neg (by decide), if_neg (by decide), if_neg (by decide), if_neg (by decide), if_neg (by decide), if_neg (by decide), hs]
  show (Sh.partL k 9 m ++ []) ++ _ = _
  rw [List.append_nil]
theorem flatN_succ (f : Nd → List Int) (l : List Nd) (i : Nat) (hi : i < l.length) : (l.take (i + 1)).flatMap f = (l.take i).flatMap f ++ f l[i] ∧ ∃ Z, l.flatMap f = (l.take (i + 1)).flatMap f ++ Z := by
  refine ⟨?_, (l.drop (i + 1)).flatMap f, ?_⟩
  · rw [List.take_succ_eq_append_getElem hi, List.flatMap_append]
    simp
  · rw [← List.flatMap_append, List.take_append_drop]
set_option maxRecDepth 100000 in
set_option maxHeartbeats 4000000 in
theorem node_8 (k : Nat) (hOK : ShOK k) (W0 W : World) (B : Nat) (O : List Int) (n : Nd) (cs : List Value) (hk : Td.kind n = 8) (hf : FitS (k + 1) n) (hp : PrOk W B O) (hl : O.length ≤ 4096) (hE : PrEv W0 B W) (hn : NdOn (fun b => b < B) W n cs) :
    Calls Tryz.prog 26 #[.pointer (some ⟨B, 0, none⟩), .agg cs.toArray] W (PrQ W B O (Sh.shL (k + 1) n)) := by
  obtain ⟨vs, a, cap, rfl, hset, hsub⟩ := hn.open
  obtain ⟨hfn, hfs⟩ := hf
  obtain ⟨sa, sc, rfl, _⟩ := id hset.1
  have hBlt := hp.lt
  rw [hk]
  obtain ⟨wb, hwb⟩ : ∃ wb, W.alloc (.cells #[.int .i64 8, .slice sa (Td.set n).length sc, .int .i64 (Td.num n), .string (Td.name n), .int .i64 (Td.mn n), .int .i64 (Td.mx n), .bool (Td.lazy n), .slice a (Td.subs n).length cap] 26) = wb := ⟨_, rfl⟩
  have hbb : Below W.heap.size W wb := by rw [← hwb]; exact (Below.refl _ _).alloc (Nat.le_refl _) _
  have hbx : wb.heap[W.heap.size]? = some (.cells #[.int .i64 8, .slice sa (Td.set n).length sc, .int .i64 (Td.num n), .string (Td.name n), .int .i64 (Td.mn n), .int .i64 (Td.mx n), .bool (Td.lazy n), .slice a (Td.subs n).length cap] 26 (0, 0)) := by rw [← hwb]; exact heap_alloc_new _ _
  obtain ⟨pb, kb⟩ := hp.kpb hbb
  have HKB := Lib.hid kb
  have HPB := Lib.hid pb
  have HWB := Lib.hid hwb
  have HBX := Lib.hid hbx
  have HEB := Lib.hid (hE.kp (by omega) kb)
  have HEV := Lib.hid hE
  have hsb := kb.size
  obtain ⟨d0, d1, d2, d3, d4, d5, d6, d7⟩ := box_cells hbx
  have HW := Lib.hid (alternatives_show k hOK W0 wb B O a (Td.subs n) cap hfs pb hl (hE.kp (by omega) kb) (hsub.kp (by omega) kb))
  rw [sh_eight k n hk]
  clear hbb hbx pb kb hwb hE hp hset
  go_enter Tryz.func26, Tryz.ntmps26
  go_wp2_with fail
  rw [HWB.out]
  refine HW.out.mono ?_
  rintro e w2 h2
  have HQ := Lib.hid (PrQ.from HKB.out h2)
  rcases h2 with ⟨_, ⟨_, rfl, _⟩ | ⟨_, O', _, _, rfl, _⟩⟩
  · go_wp2
    refine ⟨rfl, .tuple #[], by simp [results, Tryz.f26, go_sem], ?_⟩
    exact HQ.out
  · exact ⟨rfl, HQ.out⟩
set_option maxRecDepth 100000 in
set_option maxHeartbeats 4000000 in
theorem node_6 (k : Nat) (hOK : ShOK k) (W0 W : World) (B : Nat) (O : List Int) (n : Nd) (cs : List Value) (hk : Td.kind n = 6) (hf : FitS (k + 1) n) (hp : PrOk W B O) (hl : O.length ≤ 4096) (hE : PrEv W0 B W) (hn : NdOn (fun b => b < B) W n cs) :
    Calls Tryz.prog 26 #[.pointer (some ⟨B, 0, none⟩), .agg cs.toArray] W (PrQ W B O (Sh.shL (k + 1) n)) := by
  obtain ⟨vs, a, cap, rfl, hset, hsub⟩ := hn.open
  obtain ⟨hfn, hfs⟩ := hf
  obtain ⟨sa, sc, rfl, _⟩ := id hset.1
  have hBlt := hp.lt
  rw [hk]
  obtain ⟨wb, hwb⟩ : ∃ wb, W.alloc (.cells #[.int .i64 6, .slice sa (Td.set n).length sc, .int .i64 (Td.num n), .string (Td.name n), .int .i64 (Td.mn n), .int .i64 (Td.mx n), .bool (Td.lazy n), .slice a (Td.subs n).length cap] 26) = wb := ⟨_, rfl⟩
  have hbb : Below W.heap.size W wb := by rw [← hwb]; exact (Below.refl _ _).alloc (Nat.le_refl _) _
  have hbx : wb.heap[W.heap.size]? = some (.cells #[.int .i64 6, .slice sa (Td.set n).length sc, .int .i64 (Td.num n), .string (Td.name n), .int .i64 (Td.mn n), .int .i64 (Td.mx n), .bool (Td.lazy n), .slice a (Td.subs n).length cap] 26 (0, 0)) := by rw [← hwb]; exact heap_alloc_new _ _
  obtain ⟨pb, kb⟩ := hp.kpb hbb
  have HKB := Lib.hid kb
  have HPB := Lib.hid pb
  have HWB := Lib.hid hwb
  have HBX := Lib.hid hbx
  have HEB := Lib.hid (hE.kp (by omega) kb)
  have HEV := Lib.hid hE
  have hsb := kb.size
  obtain ⟨d0, d1, d2, d3, d4, d5, d6, d7⟩ := box_cells hbx
  obtain ⟨m, hm⟩ : ∃ m, Td.subs n = [m] := List.length_eq_one_iff.1 (hfn.group hk).2
  have hs1 := hsub.kp (by omega) kb
  rw [hm] at hs1
  obtain ⟨g, off, u0, u1, u2, u3, u4, u5, u6, u7, rfl, hgB, hnd, c0, c1, c2, c3, c4, c5, c6, c7⟩ := hs1.2 0 (by simp)
  have hfm : FitS k m := hfs m (by rw [hm]; exact List.mem_singleton.2 rfl)
  have hnd' : NdOn (fun b => b < B) wb m [u0, u1, u2, u3, u4, u5, u6, u7] := hnd
  have hln1 : (Td.subs n).length = 1 := by rw [hm]; rfl
  rw [hln1] at hwb hbx d7 HWB HBX ⊢
  rw [Nat.zero_mul, Nat.add_zero] at c0 c1 c2 c3 c4 c5 c6 c7
  have hgr : g < wb.heap.size := by omega
  obtain ⟨v0, v1, v2, v3, v4, v5, v6, v7, sa1, sc1, aa1, ac1, hcs, F⟩ := hnd'.is.form_of
  simp only [List.cons.injEq, and_true] at hcs
  obtain ⟨rfl, rfl, rfl, rfl, rfl, rfl, rfl, rfl⟩ := hcs
  obtain ⟨rfl, rfl, rfl, rfl, rfl, rfl, rfl, rfl⟩ := F
  have HNX := Lib.hid hnd'
  have HFX := Lib.hid hfm
  have HOK := Lib.hid hOK
  have HNN := Lib.hid (hn.kp kb)
  clear hs1 hnd hnd' hfm hsub hOK hn
  have HL := Lib.hid (sh_six k n m hk hm)
  obtain ⟨wd, hwd⟩ : ∃ wd, wb.drew = wd := ⟨_, rfl⟩
  have hbd : Below wb.heap.size wb wd := by rw [← hwd]; exact below_drewNr (Below.refl _ _) 1
  obtain ⟨pd, kd⟩ := pb.kpb hbd
  have HKD := Lib.hid (kb.trans kd)
  rw [HL.out]
  have HOP : Hid (Calls Tryz.prog 50 #[.string (Td.name n)] wd fun e w'' => e = .returned (.string (opnB (Td.name n))) ∧ w'' = wd) := Lib.hid ((opening_show wd (Td.name n) (hfn.group hk).1).mono (fun _ _ h => ⟨h.1, h.2.symm⟩))
  have HEN := Lib.hid (enclosed_show k HOK.out W0 wd B O (opnB (Td.name n)) m _ (opB_size _ (hfn.group hk).1) HFX.out pd hl (HEV.out.kp (by omega) HKD.out) (HNX.out.kp kd))
  have hbxd := (hbd.block _ (Array.getElem?_eq_some_iff.1 hbx).1).trans hbx
  have HWD := Lib.hid hwd
  obtain ⟨b0, b1, b2, b3, b4, b5, b6, b7⟩ := box_cells hbxd
  rw [← hbd.cell (p := ⟨g, off, none⟩) hgr] at c0
  rw [← hbd.cell (p := ⟨g, off + 1, none⟩) hgr] at c1
  rw [← hbd.cell (p := ⟨g, off + 2, none⟩) hgr] at c2
  rw [← hbd.cell (p := ⟨g, off + 3, none⟩) hgr] at c3
  rw [← hbd.cell (p := ⟨g, off + 4, none⟩) hgr] at c4
  rw [← hbd.cell (p := ⟨g, off + 5, none⟩) hgr] at c5
  rw [← hbd.cell (p := ⟨g, off + 6, none⟩) hgr] at c6
  rw [← hbd.cell (p := ⟨g, off + 7, none⟩) hgr] at c7
  clear hbd pd kd hwd hbxd
  clear hbb hbx pb kb hwb hE hp hset
  go_enter Tryz.func26, Tryz.ntmps26
  go_wp2_with fail
  rw [HWB.out]
  refine wp_region_still_tail 8 (by kernel_rfl) (by kernel_rfl) ?_
  rw [show ({ wb with drawn := wb.drawn + 1 } : World) = wd from HWD.out]
  simp only [List.take_succ_cons, List.take_zero, List.drop_succ_cons, List.drop_zero]
  repeat still_step
  still_call HOP.out
  repeat still_step
  refine wpStill_nil ?_
  go_wp2_with fail
  refine HEN.out.mono ?_
  rintro e w2 h2
  have HQ := Lib.hid (PrQ.from HKD.out h2)
  rcases h2 with ⟨_, ⟨_, rfl, _⟩ | ⟨_, O', _, _, rfl, _⟩⟩
  · go_wp2
    refine ⟨rfl, .tuple #[], by simp [results, Tryz.f26, go_sem], ?_⟩
    exact HQ.out
  · exact ⟨rfl, HQ.out⟩
set_option maxRecDepth 100000 in
set_option maxHeartbeats 4000000 in
theorem node_9 (k : Nat) (hOK : ShOK k) (W0 W : World) (B : Nat) (O : List Int) (n : Nd) (cs : List Value) (hk : Td.kind n = 9) (hf : FitS (k + 1) n) (hp : PrOk W B O) (hl : O.length ≤ 4096) (hE : PrEv W0 B W) (hn : NdOn (fun b => b < B) W n cs) :
    Calls Tryz.prog 26 #[.pointer (some ⟨B, 0, none⟩), .agg cs.toArray] W (PrQ W B O (Sh.shL (k + 1) n)) := by
  obtain ⟨vs, a, cap, rfl, hset, hsub⟩ := hn.open
  obtain ⟨hfn, hfs⟩ := hf
  obtain ⟨sa, sc, rfl, _⟩ := id hset.1
  have hBlt := hp.lt
  rw [hk]
  obtain ⟨wb, hwb⟩ : ∃ wb, W.alloc (.cells #[.int .i64 9, .slice sa (Td.set n).length sc, .int .i64 (Td.num n), .string (Td.name n), .int .i64 (Td.mn n), .int .i64 (Td.mx n), .bool (Td.lazy n), .slice a (Td.subs n).length cap] 26) = wb := ⟨_, rfl⟩
  have hbb : Below W.heap.size W wb := by rw [← hwb]; exact (Below.refl _ _).alloc (Nat.le_refl _) _
  have hbx : wb.heap[W.heap.size]? = some (.cells #[.int .i64 9, .slice sa (Td.set n).length sc, .int .i64 (Td.num n), .string (Td.name n), .int .i64 (Td.mn n), .int .i64 (Td.mx n), .bool (Td.lazy n), .slice a (Td.subs n).length cap] 26 (0, 0)) := by rw [← hwb]; exact heap_alloc_new _ _
  obtain ⟨pb, kb⟩ := hp.kpb hbb
  have HKB := Lib.hid kb
  have HPB := Lib.hid pb
  have HWB := Lib.hid hwb
  have HBX := Lib.hid hbx
  have HEB := Lib.hid (hE.kp (by omega) kb)
  have HEV := Lib.hid hE
  have hsb := kb.size
  obtain ⟨d0, d1, d2, d3, d4, d5, d6, d7⟩ := box_cells hbx
  obtain ⟨m, hm⟩ : ∃ m, Td.subs n = [m] := List.length_eq_one_iff.1 (hfn.rep hk).1
  have hs1 := hsub.kp (by omega) kb
  rw [hm] at hs1
  obtain ⟨g, off, u0, u1, u2, u3, u4, u5, u6, u7, rfl, hgB, hnd, c0, c1, c2, c3, c4, c5, c6, c7⟩ := hs1.2 0 (by simp)
  have hfm : FitS k m := hfs m (by rw [hm]; exact List.mem_singleton.2 rfl)
  have hnd' : NdOn (fun b => b < B) wb m [u0, u1, u2, u3, u4, u5, u6, u7] := hnd
  have hln1 : (Td.subs n).length = 1 := by rw [hm]; rfl
  rw [hln1] at hwb hbx d7 HWB HBX ⊢
  rw [Nat.zero_mul, Nat.add_zero] at c0 c1 c2 c3 c4 c5 c6 c7
  have hgr : g < wb.heap.size := by omega
  obtain ⟨v0, v1, v2, v3, v4, v5, v6, v7, sa1, sc1, aa1, ac1, hcs, F⟩ := hnd'.is.form_of
  simp only [List.cons.injEq, and_true] at hcs
  obtain ⟨rfl, rfl, rfl, rfl, rfl, rfl, rfl, rfl⟩ := hcs
  obtain ⟨rfl, rfl, rfl, rfl, rfl, rfl, rfl, rfl⟩ := F
  have HNX := Lib.hid hnd'
  have HFX := Lib.hid hfm
  have HOK := Lib.hid hOK
  have HNN := Lib.hid (hn.kp kb)
  clear hs1 hnd hnd' hfm hsub hOK hn
  have HL := Lib.hid (sh_nine k n m hk hm)
  have HLN1 := Lib.hid hln1
  have HKX := Lib.hid (Kp.refl wb B)
  have hwbk := HWB.out
  rw [HL.out]
  clear hbb hbx pb kb hwb hE hp hset
  go_enter Tryz.func26, Tryz.ntmps26
  go_wp2_with fail
  obtain ⟨wp, hwp⟩ : ∃ wp, wb.alloc (.cells #[.int .i64 7, .int .i64 8, .int .i64 9] 3) = wp := ⟨_, rfl⟩
  have hbp : Below wb.heap.size wb wp := by rw [← hwp]; exact (Below.refl _ _).alloc (Nat.le_refl _) _
  have hrw : wp.heap[wb.heap.size]? = some (.cells #[.int .i64 7, .int .i64 8, .int .i64 9] 3 (0, 0)) := by rw [← hwp]; exact heap_alloc_new _ _
  have hcr : ∀ j (h : j < ([7, 8, 9] : List Int).length), wp.cell? ⟨wb.heap.size, j, none⟩ = some (.int .i64 ([7, 8, 9] : List Int)[j]) := fun j h => by
    have h9 : j < 3 := h
    rcases (show j = 0 ∨ j = 1 ∨ j = 2 by omega) with rfl | rfl | rfl <;> simp [World.cell?, hrw]
  obtain ⟨pp, kp⟩ := PrOk.kpb HPB.out hbp
  have HKP := Lib.hid (HKB.out.trans kp)
  have hsp := (Array.getElem?_eq_some_iff.1 hrw).1
  have HPT := Lib.hid (part_show k HOK.out W0 wp B _ m _ wb.heap.size 3 3 [7, 8, 9] rfl (by decide) hcr hsp HFX.out pp hl (HEV.out.kp (by omega) HKP.out) (HNX.out.kp (HKX.out.trans kp)))
  have HWP := Lib.hid hwp
  have HKPB := Lib.hid kp
  clear hbp hrw hcr pp kp hwp
  rw [HWP.out]
  refine HPT.out.mono ?_
  rintro e w4 ⟨k4, h4⟩
  have HK4 := Lib.hid (HKP.out.trans k4)
  rcases h4 with ⟨l4, rfl, p4⟩ | ⟨l4, O', a1, a2, rfl, a3⟩
  · rw [wrap9] at p4 l4
    have hx4 := (HKPB.out.trans k4).kept HBX.out (noP_of (by decide) (by decide))
    have hs4 := (HKPB.out.trans k4).size
    have hnn4 := HNN.out.kp (HKPB.out.trans k4)
    have hl4 : (O ++ Sh.partL k 9 m).length ≤ 4096 := by rw [List.length_append]; exact l4
    have HP4 := Lib.hid p4
    have HL4 := Lib.hid hl4
    have HRS := Lib.hid (repetition_show w4 n _ hnn4.is (hfn.rep hk).2.1 (hfn.rep hk).2.2.1 (hfn.rep hk).2.2.2 (HEV.out.kp (by omega) HK4.out).now)
    obtain ⟨b0, b1, b2, b3, b4, b5, b6, b7⟩ := box_cells hx4
    rw [hk, HLN1.out] at HRS
    clear hx4 hnn4 hl4 p4 l4 k4
    go_wp2_with fail
    refine HRS.out.mono ?_
    rintro e w5 ⟨T, rfl, hT, hz, hb5⟩
    obtain ⟨p5, k5⟩ := HP4.out.kpb hb5
    have HK5 := Lib.hid (HK4.out.trans k5)
    have HWR := Lib.hid (write_any w5 B _ T p5 HL4.out (by omega))
    rw [hT] at HWR
    clear hT hz hb5 p5 k5
    go_wp2_with fail
    refine HWR.out.mono ?_
    rintro e w6 h6
    have HQ := Lib.hid (PrQ.next HK5.out h6)
    rcases h6 with ⟨_, ⟨_, rfl, _⟩ | ⟨_, O', _, _, rfl, _⟩⟩
    · go_wp2
      refine ⟨rfl, .tuple #[], by simp [results, Tryz.f26, go_sem], ?_⟩
      exact HQ.out
    · exact ⟨rfl, HQ.out⟩
  · rw [wrap9] at l4
    refine ⟨rfl, HK4.out, .inr ⟨?_, O', a1, a2, rfl, a3⟩⟩
    rw [List.length_append]
    omega
set_option maxRecDepth 100000 in
set_option maxHeartbeats 8000000 in
theorem node_7 (k : Nat) (hOK : ShOK k) (W0 W : World) (B : Nat) (O : List Int) (n : Nd) (cs : List Value) (hk : Td.kind n = 7) (hf : FitS (k + 1) n) (hp : PrOk W B O) (hl : O.length ≤ 4096) (hE : PrEv W0 B W) (hn : NdOn (fun b => b < B) W n cs) :
    Calls Tryz.prog 26 #[.pointer (some ⟨B, 0, none⟩), .agg cs.toArray] W (PrQ W B O (Sh.shL (k + 1) n)) := by
  obtain ⟨vs, a, cap, rfl, hset, hsub⟩ := hn.open
  obtain ⟨hfn, hfs⟩ := hf
  obtain ⟨sa, sc, rfl, _⟩ := id hset.1
  have hBlt := hp.lt
  rw [hk]
  obtain ⟨wb, hwb⟩ : ∃ wb, W.alloc (.cells #[.int .i64 7, .slice sa (Td.set n).length sc, .int .i64 (Td.num n), .string (Td.name n), .int .i64 (Td.mn n), .int .i64 (Td.mx n), .bool (Td.lazy n), .slice a (Td.subs n).length cap] 26) = wb := ⟨_, rfl⟩
  have hbb : Below W.heap.size W wb := by rw [← hwb]; exact (Below.refl _ _).alloc (Nat.le_refl _) _
  have hbx : wb.heap[W.heap.size]? = some (.cells #[.int .i64 7, .slice sa (Td.set n).length sc, .int .i64 (Td.num n), .string (Td.name n), .int .i64 (Td.mn n), .int .i64 (Td.mx n), .bool (Td.lazy n), .slice a (Td.subs n).length cap] 26 (0, 0)) := by rw [← hwb]; exact heap_alloc_new _ _
  obtain ⟨pb, kb⟩ := hp.kpb hbb
  have HKB := Lib.hid kb
  have HPB := Lib.hid pb
  have HWB := Lib.hid hwb
  have HBX := Lib.hid hbx
  have HEB := Lib.hid (hE.kp (by omega) kb)
  have HEV := Lib.hid hE
  have hsb := kb.size
  obtain ⟨d0, d1, d2, d3, d4, d5, d6, d7⟩ := box_cells hbx
  have HL := Lib.hid (sh_seven k n hk)
  have hs1 := hsub.kp (by omega) kb
  obtain ⟨L, hL⟩ : ∃ L, Td.subs n = L := ⟨_, rfl⟩
  rw [hL] at hs1 hwb hbx d7 HWB HBX HL hfs ⊢
  obtain ⟨hlen, hrow⟩ := hs1
  obtain ⟨N, hN⟩ : ∃ N, L.length = N := ⟨_, rfl⟩
  have HN := Lib.hid hN
  rw [hN] at hwb hbx d7 HWB HBX hlen ⊢
  rw [HL.out]
  have HROW := Lib.hid hrow
  have HF := Lib.hid hfs
  have HOK := Lib.hid hOK
  clear hrow hsub hOK hn hfs hL hN
  clear hbb hbx pb kb hwb hE hp hset
  go_enter Tryz.func26, Tryz.ntmps26
  go_wp2_with fail
  go_wp2
  rw [HWB.out]
  go_loopw [55] (fun I wr => ∃ i : Nat, i ≤ N ∧ I = .int .i64 (i : Int) ∧ Hid (PrOk wr B (O ++ (L.take i).flatMap (Sh.partL k 7))) ∧ Hid ((O ++ (L.take i).flatMap (Sh.partL k 7)).length ≤ 4096) ∧ Hid (Kp wb B wr)) (fun I _ => N - (intOf I).toNat)
  case atStart => exact ⟨0, by omega, rfl, Lib.hid (by rw [List.take_zero]; show PrOk wb B (O ++ []); rw [List.append_nil]; exact HPB.out), Lib.hid (by rw [List.take_zero]; show (O ++ []).length ≤ 4096; rw [List.append_nil]; exact hl), Lib.hid (Kp.refl wb B)⟩
  case round =>
    obtain ⟨i, hi, rfl, HPR, HLR, HKR⟩ := hrel
    have hsz := HKR.out.size
    have hBr : B < wr.heap.size := by omega
    have HKW := Lib.hid (HKB.out.trans HKR.out)
    obtain ⟨O1, hO1⟩ : ∃ O1, O ++ (L.take i).flatMap (Sh.partL k 7) = O1 := ⟨_, rfl⟩
    rw [hO1] at HPR HLR
    have HO1 := Lib.hid hO1
    clear hO1
    by_cases hlt : i < N
    · have hil : i < L.length := by rw [HN.out]; exact hlt
      obtain ⟨g, off, u0, u1, u2, u3, u4, u5, u6, u7, rfl, hgB, hnd, c0, c1, c2, c3, c4, c5, c6, c7⟩ := HROW.out i hil
      have hkb := HKR.out.below (B := B) (by omega)
      rw [← hkb.cell (p := ⟨g, off + i * 8, none⟩) hgB] at c0
      rw [← hkb.cell (p := ⟨g, off + i * 8 + 1, none⟩) hgB] at c1
      rw [← hkb.cell (p := ⟨g, off + i * 8 + 2, none⟩) hgB] at c2
      rw [← hkb.cell (p := ⟨g, off + i * 8 + 3, none⟩) hgB] at c3
      rw [← hkb.cell (p := ⟨g, off + i * 8 + 4, none⟩) hgB] at c4
      rw [← hkb.cell (p := ⟨g, off + i * 8 + 5, none⟩) hgB] at c5
      rw [← hkb.cell (p := ⟨g, off + i * 8 + 6, none⟩) hgB] at c6
      rw [← hkb.cell (p := ⟨g, off + i * 8 + 7, none⟩) hgB] at c7
      have hgr : g < wr.heap.size := by omega
      obtain ⟨s2, Z, s3⟩ := flatN_succ (Sh.partL k 7) L i hil
      have hfx := HF.out L[i] (List.getElem_mem hil)
      obtain ⟨x, hx⟩ : ∃ x, L[i] = x := ⟨_, rfl⟩
      rw [hx] at s2 hfx hnd
      have HNX := Lib.hid (hnd.kp HKR.out)
      have HFX := Lib.hid hfx
      have HS2 := Lib.hid s2
      have HS3 := Lib.hid s3
      have k0 : (0 : Int) ≤ (i : Int) := by omega
      have k1 : (i : Int) < (N : Int) := by omega
      obtain ⟨v0, v1, v2, v3, v4, v5, v6, v7, sa1, sc1, aa1, ac1, hcs, F⟩ := hnd.is.form_of
      simp only [List.cons.injEq, and_true] at hcs
      obtain ⟨rfl, rfl, rfl, rfl, rfl, rfl, rfl, rfl⟩ := hcs
      obtain ⟨rfl, rfl, rfl, rfl, rfl, rfl, rfl, rfl⟩ := F
      obtain ⟨wq, hwq⟩ : ∃ wq, wr.alloc (.cells #[.int .i64 (Td.kind x), .slice sa1 (Td.set x).length sc1, .int .i64 (Td.num x), .string (Td.name x), .int .i64 (Td.mn x), .int .i64 (Td.mx x), .bool (Td.lazy x), .slice aa1 (Td.subs x).length ac1] 26) = wq := ⟨_, rfl⟩
      have hbb : Below wr.heap.size wr wq := by rw [← hwq]; exact (Below.refl _ _).alloc (Nat.le_refl _) _
      have hbx : wq.heap[wr.heap.size]? = some (.cells #[.int .i64 (Td.kind x), .slice sa1 (Td.set x).length sc1, .int .i64 (Td.num x), .string (Td.name x), .int .i64 (Td.mn x), .int .i64 (Td.mx x), .bool (Td.lazy x), .slice aa1 (Td.subs x).length ac1] 26 (0, 0)) := by rw [← hwq]; exact heap_alloc_new _ _
      obtain ⟨pb, kb⟩ := HPR.out.kpb hbb
      have hszb := kb.size
      have HKX := Lib.hid kb
      have HKQ := Lib.hid (HKW.out.trans kb)
      obtain ⟨e0, e1, e2, e3, e4, e5, e6, e7⟩ := box_cells hbx
      clear hkb hil hx hnd s2 s3 hfx hbb kb hbx
      obtain ⟨wp, hwp⟩ : ∃ wp, wq.alloc (.cells #[.int .i64 7, .int .i64 8] 3) = wp := ⟨_, rfl⟩
      have hbp : Below wq.heap.size wq wp := by rw [← hwp]; exact (Below.refl _ _).alloc (Nat.le_refl _) _
      have hrw : wp.heap[wq.heap.size]? = some (.cells #[.int .i64 7, .int .i64 8] 3 (0, 0)) := by rw [← hwp]; exact heap_alloc_new _ _
      have hcr : ∀ j (h : j < ([7, 8] : List Int).length), wp.cell? ⟨wq.heap.size, j, none⟩ = some (.int .i64 ([7, 8] : List Int)[j]) := fun j h => by
        have h9 : j < 2 := h
        rcases (show j = 0 ∨ j = 1 by omega) with rfl | rfl <;> simp [World.cell?, hrw]
      obtain ⟨pp, kp⟩ := PrOk.kpb pb hbp
      have HKP := Lib.hid (HKQ.out.trans kp)
      have hsp := (Array.getElem?_eq_some_iff.1 hrw).1
      have HPT := Lib.hid (part_show k HOK.out W0 wp B _ x _ wq.heap.size 2 2 [7, 8] rfl (by decide) hcr hsp HFX.out pp HLR.out (HEV.out.kp (by omega) HKP.out) (HNX.out.kp (HKX.out.trans kp)))
      have HWP := Lib.hid hwp
      have HKPX := Lib.hid kp
      clear hbp hrw hcr pp kp hwp
      go_wp2_with fail
      rw [HWP.out]
      refine HPT.out.mono ?_
      rintro e w4 ⟨k4, h4⟩
      have HK4 := Lib.hid (HKP.out.trans k4)
      rcases h4 with ⟨l4, rfl, p4⟩ | ⟨l4, O', a1, a2, rfl, a3⟩
      · rw [wrap7] at p4 l4
        have hfin : O1 ++ Sh.partL k 7 x = O ++ (L.take (i + 1)).flatMap (Sh.partL k 7) := by rw [HS2.out, ← HO1.out]; simp
        have HP4 := Lib.hid p4
        have HL4 : Hid ((O1 ++ Sh.partL k 7 x).length ≤ 4096) := Lib.hid (by rw [List.length_append]; exact l4)
        have HKE := Lib.hid (HKR.out.trans (HKX.out.trans (HKPX.out.trans k4)))
        rw [hfin] at HP4 HL4
        clear hfin p4 l4 k4
        go_wp2
        go_roundw
        case rel => exact ⟨i + 1, by omega, by go_num, HP4, HL4, HKE⟩
        case measure => simp [intOf]; omega
      · refine ⟨rfl, HK4.out, .inr ⟨?_, O', a1, a2, rfl, a3⟩⟩
        rw [wrap7] at l4
        rw [HS3.out, HS2.out]
        rw [← HO1.out] at l4
        simp only [List.length_append] at l4 ⊢
        omega
    · obtain rfl : i = N := by omega
      have HFA : Hid (O1 = O ++ L.flatMap (Sh.partL k 7)) := Lib.hid (by rw [← HO1.out, ← HN.out, List.take_length])
      rw [HFA.out] at HPR HLR
      have HLF : Hid (O.length + (L.flatMap (Sh.partL k 7)).length ≤ 4096) := Lib.hid (by have h := HLR.out; rw [List.length_append] at h; exact h)
      go_wp2
      refine ⟨rfl, .tuple #[], by simp [results, Tryz.f26, go_sem], ?_⟩
      exact ⟨HKW.out, .inl ⟨HLF.out, rfl, HPR.out⟩⟩
/-- Every tree that fits is printed. -/
theorem node_show : ∀ k, ShOK k
  | 0 => fun W0 W B O n cs hf => hf.elim
  | k + 1 => fun W0 W B O n cs hf hp hl hE hn => by
    have hOK := node_show k
    have hk := hf.1.kind
    rcases (show Td.kind n = 1 ∨ Td.kind n = 2 ∨ Td.kind n = 3 ∨ Td.kind n = 4 ∨ Td.kind n = 5 ∨ Td.kind n = 6 ∨ Td.kind n = 7 ∨ Td.kind n = 8 ∨ Td.kind n = 9 by omega) with h | h | h | h | h | h | h | h | h
    · exact node_1 k hOK W0 W B O n cs h hf hp hl hE hn
    · exact node_2 k hOK W0 W B O n cs h hf hp hl hE hn
    · exact node_3 k hOK W0 W B O n cs h hf hp hl hE hn
    · exact node_4 k hOK W0 W B O n cs h hf hp hl hE hn
    · exact node_5 k hOK W0 W B O n cs h hf hp hl hE hn
    · exact node_6 k hOK W0 W B O n cs h hf hp hl hE hn
    · exact node_7 k hOK W0 W B O n cs h hf hp hl hE hn
    · exact node_8 k hOK W0 W B O n cs h hf hp hl hE hn
    · exact node_9 k hOK W0 W B O n cs h hf hp hl hE hn
end Go.Proofs.YtanffablfgnioaaGreatDoor
namespace Go.Proofs.YtanffablfgnioaaGreatDoor
open Go.RowKit
set_option linter.unusedVariables false









































































































end Go.Proofs.YtanffablfgnioaaGreatDoor
namespace Go.Proofs.YtanffablfgnioaaGreatDoor
open Go.RowKit
set_option linter.unusedVariables false

























































































end Go.Proofs.YtanffablfgnioaaGreatDoor
namespace Go.Proofs.YtanffablfgnioaaGreatDoor
open Go.RowKit
set_option linter.unusedVariables false
namespace Td
/-- Are a node's fields as its kind has them? -/
def fitsV (K num mn mx L : Int) (S U M T Z C NB : Bool) : Bool :=
  if K = 1 ∨ K = 2 ∨ K = 4 then S && (U && (M && (T && (Z && (L == 0)))))
  else if K = 3 then !S && (C && (U && (M && (T && (Z && (L == 0))))))
  else if K = 5 then S && (decide (1 ≤ num) && (decide (num ≤ 6) && (M && (T && (Z && (L == 0))))))
  else if K = 6 then S && (decide (1 ≤ num) && ((M || NB) && (T && (Z && (L == 1)))))
  else if K = 7 ∨ K = 8 then S && (U && (M && (T && (Z && decide (2 ≤ L)))))
  else if K = 9 then S && (U && (M && (decide (0 ≤ mn) && (decide (mn ≤ 1000) && ((mx == -1 || (decide (mn ≤ mx) && decide (mx ≤ 1000))) && (L == 1))))))
  else false
def fitsB (n : Nd) : Bool :=
  fitsV (kind n) (num n) (mn n) (mx n) (subs n).length (((set n).length : Int) == 0) (num n == 0) (name n).toList.isEmpty (mn n == 0 && mx n == 0) (!lazy n) (Rg.checkF none (set n) == 0) (nameB (name n))
end Td

















































































































































































































































































































































































































































































































































































end Go.Proofs.YtanffablfgnioaaGreatDoor
namespace Go.Proofs.YtanffablfgnioaaGreatDoor
open Go.RowKit
set_option linter.unusedVariables false



















theorem Td.flat_succ (l : List Nd) (f : Nd → List (Nat × Nd)) (k : Nat) (m : Nd) (hk : l[k]? = some m) : (l.take (k + 1)).flatMap f = (l.take k).flatMap f ++ f m := by
  obtain ⟨h, rfl⟩ := List.getElem?_eq_some_iff.1 hk
  rw [List.take_succ_eq_append_getElem h, List.flatMap_append]; simp
theorem Td.flat_le (l : List Nd) (f : Nd → List (Nat × Nd)) (k : Nat) : ((l.take k).flatMap f).length ≤ (l.flatMap f).length := by
  have h : l.flatMap f = (l.take k).flatMap f ++ (l.drop k).flatMap f := by rw [← List.flatMap_append, List.take_append_drop]
  rw [h, List.length_append]; omega
theorem Td.all_len_pos (k d : Nat) (n : Nd) : 1 ≤ (Td.all (k + 1) d n).length := by rw [Td.all]; simp











































































































































end Go.Proofs.YtanffablfgnioaaGreatDoor
namespace Go.Proofs.YtanffablfgnioaaGreatDoor
open Go.RowKit
set_option linter.unusedVariables false
/-- A row of texts that a call owns. -/
def TxOwn (W : World) (base : Nat) (v : Value) (T : List ByteArray) : Prop := W.ownsRow base 9 1 v T.length (T.map Value.string)
namespace Td
/-- The names of the groups among nodes. -/
def groups (l : List (Nat × Nd)) : List ByteArray := (l.filter (fun p => kind p.2 == 6)).map (fun p => name p.2)
end Td

























































































end Go.Proofs.YtanffablfgnioaaGreatDoor
namespace Go.Proofs.YtanffablfgnioaaGreatDoor
open Go.RowKit
set_option linter.unusedVariables false
namespace Td
/-- Is a name, not empty, among these? -/
def hit (T : List ByteArray) (nm : ByteArray) : Bool := T.any (fun t => t.toList == nm.toList) && !nm.toList.isEmpty
def chkF (T : List ByteArray) : List (Nat × Nd) → Int
  | [] => 0
  | x :: l => if fitsB x.2 = false then 60 else if kind x.2 ≠ 6 then chkF T l else if num x.2 ≠ (T.length : Int) + 1 then 60 else if 31 < num x.2 then 2
    else if hit T (name x.2) = true then 6 else chkF (T ++ [name x.2]) l
def checkN (n : Nd) : Int := if 1000 < dep 1001 n then 61 else chkF [] (all 1000 1 n)
structure ChkSt (T : List ByteArray) (l l' : List (Nat × Nd)) (m : Nd) : Prop where
  bad : fitsB m = false → chkF T l = 60
  other : fitsB m = true → kind m ≠ 6 → chkF T l = chkF T l'
  odd : fitsB m = true → kind m = 6 → num m ≠ (T.length : Int) + 1 → chkF T l = 60
  long : fitsB m = true → kind m = 6 → num m = (T.length : Int) + 1 → 31 < num m → chkF T l = 2
  there : fitsB m = true → kind m = 6 → num m = (T.length : Int) + 1 → ¬ 31 < num m → hit T (name m) = true → chkF T l = 6
  next : fitsB m = true → kind m = 6 → num m = (T.length : Int) + 1 → ¬ 31 < num m → hit T (name m) = false → chkF T l = chkF (T ++ [name m]) l'
end Td
theorem TxOwn.slice {W : World} {base : Nat} {v : Value} {T : List ByteArray} (h : TxOwn W base v T) : ∃ a c, v = .slice a T.length c := by
  rcases h.2 with ⟨e, e0⟩ | ⟨g, cap, cur, e, _⟩
  · exact ⟨none, 0, by rw [e, e0]⟩
  · exact ⟨_, _, e⟩
theorem TxOwn.below {W W' : World} {base : Nat} {v : Value} {T : List ByteArray} (h : TxOwn W base v T) (hb : Below W.heap.size W W') : TxOwn W' base v T :=
  World.ownsRow.kept h ⟨hb.os, hb.tape, hb.output, hb.size, fun k hk _ => hb.block k hk⟩ (row := none) (by cases hv : v.ownBlock <;> simp)
theorem TxOwn.at {W : World} {base : Nat} {v : Value} {T : List ByteArray} (h : TxOwn W base v T) (k : Nat) (hk : k < T.length) : ∃ g c, v = .slice (some ⟨g, 0, none⟩) T.length c ∧ g < W.heap.size ∧ W.cell? ⟨g, k, none⟩ = some (.string T[k]) := by
  obtain ⟨g, cap, rfl, hb, hg⟩ := World.ownsRow.form h (by omega)
  refine ⟨g, cap, rfl, hg, ?_⟩
  rw [World.ownsRow.cellAt h k (by omega)]
  simp [hk]



































































































































































































































































end Go.Proofs.YtanffablfgnioaaGreatDoor
