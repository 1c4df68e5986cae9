/- The landed tree: Check. -/
import Derived.Test.YthhdlcckboiecaaGp17
namespace Go.Proofs.Ythhdlcckboiecaa
open Go.RowKit Go.Shelf Go.Maps
attribute [local go_sem] Oper.semAt_some
set_option linter.unusedVariables false
theorem wf64 {x : Int} (h : I64 x) : (Lit.int .i64 x).wf = true := by
  have q1 : IntKind.i64.min = -9223372036854775808 := rfl
  have q2 : IntKind.i64.max = 9223372036854775807 := rfl
  unfold I64 at h
  simp [Lit.wf, q1, q2]
  exact h
set_option maxRecDepth 100000 in
set_option maxHeartbeats 8000000 in
theorem check_in (n : Nat) (hn : 3 ≤ n) (W : World) (nd : Nd) (cs : List Value) (h : NdIs W nd cs) (hlen : (Td.all 1000 1 nd).length ≤ 1000000) :
    CallsIn Fence.wide n Try.prog 20 #[.agg cs.toArray] W fun e W' => e = .returned (.int .i64 (Td.checkN nd)) ∧ Below W.heap.size W W' := by
  have h1 : 1 ≤ n := by omega
  have HND := Lib.hid h
  have hmm := @run_makeMap Try.prog
  obtain ⟨u0, u1, u2, u3, u4, u5, u6, u7, sa, sc, a, c, hcs, F⟩ := h.form_of
  subst hcs
  obtain ⟨rfl, rfl, rfl, rfl, rfl, rfl, rfl, rfl⟩ := F
  clear h
  have hb0 : Below W.heap.size W ((W.alloc (.cells #[.int .i64 (Td.kind nd), .slice sa (Td.set nd).length sc, .int .i64 (Td.num nd), .string (Td.name nd), .int .i64 (Td.mn nd), .int .i64 (Td.mx nd), .bool (Td.lazy nd), .slice a (Td.subs nd).length c] 25)).alloc (.cells #[.int .i64 0] 28)) := ((Below.refl _ W).alloc (Nat.le_refl _) _).alloc (by simp) _
  have hnw : ((W.alloc (.cells #[.int .i64 (Td.kind nd), .slice sa (Td.set nd).length sc, .int .i64 (Td.num nd), .string (Td.name nd), .int .i64 (Td.mn nd), .int .i64 (Td.mx nd), .bool (Td.lazy nd), .slice a (Td.subs nd).length c] 25)).alloc (.cells #[.int .i64 0] 28)).heap[W.heap.size]? = some (.cells #[.int .i64 (Td.kind nd), .slice sa (Td.set nd).length sc, .int .i64 (Td.num nd), .string (Td.name nd), .int .i64 (Td.mn nd), .int .i64 (Td.mx nd), .bool (Td.lazy nd), .slice a (Td.subs nd).length c] 25 (0, 0)) :=
    (Below.heap_alloc _ _ _ (by simp)).trans (heap_alloc_new W _)
  have hrs : Boxed ((W.alloc (.cells #[.int .i64 (Td.kind nd), .slice sa (Td.set nd).length sc, .int .i64 (Td.num nd), .string (Td.name nd), .int .i64 (Td.mn nd), .int .i64 (Td.mx nd), .bool (Td.lazy nd), .slice a (Td.subs nd).length c] 25)).alloc (.cells #[.int .i64 0] 28)) (W.heap.size + 1) 28 (.int .i64 0) := by
    have h9 := Boxed.new (W.alloc (.cells #[.int .i64 (Td.kind nd), .slice sa (Td.set nd).length sc, .int .i64 (Td.num nd), .string (Td.name nd), .int .i64 (Td.mn nd), .int .i64 (Td.mx nd), .bool (Td.lazy nd), .slice a (Td.subs nd).length c] 25)) 28 (.int .i64 0)
    rwa [World.size_alloc] at h9
  obtain ⟨w1, hw1⟩ : ∃ w1, (W.alloc (.cells #[.int .i64 (Td.kind nd), .slice sa (Td.set nd).length sc, .int .i64 (Td.num nd), .string (Td.name nd), .int .i64 (Td.mn nd), .int .i64 (Td.mx nd), .bool (Td.lazy nd), .slice a (Td.subs nd).length c] 25)).alloc (.cells #[.int .i64 0] 28) = w1 := ⟨_, rfl⟩
  have hsz : w1.heap.size = W.heap.size + 2 := by rw [← hw1]; simp
  rw [hw1] at hb0 hnw hrs
  have HW1 := Lib.hid hw1
  have HSZ := Lib.hid hsz
  have HB0 := Lib.hid hb0
  have HNW := Lib.hid hnw
  have HRS := Lib.hid hrs
  clear hw1 hsz hb0 hnw hrs
  refine callsIn_of_wp_marks Try.func20 rfl trivial ?_ rfl
  simp only [Try.ntmps20, List.size_toArray, List.length_cons, List.length_nil, Nat.reduceAdd, Nat.reduceSub, Array.replicate_succ, Array.replicate_zero, List.push_toArray, List.append_toArray, List.nil_append, List.cons_append]
  gi_wp2_with fail
  refine ⟨trivial, ?_⟩
  rw [HW1.out]
  refine (callsIn_wide.2 (callsIn_wide.1 (depth_in 3 (by omega) w1 nd _ (HND.out.kept HB0.out)))).mono ?_
  rintro e w5 ⟨rfl, hb5⟩
  obtain ⟨DP, hDP⟩ : ∃ DP, Td.dep 1001 nd = DP := ⟨_, rfl⟩
  rw [hDP]
  have HB5 := Lib.hid (HB0.out.trans (hb5.mono HB0.out.size))
  have hnw5 := (hb5.block _ (Array.getElem?_eq_some_iff.1 HNW.out).1).trans HNW.out
  have hrs5 := boxed_low HRS.out hb5
  have HRS5 := Lib.hid hrs5
  have hsz5 : W.heap.size + 2 ≤ w5.heap.size := by have := hb5.size; rw [HSZ.out] at this; exact this
  have hb6 : Below w5.heap.size w5 (((w5.alloc (.cells #[.int .i64 0] 3)).alloc (.map #[] 0)).alloc (.cells #[.map (some (w5.heap.size + 1))] 49)) := (((Below.refl _ w5).alloc (Nat.le_refl _) _).alloc (by simp) _).alloc (by simp; omega) _
  have hnw6 := (hb6.block _ (Array.getElem?_eq_some_iff.1 hnw5).1).trans hnw5
  have b0 := blkc hnw6 0
  have b1 := blkc hnw6 1
  have b2 := blkc hnw6 2
  have b3 := blkc hnw6 3
  have b4 := blkc hnw6 4
  have b5 := blkc hnw6 5
  have b6 := blkc hnw6 6
  have b7 := blkc hnw6 7
  simp only [List.getElem?_toArray, List.getElem?_cons_zero, List.getElem?_cons_succ] at b0 b1 b2 b3 b4 b5 b6 b7
  have hl6 : Boxed (((w5.alloc (.cells #[.int .i64 0] 3)).alloc (.map #[] 0)).alloc (.cells #[.map (some (w5.heap.size + 1))] 49)) w5.heap.size 3 (.int .i64 0) := ((Boxed.new w5 3 (.int .i64 0)).alloc _).alloc _
  have hm6 : (((w5.alloc (.cells #[.int .i64 0] 3)).alloc (.map #[] 0)).alloc (.cells #[.map (some (w5.heap.size + 1))] 49)).ownsMap Try.prog 9 (plainElem (H := Unit) Try.prog 3) (w5.heap.size + 1) 0 (.map []) := by
    have h9 := (World.ownsMap_made (w5.alloc (.cells #[.int .i64 0] 3)) Try.prog 9 (plainElem (H := Unit) Try.prog 3)).alloc (.cells #[.map (some (w5.heap.size + 1))] 49)
    rwa [World.size_alloc] at h9
  have hx6 : Boxed (((w5.alloc (.cells #[.int .i64 0] 3)).alloc (.map #[] 0)).alloc (.cells #[.map (some (w5.heap.size + 1))] 49)) (w5.heap.size + 2) 49 (.map (some (w5.heap.size + 1))) := by
    have h9 := Boxed.new ((w5.alloc (.cells #[.int .i64 0] 3)).alloc (.map #[] 0)) 49 (.map (some (w5.heap.size + 1)))
    rwa [World.size_alloc, World.size_alloc] at h9
  have hck6 : CkI (W.heap.size + 1) w5.heap.size [] (((w5.alloc (.cells #[.int .i64 0] 3)).alloc (.map #[] 0)).alloc (.cells #[.map (some (w5.heap.size + 1))] 49)) := ⟨⟨0, boxed_low hrs5 hb6⟩, hl6, hx6, 0, .map [], Nat.le_refl _, hm6, MapIs.start⟩
  have hs6 : (((w5.alloc (.cells #[.int .i64 0] 3)).alloc (.map #[] 0)).alloc (.cells #[.map (some (w5.heap.size + 1))] 49)).heap.size = w5.heap.size + 3 := by simp
  obtain ⟨w6, hw6⟩ : ∃ w6, ((w5.alloc (.cells #[.int .i64 0] 3)).alloc (.map #[] 0)).alloc (.cells #[.map (some (w5.heap.size + 1))] 49) = w6 := ⟨_, rfl⟩
  have HW6 := Lib.hid hw6
  rw [hw6] at hb6 hck6 hs6
  have HCK6 := Lib.hid hck6
  have HS6 := Lib.hid hs6
  have HB6 := Lib.hid (HB5.out.trans (hb6.mono HB5.out.size))
  clear hw6 hb6 hnw6 hl6 hm6 hx6 hck6 hs6
  have hrc := hrs5.cell
  have hrf := hrs5.frozen
  have hnl : W.heap.size < w5.heap.size := by omega
  have hrl : W.heap.size + 1 < w5.heap.size := by omega
  have HSZ5 := Lib.hid hsz5
  have HDP := Lib.hid hDP
  clear hDP hb5 hnw5 hrs5 hsz5
  by_cases hdp : (1000 : Int) < (DP : Int)
  · have hE : Hid (Td.checkN nd = 61) := Lib.hid (by unfold Td.checkN; rw [HDP.out, if_pos (by omega)])
    clear b0 b1 b2 b3 b4 b5 b6 b7
    have hc5 := World.cell?_setCell_same' w5 ⟨W.heap.size + 1, 0, none⟩ (.int .i64 61) (by rw [hrc]; rfl)
    have HB7 := Lib.hid (HB5.out.setCell (p := ⟨W.heap.size + 1, 0, none⟩) (by simp) (.int .i64 61))
    gi_wp2
    refine ⟨.int .i64 61, ?_, by rw [hE.out], HB7.out⟩
    simp [results, Try.f20, go_sem, hc5]
  have hE : Hid (Td.checkN nd = Td.chkF [] (Td.all 1000 1 nd)) := Lib.hid (by unfold Td.checkN; rw [HDP.out, if_neg (by omega)])
  gi_wp2_with fail
  refine ⟨trivial, ?_⟩
  rw [HW6.out]
  refine (callsIn_wide.2 (nodes_any w6 nd _ 1000 (HND.out.kept HB6.out))).mono ?_
  rintro e w' ⟨rfl, rfl⟩
  clear b0 b1 b2 b3 b4 b5 b6 b7 hrc hrf
  have hdb : decide ((1000 : Int) < (DP : Int)) = false := decide_eq_false (by omega)
  have HDB := Lib.hid hdb
  obtain ⟨s0, hs0⟩ : ∃ s0, w5.heap.size = s0 := ⟨_, rfl⟩
  rw [hs0] at HCK6 HS6 HSZ5 ⊢
  clear hdb hnl hrl hs0 HRS5 HB5 HW6
  gi_wp2
  rw [HDB.out]
  refine wpIn_rangeFunc_ownH rfl h1 (gf := 44) (lb := #[.pointer (some ⟨w6.heap.size, 0, none⟩), .pointer (some ⟨w6.heap.size + 1, 0, none⟩)]) rfl trivial (enters_of Try.func44 (by kernel_rfl) rfl)
    (nodes_stops W w6 (n - 1) (s0 + 5) 1000 (by omega) (by omega) nd _ HND.out HB6.out (by rw [HS6.out]; omega)) kpN_t (kpN_b (by simp [HS6.out]; have := HSZ5.out; omega)) (Below.refl _ _) (fun _ => rfl)
    (fun pre W' => ((okP pre ∧ s0 + 5 ≤ W'.heap.size) ∧ CkI (W.heap.size + 1) s0 (gpL pre) W') ∧ Below W.heap.size W W')
    (fun c pre W' => (c = .ret ∧ ∃ r, errP r pre ∧ Boxed W' (W.heap.size + 1) 28 (.int .i64 r)) ∧ Below W.heap.size W W')
    (OwnFrom.and (OwnFrom.and (fun s A B row hs hg hr => ⟨hs.1, Nat.le_trans hs.2 hg.size⟩) (fun s A B row hs hg hr => hs.own hg (by simp [HS6.out]) hr)) (ownFrom_below (Nat.le_refl _) (by simp [HS6.out]; have := HSZ5.out; omega)))
    (fun c => OwnFrom.and (OwnFrom.and (fun _ _ _ _ hs _ _ => hs) (fun s A B row hs hg hr => by
      obtain ⟨r, h1, h2⟩ := hs
      exact ⟨r, h1, h2.kept hg (fun e => by
        obtain ⟨_, o, ho, hc⟩ := hr _ e.symm
        rw [show A.heap[W.heap.size + 1]? = _ from h2] at ho; cases ho; cases hc)⟩)) (ownFrom_below (Nat.le_refl _) (by simp [HS6.out]; have := HSZ5.out; omega)))
    ⟨⟨⟨fun rest => rfl, by simp [HS6.out]⟩, (HCK6.out.grown (World.grownBy_alloc _ _ none) (by simp) (by simp) (by simp) (by simp)).grown (World.grownBy_alloc _ _ none) (by simp) (by simp) (by simp) (by simp)⟩, (HB6.out.alloc HB6.out.size _).alloc (by have := HB6.out.size; simp; omega) _⟩
    (fun x a' W' => ∃ Bx, s0 + 5 ≤ Bx ∧ W'.heap[Bx]? = some (.cells x.1.2.2.toArray 25 (0, 0)) ∧ a' = { tmps := #[.agg #[.int .i64 (Td.kind nd), .slice sa (Td.set nd).length sc, .int .i64 (Td.num nd), .string (Td.name nd), .int .i64 (Td.mn nd), .int .i64 (Td.mx nd), .bool (Td.lazy nd), .slice a (Td.subs nd).length c], .pointer (some ⟨W.heap.size, 0, none⟩), .pointer (some ⟨W.heap.size + 1, 0, none⟩), .pointer (some ⟨s0, 0, none⟩), .pointer (some ⟨s0 + 1 + 1, 0, none⟩), undef, .pointer (some ⟨Bx, 0, none⟩), .agg #[.int .i64 (Td.kind nd), .slice sa (Td.set nd).length sc, .int .i64 (Td.num nd), .string (Td.name nd), .int .i64 (Td.mn nd), .int .i64 (Td.mx nd), .bool (Td.lazy nd), .slice a (Td.subs nd).length c], .int .i64 (DP : Int), .bool false, .map (some (s0 + 1)), .agg #[.int .i64 (Td.kind nd), .slice sa (Td.set nd).length sc, .int .i64 (Td.num nd), .string (Td.name nd), .int .i64 (Td.mn nd), .int .i64 (Td.mx nd), .bool (Td.lazy nd), .slice a (Td.subs nd).length c], .func (.func 44) #[] #[.pointer (some ⟨w6.heap.size, 0, none⟩), .pointer (some ⟨w6.heap.size + 1, 0, none⟩)], .int .i64 (x.1.1 : Int), .agg x.1.2.2.toArray, undef, undef, undef, undef, undef, undef, undef, undef, undef, undef, undef, undef, undef, undef, undef, undef, undef, undef, undef, undef, undef, undef, undef, undef, undef, undef, undef, undef, undef, undef, undef, undef, undef, undef], defers := [] })
    (fun x a' s A B row hs hg hr => by
      obtain ⟨Bx, q1, q2, q3⟩ := hs
      exact ⟨Bx, q1, blk_kept q2 hg (fun r e => (hr r e).2), q3⟩) ?assign ?body ?done ?stop
  case assign =>
    intro l pre x W2 K hi hK
    obtain ⟨⟨hok, hG⟩, hB⟩ := hi
    obtain ⟨v0, v1, v2, v3, v4, v5, v6, v7, sa', sc', a', c', hx, F'⟩ := x.2.form_of
    have hlt : s0 + 5 ≤ W2.heap.size := hok.2
    have HK : Hid (∀ (W' : World) (cs' : Array Value), cs' = x.1.2.2.toArray → W' = W2.alloc (.cells cs' 25) → ∀ a', a' = _ → K a' W') := Lib.hid (fun W' cs' ec ew a' ea => hK a' W' (by rw [ew]; exact (KeepsOthers.alloc _ _).from _) (by rw [ew]; exact KpN.alloc _ _ hB.size)
      (by rw [ew]; exact ⟨⟨⟨hok.1, by simp; omega⟩, hG.grown (World.grownBy_alloc _ _ none) (by simp) (by simp) (by simp) (by simp)⟩, hB.alloc hB.size _⟩) ⟨W2.heap.size, hlt, by rw [ew, ec]; exact heap_alloc_new _ _, ea⟩)
    obtain ⟨rfl, rfl, rfl, rfl, rfl, rfl, rfl, rfl⟩ := F'
    unfold encN
    rw [hx]
    clear hK hG hB hok hlt
    gi_wp2
    exact HK.out _ _ (by rw [hx]) rfl _ (by rw [hx])
  case body =>
    rintro l pre x a' W2 hl0 hrec ⟨⟨⟨hok, hs5⟩, hG⟩, hB⟩ ⟨Bx, hBx, hbx, rfl⟩ hl
    have hq : (gpL pre).length ≤ 1000000 := by have := gpL_le pre; omega
    obtain ⟨v0, v1, v2, v3, v4, v5, v6, v7, sa', sc', a', c', hx, F'⟩ := x.2.form_of
    have hxn : x.1.2.1 = x.1.2.1 := rfl
    obtain ⟨vs', a'', cap'', C'', hC''⟩ := x.2.cells
    have HNM := Lib.hid hC''.name
    have HBD := Lib.hid hC''.bd.2.1
    obtain ⟨rfl, rfl, rfl, rfl, rfl, rfl, rfl, rfl⟩ := F'
    have HFT := Lib.hid (trFits_any W2 x.1.2.1 x.1.2.2 (x.2.kept hB))
    rw [hx] at hbx HFT
    have c0 := blkc hbx 0
    have c1 := blkc hbx 1
    have c2 := blkc hbx 2
    have c3 := blkc hbx 3
    have c4 := blkc hbx 4
    have c5 := blkc hbx 5
    have c6 := blkc hbx 6
    have c7 := blkc hbx 7
    simp only [List.getElem?_toArray, List.getElem?_cons_zero, List.getElem?_cons_succ] at c0 c1 c2 c3 c4 c5 c6 c7
    obtain ⟨m, hm⟩ : ∃ m, x.1.2.1 = m := ⟨_, rfl⟩
    rw [hm] at hbx HFT c0 c1 c2 c3 c4 c5 c6 c7 HNM HBD
    rw [hx, hm]
    obtain ⟨fb, hfb⟩ : ∃ fb, Td.fitsB m = fb := ⟨_, rfl⟩
    rw [hfb] at HFT
    have HBXX := Lib.hid hbx
    have HG := Lib.hid hG
    have HB := Lib.hid hB
    have HOK := Lib.hid hok
    have HM := Lib.hid hm
    have HFB := Lib.hid hfb
    have HQ := Lib.hid hq
    clear hC'' hx hxn hrec hl hl0 hbx hG hB hok hm hfb hq
    gi_wp2_with fail
    refine ⟨trivial, fun h => (by cases h), ?_⟩
    refine (CallsIn.inRound l (callsIn_wide.2 HFT.out)).mono ?_
    rintro e w3 ⟨rfl, hb3⟩
    clear c0 c1 c2 c3 c4 c5 c6 c7
    have hbx3 := (hb3.block _ (Array.getElem?_eq_some_iff.1 HBXX.out).1).trans HBXX.out
    have G3 := HG.out.grown (grown_below hb3) (by simp) (by simp) (by simp) (by simp)
    have HG3 := Lib.hid G3
    have HKF : Hid (∀ B, KeepsFrom B W2 w3) := Lib.hid (fun B => keepsFrom_below hb3)
    have HKP : Hid (KpN W.heap.size (s0 + 5) W2 w3) := Lib.hid (KpN.of_below hb3 HB.out.size)
    have HB3 := Lib.hid (HB.out.trans (hb3.mono HB.out.size))
    have hs53 : s0 + 5 ≤ w3.heap.size := Nat.le_trans hs5 hb3.size
    obtain ⟨rc, hr⟩ := G3.res
    have HR := Lib.hid hr
    have hrc := hr.cell
    have hrf := hr.frozen
    have HRET : Hid (∀ (w4 : World) (code : Int), (∀ B, KeepsFrom B W2 w4) → Boxed w4 (W.heap.size + 1) 28 (.int .i64 rc) → Below W.heap.size W w4 → errP code (pre ++ [x]) → (∀ B, KeepsFrom B W2 (w4.setCell ⟨W.heap.size + 1, 0, none⟩ (.int .i64 code))) ∧
        (∃ r, errP r (pre ++ [x]) ∧ Boxed (w4.setCell ⟨W.heap.size + 1, 0, none⟩ (.int .i64 code)) (W.heap.size + 1) 28 (.int .i64 r)) ∧ Below W.heap.size W (w4.setCell ⟨W.heap.size + 1, 0, none⟩ (.int .i64 code))) := Lib.hid (fun w4 code hkf hbb hbl he =>
      ⟨fun B => (hkf B).trans ((KeepsOthers.setCell _ _ _).from _), ⟨code, he, hbb.set _⟩, hbl.setCell (p := ⟨W.heap.size + 1, 0, none⟩) (by simp) _⟩)
    have b0 := blkc hbx3 0
    have b2 := blkc hbx3 2
    have b3 := blkc hbx3 3
    simp only [List.getElem?_toArray, List.getElem?_cons_zero, List.getElem?_cons_succ] at b0 b2 b3
    clear hbx3 hb3 G3 hr
    have HOKB := Lib.hid (HOK.out.bad x)
    have HOKO := Lib.hid (HOK.out.other x)
    have HOKD := Lib.hid (HOK.out.odd x)
    have HOKL := Lib.hid (HOK.out.long x)
    have HOKT := Lib.hid (HOK.out.there x)
    have HOKN := Lib.hid (HOK.out.next x)
    rw [HM.out, HFB.out] at HOKB HOKO HOKD HOKL HOKT HOKN
    obtain ⟨T, hT⟩ : ∃ T, gpL pre = T := ⟨_, rfl⟩
    rw [hT] at HG3 HQ HOKO HOKD HOKL HOKT HOKN
    clear hT
    cases fb with
    | false =>
      have HE := Lib.hid (HOKB.out rfl)
      gi_wp2
      have hz := HRET.out w3 60 HKF.out HR.out HB3.out HE.out
      exact ⟨hz.1 _, ⟨rfl, hz.2.1⟩, hz.2.2⟩
    | true =>
      by_cases k6 : Td.kind m = 6
      · obtain ⟨q, hq⟩ : ∃ q, T.length = q := ⟨_, rfl⟩
        have hlast := HG3.out.last
        rw [hq] at hlast HOKD HOKL HOKT HOKN HQ
        have hlc := hlast.cell
        have hlf := hlast.frozen
        have HQL := Lib.hid HQ.out
        have hql := HQ.out
        have hw : IntKind.i64.wrap ((q : Int) + 1) = (q : Int) + 1 := by rw [IntKind.wrap_i64]; omega
        by_cases hn : Td.num m = (q : Int) + 1
        · by_cases h31 : 31 < Td.num m
          · have HE := Lib.hid (HOKL.out rfl k6 hn h31)
            gi_wp2
            have hz := HRET.out w3 2 HKF.out HR.out HB3.out HE.out
            exact ⟨hz.1 _, ⟨rfl, hz.2.1⟩, hz.2.2⟩
          · obtain ⟨nn, D, hnn, hown, hmi⟩ := HG3.out.map
            have HOWN := Lib.hid hown
            have HMI := Lib.hid hmi
            have hkey : keyOf Try.prog 9 (.string (Td.name m)) = some (.string (Td.name m).data.toList) := WideMaps.keyOf_string_mk Try.underStr (by have := HNM.out; unfold maxLen; omega)
            have HKEY := Lib.hid hkey
            have hbc := HG3.out.box.cell
            rw [hq] at hnn
            have HNN := Lib.hid hnn
            have HLAST := Lib.hid hlast
            clear hown hmi hkey hlast hnn
            have HNEXT : Hid (∀ (c : Int), D.atKey (.string (Td.name m).data.toList) (.lit (.int .i64 0)) = .lit (.int .i64 c) → ¬ 0 < c → okP (pre ++ [x]) ∧ gpL (pre ++ [x]) = T ++ [Td.name m]) := Lib.hid (fun c hat hc => HOKN.out rfl k6 hn h31 (by rw [← HMI.out.2 _ c hat]; exact decide_eq_false hc))
            have HTHERE : Hid (∀ (c : Int), D.atKey (.string (Td.name m).data.toList) (.lit (.int .i64 0)) = .lit (.int .i64 c) → 0 < c → errP 6 (pre ++ [x])) := Lib.hid (fun c hat hc => HOKT.out rfl k6 hn h31 (by rw [← HMI.out.2 _ c hat]; exact decide_eq_true hc))
            have HLEN : Hid ((T ++ [Td.name m]).length = q + 1) := Lib.hid (by rw [List.length_append, hq]; rfl)
            have HOWS : Hid (∀ v, (w3.setCell ⟨s0, 0, none⟩ v).ownsMap Try.prog 9 (plainElem (H := Unit) Try.prog 3) (s0 + 1) nn D) := Lib.hid (fun v => HOWN.out.kept (grownBy_setCell' w3 s0 v) (by simp))
            have HFIN : Hid (∀ z : Int, (∀ B, KeepsFrom B W2 (w3.setCell ⟨s0, 0, none⟩ (.int .i64 z))) ∧ KpN W.heap.size (s0 + 5) W2 (w3.setCell ⟨s0, 0, none⟩ (.int .i64 z)) ∧ Below W.heap.size W (w3.setCell ⟨s0, 0, none⟩ (.int .i64 z))) := Lib.hid (fun z =>
              ⟨fun B => (HKF.out B).trans ((KeepsOthers.setCell _ _ _).from _), kpN_t HKP.out (KpN.set _ _ _ (by have := HSZ5.out; simp; omega) (by simp)), HB3.out.setCell (p := ⟨s0, 0, none⟩) (by have := HSZ5.out; simp; omega) _⟩)
            have hs0n : W.heap.size + 1 < s0 := by have := HSZ5.out; omega
            cases hM : (Td.name m).toList.isEmpty with
            | true =>
              gi_wp2_with (gi_at_lookup; refine wpListIn_lookup_own_int _ rfl _ _ 49 rfl 9 3 .i64 law6 Try.underMapSI Try.underInt6 (zeroInt6 _) (s0 + 1) nn D rfl HOWN.out _ _ rfl HKEY.out ?_; intro c hat hwc; have HAT := Lib.hid hat; clear hat hwc; by_cases hc : 0 < c)
              · have hz := HRET.out w3 6 HKF.out HR.out HB3.out (HTHERE.out c HAT.out hc)
                exact ⟨hz.1 _, ⟨rfl, hz.2.1⟩, hz.2.2⟩
              · have hnx := HNEXT.out c HAT.out hc
                have hfin := HFIN.out ((q : Int) + 1)
                refine ⟨hfin.1 _, hfin.2.1, ⟨⟨hnx.1, by simpa using hs53⟩, ?_⟩, hfin.2.2⟩
                rw [hnx.2]
                exact ⟨⟨rc, HR.out.kept (grownBy_setCell' w3 s0 _) (by simp; omega)⟩, by rw [HLEN.out, show ((q + 1 : Nat) : Int) = (q : Int) + 1 from by omega]; exact HLAST.out.set _, HG3.out.box.kept (grownBy_setCell' w3 s0 _) (by simp), nn, D, by rw [HLEN.out]; have := HNN.out; omega, HOWS.out _, HMI.out.none hM⟩
            | false =>
              gi_wp2_with (first
                | (gi_at_lookup; refine wpListIn_lookup_own_int _ rfl _ _ 49 rfl 9 3 .i64 law6 Try.underMapSI Try.underInt6 (zeroInt6 _) (s0 + 1) nn D rfl HOWN.out _ _ rfl HKEY.out ?_; intro c hat hwc; have HAT := Lib.hid hat; clear hat hwc; by_cases hc : 0 < c)
                | (gi_at_mapUpdate; refine wpListIn_mapUpdate_own _ rfl _ _ _ 49 rfl 9 3 law6 Try.underMapSI _ (s0 + 1) nn D rfl (HOWS.out _) (by have := HNN.out; unfold maxLen; omega) _ _ _ rfl rfl HKEY.out _ [] (plainElem_int Try.underInt6 (wf64 (by unfold I64; omega))) ?_; intro w4 hown4 hgrow4))
              · have hz := HRET.out w3 6 HKF.out HR.out HB3.out (HTHERE.out c HAT.out hc)
                exact ⟨hz.1 _, ⟨rfl, hz.2.1⟩, hz.2.2⟩
              · have hnx := HNEXT.out c HAT.out hc
                have hfin := HFIN.out ((q : Int) + 1)
                have hne9 : ∀ (cs : Array Value) (fr : Nat × Nat), (w3.setCell ⟨s0, 0, none⟩ (.int .i64 ((q : Int) + 1))).heap[s0 + 1]? ≠ some (Obj.cells cs 25 fr) := fun cs fr hc' => by
                  obtain ⟨es, clock, hb9, _⟩ := HOWS.out (.int .i64 ((q : Int) + 1))
                  rw [hb9] at hc'; cases hc'
                refine ⟨(hfin.1 _).trans (KeepsFrom.of_grownBy hgrow4 (fun j e => by cases e; simp [HS6.out])), kpN_t hfin.2.1 (KpN.grown hgrow4 (by have := HB3.out.size; simpa using this) (fun r e => by cases e; exact ⟨by have := HSZ5.out; omega, hne9⟩)), ⟨⟨hnx.1, by have := hgrow4.size; simp at this; omega⟩, ?_⟩, hfin.2.2.grown hgrow4 (by have := HB3.out.size; simpa using this) (fun k e => by cases e; have := HSZ5.out; omega)⟩
                rw [hnx.2]
                exact ⟨⟨rc, (HR.out.kept (grownBy_setCell' w3 s0 _) (by simp; omega)).kept hgrow4 (by simp; omega)⟩, by rw [HLEN.out, show ((q + 1 : Nat) : Int) = (q : Int) + 1 from by omega]; exact (HLAST.out.set _).kept hgrow4 (by simp), (HG3.out.box.kept (grownBy_setCell' w3 s0 _) (by simp)).kept hgrow4 (by simp), nn + 1, _, by rw [HLEN.out]; have := HNN.out; omega, hown4, HMI.out.put hM (by omega)⟩
        · have HE := Lib.hid (HOKD.out rfl k6 hn)
          gi_wp2
          have hz := HRET.out w3 60 HKF.out HR.out HB3.out HE.out
          exact ⟨hz.1 _, ⟨rfl, hz.2.1⟩, hz.2.2⟩
      · have hgo := HOKO.out rfl k6
        have HGO := Lib.hid hgo
        clear hgo
        gi_wp2
        exact ⟨HKF.out _, HKP.out, ⟨⟨HGO.out.1, hs53⟩, by rw [HGO.out.2]; exact HG3.out⟩, HB3.out⟩
  case done =>
    rintro D ys W2 hD hys ⟨⟨hok, hG⟩, hB⟩ hK
    have hyl : Td.chkF [] (Td.all 1000 1 nd) = 0 := by
      have := hok.1 []
      rw [List.append_nil, hys] at this
      rw [this]; rfl
    obtain ⟨rc, hr⟩ := hG.res
    have hcc := hr.cell
    have hff := hr.frozen
    have hset := hr.set (.int .i64 0)
    have HSET := Lib.hid hset
    have HB7 := Lib.hid (hB.setCell (p := ⟨W.heap.size + 1, 0, none⟩) (by simp) (.int .i64 0))
    have HLN := Lib.hid hyl
    have HKK := Lib.hid hK
    clear hys hyl hok hG hB hset
    gi_wp2
    have hK' := (KeepsOthers.setCell W2 ⟨W.heap.size + 1, 0, none⟩ (.int .i64 0)).same D _ HKK.out rfl
    refine ⟨by simp, .inl ⟨_, _, rfl, run_takeDeferred hK', ?_⟩⟩
    have hc5 := cell_kept HSET.out.cell (grownBy_putObj' _ D (.deferred none)) (fun r e => by cases e; exact ⟨_, hK', rfl⟩)
    refine ⟨.int .i64 0, ?_, by rw [hE.out, HLN.out], HB7.out.trans (belowK_b (w := W) (Nat.le_refl _) _ D _ _ (by simp [HS6.out] at hD; have := HSZ5.out; omega) hK' rfl rfl)⟩
    simp [results, Try.f20, go_sem, hc5]
  case stop =>
    rintro D c pre W2 hD hpre ⟨⟨rfl, r, herr, hr⟩, hB⟩ hK
    have hyl : Td.chkF [] (Td.all 1000 1 nd) = r := by
      obtain ⟨t, ht⟩ := hpre
      rw [← ht]; exact herr t
    have HLN := Lib.hid hyl
    have HR := Lib.hid hr
    clear hpre hyl herr hr
    gi_wp2
    refine ⟨by simp, .inl ⟨_, _, rfl, run_takeDeferred hK, ?_⟩⟩
    have hc5 := cell_kept HR.out.cell (grownBy_putObj' _ D (.deferred none)) (fun r e => by cases e; exact ⟨_, hK, rfl⟩)
    refine ⟨.int .i64 r, ?_, by rw [hE.out, HLN.out], hB.trans (belowK_b (w := W) (Nat.le_refl _) _ D _ _ (by simp [HS6.out] at hD; have := HSZ5.out; omega) hK rfl rfl)⟩
    simp [results, Try.f20, go_sem, hc5]
end Go.Proofs.Ythhdlcckboiecaa
