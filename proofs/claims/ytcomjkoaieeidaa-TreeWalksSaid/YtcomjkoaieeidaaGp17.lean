/- tree.Walk's iterator. -/
import Derived.Test.YtcomjkoaieeidaaGp1
import Derived.Test.YtcomjkoaieeidaaGp9
import Derived.Test.YtcomjkoaieeidaaGp12
import Derived.Test.YtcomjkoaieeidaaGp15
import Derived.Test.YtcomjkoaieeidaaGp16
namespace Go.Proofs.Ytcomjkoaieeidaa
open Go.RowKit Go.Shelf
attribute [local go_sem] Oper.semAt_some
set_option linter.unusedVariables false
def encW (x : Nat × Nd × List Value) : Array Value := #[.int .i64 (x.1 : Int), .agg x.2.2.toArray]
def wkP (x : Nat × Nd × List Value) : Nat × Nd := (x.1, x.2.1)
/-- The iterator of nodes, made in the world w0: each that it hands over has whatever all parts of the tree have. -/
theorem nodes_told (Wb w0 : World) (n n1 M : Nat) (h1M : 1 ≤ M) (hM : M ≤ 100000) (Pd : Nd → Prop) (hPd : ∀ n, Pd n → ∀ m ∈ Td.subs n, Pd m) (nd : Nd) (cs : List Value) (hnd : NdIs Wb nd cs) (hpn : Pd nd) (hb : Below Wb.heap.size Wb w0) (hn1 : n1 ≤ w0.heap.size + 2) :
    SeqTold Fence.wide n Try.prog 28 #[.pointer (some ⟨w0.heap.size, 0, none⟩), .pointer (some ⟨w0.heap.size + 1, 0, none⟩)] (encN (Wb := Wb)) (KpN Wb.heap.size n1) (fun _ _ => True) (fun x _ => Pd x.1.2.1) (fun ys => ys.map ndP = Td.all M 1 nd)
      (fun pre => pre.map ndP <+: Td.all M 1 nd) (Td.all M 1 nd).length ((w0.alloc (.cells cs.toArray 25)).alloc (.cells #[.int .i64 (M : Int)] 3)) := fun l J Jx W hW _ hJ _ hY h0 => by
  have hs := hW.size
  simp only [World.size_alloc] at hs
  have e1 : (w0.alloc (.cells cs.toArray 25)).heap.size = w0.heap.size + 1 := World.size_alloc _ _
  have hc : ((w0.alloc (.cells cs.toArray 25)).alloc (.cells #[.int .i64 (M : Int)] 3)).heap[w0.heap.size]? = some (.cells cs.toArray 25 (0, 0)) :=
    (Below.heap_alloc _ _ _ (by rw [e1]; omega)).trans (heap_alloc_new w0 _)
  have hd : ((w0.alloc (.cells cs.toArray 25)).alloc (.cells #[.int .i64 (M : Int)] 3)).cell? ⟨w0.heap.size + 1, 0, none⟩ = some (.int .i64 (M : Int)) := by
    have key : ∀ X : World, (X.alloc (.cells #[.int .i64 (M : Int)] 3)).cell? ⟨X.heap.size, 0, none⟩ = some (.int .i64 (M : Int)) := fun X => by simp
    have h9 := key (w0.alloc (.cells cs.toArray 25))
    rwa [e1] at h9
  have hbb : Below Wb.heap.size Wb W := (hb.alloc hb.size _).alloc (by have := hb.size; simp; omega) _ |>.trans (hW.mono (by have := hb.size; simp; omega))
  have key : ∀ {I : List (NdX Wb) → World → Prop}, OwnFrom W.heap.size I → AbidesFrom W.heap.size I := fun hI s X Y row hs hg hr => hI s X Y row hs hg (fun r e => by obtain ⟨h1, o, ho, hw⟩ := hr r e; exact ⟨h1, o, ho, Obj.not_cells_of_walk hw⟩)
  exact nodes1_in Wb n l n1 _ M _ _ h1M hM nd cs hnd J Jx _ (key hJ) Pd hPd (fun pre x W1 hj hp hl => (yield_wide 0 (hY pre x W1 hj hp hl)).mono (fun e w h => h.imp_right (fun h => ⟨h.1, h.2.1⟩))) W hbb (by omega)
    ((hW.block _ (by simp; omega)).trans hc) ((hW.cell (p := ⟨w0.heap.size + 1, 0, none⟩) (by simp)).trans hd) (Nat.le_refl _) h0 hpn
theorem fit_subs40 : ∀ n, Td.fit 40 n → ∀ m ∈ Td.subs n, Td.fit 40 m := fun n h m hm => Td.fit_mono 39 40 m (h.2.2.2 m hm) (by omega)
set_option maxRecDepth 100000 in
set_option maxHeartbeats 4000000 in
theorem walk1_told (Wb w0 : World) (n n1 Bn : Nat) (hn : 4 ≤ n) (nd : Nd) (cs : List Value) (hfit : Td.fit 40 nd) (hnd : NdIs Wb nd cs) (hBn : Wb.heap[Bn]? = some (.cells cs.toArray 25 (0, 0))) (hbw : Below Wb.heap.size Wb w0) (hn1 : n1 ≤ w0.heap.size + 2) :
    SeqTold Fence.wide n Try.prog 18 #[.pointer (some ⟨Bn, 0, none⟩)] encW (KpA Wb.heap.size n1) (KfA n1) (fun x W => NdIs W x.2.1 x.2.2) (fun ys => ys.map wkP = Td.all 1000 1 nd) (fun pre => pre.map wkP <+: Td.all 1000 1 nd) (Td.all 1000 1 nd).length w0 := by
  intro l J Jx W hb hW2 hJ hJx hY h0
  have h1 : 1 ≤ n := by omega
  have hbW : Below Wb.heap.size Wb W := hbw.trans (hb.mono hbw.size)
  have hs := hb.size
  have hsW := hbW.size
  have HNB := Lib.hid hnd
  have HND := Lib.hid (hnd.kept hbW)
  have HY := Lib.hid hY
  have HJ := Lib.hid hJ
  have HJX := Lib.hid hJx
  have H0 := Lib.hid h0
  have HBW := Lib.hid hbW
  have hBl : Bn < Wb.heap.size := (Array.getElem?_eq_some_iff.1 hBn).1
  have hx0 := (hbW.block Bn hBl).trans hBn
  clear hY hJ hJx hb h0 hBn hbW hbw
  obtain ⟨u0, u1, u2, u3, u4, u5, u6, u7, sa, sc, a, c, hcs, F⟩ := hnd.form_of
  subst hcs
  obtain ⟨rfl, rfl, rfl, rfl, rfl, rfl, rfl, rfl⟩ := F
  have hxa : ∀ o : Obj, (W.alloc o).heap[Bn]? = W.heap[Bn]? := fun o => Below.heap_alloc _ _ _ (by omega)
  have b0 := fun o : Obj => blkc ((hxa o).trans hx0) 0
  have b1 := fun o : Obj => blkc ((hxa o).trans hx0) 1
  have b2 := fun o : Obj => blkc ((hxa o).trans hx0) 2
  have b3 := fun o : Obj => blkc ((hxa o).trans hx0) 3
  have b4 := fun o : Obj => blkc ((hxa o).trans hx0) 4
  have b5 := fun o : Obj => blkc ((hxa o).trans hx0) 5
  have b6 := fun o : Obj => blkc ((hxa o).trans hx0) 6
  have b7 := fun o : Obj => blkc ((hxa o).trans hx0) 7
  simp only [List.getElem?_toArray, List.getElem?_cons_zero, List.getElem?_cons_succ] at b0 b1 b2 b3 b4 b5 b6 b7
  clear hxa
  clear hnd
  obtain ⟨W1, hW1⟩ : ∃ W1, W.alloc (.cells #[.func (.yield l) #[] #[]] 46) = W1 := ⟨_, rfl⟩
  have hs1 : W1.heap.size = W.heap.size + 1 := by rw [← hW1]; simp
  have hy1 : W1.heap[W.heap.size]? = some (.cells #[.func (.yield l) #[] #[]] 46 (0, 0)) := by rw [← hW1]; exact heap_alloc_new W _
  have hb1 : Below Wb.heap.size Wb W1 := by rw [← hW1]; exact HBW.out.alloc hsW _
  have hj1 : J [] W1 := by rw [← hW1]; exact HJ.out.alloc _ H0.out
  have HW1 := Lib.hid hW1
  have HY1 := Lib.hid hy1
  have HB1 := Lib.hid hb1
  have HJ1 := Lib.hid hj1
  have HS1 := Lib.hid hs1
  clear hW1 hy1 hb1 hj1 hs1
  refine callsIn_of_wp_marks Try.func18 rfl trivial ?_ rfl
  simp only [Try.ntmps18, List.size_toArray, List.length_cons, List.length_nil, Nat.reduceAdd, Nat.reduceSub, Array.replicate_succ, Array.replicate_zero, List.push_toArray, List.append_toArray, List.nil_append, List.cons_append]
  gi_wp2_with fail
  refine ⟨trivial, ?_⟩
  rw [HW1.out]
  refine (callsIn_wide.2 (nodes_any W1 nd _ 1000 (HNB.out.kept HB1.out))).mono ?_
  rintro e w' ⟨rfl, rfl⟩
  clear b0 b1 b2 b3 b4 b5 b6 b7
  gi_wp2
  refine range_told rfl h1 (gf := 28) (lb := #[.pointer (some ⟨W1.heap.size, 0, none⟩), .pointer (some ⟨W1.heap.size + 1, 0, none⟩)]) rfl trivial (enters_of Try.func28 (by kernel_rfl) rfl)
    (nodes_told Wb W1 (n - 1) n1 1000 (by omega) (by omega) (Td.fit 40) fit_subs40 nd _ HNB.out hfit HB1.out (by rw [HS1.out]; omega)) kpN_t (fun X k o o' hk => kpN_b (w := W1) (by rw [HS1.out]; omega) X k o o' (by simp only [World.size_alloc] at hk; omega)) (fun _ _ _ _ _ _ _ _ _ _ => trivial) (Below.refl _ _) (fun _ => rfl)
    (fun pre W' => (∃ q : List (Nat × Nd × List Value), q.map wkP = pre.map ndP ∧ J q W') ∧ W'.heap[W.heap.size]? = some (.cells #[.func (.yield l) #[] #[]] 46 (0, 0)) ∧ Below Wb.heap.size Wb W')
    (fun c pre W' => c = .ret ∧ ∃ q : List (Nat × Nd × List Value), q.map wkP = pre.map ndP ∧ Jx q W')
    ?hI ?hIx ?h0 ?round ?done ?stop
  case hI =>
    rintro s A B row ⟨⟨q, hq, hj⟩, hy, hbb⟩ hgr hr
    have hz : ∀ r, row = some r → W.heap.size + 3 ≤ r := fun r e => by have := (hr r e).1; simp [HS1.out] at this; omega
    exact ⟨⟨q, hq, HJ.out q A B row hj hgr (fun r e => ⟨by have := hz r e; omega, (hr r e).2⟩)⟩, (hgr.block _ (Array.getElem?_eq_some_iff.1 hy).1 (fun e => by have := hz _ e.symm; omega)).trans hy, hbb.grown hgr hbb.size (fun k hk => by have := hz k hk; omega)⟩
  case hIx =>
    rintro c s A B row ⟨e, q, hq, hj⟩ hgr hr
    exact ⟨e, q, hq, HJX.out q A B row hj hgr (fun r e => ⟨by have := (hr r e).1; simp [HS1.out] at this; omega, (hr r e).2⟩)⟩
  case h0 =>
    refine ⟨⟨[], rfl, HJ.out.alloc _ (HJ.out.alloc _ HJ1.out)⟩, ?_, (HB1.out.alloc (by rw [HS1.out]; omega) _).alloc (by simp [HS1.out]; omega) _⟩
    exact (Below.heap_alloc _ _ _ (by simp [HS1.out]; omega)).trans ((Below.heap_alloc _ _ _ (by rw [HS1.out]; omega)).trans HY1.out)
  case round =>
    rintro l' pre ⟨⟨d, nx, cx⟩, hx⟩ Wr hl' hrec ⟨⟨q, hq, hjq⟩, hyb, hbb⟩ hfx hlen
    have hx' : NdIs Wb nx cx := hx
    have HX := Lib.hid hx'
    have HQ := Lib.hid hq
    have HJQ := Lib.hid hjq
    have HYB := Lib.hid hyb
    have HBB := Lib.hid hbb
    have HREC := Lib.hid hrec
    have HFX : Hid (Td.fit 40 nx) := Lib.hid hfx
    have hlen2 : q.length < (Td.all 1000 1 nd).length := by rw [← List.length_map (f := wkP), hq, List.length_map]; exact hlen
    have hl2 : W.heap.size + 3 ≤ l' := by simp [HS1.out] at hl'; omega
    obtain ⟨v0, v1, v2, v3, v4, v5, v6, v7, sa', sc', a', c', hcs', F'⟩ := hx'.form_of
    have hrs := hbb.size
    have hlr : l' < Wr.heap.size := by obtain ⟨r, hr⟩ := hrec; exact (Array.getElem?_eq_some_iff.1 hr).1
    clear hq hjq hyb hbb hrec hfx hx' hl'
    subst hcs'
    obtain ⟨rfl, rfl, rfl, rfl, rfl, rfl, rfl, rfl⟩ := F'
    unfold encN
    dsimp only
    gi_wp2
    refine ⟨⟨by simp, fun k o _ hk ho => (Below.heap_alloc _ _ _ (Array.getElem?_eq_some_iff.1 hk).1).trans hk⟩, fun o ho1 ho2 => ?_⟩
    obtain ⟨V, hV⟩ : ∃ V, (Wr.alloc (.cells #[.int .i64 (Td.kind nx), .slice sa' (Td.set nx).length sc', .int .i64 (Td.num nx), .string (Td.name nx), .int .i64 (Td.mn nx), .int .i64 (Td.mx nx), .bool (Td.lazy nx), .slice a' (Td.subs nx).length c'] 25)).putObj l' o = V := ⟨_, rfl⟩
    have hVs : V.heap.size = Wr.heap.size + 1 := by rw [← hV]; simp
    have hVk : ∀ b, b < Wr.heap.size → b ≠ l' → V.heap[b]? = Wr.heap[b]? := fun b hb hne => by
      rw [← hV, (grownBy_putObj' _ l' o).block b (by simp; omega) (fun e => hne (by cases e; rfl))]
      exact Below.heap_alloc _ _ _ hb
    have hVx : V.heap[Wr.heap.size]? = some (.cells #[.int .i64 (Td.kind nx), .slice sa' (Td.set nx).length sc', .int .i64 (Td.num nx), .string (Td.name nx), .int .i64 (Td.mn nx), .int .i64 (Td.mx nx), .bool (Td.lazy nx), .slice a' (Td.subs nx).length c'] 25 (0, 0)) := by
      rw [← hV, (grownBy_putObj' _ l' o).block _ (by simp) (fun e => by cases e; omega)]
      exact heap_alloc_new Wr _
    have hVo : V.os = Wr.os ∧ V.tape = Wr.tape ∧ V.output = Wr.output := by rw [← hV]; exact ⟨rfl, rfl, rfl⟩
    rw [hV]
    gi_wp2_with fail
    refine ⟨trivial, fun _ => (by omega), ?_⟩
    have hndon : NdOn (· ≠ Wr.heap.size) V nx _ := ((NdOn.of HX.out).kept (W' := V) (by omega) (fun b hb _ => (hVk b (by omega) (by omega)).trans (HBB.out.block b hb))).mono (fun b hb => by omega)
    have hr := renew_ok 40 V nx _ Wr.heap.size 0 65536 _ _ HFX.out (by omega) (by omega) hndon hVx (fun i hi => by simp)
    rw [show ((65536 : Nat) : Int) = 65536 from rfl] at hr
    have HVK := Lib.hid hVk
    have HVO := Lib.hid hVo
    have HV := Lib.hid hV
    clear hndon hVk hVo hV
    refine (callsIn_wide.2 hr).mono ?_
    clear hr
    rintro e w5 ⟨rfl, z1, z7, hn5, hx5, hg5⟩
    simp only [List.set_cons_succ, List.set_cons_zero] at hn5
    have hx5' : w5.heap[Wr.heap.size]? = some (.cells #[.int .i64 (Td.kind nx), z1, .int .i64 (Td.num nx), .string (Td.name nx), .int .i64 (Td.mn nx), .int .i64 (Td.mx nx), .bool (Td.lazy nx), z7] 25 (0, 0)) := by
      rw [hx5]; simp
    have hgw : Wr.grownBy w5 (some l') := ⟨hg5.os.trans HVO.out.1, hg5.tape.trans HVO.out.2.1, hg5.output.trans HVO.out.2.2, by have := hg5.size; omega, fun b hb hne => (hg5.block b (by omega) (by intro e; injection e with e; omega)).trans (HVK.out b hb (fun e => hne (by rw [e])))⟩
    have hyb5 : w5.heap[W.heap.size]? = some (.cells #[.func (.yield l) #[] #[]] 46 (0, 0)) := (hgw.block _ (Array.getElem?_eq_some_iff.1 HYB.out).1 (by intro e; injection e with e; omega)).trans HYB.out
    have hj5 : J q w5 := HJ.out q Wr w5 (some l') HJQ.out hgw (fun r e => by
      injection e with e; subst e
      obtain ⟨rr, hrr⟩ := HREC.out
      exact ⟨by omega, _, hrr, rfl⟩)
    have hy := yield_wide (n - 1 - 1 - 1) (HY.out q (d, nx, [.int .i64 (Td.kind nx), z1, .int .i64 (Td.num nx), .string (Td.name nx), .int .i64 (Td.mn nx), .int .i64 (Td.mx nx), .bool (Td.lazy nx), z7]) w5 hj5 hn5.is hlen2)
    unfold encW at hy
    dsimp only at hy
    have HN5 := Lib.hid hn5
    have HX5 := Lib.hid hx5'
    have HG5 := Lib.hid hg5
    have HGW := Lib.hid hgw
    have HYB5 := Lib.hid hyb5
    have cy : w5.cell? ⟨W.heap.size, 0, none⟩ = some (.func (.yield l) #[] #[]) := by simp [World.cell?, hyb5]
    have b0 := blkc hx5' 0
    have b1 := blkc hx5' 1
    have b2 := blkc hx5' 2
    have b3 := blkc hx5' 3
    have b4 := blkc hx5' 4
    have b5 := blkc hx5' 5
    have b6 := blkc hx5' 6
    have b7 := blkc hx5' 7
    simp only [List.getElem?_toArray, List.getElem?_cons_zero, List.getElem?_cons_succ] at b0 b1 b2 b3 b4 b5 b6 b7
    clear hn5 hx5 hx5' hg5 hgw hyb5 hj5
    obtain ⟨fn, tmps, assign, body, hyy, hR⟩ := hy
    gi_wp2
    refine ⟨fun _ => (by omega), hR.mono ?_⟩
    clear hR hyy cy b0 b1 b2 b3 b4 b5 b6 b7
    have keep : ∀ W3, KpA Wb.heap.size n1 w5 W3 → KeepsFrom (W.heap.size + 3) V W3 ∧ KpN Wb.heap.size n1 Wr W3 := fun W3 hk => by
      have e1 := HG5.out.size
      have e2 := hk.below.size
      refine ⟨⟨by omega, fun k o hk1 hv ho => ?_⟩, HGW.out |> fun hg => ⟨⟨hk.below.os.trans hg.os, hk.below.tape.trans hg.tape, hk.below.output.trans hg.output, by have := hg.size; omega, fun b hb => (hk.below.block b hb).trans (hg.block b (by omega) (by intro e; injection e with e; omega))⟩, fun k cs fr hk1 hx => hk.own k _ hk1 ?_⟩⟩
      · refine hk.own k o (by omega) ((HG5.out.block k (Array.getElem?_eq_some_iff.1 hv).1 ?_).trans hv)
        intro e; injection e with e; subst e
        rw [hVx] at hv; cases hv; cases ho
      · refine (hg.block k (Array.getElem?_eq_some_iff.1 hx).1 ?_).trans hx
        intro e; injection e with e; subst e
        obtain ⟨rr, hrr⟩ := HREC.out
        rw [hrr] at hx; cases hx
    have KEEP := Lib.hid keep
    clear keep
    have keepf : ∀ W3, KfA n1 w5 W3 → KeepsFrom (W.heap.size + 3) V W3 := fun W3 hk => by
      have e1 := HG5.out.size
      have e2 := hk.size
      refine ⟨by omega, fun k o hk1 hv ho => ?_⟩
      refine hk.own k o (by omega) ((HG5.out.block k (Array.getElem?_eq_some_iff.1 hv).1 ?_).trans hv)
      intro e; injection e with e; subst e
      rw [hVx] at hv; cases hv; cases ho
    have KEEPF := Lib.hid keepf
    clear keepf
    have hwz : ((W1.alloc (.cells #[.int .i64 (Td.kind nd), .slice sa (Td.set nd).length sc, .int .i64 (Td.num nd), .string (Td.name nd), .int .i64 (Td.mn nd), .int .i64 (Td.mx nd), .bool (Td.lazy nd), .slice a (Td.subs nd).length c] 25)).alloc (.cells #[.int .i64 1000] 3)).heap.size = W.heap.size + 3 := by simp [HS1.out]
    have HWZ := Lib.hid hwz
    have HQ2 : Hid ((q ++ [(d, nx, [.int .i64 (Td.kind nx), z1, .int .i64 (Td.num nx), .string (Td.name nx), .int .i64 (Td.mn nx), .int .i64 (Td.mx nx), .bool (Td.lazy nx), z7])]).map wkP = (pre ++ [(⟨(d, nx, _), hx⟩ : NdX Wb)]).map ndP) := Lib.hid (by rw [List.map_append, List.map_append, HQ.out]; rfl)
    rintro e W3 (⟨rfl, hJ3, hk3⟩ | ⟨rfl, hJx3, hk3⟩)
    · have HK3 := Lib.hid hk3
      have HJ3 := Lib.hid hJ3
      clear hk3 hJ3 hwz
      gi_wp2
      refine ⟨by rw [HWZ.out]; exact (KEEP.out W3 HK3.out).1, (KEEP.out W3 HK3.out).2, ⟨_, HQ2.out, HJ3.out⟩, HK3.out.own _ _ (by omega) HYB5.out, ?_⟩
      exact HBB.out.trans (KEEP.out W3 HK3.out).2.below
    · have HK3 := Lib.hid hk3
      have HJ3 := Lib.hid hJx3
      clear hk3 hJx3 hwz
      gi_wp2
      exact ⟨by rw [HWZ.out]; exact KEEPF.out W3 HK3.out, trivial, rfl, _, HQ2.out, HJ3.out⟩
  case done =>
    rintro D ys W2 hD hys ⟨⟨q, hq, hj⟩, _, _⟩ hK
    have hD2 : W.heap.size ≤ D := by simp [HS1.out] at hD; omega
    have HQ := Lib.hid (hq.trans hys)
    have HJQ := Lib.hid hj
    clear hq hys hj
    gi_wp2
    refine ⟨by simp, .inl ⟨_, _, rfl, run_takeDeferred hK, ?_⟩⟩
    exact ⟨.tuple #[], by simp [results, Try.f18, go_sem], ⟨_, rfl⟩, .inl ⟨q, HQ.out, HJ.out.putObj _ HJQ.out hD2 hK rfl⟩⟩
  case stop =>
    rintro D c pre W2 hD hpre ⟨rfl, q, hq, hj⟩ hK
    have hD2 : W.heap.size ≤ D := by simp [HS1.out] at hD; omega
    have HQ : Hid (q.map wkP <+: Td.all 1000 1 nd) := Lib.hid (by rw [hq]; exact hpre)
    have HJQ := Lib.hid hj
    clear hq hpre hj
    gi_wp2
    refine ⟨by simp, .inl ⟨_, _, rfl, run_takeDeferred hK, ?_⟩⟩
    exact ⟨.tuple #[], by simp [results, Try.f18, go_sem], ⟨_, rfl⟩, .inr ⟨q, HQ.out, HJX.out.putObj _ HJQ.out hD2 hK rfl⟩⟩
end Go.Proofs.Ytcomjkoaieeidaa
