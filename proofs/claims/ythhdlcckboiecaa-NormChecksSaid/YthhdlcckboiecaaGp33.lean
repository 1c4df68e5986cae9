/- The landed norm: nodes and its iterator (as in the landed tree). · The landed norm: Slots. · The landed norm: the iterator of nodes over nodes of a kind that is handed down. -/
import Derived.Test.YthhdlcckboiecaaGp32
import Derived.Test.YthhdlcckboiecaaGp11
namespace Go.Proofs.Ythhdlcckboiecaa
open Go.RowKit Go.Shelf
attribute [local go_sem] Oper.semAt_some
set_option linter.unusedVariables false
theorem desc_anyN (Wb : World) (l n1 N M : Nat) (hM : M ≤ 100000) (J Jx : List (NdX Wb) → World → Prop) (B0 : Nat) (hJ : AbidesFrom B0 J)
    (Pd : Nd → Prop) (hPd : ∀ n, Pd n → ∀ m ∈ Td.subs n, Pd m)
    (hY : ∀ pre (x : NdX Wb) W, J pre W → Pd x.1.2.1 → pre.length < N → YieldAt Fence.wide 0 Try.prog l (encN x) W fun e W' => (e = .returned (.bool true) ∧ J (pre ++ [x]) W' ∧ KpN Wb.heap.size n1 W W') ∨ (e = .returned (.bool false) ∧ Jx (pre ++ [x]) W')) :
    ∀ k, 1 ≤ k → DescOkN Wb l n1 N M J Jx Pd k
  | 0, h => absurd h (by omega)
  | k + 1, _ => desc_stepN Wb l n1 N M hM J Jx B0 hJ Pd hPd hY k (fun h => desc_anyN Wb l n1 N M hM J Jx B0 hJ Pd hPd hY k h)
set_option maxRecDepth 100000 in
set_option maxHeartbeats 4000000 in
theorem nodes1_inN (Wb : World) (n l n1 N M Bn Bd : Nat) (h1M : 1 ≤ M) (hM : M ≤ 100000) (nd : Nd) (cs : List Value) (hnd : NdIs Wb nd cs) (J Jx : List (NdX Wb) → World → Prop) (B0 : Nat) (hJ : AbidesFrom B0 J)
    (Pd : Nd → Prop) (hPd : ∀ n, Pd n → ∀ m ∈ Td.subs n, Pd m)
    (hY : ∀ pre (x : NdX Wb) W, J pre W → Pd x.1.2.1 → pre.length < N → YieldAt Fence.wide 0 Try.prog l (encN x) W fun e W' => (e = .returned (.bool true) ∧ J (pre ++ [x]) W' ∧ KpN Wb.heap.size n1 W W') ∨ (e = .returned (.bool false) ∧ Jx (pre ++ [x]) W'))
    (W : World) (hb : Below Wb.heap.size Wb W) (hn1 : n1 ≤ W.heap.size) (hc : W.heap[Bn]? = some (.cells cs.toArray 25 (0, 0))) (hd : W.cell? ⟨Bd, 0, none⟩ = some (.int .i64 (M : Int))) (hN : (Td.all M 1 nd).length ≤ N) (h0 : J [] W) (hpn : Pd nd) :
    CallsIn Fence.wide n Try.prog 24 #[.func (.yield l) #[] #[], .pointer (some ⟨Bn, 0, none⟩), .pointer (some ⟨Bd, 0, none⟩)] W fun e W' => (∃ v, e = .returned v) ∧
      ((∃ ys : List (NdX Wb), ys.map ndP = Td.all M 1 nd ∧ J ys W') ∨ (∃ pre : List (NdX Wb), pre.map ndP <+: Td.all M 1 nd ∧ Jx pre W')) := by
  have HD : Hid (Calls Try.prog 25 #[.agg cs.toArray, .int .i64 1, .int .i64 (M : Int), .func (.yield l) #[] #[]] W (StopsAt Wb Wb.heap.size n1 M 1 nd J Jx [] W)) := Lib.hid (desc_anyN Wb l n1 N M hM J Jx B0 hJ Pd hPd hY M h1M 1 nd cs [] W (by omega) hnd hpn hb h0 (by simpa using hN) hn1)
  obtain ⟨u0, u1, u2, u3, u4, u5, u6, u7, sa, sc, a, c, rfl, F⟩ := hnd.form_of
  obtain ⟨rfl, rfl, rfl, rfl, rfl, rfl, rfl, rfl⟩ := F
  have b0 := blkc hc 0
  have b1 := blkc hc 1
  have b2 := blkc hc 2
  have b3 := blkc hc 3
  have b4 := blkc hc 4
  have b5 := blkc hc 5
  have b6 := blkc hc 6
  have b7 := blkc hc 7
  simp only [List.getElem?_toArray, List.getElem?_cons_zero, List.getElem?_cons_succ] at b0 b1 b2 b3 b4 b5 b6 b7
  clear hJ hY hnd hc hb hN h0 hPd hpn
  refine callsIn_of_wp Try.func24 rfl trivial ?_ rfl
  simp only [Try.ntmps24, List.size_toArray, List.length_cons, List.length_nil, Nat.reduceAdd, Nat.reduceSub, Array.replicate_succ, Array.replicate_zero, List.push_toArray, List.append_toArray, List.nil_append, List.cons_append]
  gi_wp2_with fail
  refine ⟨trivial, fun h => (by cases h), ?_⟩
  refine (callsIn_wide.2 HD.out).mono ?_
  rintro e w5 (⟨rfl, ⟨ys, hys, hj5⟩, hk5⟩ | ⟨rfl, q, hq, hx5⟩)
  · gi_wp2
    go_end0
    exact ⟨⟨_, rfl⟩, .inl ⟨ys, hys, hj5⟩⟩
  · gi_wp2
    go_end0
    exact ⟨⟨_, rfl⟩, .inr ⟨q, hq, hx5⟩⟩
set_option maxRecDepth 100000 in
set_option maxHeartbeats 2000000 in
theorem nodes_anyN (w : World) (nd : Nd) (cs : List Value) (M : Int) (hnd : NdIs w nd cs) : Calls Try.prog 15 #[.agg cs.toArray, .int .i64 M] w fun e w' =>
    e = .returned (.func (.func 24) #[] #[.pointer (some ⟨w.heap.size, 0, none⟩), .pointer (some ⟨w.heap.size + 1, 0, none⟩)]) ∧ (w.alloc (.cells cs.toArray 25)).alloc (.cells #[.int .i64 M] 3) = w' := by
  obtain ⟨u0, u1, u2, u3, u4, u5, u6, u7, sa, sc, a, c, rfl, F⟩ := hnd.form_of
  obtain ⟨rfl, rfl, rfl, rfl, rfl, rfl, rfl, rfl⟩ := F
  clear hnd
  go_enter Try.func15, Try.ntmps15
  go_wp2
  go_ret
  exact ⟨rfl, rfl⟩
/-- The iterator of nodes, made in the world w0. -/
theorem nodes_stopsN (Wb w0 : World) (n n1 M : Nat) (h1M : 1 ≤ M) (hM : M ≤ 100000) (nd : Nd) (cs : List Value) (hnd : NdIs Wb nd cs) (hb : Below Wb.heap.size Wb w0) (hn1 : n1 ≤ w0.heap.size + 2) :
    SeqStopsK Fence.wide n Try.prog 24 #[.pointer (some ⟨w0.heap.size, 0, none⟩), .pointer (some ⟨w0.heap.size + 1, 0, none⟩)] (encN (Wb := Wb)) (KpN Wb.heap.size n1) (fun ys => ys.map ndP = Td.all M 1 nd)
      (fun pre => pre.map ndP <+: Td.all M 1 nd) (Td.all M 1 nd).length ((w0.alloc (.cells cs.toArray 25)).alloc (.cells #[.int .i64 (M : Int)] 3)) := fun l J Jx W hW hJ _ hY h0 => by
  have hs := hW.size
  simp only [World.size_alloc] at hs
  have e1 : (w0.alloc (.cells cs.toArray 25)).heap.size = w0.heap.size + 1 := World.size_alloc _ _
  have hc : ((w0.alloc (.cells cs.toArray 25)).alloc (.cells #[.int .i64 (M : Int)] 3)).heap[w0.heap.size]? = some (.cells cs.toArray 25 (0, 0)) :=
    (Below.heap_alloc _ _ _ (by rw [e1]; omega)).trans (heap_alloc_new w0 _)
  have hd : ((w0.alloc (.cells cs.toArray 25)).alloc (.cells #[.int .i64 (M : Int)] 3)).cell? ⟨w0.heap.size + 1, 0, none⟩ = some (.int .i64 (M : Int)) := by
    have key : ∀ X : World, (X.alloc (.cells #[.int .i64 (M : Int)] 3)).cell? ⟨X.heap.size, 0, none⟩ = some (.int .i64 (M : Int)) := fun X => by simp
    have h9 := key (w0.alloc (.cells cs.toArray 25))
    rwa [e1] at h9
  have hbb : Below Wb.heap.size Wb W := (hb.alloc hb.size _).alloc (by have := hb.size; simp; omega) _ |>.trans (hW.mono (by have := hb.size; simp; omega))
  exact nodes1_inN Wb n l n1 _ M _ _ h1M hM nd cs hnd J Jx _ hJ (fun _ => True) (fun _ _ _ _ => trivial) (fun pre x W1 hj _ hl => yield_wide 0 (hY pre x W1 hj hl)) W hbb (by omega)
    ((hW.block _ (by simp; omega)).trans hc) ((hW.cell (p := ⟨w0.heap.size + 1, 0, none⟩) (by simp)).trans hd) (Nat.le_refl _) h0 trivial
end Go.Proofs.Ythhdlcckboiecaa
namespace Go.Proofs.Ythhdlcckboiecaa
open Go.RowKit Go.Shelf
attribute [local go_sem] Oper.semAt_some
set_option linter.unusedVariables false
namespace Nm
/-- The greatest number of a group among nodes. -/
def topG (l : List (Nat × Nd)) : Int := l.foldl (fun a p => if Td.kind p.2 = 6 then max a (Td.num p.2) else a) 0
theorem topG_snoc (l : List (Nat × Nd)) (p : Nat × Nd) : topG (l ++ [p]) = if Td.kind p.2 = 6 then max (topG l) (Td.num p.2) else topG l := by
  unfold topG
  rw [List.foldl_append]
  rfl
theorem topG_pos : ∀ (l : List (Nat × Nd)), 0 ≤ topG l := by
  intro l
  unfold topG
  have h : ∀ (l : List (Nat × Nd)) (a : Int), 0 ≤ a → 0 ≤ l.foldl (fun a p => if Td.kind p.2 = 6 then max a (Td.num p.2) else a) a := by
    intro l
    induction l with
    | nil => intro a h; exact h
    | cons p l ih =>
      intro a h
      rw [List.foldl_cons]
      refine ih _ ?_
      split <;> omega
  exact h l 0 (Int.le_refl _)
end Nm
open Go.Proofs.Ythhdlcckboiecaa.Nm
/-- What the loop of Slots holds. -/
def SlI (B : Nat) (g : Int) (W : World) : Prop := B + 3 ≤ W.heap.size ∧ Boxed W B 3 (.int .i64 g)
theorem SlI.own {B : Nat} {g : Int} {W W' : World} {row : Option Nat} (h : SlI B g W) (hg : W.grownBy W' row) (hr : ∀ r, row = some r → ∃ o : Obj, W.heap[r]? = some o ∧ o.isCells = false) : SlI B g W' :=
  ⟨Nat.le_trans h.1 hg.size, h.2.kept hg (fun e => by
    obtain ⟨o, ho, hc⟩ := hr B e.symm
    rw [show W.heap[B]? = _ from h.2] at ho; cases ho; cases hc)⟩
def tgL {Wb : World} (pre : List (NdX Wb)) : Int := topG (pre.map ndP)
theorem tgL_snoc {Wb : World} (pre : List (NdX Wb)) (x : NdX Wb) : tgL (pre ++ [x]) = if Td.kind x.1.2.1 = 6 then max (tgL pre) (Td.num x.1.2.1) else tgL pre := by
  unfold tgL
  rw [List.map_append, List.map_singleton, topG_snoc]
  rfl
set_option maxRecDepth 100000 in
set_option maxHeartbeats 4000000 in
theorem slots_in (n : Nat) (hn : 3 ≤ n) (W : World) (nd : Nd) (cs : List Value) (h : NdIs W nd cs) (hg : topG (Td.all 2000 1 nd) ≤ 2000000000000) :
    CallsIn Fence.wide n Try.prog 9 #[.agg cs.toArray] W fun e W' => e = .returned (.int .i64 (2 + 2 * topG (Td.all 2000 1 nd))) ∧ Below W.heap.size W W' := by
  have h1 : 1 ≤ n := by omega
  have HND := Lib.hid h
  obtain ⟨G, hG⟩ : ∃ G, topG (Td.all 2000 1 nd) = G := ⟨_, rfl⟩
  have g0 := topG_pos (Td.all 2000 1 nd)
  rw [hG] at g0 hg ⊢
  have HG := Lib.hid hG
  have k1 : IntKind.i64.wrap (2 * G) = 2 * G := by rw [IntKind.wrap_i64]; omega
  have k2 : IntKind.i64.wrap (2 + 2 * G) = 2 + 2 * G := by rw [IntKind.wrap_i64]; omega
  clear hG
  obtain ⟨u0, u1, u2, u3, u4, u5, u6, u7, sa, sc, a, c, hcs, F⟩ := h.form_of
  subst hcs
  obtain ⟨rfl, rfl, rfl, rfl, rfl, rfl, rfl, rfl⟩ := F
  clear h
  refine callsIn_of_wp_marks Try.func9 rfl trivial ?_ rfl
  simp only [Try.ntmps9, List.size_toArray, List.length_cons, List.length_nil, Nat.reduceAdd, Nat.reduceSub, Array.replicate_succ, Array.replicate_zero, List.push_toArray, List.append_toArray, List.nil_append, List.cons_append]
  gi_wp2_with fail
  refine ⟨trivial, ?_⟩
  have hb1 : Below W.heap.size W ((W.alloc (.cells #[.int .i64 (Td.kind nd), .slice sa (Td.set nd).length sc, .int .i64 (Td.num nd), .string (Td.name nd), .int .i64 (Td.mn nd), .int .i64 (Td.mx nd), .bool (Td.lazy nd), .slice a (Td.subs nd).length c] 25)).alloc (.cells #[.int .i64 0] 3)) := ((Below.refl _ W).alloc (Nat.le_refl _) _).alloc (by simp) _
  obtain ⟨w1, hw1⟩ : ∃ w1, (W.alloc (.cells #[.int .i64 (Td.kind nd), .slice sa (Td.set nd).length sc, .int .i64 (Td.num nd), .string (Td.name nd), .int .i64 (Td.mn nd), .int .i64 (Td.mx nd), .bool (Td.lazy nd), .slice a (Td.subs nd).length c] 25)).alloc (.cells #[.int .i64 0] 3) = w1 := ⟨_, rfl⟩
  have bN : Boxed w1 (W.heap.size + 1) 3 (.int .i64 0) := by
    rw [← hw1]
    have h9 := Boxed.new (W.alloc (.cells #[.int .i64 (Td.kind nd), .slice sa (Td.set nd).length sc, .int .i64 (Td.num nd), .string (Td.name nd), .int .i64 (Td.mn nd), .int .i64 (Td.mx nd), .bool (Td.lazy nd), .slice a (Td.subs nd).length c] 25)) 3 (.int .i64 0)
    rwa [World.size_alloc] at h9
  have hsz : w1.heap.size = W.heap.size + 2 := by rw [← hw1]; simp
  rw [hw1] at hb1 ⊢
  have HSZ := Lib.hid hsz
  clear hw1 hsz
  refine (callsIn_wide.2 (nodes_anyN w1 nd _ 2000 (HND.out.kept hb1))).mono ?_
  rintro e w' ⟨rfl, rfl⟩
  gi_wp2
  refine wpIn_rangeFunc_ownH rfl h1 (gf := 24) (lb := #[.pointer (some ⟨w1.heap.size, 0, none⟩), .pointer (some ⟨w1.heap.size + 1, 0, none⟩)]) rfl trivial (enters_of Try.func24 (by kernel_rfl) rfl)
    (nodes_stopsN W w1 (n - 1) (W.heap.size + 4) 2000 (by omega) (by omega) nd _ HND.out hb1 (by rw [HSZ.out]; omega)) kpN_t (kpN_b (by simp [HSZ.out]; omega)) (Below.refl _ _) (fun _ => rfl)
    (fun pre W' => SlI (W.heap.size + 1) (tgL pre) W' ∧ Below W.heap.size W W')
    (fun _ _ _ => False)
    (OwnFrom.and (Own.from (fun s A B row hs hg hr => hs.own hg hr) _) (ownFrom_below (Nat.le_refl _) (by simp [HSZ.out]; omega)))
    (fun _ _ _ _ _ hs _ _ => hs)
    ⟨⟨by simp [HSZ.out], (bN.alloc _).alloc _⟩, (hb1.alloc (by rw [HSZ.out]; omega) _).alloc (by simp [HSZ.out]; omega) _⟩
    (fun x a' W' => ∃ Bx, W.heap.size + 4 ≤ Bx ∧ W'.heap[Bx]? = some (.cells x.1.2.2.toArray 25 (0, 0)) ∧ a' = { tmps := #[.agg #[.int .i64 (Td.kind nd), .slice sa (Td.set nd).length sc, .int .i64 (Td.num nd), .string (Td.name nd), .int .i64 (Td.mn nd), .int .i64 (Td.mx nd), .bool (Td.lazy nd), .slice a (Td.subs nd).length c], .pointer (some ⟨W.heap.size, 0, none⟩), .int .i64 0, .pointer (some ⟨W.heap.size + 1, 0, none⟩), undef, .pointer (some ⟨Bx, 0, none⟩), .agg #[.int .i64 (Td.kind nd), .slice sa (Td.set nd).length sc, .int .i64 (Td.num nd), .string (Td.name nd), .int .i64 (Td.mn nd), .int .i64 (Td.mx nd), .bool (Td.lazy nd), .slice a (Td.subs nd).length c], .func (.func 24) #[] #[.pointer (some ⟨w1.heap.size, 0, none⟩), .pointer (some ⟨w1.heap.size + 1, 0, none⟩)], .int .i64 (x.1.1 : Int), .agg x.1.2.2.toArray, undef, undef, undef, undef, undef, undef, undef, undef, undef, undef], defers := [] })
    (fun x a' s A B row hs hg hr => by
      obtain ⟨Bx, q1, q2, q3⟩ := hs
      exact ⟨Bx, q1, blk_kept q2 hg (fun r e => (hr r e).2), q3⟩) ?assign ?body ?done ?stop
  case assign =>
    intro l pre x W2 K hi hK
    obtain ⟨hG, hB⟩ := hi
    obtain ⟨v0, v1, v2, v3, v4, v5, v6, v7, sa', sc', a', c', hx, F'⟩ := x.2.form_of
    have HK : Hid (∀ (W' : World) (cs' : Array Value), cs' = x.1.2.2.toArray → W' = W2.alloc (.cells cs' 25) → ∀ a', a' = _ → K a' W') := Lib.hid (fun W' cs' ec ew a' ea => hK a' W' (by rw [ew]; exact (KeepsOthers.alloc _ _).from _) (by rw [ew]; exact KpN.alloc _ _ hB.size)
      (by rw [ew]; exact ⟨hG.own (World.grownBy_alloc _ _ none) (fun r e => by cases e), hB.alloc hB.size _⟩) ⟨W2.heap.size, by have := hG.1; omega, by rw [ew, ec]; exact heap_alloc_new _ _, ea⟩)
    obtain ⟨rfl, rfl, rfl, rfl, rfl, rfl, rfl, rfl⟩ := F'
    unfold encN
    rw [hx]
    clear hK hG hB
    gi_wp2
    exact HK.out _ _ (by rw [hx]) rfl _ (by rw [hx])
  case body =>
    rintro l pre x a' W2 hl0 hrec ⟨⟨hsz2, hv⟩, hB⟩ ⟨Bx, hBx, hbx, rfl⟩ hl
    have hsn := tgL_snoc pre x
    obtain ⟨v0, v1, v2, v3, v4, v5, v6, v7, sa', sc', a', c', hx, F'⟩ := x.2.form_of
    obtain ⟨rfl, rfl, rfl, rfl, rfl, rfl, rfl, rfl⟩ := F'
    rw [hx] at hbx
    have c0 := blkc hbx 0
    have c2 := blkc hbx 2
    simp only [List.getElem?_toArray, List.getElem?_cons_zero, List.getElem?_cons_succ] at c0 c2
    have hcc := hv.cell
    have hff := hv.frozen
    obtain ⟨g, hg⟩ : ∃ g, tgL pre = g := ⟨_, rfl⟩
    rw [hg] at hsn hcc hv
    have HV := Lib.hid hv
    have HF : Hid (∀ y : Int, y = tgL (pre ++ [x]) → (∀ B, KeepsFrom B W2 (W2.setCell ⟨W.heap.size + 1, 0, none⟩ (.int .i64 y))) ∧ KpN W.heap.size (W.heap.size + 4) W2 (W2.setCell ⟨W.heap.size + 1, 0, none⟩ (.int .i64 y)) ∧ (SlI (W.heap.size + 1) (tgL (pre ++ [x])) (W2.setCell ⟨W.heap.size + 1, 0, none⟩ (.int .i64 y))) ∧ Below W.heap.size W (W2.setCell ⟨W.heap.size + 1, 0, none⟩ (.int .i64 y))) := Lib.hid (fun y hy =>
      ⟨fun B => (KeepsOthers.setCell _ _ _).from _, KpN.set _ _ _ (by simp) (by simp), ⟨by simpa using hsz2, by rw [← hy]; exact hv.set _⟩, hB.setCell (p := ⟨W.heap.size + 1, 0, none⟩) (by simp) _⟩)
    have HF0 : Hid (g = tgL (pre ++ [x]) → (∀ B, KeepsFrom B W2 W2) ∧ KpN W.heap.size (W.heap.size + 4) W2 W2 ∧ (SlI (W.heap.size + 1) (tgL (pre ++ [x])) W2) ∧ Below W.heap.size W W2) := Lib.hid (fun hy =>
      ⟨fun B => KeepsFrom.refl _ _, KpN.refl _ _ _, ⟨hsz2, by rw [← hy]; exact hv⟩, hB⟩)
    have HSN := Lib.hid hsn
    clear hsn hB hv hrec hl hbx hg
    by_cases k6 : Td.kind x.1.2.1 = 6
    · by_cases hlt : g < Td.num x.1.2.1
      · gi_wp2
        exact ⟨(HF.out _ (by rw [HSN.out, if_pos k6] <;> omega)).1 _, (HF.out _ (by rw [HSN.out, if_pos k6] <;> omega)).2⟩
      · gi_wp2
        exact ⟨(HF.out _ (by rw [HSN.out, if_pos k6] <;> omega)).1 _, (HF.out _ (by rw [HSN.out, if_pos k6] <;> omega)).2⟩
    · gi_wp2
      exact ⟨(HF0.out (by rw [HSN.out, if_neg k6])).1 _, (HF0.out (by rw [HSN.out, if_neg k6])).2⟩
  case done =>
    rintro D ys W2 hD hys ⟨⟨hsz2, hv⟩, hB⟩ hK
    have hyl : tgL ys = topG (Td.all 2000 1 nd) := by unfold tgL; rw [hys]
    rw [hyl] at hv
    rw [HG.out] at hv
    have hcc := hv.cell
    clear hys hyl
    gi_wp2
    refine ⟨by simp, .inl ⟨_, _, rfl, run_takeDeferred hK, ?_⟩⟩
    exact ⟨_, results_tmp rfl _ _ _, rfl, hB.trans (belowK_b (w := W) (Nat.le_refl _) W2 D _ _ (by simp [HSZ.out] at hD; omega) hK rfl rfl)⟩
  case stop =>
    rintro D c pre W2 _ _ h _
    exact h.elim
end Go.Proofs.Ythhdlcckboiecaa
namespace Go.Proofs.Ythhdlcckboiecaa
open Go.RowKit Go.Shelf
attribute [local go_sem] Oper.semAt_some
set_option linter.unusedVariables false
theorem dfr_kept {A B : World} {row : Option Nat} {D : Nat} {o : Obj} (h : A.heap[D]? = some o) (hg : A.grownBy B row) (hr : ∀ r, row = some r → r ≠ D) : B.heap[D]? = some o :=
  (hg.block D (Array.getElem?_eq_some_iff.1 h).1 (fun e => hr D e.symm rfl)).trans h
theorem all_snd : ∀ (k d d' : Nat) (n : Nd), (Td.all k d n).map (·.2) = (Td.all k d' n).map (·.2)
  | 0, _, _, _ => rfl
  | k + 1, d, d', n => by
    rw [Td.all, Td.all, List.map_cons, List.map_cons, List.map_flatMap, List.map_flatMap]
    congr 1
    congr 1
    funext m
    exact all_snd k (d + 1) (d' + 1) m
/-- No node below has too many parts. -/
def Her (n : Nd) : Prop := ∀ k, ∀ m ∈ (Td.all k 1 n).map (·.2), (Td.subs m).length ≤ 999999
theorem Her.sub {n : Nd} (h : Her n) : ∀ m ∈ Td.subs n, Her m := fun m hm k q hq => by
  refine h (k + 1) q ?_
  rw [Td.all, List.map_cons, List.map_flatMap]
  refine List.mem_cons_of_mem _ (List.mem_flatMap.2 ⟨m, hm, ?_⟩)
  rw [all_snd k (1 + 1) 1 m]
  exact hq
theorem Her.here {n : Nd} (h : Her n) : (Td.subs n).length ≤ 999999 := h 1 n (by simp [Td.all])
/-- A node of that kind. -/
abbrev NdP (Wb : World) := { x : NdX Wb // Her x.1.2.1 }
theorem nodes_stopsP (Wb w0 : World) (n n1 M : Nat) (h1M : 1 ≤ M) (hM : M ≤ 100000) (nd : Nd) (cs : List Value) (hnd : NdIs Wb nd cs) (hb : Below Wb.heap.size Wb w0) (hn1 : n1 ≤ w0.heap.size + 2) (hH : Her nd) :
    SeqStopsK Fence.wide n Try.prog 24 #[.pointer (some ⟨w0.heap.size, 0, none⟩), .pointer (some ⟨w0.heap.size + 1, 0, none⟩)] (fun x : NdP Wb => encN x.1) (KpN Wb.heap.size n1) (fun ys => ys.map (fun x => ndP x.1) = Td.all M 1 nd)
      (fun pre => pre.map (fun x => ndP x.1) <+: Td.all M 1 nd) (Td.all M 1 nd).length ((w0.alloc (.cells cs.toArray 25)).alloc (.cells #[.int .i64 (M : Int)] 3)) := fun l J Jx W hW hJ hJx hY h0 => by
  have hs := hW.size
  simp only [World.size_alloc] at hs
  have e1 : (w0.alloc (.cells cs.toArray 25)).heap.size = w0.heap.size + 1 := World.size_alloc _ _
  have hc : ((w0.alloc (.cells cs.toArray 25)).alloc (.cells #[.int .i64 (M : Int)] 3)).heap[w0.heap.size]? = some (.cells cs.toArray 25 (0, 0)) :=
    (Below.heap_alloc _ _ _ (by rw [e1]; omega)).trans (heap_alloc_new w0 _)
  have hd : ((w0.alloc (.cells cs.toArray 25)).alloc (.cells #[.int .i64 (M : Int)] 3)).cell? ⟨w0.heap.size + 1, 0, none⟩ = some (.int .i64 (M : Int)) := by
    have key : ∀ X : World, (X.alloc (.cells #[.int .i64 (M : Int)] 3)).cell? ⟨X.heap.size, 0, none⟩ = some (.int .i64 (M : Int)) := fun X => by simp
    have h9 := key (w0.alloc (.cells cs.toArray 25))
    rwa [e1] at h9
  have hbb : Below Wb.heap.size Wb W := (hb.alloc hb.size _).alloc (by have := hb.size; simp; omega) _ |>.trans (hW.mono (by have := hb.size; simp; omega))
  have h := nodes1_inN Wb n l n1 (Td.all M 1 nd).length M w0.heap.size (w0.heap.size + 1) h1M hM nd cs hnd
    (fun ys W => ∃ zs : List (NdP Wb), zs.map (·.1) = ys ∧ J zs W) (fun ys W => ∃ zs : List (NdP Wb), zs.map (·.1) = ys ∧ Jx zs W) W.heap.size
    (fun s A B row hs hg hr => by
      obtain ⟨zs, hz, hj⟩ := hs
      exact ⟨zs, hz, hJ zs A B row hj hg hr⟩)
    Her (fun n h m hm => h.sub m hm)
    (fun pre x W1 hj hp hl => by
      obtain ⟨zs, hz, hj⟩ := hj
      have hl2 : zs.length < (Td.all M 1 nd).length := by rw [← hz, List.length_map] at hl; exact hl
      refine yield_wide 0 ((hY zs ⟨x, hp⟩ W1 hj hl2).mono ?_)
      rintro e W' (⟨he, hj', hk⟩ | ⟨he, hj'⟩)
      · exact .inl ⟨he, ⟨zs ++ [⟨x, hp⟩], by rw [List.map_append, hz]; rfl, hj'⟩, hk⟩
      · exact .inr ⟨he, ⟨zs ++ [⟨x, hp⟩], by rw [List.map_append, hz]; rfl, hj'⟩⟩)
    W hbb (by omega) ((hW.block _ (by simp; omega)).trans hc) ((hW.cell (p := ⟨w0.heap.size + 1, 0, none⟩) (by simp)).trans hd) (Nat.le_refl _) ⟨[], rfl, h0⟩ hH
  refine h.mono ?_
  rintro e W' ⟨hv, ⟨ys, hys, zs, hz, hj⟩ | ⟨pre, hpre, zs, hz, hj⟩⟩
  · refine ⟨hv, .inl ⟨zs, ?_, hj⟩⟩
    rw [← hys, ← hz, List.map_map]; rfl
  · refine ⟨hv, .inr ⟨zs, ?_, hj⟩⟩
    rw [← hz, List.map_map] at hpre; exact hpre
end Go.Proofs.Ythhdlcckboiecaa
