/- The landed tree: nodes and its iterator, as the law of a range over a function wants it. · The landed tree: Size, Depth. -/
import Derived.Test.YthhijakclinjaaaGp6
namespace Go.Proofs.Ythhijakclinjaaa
open Go.RowKit Go.Shelf
attribute [local go_sem] Oper.semAt_some
set_option linter.unusedVariables false
theorem desc_any (Wb : World) (l n1 N M : Nat) (hM : M ≤ 100000) (J Jx : List (NdX Wb) → World → Prop) (B0 : Nat) (hJ : AbidesFrom B0 J)
    (hY : ∀ pre x W, J pre W → pre.length < N → YieldAt Fence.wide 0 Try.prog l (encN x) W fun e W' => (e = .returned (.bool true) ∧ J (pre ++ [x]) W' ∧ KpN Wb.heap.size n1 W W') ∨ (e = .returned (.bool false) ∧ Jx (pre ++ [x]) W')) :
    ∀ k, 1 ≤ k → DescOk Wb l n1 N M J Jx k
  | 0, h => absurd h (by omega)
  | k + 1, _ => desc_step Wb l n1 N M hM J Jx B0 hJ hY k (fun h => desc_any Wb l n1 N M hM J Jx B0 hJ hY k h)
set_option maxRecDepth 100000 in
set_option maxHeartbeats 4000000 in
theorem nodes1_in (Wb : World) (n l n1 N M Bn Bd : Nat) (h1M : 1 ≤ M) (hM : M ≤ 100000) (nd : Nd) (cs : List Value) (hnd : NdIs Wb nd cs) (J Jx : List (NdX Wb) → World → Prop) (B0 : Nat) (hJ : AbidesFrom B0 J)
    (hY : ∀ pre x W, J pre W → pre.length < N → YieldAt Fence.wide 0 Try.prog l (encN x) W fun e W' => (e = .returned (.bool true) ∧ J (pre ++ [x]) W' ∧ KpN Wb.heap.size n1 W W') ∨ (e = .returned (.bool false) ∧ Jx (pre ++ [x]) W'))
    (W : World) (hb : Below Wb.heap.size Wb W) (hn1 : n1 ≤ W.heap.size) (hc : W.heap[Bn]? = some (.cells cs.toArray 25 (0, 0))) (hd : W.cell? ⟨Bd, 0, none⟩ = some (.int .i64 (M : Int))) (hN : (Td.all M 1 nd).length ≤ N) (h0 : J [] W) :
    CallsIn Fence.wide n Try.prog 43 #[.func (.yield l) #[] #[], .pointer (some ⟨Bn, 0, none⟩), .pointer (some ⟨Bd, 0, none⟩)] W fun e W' => (∃ v, e = .returned v) ∧
      ((∃ ys : List (NdX Wb), ys.map ndP = Td.all M 1 nd ∧ J ys W') ∨ (∃ pre : List (NdX Wb), pre.map ndP <+: Td.all M 1 nd ∧ Jx pre W')) := by
  have HD : Hid (Calls Try.prog 44 #[.agg cs.toArray, .int .i64 1, .int .i64 (M : Int), .func (.yield l) #[] #[]] W (StopsAt Wb Wb.heap.size n1 M 1 nd J Jx [] W)) := Lib.hid (desc_any Wb l n1 N M hM J Jx B0 hJ hY M h1M 1 nd cs [] W (by omega) hnd hb h0 (by simpa using hN) hn1)
  obtain ⟨u0, u1, u2, u3, u4, u5, u6, u7, sa, sc, a, c, rfl, F⟩ := hnd.form_of
  obtain ⟨rfl, rfl, rfl, rfl, rfl, rfl, rfl, rfl⟩ := F
  have b0 := blkc hc 0
  have b1 := blkc hc 1
  have b2 := blkc hc 2
  have b3 := blkc hc 3
  have b4 := blkc hc 4
  have b5 := blkc hc 5
  have b6 := blkc hc 6
  have b7 := blkc hc 7
  simp only [List.getElem?_toArray, List.getElem?_cons_zero, List.getElem?_cons_succ] at b0 b1 b2 b3 b4 b5 b6 b7
  clear hJ hY hnd hc hb hN h0
  refine callsIn_of_wp Try.func43 rfl trivial ?_ rfl
  simp only [Try.ntmps43, List.size_toArray, List.length_cons, List.length_nil, Nat.reduceAdd, Nat.reduceSub, Array.replicate_succ, Array.replicate_zero, List.push_toArray, List.append_toArray, List.nil_append, List.cons_append]
  gi_wp2_with fail
  refine ⟨trivial, fun h => (by cases h), ?_⟩
  refine (callsIn_wide.2 HD.out).mono ?_
  rintro e w5 (⟨rfl, ⟨ys, hys, hj5⟩, hk5⟩ | ⟨rfl, q, hq, hx5⟩)
  · gi_wp2
    go_end0
    exact ⟨⟨_, rfl⟩, .inl ⟨ys, hys, hj5⟩⟩
  · gi_wp2
    go_end0
    exact ⟨⟨_, rfl⟩, .inr ⟨q, hq, hx5⟩⟩
set_option maxRecDepth 100000 in
set_option maxHeartbeats 2000000 in
theorem nodes_any (w : World) (nd : Nd) (cs : List Value) (M : Int) (hnd : NdIs w nd cs) : Calls Try.prog 32 #[.agg cs.toArray, .int .i64 M] w fun e w' =>
    e = .returned (.func (.func 43) #[] #[.pointer (some ⟨w.heap.size, 0, none⟩), .pointer (some ⟨w.heap.size + 1, 0, none⟩)]) ∧ (w.alloc (.cells cs.toArray 25)).alloc (.cells #[.int .i64 M] 3) = w' := by
  obtain ⟨u0, u1, u2, u3, u4, u5, u6, u7, sa, sc, a, c, rfl, F⟩ := hnd.form_of
  obtain ⟨rfl, rfl, rfl, rfl, rfl, rfl, rfl, rfl⟩ := F
  clear hnd
  go_enter Try.func32, Try.ntmps32
  go_wp2
  go_ret
  exact ⟨rfl, rfl⟩
/-- The iterator of nodes, made in the world w0. -/
theorem nodes_stops (Wb w0 : World) (n n1 M : Nat) (h1M : 1 ≤ M) (hM : M ≤ 100000) (nd : Nd) (cs : List Value) (hnd : NdIs Wb nd cs) (hb : Below Wb.heap.size Wb w0) (hn1 : n1 ≤ w0.heap.size + 2) :
    SeqStopsK Fence.wide n Try.prog 43 #[.pointer (some ⟨w0.heap.size, 0, none⟩), .pointer (some ⟨w0.heap.size + 1, 0, none⟩)] (encN (Wb := Wb)) (KpN Wb.heap.size n1) (fun ys => ys.map ndP = Td.all M 1 nd)
      (fun pre => pre.map ndP <+: Td.all M 1 nd) (Td.all M 1 nd).length ((w0.alloc (.cells cs.toArray 25)).alloc (.cells #[.int .i64 (M : Int)] 3)) := fun l J Jx W hW hJ _ hY h0 => by
  have hs := hW.size
  simp only [World.size_alloc] at hs
  have e1 : (w0.alloc (.cells cs.toArray 25)).heap.size = w0.heap.size + 1 := World.size_alloc _ _
  have hc : ((w0.alloc (.cells cs.toArray 25)).alloc (.cells #[.int .i64 (M : Int)] 3)).heap[w0.heap.size]? = some (.cells cs.toArray 25 (0, 0)) :=
    (Below.heap_alloc _ _ _ (by rw [e1]; omega)).trans (heap_alloc_new w0 _)
  have hd : ((w0.alloc (.cells cs.toArray 25)).alloc (.cells #[.int .i64 (M : Int)] 3)).cell? ⟨w0.heap.size + 1, 0, none⟩ = some (.int .i64 (M : Int)) := by
    have key : ∀ X : World, (X.alloc (.cells #[.int .i64 (M : Int)] 3)).cell? ⟨X.heap.size, 0, none⟩ = some (.int .i64 (M : Int)) := fun X => by simp
    have h9 := key (w0.alloc (.cells cs.toArray 25))
    rwa [e1] at h9
  have hbb : Below Wb.heap.size Wb W := (hb.alloc hb.size _).alloc (by have := hb.size; simp; omega) _ |>.trans (hW.mono (by have := hb.size; simp; omega))
  exact nodes1_in Wb n l n1 _ M _ _ h1M hM nd cs hnd J Jx _ hJ (fun pre x W1 hj hl => yield_wide 0 (hY pre x W1 hj hl)) W hbb (by omega)
    ((hW.block _ (by simp; omega)).trans hc) ((hW.cell (p := ⟨w0.heap.size + 1, 0, none⟩) (by simp)).trans hd) (Nat.le_refl _) h0
end Go.Proofs.Ythhijakclinjaaa
namespace Go.Proofs.Ythhijakclinjaaa
open Go.RowKit Go.Shelf
attribute [local go_sem] Oper.semAt_some
set_option linter.unusedVariables false
namespace Td
/-- The greatest depth among nodes. -/
def deepL (l : List (Nat × Nd)) (a : Nat) : Nat := l.foldl (fun m p => max m p.1) a
theorem deepL_append (l m : List (Nat × Nd)) (a : Nat) : deepL (l ++ m) a = deepL m (deepL l a) := by unfold deepL; rw [List.foldl_append]
theorem deepL_le : ∀ (l : List (Nat × Nd)) (a : Nat), a ≤ deepL l a
  | [], a => Nat.le_refl _
  | p :: l, a => by
    have := deepL_le l (max a p.1)
    show a ≤ deepL l (max a p.1)
    omega
theorem foldl_max_init : ∀ (l : List Nat) (a : Nat), l.foldl max a = max a (l.foldl max 0)
  | [], a => by simp
  | x :: l, a => by
    show l.foldl max (max a x) = max a (l.foldl max (max 0 x))
    rw [foldl_max_init l (max a x), foldl_max_init l (max 0 x)]; omega
theorem deepL_flat (f : Nd → List (Nat × Nd)) (g : Nd → Nat) (d : Nat) (h : ∀ m a, d ≤ a → deepL (f m) a = max a (d + g m)) : ∀ (l : List Nd) (a : Nat), d ≤ a → deepL (l.flatMap f) a = max a (d + (l.map g).foldl max 0)
  | [], a, ha => by show a = max a (d + 0); omega
  | m :: l, a, ha => by
    rw [List.flatMap_cons, deepL_append, h m a ha, deepL_flat f g d h l _ (by omega)]
    show _ = max a (d + (l.map g).foldl max (max 0 (g m)))
    rw [foldl_max_init _ (max 0 (g m))]; omega
theorem deepL_all : ∀ (k d : Nat) (n : Nd) (a : Nat), d ≤ a → deepL (all k (d + 1) n) a = max a (d + dep k n)
  | 0, d, n, a, ha => by show a = max a (d + 0); omega
  | k + 1, d, n, a, ha => by
    rw [all]
    show deepL ((subs n).flatMap (all k (d + 1 + 1))) (max a (d + 1)) = _
    rw [deepL_flat (all k (d + 1 + 1)) (dep k) (d + 1) (fun m a h => deepL_all k (d + 1) m a h) (subs n) _ (by omega), dep]
    omega
theorem all_depth : ∀ (k d : Nat) (n : Nd), ∀ p ∈ all k d n, p.1 + 1 ≤ d + k
  | 0, d, n, p, hp => by simp [all] at hp
  | k + 1, d, n, p, hp => by
    rw [all] at hp
    rcases List.mem_cons.1 hp with rfl | hp
    · show d + 1 ≤ d + (k + 1); omega
    · obtain ⟨m, _, hp⟩ := List.mem_flatMap.1 hp
      have := all_depth k (d + 1) m p hp
      omega
theorem deepL_bd (b : Nat) : ∀ (l : List (Nat × Nd)) (a : Nat), a ≤ b → (∀ p ∈ l, p.1 ≤ b) → deepL l a ≤ b
  | [], a, ha, _ => ha
  | p :: l, a, ha, h => by
    have := h p (by simp)
    exact deepL_bd b l (max a p.1) (by omega) (fun q hq => h q (List.mem_cons_of_mem _ hq))
theorem deep_all (k : Nat) (n : Nd) : deepL (all k 1 n) 0 = dep k n := by rw [deepL_all k 0 n 0 (Nat.le_refl _)]; omega
/-- Cut short where it is too deep. -/
theorem deep_cut (l : List (Nat × Nd)) (n : Nd) (h : l <+: all 1001 1 n) (hd : 1000 < deepL l 0) : deepL l 0 = dep 1001 n := by
  obtain ⟨t, ht⟩ := h
  have h1 : deepL (all 1001 1 n) 0 ≤ 1001 := deepL_bd 1001 _ 0 (by omega) (fun p hp => by have := all_depth 1001 1 n p hp; omega)
  have h2 := deep_all 1001 n
  rw [← ht, deepL_append] at h1
  rw [← ht, deepL_append] at h2
  have := deepL_le t (deepL l 0)
  omega
end Td
theorem len_map {Wb : World} {ys : List (NdX Wb)} {l : List (Nat × Nd)} (h : ys.map ndP = l) : ys.length = l.length := by rw [← h, List.length_map]
set_option maxRecDepth 100000 in
set_option maxHeartbeats 4000000 in
theorem size_in (n : Nat) (hn : 3 ≤ n) (W : World) (nd : Nd) (cs : List Value) (h : NdIs W nd cs) (hlen : (Td.all 1000 1 nd).length ≤ 1000000) :
    CallsIn Fence.wide n Try.prog 19 #[.agg cs.toArray] W fun e W' => e = .returned (.int .i64 ((Td.all 1000 1 nd).length : Int)) ∧ Below W.heap.size W W' := by
  have h1 : 1 ≤ n := by omega
  have HND := Lib.hid h
  obtain ⟨u0, u1, u2, u3, u4, u5, u6, u7, sa, sc, a, c, hcs, F⟩ := h.form_of
  have HCS := Lib.hid hcs
  subst hcs
  obtain ⟨rfl, rfl, rfl, rfl, rfl, rfl, rfl, rfl⟩ := F
  clear h
  refine callsIn_of_wp_marks Try.func19 rfl trivial ?_ rfl
  simp only [Try.ntmps19, List.size_toArray, List.length_cons, List.length_nil, Nat.reduceAdd, Nat.reduceSub, Array.replicate_succ, Array.replicate_zero, List.push_toArray, List.append_toArray, List.nil_append, List.cons_append]
  gi_wp2_with fail
  refine ⟨trivial, ?_⟩
  have hb1 : Below W.heap.size W ((W.alloc (.cells #[.int .i64 (Td.kind nd), .slice sa (Td.set nd).length sc, .int .i64 (Td.num nd), .string (Td.name nd), .int .i64 (Td.mn nd), .int .i64 (Td.mx nd), .bool (Td.lazy nd), .slice a (Td.subs nd).length c] 25)).alloc (.cells #[.int .i64 0] 3)) := ((Below.refl _ W).alloc (Nat.le_refl _) _).alloc (by simp) _
  obtain ⟨w1, hw1⟩ : ∃ w1, (W.alloc (.cells #[.int .i64 (Td.kind nd), .slice sa (Td.set nd).length sc, .int .i64 (Td.num nd), .string (Td.name nd), .int .i64 (Td.mn nd), .int .i64 (Td.mx nd), .bool (Td.lazy nd), .slice a (Td.subs nd).length c] 25)).alloc (.cells #[.int .i64 0] 3) = w1 := ⟨_, rfl⟩
  have bN : Boxed w1 (W.heap.size + 1) 3 (.int .i64 0) := by
    rw [← hw1]
    have h9 := Boxed.new (W.alloc (.cells #[.int .i64 (Td.kind nd), .slice sa (Td.set nd).length sc, .int .i64 (Td.num nd), .string (Td.name nd), .int .i64 (Td.mn nd), .int .i64 (Td.mx nd), .bool (Td.lazy nd), .slice a (Td.subs nd).length c] 25)) 3 (.int .i64 0)
    rwa [World.size_alloc] at h9
  have hsz : w1.heap.size = W.heap.size + 2 := by rw [← hw1]; simp
  rw [hw1] at hb1 ⊢
  have HSZ := Lib.hid hsz
  clear hw1 hsz
  refine (callsIn_wide.2 (nodes_any w1 nd _ 1000 (HND.out.kept hb1))).mono ?_
  rintro e w' ⟨rfl, rfl⟩
  gi_wp2
  refine wpIn_rangeFunc_ownG rfl h1 (gf := 43) (lb := #[.pointer (some ⟨w1.heap.size, 0, none⟩), .pointer (some ⟨w1.heap.size + 1, 0, none⟩)]) rfl trivial (enters_of Try.func43 (by kernel_rfl) rfl)
    (nodes_stops W w1 (n - 1) (W.heap.size + 4) 1000 (by omega) (by omega) nd _ HND.out hb1 (by rw [HSZ.out]; omega)) kpN_t (kpN_b (by simp [HSZ.out]; omega)) (Below.refl _ _) (fun _ => rfl)
    (fun pre W' => Boxed W' (W.heap.size + 1) 3 (.int .i64 (pre.length : Int)) ∧ Below W.heap.size W W')
    (fun _ _ _ => False)
    (OwnFrom.and (Own.from (boxed_own _ _ _) _) (ownFrom_below (Nat.le_refl _) (by simp [HSZ.out]; omega)))
    (fun _ _ _ _ _ hs _ _ => hs)
    ⟨(bN.alloc _).alloc _, (hb1.alloc (by rw [HSZ.out]; omega) _).alloc (by simp [HSZ.out]; omega) _⟩
    (fun x => { tmps := #[.agg #[.int .i64 (Td.kind nd), .slice sa (Td.set nd).length sc, .int .i64 (Td.num nd), .string (Td.name nd), .int .i64 (Td.mn nd), .int .i64 (Td.mx nd), .bool (Td.lazy nd), .slice a (Td.subs nd).length c], .pointer (some ⟨W.heap.size, 0, none⟩), .int .i64 0, .pointer (some ⟨W.heap.size + 1, 0, none⟩), .agg #[.int .i64 (Td.kind nd), .slice sa (Td.set nd).length sc, .int .i64 (Td.num nd), .string (Td.name nd), .int .i64 (Td.mn nd), .int .i64 (Td.mx nd), .bool (Td.lazy nd), .slice a (Td.subs nd).length c], .func (.func 43) #[] #[.pointer (some ⟨w1.heap.size, 0, none⟩), .pointer (some ⟨w1.heap.size + 1, 0, none⟩)], .int .i64 (x.1.1 : Int), .agg x.1.2.2.toArray, undef, undef, undef], defers := [] }) ?assign ?body ?done ?stop
  case assign =>
    intro l x W2 K hK
    gi_wp2
    simpa [encN] using hK
  case body =>
    rintro l pre x W2 ⟨hc, hB⟩ hl
    have hcc := hc.cell
    have hff := hc.frozen
    have hw : IntKind.i64.wrap ((pre.length : Int) + 1) = ((pre.length + 1 : Nat) : Int) := by rw [IntKind.wrap_i64]; omega
    gi_wp2
    exact ⟨(KeepsOthers.setCell _ _ _).from _, KpN.set _ _ _ (by simp) (by simp), by rw [List.length_append]; exact hc.set _, hB.setCell (p := ⟨W.heap.size + 1, 0, none⟩) (by simp) _⟩
  case done =>
    rintro D ys W2 hD hys ⟨hc, hB⟩ hK
    have hyl := len_map hys
    rw [hyl] at hc
    have hcc := hc.cell
    have HLN := Lib.hid hyl
    clear hys hyl
    gi_wp2
    refine ⟨by simp, .inl ⟨_, _, rfl, run_takeDeferred hK, ?_⟩⟩
    exact ⟨_, results_tmp rfl _ _ _, rfl, hB.trans (belowK_b (w := W) (Nat.le_refl _) W2 D _ _ (by simp [HSZ.out] at hD; omega) hK rfl rfl)⟩
  case stop =>
    rintro D c pre W2 _ _ h _
    exact h.elim
end Go.Proofs.Ythhijakclinjaaa
