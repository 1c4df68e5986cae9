/- tree.Walk. · The landed tree: Size, Depth. · The reference's tree (burinref06): Depth. · The reference's tree (burinref06): letter, Name. -/
import Derived.Test.YtcomjkoaieeidaaGp17
import Derived.Test.YtcomjkoaieeidaaGp16
import Derived.Test.YtcomjkoaieeidaaGp6
import Derived.IntWalk
namespace Go.Proofs.Ytcomjkoaieeidaa
open Go.RowKit
set_option linter.unusedVariables false
set_option maxRecDepth 100000 in
set_option maxHeartbeats 4000000 in
theorem walk_any (W : World) (nd : Nd) (cs : List Value) (h : NdIs W nd cs) (hf : Td.fit 40 nd) :
    Calls Try.prog 7 #[.agg cs.toArray] W fun e W' => ∃ (Bn : Nat) (cs' : List Value), e = .returned (.func (.func 18) #[] #[.pointer (some ⟨Bn, 0, none⟩)]) ∧ NdIs W' nd cs' ∧ W'.heap[Bn]? = some (.cells cs'.toArray 25 (0, 0)) ∧ Below W.heap.size W W' := by
  obtain ⟨u0, u1, u2, u3, u4, u5, u6, u7, sa, sc, a, c, hcs, F⟩ := h.form_of
  have HND := Lib.hid h
  subst hcs
  obtain ⟨rfl, rfl, rfl, rfl, rfl, rfl, rfl, rfl⟩ := F
  clear h
  obtain ⟨W1, hW1⟩ : ∃ W1, W.alloc (.cells #[.int .i64 (Td.kind nd), .slice sa (Td.set nd).length sc, .int .i64 (Td.num nd), .string (Td.name nd), .int .i64 (Td.mn nd), .int .i64 (Td.mx nd), .bool (Td.lazy nd), .slice a (Td.subs nd).length c] 25) = W1 := ⟨_, rfl⟩
  have hb1 : Below W.heap.size W W1 := by rw [← hW1]; exact (Below.refl _ W).alloc (Nat.le_refl _) _
  have hx1 : W1.heap[W.heap.size]? = some (.cells #[.int .i64 (Td.kind nd), .slice sa (Td.set nd).length sc, .int .i64 (Td.num nd), .string (Td.name nd), .int .i64 (Td.mn nd), .int .i64 (Td.mx nd), .bool (Td.lazy nd), .slice a (Td.subs nd).length c] 25 (0, 0)) := by rw [← hW1]; exact heap_alloc_new W _
  have hndon : NdOn (· ≠ W.heap.size) W1 nd _ := ((NdOn.of HND.out).kept (W' := W1) hb1.size (fun b hb _ => hb1.block b hb)).mono (fun b hb => by omega)
  have hr := renew_ok 40 W1 nd _ W.heap.size 0 65536 _ _ hf (by omega) (by omega) hndon hx1 (fun i hi => by simp)
  rw [show ((65536 : Nat) : Int) = 65536 from rfl] at hr
  have HW1 := Lib.hid hW1
  have HR := Lib.hid hr
  have HB1 := Lib.hid hb1
  clear hndon hr hx1 hW1 hb1
  go_enter Try.func7, Try.ntmps7
  go_wp2_with fail
  rw [HW1.out]
  refine HR.out.mono ?_
  rintro e w5 ⟨rfl, z1, z7, hn5, hx5, hg5⟩
  simp only [List.set_cons_succ, List.set_cons_zero] at hn5
  have HN5 := Lib.hid hn5
  have hx5' : w5.heap[W.heap.size]? = some (.cells #[.int .i64 (Td.kind nd), z1, .int .i64 (Td.num nd), .string (Td.name nd), .int .i64 (Td.mn nd), .int .i64 (Td.mx nd), .bool (Td.lazy nd), z7] 25 (0, 0)) := by
    rw [hx5]; simp
  have HX5 := Lib.hid hx5'
  have hb5 : Below W.heap.size W w5 := HB1.out.trans ⟨hg5.os, hg5.tape, hg5.output, hg5.size, fun b hb => hg5.block b (by have := HB1.out.size; omega) (by intro e; injection e with e; omega)⟩
  have HB5 := Lib.hid hb5
  clear hn5 hx5 hx5' hg5 hb5
  go_wp2
  go_ret
  exact ⟨W.heap.size, _, rfl, HN5.out.is, HX5.out, HB5.out⟩
end Go.Proofs.Ytcomjkoaieeidaa
namespace Go.Proofs.Ytcomjkoaieeidaa
open Go.RowKit Go.Shelf
attribute [local go_sem] Oper.semAt_some
set_option linter.unusedVariables false
namespace Td
/-- The greatest depth among nodes. -/
def deepL (l : List (Nat × Nd)) (a : Nat) : Nat := l.foldl (fun m p => max m p.1) a
theorem deepL_append (l m : List (Nat × Nd)) (a : Nat) : deepL (l ++ m) a = deepL m (deepL l a) := by unfold deepL; rw [List.foldl_append]
theorem deepL_le : ∀ (l : List (Nat × Nd)) (a : Nat), a ≤ deepL l a
  | [], a => Nat.le_refl _
  | p :: l, a => by
    have := deepL_le l (max a p.1)
    show a ≤ deepL l (max a p.1)
    omega
theorem foldl_max_init : ∀ (l : List Nat) (a : Nat), l.foldl max a = max a (l.foldl max 0)
  | [], a => by simp
  | x :: l, a => by
    show l.foldl max (max a x) = max a (l.foldl max (max 0 x))
    rw [foldl_max_init l (max a x), foldl_max_init l (max 0 x)]; omega
theorem deepL_flat (f : Nd → List (Nat × Nd)) (g : Nd → Nat) (d : Nat) (h : ∀ m a, d ≤ a → deepL (f m) a = max a (d + g m)) : ∀ (l : List Nd) (a : Nat), d ≤ a → deepL (l.flatMap f) a = max a (d + (l.map g).foldl max 0)
  | [], a, ha => by show a = max a (d + 0); omega
  | m :: l, a, ha => by
    rw [List.flatMap_cons, deepL_append, h m a ha, deepL_flat f g d h l _ (by omega)]
    show _ = max a (d + (l.map g).foldl max (max 0 (g m)))
    rw [foldl_max_init _ (max 0 (g m))]; omega
theorem deepL_all : ∀ (k d : Nat) (n : Nd) (a : Nat), d ≤ a → deepL (all k (d + 1) n) a = max a (d + dep k n)
  | 0, d, n, a, ha => by show a = max a (d + 0); omega
  | k + 1, d, n, a, ha => by
    rw [all]
    show deepL ((subs n).flatMap (all k (d + 1 + 1))) (max a (d + 1)) = _
    rw [deepL_flat (all k (d + 1 + 1)) (dep k) (d + 1) (fun m a h => deepL_all k (d + 1) m a h) (subs n) _ (by omega), dep]
    omega
theorem all_depth : ∀ (k d : Nat) (n : Nd), ∀ p ∈ all k d n, p.1 + 1 ≤ d + k
  | 0, d, n, p, hp => by simp [all] at hp
  | k + 1, d, n, p, hp => by
    rw [all] at hp
    rcases List.mem_cons.1 hp with rfl | hp
    · show d + 1 ≤ d + (k + 1); omega
    · obtain ⟨m, _, hp⟩ := List.mem_flatMap.1 hp
      have := all_depth k (d + 1) m p hp
      omega
theorem deepL_bd (b : Nat) : ∀ (l : List (Nat × Nd)) (a : Nat), a ≤ b → (∀ p ∈ l, p.1 ≤ b) → deepL l a ≤ b
  | [], a, ha, _ => ha
  | p :: l, a, ha, h => by
    have := h p (by simp)
    exact deepL_bd b l (max a p.1) (by omega) (fun q hq => h q (List.mem_cons_of_mem _ hq))
theorem deep_all (k : Nat) (n : Nd) : deepL (all k 1 n) 0 = dep k n := by rw [deepL_all k 0 n 0 (Nat.le_refl _)]; omega
/-- Cut short where it is too deep. -/
theorem deep_cut (l : List (Nat × Nd)) (n : Nd) (h : l <+: all 1001 1 n) (hd : 1000 < deepL l 0) : deepL l 0 = dep 1001 n := by
  obtain ⟨t, ht⟩ := h
  have h1 : deepL (all 1001 1 n) 0 ≤ 1001 := deepL_bd 1001 _ 0 (by omega) (fun p hp => by have := all_depth 1001 1 n p hp; omega)
  have h2 := deep_all 1001 n
  rw [← ht, deepL_append] at h1
  rw [← ht, deepL_append] at h2
  have := deepL_le t (deepL l 0)
  omega
end Td
theorem len_map {Wb : World} {ys : List (NdX Wb)} {l : List (Nat × Nd)} (h : ys.map ndP = l) : ys.length = l.length := by rw [← h, List.length_map]
set_option maxRecDepth 100000 in
set_option maxHeartbeats 4000000 in
theorem size_in (n : Nat) (hn : 3 ≤ n) (W : World) (nd : Nd) (cs : List Value) (h : NdIs W nd cs) (hlen : (Td.all 1000 1 nd).length ≤ 1000000) :
    CallsIn Fence.wide n Try.prog 12 #[.agg cs.toArray] W fun e W' => e = .returned (.int .i64 ((Td.all 1000 1 nd).length : Int)) ∧ Below W.heap.size W W' := by
  have h1 : 1 ≤ n := by omega
  have HND := Lib.hid h
  obtain ⟨u0, u1, u2, u3, u4, u5, u6, u7, sa, sc, a, c, hcs, F⟩ := h.form_of
  have HCS := Lib.hid hcs
  subst hcs
  obtain ⟨rfl, rfl, rfl, rfl, rfl, rfl, rfl, rfl⟩ := F
  clear h
  refine callsIn_of_wp_marks Try.func12 rfl trivial ?_ rfl
  simp only [Try.ntmps12, List.size_toArray, List.length_cons, List.length_nil, Nat.reduceAdd, Nat.reduceSub, Array.replicate_succ, Array.replicate_zero, List.push_toArray, List.append_toArray, List.nil_append, List.cons_append]
  gi_wp2_with fail
  refine ⟨trivial, ?_⟩
  have hb1 : Below W.heap.size W ((W.alloc (.cells #[.int .i64 (Td.kind nd), .slice sa (Td.set nd).length sc, .int .i64 (Td.num nd), .string (Td.name nd), .int .i64 (Td.mn nd), .int .i64 (Td.mx nd), .bool (Td.lazy nd), .slice a (Td.subs nd).length c] 25)).alloc (.cells #[.int .i64 0] 3)) := ((Below.refl _ W).alloc (Nat.le_refl _) _).alloc (by simp) _
  obtain ⟨w1, hw1⟩ : ∃ w1, (W.alloc (.cells #[.int .i64 (Td.kind nd), .slice sa (Td.set nd).length sc, .int .i64 (Td.num nd), .string (Td.name nd), .int .i64 (Td.mn nd), .int .i64 (Td.mx nd), .bool (Td.lazy nd), .slice a (Td.subs nd).length c] 25)).alloc (.cells #[.int .i64 0] 3) = w1 := ⟨_, rfl⟩
  have bN : Boxed w1 (W.heap.size + 1) 3 (.int .i64 0) := by
    rw [← hw1]
    have h9 := Boxed.new (W.alloc (.cells #[.int .i64 (Td.kind nd), .slice sa (Td.set nd).length sc, .int .i64 (Td.num nd), .string (Td.name nd), .int .i64 (Td.mn nd), .int .i64 (Td.mx nd), .bool (Td.lazy nd), .slice a (Td.subs nd).length c] 25)) 3 (.int .i64 0)
    rwa [World.size_alloc] at h9
  have hsz : w1.heap.size = W.heap.size + 2 := by rw [← hw1]; simp
  rw [hw1] at hb1 ⊢
  have HSZ := Lib.hid hsz
  clear hw1 hsz
  refine (callsIn_wide.2 (nodes_any w1 nd _ 1000 (HND.out.kept hb1))).mono ?_
  rintro e w' ⟨rfl, rfl⟩
  gi_wp2
  refine wpIn_rangeFunc_ownG rfl h1 (gf := 28) (lb := #[.pointer (some ⟨w1.heap.size, 0, none⟩), .pointer (some ⟨w1.heap.size + 1, 0, none⟩)]) rfl trivial (enters_of Try.func28 (by kernel_rfl) rfl)
    (nodes_stops W w1 (n - 1) (W.heap.size + 4) 1000 (by omega) (by omega) nd _ HND.out hb1 (by rw [HSZ.out]; omega)) kpN_t (kpN_b (by simp [HSZ.out]; omega)) (Below.refl _ _) (fun _ => rfl)
    (fun pre W' => Boxed W' (W.heap.size + 1) 3 (.int .i64 (pre.length : Int)) ∧ Below W.heap.size W W')
    (fun _ _ _ => False)
    (OwnFrom.and (Own.from (boxed_own _ _ _) _) (ownFrom_below (Nat.le_refl _) (by simp [HSZ.out]; omega)))
    (fun _ _ _ _ _ hs _ _ => hs)
    ⟨(bN.alloc _).alloc _, (hb1.alloc (by rw [HSZ.out]; omega) _).alloc (by simp [HSZ.out]; omega) _⟩
    (fun x => { tmps := #[.agg #[.int .i64 (Td.kind nd), .slice sa (Td.set nd).length sc, .int .i64 (Td.num nd), .string (Td.name nd), .int .i64 (Td.mn nd), .int .i64 (Td.mx nd), .bool (Td.lazy nd), .slice a (Td.subs nd).length c], .pointer (some ⟨W.heap.size, 0, none⟩), .int .i64 0, .pointer (some ⟨W.heap.size + 1, 0, none⟩), .agg #[.int .i64 (Td.kind nd), .slice sa (Td.set nd).length sc, .int .i64 (Td.num nd), .string (Td.name nd), .int .i64 (Td.mn nd), .int .i64 (Td.mx nd), .bool (Td.lazy nd), .slice a (Td.subs nd).length c], .func (.func 28) #[] #[.pointer (some ⟨w1.heap.size, 0, none⟩), .pointer (some ⟨w1.heap.size + 1, 0, none⟩)], .int .i64 (x.1.1 : Int), .agg x.1.2.2.toArray, undef, undef, undef], defers := [] }) ?assign ?body ?done ?stop
  case assign =>
    intro l x W2 K hK
    gi_wp2
    simpa [encN] using hK
  case body =>
    rintro l pre x W2 ⟨hc, hB⟩ hl
    have hcc := hc.cell
    have hff := hc.frozen
    have hw : IntKind.i64.wrap ((pre.length : Int) + 1) = ((pre.length + 1 : Nat) : Int) := by rw [IntKind.wrap_i64]; omega
    gi_wp2
    exact ⟨(KeepsOthers.setCell _ _ _).from _, KpN.set _ _ _ (by simp) (by simp), by rw [List.length_append]; exact hc.set _, hB.setCell (p := ⟨W.heap.size + 1, 0, none⟩) (by simp) _⟩
  case done =>
    rintro D ys W2 hD hys ⟨hc, hB⟩ hK
    have hyl := len_map hys
    rw [hyl] at hc
    have hcc := hc.cell
    have HLN := Lib.hid hyl
    clear hys hyl
    gi_wp2
    refine ⟨by simp, .inl ⟨_, _, rfl, run_takeDeferred hK, ?_⟩⟩
    exact ⟨_, results_tmp rfl _ _ _, rfl, hB.trans (belowK_b (w := W) (Nat.le_refl _) W2 D _ _ (by simp [HSZ.out] at hD; omega) hK rfl rfl)⟩
  case stop =>
    rintro D c pre W2 _ _ h _
    exact h.elim
end Go.Proofs.Ytcomjkoaieeidaa
namespace Go.Proofs.Ytcomjkoaieeidaa
open Go.RowKit
set_option linter.unusedVariables false









































































































end Go.Proofs.Ytcomjkoaieeidaa
namespace Go.Proofs.Ytcomjkoaieeidaa
open Go.RowKit
set_option linter.unusedVariables false
namespace Td
/-- May a byte stand in a name? -/
def letC (c : Int) : Bool := decide (65 ≤ c ∧ c ≤ 90 ∨ 97 ≤ c ∧ c ≤ 122 ∨ 48 ≤ c ∧ c ≤ 57 ∨ c = 95)
def bytes (s : ByteArray) : List Int := s.data.toList.map (fun b => (b.toNat : Int))
theorem bytes_len (s : ByteArray) : (bytes s).length = s.size := by simp [bytes]
theorem bytes_at (s : ByteArray) (k : Nat) (h : k < s.size) : (bytes s)[k]? = some (s[k].toNat : Int) := by
  have h' : k < s.data.size := h
  simp only [bytes, List.getElem?_map, Array.getElem?_toList]
  rw [Array.getElem?_eq_getElem h']
  rfl
/-- Is it a name? -/
def nameB (s : ByteArray) : Bool := (bytes s).all letC && decide (1 ≤ s.size ∧ s.size ≤ 32 ∧ ((bytes s).getD 0 0 < 48 ∨ 57 < (bytes s).getD 0 0))
end Td






































































































































































































end Go.Proofs.Ytcomjkoaieeidaa
