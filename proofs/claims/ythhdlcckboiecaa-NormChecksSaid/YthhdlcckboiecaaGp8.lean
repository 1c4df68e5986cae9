/- The landed tree: nodes and its iterator, as the law of a range over a function wants it. · The landed tree: Size, Depth. · The reference's tree (burinref06): Depth. -/
import Derived.Test.YthhdlcckboiecaaGp7
import Derived.Test.YthhdlcckboiecaaGp3
import Derived.IntWalk
namespace Go.Proofs.Ythhdlcckboiecaa
open Go.RowKit Go.Shelf
attribute [local go_sem] Oper.semAt_some
set_option linter.unusedVariables false
theorem desc_any (Wb : World) (l n1 N M : Nat) (hM : M ≤ 100000) (J Jx : List (NdX Wb) → World → Prop) (B0 : Nat) (hJ : AbidesFrom B0 J)
    (Pd : Nd → Prop) (hPd : ∀ n, Pd n → ∀ m ∈ Td.subs n, Pd m)
    (hY : ∀ pre (x : NdX Wb) W, J pre W → Pd x.1.2.1 → pre.length < N → YieldAt Fence.wide 0 Try.prog l (encN x) W fun e W' => (e = .returned (.bool true) ∧ J (pre ++ [x]) W' ∧ KpN Wb.heap.size n1 W W') ∨ (e = .returned (.bool false) ∧ Jx (pre ++ [x]) W')) :
    ∀ k, 1 ≤ k → DescOk Wb l n1 N M J Jx Pd k
  | 0, h => absurd h (by omega)
  | k + 1, _ => desc_step Wb l n1 N M hM J Jx B0 hJ Pd hPd hY k (fun h => desc_any Wb l n1 N M hM J Jx B0 hJ Pd hPd hY k h)
set_option maxRecDepth 100000 in
set_option maxHeartbeats 4000000 in
theorem nodes1_in (Wb : World) (n l n1 N M Bn Bd : Nat) (h1M : 1 ≤ M) (hM : M ≤ 100000) (nd : Nd) (cs : List Value) (hnd : NdIs Wb nd cs) (J Jx : List (NdX Wb) → World → Prop) (B0 : Nat) (hJ : AbidesFrom B0 J)
    (Pd : Nd → Prop) (hPd : ∀ n, Pd n → ∀ m ∈ Td.subs n, Pd m)
    (hY : ∀ pre (x : NdX Wb) W, J pre W → Pd x.1.2.1 → pre.length < N → YieldAt Fence.wide 0 Try.prog l (encN x) W fun e W' => (e = .returned (.bool true) ∧ J (pre ++ [x]) W' ∧ KpN Wb.heap.size n1 W W') ∨ (e = .returned (.bool false) ∧ Jx (pre ++ [x]) W'))
    (W : World) (hb : Below Wb.heap.size Wb W) (hn1 : n1 ≤ W.heap.size) (hc : W.heap[Bn]? = some (.cells cs.toArray 25 (0, 0))) (hd : W.cell? ⟨Bd, 0, none⟩ = some (.int .i64 (M : Int))) (hN : (Td.all M 1 nd).length ≤ N) (h0 : J [] W) (hpn : Pd nd) :
    CallsIn Fence.wide n Try.prog 44 #[.func (.yield l) #[] #[], .pointer (some ⟨Bn, 0, none⟩), .pointer (some ⟨Bd, 0, none⟩)] W fun e W' => (∃ v, e = .returned v) ∧
      ((∃ ys : List (NdX Wb), ys.map ndP = Td.all M 1 nd ∧ J ys W') ∨ (∃ pre : List (NdX Wb), pre.map ndP <+: Td.all M 1 nd ∧ Jx pre W')) := by
  have HD : Hid (Calls Try.prog 45 #[.agg cs.toArray, .int .i64 1, .int .i64 (M : Int), .func (.yield l) #[] #[]] W (StopsAt Wb Wb.heap.size n1 M 1 nd J Jx [] W)) := Lib.hid (desc_any Wb l n1 N M hM J Jx B0 hJ Pd hPd hY M h1M 1 nd cs [] W (by omega) hnd hpn hb h0 (by simpa using hN) hn1)
  obtain ⟨u0, u1, u2, u3, u4, u5, u6, u7, sa, sc, a, c, rfl, F⟩ := hnd.form_of
  obtain ⟨rfl, rfl, rfl, rfl, rfl, rfl, rfl, rfl⟩ := F
  have b0 := blkc hc 0
  have b1 := blkc hc 1
  have b2 := blkc hc 2
  have b3 := blkc hc 3
  have b4 := blkc hc 4
  have b5 := blkc hc 5
  have b6 := blkc hc 6
  have b7 := blkc hc 7
  simp only [List.getElem?_toArray, List.getElem?_cons_zero, List.getElem?_cons_succ] at b0 b1 b2 b3 b4 b5 b6 b7
  clear hJ hY hnd hc hb hN h0 hPd hpn
  refine callsIn_of_wp Try.func44 rfl trivial ?_ rfl
  simp only [Try.ntmps44, List.size_toArray, List.length_cons, List.length_nil, Nat.reduceAdd, Nat.reduceSub, Array.replicate_succ, Array.replicate_zero, List.push_toArray, List.append_toArray, List.nil_append, List.cons_append]
  gi_wp2_with fail
  refine ⟨trivial, fun h => (by cases h), ?_⟩
  refine (callsIn_wide.2 HD.out).mono ?_
  rintro e w5 (⟨rfl, ⟨ys, hys, hj5⟩, hk5⟩ | ⟨rfl, q, hq, hx5⟩)
  · gi_wp2
    go_end0
    exact ⟨⟨_, rfl⟩, .inl ⟨ys, hys, hj5⟩⟩
  · gi_wp2
    go_end0
    exact ⟨⟨_, rfl⟩, .inr ⟨q, hq, hx5⟩⟩
set_option maxRecDepth 100000 in
set_option maxHeartbeats 2000000 in
theorem nodes_any (w : World) (nd : Nd) (cs : List Value) (M : Int) (hnd : NdIs w nd cs) : Calls Try.prog 31 #[.agg cs.toArray, .int .i64 M] w fun e w' =>
    e = .returned (.func (.func 44) #[] #[.pointer (some ⟨w.heap.size, 0, none⟩), .pointer (some ⟨w.heap.size + 1, 0, none⟩)]) ∧ (w.alloc (.cells cs.toArray 25)).alloc (.cells #[.int .i64 M] 3) = w' := by
  obtain ⟨u0, u1, u2, u3, u4, u5, u6, u7, sa, sc, a, c, rfl, F⟩ := hnd.form_of
  obtain ⟨rfl, rfl, rfl, rfl, rfl, rfl, rfl, rfl⟩ := F
  clear hnd
  go_enter Try.func31, Try.ntmps31
  go_wp2
  go_ret
  exact ⟨rfl, rfl⟩
/-- The iterator of nodes, made in the world w0. -/
theorem nodes_stops (Wb w0 : World) (n n1 M : Nat) (h1M : 1 ≤ M) (hM : M ≤ 100000) (nd : Nd) (cs : List Value) (hnd : NdIs Wb nd cs) (hb : Below Wb.heap.size Wb w0) (hn1 : n1 ≤ w0.heap.size + 2) :
    SeqStopsK Fence.wide n Try.prog 44 #[.pointer (some ⟨w0.heap.size, 0, none⟩), .pointer (some ⟨w0.heap.size + 1, 0, none⟩)] (encN (Wb := Wb)) (KpN Wb.heap.size n1) (fun ys => ys.map ndP = Td.all M 1 nd)
      (fun pre => pre.map ndP <+: Td.all M 1 nd) (Td.all M 1 nd).length ((w0.alloc (.cells cs.toArray 25)).alloc (.cells #[.int .i64 (M : Int)] 3)) := fun l J Jx W hW hJ _ hY h0 => by
  have hs := hW.size
  simp only [World.size_alloc] at hs
  have e1 : (w0.alloc (.cells cs.toArray 25)).heap.size = w0.heap.size + 1 := World.size_alloc _ _
  have hc : ((w0.alloc (.cells cs.toArray 25)).alloc (.cells #[.int .i64 (M : Int)] 3)).heap[w0.heap.size]? = some (.cells cs.toArray 25 (0, 0)) :=
    (Below.heap_alloc _ _ _ (by rw [e1]; omega)).trans (heap_alloc_new w0 _)
  have hd : ((w0.alloc (.cells cs.toArray 25)).alloc (.cells #[.int .i64 (M : Int)] 3)).cell? ⟨w0.heap.size + 1, 0, none⟩ = some (.int .i64 (M : Int)) := by
    have key : ∀ X : World, (X.alloc (.cells #[.int .i64 (M : Int)] 3)).cell? ⟨X.heap.size, 0, none⟩ = some (.int .i64 (M : Int)) := fun X => by simp
    have h9 := key (w0.alloc (.cells cs.toArray 25))
    rwa [e1] at h9
  have hbb : Below Wb.heap.size Wb W := (hb.alloc hb.size _).alloc (by have := hb.size; simp; omega) _ |>.trans (hW.mono (by have := hb.size; simp; omega))
  exact nodes1_in Wb n l n1 _ M _ _ h1M hM nd cs hnd J Jx _ hJ (fun _ => True) (fun _ _ _ _ => trivial) (fun pre x W1 hj _ hl => yield_wide 0 (hY pre x W1 hj hl)) W hbb (by omega)
    ((hW.block _ (by simp; omega)).trans hc) ((hW.cell (p := ⟨w0.heap.size + 1, 0, none⟩) (by simp)).trans hd) (Nat.le_refl _) h0 trivial
end Go.Proofs.Ythhdlcckboiecaa
namespace Go.Proofs.Ythhdlcckboiecaa
open Go.RowKit Go.Shelf
attribute [local go_sem] Oper.semAt_some
set_option linter.unusedVariables false
namespace Td
/-- The greatest depth among nodes. -/
def deepL (l : List (Nat × Nd)) (a : Nat) : Nat := l.foldl (fun m p => max m p.1) a
theorem deepL_append (l m : List (Nat × Nd)) (a : Nat) : deepL (l ++ m) a = deepL m (deepL l a) := by unfold deepL; rw [List.foldl_append]
theorem deepL_le : ∀ (l : List (Nat × Nd)) (a : Nat), a ≤ deepL l a
  | [], a => Nat.le_refl _
  | p :: l, a => by
    have := deepL_le l (max a p.1)
    show a ≤ deepL l (max a p.1)
    omega
theorem foldl_max_init : ∀ (l : List Nat) (a : Nat), l.foldl max a = max a (l.foldl max 0)
  | [], a => by simp
  | x :: l, a => by
    show l.foldl max (max a x) = max a (l.foldl max (max 0 x))
    rw [foldl_max_init l (max a x), foldl_max_init l (max 0 x)]; omega
theorem deepL_flat (f : Nd → List (Nat × Nd)) (g : Nd → Nat) (d : Nat) (h : ∀ m a, d ≤ a → deepL (f m) a = max a (d + g m)) : ∀ (l : List Nd) (a : Nat), d ≤ a → deepL (l.flatMap f) a = max a (d + (l.map g).foldl max 0)
  | [], a, ha => by show a = max a (d + 0); omega
  | m :: l, a, ha => by
    rw [List.flatMap_cons, deepL_append, h m a ha, deepL_flat f g d h l _ (by omega)]
    show _ = max a (d + (l.map g).foldl max (max 0 (g m)))
    rw [foldl_max_init _ (max 0 (g m))]; omega
theorem deepL_all : ∀ (k d : Nat) (n : Nd) (a : Nat), d ≤ a → deepL (all k (d + 1) n) a = max a (d + dep k n)
  | 0, d, n, a, ha => by show a = max a (d + 0); omega
  | k + 1, d, n, a, ha => by
    rw [all]
    show deepL ((subs n).flatMap (all k (d + 1 + 1))) (max a (d + 1)) = _
    rw [deepL_flat (all k (d + 1 + 1)) (dep k) (d + 1) (fun m a h => deepL_all k (d + 1) m a h) (subs n) _ (by omega), dep]
    omega
theorem all_depth : ∀ (k d : Nat) (n : Nd), ∀ p ∈ all k d n, p.1 + 1 ≤ d + k
  | 0, d, n, p, hp => by simp [all] at hp
  | k + 1, d, n, p, hp => by
    rw [all] at hp
    rcases List.mem_cons.1 hp with rfl | hp
    · show d + 1 ≤ d + (k + 1); omega
    · obtain ⟨m, _, hp⟩ := List.mem_flatMap.1 hp
      have := all_depth k (d + 1) m p hp
      omega
theorem deepL_bd (b : Nat) : ∀ (l : List (Nat × Nd)) (a : Nat), a ≤ b → (∀ p ∈ l, p.1 ≤ b) → deepL l a ≤ b
  | [], a, ha, _ => ha
  | p :: l, a, ha, h => by
    have := h p (by simp)
    exact deepL_bd b l (max a p.1) (by omega) (fun q hq => h q (List.mem_cons_of_mem _ hq))
theorem deep_all (k : Nat) (n : Nd) : deepL (all k 1 n) 0 = dep k n := by rw [deepL_all k 0 n 0 (Nat.le_refl _)]; omega
/-- Cut short where it is too deep. -/
theorem deep_cut (l : List (Nat × Nd)) (n : Nd) (h : l <+: all 1001 1 n) (hd : 1000 < deepL l 0) : deepL l 0 = dep 1001 n := by
  obtain ⟨t, ht⟩ := h
  have h1 : deepL (all 1001 1 n) 0 ≤ 1001 := deepL_bd 1001 _ 0 (by omega) (fun p hp => by have := all_depth 1001 1 n p hp; omega)
  have h2 := deep_all 1001 n
  rw [← ht, deepL_append] at h1
  rw [← ht, deepL_append] at h2
  have := deepL_le t (deepL l 0)
  omega
end Td
theorem len_map {Wb : World} {ys : List (NdX Wb)} {l : List (Nat × Nd)} (h : ys.map ndP = l) : ys.length = l.length := by rw [← h, List.length_map]




























































end Go.Proofs.Ythhdlcckboiecaa
namespace Go.Proofs.Ythhdlcckboiecaa
open Go.RowKit
set_option linter.unusedVariables false
def DepOk (k : Nat) : Prop := ∀ (W : World) (n : Nd) (cs : List Value), NdIs W n cs → Calls Try.prog 17 #[.agg cs.toArray, .int .i64 (k : Int)] W fun e w' => e = .returned (.int .i64 (Td.dep k n : Nat)) ∧ Below W.heap.size W w'
set_option maxRecDepth 100000 in
set_option maxHeartbeats 4000000 in
theorem dep_step (k M : Nat) (hM : M = k + 1) (hk : k ≤ 100000) (ih : DepOk k) : DepOk M := by
  intro W n cs h
  have hM1 : (M : Int) - 1 = (k : Int) := by omega
  have HM0 := Lib.hid hM
  have HN := Lib.hid h
  obtain ⟨vs, a, cap, C, hC⟩ := h.cells
  obtain ⟨N, hN⟩ : ∃ N, (Td.subs n).length = N := ⟨_, rfl⟩
  have hcs := hC.eq
  have hlen := hC.len
  rw [hN] at hcs hlen
  subst hcs
  have HC := Lib.hid hC
  have HNN := Lib.hid hN
  obtain ⟨D, hD⟩ : ∃ D : Nat, Td.dep M n = D := ⟨_, rfl⟩
  have HD := Lib.hid hD
  rw [hD]
  have IH := Lib.hid ih
  clear h hC hN hD ih hM
  have D1 := Lib.hid (Td.dep_le M n)
  obtain ⟨W1, hW1⟩ : ∃ W1, W.alloc (.cells #[.int .i64 (Td.kind n), vs, .int .i64 (Td.num n), .string (Td.name n), .int .i64 (Td.mn n), .int .i64 (Td.mx n), .bool (Td.lazy n), .slice a N cap] 25) = W1 := ⟨_, rfl⟩
  have B1 := Lib.hid (hW1 ▸ (Below.refl W.heap.size W).alloc (Nat.le_refl _) (.cells #[.int .i64 (Td.kind n), vs, .int .i64 (Td.num n), .string (Td.name n), .int .i64 (Td.mn n), .int .i64 (Td.mx n), .bool (Td.lazy n), .slice a N cap] 25) : Below W.heap.size W W1)
  have hbx : W1.cell? ⟨W.heap.size, 7, none⟩ = some (.slice a N cap) := by rw [← hW1]; simp
  have hsz1 : W1.heap.size = W.heap.size + 1 := by rw [← hW1]; simp
  have HBX := Lib.hid hbx
  have HSZ := Lib.hid hsz1
  have HW1 := Lib.hid hW1
  clear hbx hsz1 hW1
  go_enter Try.func17, Try.ntmps17
  go_wp2
  · have h1 : D = 1 := by
      have := D1.out
      rw [HD.out] at this
      have h2 := HD.out
      rw [HM0.out, Td.dep] at h2
      omega
    have hk0 : M = 1 := by omega
    rw [HW1.out]
    go_ret
    exact ⟨by rw [h1, hk0]; rfl, B1.out⟩
  · go_loopw [5, 6] (fun dv iv wr => ∃ i d : Nat, i ≤ N ∧ dv = .int .i64 (d : Int) ∧ iv = .int .i64 (i : Int) ∧ d ≤ k ∧ Hid (d = (((Td.subs n).map (Td.dep k)).take i).foldl max 0) ∧ Hid (Below W1.heap.size W1 wr)) (fun _ iv _ => N - (intOf iv).toNat)
    case atStart => exact ⟨0, 0, Nat.zero_le _, rfl, rfl, Nat.zero_le _, Lib.hid (by simp), Lib.hid (by rw [← HW1.out]; exact Below.refl _ _)⟩
    case round =>
      obtain ⟨i, d, hi, rfl, rfl, hd, HD2, HB⟩ := hrel
      have hbx : wr.cell? ⟨W.heap.size, 7, none⟩ = some (.slice a N cap) := (HB.out.cell (p := ⟨W.heap.size, 7, none⟩) (by rw [HSZ.out]; simp)).trans HBX.out
      have hbs : W.heap.size < wr.heap.size := by have := HB.out.size; rw [HSZ.out] at this; omega
      by_cases hlt : i < N
      · obtain ⟨b, off, m, u0, u1, u2, u3, u4, u5, u6, u7, rfl, hb, hm, hnd, q0, q1, q2, q3, q4, q5, q6, q7⟩ := HC.out.sub i (by rw [HNN.out]; exact hlt)
        have hbw : Below W.heap.size W wr := B1.out.trans (HB.out.mono B1.out.size)
        have kc : ∀ o v, W.cell? ⟨b, o, none⟩ = some v → wr.cell? ⟨b, o, none⟩ = some v := fun o v h => (hbw.cell (p := ⟨b, o, none⟩) hb).trans h
        replace q0 := kc _ _ q0; replace q1 := kc _ _ q1; replace q2 := kc _ _ q2; replace q3 := kc _ _ q3
        replace q4 := kc _ _ q4; replace q5 := kc _ _ q5; replace q6 := kc _ _ q6; replace q7 := kc _ _ q7
        have hbl : b < wr.heap.size := Nat.lt_of_lt_of_le hb hbw.size
        have HND := Lib.hid (hnd.kept hbw)
        have HM := Lib.hid hm
        have HBW := Lib.hid hbw
        clear kc hm hnd hbw
        go_wp2_with fail
        refine (IH.out _ _ _ HND.out).mono ?_
        rintro e w5 ⟨rfl, hb5⟩
        obtain ⟨x, hx⟩ : ∃ x : Nat, Td.dep k m = x := ⟨_, rfl⟩
        have hxk : x ≤ k := by rw [← hx]; exact Td.dep_le k m
        have HB5 := Lib.hid (HB.out.trans (hb5.mono HB.out.size))
        have hMX : Hid (max d x = (((Td.subs n).map (Td.dep k)).take (i + 1)).foldl max 0) := Lib.hid (by
          have hi' : i < ((Td.subs n).map (Td.dep k)).length := by rw [List.length_map, HNN.out]; exact hlt
          rw [Td.foldl_max_succ _ _ hi', ← HD2.out]
          have e1 : ((Td.subs n).map (Td.dep k))[i] = x := by
            rw [List.getElem_map]
            have h2 := HM.out
            rw [List.getElem?_eq_getElem (by rw [HNN.out]; exact hlt)] at h2
            rw [Option.some.inj h2, hx]
          rw [e1])
        rw [hx]
        clear hb5 hx HD2
        by_cases hgt : d < x
        · rw [Nat.max_eq_right (by omega)] at hMX
          go_wp2
          go_roundw
          case rel => exact ⟨i + 1, x, by omega, rfl, by go_num, hxk, hMX, HB5⟩
          case measure => simp [intOf]; omega
        · rw [Nat.max_eq_left (by omega)] at hMX
          go_wp2
          go_roundw
          case rel => exact ⟨i + 1, d, by omega, rfl, by go_num, hd, hMX, HB5⟩
          case measure => simp [intOf]; omega
      · obtain rfl : i = N := by omega
        have hE : Hid (D = d + 1) := Lib.hid (by
          rw [← HD.out, HM0.out, HD2.out, Td.dep, List.take_of_length_le (by rw [List.length_map, HNN.out]; exact Nat.le_refl _)])
        go_wp2
        go_ret
        exact ⟨by rw [hE.out]; rfl, B1.out.trans (HB.out.mono B1.out.size)⟩
theorem refDepth_any : ∀ k : Nat, k ≤ 100000 → DepOk k
  | 0, _ => by
    intro W n cs h
    obtain ⟨vs, a, cap, C, hC⟩ := h.cells
    have hcs := hC.eq
    subst hcs
    clear hC h
    go_enter Try.func17, Try.ntmps17
    go_wp2
    go_ret
    exact ⟨rfl, (Below.refl _ _).alloc (Nat.le_refl _) _⟩
  | k + 1, h => dep_step k _ rfl (by omega) (refDepth_any k (by omega))
end Go.Proofs.Ythhdlcckboiecaa
