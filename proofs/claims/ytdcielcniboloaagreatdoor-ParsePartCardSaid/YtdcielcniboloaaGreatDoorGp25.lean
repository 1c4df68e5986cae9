/- The landed tree: nodes and its iterator, as the law of a range over a function wants it. · The landed tree: Size, Depth. · The reference's tree (burinref06): Depth. · The contract of the reference's Check (burinref02). · The reference's tree (burinref06): Fits. · The reference's tree (burinref06): Check. · The landed tree: Groups. · The landed tree: isDigit, isLetter, isCount, Name. -/
import Derived.Test.YtdcielcniboloaaGreatDoorGp24
import Derived.Test.YtdcielcniboloaaGreatDoorGp6
import Derived.IntWalk
import Derived.Test.YtdcielcniboloaaGreatDoorGp3
import Derived.Test.YtdcielcniboloaaGreatDoorGp4
import Derived.WalkSmall
import Derived.Test.YtdcielcniboloaaGreatDoorGp7
import Derived.BigQuiet
import Derived.Test.YtdcielcniboloaaGreatDoorGp14
namespace Go.Proofs.YtdcielcniboloaaGreatDoor
open Go.RowKit Go.Shelf
attribute [local go_sem] Oper.semAt_some
set_option linter.unusedVariables false
theorem desc_any (Wb : World) (l n1 N M : Nat) (hM : M ≤ 100000) (J Jx : List (NdX Wb) → World → Prop) (B0 : Nat) (hJ : AbidesFrom B0 J)
    (Pd : Nd → Prop) (hPd : ∀ n, Pd n → ∀ m ∈ Td.subs n, Pd m)
    (hY : ∀ pre (x : NdX Wb) W, J pre W → Pd x.1.2.1 → pre.length < N → YieldAt Fence.wide 0 Tryz.prog l (encN x) W fun e W' => (e = .returned (.bool true) ∧ J (pre ++ [x]) W' ∧ KpN Wb.heap.size n1 W W') ∨ (e = .returned (.bool false) ∧ Jx (pre ++ [x]) W')) :
    ∀ k, 1 ≤ k → DescOk Wb l n1 N M J Jx Pd k
  | 0, h => absurd h (by omega)
  | k + 1, _ => desc_step Wb l n1 N M hM J Jx B0 hJ Pd hPd hY k (fun h => desc_any Wb l n1 N M hM J Jx B0 hJ Pd hPd hY k h)
set_option maxRecDepth 100000 in
set_option maxHeartbeats 4000000 in
theorem nodes1_in (Wb : World) (n l n1 N M Bn Bd : Nat) (h1M : 1 ≤ M) (hM : M ≤ 100000) (nd : Nd) (cs : List Value) (hnd : NdIs Wb nd cs) (J Jx : List (NdX Wb) → World → Prop) (B0 : Nat) (hJ : AbidesFrom B0 J)
    (Pd : Nd → Prop) (hPd : ∀ n, Pd n → ∀ m ∈ Td.subs n, Pd m)
    (hY : ∀ pre (x : NdX Wb) W, J pre W → Pd x.1.2.1 → pre.length < N → YieldAt Fence.wide 0 Tryz.prog l (encN x) W fun e W' => (e = .returned (.bool true) ∧ J (pre ++ [x]) W' ∧ KpN Wb.heap.size n1 W W') ∨ (e = .returned (.bool false) ∧ Jx (pre ++ [x]) W'))
    (W : World) (hb : Below Wb.heap.size Wb W) (hn1 : n1 ≤ W.heap.size) (hc : W.heap[Bn]? = some (.cells cs.toArray 26 (0, 0))) (hd : W.cell? ⟨Bd, 0, none⟩ = some (.int .i64 (M : Int))) (hN : (Td.all M 1 nd).length ≤ N) (h0 : J [] W) (hpn : Pd nd) :
    CallsIn Fence.wide n Tryz.prog 69 #[.func (.yield l) #[] #[], .pointer (some ⟨Bn, 0, none⟩), .pointer (some ⟨Bd, 0, none⟩)] W fun e W' => (∃ v, e = .returned v) ∧
      ((∃ ys : List (NdX Wb), ys.map ndP = Td.all M 1 nd ∧ J ys W') ∨ (∃ pre : List (NdX Wb), pre.map ndP <+: Td.all M 1 nd ∧ Jx pre W')) := by
  have HD : Hid (Calls Tryz.prog 70 #[.agg cs.toArray, .int .i64 1, .int .i64 (M : Int), .func (.yield l) #[] #[]] W (StopsAt Wb Wb.heap.size n1 M 1 nd J Jx [] W)) := Lib.hid (desc_any Wb l n1 N M hM J Jx B0 hJ Pd hPd hY M h1M 1 nd cs [] W (by omega) hnd hpn hb h0 (by simpa using hN) hn1)
  obtain ⟨u0, u1, u2, u3, u4, u5, u6, u7, sa, sc, a, c, rfl, F⟩ := hnd.form_of
  obtain ⟨rfl, rfl, rfl, rfl, rfl, rfl, rfl, rfl⟩ := F
  have b0 := blkc hc 0
  have b1 := blkc hc 1
  have b2 := blkc hc 2
  have b3 := blkc hc 3
  have b4 := blkc hc 4
  have b5 := blkc hc 5
  have b6 := blkc hc 6
  have b7 := blkc hc 7
  simp only [List.getElem?_toArray, List.getElem?_cons_zero, List.getElem?_cons_succ] at b0 b1 b2 b3 b4 b5 b6 b7
  clear hJ hY hnd hc hb hN h0 hPd hpn
  refine callsIn_of_wp Tryz.func69 rfl trivial ?_ rfl
  simp only [Tryz.ntmps69, List.size_toArray, List.length_cons, List.length_nil, Nat.reduceAdd, Nat.reduceSub, Array.replicate_succ, Array.replicate_zero, List.push_toArray, List.append_toArray, List.nil_append, List.cons_append]
  gi_wp2_with fail
  refine ⟨trivial, fun h => (by cases h), ?_⟩
  refine (callsIn_wide.2 HD.out).mono ?_
  rintro e w5 (⟨rfl, ⟨ys, hys, hj5⟩, hk5⟩ | ⟨rfl, q, hq, hx5⟩)
  · gi_wp2
    go_end0
    exact ⟨⟨_, rfl⟩, .inl ⟨ys, hys, hj5⟩⟩
  · gi_wp2
    go_end0
    exact ⟨⟨_, rfl⟩, .inr ⟨q, hq, hx5⟩⟩
set_option maxRecDepth 100000 in
set_option maxHeartbeats 2000000 in
theorem nodes_any (w : World) (nd : Nd) (cs : List Value) (M : Int) (hnd : NdIs w nd cs) : Calls Tryz.prog 36 #[.agg cs.toArray, .int .i64 M] w fun e w' =>
    e = .returned (.func (.func 69) #[] #[.pointer (some ⟨w.heap.size, 0, none⟩), .pointer (some ⟨w.heap.size + 1, 0, none⟩)]) ∧ (w.alloc (.cells cs.toArray 26)).alloc (.cells #[.int .i64 M] 3) = w' := by
  obtain ⟨u0, u1, u2, u3, u4, u5, u6, u7, sa, sc, a, c, rfl, F⟩ := hnd.form_of
  obtain ⟨rfl, rfl, rfl, rfl, rfl, rfl, rfl, rfl⟩ := F
  clear hnd
  go_enter Tryz.func36, Tryz.ntmps36
  go_wp2
  go_ret
  exact ⟨rfl, rfl⟩
/-- The iterator of nodes, made in the world w0. -/
theorem nodes_stops (Wb w0 : World) (n n1 M : Nat) (h1M : 1 ≤ M) (hM : M ≤ 100000) (nd : Nd) (cs : List Value) (hnd : NdIs Wb nd cs) (hb : Below Wb.heap.size Wb w0) (hn1 : n1 ≤ w0.heap.size + 2) :
    SeqStopsK Fence.wide n Tryz.prog 69 #[.pointer (some ⟨w0.heap.size, 0, none⟩), .pointer (some ⟨w0.heap.size + 1, 0, none⟩)] (encN (Wb := Wb)) (KpN Wb.heap.size n1) (fun ys => ys.map ndP = Td.all M 1 nd)
      (fun pre => pre.map ndP <+: Td.all M 1 nd) (Td.all M 1 nd).length ((w0.alloc (.cells cs.toArray 26)).alloc (.cells #[.int .i64 (M : Int)] 3)) := fun l J Jx W hW hJ _ hY h0 => by
  have hs := hW.size
  simp only [World.size_alloc] at hs
  have e1 : (w0.alloc (.cells cs.toArray 26)).heap.size = w0.heap.size + 1 := World.size_alloc _ _
  have hc : ((w0.alloc (.cells cs.toArray 26)).alloc (.cells #[.int .i64 (M : Int)] 3)).heap[w0.heap.size]? = some (.cells cs.toArray 26 (0, 0)) :=
    (Below.heap_alloc _ _ _ (by rw [e1]; omega)).trans (heap_alloc_new w0 _)
  have hd : ((w0.alloc (.cells cs.toArray 26)).alloc (.cells #[.int .i64 (M : Int)] 3)).cell? ⟨w0.heap.size + 1, 0, none⟩ = some (.int .i64 (M : Int)) := by
    have key : ∀ X : World, (X.alloc (.cells #[.int .i64 (M : Int)] 3)).cell? ⟨X.heap.size, 0, none⟩ = some (.int .i64 (M : Int)) := fun X => by simp
    have h9 := key (w0.alloc (.cells cs.toArray 26))
    rwa [e1] at h9
  have hbb : Below Wb.heap.size Wb W := (hb.alloc hb.size _).alloc (by have := hb.size; simp; omega) _ |>.trans (hW.mono (by have := hb.size; simp; omega))
  exact nodes1_in Wb n l n1 _ M _ _ h1M hM nd cs hnd J Jx _ hJ (fun _ => True) (fun _ _ _ _ => trivial) (fun pre x W1 hj _ hl => yield_wide 0 (hY pre x W1 hj hl)) W hbb (by omega)
    ((hW.block _ (by simp; omega)).trans hc) ((hW.cell (p := ⟨w0.heap.size + 1, 0, none⟩) (by simp)).trans hd) (Nat.le_refl _) h0 trivial
end Go.Proofs.YtdcielcniboloaaGreatDoor
namespace Go.Proofs.YtdcielcniboloaaGreatDoor
open Go.RowKit Go.Shelf
attribute [local go_sem] Oper.semAt_some
set_option linter.unusedVariables false
namespace Td
/-- The greatest depth among nodes. -/
def deepL (l : List (Nat × Nd)) (a : Nat) : Nat := l.foldl (fun m p => max m p.1) a
theorem deepL_append (l m : List (Nat × Nd)) (a : Nat) : deepL (l ++ m) a = deepL m (deepL l a) := by unfold deepL; rw [List.foldl_append]
theorem deepL_le : ∀ (l : List (Nat × Nd)) (a : Nat), a ≤ deepL l a
  | [], a => Nat.le_refl _
  | p :: l, a => by
    have := deepL_le l (max a p.1)
    show a ≤ deepL l (max a p.1)
    omega
theorem foldl_max_init : ∀ (l : List Nat) (a : Nat), l.foldl max a = max a (l.foldl max 0)
  | [], a => by simp
  | x :: l, a => by
    show l.foldl max (max a x) = max a (l.foldl max (max 0 x))
    rw [foldl_max_init l (max a x), foldl_max_init l (max 0 x)]; omega
theorem deepL_flat (f : Nd → List (Nat × Nd)) (g : Nd → Nat) (d : Nat) (h : ∀ m a, d ≤ a → deepL (f m) a = max a (d + g m)) : ∀ (l : List Nd) (a : Nat), d ≤ a → deepL (l.flatMap f) a = max a (d + (l.map g).foldl max 0)
  | [], a, ha => by show a = max a (d + 0); omega
  | m :: l, a, ha => by
    rw [List.flatMap_cons, deepL_append, h m a ha, deepL_flat f g d h l _ (by omega)]
    show _ = max a (d + (l.map g).foldl max (max 0 (g m)))
    rw [foldl_max_init _ (max 0 (g m))]; omega
theorem deepL_all : ∀ (k d : Nat) (n : Nd) (a : Nat), d ≤ a → deepL (all k (d + 1) n) a = max a (d + dep k n)
  | 0, d, n, a, ha => by show a = max a (d + 0); omega
  | k + 1, d, n, a, ha => by
    rw [all]
    show deepL ((subs n).flatMap (all k (d + 1 + 1))) (max a (d + 1)) = _
    rw [deepL_flat (all k (d + 1 + 1)) (dep k) (d + 1) (fun m a h => deepL_all k (d + 1) m a h) (subs n) _ (by omega), dep]
    omega
theorem all_depth : ∀ (k d : Nat) (n : Nd), ∀ p ∈ all k d n, p.1 + 1 ≤ d + k
  | 0, d, n, p, hp => by simp [all] at hp
  | k + 1, d, n, p, hp => by
    rw [all] at hp
    rcases List.mem_cons.1 hp with rfl | hp
    · show d + 1 ≤ d + (k + 1); omega
    · obtain ⟨m, _, hp⟩ := List.mem_flatMap.1 hp
      have := all_depth k (d + 1) m p hp
      omega
theorem deepL_bd (b : Nat) : ∀ (l : List (Nat × Nd)) (a : Nat), a ≤ b → (∀ p ∈ l, p.1 ≤ b) → deepL l a ≤ b
  | [], a, ha, _ => ha
  | p :: l, a, ha, h => by
    have := h p (by simp)
    exact deepL_bd b l (max a p.1) (by omega) (fun q hq => h q (List.mem_cons_of_mem _ hq))
theorem deep_all (k : Nat) (n : Nd) : deepL (all k 1 n) 0 = dep k n := by rw [deepL_all k 0 n 0 (Nat.le_refl _)]; omega
/-- Cut short where it is too deep. -/
theorem deep_cut (l : List (Nat × Nd)) (n : Nd) (h : l <+: all 1001 1 n) (hd : 1000 < deepL l 0) : deepL l 0 = dep 1001 n := by
  obtain ⟨t, ht⟩ := h
  have h1 : deepL (all 1001 1 n) 0 ≤ 1001 := deepL_bd 1001 _ 0 (by omega) (fun p hp => by have := all_depth 1001 1 n p hp; omega)
  have h2 := deep_all 1001 n
  rw [← ht, deepL_append] at h1
  rw [← ht, deepL_append] at h2
  have := deepL_le t (deepL l 0)
  omega
end Td
end Go.Proofs.YtdcielcniboloaaGreatDoor
namespace Go.Proofs.YtdcielcniboloaaGreatDoor
open Go.RowKit
set_option linter.unusedVariables false
end Go.Proofs.YtdcielcniboloaaGreatDoor
namespace Go.Proofs.YtdcielcniboloaaGreatDoor
open Go.RowKit
set_option linter.unusedVariables false
end Go.Proofs.YtdcielcniboloaaGreatDoor
namespace Go.Proofs.YtdcielcniboloaaGreatDoor
open Go.RowKit
set_option linter.unusedVariables false
namespace Td
/-- Are a node's fields as its kind has them? -/
def fitsV (K num mn mx L : Int) (S U M T Z C NB : Bool) : Bool :=
  if K = 1 ∨ K = 2 ∨ K = 4 then S && (U && (M && (T && (Z && (L == 0)))))
  else if K = 3 then !S && (C && (U && (M && (T && (Z && (L == 0))))))
  else if K = 5 then S && (decide (1 ≤ num) && (decide (num ≤ 6) && (M && (T && (Z && (L == 0))))))
  else if K = 6 then S && (decide (1 ≤ num) && ((M || NB) && (T && (Z && (L == 1)))))
  else if K = 7 ∨ K = 8 then S && (U && (M && (T && (Z && decide (2 ≤ L)))))
  else if K = 9 then S && (U && (M && (decide (0 ≤ mn) && (decide (mn ≤ 1000) && ((mx == -1 || (decide (mn ≤ mx) && decide (mx ≤ 1000))) && (L == 1))))))
  else false
def fitsB (n : Nd) : Bool :=
  fitsV (kind n) (num n) (mn n) (mx n) (subs n).length (((set n).length : Int) == 0) (num n == 0) (name n).toList.isEmpty (mn n == 0 && mx n == 0) (!lazy n) (Rg.checkF none (set n) == 0) (nameB (name n))
end Td
end Go.Proofs.YtdcielcniboloaaGreatDoor
namespace Go.Proofs.YtdcielcniboloaaGreatDoor
open Go.RowKit
set_option linter.unusedVariables false
namespace Td
/-- Is a name, not empty, among these? -/
def hit (T : List ByteArray) (nm : ByteArray) : Bool := T.any (fun t => t.toList == nm.toList) && !nm.toList.isEmpty
def chkF (T : List ByteArray) : List (Nat × Nd) → Int
  | [] => 0
  | x :: l => if fitsB x.2 = false then 60 else if kind x.2 ≠ 6 then chkF T l else if num x.2 ≠ (T.length : Int) + 1 then 60 else if 31 < num x.2 then 2
    else if hit T (name x.2) = true then 6 else chkF (T ++ [name x.2]) l
def checkN (n : Nd) : Int := if 1000 < dep 1001 n then 61 else chkF [] (all 1000 1 n)
structure ChkSt (T : List ByteArray) (l l' : List (Nat × Nd)) (m : Nd) : Prop where
  bad : fitsB m = false → chkF T l = 60
  other : fitsB m = true → kind m ≠ 6 → chkF T l = chkF T l'
  odd : fitsB m = true → kind m = 6 → num m ≠ (T.length : Int) + 1 → chkF T l = 60
  long : fitsB m = true → kind m = 6 → num m = (T.length : Int) + 1 → 31 < num m → chkF T l = 2
  there : fitsB m = true → kind m = 6 → num m = (T.length : Int) + 1 → ¬ 31 < num m → hit T (name m) = true → chkF T l = 6
  next : fitsB m = true → kind m = 6 → num m = (T.length : Int) + 1 → ¬ 31 < num m → hit T (name m) = false → chkF T l = chkF (T ++ [name m]) l'
end Td
theorem TxOwn.slice {W : World} {base : Nat} {v : Value} {T : List ByteArray} (h : TxOwn W base v T) : ∃ a c, v = .slice a T.length c := by
  rcases h.2 with ⟨e, e0⟩ | ⟨g, cap, cur, e, _⟩
  · exact ⟨none, 0, by rw [e, e0]⟩
  · exact ⟨_, _, e⟩
theorem TxOwn.below {W W' : World} {base : Nat} {v : Value} {T : List ByteArray} (h : TxOwn W base v T) (hb : Below W.heap.size W W') : TxOwn W' base v T :=
  World.ownsRow.kept h ⟨hb.os, hb.tape, hb.output, hb.size, fun k hk _ => hb.block k hk⟩ (row := none) (by cases hv : v.ownBlock <;> simp)
theorem TxOwn.at {W : World} {base : Nat} {v : Value} {T : List ByteArray} (h : TxOwn W base v T) (k : Nat) (hk : k < T.length) : ∃ g c, v = .slice (some ⟨g, 0, none⟩) T.length c ∧ g < W.heap.size ∧ W.cell? ⟨g, k, none⟩ = some (.string T[k]) := by
  obtain ⟨g, cap, rfl, hb, hg⟩ := World.ownsRow.form h (by omega)
  refine ⟨g, cap, rfl, hg, ?_⟩
  rw [World.ownsRow.cellAt h k (by omega)]
  simp [hk]
end Go.Proofs.YtdcielcniboloaaGreatDoor
namespace Go.Proofs.YtdcielcniboloaaGreatDoor
open Go.RowKit Go.Shelf
attribute [local go_sem] Oper.semAt_some
set_option linter.unusedVariables false
theorem TxOwn.lower {W : World} {b b' : Nat} {v : Value} {T : List ByteArray} (h : TxOwn W b v T) (hb : b' ≤ b) : TxOwn W b' v T := by
  refine ⟨h.1, ?_⟩
  rcases h.2 with ⟨e, e0⟩ | ⟨g, cap, cur, e, hg, rest⟩
  · exact .inl ⟨e, e0⟩
  · exact .inr ⟨g, cap, cur, e, Nat.le_trans hb hg, rest⟩
theorem txOwn_own {W W' : World} {base : Nat} {v : Value} {T : List ByteArray} {row : Option Nat} (h : TxOwn W base v T) (hg : W.grownBy W' row) (hr : ∀ r, row = some r → ∃ o : Obj, W.heap[r]? = some o ∧ o.isCells = false) : TxOwn W' base v T := by
  refine World.ownsRow.kept h hg ?_
  rcases h.2 with ⟨rfl, _⟩ | ⟨g, cap, cur, rfl, _, hgb, _⟩
  · exact .inl rfl
  · refine .inr fun e => ?_
    obtain ⟨o, ho, hc⟩ := hr g e.symm
    rw [hgb] at ho; cases ho; cases hc
theorem blk_kept {W W' : World} {B : Nat} {cs : Array Value} {t : TypeId} {fr : Nat × Nat} {row : Option Nat} (h : W.heap[B]? = some (.cells cs t fr)) (hg : W.grownBy W' row) (hr : ∀ r, row = some r → ∃ o : Obj, W.heap[r]? = some o ∧ o.isCells = false) : W'.heap[B]? = some (.cells cs t fr) := by
  rw [hg.block B (Array.getElem?_eq_some_iff.1 h).1 (fun e => by
    obtain ⟨o, ho, hc⟩ := hr B e.symm
    rw [h] at ho; cases ho; cases hc)]; exact h
/-- What the loop of Groups holds: the list's box, the list. -/
def GI (B : Nat) (T : List ByteArray) (W : World) : Prop := B + 3 ≤ W.heap.size ∧ ∃ v, Boxed W B 35 v ∧ TxOwn W (B + 3) v T
theorem GI.own {B : Nat} {T : List ByteArray} {W W' : World} {row : Option Nat} (h : GI B T W) (hg : W.grownBy W' row) (hr : ∀ r, row = some r → ∃ o : Obj, W.heap[r]? = some o ∧ o.isCells = false) : GI B T W' := by
  obtain ⟨h0, v, h1, h2⟩ := h
  exact ⟨Nat.le_trans h0 hg.size, v, h1.kept hg (fun e => by
    obtain ⟨o, ho, hc⟩ := hr B e.symm
    rw [show W.heap[B]? = _ from h1] at ho; cases ho; cases hc), txOwn_own h2 hg hr⟩
def gpL {Wb : World} (pre : List (NdX Wb)) : List ByteArray := Td.groups (pre.map ndP)
theorem gpL_snoc {Wb : World} (pre : List (NdX Wb)) (x : NdX Wb) : gpL (pre ++ [x]) = gpL pre ++ (if Td.kind x.1.2.1 = 6 then [Td.name x.1.2.1] else []) := by
  unfold gpL Td.groups
  rw [List.map_append, List.filter_append, List.map_append]
  congr 1
  by_cases h : Td.kind x.1.2.1 = 6
  · rw [if_pos h]; simp [ndP, h]
  · rw [if_neg h]; simp [ndP, h]
theorem gpL_le {Wb : World} (pre : List (NdX Wb)) : (gpL pre).length ≤ pre.length := by
  unfold gpL Td.groups
  rw [List.length_map]
  exact Nat.le_trans (List.length_filter_le _ _) (by rw [List.length_map]; exact Nat.le_refl _)
set_option maxRecDepth 100000 in
set_option maxHeartbeats 4000000 in
theorem groups_in (n : Nat) (hn : 3 ≤ n) (W : World) (nd : Nd) (cs : List Value) (h : NdIs W nd cs) (hlen : (Td.all 1000 1 nd).length ≤ 1000000) :
    CallsIn Fence.wide n Tryz.prog 17 #[.agg cs.toArray] W fun e W' => ∃ v, e = .returned v ∧ TxOwn W' W.heap.size v (Td.groups (Td.all 1000 1 nd)) ∧ Below W.heap.size W W' := by
  have h1 : 1 ≤ n := by omega
  have HND := Lib.hid h
  obtain ⟨u0, u1, u2, u3, u4, u5, u6, u7, sa, sc, a, c, hcs, F⟩ := h.form_of
  subst hcs
  obtain ⟨rfl, rfl, rfl, rfl, rfl, rfl, rfl, rfl⟩ := F
  clear h
  refine callsIn_of_wp_marks Tryz.func17 rfl trivial ?_ rfl
  simp only [Tryz.ntmps17, List.size_toArray, List.length_cons, List.length_nil, Nat.reduceAdd, Nat.reduceSub, Array.replicate_succ, Array.replicate_zero, List.push_toArray, List.append_toArray, List.nil_append, List.cons_append]
  gi_wp2_with fail
  refine ⟨trivial, ?_⟩
  have hb1 : Below W.heap.size W ((W.alloc (.cells #[.int .i64 (Td.kind nd), .slice sa (Td.set nd).length sc, .int .i64 (Td.num nd), .string (Td.name nd), .int .i64 (Td.mn nd), .int .i64 (Td.mx nd), .bool (Td.lazy nd), .slice a (Td.subs nd).length c] 26)).alloc (.cells #[.slice none 0 0] 35)) := ((Below.refl _ W).alloc (Nat.le_refl _) _).alloc (by simp) _
  obtain ⟨w1, hw1⟩ : ∃ w1, (W.alloc (.cells #[.int .i64 (Td.kind nd), .slice sa (Td.set nd).length sc, .int .i64 (Td.num nd), .string (Td.name nd), .int .i64 (Td.mn nd), .int .i64 (Td.mx nd), .bool (Td.lazy nd), .slice a (Td.subs nd).length c] 26)).alloc (.cells #[.slice none 0 0] 35) = w1 := ⟨_, rfl⟩
  have bN : Boxed w1 (W.heap.size + 1) 35 (.slice none 0 0) := by
    rw [← hw1]
    have h9 := Boxed.new (W.alloc (.cells #[.int .i64 (Td.kind nd), .slice sa (Td.set nd).length sc, .int .i64 (Td.num nd), .string (Td.name nd), .int .i64 (Td.mn nd), .int .i64 (Td.mx nd), .bool (Td.lazy nd), .slice a (Td.subs nd).length c] 26)) 35 (.slice none 0 0)
    rwa [World.size_alloc] at h9
  have hsz : w1.heap.size = W.heap.size + 2 := by rw [← hw1]; simp
  rw [hw1] at hb1 ⊢
  have HSZ := Lib.hid hsz
  clear hw1 hsz
  refine (callsIn_wide.2 (nodes_any w1 nd _ 1000 (HND.out.kept hb1))).mono ?_
  rintro e w' ⟨rfl, rfl⟩
  gi_wp2
  refine wpIn_rangeFunc_ownH rfl h1 (gf := 69) (lb := #[.pointer (some ⟨w1.heap.size, 0, none⟩), .pointer (some ⟨w1.heap.size + 1, 0, none⟩)]) rfl trivial (enters_of Tryz.func69 (by kernel_rfl) rfl)
    (nodes_stops W w1 (n - 1) (W.heap.size + 4) 1000 (by omega) (by omega) nd _ HND.out hb1 (by rw [HSZ.out]; omega)) kpN_t (kpN_b (by simp [HSZ.out]; omega)) (Below.refl _ _) (fun _ => rfl)
    (fun pre W' => GI (W.heap.size + 1) (gpL pre) W' ∧ Below W.heap.size W W')
    (fun _ _ _ => False)
    (OwnFrom.and (Own.from (fun s A B row hs hg hr => hs.own hg hr) _) (ownFrom_below (Nat.le_refl _) (by simp [HSZ.out]; omega)))
    (fun _ _ _ _ _ hs _ _ => hs)
    ⟨⟨by simp [HSZ.out], _, (bN.alloc _).alloc _, World.ownsRow_nil _ _ _ _⟩, (hb1.alloc (by rw [HSZ.out]; omega) _).alloc (by simp [HSZ.out]; omega) _⟩
    (fun x a' W' => ∃ Bx, W.heap.size + 4 ≤ Bx ∧ W'.heap[Bx]? = some (.cells x.1.2.2.toArray 26 (0, 0)) ∧ a' = { tmps := #[.agg #[.int .i64 (Td.kind nd), .slice sa (Td.set nd).length sc, .int .i64 (Td.num nd), .string (Td.name nd), .int .i64 (Td.mn nd), .int .i64 (Td.mx nd), .bool (Td.lazy nd), .slice a (Td.subs nd).length c], .pointer (some ⟨W.heap.size, 0, none⟩), .slice none 0 0, .pointer (some ⟨W.heap.size + 1, 0, none⟩), undef, .pointer (some ⟨Bx, 0, none⟩), .agg #[.int .i64 (Td.kind nd), .slice sa (Td.set nd).length sc, .int .i64 (Td.num nd), .string (Td.name nd), .int .i64 (Td.mn nd), .int .i64 (Td.mx nd), .bool (Td.lazy nd), .slice a (Td.subs nd).length c], .func (.func 69) #[] #[.pointer (some ⟨w1.heap.size, 0, none⟩), .pointer (some ⟨w1.heap.size + 1, 0, none⟩)], .int .i64 (x.1.1 : Int), .agg x.1.2.2.toArray, undef, undef, undef, undef, undef, undef, undef, undef, undef], defers := [] })
    (fun x a' s A B row hs hg hr => by
      obtain ⟨Bx, q1, q2, q3⟩ := hs
      exact ⟨Bx, q1, blk_kept q2 hg (fun r e => (hr r e).2), q3⟩) ?assign ?body ?done ?stop
  case assign =>
    intro l pre x W2 K hi hK
    obtain ⟨hG, hB⟩ := hi
    obtain ⟨v0, v1, v2, v3, v4, v5, v6, v7, sa', sc', a', c', hx, F'⟩ := x.2.form_of
    have HK : Hid (∀ (W' : World) (cs' : Array Value), cs' = x.1.2.2.toArray → W' = W2.alloc (.cells cs' 26) → ∀ a', a' = _ → K a' W') := Lib.hid (fun W' cs' ec ew a' ea => hK a' W' (by rw [ew]; exact (KeepsOthers.alloc _ _).from _) (by rw [ew]; exact KpN.alloc _ _ hB.size)
      (by rw [ew]; exact ⟨hG.own (World.grownBy_alloc _ _ none) (fun r e => by cases e), hB.alloc hB.size _⟩) ⟨W2.heap.size, by have := hG.1; omega, by rw [ew, ec]; exact heap_alloc_new _ _, ea⟩)
    obtain ⟨rfl, rfl, rfl, rfl, rfl, rfl, rfl, rfl⟩ := F'
    unfold encN
    rw [hx]
    clear hK hG hB
    gi_wp2
    exact HK.out _ _ (by rw [hx]) rfl _ (by rw [hx])
  case body =>
    rintro l pre x a' W2 hl0 hrec ⟨⟨hsz2, v, hv, ho⟩, hB⟩ ⟨Bx, hBx, hbx, rfl⟩ hl
    have hgl := gpL_le pre
    have hsn := gpL_snoc pre x
    obtain ⟨v0, v1, v2, v3, v4, v5, v6, v7, sa', sc', a', c', hx, F'⟩ := x.2.form_of
    obtain ⟨rfl, rfl, rfl, rfl, rfl, rfl, rfl, rfl⟩ := F'
    rw [hx] at hbx
    have c0 := blkc hbx 0
    have c3 := blkc hbx 3
    simp only [List.getElem?_toArray, List.getElem?_cons_zero, List.getElem?_cons_succ] at c0 c3
    have hcc := hv.cell
    have hff := hv.frozen
    obtain ⟨T, hT⟩ : ∃ T, gpL pre = T := ⟨_, rfl⟩
    rw [hT] at hgl hsn ho
    obtain ⟨q, hq⟩ : ∃ q, T.length = q := ⟨_, rfl⟩
    have HQ := Lib.hid hq
    by_cases k6 : Td.kind x.1.2.1 = 6
    · rw [if_pos k6] at hsn
      obtain ⟨i0, hi, hz0, hz1, hz2⟩ := info_parts Tryz.infoText
      have ho2 := ho
      unfold TxOwn at ho2
      rw [hq] at ho2 hgl
      obtain ⟨g, cap, W3, hrun, hown, hgrow, hat, hlt⟩ := run_append_lies (P := Tryz.prog) (W2.alloc (.cells #[.string (Td.name x.1.2.1)] 9)) 35 35 (W.heap.size + 1 + 3) 9 i0 (.string ⟨#[]⟩) 1 16 Tryz.underText hi hz0 hz1 hz2 rfl (by decide) v q (T.map Value.string) (ho2.alloc _)
        ⟨W2.heap.size, 0, none⟩ 1 1 [.string (Td.name x.1.2.1)] (by rfl) (World.news_of_block (heap_alloc_new W2 (.cells #[.string (Td.name x.1.2.1)] 9))) (by simp [Value.oneCell']) (by omega) (by unfold maxLen; omega) (by omega) (by simp; omega) (W2.heap.size + 1) (by simp)
      have hrow : ∀ {B : Nat}, v.ownBlock = some B → W.heap.size + 4 ≤ B ∧ ∃ cur, W2.heap[B]? = some (.cells cur 9 (0, 0)) := fun {B} e => by
        rcases ho.2 with ⟨hx', _⟩ | ⟨g', cap', cur', hx', hg', hgb, _⟩
        · rw [hx'] at e; simp [Value.ownBlock] at e
        · rw [hx'] at e; simp [Value.ownBlock] at e; subst e; exact ⟨hg', cur', hgb⟩
      have hvs : ∃ a1 cap1, v = .slice a1 q cap1 := by rw [← hq]; exact TxOwn.slice ho
      have HOA : Hid (∀ (B : Nat) (o : Obj), W2.heap[B]? = some o → (W2.alloc (.cells #[.string (Td.name x.1.2.1)] 9)).heap[B]? = some o) := Lib.hid (fun {B o} h => (Below.heap_alloc _ _ _ (Array.getElem?_eq_some_iff.1 h).1).trans h)
      have hne : some (W.heap.size + 1) ≠ v.ownBlock := fun e => by have := (hrow e.symm).1; omega
      have hv3 : Boxed W3 (W.heap.size + 1) 35 v := (hv.alloc _).kept hgrow hne
      have hcc3 := hv3.cell
      have hff3 := hv3.frozen
      have hgw : W.heap.size + 4 ≤ g := by
        rcases hat with e | e
        · exact (hrow e).1
        · have := hB.size; omega
      have HF : Hid (∀ u, u = Value.slice (some ⟨g, 0, none⟩) (q + 1) cap → (∀ B, KeepsFrom B W2 (W3.setCell ⟨W.heap.size + 1, 0, none⟩ u)) ∧ KpN W.heap.size (W.heap.size + 4) W2 (W3.setCell ⟨W.heap.size + 1, 0, none⟩ u) ∧ (GI (W.heap.size + 1) (gpL (pre ++ [x])) (W3.setCell ⟨W.heap.size + 1, 0, none⟩ u)) ∧ Below W.heap.size W (W3.setCell ⟨W.heap.size + 1, 0, none⟩ u)) := Lib.hid (fun u hu => by
        have ko : KeepsOthers W2 (W3.setCell ⟨W.heap.size + 1, 0, none⟩ u) :=
          ((KeepsOthers.alloc W2 _).trans (KeepsOthers.of_grownBy hgrow (fun j o hj ho' => by
            obtain ⟨_, cur, hc⟩ := hrow hj
            rw [HOA.out _ _ hc] at ho'; cases ho'; rfl))).trans (KeepsOthers.setCell _ _ _)
        have kp : KpN W.heap.size (W.heap.size + 4) W2 (W3.setCell ⟨W.heap.size + 1, 0, none⟩ u) :=
          kpN_t (KpN.alloc W2 _ hB.size) (kpN_t (KpN.grown hgrow (by have := hB.size; simp; omega) (fun r e => ⟨by have := (hrow e).1; omega, fun cs fr hc' => by
            obtain ⟨_, cur, hc⟩ := hrow e
            rw [HOA.out _ _ hc] at hc'; injection hc' with hc'; injection hc' with _ h2 _; exact absurd h2 (by decide)⟩)) (KpN.set _ _ _ (by simp) (by simp)))
        refine ⟨fun B => ko.from B, kp, ⟨by have := hgrow.size; simp at this ⊢; omega, _, hv3.set _, ?_⟩, ?_⟩
        · subst hu
          rw [hsn]
          unfold TxOwn
          rw [List.length_append, hq, List.map_append]
          exact World.ownsRow.kept hown (grownBy_setCell' W3 _ _) (.inr (by simp [Value.ownBlock]; omega))
        · exact ((hB.alloc hB.size _).grown hgrow (by have := hB.size; simp; omega) (fun k hk => by have := (hrow hk).1; omega)).setCell (p := ⟨W.heap.size + 1, 0, none⟩) (by simp) _)
      obtain ⟨a1, cap1, rfl⟩ := hvs
      have HRUN := Lib.hid hrun
      clear hown hgrow hat hrow hsn ho ho2 hB hrec hl hT hq hbx hv hv3 HQ hrun
      gi_wp2_with (gi_at_builtin; refine wpListIn_append_run rfl _ _ 35 rfl _ _ (.slice (some ⟨g, 0, none⟩) (q + 1) cap) W3 rfl rfl HRUN.out ?_)
      exact ⟨(HF.out _ rfl).1 _, (HF.out _ rfl).2⟩
    · rw [if_neg k6, List.append_nil] at hsn
      have HF : Hid ((∀ B, KeepsFrom B W2 W2) ∧ KpN W.heap.size (W.heap.size + 4) W2 W2 ∧ (GI (W.heap.size + 1) (gpL (pre ++ [x])) W2) ∧ Below W.heap.size W W2) := Lib.hid
        ⟨fun B => KeepsFrom.refl _ _, KpN.refl _ _ _, ⟨hsz2, v, hv, by rw [hsn]; exact ho⟩, hB⟩
      clear hsn ho hB hv hrec hl hT hq hbx HQ
      gi_wp2
      exact ⟨HF.out.1 _, HF.out.2⟩
  case done =>
    rintro D ys W2 hD hys ⟨⟨hsz2, v, hv, ho⟩, hB⟩ hK
    have hyl : gpL ys = Td.groups (Td.all 1000 1 nd) := by unfold gpL; rw [hys]
    rw [hyl] at ho
    have hcc := hv.cell
    have HO := Lib.hid ho
    clear hys hyl ho
    gi_wp2
    refine ⟨by simp, .inl ⟨_, _, rfl, run_takeDeferred hK, ?_⟩⟩
    exact ⟨_, results_tmp rfl _ _ _, _, rfl, (txOwn_own HO.out (grownBy_putObj' _ D (.deferred none)) (fun r e => by cases e; exact ⟨_, hK, rfl⟩)).lower (by omega), hB.trans (belowK_b (w := W) (Nat.le_refl _) W2 D _ _ (by simp [HSZ.out] at hD; omega) hK rfl rfl)⟩
  case stop =>
    rintro D c pre W2 _ _ h _
    exact h.elim
end Go.Proofs.YtdcielcniboloaaGreatDoor
namespace Go.Proofs.YtdcielcniboloaaGreatDoor
open Go.RowKit
set_option linter.unusedVariables false
set_option maxRecDepth 100000 in
set_option maxHeartbeats 2000000 in
theorem isDigit_any (W : World) (c : Int) (h0 : 0 ≤ c) (h1 : c ≤ 255) : Calls Tryz.prog 111 #[.int .u8 c] W fun e w' => e = .returned (.bool (decide (48 ≤ c ∧ c ≤ 57))) ∧ W = w' := by
  by_cases a : 48 ≤ c
  · by_cases b : c ≤ 57
    · rw [decide_eq_true (show 48 ≤ c ∧ c ≤ 57 from ⟨a, b⟩)]
      go_enter Tryz.func111, Tryz.ntmps111
      go_wp2
      go_ret
      exact ⟨rfl, rfl⟩
    · rw [decide_eq_false (show ¬ (48 ≤ c ∧ c ≤ 57) from fun h => b h.2)]
      go_enter Tryz.func111, Tryz.ntmps111
      go_wp2
      go_ret
      exact ⟨rfl, rfl⟩
  · rw [decide_eq_false (show ¬ (48 ≤ c ∧ c ≤ 57) from fun h => a h.1)]
    go_enter Tryz.func111, Tryz.ntmps111
    go_wp2
    go_ret
    exact ⟨rfl, rfl⟩
set_option maxRecDepth 100000 in
set_option maxHeartbeats 2000000 in
theorem isCount_any (W : World) (c : Int) : Calls Tryz.prog 73 #[.int .i64 c] W fun e w' => e = .returned (.bool (decide (0 ≤ c ∧ c ≤ 1000))) ∧ W = w' := by
  by_cases a : 0 ≤ c
  · by_cases b : c ≤ 1000
    · rw [decide_eq_true (show 0 ≤ c ∧ c ≤ 1000 from ⟨a, b⟩)]
      go_enter Tryz.func73, Tryz.ntmps73
      go_wp2
      go_ret
      exact ⟨rfl, rfl⟩
    · rw [decide_eq_false (show ¬ (0 ≤ c ∧ c ≤ 1000) from fun h => b h.2)]
      go_enter Tryz.func73, Tryz.ntmps73
      go_wp2
      go_ret
      exact ⟨rfl, rfl⟩
  · rw [decide_eq_false (show ¬ (0 ≤ c ∧ c ≤ 1000) from fun h => a h.1)]
    go_enter Tryz.func73, Tryz.ntmps73
    go_wp2
    go_ret
    exact ⟨rfl, rfl⟩
set_option maxRecDepth 100000 in
set_option maxHeartbeats 2000000 in
theorem isLetter_any (W : World) (c : Int) (h0 : 0 ≤ c) (h1 : c ≤ 255) : Calls Tryz.prog 112 #[.int .u8 c] W fun e w' => e = .returned (.bool (decide (65 ≤ c ∧ c ≤ 90 ∨ 97 ≤ c ∧ c ≤ 122))) ∧ W = w' := by
  by_cases a : 65 ≤ c
  · by_cases b : c ≤ 90
    · rw [decide_eq_true (show (65 ≤ c ∧ c ≤ 90 ∨ 97 ≤ c ∧ c ≤ 122) from .inl ⟨a, b⟩)]
      go_enter Tryz.func112, Tryz.ntmps112
      go_wp2
      go_ret
      exact ⟨rfl, rfl⟩
    · by_cases d : 97 ≤ c
      · by_cases f : c ≤ 122
        · rw [decide_eq_true (show (65 ≤ c ∧ c ≤ 90 ∨ 97 ≤ c ∧ c ≤ 122) from .inr ⟨d, f⟩)]
          go_enter Tryz.func112, Tryz.ntmps112
          go_wp2
          go_ret
          exact ⟨rfl, rfl⟩
        · rw [decide_eq_false (show ¬ (65 ≤ c ∧ c ≤ 90 ∨ 97 ≤ c ∧ c ≤ 122) by omega)]
          go_enter Tryz.func112, Tryz.ntmps112
          go_wp2
          go_ret
          exact ⟨rfl, rfl⟩
      · rw [decide_eq_false (show ¬ (65 ≤ c ∧ c ≤ 90 ∨ 97 ≤ c ∧ c ≤ 122) by omega)]
        go_enter Tryz.func112, Tryz.ntmps112
        go_wp2
        go_ret
        exact ⟨rfl, rfl⟩
  · have d : ¬ 97 ≤ c := by omega
    rw [decide_eq_false (show ¬ (65 ≤ c ∧ c ≤ 90 ∨ 97 ≤ c ∧ c ≤ 122) by omega)]
    go_enter Tryz.func112, Tryz.ntmps112
    go_wp2
    go_ret
    exact ⟨rfl, rfl⟩
set_option maxRecDepth 100000 in
set_option maxHeartbeats 4000000 in
theorem trName_any (W : World) (s : ByteArray) (hm : s.size ≤ 140737488351232) : Calls Tryz.prog 72 #[.string s] W fun e w' => e = .returned (.bool (Td.nameB s)) ∧ W = w' := by
  by_cases c1 : (s.size : Int) < 1
  · have hE : Hid (Td.nameB s = false) := Lib.hid (by
      unfold Td.nameB
      rw [decide_eq_false (by omega)]
      simp)
    go_enter Tryz.func72, Tryz.ntmps72
    go_wp2
    go_ret
    exact ⟨by rw [hE.out]; rfl, rfl⟩
  by_cases c2 : (32 : Int) < (s.size : Int)
  · have hE : Hid (Td.nameB s = false) := Lib.hid (by
      unfold Td.nameB
      rw [decide_eq_false (by omega)]
      simp)
    go_enter Tryz.func72, Tryz.ntmps72
    go_wp2
    go_ret
    exact ⟨by rw [hE.out]; rfl, rfl⟩
  have c1' : 0 < s.size := by omega
  have c1i : (0 : Int) < (s.size : Int) := by omega
  have hz : (Td.bytes s).getD 0 0 = (s[0].toNat : Int) := by rw [List.getD, Td.bytes_at s 0 c1']; rfl
  have HZ := Lib.hid hz
  have hb0 : s[0].toNat < 256 := UInt8.toNat_lt _
  clear hz
  go_enter Tryz.func72, Tryz.ntmps72
  go_wp2_with fail
  refine (isDigit_any _ _ (by omega) (by omega)).mono ?_
  rintro e w' ⟨rfl, rfl⟩
  by_cases c3 : (48 : Int) ≤ (s[0].toNat : Int) ∧ (s[0].toNat : Int) ≤ 57
  · have hE : Hid (Td.nameB s = false) := Lib.hid (by
      unfold Td.nameB
      rw [HZ.out, decide_eq_false (by omega)]
      simp)
    rw [decide_eq_true c3]
    go_wp2
    go_ret
    exact ⟨by rw [hE.out]; rfl, rfl⟩
  rw [decide_eq_false c3]
  have hE : Hid (Td.nameB s = (Td.bytes s).all Td.letC) := Lib.hid (by
    unfold Td.nameB
    rw [HZ.out, decide_eq_true (by omega)]
    simp)
  clear c3 hb0
  go_wp2
  go_loop [3, 19] (fun jv iv => ∃ k : Nat, k ≤ s.size ∧ iv = .int .i64 (k : Int) ∧ Hid (((Td.bytes s).take k).all Td.letC = true)) (fun _ iv => s.size - (intOf iv).toNat)
  case atStart => exact ⟨0, Nat.zero_le _, rfl, Lib.hid rfl⟩
  case round =>
    obtain ⟨k, hk, rfl, HAA⟩ := hrel
    by_cases hlt : k < s.size
    · have hb : s[k].toNat < 256 := UInt8.toNat_lt _
      have HK := Lib.hid (Td.bytes_at s k hlt)
      have hki : (k : Int) < (s.size : Int) := by omega
      have no : Td.letC (s[k].toNat : Int) = false → Td.nameB s = false := fun hx => by
        rw [hE.out, List.all_eq_false]
        exact ⟨_, List.mem_of_getElem? HK.out, by rw [hx]; decide⟩
      have yes : Td.letC (s[k].toNat : Int) = true → ((Td.bytes s).take (k + 1)).all Td.letC = true := fun hx => by
        obtain ⟨h, h2⟩ := List.getElem?_eq_some_iff.1 HK.out
        rw [List.take_succ_eq_append_getElem h, List.all_append, HAA.out, h2]
        simp [hx]
      have NO := Lib.hid no
      have YES := Lib.hid yes
      clear no yes
      go_wp2_with fail
      refine (isLetter_any _ _ (by omega) (by omega)).mono ?_
      rintro e w' ⟨rfl, rfl⟩
      by_cases l1 : 65 ≤ (s[k].toNat : Int) ∧ (s[k].toNat : Int) ≤ 90 ∨ 97 ≤ (s[k].toNat : Int) ∧ (s[k].toNat : Int) ≤ 122
      · have HT := Lib.hid (YES.out (by unfold Td.letC; exact decide_eq_true (by omega)))
        rw [decide_eq_true l1]
        clear l1
        go_wp2
        go_round
        case rel => exact ⟨k + 1, by omega, by go_num, HT⟩
        case measure => simp [intOf]; omega
      rw [decide_eq_false l1]
      have L1 := Lib.hid l1
      clear l1
      go_wp2_with fail
      refine (isDigit_any _ _ (by omega) (by omega)).mono ?_
      rintro e w' ⟨rfl, rfl⟩
      by_cases l2 : 48 ≤ (s[k].toNat : Int) ∧ (s[k].toNat : Int) ≤ 57
      · have HT := Lib.hid (YES.out (by unfold Td.letC; exact decide_eq_true (by omega)))
        rw [decide_eq_true l2]
        clear l2
        go_wp2
        go_round
        case rel => exact ⟨k + 1, by omega, by go_num, HT⟩
        case measure => simp [intOf]; omega
      rw [decide_eq_false l2]
      have L2 := Lib.hid l2
      clear l2
      by_cases l3 : (s[k].toNat : Int) = 95
      · have HT := Lib.hid (YES.out (by unfold Td.letC; exact decide_eq_true (by omega)))
        go_wp2
        go_round
        case rel => exact ⟨k + 1, by omega, by go_num, HT⟩
        case measure => simp [intOf]; omega
      · have HF := Lib.hid (NO.out (by unfold Td.letC; exact decide_eq_false (by have := L1.out; have := L2.out; omega)))
        go_wp2
        go_ret
        exact ⟨by rw [HF.out]; rfl, rfl⟩
    · obtain rfl : k = s.size := by omega
      have HB := Lib.hid (show Td.nameB s = true by
        have := HAA.out
        rw [List.take_of_length_le (by rw [Td.bytes_len]; exact Nat.le_refl _)] at this
        rw [hE.out, this])
      go_wp2
      go_ret
      exact ⟨by rw [HB.out]; rfl, rfl⟩
end Go.Proofs.YtdcielcniboloaaGreatDoor
