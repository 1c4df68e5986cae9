/- The landed tree: descend, nodes and its iterator: all nodes that are not too deep, in order. · The landed tree: nodes and its iterator, as the law of a range over a function wants it. -/
import Derived.Test.YtanffablfgnioaaGp7
import Derived.Test.YtanffablfgnioaaGp3
import Derived.RangeFuncBox
import Derived.RangeFuncNested
import Derived.RangeFuncBound
import Derived.RangeFuncCalls
import Derived.RangeFuncLeaves
import Derived.Shelf.Abstract
import Derived.OwnWalkIn
import Derived.TacticsInMore
import Derived.LoopNIn
import Derived.LoopIn
namespace Go.Proofs.Ytanffablfgnioaa
open Go.RowKit Go.Shelf
attribute [local go_sem] Oper.semAt_some
set_option linter.unusedVariables false
/-- A node with its depth, as the iterator hands it over: its cells read in the world Wb. -/
abbrev NdX (Wb : World) := { x : Nat × Nd × List Value // NdIs Wb x.2.1 x.2.2 }
def encN {Wb : World} (x : NdX Wb) : Array Value := #[.int .i64 (x.1.1 : Int), .agg x.1.2.2.toArray]
def ndP {Wb : World} (x : NdX Wb) : Nat × Nd := (x.1.1, x.1.2.1)
/-- What a round of the caller's loop keeps: all that lay below n0, and all nodes from n1 on. -/
structure KpN (n0 n1 : Nat) (X Y : World) : Prop where
  below : Below n0 X Y
  own : ∀ (k : Nat) (cs : Array Value) (fr : Nat × Nat), n1 ≤ k → X.heap[k]? = some (Obj.cells cs 25 fr) → Y.heap[k]? = some (Obj.cells cs 25 fr)
theorem kpN_t {n0 n1 : Nat} {X Y Z : World} (h : KpN n0 n1 X Y) (k : KpN n0 n1 Y Z) : KpN n0 n1 X Z := ⟨h.below.trans k.below, fun i cs fr hi hx => k.own i cs fr hi (h.own i cs fr hi hx)⟩
theorem KpN.refl (n0 n1 : Nat) (X : World) : KpN n0 n1 X X := ⟨Below.refl _ _, fun _ _ _ _ h => h⟩
theorem kpN_b {n0 n1 : Nat} {w : World} (hn : n0 ≤ w.heap.size) (W : World) (l : Nat) (o o' : Obj) (hl : w.heap.size ≤ l) (h : W.heap[l]? = some o) (hc : o.isCells = false) (hw : o.isWalk = false) : KpN n0 n1 W (W.putObj l o') :=
  ⟨belowK_b hn W l o o' hl h hc hw, fun k cs fr _ hk => by
    have hne : k ≠ l := fun e => by subst e; rw [h] at hk; cases hk; cases hc
    rw [(grownBy_putObj' W l o').block k (Array.getElem?_eq_some_iff.1 hk).1 (fun e => hne (by cases e; rfl))]; exact hk⟩
theorem KpN.of_below {n0 n1 : Nat} {X Y : World} (h : Below X.heap.size X Y) (hn : n0 ≤ X.heap.size) : KpN n0 n1 X Y := ⟨h.mono hn, fun k cs fr _ hk => (h.block k (Array.getElem?_eq_some_iff.1 hk).1).trans hk⟩
theorem KpN.alloc {n0 n1 : Nat} (X : World) (o : Obj) (hn : n0 ≤ X.heap.size) : KpN n0 n1 X (X.alloc o) := .of_below ((Below.refl X.heap.size X).alloc (Nat.le_refl _) o) hn
theorem KpN.set {n0 n1 : Nat} (X : World) (p : Addr) (v : Value) (h0 : n0 ≤ p.block) (h1 : p.block < n1) : KpN n0 n1 X (X.setCell p v) :=
  ⟨(Below.refl n0 X).setCell h0 v, fun k cs fr hk hx => (Below.heap_setCell _ _ _ _ (by omega)).trans hx⟩
/-- A step that turns one block, of another type. -/
theorem KpN.grown {n0 n1 : Nat} {X Y : World} {row : Option Nat} (h : X.grownBy Y row) (hn : n0 ≤ X.heap.size) (hr : ∀ r, row = some r → n0 ≤ r ∧ ∀ cs fr, X.heap[r]? ≠ some (Obj.cells cs 25 fr)) : KpN n0 n1 X Y :=
  ⟨(Below.refl n0 X).grown h hn (fun k hk => (hr k hk).1), fun k cs fr _ hx => by
    rw [h.block k (Array.getElem?_eq_some_iff.1 hx).1 (fun e => (hr k e.symm).2 cs fr hx)]; exact hx⟩
theorem yield_wide {m : Nat} (m' : Nat) {P : Program} {l : Nat} {args : Array Value} {W : World} {R : Ending → World → Prop} (h : YieldAt Fence.wide m P l args W R) : YieldAt Fence.wide m' P l args W R := by
  obtain ⟨fn, tmps, assign, body, hy, h1, h2⟩ := h
  exact ⟨fn, tmps, assign, body, hy, h1, fun c cs _ => h2 c cs (fun d h => by cases h)⟩
def StopsAt (Wb : World) (n0 n1 : Nat) (k d : Nat) (nd : Nd) (J Jx : List (NdX Wb) → World → Prop) (pre : List (NdX Wb)) (W : World) (e : Ending) (W' : World) : Prop :=
  (e = .returned (.bool true) ∧ (∃ xs : List (NdX Wb), xs.map ndP = Td.all k d nd ∧ J (pre ++ xs) W') ∧ KpN n0 n1 W W') ∨
  (e = .returned (.bool false) ∧ ∃ q : List (NdX Wb), q.map ndP <+: Td.all k d nd ∧ Jx (pre ++ q) W')
def DescOk (Wb : World) (l n1 N M : Nat) (J Jx : List (NdX Wb) → World → Prop) (Pd : Nd → Prop) (k : Nat) : Prop :=
  ∀ (d : Nat) (nd : Nd) (cs : List Value) (pre : List (NdX Wb)) (W : World), d + k = M + 1 → NdIs Wb nd cs → Pd nd → Below Wb.heap.size Wb W → J pre W → pre.length + (Td.all k d nd).length ≤ N → n1 ≤ W.heap.size →
    Calls Try.prog 47 #[.agg cs.toArray, .int .i64 (d : Int), .int .i64 (M : Int), .func (.yield l) #[] #[]] W (StopsAt Wb Wb.heap.size n1 k d nd J Jx pre W)
theorem blkc {W : World} {B : Nat} {cs : Array Value} {t : TypeId} (h : W.heap[B]? = some (.cells cs t (0, 0))) (i : Nat) : W.cell? ⟨B, i, none⟩ = cs[i]? := by simp [World.cell?, h]
theorem kp_box {n0 n1 : Nat} {X Y : World} (h : KpN n0 n1 X Y) {B : Nat} {cs : Array Value} (hB : n1 ≤ B) (hx : X.heap[B]? = some (.cells cs 25 (0, 0))) (i : Nat) : Y.cell? ⟨B, i, none⟩ = cs[i]? := by
  have := h.own B cs (0, 0) hB hx
  simp [World.cell?, this]
set_option maxRecDepth 100000 in
set_option maxHeartbeats 4000000 in
theorem desc_step (Wb : World) (l n1 N M : Nat) (hM : M ≤ 100000) (J Jx : List (NdX Wb) → World → Prop) (B0 : Nat) (hJ : AbidesFrom B0 J)
    (Pd : Nd → Prop) (hPd : ∀ n, Pd n → ∀ m ∈ Td.subs n, Pd m)
    (hY : ∀ pre (x : NdX Wb) W, J pre W → Pd x.1.2.1 → pre.length < N → YieldAt Fence.wide 0 Try.prog l (encN x) W fun e W' => (e = .returned (.bool true) ∧ J (pre ++ [x]) W' ∧ KpN Wb.heap.size n1 W W') ∨ (e = .returned (.bool false) ∧ Jx (pre ++ [x]) W'))
    (k : Nat) (ih : 1 ≤ k → DescOk Wb l n1 N M J Jx Pd k) : DescOk Wb l n1 N M J Jx Pd (k + 1) := by
  intro d nd cs pre W hd hnd hpn hb hJ0 hN hn1
  have HPS := Lib.hid (hPd nd hpn)
  have hbs := hb.size
  have hJa : ∀ pre W o, J pre W → J pre (W.alloc o) := fun pre W o h => hJ pre W _ none h (World.grownBy_alloc W o none) (fun r e => by cases e)
  obtain ⟨x, hx⟩ : ∃ x : NdX Wb, x = ⟨(d, nd, cs), hnd⟩ := ⟨_, rfl⟩
  have hallp : 1 ≤ (Td.all (k + 1) d nd).length := Td.all_len_pos k d nd
  have hy := yield_wide (100000) (hY pre x (W.alloc (.cells cs.toArray 25)) (hJa _ _ _ hJ0) (by rw [hx]; exact hpn) (by omega))
  have hxe : encN x = #[.int .i64 (d : Int), .agg cs.toArray] := by rw [hx]; rfl
  rw [hxe] at hy
  have HXP : Hid (ndP x = (d, nd)) := Lib.hid (by rw [hx]; rfl)
  have HALL : Hid (Td.all (k + 1) d nd = (d, nd) :: (Td.subs nd).flatMap (Td.all k (d + 1))) := Lib.hid (by rw [Td.all])
  have HBB := Lib.hid hb
  have HJA := Lib.hid hJa
  have HN := Lib.hid hN
  have IH := Lib.hid ih
  have HND := Lib.hid hnd
  obtain ⟨vs, a, cap, C, hC⟩ := hnd.cells
  have hcs := hC.eq
  have hlen := hC.len
  have HSUB := Lib.hid hC.sub
  have HNEW := Lib.hid (heap_alloc_new W (.cells cs.toArray 25))
  have HKA : Hid (KpN Wb.heap.size n1 W (W.alloc (.cells cs.toArray 25))) := Lib.hid (KpN.alloc W _ (by omega))
  clear hx hxe ih hJa hJ hY hC hb hJ0 hN hallp hnd hPd hpn
  subst hcs
  obtain ⟨L, hL⟩ : ∃ L, (Td.subs nd).length = L := ⟨_, rfl⟩
  rw [hL] at hlen HSUB HNEW hy HKA
  rw [hL]
  have HL := Lib.hid hL
  clear hL
  refine (callsIn_wide (n := 100001)).1 ?_
  refine callsIn_of_wp Try.func47 rfl trivial ?_ rfl
  simp only [Try.ntmps47, List.size_toArray, List.length_cons, List.length_nil, Nat.reduceAdd, Nat.reduceSub, Array.replicate_succ, Array.replicate_zero, List.push_toArray, List.append_toArray, List.nil_append, List.cons_append]
  obtain ⟨fn, tmps, assign, body, hyy, hR⟩ := hy
  gi_wp2
  refine hR.mono ?_
  clear hR hyy
  rintro e W3 (⟨rfl, hJ3, hk3⟩ | ⟨rfl, hJx3⟩)
  · have hbx : W3.cell? ⟨W.heap.size, 7, none⟩ = some (.slice a L cap) := by
      have := kp_box hk3 hn1 HNEW.out 7
      simpa using this
    have HJ3 := Lib.hid hJ3
    have HK3 := Lib.hid (kpN_t HKA.out hk3)
    have HB3 := Lib.hid (HBB.out.trans HK3.out.below)
    clear hJ3 hk3
    by_cases hk0 : k = 0
    · subst hk0
      have hdM : (d : Int) = (M : Int) := by omega
      have hdM' : d = M := by omega
      subst hdM'
      have HE : Hid (Td.all 1 d nd = [(d, nd)]) := Lib.hid (by rw [HALL.out]; simp [Td.all])
      gi_wp2
      go_ret
      exact .inl ⟨rfl, ⟨[x], by rw [HE.out]; simp [HXP.out], HJ3.out⟩, HK3.out⟩
    · have hdM : ¬ (d : Int) = (M : Int) := by omega
      have hdw : IntKind.i64.wrap ((d : Int) + 1) = ((d + 1 : Nat) : Int) := by rw [IntKind.wrap_i64]; omega
      have HIH := Lib.hid (IH.out (by omega))
      have hn3 : n1 ≤ W3.heap.size := by have := HK3.out.below.size; omega
      gi_wp2
      rw [show ((d : Int) == (M : Int)) = false from beq_eq_false_iff_ne.2 (by omega)]
      gi_loopw [10, 22] (fun bx iv wr => ∃ (i : Nat) (xs : List (NdX Wb)), i ≤ L ∧ iv = .int .i64 (i : Int) ∧ Hid (xs.map ndP = ((Td.subs nd).take i).flatMap (Td.all k (d + 1))) ∧ Hid (J (pre ++ (x :: xs)) wr) ∧ Hid (KpN Wb.heap.size n1 W wr)) (fun _ iv _ => L - (intOf iv).toNat)
      case atStart => exact ⟨0, [], Nat.zero_le _, rfl, Lib.hid (by simp), HJ3, HK3⟩
      case round =>
        obtain ⟨i, xs, hi, rfl, HXS, HJS, HKS⟩ := hrel
        by_cases hlt : i < L
        · obtain ⟨b, off, m, u0, u1, u2, u3, u4, u5, u6, u7, rfl, hbl, hm, hnd, q0, q1, q2, q3, q4, q5, q6, q7⟩ := HSUB.out i hlt
          have hbw : Below Wb.heap.size Wb wr := HBB.out.trans HKS.out.below
          have kc : ∀ o v, Wb.cell? ⟨b, o, none⟩ = some v → wr.cell? ⟨b, o, none⟩ = some v := fun o v h => (hbw.cell (p := ⟨b, o, none⟩) hbl).trans h
          replace q0 := kc _ _ q0; replace q1 := kc _ _ q1; replace q2 := kc _ _ q2; replace q3 := kc _ _ q3
          replace q4 := kc _ _ q4; replace q5 := kc _ _ q5; replace q6 := kc _ _ q6; replace q7 := kc _ _ q7
          have hbl2 : b < wr.heap.size := Nat.lt_of_lt_of_le hbl hbw.size
          obtain ⟨f1, f2, f3, f4, F1⟩ := hnd.form
          obtain ⟨rfl, rfl, rfl, rfl, rfl, rfl, rfl, rfl⟩ := F1
          have HFM := Lib.hid (Td.flat_succ (Td.subs nd) (Td.all k (d + 1)) i m hm)
          have hle : (pre ++ (x :: xs)).length + (Td.all k (d + 1) m).length ≤ N := by
            have h1 := HN.out
            have h2 := congrArg List.length HXS.out
            have h3 := congrArg List.length HFM.out
            have h4 := Td.flat_le (Td.subs nd) (Td.all k (d + 1)) (i + 1)
            rw [HALL.out, List.length_cons] at h1
            rw [List.length_map] at h2
            rw [List.length_append] at h3
            rw [List.length_append, List.length_cons]
            omega
          have hwr : n1 ≤ wr.heap.size := by have := HKS.out.below.size; omega
          have hcall := fun o => HIH.out (d + 1) m _ (pre ++ (x :: xs)) (wr.alloc o) (by omega) hnd (HPS.out m (List.mem_of_getElem? hm)) (hbw.alloc hbw.size o) (HJA.out _ _ o HJS.out) hle (by simp; omega)
          have HC := Lib.hid hcall
          have HKW : Hid (∀ o, KpN Wb.heap.size n1 wr (wr.alloc o)) := Lib.hid (fun o => KpN.alloc wr o hbw.size)
          clear kc hm hnd hbw hle hcall
          gi_wp2_with fail
          refine ⟨trivial, ?_⟩
          refine (callsIn_wide.2 (HC.out _)).mono ?_
          rintro e w5 (⟨rfl, ⟨ys, hys, hj5⟩, hk5⟩ | ⟨rfl, q, hq, hx5⟩)
          · have HYS : Hid ((xs ++ ys).map ndP = ((Td.subs nd).take (i + 1)).flatMap (Td.all k (d + 1))) := Lib.hid (by rw [List.map_append, HXS.out, hys, HFM.out])
            have HJ5 : Hid (J (pre ++ (x :: (xs ++ ys))) w5) := Lib.hid (by rw [List.append_assoc] at hj5; exact hj5)
            have HK5 := Lib.hid (kpN_t HKS.out (kpN_t (HKW.out _) hk5))
            clear hys hj5 hk5 q0 q1 q2 q3 q4 q5 q6 q7
            gi_wp2
            go_roundw
            case rel => exact ⟨i + 1, xs ++ ys, by omega, by go_num, HYS, HJ5, HK5⟩
            case measure => simp [intOf]; omega
          · have HQ : Hid ((x :: (xs ++ q)).map ndP <+: Td.all (k + 1) d nd) := Lib.hid (by
              rw [HALL.out, List.map_cons, HXP.out, List.map_append, HXS.out]
              refine List.cons_prefix_cons.2 ⟨rfl, ?_⟩
              refine List.IsPrefix.trans (List.prefix_append_right_inj _ |>.2 hq) ?_
              rw [← HFM.out]
              exact ⟨((Td.subs nd).drop (i + 1)).flatMap (Td.all k (d + 1)), by rw [← List.flatMap_append, List.take_append_drop]⟩)
            have HX5 : Hid (Jx (pre ++ (x :: (xs ++ q))) w5) := Lib.hid (by rw [List.append_assoc] at hx5; exact hx5)
            clear hq hx5 q0 q1 q2 q3 q4 q5 q6 q7
            gi_wp2
            go_ret
            exact .inr ⟨rfl, _, HQ.out, HX5.out⟩
        · obtain rfl : i = L := by omega
          have HE : Hid ((x :: xs).map ndP = Td.all (k + 1) d nd) := Lib.hid (by
            have := HXS.out
            rw [List.take_of_length_le (by rw [HL.out]; exact Nat.le_refl _)] at this
            rw [HALL.out, List.map_cons, HXP.out, this])
          gi_wp2
          go_ret
          exact .inl ⟨rfl, ⟨_, HE.out, HJS.out⟩, HKS.out⟩
  · have HX3 := Lib.hid hJx3
    have HQ : Hid ([x].map ndP <+: Td.all (k + 1) d nd) := Lib.hid (by
      rw [HALL.out, List.map_cons, HXP.out]
      exact List.cons_prefix_cons.2 ⟨rfl, List.nil_prefix⟩)
    clear hJx3
    gi_wp2
    go_ret
    exact .inr ⟨rfl, _, HQ.out, HX3.out⟩
end Go.Proofs.Ytanffablfgnioaa
namespace Go.Proofs.Ytanffablfgnioaa
open Go.RowKit Go.Shelf
attribute [local go_sem] Oper.semAt_some
set_option linter.unusedVariables false
theorem desc_any (Wb : World) (l n1 N M : Nat) (hM : M ≤ 100000) (J Jx : List (NdX Wb) → World → Prop) (B0 : Nat) (hJ : AbidesFrom B0 J)
    (Pd : Nd → Prop) (hPd : ∀ n, Pd n → ∀ m ∈ Td.subs n, Pd m)
    (hY : ∀ pre (x : NdX Wb) W, J pre W → Pd x.1.2.1 → pre.length < N → YieldAt Fence.wide 0 Try.prog l (encN x) W fun e W' => (e = .returned (.bool true) ∧ J (pre ++ [x]) W' ∧ KpN Wb.heap.size n1 W W') ∨ (e = .returned (.bool false) ∧ Jx (pre ++ [x]) W')) :
    ∀ k, 1 ≤ k → DescOk Wb l n1 N M J Jx Pd k
  | 0, h => absurd h (by omega)
  | k + 1, _ => desc_step Wb l n1 N M hM J Jx B0 hJ Pd hPd hY k (fun h => desc_any Wb l n1 N M hM J Jx B0 hJ Pd hPd hY k h)
set_option maxRecDepth 100000 in
set_option maxHeartbeats 4000000 in
theorem nodes1_in (Wb : World) (n l n1 N M Bn Bd : Nat) (h1M : 1 ≤ M) (hM : M ≤ 100000) (nd : Nd) (cs : List Value) (hnd : NdIs Wb nd cs) (J Jx : List (NdX Wb) → World → Prop) (B0 : Nat) (hJ : AbidesFrom B0 J)
    (Pd : Nd → Prop) (hPd : ∀ n, Pd n → ∀ m ∈ Td.subs n, Pd m)
    (hY : ∀ pre (x : NdX Wb) W, J pre W → Pd x.1.2.1 → pre.length < N → YieldAt Fence.wide 0 Try.prog l (encN x) W fun e W' => (e = .returned (.bool true) ∧ J (pre ++ [x]) W' ∧ KpN Wb.heap.size n1 W W') ∨ (e = .returned (.bool false) ∧ Jx (pre ++ [x]) W'))
    (W : World) (hb : Below Wb.heap.size Wb W) (hn1 : n1 ≤ W.heap.size) (hc : W.heap[Bn]? = some (.cells cs.toArray 25 (0, 0))) (hd : W.cell? ⟨Bd, 0, none⟩ = some (.int .i64 (M : Int))) (hN : (Td.all M 1 nd).length ≤ N) (h0 : J [] W) (hpn : Pd nd) :
    CallsIn Fence.wide n Try.prog 46 #[.func (.yield l) #[] #[], .pointer (some ⟨Bn, 0, none⟩), .pointer (some ⟨Bd, 0, none⟩)] W fun e W' => (∃ v, e = .returned v) ∧
      ((∃ ys : List (NdX Wb), ys.map ndP = Td.all M 1 nd ∧ J ys W') ∨ (∃ pre : List (NdX Wb), pre.map ndP <+: Td.all M 1 nd ∧ Jx pre W')) := by
  have HD : Hid (Calls Try.prog 47 #[.agg cs.toArray, .int .i64 1, .int .i64 (M : Int), .func (.yield l) #[] #[]] W (StopsAt Wb Wb.heap.size n1 M 1 nd J Jx [] W)) := Lib.hid (desc_any Wb l n1 N M hM J Jx B0 hJ Pd hPd hY M h1M 1 nd cs [] W (by omega) hnd hpn hb h0 (by simpa using hN) hn1)
  obtain ⟨u0, u1, u2, u3, u4, u5, u6, u7, sa, sc, a, c, rfl, F⟩ := hnd.form_of
  obtain ⟨rfl, rfl, rfl, rfl, rfl, rfl, rfl, rfl⟩ := F
  have b0 := blkc hc 0
  have b1 := blkc hc 1
  have b2 := blkc hc 2
  have b3 := blkc hc 3
  have b4 := blkc hc 4
  have b5 := blkc hc 5
  have b6 := blkc hc 6
  have b7 := blkc hc 7
  simp only [List.getElem?_toArray, List.getElem?_cons_zero, List.getElem?_cons_succ] at b0 b1 b2 b3 b4 b5 b6 b7
  clear hJ hY hnd hc hb hN h0 hPd hpn
  refine callsIn_of_wp Try.func46 rfl trivial ?_ rfl
  simp only [Try.ntmps46, List.size_toArray, List.length_cons, List.length_nil, Nat.reduceAdd, Nat.reduceSub, Array.replicate_succ, Array.replicate_zero, List.push_toArray, List.append_toArray, List.nil_append, List.cons_append]
  gi_wp2_with fail
  refine ⟨trivial, fun h => (by cases h), ?_⟩
  refine (callsIn_wide.2 HD.out).mono ?_
  rintro e w5 (⟨rfl, ⟨ys, hys, hj5⟩, hk5⟩ | ⟨rfl, q, hq, hx5⟩)
  · gi_wp2
    go_end0
    exact ⟨⟨_, rfl⟩, .inl ⟨ys, hys, hj5⟩⟩
  · gi_wp2
    go_end0
    exact ⟨⟨_, rfl⟩, .inr ⟨q, hq, hx5⟩⟩
set_option maxRecDepth 100000 in
set_option maxHeartbeats 2000000 in
theorem nodes_any (w : World) (nd : Nd) (cs : List Value) (M : Int) (hnd : NdIs w nd cs) : Calls Try.prog 31 #[.agg cs.toArray, .int .i64 M] w fun e w' =>
    e = .returned (.func (.func 46) #[] #[.pointer (some ⟨w.heap.size, 0, none⟩), .pointer (some ⟨w.heap.size + 1, 0, none⟩)]) ∧ (w.alloc (.cells cs.toArray 25)).alloc (.cells #[.int .i64 M] 3) = w' := by
  obtain ⟨u0, u1, u2, u3, u4, u5, u6, u7, sa, sc, a, c, rfl, F⟩ := hnd.form_of
  obtain ⟨rfl, rfl, rfl, rfl, rfl, rfl, rfl, rfl⟩ := F
  clear hnd
  go_enter Try.func31, Try.ntmps31
  go_wp2
  go_ret
  exact ⟨rfl, rfl⟩
/-- The iterator of nodes, made in the world w0. -/
theorem nodes_stops (Wb w0 : World) (n n1 M : Nat) (h1M : 1 ≤ M) (hM : M ≤ 100000) (nd : Nd) (cs : List Value) (hnd : NdIs Wb nd cs) (hb : Below Wb.heap.size Wb w0) (hn1 : n1 ≤ w0.heap.size + 2) :
    SeqStopsK Fence.wide n Try.prog 46 #[.pointer (some ⟨w0.heap.size, 0, none⟩), .pointer (some ⟨w0.heap.size + 1, 0, none⟩)] (encN (Wb := Wb)) (KpN Wb.heap.size n1) (fun ys => ys.map ndP = Td.all M 1 nd)
      (fun pre => pre.map ndP <+: Td.all M 1 nd) (Td.all M 1 nd).length ((w0.alloc (.cells cs.toArray 25)).alloc (.cells #[.int .i64 (M : Int)] 3)) := fun l J Jx W hW hJ _ hY h0 => by
  have hs := hW.size
  simp only [World.size_alloc] at hs
  have e1 : (w0.alloc (.cells cs.toArray 25)).heap.size = w0.heap.size + 1 := World.size_alloc _ _
  have hc : ((w0.alloc (.cells cs.toArray 25)).alloc (.cells #[.int .i64 (M : Int)] 3)).heap[w0.heap.size]? = some (.cells cs.toArray 25 (0, 0)) :=
    (Below.heap_alloc _ _ _ (by rw [e1]; omega)).trans (heap_alloc_new w0 _)
  have hd : ((w0.alloc (.cells cs.toArray 25)).alloc (.cells #[.int .i64 (M : Int)] 3)).cell? ⟨w0.heap.size + 1, 0, none⟩ = some (.int .i64 (M : Int)) := by
    have key : ∀ X : World, (X.alloc (.cells #[.int .i64 (M : Int)] 3)).cell? ⟨X.heap.size, 0, none⟩ = some (.int .i64 (M : Int)) := fun X => by simp
    have h9 := key (w0.alloc (.cells cs.toArray 25))
    rwa [e1] at h9
  have hbb : Below Wb.heap.size Wb W := (hb.alloc hb.size _).alloc (by have := hb.size; simp; omega) _ |>.trans (hW.mono (by have := hb.size; simp; omega))
  exact nodes1_in Wb n l n1 _ M _ _ h1M hM nd cs hnd J Jx _ hJ (fun _ => True) (fun _ _ _ _ => trivial) (fun pre x W1 hj _ hl => yield_wide 0 (hY pre x W1 hj hl)) W hbb (by omega)
    ((hW.block _ (by simp; omega)).trans hc) ((hW.cell (p := ⟨w0.heap.size + 1, 0, none⟩) (by simp)).trans hd) (Nat.le_refl _) h0 trivial
end Go.Proofs.Ytanffablfgnioaa
