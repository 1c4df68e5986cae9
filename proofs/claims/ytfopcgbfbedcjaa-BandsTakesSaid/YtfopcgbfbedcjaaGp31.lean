/- Ranges over a function inside a loop: the marks that pile up among the deferred calls, and how a function leaves with them; no function of the program. · slices.Backward at a list of ranges: the iterator that it returns. -/
import Derived.Test.YtfopcgbfbedcjaaGp4
import Derived.RangeFuncBox
import Derived.RangeFuncNested
import Derived.RangeFuncBound
import Derived.RangeFuncCalls
import Derived.RangeFuncLeaves
import Derived.OwnWalkIn
import Derived.Shelf.Abstract
import Derived.TacticsInMore
import Derived.LoopNIn
import Derived.LoopIn
namespace Go.Proofs.Ytfopcgbfbedcjaa
open Go.RowKit
set_option linter.unusedVariables false
/-- The mark of a range over a function. -/
def markOf (D : Nat) : Deferred := { target := .collected D, args := #[] }
/-- The marks that a function has laid, from block B on: each block still open. -/
structure Marks (B : Nat) (w : World) (Ds : List Nat) : Prop where
  nodup : Ds.Nodup
  at_ : ∀ D ∈ Ds, B ≤ D ∧ w.heap[D]? = some (.deferred (some []))
theorem Marks.nil (B : Nat) (w : World) : Marks B w [] := ⟨List.nodup_nil, fun D h => by cases h⟩
theorem Marks.below {B : Nat} {w w' : World} {Ds : List Nat} (h : Marks B w Ds) (hb : Below w.heap.size w w') : Marks B w' Ds :=
  ⟨h.nodup, fun D hD => ⟨(h.at_ D hD).1, (hb.block D (Array.getElem?_eq_some_iff.1 (h.at_ D hD).2).1).trans (h.at_ D hD).2⟩⟩
theorem Marks.cons {B D : Nat} {w0 w' : World} {Ds : List Nat} (h : Marks B w0 Ds) (hb : Below w0.heap.size w0 w') (hD : w0.heap.size ≤ D) (hB : B ≤ w0.heap.size) (hd : w'.heap[D]? = some (.deferred (some []))) : Marks B w' (D :: Ds) :=
  ⟨List.nodup_cons.2 ⟨fun hm => by have := (Array.getElem?_eq_some_iff.1 (h.at_ D hm).2).1; omega, h.nodup⟩, fun x hx => by
    rcases List.mem_cons.1 hx with rfl | hx
    · exact ⟨by omega, hd⟩
    · exact (h.below hb).at_ x hx⟩
theorem Marks.keep {B : Nat} {w w' : World} {Ds : List Nat} (h : Marks B w Ds) (hb : KeepsOthers w w') : Marks B w' Ds :=
  ⟨h.nodup, fun D hD => ⟨(h.at_ D hD).1, hb.same D _ (h.at_ D hD).2 rfl⟩⟩
/-- A world in which nothing but marks has turned. -/
structure Shut (B : Nat) (w w' : World) : Prop where
  below : Below B w w'
  cells : ∀ (k : Nat) (o : Obj), w.heap[k]? = some o → o.isCells = true → w'.heap[k]? = some o
theorem Shut.refl (B : Nat) (w : World) : Shut B w w := ⟨Below.refl _ _, fun _ _ h _ => h⟩
theorem Shut.put {B D : Nat} {w w' : World} (h : Shut B (w.putObj D (.deferred none)) w') (hD : B ≤ D) (hd : w.heap[D]? = some (.deferred (some []))) (hB : B ≤ w.heap.size) : Shut B w w' := by
  refine ⟨((Below.refl B w).grown (grownBy_putObj' w D _) hB (fun k e => by cases e; exact hD)).trans h.below, fun k o hk ho => ?_⟩
  refine h.cells k o ?_ ho
  refine ((grownBy_putObj' w D (.deferred none)).block k (Array.getElem?_eq_some_iff.1 hk).1 (fun e => ?_)).trans hk
  injection e with e
  subst e
  rw [hd] at hk
  cases hk
  cases ho
theorem leaves_marks {F : Fence} {n : Nat} {P : Program} {fn : Func} {tmps : Array Value} {R : Ending → World → Prop} {B : Nat} : ∀ (Ds : List Nat) (w : World), Marks B w Ds → B ≤ w.heap.size →
    (∀ w', Shut B w w' → LeavesInM F n P fn tmps R [] .returning w') → LeavesInM F n P fn tmps R (Ds.map markOf) .returning w
  | [], w, _, _, h => h w (Shut.refl _ _)
  | D :: Ds, w, hm, hB, h => by
    have h0 := hm.at_ D (List.mem_cons_self ..)
    have hn := List.nodup_cons.1 hm.nodup
    refine ⟨by simp, .inl ⟨D, _, rfl, run_takeDeferred h0.2, ?_⟩⟩
    refine leaves_marks Ds _ ⟨hn.2, fun x hx => ?_⟩ (by simpa using hB) (fun w' hs => h w' (hs.put h0.1 h0.2 hB))
    have h1 := hm.at_ x (List.mem_cons_of_mem _ hx)
    refine ⟨h1.1, ((grownBy_putObj' w D (.deferred none)).block x (Array.getElem?_eq_some_iff.1 h1.2).1 (fun e => ?_)).trans h1.2⟩
    injection e with e
    subst e
    exact hn.1 hx
theorem ownsRow_shut {w w' : World} {B base : Nat} {e : TypeId} {size n : Nat} {v : Value} {xs : List Value} (h : w.ownsRow base e size v n xs) (hs : Shut B w w') : w'.ownsRow base e size v n xs :=
  ⟨h.1, h.2.imp id (fun ⟨g, cap, cur, h1, h2, h3, h4⟩ => ⟨g, cap, cur, h1, h2, hs.cells _ _ h3 rfl, h4⟩)⟩
theorem boxed_own2 {W W' : World} {B : Nat} {t : TypeId} {v : Value} {row : Option Nat} (h : Boxed W B t v) (hg : W.grownBy W' row) (hr : ∀ r, row = some r → ∃ o : Obj, W.heap[r]? = some o ∧ o.isCells = false) : Boxed W' B t v :=
  h.kept hg (fun e => by
    obtain ⟨o, ho, hc⟩ := hr B e.symm
    rw [show W.heap[B]? = _ from h] at ho
    cases ho
    cases hc)
theorem rgOwn_own2 {W W' : World} {base : Nat} {v : Value} {l : List (Int × Int)} {row : Option Nat} (h : RgOwn W base v l) (hg : W.grownBy W' row) (hr : ∀ r, row = some r → ∃ o : Obj, W.heap[r]? = some o ∧ o.isCells = false) : RgOwn W' base v l := by
  refine World.ownsRow.kept h hg ?_
  rcases h.2 with ⟨rfl, _⟩ | ⟨g, cap, cur, rfl, _, hgb, _⟩
  · exact .inl rfl
  · refine .inr fun e => ?_
    obtain ⟨o, ho, hc⟩ := hr g e.symm
    rw [hgb] at ho; cases ho; cases hc
/-- An append whose run is known, in a fenced walk. -/
theorem wpListIn_append_run2 {F : Fence} {n : Nat} {P : Program} {ops : Array Oper} {rest : List Oper} {o : Oper} {a : Act} {w : World} {Q : Exit → Act → World → Prop} (hgd : o.guard = none) (s x : Operand) (t : TypeId)
    (ho : o.op = .call { callee := .builtin .append, args := #[s, x], argTypes := #[t, t] }) (vs vx v' : Value) (w' : World) (hs : a.eval s = vs) (hx : a.eval x = vx)
    (hr : (Builtin.append_ #[t, t] o.type #[vs, vx]).run P w = .ok v' w') (h : wpListIn F n P ops Q rest (a.put o.dst v') w') : wpListIn F n P ops Q (o :: rest) a w := by
  refine wpListIn_plain hgd fun K hK' => ?_
  unfold Oper.wpIn
  refine ⟨?_, ?_⟩
  · simp [Oper.about, ho, resolve, Target.leads, Sem.run_pure]
  · rw [Oper.semAt_plain F _ _ (by rw [ho]; intro c hc'; cases hc')]
    simp [execOp, ho, resolve, invoke, builtin, hs, hx, hr, Result.andThen]
    exact hK' _ _ h
theorem grown_drewN2 (w : World) (n : Nat) (row : Option Nat) : w.grownBy (w.drewN n) row := ⟨rfl, rfl, rfl, Nat.le_refl _, fun _ _ _ => rfl⟩
end Go.Proofs.Ytfopcgbfbedcjaa
namespace Go.Proofs.Ytfopcgbfbedcjaa
open Go.RowKit Go.Shelf
attribute [local go_sem] Oper.semAt_some
set_option linter.unusedVariables false
/-- The elements of a list from behind, each with its place. -/
def backF (q : List (Int × Int)) : Nat → List (Int × Int × Int)
  | 0 => []
  | k + 1 => ((k : Int), (q[k]?.getD (0, 0)).1, (q[k]?.getD (0, 0)).2) :: backF q k
theorem backF_snd (q : List (Int × Int)) : ∀ k, k ≤ q.length → (backF q k).map Prod.snd = (q.take k).reverse
  | 0, _ => rfl
  | k + 1, h => by
    rw [backF, List.map_cons, backF_snd q k (by omega), List.take_succ_eq_append_getElem (by omega), List.reverse_append, List.getElem?_eq_getElem (by omega)]
    rfl
theorem backF_len (q : List (Int × Int)) : ∀ k, (backF q k).length = k
  | 0 => rfl
  | k + 1 => by rw [backF, List.length_cons, backF_len q k]
def encB (x : Int × Int × Int) : Array Value := #[.int .i64 x.1, .agg #[.int .i64 x.2.1, .int .i64 x.2.2]]
theorem back_any (a : Option Addr) (m c : Nat) (w : World) : Calls Try.prog 31 #[.slice a m c] w fun e w' =>
    e = .returned (.func (.func 51) #[] #[.pointer (some ⟨w.heap.size, 0, none⟩)]) ∧ w.alloc (.cells #[.slice a m c] 22) = w' := by
  go_enter Try.func31, Try.ntmps31
  go_wp2
  go_ret
  exact ⟨rfl, rfl⟩
/-- What a round of the caller's loop keeps: the closure's box, and what lay before. -/
def KpR (B0 Bs : Nat) (v : Value) (X Y : World) : Prop := (∀ k, k < B0 → Y.heap[k]? = X.heap[k]?) ∧ (Boxed X Bs 22 v → Boxed Y Bs 22 v)
theorem kpR_t {B0 Bs : Nat} {v : Value} {X Y Z : World} (h : KpR B0 Bs v X Y) (k : KpR B0 Bs v Y Z) : KpR B0 Bs v X Z := ⟨fun j hj => (k.1 j hj).trans (h.1 j hj), fun x => k.2 (h.2 x)⟩
theorem kpR_b {B0 Bs : Nat} {v : Value} {w : World} (hB : B0 ≤ w.heap.size) (W : World) (l : Nat) (o o' : Obj) (hl : w.heap.size ≤ l) (h : W.heap[l]? = some o) (hc : o.isCells = false) (_ : o.isWalk = false) : KpR B0 Bs v W (W.putObj l o') :=
  ⟨fun k hk => World.putObj_heap_other (by omega), fun hb => boxed_own2 hb (grownBy_putObj' W l o') (fun r e => by cases e; exact ⟨o, h, hc⟩)⟩
theorem KpR.below {B0 Bs : Nat} {v : Value} {X Y : World} (h : Below X.heap.size X Y) (hB : B0 ≤ X.heap.size) : KpR B0 Bs v X Y := ⟨fun k hk => h.block k (by omega), fun hb => (h.block Bs hb.lt).trans hb⟩
set_option maxRecDepth 100000 in
set_option maxHeartbeats 2000000 in
theorem back1_in (n : Nat) (hn : 1 ≤ n) (l Bs B0 m uc : Nat) (ua : Option Addr) (q : List (Int × Int)) (hm : m ≤ 8796093022208) (J Jx : List (Int × Int × Int) → World → Prop) (hJd : ∀ p W k, J p W → J p (W.drewN k))
    (hY : ∀ pre x W, J pre W → pre.length < m → YieldAt Fence.wide (n - 1) Try.prog l (encB x) W fun e W' =>
      (e = .returned (.bool true) ∧ J (pre ++ [x]) W' ∧ KpR B0 Bs (.slice ua m uc) W W') ∨ (e = .returned (.bool false) ∧ Jx (pre ++ [x]) W'))
    (W : World) (hc : Boxed W Bs 22 (.slice ua m uc))
    (hrow : ∀ j, j < m → ∃ b off, ua = some ⟨b, off, none⟩ ∧ b < B0 ∧ W.cell? ⟨b, off + j * 2, none⟩ = some (.int .i64 (q[j]?.getD (0, 0)).1) ∧ W.cell? ⟨b, off + j * 2 + 1, none⟩ = some (.int .i64 (q[j]?.getD (0, 0)).2)) (h0 : J [] W) :
    CallsIn Fence.wide n Try.prog 51 #[.func (.yield l) #[] #[], .pointer (some ⟨Bs, 0, none⟩)] W fun e W' => (∃ v, e = .returned v) ∧
      ((∃ ys, ys = backF q m ∧ J ys W') ∨ (∃ pre, (pre <+: backF q m) ∧ Jx pre W')) := by
  have hcc := hc.cell
  have HR := Lib.hid hrow
  clear hrow
  refine callsIn_of_wp Try.func51 rfl trivial ?_ rfl
  simp only [Try.ntmps51, List.size_toArray, List.length_cons, List.length_nil, Nat.reduceAdd, Nat.reduceSub, Array.replicate_succ, Array.replicate_zero, List.push_toArray, List.append_toArray, List.nil_append, List.cons_append]
  gi_wp2
  gi_loopw [3] (fun i wr => ∃ (k : Nat) (pre : List (Int × Int × Int)), k ≤ m ∧ pre.length + k = m ∧ i = .int .i64 ((k : Int) - 1) ∧ Hid (backF q m = pre ++ backF q k) ∧ J pre wr ∧ Hid (∀ j, j < B0 → wr.heap[j]? = W.heap[j]?) ∧ Boxed wr Bs 22 (.slice ua m uc))
    (fun i _ => (intOf i + 1).toNat)
  case atStart => exact ⟨m, [], Nat.le_refl _, by simp, rfl, Lib.hid rfl, h0, Lib.hid (fun _ _ => rfl), hc⟩
  case round =>
    obtain ⟨k, pre, hk, hpk, rfl, HP, hJs, HO, hnx⟩ := hrel
    have hcx : wr.cell? ⟨Bs, 0, none⟩ = some (.slice ua m uc) := hnx.cell
    by_cases hz : k = 0
    · subst hz
      have HP2 : Hid (backF q m = pre) := Lib.hid (by rw [HP.out, backF, List.append_nil])
      gi_wp2
      go_end0
      exact ⟨⟨_, rfl⟩, .inl ⟨_, HP2.out.symm, hJs⟩⟩
    · obtain ⟨j, rfl⟩ : ∃ j, k = j + 1 := ⟨k - 1, by omega⟩
      obtain ⟨b, off, rfl, hb, hx1, hx2⟩ := HR.out j (by omega)
      have hcell : ∀ o, wr.cell? ⟨b, o, none⟩ = W.cell? ⟨b, o, none⟩ := fun o => by unfold World.cell?; rw [HO.out b hb]
      rw [← hcell] at hx1 hx2
      have HPS : Hid (backF q m = (pre ++ [((j : Int), (q[j]?.getD (0, 0)).1, (q[j]?.getD (0, 0)).2)]) ++ backF q j) := Lib.hid (by rw [HP.out, backF]; simp)
      obtain ⟨p, hp⟩ : ∃ p, q[j]?.getD (0, 0) = p := ⟨_, rfl⟩
      rw [hp] at hx1 hx2 HPS
      obtain ⟨p1, p2⟩ := p
      dsimp only at hx1 hx2 HPS
      have e1 : ((j + 1 : Nat) : Int) - 1 = (j : Int) := by omega
      rw [e1]
      have j0 : (0 : Int) ≤ (j : Int) := by omega
      have j1 : (j : Int) < (m : Int) := by omega
      obtain ⟨fn, tmps, assign, body, hy, hR⟩ := hY pre ((j : Int), p1, p2) wr hJs (by omega)
      unfold encB at hy
      dsimp only at hy
      clear hp hcell e1
      gi_wp2
      refine hR.mono ?_
      rintro e W3 (⟨rfl, hJ3, hk3⟩ | ⟨rfl, hJx3⟩)
      · gi_wp2
        go_roundw
        case rel => exact ⟨j, pre ++ [((j : Int), p1, p2)], by omega, by simp; omega, rfl, HPS, hJ3, Lib.hid (fun i hi => (hk3.1 i hi).trans (HO.out i hi)), hk3.2 hnx⟩
        case measure => simp [intOf]
      · gi_wp2
        refine bodyPost_ret (results_none rfl _ _ _) rfl ?_
        exact ⟨⟨_, rfl⟩, .inr ⟨_, ⟨backF q j, HPS.out.symm⟩, hJx3⟩⟩
theorem back_stops (n : Nat) (hn : 1 ≤ n) (Bs B0 m uc : Nat) (ua : Option Addr) (q : List (Int × Int)) (hm : m ≤ 8796093022208) (w : World) (hB0 : B0 ≤ w.heap.size) (hc : Boxed w Bs 22 (.slice ua m uc))
    (hrow : ∀ j, j < m → ∃ b off, ua = some ⟨b, off, none⟩ ∧ b < B0 ∧ w.cell? ⟨b, off + j * 2, none⟩ = some (.int .i64 (q[j]?.getD (0, 0)).1) ∧ w.cell? ⟨b, off + j * 2 + 1, none⟩ = some (.int .i64 (q[j]?.getD (0, 0)).2)) :
    SeqStopsK Fence.wide n Try.prog 51 #[.pointer (some ⟨Bs, 0, none⟩)] encB (KpR B0 Bs (.slice ua m uc)) (fun ys => ys = backF q m)
      (fun pre => pre <+: backF q m) m w := fun l J Jx W hW hJ _ hY h0 =>
  back1_in n hn l Bs B0 m uc ua q hm J Jx (fun p W k h => hJ p _ _ none h (grown_drewN2 _ _ _) (fun r e => by cases e)) hY W ((hW.block Bs hc.lt).trans hc)
    (fun j hj => by
      obtain ⟨b, off, h1, h2, h3, h4⟩ := hrow j hj
      exact ⟨b, off, h1, h2, (hW.cell (p := ⟨b, off + j * 2, none⟩) (by show b < _; omega)).trans h3, (hW.cell (p := ⟨b, off + j * 2 + 1, none⟩) (by show b < _; omega)).trans h4⟩) h0
end Go.Proofs.Ytfopcgbfbedcjaa
