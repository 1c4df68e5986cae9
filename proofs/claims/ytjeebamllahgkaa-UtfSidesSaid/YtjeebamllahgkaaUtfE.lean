/- The contracts of utf.Each and of the iterator that it returns. -/
import Derived.Test.YtjeebamllahgkaaUtfB
import Derived.RangeFuncBox
import Derived.RangeFuncNested
import Derived.RangeFuncBound
import Derived.RangeFuncCalls
import Derived.RangeFuncLeaves
import Derived.Shelf.Abstract
import Derived.OwnWalkIn
import Derived.TacticsInMore
import Derived.LoopNIn
import Derived.LoopIn
namespace Go.Proofs.Ytjeebamllahgkaa
open Go.RowKit Go.Shelf
attribute [local go_sem] Oper.semAt_some
theorem grown_drewN (w : World) (n : Nat) (row : Option Nat) : w.grownBy (w.drewN n) row := ⟨rfl, rfl, rfl, Nat.le_refl _, fun _ _ _ => rfl⟩
theorem below_drewN (w : World) (n B : Nat) : Below B w (w.drewN n) := ⟨rfl, rfl, rfl, Nat.le_refl _, fun _ _ => rfl⟩

theorem each_any (s : ByteArray) (w : World) : Calls Try.prog 28 #[.string s] w fun e w' => e = .returned (.func (.func 29) #[] #[.pointer (some ⟨w.heap.size, 0, none⟩)]) ∧ w.alloc (.cells #[.string s] 9) = w' := by
  go_enter Try.func28, Try.ntmps28
  go_wp2
  go_ret
  exact ⟨rfl, rfl⟩

/-- What a round of the caller's loop keeps: the box in which the closure holds its string. -/
def KpB (B : Nat) (s : ByteArray) (X Y : World) : Prop := Boxed X B 9 (.string s) → Boxed Y B 9 (.string s)
theorem kpB_t {B : Nat} {s : ByteArray} {X Y Z : World} (h : KpB B s X Y) (k : KpB B s Y Z) : KpB B s X Z := fun x => k (h x)
theorem kpB_b {B : Nat} {s : ByteArray} {w : World} (W : World) (l : Nat) (o o' : Obj) (_ : w.heap.size ≤ l) (h : W.heap[l]? = some o) (hc : o.isCells = false) (_ : o.isWalk = false) : KpB B s W (W.putObj l o') := fun hb =>
  hb.kept (grownBy_putObj' W l o') (fun e => by
    cases e
    rw [show W.heap[B]? = _ from hb] at h
    cases h
    cases hc)
theorem KpB.refl (B : Nat) (s : ByteArray) (X : World) : KpB B s X X := id
theorem KpB.drewN {B : Nat} {s : ByteArray} (X : World) (n : Nat) : KpB B s X (X.drewN n) := fun h => h.kept (grown_drewN X n none) (by simp)
theorem KpB.set {B : Nat} {s : ByteArray} (X : World) (b : Nat) (v : Value) (h : B ≠ b) : KpB B s X (X.setCell ⟨b, 0, none⟩ v) := fun k => k.kept (grownBy_setCell' X b v) (by intro e; cases e; exact h rfl)
def encP (x : Int × Int) : Array Value := #[.int .i64 x.1, .int .i64 x.2]

set_option maxRecDepth 100000 in
set_option maxHeartbeats 2000000 in
/-- The iterator's closure, for every loop body that keeps what lay below n₀. -/
theorem each1_in (n : Nat) (hn : 1 ≤ n) (l Bs : Nat) (s : ByteArray) (hs : s.size ≤ maxLen) (J Jx : List (Int × Int) → World → Prop) (hJd : ∀ p W k, J p W → J p (W.drewN k))
    (hY : ∀ pre x W, J pre W → pre.length < s.size → YieldAt Fence.wide (n - 1) Try.prog l #[.int .i64 x.1, .int .i64 x.2] W fun e W' =>
      (e = .returned (.bool true) ∧ J (pre ++ [x]) W' ∧ KpB Bs s W W') ∨ (e = .returned (.bool false) ∧ Jx (pre ++ [x]) W'))
    (W : World) (hc : Boxed W Bs 9 (.string s)) (h0 : J [] W) :
    CallsIn Fence.wide n Try.prog 29 #[.func (.yield l) #[] #[], .pointer (some ⟨Bs, 0, none⟩)] W fun e W' => (∃ v, e = .returned v) ∧
      ((∃ ys, ys = Utf.pieces (Utf.nums s) ∧ J ys W') ∨ (∃ pre, (pre <+: Utf.pieces (Utf.nums s)) ∧ Jx pre W')) := by
  have hs' := hs
  have hcc := hc.cell
  unfold maxLen at hs'
  refine callsIn_of_wp Try.func29 rfl trivial ?_ rfl
  simp only [Try.ntmps29, List.size_toArray, List.length_cons, List.length_nil, Nat.reduceAdd, Nat.reduceSub, Array.replicate_succ, Array.replicate_zero, List.push_toArray, List.append_toArray, List.nil_append, List.cons_append]
  gi_wp2
  gi_loopw [3] (fun i wr => ∃ (k : Nat) (pre : List (Int × Int)), k ≤ s.size ∧ pre.length ≤ k ∧ i = .int .i64 k ∧ Utf.pieces (Utf.nums s) = pre ++ Utf.rest (Utf.nums s) k ∧ J pre wr ∧ Boxed wr Bs 9 (.string s))
    (fun i _ => s.size - (intOf i).toNat)
  case atStart => exact ⟨0, [], Nat.zero_le _, Nat.le_refl _, rfl, rfl, h0, hc⟩
  case round =>
    obtain ⟨k, pre, hk, hpk, rfl, hp, hJs, hnx⟩ := hrel
    have hcx : wr.cell? ⟨Bs, 0, none⟩ = some (.string s) := hnx.cell
    by_cases hlt : k < s.size
    · have hb := Utf.nums_bytes s
      have hdr := Utf.nums_drop s k hk
      have hst := Utf.step_bd ((Utf.nums s).drop k) (Utf.bytes_drop hb k) (by intro e; have := congrArg List.length e; rw [List.length_drop, Utf.nums_length] at this; simp at this; omega)
      rw [List.length_drop, Utf.nums_length] at hst
      have hrs := Utf.rest_step (Utf.nums s) hb k (by rw [Utf.nums_length]; exact hlt)
      have HD := Lib.hid hdr
      have HP := Lib.hid hp
      have HR := Lib.hid hrs
      have HS := Lib.hid hst
      clear hdr hp hrs hst
      gi_wp2_with fail
      refine ⟨trivial, ?_⟩
      refine (callsIn_wide.2 (decode_any _ ?hsz _)).mono ?_
      case hsz => simp; omega
      rintro e w' ⟨rfl, nq, rfl⟩
      rw [HD.out]
      obtain ⟨fn, tmps, assign, body, hy, hR⟩ := hY pre ((k : Int), (Utf.dec ((Utf.nums s).drop k)).1) _ (hJd _ _ nq hJs) (by omega)
      dsimp only at hy
      gi_wp2
      refine hR.mono ?_
      rintro e W3 (⟨rfl, hJ3, hk3⟩ | ⟨rfl, hJx3⟩)
      · rw [← HS.out.2.2]
        have hz := HS.out.1
        have hz2 := HS.out.2.1
        gi_wp2
        go_roundw
        case rel => exact ⟨k + Utf.step ((Utf.nums s).drop k), pre ++ [((k : Int), (Utf.dec ((Utf.nums s).drop k)).1)], by omega, by simp; omega, by go_num, by rw [HP.out, HR.out]; simp, hJ3, hk3 (KpB.drewN _ _ hnx)⟩
        case measure => simp [intOf]; omega
      · gi_wp2
        refine bodyPost_ret (results_none rfl _ _ _) rfl ?_
        exact ⟨⟨_, rfl⟩, .inr ⟨_, ⟨Utf.rest (Utf.nums s) (k + Utf.step ((Utf.nums s).drop k)), by rw [HP.out, HR.out]; simp⟩, hJx3⟩⟩
    · obtain rfl : k = s.size := by omega
      have HP := Lib.hid hp
      clear hp
      gi_wp2
      go_end0
      exact ⟨⟨_, rfl⟩, .inl ⟨_, by rw [HP.out, Utf.rest_done _ _ (by rw [Utf.nums_length]; exact Nat.le_refl _), List.append_nil], hJs⟩⟩

/-- utf.Each's closure, as the law of a range over a function wants it. -/
theorem each_stops (n : Nat) (hn : 1 ≤ n) (Bs : Nat) (s : ByteArray) (hs : s.size ≤ maxLen) (w : World) (hc : Boxed w Bs 9 (.string s)) :
    SeqStopsK Fence.wide n Try.prog 29 #[.pointer (some ⟨Bs, 0, none⟩)] (fun x : Int × Int => #[Value.int .i64 x.1, Value.int .i64 x.2]) (KpB Bs s) (fun ys => ys = Utf.pieces (Utf.nums s))
      (fun pre => pre <+: Utf.pieces (Utf.nums s)) s.size w := fun l J Jx W hW hJ _ hY h0 =>
  each1_in n hn l Bs s hs J Jx (fun p W k h => hJ p _ _ none h (grown_drewN _ _ _) (fun r e => by cases e)) hY W ((hW.block Bs hc.lt).trans hc) h0
end Go.Proofs.Ytjeebamllahgkaa
