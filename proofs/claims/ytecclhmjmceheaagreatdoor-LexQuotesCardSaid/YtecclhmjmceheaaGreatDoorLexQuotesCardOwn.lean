/- Mathematics of lex: a quotation. · The contracts of utf.Each and of the iterator that it returns. · The contracts of utf.Count and utf.Valid. · A region that draws its order, in a round of a range over a function: as outside of it, where nothing is deferred. · A range over a function whose rounds are told what the iterator knows of the value that it hands over, and whose word is asked from the round's beginning on (the loop variables' boxes are the round's own). · burinlaw08.LexQuotes, walked. -/
import Derived.Test.YtecclhmjmceheaaGreatDoorGp38
import Derived.Test.YtecclhmjmceheaaGreatDoorGp21
import Derived.RangeFuncBox
import Derived.RangeFuncNested
import Derived.RangeFuncBound
import Derived.RangeFuncCalls
import Derived.RangeFuncLeaves
import Derived.Shelf.Abstract
import Derived.OwnWalkIn
import Derived.TacticsInMore
import Derived.LoopNIn
import Derived.LoopIn
import Derived.Test.YtecclhmjmceheaaGreatDoorGp39
import Derived.Sort.QuietTacIn
import Derived.Test.YtecclhmjmceheaaGreatDoorGp42
import Derived.Test.YtecclhmjmceheaaGreatDoorGp43
namespace Go.Proofs.YtecclhmjmceheaaGreatDoor.Lx
set_option linter.unusedVariables false
/-- Within a quotation a text of runes that has no backslash is its runes. -/
theorem lexR_quoted (s : ByteArray) (P X : List Int) (hs : Utf.nums s = 92 :: 81 :: (P ++ X)) (hX : X = [] ∨ X = [92, 69]) (h92 : ∀ x ∈ P, x ≠ 92) (hb : Utf.Bytes P) : ∀ (d k : Nat) (T : List (Int × Tk)), k + d = P.length → (∀ p ∈ Utf.rest P k, 0 ≤ p.2) → lexR s (k + 2) true T = .ok (T ++ (Utf.rest P k).map fun p => (p.1 + 2, runeT p.2)) := by
  have hz : s.size = P.length + X.length + 2 := by
    have := Utf.nums_length s
    rw [hs] at this
    simp at this
    omega
  have hdr : ∀ k, k ≤ P.length → (Utf.nums s).drop (k + 2) = P.drop k ++ X := fun k hk => by
    rw [hs]
    simp only [List.drop_succ_cons]
    rw [List.drop_append_of_le_length hk]
  intro d
  induction d using Nat.strongRecOn with
  | ind d ih =>
    intro k T hk hv
    rcases Nat.lt_or_ge k P.length with h | h
    · have hne : P.drop k ≠ [] := by intro e; have := congrArg List.length e; simp at this; omega
      have hbk := Utf.bytes_drop hb k
      have hr := Utf.rest_step P hb k h
      rw [hr] at hv
      have h0 : 0 ≤ (Utf.dec (P.drop k)).1 := hv ((k : Int), (Utf.dec (P.drop k)).1) (List.mem_cons_self ..)
      have hl := Utf.dec_len (P.drop k) hbk
      have h1 := hl.2.2.1 hne
      rw [List.length_drop] at hl
      have hloc : Utf.dec (P.drop k ++ X) = Utf.dec (P.drop k) := Br.dec_local (n := (P.drop k).length) hbk ⟨Nat.le_refl _, by simp, fun j hj => List.getElem?_append_left hj⟩ h0 (by rw [List.length_drop]; omega)
      have hc : oneX true (s.extract (k + 2) s.size) = .ok (runeT (Utf.dec (P.drop k)).1) (Utf.dec (P.drop k)).2.toNat := by
        show charX _ = _
        rw [Br.nums_tail, hdr k (by omega)]
        unfold charX
        rw [hloc, if_neg (by omega)]
      have ht : turnB true ((Utf.nums s).drop (k + 2)) = false := by
        unfold turnB
        rw [hdr k (by omega), decide_eq_false]
        · rfl
        · rw [List.getElem?_append_left (by rw [List.length_drop]; omega), List.getElem?_drop, Nat.add_zero, List.getElem?_eq_getElem h]
          exact h92 _ (List.getElem_mem h)
      rw [lexR_tok (by omega) ht hc]
      unfold Utf.step at hr
      obtain ⟨n, hn⟩ : ∃ n, (Utf.dec (P.drop k)).2.toNat = n := ⟨_, rfl⟩
      have hvr := fun p (hp : p ∈ Utf.rest P (k + n)) => hv p (by unfold Utf.step; rw [hn]; simp [hp])
      rw [hn] at hr ⊢
      have := ih (d - n) (by omega) (k + n) (T ++ [(((k + 2 : Nat) : Int), runeT (Utf.dec (P.drop k)).1)]) (by omega) hvr
      rw [show k + 2 + n = k + n + 2 by omega, this, hr]
      simp
    · obtain rfl : k = P.length := by omega
      rw [Utf.rest_done P P.length (Nat.le_refl _)]
      rcases hX with rfl | rfl
      · rw [lexR_end (by simp at hz; omega)]; simp
      · have ht : turnB true ((Utf.nums s).drop (P.length + 2)) = true := by rw [hdr _ (Nat.le_refl _), List.drop_length]; rfl
        rw [lexR_turn (by simp at hz; omega) ht, lexR_end (by simp at hz; omega)]; simp
/-- A pattern that is a quotation, whole. -/
theorem lex_quote (s : ByteArray) (P X : List Int) (hs : Utf.nums s = 92 :: 81 :: (P ++ X)) (hX : X = [] ∨ X = [92, 69]) (h92 : ∀ x ∈ P, x ≠ 92) (hb : Utf.Bytes P) (hv : ∀ p ∈ Utf.pieces P, 0 ≤ p.2) : lexR s 0 false [] = .ok ((Utf.pieces P).map fun p => (p.1 + 2, runeT p.2)) := by
  have hz : s.size = P.length + X.length + 2 := by
    have := Utf.nums_length s
    rw [hs] at this
    simp at this
    omega
  rw [lexR_turn (by omega) (by rw [hs]; rfl)]
  have := lexR_quoted s P X hs hX h92 hb P.length 0 [] (by omega) hv
  exact this
end Go.Proofs.YtecclhmjmceheaaGreatDoor.Lx
namespace Go.Proofs.YtecclhmjmceheaaGreatDoor
open Go.RowKit Go.Shelf
attribute [local go_sem] Oper.semAt_some
theorem grown_drewNu (w : World) (n : Nat) (row : Option Nat) : w.grownBy (w.drewN n) row := ⟨rfl, rfl, rfl, Nat.le_refl _, fun _ _ _ => rfl⟩

theorem each_any (s : ByteArray) (w : World) : Calls Tryz.prog 16 #[.string s] w fun e w' => e = .returned (.func (.func 34) #[] #[.pointer (some ⟨w.heap.size, 0, none⟩)]) ∧ w.alloc (.cells #[.string s] 9) = w' := by
  go_enter Tryz.func16, Tryz.ntmps16
  go_wp2
  go_ret
  exact ⟨rfl, rfl⟩

/-- What a round of the caller's loop keeps: the box in which the closure holds its string. -/
def KpB (B : Nat) (s : ByteArray) (X Y : World) : Prop := Boxed X B 9 (.string s) → Boxed Y B 9 (.string s)
theorem kpB_t {B : Nat} {s : ByteArray} {X Y Z : World} (h : KpB B s X Y) (k : KpB B s Y Z) : KpB B s X Z := fun x => k (h x)
theorem kpB_b {B : Nat} {s : ByteArray} {w : World} (W : World) (l : Nat) (o o' : Obj) (_ : w.heap.size ≤ l) (h : W.heap[l]? = some o) (hc : o.isCells = false) (_ : o.isWalk = false) : KpB B s W (W.putObj l o') := fun hb =>
  hb.kept (grownBy_putObj' W l o') (fun e => by
    cases e
    rw [show W.heap[B]? = _ from hb] at h
    cases h
    cases hc)
theorem KpB.refl (B : Nat) (s : ByteArray) (X : World) : KpB B s X X := id
theorem KpB.drewN {B : Nat} {s : ByteArray} (X : World) (n : Nat) : KpB B s X (X.drewN n) := fun h => h.kept (grown_drewNu X n none) (by simp)
theorem KpB.set {B : Nat} {s : ByteArray} (X : World) (b : Nat) (v : Value) (h : B ≠ b) : KpB B s X (X.setCell ⟨b, 0, none⟩ v) := fun k => k.kept (grownBy_setCell' X b v) (by intro e; cases e; exact h rfl)
def encP (x : Int × Int) : Array Value := #[.int .i64 x.1, .int .i64 x.2]

set_option maxRecDepth 100000 in
set_option maxHeartbeats 2000000 in
/-- The iterator's closure, for every loop body that keeps what lay below n₀. -/
theorem each1_in (n : Nat) (hn : 1 ≤ n) (l Bs : Nat) (s : ByteArray) (hs : s.size ≤ maxLen) (J Jx : List (Int × Int) → World → Prop) (hJd : ∀ p W k, J p W → J p (W.drewN k))
    (hY : ∀ pre x W, J pre W → pre.length < s.size → YieldAt Fence.wide (n - 1) Tryz.prog l #[.int .i64 x.1, .int .i64 x.2] W fun e W' =>
      (e = .returned (.bool true) ∧ J (pre ++ [x]) W' ∧ KpB Bs s W W') ∨ (e = .returned (.bool false) ∧ Jx (pre ++ [x]) W'))
    (W : World) (hc : Boxed W Bs 9 (.string s)) (h0 : J [] W) :
    CallsIn Fence.wide n Tryz.prog 34 #[.func (.yield l) #[] #[], .pointer (some ⟨Bs, 0, none⟩)] W fun e W' => (∃ v, e = .returned v) ∧
      ((∃ ys, ys = Utf.pieces (Utf.nums s) ∧ J ys W') ∨ (∃ pre, (pre <+: Utf.pieces (Utf.nums s)) ∧ Jx pre W')) := by
  have hs' := hs
  have hcc := hc.cell
  unfold maxLen at hs'
  refine callsIn_of_wp Tryz.func34 rfl trivial ?_ rfl
  simp only [Tryz.ntmps34, List.size_toArray, List.length_cons, List.length_nil, Nat.reduceAdd, Nat.reduceSub, Array.replicate_succ, Array.replicate_zero, List.push_toArray, List.append_toArray, List.nil_append, List.cons_append]
  gi_wp2
  gi_loopw [3] (fun i wr => ∃ (k : Nat) (pre : List (Int × Int)), k ≤ s.size ∧ pre.length ≤ k ∧ i = .int .i64 k ∧ Utf.pieces (Utf.nums s) = pre ++ Utf.rest (Utf.nums s) k ∧ J pre wr ∧ Boxed wr Bs 9 (.string s))
    (fun i _ => s.size - (intOf i).toNat)
  case atStart => exact ⟨0, [], Nat.zero_le _, Nat.le_refl _, rfl, rfl, h0, hc⟩
  case round =>
    obtain ⟨k, pre, hk, hpk, rfl, hp, hJs, hnx⟩ := hrel
    have hcx : wr.cell? ⟨Bs, 0, none⟩ = some (.string s) := hnx.cell
    by_cases hlt : k < s.size
    · have hb := Utf.nums_bytes s
      have hdr := Utf.nums_drop s k hk
      have hst := Utf.step_bd ((Utf.nums s).drop k) (Utf.bytes_drop hb k) (by intro e; have := congrArg List.length e; rw [List.length_drop, Utf.nums_length] at this; simp at this; omega)
      rw [List.length_drop, Utf.nums_length] at hst
      have hrs := Utf.rest_step (Utf.nums s) hb k (by rw [Utf.nums_length]; exact hlt)
      have HD := Lib.hid hdr
      have HP := Lib.hid hp
      have HR := Lib.hid hrs
      have HS := Lib.hid hst
      clear hdr hp hrs hst
      gi_wp2_with fail
      refine ⟨trivial, ?_⟩
      refine (callsIn_wide.2 (decode_any _ ?hsz _)).mono ?_
      case hsz => simp; omega
      rintro e w' ⟨rfl, nq, rfl⟩
      rw [HD.out]
      obtain ⟨fn, tmps, assign, body, hy, hR⟩ := hY pre ((k : Int), (Utf.dec ((Utf.nums s).drop k)).1) _ (hJd _ _ nq hJs) (by omega)
      dsimp only at hy
      gi_wp2
      refine hR.mono ?_
      rintro e W3 (⟨rfl, hJ3, hk3⟩ | ⟨rfl, hJx3⟩)
      · rw [← HS.out.2.2]
        have hz := HS.out.1
        have hz2 := HS.out.2.1
        gi_wp2
        go_roundw
        case rel => exact ⟨k + Utf.step ((Utf.nums s).drop k), pre ++ [((k : Int), (Utf.dec ((Utf.nums s).drop k)).1)], by omega, by simp; omega, by go_num, by rw [HP.out, HR.out]; simp, hJ3, hk3 (KpB.drewN _ _ hnx)⟩
        case measure => simp [intOf]; omega
      · gi_wp2
        refine bodyPost_ret (results_none rfl _ _ _) rfl ?_
        exact ⟨⟨_, rfl⟩, .inr ⟨_, ⟨Utf.rest (Utf.nums s) (k + Utf.step ((Utf.nums s).drop k)), by rw [HP.out, HR.out]; simp⟩, hJx3⟩⟩
    · obtain rfl : k = s.size := by omega
      have HP := Lib.hid hp
      clear hp
      gi_wp2
      go_end0
      exact ⟨⟨_, rfl⟩, .inl ⟨_, by rw [HP.out, Utf.rest_done _ _ (by rw [Utf.nums_length]; exact Nat.le_refl _), List.append_nil], hJs⟩⟩

/-- utf.Each's closure, as the law of a range over a function wants it. -/
theorem each_stops (n : Nat) (hn : 1 ≤ n) (Bs : Nat) (s : ByteArray) (hs : s.size ≤ maxLen) (w : World) (hc : Boxed w Bs 9 (.string s)) :
    SeqStopsK Fence.wide n Tryz.prog 34 #[.pointer (some ⟨Bs, 0, none⟩)] (fun x : Int × Int => #[Value.int .i64 x.1, Value.int .i64 x.2]) (KpB Bs s) (fun ys => ys = Utf.pieces (Utf.nums s))
      (fun pre => pre <+: Utf.pieces (Utf.nums s)) s.size w := fun l J Jx W hW hJ _ hY h0 =>
  each1_in n hn l Bs s hs J Jx (fun p W k h => hJ p _ _ none h (grown_drewNu _ _ _) (fun r e => by cases e)) hY W ((hW.block Bs hc.lt).trans hc) h0
end Go.Proofs.YtecclhmjmceheaaGreatDoor
namespace Go.Proofs.YtecclhmjmceheaaGreatDoor
open Go.RowKit Go.Shelf
attribute [local go_sem] Oper.semAt_some

set_option maxRecDepth 100000 in
set_option maxHeartbeats 2000000 in
theorem count_in (n : Nat) (hn : 3 ≤ n) (s : ByteArray) (hs : s.size ≤ maxLen) (w : World) :
    CallsIn Fence.wide n Tryz.prog 15 #[.string s] w fun e W' => e = .returned (.int .i64 (Utf.pieces (Utf.nums s)).length) ∧ Below w.heap.size w W' := by
  have h1 : 1 ≤ n := by omega
  have hs' := hs
  unfold maxLen at hs'
  refine callsIn_of_wp_marks Tryz.func15 rfl trivial ?_ rfl
  simp only [Tryz.ntmps15, List.size_toArray, List.length_cons, List.length_nil, Nat.reduceAdd, Nat.reduceSub, Array.replicate_succ, Array.replicate_zero, List.push_toArray, List.append_toArray, List.nil_append, List.cons_append]
  gi_wp2_with fail
  refine ⟨trivial, ?_⟩
  refine (callsIn_wide.2 (each_any s _)).mono ?_
  rintro e w' ⟨rfl, rfl⟩
  gi_wp2
  have bN := Boxed.new w 3 (.int .i64 0)
  have bS := Boxed.new (w.alloc (.cells #[.int .i64 0] 3)) 9 (.string s)
  rw [World.size_alloc] at bS
  have hB0 : Below w.heap.size w ((w.alloc (.cells #[.int .i64 0] 3)).alloc (.cells #[.string s] 9)) := ((Below.refl _ w).alloc (Nat.le_refl _) _).alloc (by simp) _
  refine wpIn_rangeFunc_ownG rfl h1 (gf := 34) (lb := #[.pointer (some ⟨w.heap.size + 1, 0, none⟩)]) rfl trivial (enters_of Tryz.func34 (by kernel_rfl) rfl)
    (each_stops (n - 1) (by omega) (w.heap.size + 1) s hs _ bS) kpB_t kpB_b (Below.refl _ _) (fun _ => rfl)
    (fun pre W => (W.cell? ⟨w.heap.size, 0, none⟩ = some (.int .i64 (pre.length : Int)) ∧ W.frozen? ⟨w.heap.size, 0, none⟩ = false) ∧ Below w.heap.size w W)
    (fun _ _ _ => False)
    (OwnFrom.and (Own.from (fun s A B row hs hg hr => ⟨cell_kept hs.1 hg hr, (frozen_kept hs.1 hg hr).trans hs.2⟩) _) (ownFrom_below (Nat.le_refl _) (by simp; omega)))
    (fun _ _ _ _ _ hs _ _ => hs)
    ⟨⟨(bN.alloc _).cell, (bN.alloc _).frozen⟩, hB0⟩
    (fun x => { tmps := #[.string s, undef, .int .i64 0, .pointer (some ⟨w.heap.size, 0, none⟩), .string s, .func (.func 34) #[] #[.pointer (some ⟨w.heap.size + 1, 0, none⟩)], .int .i64 x.1, .int .i64 x.2, undef, undef, undef], defers := [] }) ?assign ?body ?done ?stop
  case assign =>
    intro l x W K hK
    gi_wp2
    simpa using hK
  case body =>
    rintro l pre x W ⟨⟨hc, hf⟩, hB⟩ hlen
    gi_wp2
    exact ⟨(KeepsOthers.setCell _ _ _).from _, KpB.set _ _ _ (by omega), ⟨by rw [List.length_append]; exact World.cell?_setCell_same' _ _ _ (by rw [hc]; rfl), by rw [World.frozen?_setCell]; exact hf⟩, hB.setCell (p := ⟨w.heap.size, 0, none⟩) (Nat.le_refl _) _⟩
  case done =>
    rintro D ys W hD rfl ⟨⟨hc, _⟩, hB⟩ hK
    gi_wp2
    refine ⟨by simp, .inl ⟨_, _, rfl, run_takeDeferred hK, ?_⟩⟩
    exact ⟨_, results_tmp rfl _ _ _, rfl, hB.trans (belowK_b (w := w) (Nat.le_refl _) W D _ _ (by simp at hD; omega) hK rfl rfl)⟩
  case stop =>
    rintro D c pre W _ _ h _
    exact h.elim

def okB (l : List (Int × Int)) : Bool := l.all fun p => decide (0 ≤ p.2)
set_option maxRecDepth 100000 in
set_option maxHeartbeats 2000000 in
theorem valid_in (n : Nat) (hn : 3 ≤ n) (s : ByteArray) (hs : s.size ≤ maxLen) (w : World) :
    CallsIn Fence.wide n Tryz.prog 12 #[.string s] w fun e W' => e = .returned (.bool (okB (Utf.pieces (Utf.nums s)))) ∧ Below w.heap.size w W' := by
  have h1 : 1 ≤ n := by omega
  refine callsIn_of_wp_marks Tryz.func12 rfl trivial ?_ rfl
  simp only [Tryz.ntmps12, List.size_toArray, List.length_cons, List.length_nil, Nat.reduceAdd, Nat.reduceSub, Array.replicate_succ, Array.replicate_zero, List.push_toArray, List.append_toArray, List.nil_append, List.cons_append]
  gi_wp2_with fail
  refine ⟨trivial, ?_⟩
  refine (callsIn_wide.2 (each_any s _)).mono ?_
  rintro e w' ⟨rfl, rfl⟩
  gi_wp2
  have bR := Boxed.new w 4 (.bool false)
  have bS := Boxed.new (w.alloc (.cells #[.bool false] 4)) 9 (.string s)
  rw [World.size_alloc] at bS
  have hB0 : Below w.heap.size w ((w.alloc (.cells #[.bool false] 4)).alloc (.cells #[.string s] 9)) := ((Below.refl _ w).alloc (Nat.le_refl _) _).alloc (by simp) _
  refine wpIn_rangeFunc_ownG rfl h1 (gf := 34) (lb := #[.pointer (some ⟨w.heap.size + 1, 0, none⟩)]) rfl trivial (enters_of Tryz.func34 (by kernel_rfl) rfl)
    (each_stops (n - 1) (by omega) (w.heap.size + 1) s hs _ bS) kpB_t kpB_b (Below.refl _ _) (fun _ => rfl)
    (fun pre W => (okB pre = true ∧ W.cell? ⟨w.heap.size, 0, none⟩ = some (.bool false) ∧ W.frozen? ⟨w.heap.size, 0, none⟩ = false) ∧ Below w.heap.size w W)
    (fun c pre W => (c = .ret ∧ okB pre = false ∧ W.cell? ⟨w.heap.size, 0, none⟩ = some (.bool false)) ∧ Below w.heap.size w W)
    (OwnFrom.and (Own.from (fun s A B row hs hg hr => ⟨hs.1, cell_kept hs.2.1 hg hr, (frozen_kept hs.2.1 hg hr).trans hs.2.2⟩) _) (ownFrom_below (Nat.le_refl _) (by simp; omega)))
    (fun c => OwnFrom.and (Own.from (fun s A B row hs hg hr => ⟨hs.1, hs.2.1, cell_kept hs.2.2 hg hr⟩) _) (ownFrom_below (Nat.le_refl _) (by simp; omega)))
    ⟨⟨rfl, (bR.alloc _).cell, (bR.alloc _).frozen⟩, hB0⟩
    (fun x => { tmps := #[.string s, undef, .pointer (some ⟨w.heap.size, 0, none⟩), undef, .int .i64 x.2, .string s, .func (.func 34) #[] #[.pointer (some ⟨w.heap.size + 1, 0, none⟩)], .int .i64 x.1, .int .i64 x.2, undef, undef], defers := [] }) ?assign ?body ?done ?stop
  case assign =>
    intro l x W K hK
    gi_wp2
    simpa using hK
  case body =>
    rintro l pre x W ⟨⟨hp, hcr, hfr⟩, hB⟩ _
    gi_wp2
    · have hx : x.2 < 0 := by assumption
      exact ⟨(KeepsOthers.setCell _ _ _).from _, ⟨rfl, by simp [okB]; omega, World.cell?_setCell_same' _ _ _ (by rw [hcr]; rfl)⟩, hB.setCell (p := ⟨w.heap.size, 0, none⟩) (Nat.le_refl _) _⟩
    · have hx : 0 ≤ x.2 := by assumption
      exact ⟨KeepsFrom.refl _ _, KpB.refl _ _ _, ⟨by unfold okB at hp ⊢; rw [List.all_append, hp]; simp [hx], hcr, hfr⟩, hB⟩
  case done =>
    rintro D ys W hD rfl ⟨⟨hne, hcr, hfr⟩, hB⟩ hK
    gi_wp2
    have hK' := (KeepsOthers.setCell W ⟨w.heap.size, 0, none⟩ (.bool true)).same D _ hK rfl
    refine ⟨by simp, .inl ⟨_, _, rfl, run_takeDeferred hK', ?_⟩⟩
    have hc5 := cell_kept (World.cell?_setCell_same' W ⟨w.heap.size, 0, none⟩ (.bool true) (by rw [hcr]; rfl)) (grownBy_putObj' _ D (.deferred none)) (fun r e => by cases e; exact ⟨_, hK', rfl⟩)
    refine ⟨.bool true, ?_, by rw [hne], (hB.setCell (p := ⟨w.heap.size, 0, none⟩) (Nat.le_refl _) _).trans (belowK_b (w := w) (Nat.le_refl _) _ D _ _ (by simp at hD; omega) hK' rfl rfl)⟩
    simp [results, Tryz.f12, go_sem, hc5]
  case stop =>
    rintro D c pre W hD hpre ⟨⟨rfl, hne, hcr⟩, hB⟩ hK
    gi_wp2
    refine ⟨by simp, .inl ⟨_, _, rfl, run_takeDeferred hK, ?_⟩⟩
    have hc5 := cell_kept hcr (grownBy_putObj' _ D (.deferred none)) (fun r e => by cases e; exact ⟨_, hK, rfl⟩)
    refine ⟨.bool false, ?_, ?_, hB.trans (belowK_b (w := w) (Nat.le_refl _) W D _ _ (by simp at hD; omega) hK rfl rfl)⟩
    · simp [results, Tryz.f12, go_sem, hc5]
    · obtain ⟨t, ht⟩ := hpre
      rw [← ht]
      unfold okB at hne ⊢
      rw [List.all_append, hne]
      rfl

theorem utfCount_any (s : ByteArray) (hs : s.size ≤ maxLen) (w : World) :
    Calls Tryz.prog 15 #[.string s] w fun e W' => e = .returned (.int .i64 (Utf.pieces (Utf.nums s)).length) ∧ Below w.heap.size w W' :=
  callsIn_wide.1 (count_in 3 (by omega) s hs w)
theorem valid_any (s : ByteArray) (hs : s.size ≤ maxLen) (w : World) :
    Calls Tryz.prog 12 #[.string s] w fun e W' => e = .returned (.bool (okB (Utf.pieces (Utf.nums s)))) ∧ Below w.heap.size w W' :=
  callsIn_wide.1 (valid_in 3 (by omega) s hs w)
end Go.Proofs.YtecclhmjmceheaaGreatDoor
namespace Go.Proofs.YtecclhmjmceheaaGreatDoor
open Go Go.RowKit
set_option linter.unusedVariables false
section
variable {F : Fence} {n : Nat} {P : Program} {ops : Array Oper} {Q : Exit → Act → World → Prop} {md : Region.Mode}
theorem wpIn_round_of {r : Nat} (hro : F.round = none) {o : Oper} (hd : ∀ c, o.op ≠ .defer c) {a : Act} {w : World} {K K' : Act → World → Prop} (hK : ∀ a w, K a w → K' a w) (h : o.wpIn F n P a w K Q) : o.wpIn (F.inRound r) n P a w K' Q := by
  refine Oper.wpIn_mono hK ?_
  unfold Oper.wpIn at h ⊢
  refine ⟨h.1, ?_⟩
  have h2 := h.2
  rw [Oper.semAt_eq _ _ _ hd] at h2 ⊢
  generalize (execOp a.eval o).run P w = x at h2 ⊢
  cases x with
  | ok y w' => cases y <;> exact h2
  | halt y w' => cases y <;> exact h2
theorem wpAnyIn_round {r : Nat} (hro : F.round = none) (hd : ∀ (i : Nat) (o : Oper) c, ops[i]? = some o → o.op ≠ .defer c) : ∀ (fuel : Nat) (listed : Array Bool) (a : Act) (w : World), wpAnyIn F n P md ops Q fuel listed a w → wpAnyIn (F.inRound r) n P md ops Q fuel listed a w
  | 0, listed, a, w, h => h
  | fuel + 1, listed, a, w, h => ⟨h.1, fun i hi => by
    have h2 := h.2 i hi
    unfold wpOpIn at h2 ⊢
    cases ho : ops[i]? with
    | none => rw [ho] at h2; exact wpAnyIn_round hro hd fuel _ a w h2
    | some o =>
      rw [ho] at h2
      dsimp only at h2 ⊢
      by_cases hw : Region.wanted o (yielded ops a.tmps) = true
      · rw [if_pos hw] at h2 ⊢
        exact wpIn_round_of hro (fun c => hd i o c ho) (fun a w h => wpAnyIn_round hro hd fuel _ a w h) h2
      · rw [if_neg hw] at h2 ⊢
        exact ⟨h2.1, wpAnyIn_round hro hd fuel _ _ w h2.2⟩⟩
def noDefer (o : Oper) : Bool := match o.op with | .defer _ => false | _ => true
theorem wpIn_round_quiet_below {r id : Nat} {a : Act} {w : World} {l : List Oper} (hro : F.round = none) (hm : P.follows .mixedOrders = true) (hB : Region.lexB .any l.toArray = true) (hd : l.all noDefer = true)
    (h : wpQuietIn F n P l.toArray (fun w' => ∃ p : GrownTo w, w' = p.W') (fun a' => ∀ w', (∃ p : GrownTo w, w' = p.W') → Q .normal a' w') l a) : (Code.region id l.toArray true).wpIn (F.inRound r) n P Q a w := by
  have hB' := hB
  simp only [Region.lexB, Bool.and_eq_true] at hB'
  refine wpIn_region_any hm (wpAnyIn_round hro (fun i o c ho => ?_) _ _ _ _ (wpAnyIn_of_quiet (Q := fun a' => ∀ w', (∃ p : GrownTo w, w' = p.W') → Q .normal a' w') hro (fun _ w' hw' h => h w' hw') _ _ _ _ ⟨⟨w.drew, below_drewN (Below.refl _ _) 1⟩, rfl⟩ ?_))
  · have hm : o ∈ l := by
      have := Array.mem_of_getElem? ho
      simpa using this
    have := List.all_eq_true.1 hd o hm
    intro e
    unfold noDefer at this
    rw [e] at this
    cases this
  · have := wpAnyQIn_lex (F := F) (n := n) (C := fun w' => ∃ p : GrownTo w, w' = p.W') (md := .any) hB'.1 l 0 (Array.replicate l.toArray.size false) a (by simp) (by simpa using hB'.2) h
    simpa using this
theorem wpIn_quiet_grown {id : Nat} {a : Act} {w : World} {l : List Oper} (hro : F.round = none) (hm : P.follows .mixedOrders = true) (hB : Region.lexB .any l.toArray = true)
    (h : wpQuietIn F n P l.toArray (fun w' => ∃ p : GrownTo w, w' = p.W') (fun a' => ∀ w', (∃ p : GrownTo w, w' = p.W') → Q .normal a' w') l a) : (Code.region id l.toArray true).wpIn F n P Q a w :=
  wpIn_region_quiet (C := fun w' => ∃ p : GrownTo w, w' = p.W') hro hm hB ⟨⟨w.drew, below_drewN (Below.refl _ _) 1⟩, rfl⟩ (by simpa using h)
/-- One operation of the walk, where the fence bars nothing. -/
theorem wide_step {C : World → Prop} {Q : Act → Prop} {a : Act} {o : Oper} {rest : List Oper}
    (h : ∀ K : Act → Prop, (∀ a, wpQuietIn Fence.wide n P ops C Q rest a → K a) → if Region.wanted o (yielded ops a.tmps) then o.quietIn Fence.wide n P a C K else K (a.put o.dst undef)) : wpQuietIn Fence.wide n P ops C Q (o :: rest) a :=
  wpQuietIn_step (fun _ _ _ _ => trivial) h
end
end Go.Proofs.YtecclhmjmceheaaGreatDoor
namespace Go.Proofs.YtecclhmjmceheaaGreatDoor
open Go Go.RowKit
set_option linter.unusedVariables false
/-- An iterator that hands over x only where R x holds. -/
def SeqTold {α : Type} (F : Fence) (n : Nat) (P : Program) (g : Nat) (lb : Array Value) (encs : α → Array Value) (Kp Kf : World → World → Prop) (R : α → World → Prop) (S Sp : List α → Prop) (N : Nat) (w : World) : Prop :=
  ∀ (l : Nat) (J Jx : List α → World → Prop) (W : World), Below w.heap.size w W → w.heap.size + 2 ≤ W.heap.size → OwnFrom W.heap.size J → OwnFrom W.heap.size Jx →
    (∀ pre x W1, J pre W1 → R x W1 → pre.length < N → YieldAt F (n - 1) P l (encs x) W1 fun e W' => (e = .returned (.bool true) ∧ J (pre ++ [x]) W' ∧ Kp W1 W') ∨ (e = .returned (.bool false) ∧ Jx (pre ++ [x]) W' ∧ Kf W1 W')) →
    J [] W → CallsIn F n P g (#[.func (.yield l) #[] #[]] ++ lb) W fun e W' => (∃ v, e = .returned v) ∧ ((∃ xs, S xs ∧ J xs W') ∨ (∃ pre, Sp pre ∧ Jx pre W'))
/-- What a round owes: B where the loop began, W where the round began, V where its body began. -/
def roundPost {α : Type} (B : Nat) (Kp Kf : World → World → Prop) (I : List α → World → Prop) (Ix : Code → List α → World → Prop) (xs : List α) (W V : World) : Exit → Act → World → Prop
  | .normal, _, W' => KeepsFrom B V W' ∧ Kp W W' ∧ I xs W'
  | .ret, _, W' => KeepsFrom B V W' ∧ Kf W W' ∧ Ix .ret xs W'
  | .exit id, _, W' => KeepsFrom B V W' ∧ Kf W W' ∧ Ix (.exit id) xs W'
  | .goto t, _, W' => KeepsFrom B V W' ∧ Kf W W' ∧ Ix (.goto t) xs W'
  | .panic _, _, _ => False
  | .outgrown, _, _ => False
theorem range_told {F : Fence} {n : Nat} {P : Program} {α : Type} {g : Operand} {ps : Array Tmp} {assign body : Code} {Q : Exit → Act → World → Prop} {a : Act} {w : World}
    (hro : F.round = none) (h1 : 1 ≤ n) {gf : Nat} {lb : Array Value} (hg : a.eval g = .func (.func gf) #[] lb) (hFg : F.fn gf) (eg : ∀ args w, (callFunc gf args).run P w = .ok (.enter gf args) w)
    {encs : α → Array Value} {Kp Kf : World → World → Prop} {R : α → World → Prop} {S Sp : List α → Prop} {N : Nat} {w0 : World} (hseq : SeqTold F (n - 1) P gf lb encs Kp Kf R S Sp N w0)
    (hKt : ∀ {A B C : World}, Kp A B → Kp B C → Kp A C) (hKb : ∀ (W : World) (l : Nat) (o o' : Obj), l = w.heap.size + 1 → W.heap[l]? = some o → o.isCells = false → o.isWalk = false → Kp W (W.putObj l o')) (hKf : ∀ (A W : World) (l : Nat) (o o' : Obj), l = w.heap.size + 1 → Kf A W → W.heap[l]? = some o → o.isCells = false → o.isWalk = false → Kf A (W.putObj l o')) (hb0 : Below w0.heap.size w0 w) (hps : ∀ x, (encs x).size = ps.size)
    (I : List α → World → Prop) (Ix : Code → List α → World → Prop) (hI : OwnFrom w.heap.size I) (hIx : ∀ c, OwnFrom w.heap.size (Ix c)) (h0 : I [] w)
    (hround : ∀ (l : Nat) (pre : List α) (x : α) (W : World), l = w.heap.size + 1 → (∃ r, W.heap[l]? = some (.loop r)) → I pre W → R x W → pre.length < N →
      assign.wpIn (F.inRound l) (n - 1 - 1) P (Exit.then (fun a' Wa => KeepsFrom w.heap.size W Wa ∧ ∀ o : Obj, o.isCells = false → o.isWalk = false → body.wpIn (F.inRound l) (n - 1 - 1) P (roundPost w.heap.size Kp Kf I Ix (pre ++ [x]) W (Wa.putObj l o)) a' (Wa.putObj l o)) (fun _ _ _ => False))
        { tmps := (ps.zip (encs x)).foldl (fun t (p, v) => t.setIfInBounds p v) a.tmps, defers := [] } W)
    (hdone : ∀ (D : Nat) (xs : List α) (W : World), w.heap.size ≤ D → S xs → I xs W → W.heap[D]? = some (.deferred (some [])) → Q .normal { a with defers := { target := .collected D, args := #[] } :: a.defers } W)
    (hstop : ∀ (D : Nat) (c : Code) (pre : List α) (W : World), w.heap.size ≤ D → Sp pre → Ix c pre W → W.heap[D]? = some (.deferred (some [])) → c.wpIn F n P Q { a with defers := { target := .collected D, args := #[] } :: a.defers } W) :
    (Code.rangeFunc g ps assign body).wpIn F n P Q a w := by
  refine wpIn_rangeFunc ?_
  intro fn hfn
  rw [hro]
  obtain ⟨rec, hrec⟩ : ∃ rec : LoopState → Option Code → Loop, rec = fun st pe => { state := st, pending := pe, fn, tmps := a.tmps, params := ps, assign, body, defers := w.heap.size } := ⟨_, rfl⟩
  -- the two blocks of book-keeping
  have blocks : ∀ V : World, V = (w.alloc (.deferred (some []))).alloc (.loop (rec .ready none)) → V.heap.size = w.heap.size + 2 ∧ V.heap[w.heap.size + 1]? = some (.loop (rec .ready none)) ∧ V.heap[w.heap.size]? = some (.deferred (some [])) ∧ Below w.heap.size w V ∧ I [] V := by
    rintro V rfl
    have e := World.alloc_heap_new (w.alloc (.deferred (some []))) (.loop (rec .ready none))
    rw [World.size_alloc] at e
    exact ⟨by simp, e, (Below.heap_alloc _ _ _ (by simp)).trans (World.alloc_heap_new w _), ((Below.refl _ w).alloc (Nat.le_refl _) _).alloc (by simp) _, hI.alloc _ (hI.alloc _ h0)⟩
  obtain ⟨V, hV⟩ : ∃ V, (w.alloc (.deferred (some []))).alloc (.loop (rec .ready none)) = V := ⟨_, rfl⟩
  obtain ⟨hVs, hVl, hVd, hVb, hVi⟩ := blocks V hV.symm
  have stay : ∀ {X Y : World} {row : Option Nat} {k : Nat} {o : Obj}, k < w.heap.size + 2 → X.grownBy Y row → (∀ r, row = some r → V.heap.size ≤ r ∧ ∃ o : Obj, X.heap[r]? = some o ∧ o.isCells = false) → X.heap[k]? = some o → Y.heap[k]? = some o := fun hk hgr hr ho =>
    (hgr.block _ (Array.getElem?_eq_some_iff.1 ho).1 (fun e => by have := (hr _ e.symm).1; omega)).trans ho
  refine ⟨w.heap.size + 1, [{ target := .collected w.heap.size, args := #[] }], V, { target := .fn (.func gf) lb, args := #[.func (.yield (w.heap.size + 1)) #[] #[]] }, V, gf,
    #[.func (.yield (w.heap.size + 1)) #[] #[]] ++ lb, V, ?_, ?_, ?_, ?_, fun _ => h1, ?_⟩
  · rw [← hV, hrec]; exact run_enterLoop_outer _ _ _ _ _
  · simp only [resolve, hg]; simp [go_sem]
  · intro f' hf'; simp [Target.leads] at hf'; subst hf'; exact hFg
  · simp [invoke, go_sem, eg]
  refine (hseq (w.heap.size + 1)
    (fun pre W => I pre W ∧ W.heap[w.heap.size + 1]? = some (.loop (rec .ready none)) ∧ W.heap[w.heap.size]? = some (.deferred (some [])))
    (fun pre W => ∃ c, Ix c pre W ∧ W.heap[w.heap.size + 1]? = some (.loop (rec .done (some c))) ∧ W.heap[w.heap.size]? = some (.deferred (some [])))
    V (hb0.trans (hVb.mono hb0.size)) (by have := hb0.size; omega)
    (fun s A B row hs hgr hr => ⟨hI s A B row hs.1 hgr (fun r e => ⟨by have := (hr r e).1; omega, (hr r e).2⟩), stay (by omega) hgr hr hs.2.1, stay (by omega) hgr hr hs.2.2⟩)
    (fun s A B row hs hgr hr => by
      obtain ⟨c, hc, hl, hk⟩ := hs
      exact ⟨c, hIx c s A B row hc hgr (fun r e => ⟨by have := (hr r e).1; omega, (hr r e).2⟩), stay (by omega) hgr hr hl, stay (by omega) hgr hr hk⟩)
    ?_ ⟨hVi, hVl, hVd⟩).mono ?_
  · rintro pre x W ⟨hi, hl, hk⟩ hx hlen
    have hlt : w.heap.size + 1 < W.heap.size := (Array.getElem?_eq_some_iff.1 hl).1
    have hy := run_yield (P := P) (args := encs x) hl (by rw [hrec]; exact hps x)
    rw [hrec] at hy
    refine ⟨fn, _, assign, body, hy, roundIn_of_wpIn hfn (wpIn_mono (hround (w.heap.size + 1) pre x W rfl ⟨_, hl⟩ hi hx hlen) ?_)⟩
    intro e a' Wa hp
    cases e with
    | normal =>
      obtain ⟨hka, hb⟩ := hp
      have la := hka.same _ _ (by omega) hl rfl
      have ka := hka.same _ _ (Nat.le_refl _) hk rfl
      have lta : w.heap.size + 1 < Wa.heap.size := (Array.getElem?_eq_some_iff.1 la).1
      refine ⟨_, run_beginRound la (by rw [hrec]), wpIn_mono (hb _ rfl rfl) ?_⟩
      have l2 : (Wa.putObj (w.heap.size + 1) (.loop { rec .ready none with state := .busy })).heap[w.heap.size + 1]? = some (.loop { rec .ready none with state := .busy }) := World.putObj_heap_same lta
      have k2 : (Wa.putObj (w.heap.size + 1) (.loop { rec .ready none with state := .busy })).heap[w.heap.size]? = some (.deferred (some [])) := (World.putObj_heap_other (by omega)).trans ka
      have fin : ∀ (jump : Option Code) (W3 : World), KeepsFrom w.heap.size (Wa.putObj (w.heap.size + 1) (.loop { rec .ready none with state := .busy })) W3 →
          (Instr.endRound (w.heap.size + 1) jump).run P W3 = .ok (.bool jump.isNone) (W3.putObj (w.heap.size + 1) (.loop (rec (if jump.isNone then .ready else .done) jump))) ∧
          W3.heap[w.heap.size + 1]? = some (.loop { rec .ready none with state := .busy }) ∧
          (W3.putObj (w.heap.size + 1) (.loop (rec (if jump.isNone then .ready else .done) jump))).heap[w.heap.size + 1]? = some (.loop (rec (if jump.isNone then .ready else .done) jump)) ∧
          (W3.putObj (w.heap.size + 1) (.loop (rec (if jump.isNone then .ready else .done) jump))).heap[w.heap.size]? = some (.deferred (some [])) := fun jump W3 h3 => by
        have l3 := h3.same _ _ (by omega) l2 rfl
        have r3 := run_endRound (P := P) jump l3
        rw [hrec] at r3 ⊢
        exact ⟨r3, by rw [hrec] at l3; exact l3, World.putObj_heap_same (Array.getElem?_eq_some_iff.1 l3).1, (World.putObj_heap_other (by omega)).trans (h3.same _ _ (Nat.le_refl _) k2 rfl)⟩
      rintro e3 a3 W3 hq
      cases e3 with
      | normal =>
        obtain ⟨h3, kp3, i3⟩ := hq
        obtain ⟨r, l3, l4, k4⟩ := fin none W3 h3
        exact ⟨_, _, r, .inl ⟨rfl, ⟨hI.putObj _ i3 (by omega) l3 rfl, l4, k4⟩, hKt kp3 (hKb _ _ _ _ rfl l3 rfl rfl)⟩⟩
      | ret =>
        obtain ⟨h3, kp3, i3⟩ := hq
        obtain ⟨r, l3, l4, k4⟩ := fin (some .ret) W3 h3
        exact ⟨_, _, r, .inr ⟨rfl, ⟨.ret, (hIx _).putObj _ i3 (by omega) l3 rfl, l4, k4⟩, hKf _ _ _ _ _ rfl kp3 l3 rfl rfl⟩⟩
      | exit id =>
        obtain ⟨h3, kp3, i3⟩ := hq
        obtain ⟨r, l3, l4, k4⟩ := fin (some (.exit id)) W3 h3
        exact ⟨_, _, r, .inr ⟨rfl, ⟨.exit id, (hIx _).putObj _ i3 (by omega) l3 rfl, l4, k4⟩, hKf _ _ _ _ _ rfl kp3 l3 rfl rfl⟩⟩
      | goto t =>
        obtain ⟨h3, kp3, i3⟩ := hq
        obtain ⟨r, l3, l4, k4⟩ := fin (some (.goto t)) W3 h3
        exact ⟨_, _, r, .inr ⟨rfl, ⟨.goto t, (hIx _).putObj _ i3 (by omega) l3 rfl, l4, k4⟩, hKf _ _ _ _ _ rfl kp3 l3 rfl rfl⟩⟩
      | panic ch => exact hq.elim
      | outgrown => exact hq.elim
    | ret => exact hp.elim
    | exit id => exact hp.elim
    | goto t => exact hp.elim
    | panic ch => exact hp.elim
    | outgrown => exact hp.elim
  · rintro e W2 ⟨⟨v, rfl⟩, (⟨xs, hS, hi, hl, hk⟩ | ⟨pre, hSp, c, hi, hl, hk⟩)⟩
    · exact ⟨none, _, by have := run_endLoop (P := P) hl (by rw [hrec]; simp); rw [hrec] at this; exact this, hdone _ xs _ (Nat.le_refl _) hS (hI.putObj _ hi (by omega) hl rfl) ((World.putObj_heap_other (by omega)).trans hk)⟩
    · exact ⟨some c, _, by have := run_endLoop (P := P) hl (by rw [hrec]; simp); rw [hrec] at this; exact this, hstop _ c pre _ (Nat.le_refl _) hSp ((hIx c).putObj _ hi (by omega) hl rfl) ((World.putObj_heap_other (by omega)).trans hk)⟩
end Go.Proofs.YtecclhmjmceheaaGreatDoor
namespace Go.Proofs.YtecclhmjmceheaaGreatDoor
open Go.RowKit Go.Shelf
open Lx (Tk TR LR)
attribute [local go_sem] Oper.semAt_some
set_option linter.unusedVariables false
theorem wpIn_quiet_bl {F : Fence} {n : Nat} {P : Program} {id : Nat} {Q : Exit → Act → World → Prop} {a : Act} {w : World} {l : List Oper} (hro : F.round = none) (hm : P.follows .mixedOrders = true) (hB : Region.lexB .any l.toArray = true)
    (h : wpQuietIn F n P l.toArray (fun w' => ∃ p : GrownTo w, w' = p.W') (fun a' => ∀ w', (∃ p : GrownTo w, w' = p.W') → Q .normal a' w') l a) : (Code.region id l.toArray true).wpIn F n P Q a w :=
  wpIn_region_quiet (C := fun w' => ∃ p : GrownTo w, w' = p.W') hro hm hB ⟨⟨w.drew, below_drewN (Below.refl _ _) 1⟩, rfl⟩ (by simpa using h)
theorem each_told (n : Nat) (hn : 1 ≤ n) (Bs : Nat) (s : ByteArray) (hs : s.size ≤ maxLen) (w : World) (hc : Boxed w Bs 9 (.string s)) :
    SeqTold Fence.wide n Tryz.prog 34 #[.pointer (some ⟨Bs, 0, none⟩)] (fun x : Int × Int => #[Value.int .i64 x.1, Value.int .i64 x.2]) (KpB Bs s) (fun _ _ => True) (fun _ _ => True) (fun ys => ys = Utf.pieces (Utf.nums s))
      (fun pre => pre <+: Utf.pieces (Utf.nums s)) s.size w := fun l J Jx W hW _ hJ _ hY h0 =>
  each1_in n hn l Bs s hs J Jx (fun p W k h => hJ p _ _ none h (grown_drewNu _ _ _) (fun r e => by cases e)) (fun pre x W1 hj hlen => by
    obtain ⟨fn, tmps, assign, body, hy, hR⟩ := hY pre x W1 hj trivial hlen
    exact ⟨fn, tmps, assign, body, hy, hR.mono (fun e W' h => h.imp id (fun h => ⟨h.1, h.2.1⟩))⟩) W ((hW.block Bs hc.lt).trans hc) h0
theorem boxed_lw {X Y : World} {B : Nat} {t : TypeId} {v : Value} (h : Boxed X B t v) (hb : Below X.heap.size X Y) : Boxed Y B t v := (hb.block _ h.lt).trans h
set_option maxRecDepth 100000 in
set_option maxHeartbeats 8000000 in
theorem walkLexQuotes (W : World) (s : ByteArray) (hs : s.size ≤ 140737488351232) (hE : Ev W) : Calls Tryz.prog 3 #[.string s] W fun e w' => e = .returned (.bool true) ∧ Below W.heap.size W w' := by
  have mixed : Tryz.prog.follows .mixedOrders = true := by kernel_rfl
  have HE := Lib.hid hE
  clear hE
  obtain ⟨W1, hW1⟩ : ∃ W1, W.alloc (.cells #[.bool false] 4) = W1 := ⟨_, rfl⟩
  have hb1 : Below W.heap.size W W1 := by rw [← hW1]; exact (Below.refl W.heap.size W).alloc (Nat.le_refl _) _
  have hr1 : Boxed W1 W.heap.size 4 (.bool false) := by rw [← hW1]; exact Boxed.new W 4 (.bool false)
  have HRB := Lib.hid hr1
  have HB := Lib.hid hb1
  have HW1 := Lib.hid hW1
  clear hb1 hr1 hW1
  refine (callsIn_wide (n := 6)).1 ?_
  refine callsIn_of_wp_marks Tryz.func3 rfl trivial ?_ rfl
  simp only [Tryz.ntmps3, List.size_toArray, List.length_cons, List.length_nil, Nat.reduceAdd, Nat.reduceSub, Array.replicate_succ, Array.replicate_zero, List.push_toArray, List.append_toArray, List.nil_append, List.cons_append]
  gi_wp2_with fail
  refine ⟨trivial, ?_⟩
  rw [HW1.out]
  refine (callsIn_wide.2 (works8_any W1 (HE.out.below (Nat.le_refl _) HB.out))).mono ?_
  rintro e w2 ⟨rfl, hb2⟩
  have HB2 := Lib.hid (HB.out.trans (hb2.mono HB.out.size))
  have HRB2 := Lib.hid (boxed_lw HRB.out hb2)
  clear hb2
  by_cases h100 : 100 < s.size
  · have h3i : (100 : Int) < (s.size : Int) := by omega
    have hrb := HRB2.out
    have hrc := hrb.cell
    have hrf := hrb.frozen
    have hc5 := (hrb.set (.bool true)).cell
    have HBZ := Lib.hid (HB2.out.setCell (p := ⟨W.heap.size, 0, none⟩) (Nat.le_refl _) (.bool true))
    clear hrb
    gi_wp2
    refine ⟨trivial, ?_⟩
    gi_wp2
    refine ⟨.bool true, ?_, rfl, HBZ.out⟩
    simp [results, Tryz.f3, go_sem, hc5]
  have h3i : ¬ (100 : Int) < (s.size : Int) := by omega
  obtain ⟨ok, hok⟩ : ∃ ok, okB (Utf.pieces (Utf.nums s)) = ok := ⟨_, rfl⟩
  have HOK := Lib.hid hok
  have HV := Lib.hid (fun w => valid_any s (by unfold maxLen; omega) w)
  rw [hok] at HV
  clear hok
  gi_wp2_with fail
  refine ⟨trivial, ?_⟩
  refine (callsIn_wide.2 (HV.out _)).mono ?_
  rintro e w3 ⟨rfl, hb3⟩
  have HB3 := Lib.hid (HB2.out.trans (hb3.mono HB2.out.size))
  have HRB3 := Lib.hid (boxed_lw HRB2.out hb3)
  clear hb3
  cases ok with
  | false =>
    have hrb := HRB3.out
    have hrc := hrb.cell
    have hrf := hrb.frozen
    have hc5 := (hrb.set (.bool true)).cell
    have HBZ := Lib.hid (HB3.out.setCell (p := ⟨W.heap.size, 0, none⟩) (Nat.le_refl _) (.bool true))
    clear hrb
    gi_wp2
    refine ⟨.bool true, ?_, rfl, HBZ.out⟩
    simp [results, Tryz.f3, go_sem, hc5]
  | true =>
    gi_wp2
    gi_loopw [3, 25] (fun x i wr => ∃ (k : Nat), k ≤ s.size ∧ i = .int .i64 (k : Int) ∧ Hid (∀ j, j < k → (Utf.nums s)[j]? ≠ some 92) ∧ wr = w3) (fun x i _ => s.size - (intOf i).toNat)
    case atStart => exact ⟨0, Nat.zero_le _, rfl, Lib.hid (fun j hj => absurd hj (by omega)), rfl⟩
    case round =>
      obtain ⟨k, hk, rfl, HN, rfl⟩ := hrel
      have hrb := HRB3.out
      have hrc := hrb.cell
      have hrf := hrb.frozen
      by_cases hlt : k < s.size
      · have hlti : (k : Int) < (s.size : Int) := by omega
        have hat := Utf.nums_at s k hlt
        by_cases h92 : (Utf.nums s)[k]?.getD 0 = 92
        · have hx : ((((s[k]'hlt).toNat : Nat) : Int) == 92) = true := by rw [← hat, h92]; rfl
          have hc5 := (hrb.set (.bool true)).cell
          have HBZ := Lib.hid (HB3.out.setCell (p := ⟨W.heap.size, 0, none⟩) (Nat.le_refl _) (.bool true))
          clear hrb hat h92
          gi_wp2
          refine ⟨.bool true, ?_, rfl, HBZ.out⟩
          simp [results, Tryz.f3, go_sem, hc5]
        · have hx : ((((s[k]'hlt).toNat : Nat) : Int) == 92) = false := by rw [← hat]; simpa using h92
          have HN2 : Hid (∀ j, j < k + 1 → (Utf.nums s)[j]? ≠ some 92) := Lib.hid (fun j hj => by
            rcases Nat.lt_or_ge j k with h | h
            · exact HN.out j h
            · obtain rfl : j = k := by omega
              intro e
              exact h92 (by rw [e]; rfl))
          have hks : k + 1 ≤ s.size := hlt
          clear hrb hat h92
          gi_wp2
          go_roundw
          case rel => exact ⟨k + 1, hks, by go_num, HN2, trivial⟩
          case measure => simp [intOf]; omega
      · have hlti : ¬ (k : Int) < (s.size : Int) := by omega
        obtain rfl : k = s.size := by omega
        obtain ⟨q1, hq1⟩ : ∃ q, (⟨#[92, 81]⟩ : ByteArray) ++ s ++ (⟨#[92, 69]⟩ : ByteArray) = q := ⟨_, rfl⟩
        obtain ⟨q2, hq2⟩ : ∃ q, (⟨#[92, 81]⟩ : ByteArray) ++ s = q := ⟨_, rfl⟩
        have h92 : ∀ x ∈ Utf.nums s, x ≠ 92 := fun x hx e => by
          obtain ⟨j, hj, hj2⟩ := List.getElem_of_mem hx
          refine HN.out j (by rw [← Utf.nums_length]; exact hj) ?_
          rw [List.getElem?_eq_getElem hj, hj2, e]
        have hv : ∀ p ∈ Utf.pieces (Utf.nums s), 0 ≤ p.2 := fun p hp => by
          have h9 := HOK.out
          unfold okB at h9
          have := List.all_eq_true.1 h9 p hp
          simpa using this
        have hn1 : Utf.nums q1 = 92 :: 81 :: (Utf.nums s ++ [92, 69]) := by rw [← hq1, Br.nums_append', Br.nums_append']; rfl
        have hn2 : Utf.nums q2 = 92 :: 81 :: (Utf.nums s ++ []) := by rw [← hq2, Br.nums_append', List.append_nil]; rfl
        have hl1 := Lx.lex_quote q1 (Utf.nums s) [92, 69] hn1 (.inr rfl) h92 (Utf.nums_bytes s) hv
        have hl2 := Lx.lex_quote q2 (Utf.nums s) [] hn2 (.inl rfl) h92 (Utf.nums_bytes s) hv
        have hz1 : q1.size = s.size + 4 := by rw [← hq1, ByteArray.size_append, ByteArray.size_append]; show 2 + s.size + 2 = _; omega
        have hz2 : q2.size = s.size + 2 := by rw [← hq2, ByteArray.size_append]; show 2 + s.size = _; omega
        have HL1 := Lib.hid (fun w (hw : Ev w) => lex_any w q1 (by omega) hw)
        have HL2 := Lib.hid (fun w (hw : Ev w) => lex_any w q2 (by omega) hw)
        rw [hl1] at HL1
        rw [hl2] at HL2
        obtain ⟨T, hT⟩ : ∃ T, (Utf.pieces (Utf.nums s)).map (fun p => (p.1 + 2, Lx.runeT p.2)) = T := ⟨_, rfl⟩
        have hris := (Lx.lex_rises hl1).1
        rw [hT, hz1] at hris
        have HRIS := Lib.hid hris
        clear hris
        rw [hT] at HL1 HL2
        have HT := Lib.hid hT
        clear hT
        have HQ1 := Lib.hid hq1
        have HQ2 := Lib.hid hq2
        have HVV := Lib.hid hv
        clear h92 hv hn1 hn2 hl1 hl2 hz1 hz2 hq1 hq2 hrb
        have ov1 : ¬ 9223372036854775807 < 2 + s.size := by omega
        have ov2 : ¬ 9223372036854775807 < 2 + s.size + 2 := by omega
        gi_wp2_with fail
        refine ⟨trivial, ?_⟩
        rw [HQ1.out]
        refine (callsIn_wide.2 (HL1.out wr (HE.out.below (Nat.le_refl _) HB3.out))).mono ?_
        rintro e w4 ⟨hb4, h⟩
        rcases h with ⟨o, c, h, _⟩ | ⟨T1, v1, h, rfl, ht1, hTl⟩
        · cases h
        injection h with h
        subst h
        have HB4 := Lib.hid (HB3.out.trans (hb4.mono HB3.out.size))
        have HRB4 := Lib.hid (boxed_lw HRB3.out hb4)
        have HT1 := Lib.hid ht1
        obtain ⟨a1, cap1, rfl⟩ := ht1.slice
        have HTL := Lib.hid hTl
        clear hb4 ht1 hTl
        gi_wp2_with fail
        refine ⟨trivial, ?_⟩
        rw [HQ2.out]
        obtain ⟨LB, hLB⟩ : ∃ LB, w4.heap.size = LB := ⟨_, rfl⟩
        obtain ⟨N, hN⟩ : ∃ N, T.length = N := ⟨_, rfl⟩
        rw [hLB, hN]
        obtain ⟨w5, hw5⟩ : ∃ w5, w4.alloc (.cells #[.slice a1 N cap1] 24) = w5 := ⟨_, rfl⟩
        have hb5 : Below w4.heap.size w4 w5 := by rw [← hw5]; exact (Below.refl _ w4).alloc (Nat.le_refl _) _
        have hlb : Boxed w5 LB 24 (.slice a1 N cap1) := by rw [← hw5, ← hLB]; exact Boxed.new _ _ _
        rw [hw5]
        have HB5 := Lib.hid (HB4.out.trans (hb5.mono HB4.out.size))
        have HRB5 := Lib.hid (boxed_lw HRB4.out hb5)
        have HT5 := Lib.hid (HT1.out.kept hb5)
        have HLB5 := Lib.hid hlb
        have HLB := Lib.hid hLB
        have HN := Lib.hid hN
        have HW4 : Hid (W.heap.size < LB) := Lib.hid (by have := HRB4.out.lt; omega)
        clear hb5 hlb hw5 hLB hN
        refine (callsIn_wide.2 (HL2.out w5 (HE.out.below (Nat.le_refl _) HB5.out))).mono ?_
        rintro e w6 ⟨hb6, h⟩
        rcases h with ⟨o, c, h, _⟩ | ⟨T1, v2, h, rfl, ht2, hTl2⟩
        · cases h
        injection h with h
        subst h
        have HB6 := Lib.hid (HB5.out.trans (hb6.mono HB5.out.size))
        have HRB6 := Lib.hid (boxed_lw HRB5.out hb6)
        have HLB6 := Lib.hid (boxed_lw HLB5.out hb6)
        have HT6 := Lib.hid (HT5.out.kept hb6)
        have HM6 := Lib.hid ht2.row
        obtain ⟨a2, cap2, rfl⟩ := ht2.slice
        have hNP : (Utf.pieces (Utf.nums s)).length = N := by rw [← HN.out, ← HT.out, List.length_map]
        have HAL : Hid (∀ q : GrownTo w6, Calls Tryz.prog 14 #[.slice a1 N cap1, .slice a2 N cap2, .int .i64 0] q.W' fun e w' => e = .returned (.bool true) ∧ Below q.W'.heap.size q.W' w') := Lib.hid (fun q => by
          have g1 := HT6.out.row
          have g2 := HM6.out
          rw [HN.out] at g1 g2
          refine alike_any q.W' _ _ T 0 ?_ (g2.kept q.h) HTL.out ⟨by decide, by decide⟩ (fun p hp => ?_)
          · rw [Lx.shift_zero]; exact g1.kept q.h
          · rw [← HT.out] at hp
            have h5 := HRIS.out.all p (by rw [← HT.out]; exact hp)
            omega)
        have HCT : Hid (∀ q : GrownTo w6, Calls Tryz.prog 15 #[.string s] q.W' fun e w' => e = .returned (.int .i64 (N : Int)) ∧ Below q.W'.heap.size q.W' w') := Lib.hid (fun q => by
          have h5 := utfCount_any s (by unfold maxLen; omega) q.W'
          rwa [hNP] at h5)
        have hc6 := fun p : GrownTo w6 => cell_grownTo (w := w6) (a := ⟨LB, 0, none⟩) HLB6.out.lt HLB6.out.cell p
        rw [HN.out]
        have HNP := Lib.hid hNP
        clear hb6 ht2 hTl2 hNP
        gi_wp2
        refine wpIn_quiet_bl rfl (by assumption) (by kernel_rfl) ?_
        repeat (
          refine wide_step (fun K hK => ?_)
          go_simp
          first
            | (refine hK _ ?_; clear hK K)
            | (apply Exists.intro
               refine ⟨fun _ => ?_, hK _ ?_⟩
               (first
                 | (gi_at_call 14; exact callsIn_wide.2 (calls_grownTo (HAL.out _)))
                 | (gi_at_call 15; exact callsIn_wide.2 (calls_grownTo (HCT.out _))))
               clear hK K))
        refine wpQuietIn_nil ?_
        intro w7 hw'
        obtain ⟨⟨wq, hb7⟩, hw''⟩ := hw'
        have hw9 : w7 = wq := hw''
        clear hw''
        subst hw9
        have HB7 := Lib.hid (HB6.out.trans (hb7.mono HB6.out.size))
        have HRB7 := Lib.hid (boxed_lw HRB6.out hb7)
        have HLB7 := Lib.hid (boxed_lw HLB6.out hb7)
        have HT7 := Lib.hid (HT6.out.kept hb7)
        clear hb7 hc6
        obtain ⟨KB, hKB⟩ : ∃ KB, w7.heap.size = KB := ⟨_, rfl⟩
        have HKB := Lib.hid hKB
        gi_wp2_with fail
        refine ⟨trivial, ?_⟩
        refine (callsIn_wide.2 (each_any s _)).mono ?_
        rintro e w' ⟨rfl, rfl⟩
        gi_wp2
        obtain ⟨w8, hw8⟩ : ∃ w8, (w7.alloc (.cells #[.int .i64 0] 3)).alloc (.cells #[.string s] 9) = w8 := ⟨_, rfl⟩
        have bK : Boxed w8 KB 3 (.int .i64 0) := by rw [← hw8, ← hKB]; exact (Boxed.new w7 3 (.int .i64 0)).alloc _
        have bS : Boxed w8 (KB + 1) 9 (.string s) := by
          have h9 := Boxed.new (w7.alloc (.cells #[.int .i64 0] 3)) 9 (.string s)
          rw [World.size_alloc] at h9
          rw [← hw8, ← hKB]; exact h9
        have hs8 : w8.heap.size = KB + 2 := by rw [← hw8, ← hKB]; simp
        have hb8 : Below w7.heap.size w7 w8 := by rw [← hw8]; exact ((Below.refl _ w7).alloc (Nat.le_refl _) _).alloc (by simp) _
        rw [hw8]
        rw [hKB] at hb8
        have HLK : Hid (LB < KB) := Lib.hid (by have := HLB7.out.lt; rw [hKB] at this; exact this)
        clear hw8
        refine range_told rfl (by omega) (gf := 34) (lb := #[.pointer (some ⟨KB + 1, 0, none⟩)]) rfl trivial (enters_of Tryz.func34 (by kernel_rfl) rfl)
          (each_told 5 (by omega) (KB + 1) s (by unfold maxLen; omega) _ bS) kpB_t (fun X l o o' hl h hc hw => kpB_b (w := w8) X l o o' (by omega) h hc hw) (fun _ _ _ _ _ _ _ _ _ _ => trivial) (Below.refl _ _) (fun _ => rfl)
          (fun pre W' => (W'.cell? ⟨KB, 0, none⟩ = some (.int .i64 (pre.length : Int)) ∧ W'.frozen? ⟨KB, 0, none⟩ = false) ∧ Below KB w7 W')
          (fun c pre W' => c = .ret ∧ ¬ pre <+: Utf.pieces (Utf.nums s))
          ?hI ?hIx ?h0 ?round ?done ?stop
        case hI =>
          rintro pre A B row ⟨⟨h1, h2⟩, h3⟩ hgr hr
          exact ⟨⟨cell_kept h1 hgr (fun r e => (hr r e).2), (frozen_kept h1 hgr (fun r e => (hr r e).2)).trans h2⟩, h3.grown hgr (by have := h3.size; omega) (fun k e => by have := (hr k e).1; omega)⟩
        case hIx => exact fun c pre A B row h hgr hr => h
        case h0 => exact ⟨⟨bK.cell, bK.frozen⟩, hb8⟩
        case round =>
          rintro l pre ⟨x1, x2⟩ Wr hl hrec ⟨⟨hc, hf⟩, hB⟩ _ hlen
          have hl2 : l = KB + 3 := by omega
          have hlw : l < Wr.heap.size := by obtain ⟨r, hr⟩ := hrec; exact (Array.getElem?_eq_some_iff.1 hr).1
          obtain ⟨ro, hro⟩ := hrec
          obtain ⟨k, hk⟩ : ∃ k, pre.length = k := ⟨_, rfl⟩
          have hsnoc : (pre ++ [(x1, x2)]).length = k + 1 := by simp [hk]
          have hno : ∀ p, (Utf.pieces (Utf.nums s))[k]? = p → p ≠ some (x1, x2) → ¬ (pre ++ [(x1, x2)]) <+: Utf.pieces (Utf.nums s) := fun p hp hne hpre => by
            obtain ⟨Y, hY⟩ := hpre
            rw [← hY, List.append_assoc, List.getElem?_append_right (by omega)] at hp
            simp [hk] at hp
            exact hne hp.symm
          obtain ⟨PR, hPR⟩ : ∃ PR, pre ++ [(x1, x2)] = PR := ⟨_, rfl⟩
          rw [hPR] at hsnoc hno ⊢
          rw [hk] at hc
          have HSN := Lib.hid hsnoc
          have HNO := Lib.hid hno
          clear hPR hk hsnoc hno hlen
          gi_wp2
          refine ⟨KeepsFrom.refl _ _, fun o ho1 ho2 => ?_⟩
          obtain ⟨Wp, hWp⟩ : ∃ Wp, Wr.putObj l o = Wp := ⟨_, rfl⟩
          have hBp : Below KB w7 Wp := by rw [← hWp]; exact hB.trans (belowK_b (w := w8) (by omega) Wr l (.loop ro) _ (by omega) hro rfl rfl)
          have hblk : ∀ b, b ≠ l → Wp.heap[b]? = Wr.heap[b]? := fun b hb => by rw [← hWp]; exact World.putObj_heap_other hb
          have hcp : Wp.cell? ⟨KB, 0, none⟩ = some (.int .i64 (k : Int)) := (World.cell?_of_block (hblk KB (by omega))).trans hc
          have hfp : Wp.frozen? ⟨KB, 0, none⟩ = false := (World.frozen?_of_block (hblk KB (by omega))).trans hf
          have hrl : W.heap.size < KB := by have := HRB7.out.lt; rw [hKB] at this; exact this
          have hrb : Boxed Wp W.heap.size 4 (.bool false) := (hBp.block _ hrl).trans HRB7.out
          have hrc := hrb.cell
          have hrf := hrb.frozen
          have hlb : Boxed Wp LB 24 (.slice a1 N cap1) := (hBp.block _ HLK.out).trans HLB7.out
          have hlc := hlb.cell
          have HKP : Hid (KpB (KB + 1) s Wr Wp) := Lib.hid (by rw [← hWp]; exact kpB_b (w := w8) Wr l (.loop ro) _ (by omega) hro rfl rfl)
          have HBP := Lib.hid hBp
          rw [hWp]
          clear hWp hblk hc hf hB hrb hlb hro
          by_cases hkN : k < N
          · obtain ⟨g1, c1, e1, _, hg1, hat⟩ := HT7.out.at (by rw [HN.out]; omega)
            injection e1 with e1 e2 e3
            subst e1
            subst e3
            rw [hKB] at hg1
            obtain ⟨vs, _, hcell⟩ := hat k (by rw [HN.out]; exact hkN)
            obtain ⟨⟨pa, pr⟩, hp⟩ : ∃ p, (Utf.pieces (Utf.nums s))[k]'(by rw [HNP.out]; exact hkN) = p := ⟨_, rfl⟩
            have hTk : T[k]'(by rw [HN.out]; exact hkN) = (pa + 2, Lx.runeT pr) := by
              have h5 := HT.out
              have h6 : T[k]? = some (pa + 2, Lx.runeT pr) := by
                rw [← h5, List.getElem?_map, List.getElem?_eq_getElem (by rw [HNP.out]; exact hkN), hp]; rfl
              rw [List.getElem?_eq_getElem (by rw [HN.out]; exact hkN)] at h6
              exact Option.some.inj h6
            have hpa : 0 ≤ pa + 2 ∧ pa + 2 ≤ 1000 := by
              have h5 := HRIS.out.all (T[k]'(by rw [HN.out]; exact hkN)) (List.getElem_mem _)
              rw [hTk] at h5
              dsimp only at h5
              omega
            rw [hTk] at hcell
            have q0 : Wp.cell? ⟨g1, k * 8, none⟩ = some (.int .i64 1) := (HBP.out.cell (p := ⟨g1, k * 8, none⟩) hg1).trans (hcell 0 (by omega))
            have q1 : Wp.cell? ⟨g1, k * 8 + 1, none⟩ = some (.int .i64 (pa + 2)) := (HBP.out.cell (p := ⟨g1, k * 8 + 1, none⟩) hg1).trans (hcell 1 (by omega))
            have q2 : Wp.cell? ⟨g1, k * 8 + 2, none⟩ = some (.int .i64 pr) := (HBP.out.cell (p := ⟨g1, k * 8 + 2, none⟩) hg1).trans (hcell 2 (by omega))
            have hno := HNO.out _ (List.getElem?_eq_getElem (by rw [HNP.out]; exact hkN))
            rw [hp] at hno
            have HNO2 := Lib.hid hno
            have hk1 : ¬ (N : Int) ≤ (k : Int) := by omega
            have hk2 : (k : Int) < (N : Int) := by omega
            have hNle : N ≤ 100000 := by have := HTL.out; rw [HN.out] at this; exact this
            have hw1 : IntKind.i64.wrap ((k : Int) + 1) = ((k + 1 : Nat) : Int) := by rw [IntKind.wrap_i64]; omega
            have HQ := Lib.hid (And.intro hrl hl2)
            clear hat hcell hTk hp hno
            by_cases hr2 : pr = x2
            · subst hr2
              by_cases ha2 : pa + 2 = wrap64 (x1 + 2)
              · have t1 : (pa + 2 != wrap64 (x1 + 2)) = false := by simpa using ha2
                clear ha2
                gi_wp2
                refine ⟨(KeepsOthers.setCell _ _ _).from _, kpB_t HKP.out (KpB.set _ _ _ (by omega)), ⟨?_, (World.frozen?_setCell _ _ _ _).trans hfp⟩, HBP.out.setCell (p := ⟨KB, 0, none⟩) (Nat.le_refl _) _⟩
                rw [HSN.out]
                exact World.cell?_setCell_same' _ _ _ (by rw [hcp]; rfl)
              · have t1 : (pa + 2 != wrap64 (x1 + 2)) = true := by simpa using ha2
                have hne : ¬ PR <+: Utf.pieces (Utf.nums s) := HNO2.out (fun e => by
                  simp only [Option.some.injEq, Prod.mk.injEq] at e
                  apply ha2
                  rw [← e.1]
                  unfold wrap64
                  omega)
                have HNE := Lib.hid hne
                clear ha2 hne
                gi_wp2
                exact ⟨(KeepsOthers.setCell _ _ _).from _, trivial, rfl, HNE.out⟩
            · have t1 : (pr != x2) = true := by simpa using hr2
              have hne : ¬ PR <+: Utf.pieces (Utf.nums s) := HNO2.out (fun e => by
                injection e with e
                injection e with _ e
                exact hr2 e)
              have HNE := Lib.hid hne
              clear hr2 hne
              gi_wp2
              exact ⟨(KeepsOthers.setCell _ _ _).from _, trivial, rfl, HNE.out⟩
          · have hk1 : (N : Int) ≤ (k : Int) := by omega
            have hne : ¬ PR <+: Utf.pieces (Utf.nums s) := fun e => by
              have := e.length_le
              rw [HSN.out, HNP.out] at this
              omega
            have HNE := Lib.hid hne
            clear hne
            gi_wp2
            exact ⟨(KeepsOthers.setCell _ _ _).from _, trivial, rfl, HNE.out⟩
        case done =>
          rintro D ys Wd hD hys ⟨⟨hc, hf⟩, hB⟩ hK
          have hrl : W.heap.size < KB := by have := HRB7.out.lt; rw [hKB] at this; exact this
          have hrb : Boxed Wd W.heap.size 4 (.bool false) := (hB.block _ hrl).trans HRB7.out
          have hrc := hrb.cell
          have hrf := hrb.frozen
          have HSET := Lib.hid (hrb.set (.bool true))
          have HBE := Lib.hid ((HB7.out.trans (hB.mono (by have := HB7.out.size; rw [hKB] at this; exact this))).setCell (p := ⟨W.heap.size, 0, none⟩) (Nat.le_refl _) (.bool true))
          have hK' := (KeepsOthers.setCell Wd ⟨W.heap.size, 0, none⟩ (.bool true)).same D _ hK rfl
          have HK9 := Lib.hid hK'
          clear hys hc hf hB hrb hK'
          gi_wp2
          refine ⟨by simp, .inl ⟨_, _, rfl, run_takeDeferred HK9.out, ?_⟩⟩
          have hc5 := cell_kept HSET.out.cell (grownBy_putObj' _ D (.deferred none)) (fun r e => by cases e; exact ⟨_, HK9.out, rfl⟩)
          refine ⟨.bool true, ?_, rfl, HBE.out.trans (belowK_b (w := W) (Nat.le_refl _) _ D _ _ (by omega) HK9.out rfl rfl)⟩
          simp [results, Tryz.f3, go_sem, hc5]
        case stop =>
          rintro D c pre Wd hD hpre ⟨_, hn⟩ hK
          exact absurd hpre hn
end Go.Proofs.YtecclhmjmceheaaGreatDoor
