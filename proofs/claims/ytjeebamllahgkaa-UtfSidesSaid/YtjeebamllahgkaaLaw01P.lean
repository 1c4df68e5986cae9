/- The contract of burinlaw01.pieces. -/
import Derived.Test.YtjeebamllahgkaaLaw01Q
import Derived.Sort.QuietIn
namespace Go.Proofs.Ytjeebamllahgkaa
open Go.RowKit Go.Shelf
attribute [local go_sem] Oper.semAt_some
set_option linter.unusedVariables false
theorem boxed_own2 {W W' : World} {B : Nat} {t : TypeId} {v : Value} {row : Option Nat} (h : Boxed W B t v) (hg : W.grownBy W' row) (hr : ∀ r, row = some r → ∃ o : Obj, W.heap[r]? = some o ∧ o.isCells = false) : Boxed W' B t v :=
  h.kept hg (fun e => by
    obtain ⟨o, ho, hc⟩ := hr B e.symm
    rw [show W.heap[B]? = _ from h] at ho
    cases ho
    cases hc)
/-- What the loop of 'pieces' holds: the bound's box, the two lists' boxes, the string's box, the two lists. -/
def PI (b : Nat) (s : ByteArray) (most : Int) (l : List (Int × Int)) (W : World) : Prop :=
  ∃ v1 v2, Boxed W b 3 (.int .i64 most) ∧ Boxed W (b + 1) 30 v1 ∧ Boxed W (b + 2) 30 v2 ∧ Boxed W (b + 3) 9 (.string s) ∧ TwoRows W (b + 4) v1 l.length (ints1 l) v2 l.length (ints2 l)
theorem PI.own {b : Nat} {s : ByteArray} {most : Int} {l : List (Int × Int)} {W W' : World} {row : Option Nat} (h : PI b s most l W) (hg : W.grownBy W' row) (hr : ∀ r, row = some r → ∃ o : Obj, W.heap[r]? = some o ∧ o.isCells = false) : PI b s most l W' := by
  obtain ⟨v1, v2, h1, h2, h3, h4, h5⟩ := h
  exact ⟨v1, v2, boxed_own2 h1 hg hr, boxed_own2 h2 hg hr, boxed_own2 h3 hg hr, boxed_own2 h4 hg hr, h5.own hg hr⟩
/-- The frame of a round. -/
def frameP (s : ByteArray) (b : Nat) (most : Int) (x : Int × Int) (u18 u19 u20 u21 u22 u23 u24 u25 u26 u27 u28 u29 : Value) : Act :=
  { tmps := #[.string s, .int .i64 most, undef, .pointer (some ⟨b, 0, none⟩), .slice none 0 0, .slice none 0 0, .pointer (some ⟨b + 1, 0, none⟩), .pointer (some ⟨b + 1 + 1, 0, none⟩),
      .func (.func 29) #[] #[.pointer (some ⟨b + 1 + 1 + 1, 0, none⟩)], .int .i64 x.1, .int .i64 x.2, .string s, .func (.func 29) #[] #[.pointer (some ⟨b + 1 + 1 + 1, 0, none⟩)],
      .func (.func 29) #[] #[.pointer (some ⟨b + 1 + 1 + 1, 0, none⟩)], .bool false, .func (.func 29) #[] #[.pointer (some ⟨b + 1 + 1 + 1, 0, none⟩)], .int .i64 x.1, .int .i64 x.2,
      u18, u19, u20, u21, u22, u23, u24, u25, u26, u27, u28, u29, undef, undef], defers := [] }
def RInv (b : Nat) (s : ByteArray) (most : Int) (w W0 : World) (v1 v2 : Value) (x : Int × Int) (l : List (Int × Int)) (u18 u19 u20 u21 : Value) (listed : Array Bool) (a : Act) (W : World) : Prop :=
  listed.size = 10 ∧ ∃ f u22 u23 u24 u25 u26 u27 u28 u29 p1 p2 r1 r2 n1 n2 xs1 xs2, (∀ j, j < 10 → listed.getD j false = f j ∧ listed.getD j true = f j) ∧
    a = frameP s b most x u18 u19 u20 u21 u22 u23 u24 u25 u26 u27 u28 u29 ∧ RI b s most w W0 v1 v2 x.1 x.2 l f u22 u23 u24 u25 u26 u27 u28 u29 W p1 p2 r1 r2 n1 n2 xs1 xs2
theorem flags_upd {listed : Array Bool} {f : Nat → Bool} (hs : listed.size = 10) (hf : ∀ j, j < 10 → listed.getD j false = f j ∧ listed.getD j true = f j) {i : Nat} (hi : i < 10) :
    (listed.setIfInBounds i true).size = 10 ∧ ∀ j, j < 10 → (listed.setIfInBounds i true).getD j false = upd f i j ∧ (listed.setIfInBounds i true).getD j true = upd f i j := by
  refine ⟨by simpa using hs, fun j hj => ?_⟩
  unfold upd
  by_cases e : j = i
  · subst e
    rw [if_pos rfl]
    simp [Array.getD_eq_getD_getElem?, hs, hj]
  · rw [if_neg e]
    have h := hf j hj
    simp only [Array.getD_eq_getD_getElem?] at h ⊢
    rw [Array.getElem?_setIfInBounds_ne (Ne.symm e)]
    exact h
theorem all_listed {md : Region.Mode} {ops : Array Oper} {listed : Array Bool} (hr : Region.ready md ops listed = []) (i : Nat) {o : Oper} (ho : ops[i]? = some o)
    (hdep : o.after.toList.all (fun e => listed.getD e.on false) = true) : listed.getD i true = true := by
  cases e : listed.getD i true with
  | true => rfl
  | false =>
    exfalso
    have : i ∈ Region.ready md ops listed := mem_ready.2 ⟨e, o, ho, fun e he _ => by
      rw [List.all_eq_true] at hdep
      exact hdep e (Array.mem_toList_iff.2 he)⟩
    rw [hr] at this
    cases this
theorem Try.eqSeq (f : Fn) (a b : Array Value) (w : World) : (binOp .eql 47 (.func f a b) .nilFunc).run Try.prog w = .ok (.bool false) w := by kernel_rfl
set_option maxRecDepth 100000 in
set_option maxHeartbeats 4000000 in
theorem pieces_in (n : Nat) (hn : 3 ≤ n) (s : ByteArray) (hs : s.size ≤ 300) (most : Int) (w : World) :
    CallsIn Fence.wide n Try.prog 16 #[.string s, .int .i64 most] w fun e W' => ∃ v1 v2, e = .returned (.tuple #[v1, v2]) ∧
      TwoRows W' w.heap.size v1 ((Utf.pieces (Utf.nums s)).take most.toNat).length (ints1 ((Utf.pieces (Utf.nums s)).take most.toNat)) v2 ((Utf.pieces (Utf.nums s)).take most.toNat).length (ints2 ((Utf.pieces (Utf.nums s)).take most.toNat)) ∧ Below w.heap.size w W' := by
  have h1 : 1 ≤ n := by omega
  have hmx : s.size ≤ maxLen := by unfold maxLen; omega
  have heq := Try.eqSeq
  refine callsIn_of_wp_marks Try.func16 rfl trivial ?_ rfl
  simp only [Try.ntmps16, List.size_toArray, List.length_cons, List.length_nil, Nat.reduceAdd, Nat.reduceSub, Array.replicate_succ, Array.replicate_zero, List.push_toArray, List.append_toArray, List.nil_append, List.cons_append]
  gi_wp2_with fail
  refine ⟨trivial, ?_⟩
  refine (callsIn_wide.2 (each_any s _)).mono ?_
  rintro e w' ⟨rfl, rfl⟩
  gi_wp2
  have b0 := ((Boxed.new w 3 (.int .i64 most)).alloc (.cells #[.slice none 0 0] 30)).alloc (.cells #[.slice none 0 0] 30)
  have b1 := (Boxed.new (w.alloc (.cells #[.int .i64 most] 3)) 30 (.slice none 0 0)).alloc (.cells #[.slice none 0 0] 30)
  have b2 := Boxed.new ((w.alloc (.cells #[.int .i64 most] 3)).alloc (.cells #[.slice none 0 0] 30)) 30 (.slice none 0 0)
  have b3 := Boxed.new (((w.alloc (.cells #[.int .i64 most] 3)).alloc (.cells #[.slice none 0 0] 30)).alloc (.cells #[.slice none 0 0] 30)) 9 (.string s)
  simp only [World.size_alloc] at b1 b2 b3
  have hB0 : Below w.heap.size w ((((w.alloc (.cells #[.int .i64 most] 3)).alloc (.cells #[.slice none 0 0] 30)).alloc (.cells #[.slice none 0 0] 30)).alloc (.cells #[.string s] 9)) :=
    ((((Below.refl _ w).alloc (Nat.le_refl _) _).alloc (by simp) _).alloc (by simp; omega) _).alloc (by simp; omega) _
  refine wpIn_rangeFunc_ownG rfl h1 (gf := 29) (lb := #[.pointer (some ⟨w.heap.size + 1 + 1 + 1, 0, none⟩)]) rfl trivial (enters_of Try.func29 (by kernel_rfl) rfl)
    (each_stops (n - 1) (by omega) (w.heap.size + 1 + 1 + 1) s hmx _ b3) kpB_t kpB_b (Below.refl _ _) (fun _ => rfl)
    (fun pre W => (PI w.heap.size s most pre W ∧ (pre.length : Int) ≤ max most 0) ∧ Below w.heap.size w W)
    (fun c pre W => (c = .exit 0 ∧ ∃ ini last, pre = ini ++ [last] ∧ PI w.heap.size s most ini W ∧ (ini.length : Int) = max most 0) ∧ Below w.heap.size w W)
    (OwnFrom.and (Own.from (fun s A B row hs hg hr => ⟨hs.1.own hg hr, hs.2⟩) _) (ownFrom_below (Nat.le_refl _) (by simp; omega)))
    (fun c => OwnFrom.and (Own.from (fun s A B row hs hg hr => by obtain ⟨hc, ini, last, e1, e2, e3⟩ := hs; exact ⟨hc, ini, last, e1, e2.own hg hr, e3⟩) _) (ownFrom_below (Nat.le_refl _) (by simp; omega)))
    ⟨⟨⟨_, _, b0.alloc _, b1.alloc _, b2.alloc _, b3, TwoRows.nil _ _⟩, by simp; omega⟩, hB0⟩
    (fun x => frameP s w.heap.size most x undef undef undef undef undef undef undef undef undef undef undef undef) ?assign ?body ?done ?stop
  case assign =>
    intro lp x W K hK
    gi_wp2
    simpa [frameP] using hK
  case body =>
    rintro lp pre x W ⟨⟨⟨v1, v2, q0, q1, q2, q3, qr⟩, hpl⟩, hB⟩ hlen
    obtain ⟨a1, cap1, rfl⟩ := ownsRow_slice qr.1
    unfold frameP
    have c0 := q0.cell
    have c1 := q1.cell
    have c2 := q2.cell
    by_cases hm : most ≤ (pre.length : Int)
    · have hml : (pre.length : Int) = max most 0 := by omega
      have HM := Lib.hid hml
      have HPL := Lib.hid hpl
      clear hml hpl
      gi_wp2
      exact ⟨KeepsFrom.refl _ _, ⟨rfl, pre, x, rfl, ⟨_, _, q0, q1, q2, q3, qr⟩, HM.out⟩, hB⟩
    · gi_wp2
      obtain ⟨i0, hi, hz0, hz1, hz2⟩ := info_parts Try.infoInt
      have hpw : PW w.heap.size s most w W W (.slice a1 pre.length cap1) v2 (.slice a1 pre.length cap1) v2 pre.length pre.length (ints1 pre) (ints2 pre) := ⟨q0, q1, q2, q3, qr, KeepsOthers.refl _, hB⟩
      refine wpIn_region_any (by kernel_rfl) (wpAnyIn_inv (RInv w.heap.size s most w W (.slice a1 pre.length cap1) v2 x pre (.slice a1 pre.length cap1) (.int .i64 (pre.length : Int)) (.int .i64 most) (.bool false)) ?rdone ?rstep _ _ _ _ ?rstart (unl_start _))
      case rstart =>
        have fl : ∀ j, j < 10 → (Array.replicate 10 false).getD j false = (fun _ => false) j ∧ (Array.replicate 10 false).getD j true = (fun _ => false) j := by
          intro j hj
          rcases (by omega : j = 0 ∨ j = 1 ∨ j = 2 ∨ j = 3 ∨ j = 4 ∨ j = 5 ∨ j = 6 ∨ j = 7 ∨ j = 8 ∨ j = 9) with rfl | rfl | rfl | rfl | rfl | rfl | rfl | rfl | rfl | rfl <;> exact ⟨rfl, rfl⟩
        exact ⟨rfl, fun _ => false, _, _, _, _, _, _, _, _, _, _, _, _, _, _, _, _, fl, rfl,
          { pw := hpw.drew, c0 := (fun h => (by cases h)), c1 := (fun h => (by cases h)), c2 := (fun h => (by cases h)), c4 := (fun h => (by cases h)), c5 := (fun h => (by cases h)), c6 := (fun h => (by cases h)), c3n := (fun _ => ⟨rfl, rfl, rfl⟩), c3y := (fun h => (by cases h)), c7n := (fun _ => ⟨rfl, rfl, rfl⟩), c7y := (fun h => (by cases h)), c8n := (fun _ => rfl), c8y := (fun h => (by cases h)), c9n := (fun _ => rfl), c9y := (fun h => (by cases h)) }⟩
      case rdone =>
        rintro listed a W1 ⟨hs10, f, u22, u23, u24, u25, u26, u27, u28, u29, p1, p2, r1, r2, n1, n2, xs1, xs2, hf, rfl, h⟩ hr
        have g0 := all_listed hr 0 rfl rfl
        have f0 : listed.getD 0 false = true := (hf 0 (by omega)).1.trans ((hf 0 (by omega)).2.symm.trans g0)
        have g1 := all_listed hr 1 rfl rfl
        have f1 : listed.getD 1 false = true := (hf 1 (by omega)).1.trans ((hf 1 (by omega)).2.symm.trans g1)
        have g4 := all_listed hr 4 rfl rfl
        have f4 : listed.getD 4 false = true := (hf 4 (by omega)).1.trans ((hf 4 (by omega)).2.symm.trans g4)
        have g5 := all_listed hr 5 rfl rfl
        have f5 : listed.getD 5 false = true := (hf 5 (by omega)).1.trans ((hf 5 (by omega)).2.symm.trans g5)
        have g2 : listed.getD 2 true = true := by
          refine all_listed hr 2 rfl ?_
          show (listed.getD 1 false && true) = true
          rw [f1]; rfl
        have f2 : listed.getD 2 false = true := (hf 2 (by omega)).1.trans ((hf 2 (by omega)).2.symm.trans g2)
        have g6 : listed.getD 6 true = true := by
          refine all_listed hr 6 rfl ?_
          show (listed.getD 5 false && true) = true
          rw [f5]; rfl
        have f6 : listed.getD 6 false = true := (hf 6 (by omega)).1.trans ((hf 6 (by omega)).2.symm.trans g6)
        have g3 : listed.getD 3 true = true := by
          refine all_listed hr 3 rfl ?_
          show (listed.getD 0 false && (listed.getD 2 false && true)) = true
          rw [f0, f2]; rfl
        have f3 : listed.getD 3 false = true := (hf 3 (by omega)).1.trans ((hf 3 (by omega)).2.symm.trans g3)
        have g7 : listed.getD 7 true = true := by
          refine all_listed hr 7 rfl ?_
          show (listed.getD 4 false && (listed.getD 6 false && (listed.getD 3 false && true))) = true
          rw [f3, f4, f6]; rfl
        have f7 : listed.getD 7 false = true := (hf 7 (by omega)).1.trans ((hf 7 (by omega)).2.symm.trans g7)
        have g8 : listed.getD 8 true = true := by
          refine all_listed hr 8 rfl ?_
          show (listed.getD 3 false && (listed.getD 7 false && (listed.getD 0 false && (listed.getD 1 false && (listed.getD 2 false && (listed.getD 3 false && (listed.getD 4 false && (listed.getD 5 false && (listed.getD 6 false && (listed.getD 7 false && true)))))))))) = true
          rw [f0, f1, f2, f3, f4, f5, f6, f7]; rfl
        have f8 : listed.getD 8 false = true := (hf 8 (by omega)).1.trans ((hf 8 (by omega)).2.symm.trans g8)
        have g9 : listed.getD 9 true = true := by
          refine all_listed hr 9 rfl ?_
          show (listed.getD 7 false && (listed.getD 8 false && (listed.getD 0 false && (listed.getD 1 false && (listed.getD 2 false && (listed.getD 3 false && (listed.getD 4 false && (listed.getD 5 false && (listed.getD 6 false && (listed.getD 7 false && (listed.getD 8 false && true))))))))))) = true
          rw [f0, f1, f2, f3, f4, f5, f6, f7, f8]; rfl
        obtain ⟨_, rfl, rfl⟩ := h.c3y ((hf 3 (by omega)).2.symm.trans g3)
        obtain ⟨_, rfl, rfl⟩ := h.c7y ((hf 7 (by omega)).2.symm.trans g7)
        obtain ⟨rfl, _⟩ := h.c8y ((hf 8 (by omega)).2.symm.trans g8)
        obtain ⟨rfl, _⟩ := h.c9y ((hf 9 (by omega)).2.symm.trans g9)
        have hw := h.pw
        exact ⟨hw.others.from _, fun _ => hw.box3, ⟨⟨_, _, hw.box0, hw.box1, hw.box2, hw.box3, by rw [List.length_append]; simpa [ints1, ints2] using hw.rows⟩, by rw [List.length_append]; simp; omega⟩, hw.below⟩
      case rstep =>
        rintro listed a W1 i ⟨hs10, f, u22, u23, u24, u25, u26, u27, u28, u29, p1, p2, r1, r2, n1, n2, xs1, xs2, hf, rfl, h⟩ hir
        obtain ⟨hun, o, ho, hall⟩ := mem_ready.1 hir
        have hi10 : i < 10 := (ready_lt hir).1
        have hfi : f i = false := (hf i hi10).2.symm.trans hun
        have hup := flags_upd hs10 hf hi10
        rcases (by omega : i = 0 ∨ i = 1 ∨ i = 2 ∨ i = 3 ∨ i = 4 ∨ i = 5 ∨ i = 6 ∨ i = 7 ∨ i = 8 ∨ i = 9) with rfl | rfl | rfl | rfl | rfl | rfl | rfl | rfl | rfl | rfl
        all_goals
          cases ho
          clear hir hun hi10
        · have cc := h.pw.box1.cell
          unfold frameP
          refine wpOpIn_step (by rfl) ?_
          intro K' hK
          go_simp
          exact hK _ _ ⟨hup.1, _, _, _, _, _, _, _, _, _, _, _, _, _, _, _, _, _, hup.2, rfl, h.op0 hfi⟩
        · unfold frameP
          refine wpOpIn_step (by rfl) ?_
          intro K' hK
          go_simp
          exact hK _ _ ⟨hup.1, _, _, _, _, _, _, _, _, _, _, _, _, _, _, _, _, _, hup.2, rfl, h.op1 hfi⟩
        · obtain rfl := h.c1 ((hf 1 (by omega)).1.symm.trans (hall { on := 1, ground := .data } (by simp) rfl))
          unfold frameP
          refine wpOpIn_step (by rfl) ?_
          intro K' hK
          go_simp
          exact hK _ _ ⟨hup.1, _, _, _, _, _, _, _, _, _, _, _, _, _, _, _, _, _, hup.2, rfl, h.op2 hfi⟩
        · have f0 : f 0 = true := (hf 0 (by omega)).1.symm.trans (hall { on := 0, ground := .data } (by simp) rfl)
          have f2 : f 2 = true := (hf 2 (by omega)).1.symm.trans (hall { on := 2, ground := .data } (by simp) rfl)
          obtain ⟨g0, rfl, ht⟩ := h.c2 f2 hfi
          obtain rfl := h.c0 f0
          obtain ⟨rfl, rfl, rfl⟩ := h.c3n hfi
          have hsz := h.pw.size
          obtain ⟨g, cap, W2, hrun, hown, hgrow, hat, hlt⟩ := run_append_lies (P := Try.prog) W1 30 30 (w.heap.size + 4) 3 i0 (.int .i64 0) 1 8 Try.underlying30 hi hz0 hz1 hz2 rfl (by decide) _ _ _ h.pw.rows.1 ⟨g0, 0, none⟩ 1 1 [.int .i64 x.1] rfl ht.cells (by simp [Value.oneCell']) (by omega) (by omega) (by omega) hsz W1.heap.size rfl
          refine wpOpIn_step (by rfl) ?_
          intro K' hK
          rw [if_pos (by simp [Region.wanted])]
          refine ⟨fun _ _ => trivial, ?_⟩
          have e1 : (frameP s w.heap.size most x (.slice a1 pre.length cap1) (.int .i64 (pre.length : Int)) (.int .i64 most) (.bool false) (.slice a1 pre.length cap1) u23 (.slice (some ⟨g0, 0, none⟩) 1 1) u25 u26 u27 u28 u29).eval (.tmp 22) = Value.slice a1 pre.length cap1 := rfl
          have e2 : (frameP s w.heap.size most x (.slice a1 pre.length cap1) (.int .i64 (pre.length : Int)) (.int .i64 most) (.bool false) (.slice a1 pre.length cap1) u23 (.slice (some ⟨g0, 0, none⟩) 1 1) u25 u26 u27 u28 u29).eval (.tmp 24) = .slice (some ⟨g0, 0, none⟩) 1 1 := rfl
          simp [Oper.semAt_some, execOp, resolve, invoke, builtin, e1, e2, hrun, Result.andThen]
          exact hK _ _ ⟨hup.1, _, _, _, _, _, _, _, _, _, _, _, _, _, _, _, _, _, hup.2, rfl, h.op3 hfi hown hgrow hat⟩
        · have cc := h.pw.box2.cell
          unfold frameP
          refine wpOpIn_step (by rfl) ?_
          intro K' hK
          go_simp
          exact hK _ _ ⟨hup.1, _, _, _, _, _, _, _, _, _, _, _, _, _, _, _, _, _, hup.2, rfl, h.op4 hfi⟩
        · unfold frameP
          refine wpOpIn_step (by rfl) ?_
          intro K' hK
          go_simp
          exact hK _ _ ⟨hup.1, _, _, _, _, _, _, _, _, _, _, _, _, _, _, _, _, _, hup.2, rfl, h.op5 hfi⟩
        · obtain rfl := h.c5 ((hf 5 (by omega)).1.symm.trans (hall { on := 5, ground := .data } (by simp) rfl))
          unfold frameP
          refine wpOpIn_step (by rfl) ?_
          intro K' hK
          go_simp
          exact hK _ _ ⟨hup.1, _, _, _, _, _, _, _, _, _, _, _, _, _, _, _, _, _, hup.2, rfl, h.op6 hfi⟩
        · have f4 : f 4 = true := (hf 4 (by omega)).1.symm.trans (hall { on := 4, ground := .data } (by simp) rfl)
          have f6 : f 6 = true := (hf 6 (by omega)).1.symm.trans (hall { on := 6, ground := .data } (by simp) rfl)
          have f3 : f 3 = true := (hf 3 (by omega)).1.symm.trans (hall { on := 3, ground := .chain } (by simp) rfl)
          obtain ⟨g0, rfl, ht⟩ := h.c6 f6 hfi
          obtain rfl := h.c4 f4
          obtain ⟨rfl, rfl, rfl⟩ := h.c7n hfi
          have hsz := h.pw.size
          obtain ⟨g, cap, W2, hrun, hown, hgrow, hat, hlt⟩ := run_append_lies (P := Try.prog) W1 30 30 (w.heap.size + 4) 3 i0 (.int .i64 0) 1 8 Try.underlying30 hi hz0 hz1 hz2 rfl (by decide) _ _ _ h.pw.rows.2.1 ⟨g0, 0, none⟩ 1 1 [.int .i64 x.2] rfl ht.cells (by simp [Value.oneCell']) (by omega) (by omega) (by omega) hsz W1.heap.size rfl
          refine wpOpIn_step (by rfl) ?_
          intro K' hK
          rw [if_pos (by simp [Region.wanted])]
          refine ⟨fun _ _ => trivial, ?_⟩
          have e1 : (frameP s w.heap.size most x (.slice a1 pre.length cap1) (.int .i64 (pre.length : Int)) (.int .i64 most) (.bool false) u22 u23 u24 u25 r2 u27 (.slice (some ⟨g0, 0, none⟩) 1 1) u29).eval (.tmp 26) = r2 := rfl
          have e2 : (frameP s w.heap.size most x (.slice a1 pre.length cap1) (.int .i64 (pre.length : Int)) (.int .i64 most) (.bool false) u22 u23 u24 u25 r2 u27 (.slice (some ⟨g0, 0, none⟩) 1 1) u29).eval (.tmp 28) = .slice (some ⟨g0, 0, none⟩) 1 1 := rfl
          simp [Oper.semAt_some, execOp, resolve, invoke, builtin, e1, e2, hrun, Result.andThen]
          exact hK _ _ ⟨hup.1, _, _, _, _, _, _, _, _, _, _, _, _, _, _, _, _, _, hup.2, rfl, h.op7 hfi f3 f4 hown hgrow hat⟩
        · have f0 : f 0 = true := (hf 0 (by omega)).1.symm.trans (hall { on := 0, ground := .phase } (by simp) rfl)
          have f3 : f 3 = true := (hf 3 (by omega)).1.symm.trans (hall { on := 3, ground := .data } (by simp) rfl)
          have f7 : f 7 = true := (hf 7 (by omega)).1.symm.trans (hall { on := 7, ground := .chain } (by simp) rfl)
          obtain rfl := (h.c3y f3).1
          obtain ⟨ax, cx, rfl⟩ := ownsRow_slice h.pw.rows.1
          have cc := h.pw.box1.cell
          have ff := h.pw.box1.frozen
          unfold frameP
          refine wpOpIn_step (by rfl) ?_
          intro K' hK
          go_simp
          exact hK _ _ ⟨hup.1, _, _, _, _, _, _, _, _, _, _, _, _, _, _, _, _, _, hup.2, rfl, h.op8 hfi f0 f3 f7⟩
        · have f3 : f 3 = true := (hf 3 (by omega)).1.symm.trans (hall { on := 3, ground := .phase } (by simp) rfl)
          have f4 : f 4 = true := (hf 4 (by omega)).1.symm.trans (hall { on := 4, ground := .phase } (by simp) rfl)
          have f7 : f 7 = true := (hf 7 (by omega)).1.symm.trans (hall { on := 7, ground := .data } (by simp) rfl)
          obtain rfl := (h.c7y f7).1
          obtain ⟨ax, cx, rfl⟩ := ownsRow_slice h.pw.rows.2.1
          have cc := h.pw.box2.cell
          have ff := h.pw.box2.frozen
          unfold frameP
          refine wpOpIn_step (by rfl) ?_
          intro K' hK
          go_simp
          exact hK _ _ ⟨hup.1, _, _, _, _, _, _, _, _, _, _, _, _, _, _, _, _, _, hup.2, rfl, h.op9 hfi f3 f4 f7⟩
  case done =>
    rintro D ys W hD rfl ⟨⟨⟨v1, v2, q0, q1, q2, q3, qr⟩, hpl⟩, hB⟩ hK
    have c1 := q1.cell
    have c2 := q2.cell
    have HPL := Lib.hid hpl
    clear hpl
    gi_wp2
    gi_quiet (fail)
    gi_wp2
    have hK' : (W.drewN nq).heap[D]? = some (.deferred (some [])) := hK
    refine ⟨by simp, .inl ⟨_, _, rfl, run_takeDeferred hK', ?_⟩⟩
    have htk : (Utf.pieces (Utf.nums s)).take most.toNat = Utf.pieces (Utf.nums s) := List.take_of_length_le (by have := HPL.out; omega)
    refine ⟨_, results_tmp2 rfl _ _ _, v1, v2, rfl, ?_, (hB.trans (below_drewN _ _ _)).trans (belowK_b (w := w) (Nat.le_refl _) (W.drewN nq) D _ _ (by simp at hD; omega) hK' rfl rfl)⟩
    rw [htk]
    exact ((qr.base (by omega)).grew (grown_drewN _ _ _)).own (grownBy_putObj' _ D _) (fun r e => by cases e; exact ⟨_, hK', rfl⟩)
  case stop =>
    rintro D c pre W hD hpre ⟨⟨rfl, ini, last, rfl, ⟨v1, v2, q0, q1, q2, q3, qr⟩, hpl⟩, hB⟩ hK
    have c1 := q1.cell
    have c2 := q2.cell
    have HPL := Lib.hid hpl
    clear hpl
    gi_wp2
    gi_quiet (fail)
    gi_wp2
    have hK' : (W.drewN nq).heap[D]? = some (.deferred (some [])) := hK
    refine ⟨by simp, .inl ⟨_, _, rfl, run_takeDeferred hK', ?_⟩⟩
    have htk : (Utf.pieces (Utf.nums s)).take most.toNat = ini := by
      obtain ⟨t, ht⟩ := hpre
      rw [← ht, List.append_assoc, List.take_append_of_le_length (by have := HPL.out; omega), List.take_of_length_le (by have := HPL.out; omega)]
    refine ⟨_, results_tmp2 rfl _ _ _, v1, v2, rfl, ?_, (hB.trans (below_drewN _ _ _)).trans (belowK_b (w := w) (Nat.le_refl _) (W.drewN nq) D _ _ (by simp at hD; omega) hK' rfl rfl)⟩
    rw [htk]
    exact ((qr.base (by omega)).grew (grown_drewN _ _ _)).own (grownBy_putObj' _ D _) (fun r e => by cases e; exact ⟨_, hK', rfl⟩)
theorem pieces_any (s : ByteArray) (hs : s.size ≤ 300) (most : Int) (w : World) :
    Calls Try.prog 16 #[.string s, .int .i64 most] w fun e W' => ∃ v1 v2, e = .returned (.tuple #[v1, v2]) ∧
      TwoRows W' w.heap.size v1 ((Utf.pieces (Utf.nums s)).take most.toNat).length (ints1 ((Utf.pieces (Utf.nums s)).take most.toNat)) v2 ((Utf.pieces (Utf.nums s)).take most.toNat).length (ints2 ((Utf.pieces (Utf.nums s)).take most.toNat)) ∧ Below w.heap.size w W' :=
  callsIn_wide.1 (pieces_in 3 (by omega) s hs most w)
end Go.Proofs.Ytjeebamllahgkaa
