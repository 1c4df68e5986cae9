/- The landed wire: octet, varint. -/
import Derived.Test.YtfnimmbmcjgdpaaDoorGp12
import Derived.Test.YtfnimmbmcjgdpaaDoorGp13
import Derived.Laws.BitsLemmas
import Derived.Laws.BitsAllLaws
namespace Go.Proofs.YtfnimmbmcjgdpaaDoor
open Go.RowKit
set_option linter.unusedVariables false
namespace Pgm
/-- The reader's box at R: what is left to read. -/
def RdrAt (W : World) (R : Nat) (s : List UInt8) : Prop := W.heap[R]? = some (.cells #[.string (txB s)] 107 (0, 0))
/-- An integer's place that may be written. -/
structure PlAt (W : World) (b o : Nat) : Prop where
  at_ : ∃ cs t, W.heap[b]? = some (.cells cs t (0, 0)) ∧ ∃ z : Int, cs[o]? = some (.int .i64 z)
theorem PlAt.cell {W : World} {b o : Nat} (h : PlAt W b o) : ∃ z : Int, W.cell? ⟨b, o, none⟩ = some (.int .i64 z) := by
  obtain ⟨cs, t, h1, z, h2⟩ := h.at_
  exact ⟨z, by simp [World.cell?, h1, h2]⟩
theorem PlAt.frozen {W : World} {b o : Nat} (h : PlAt W b o) : W.frozen? ⟨b, o, none⟩ = false := by
  obtain ⟨cs, t, h1, z, h2⟩ := h.at_
  simp [World.frozen?, h1]
theorem PlAt.lt {W : World} {b o : Nat} (h : PlAt W b o) : b < W.heap.size := by
  obtain ⟨cs, t, h1, z, h2⟩ := h.at_
  exact (Array.getElem?_eq_some_iff.1 h1).1
theorem PlAt.of {W W' : World} {b o : Nat} (h : PlAt W b o) (e : W'.heap[b]? = W.heap[b]?) : PlAt W' b o := by
  obtain ⟨cs, t, h1, h2⟩ := h.at_
  exact ⟨cs, t, e.trans h1, h2⟩
theorem heap_set_eq {X Y : World} {k : Nat} (h : X.heap[k]? = Y.heap[k]?) (a : Addr) (v : Value) : (X.setCell a v).heap[k]? = (Y.setCell a v).heap[k]? := by
  by_cases e : a.block = k
  · simp only [World.setCell, Array.getElem?_modify, e, if_true, h]
  · rw [Below.heap_setCell _ _ _ _ (fun q => e q.symm), Below.heap_setCell _ _ _ _ (fun q => e q.symm), h]
theorem set_size (X : World) (a : Addr) (v : Value) : (X.setCell a v).heap.size = X.heap.size := by simp [World.setCell]
theorem PlAt.set {W : World} {b o : Nat} (h : PlAt W b o) (b' o' : Nat) (n : Int) : PlAt (W.setCell ⟨b', o', none⟩ (.int .i64 n)) b o := by
  obtain ⟨cs, t, h1, z, h2⟩ := h.at_
  by_cases e : b = b'
  · subst e
    refine ⟨cs.setIfInBounds o' (.int .i64 n), t, heap_setCell_same W b o' _ _ _ h1, ?_⟩
    rw [Array.getElem?_setIfInBounds]
    split
    · rename_i e2
      subst e2
      have := (Array.getElem?_eq_some_iff.1 h2).1
      rw [if_pos this]
      exact ⟨n, rfl⟩
    · exact ⟨z, h2⟩
  · exact ⟨cs, t, (Below.heap_setCell _ _ _ _ e).trans h1, z, h2⟩
theorem RdrAt.lt {W : World} {R : Nat} {s : List UInt8} (h : RdrAt W R s) : R < W.heap.size := (Array.getElem?_eq_some_iff.1 h).1
theorem txB_tail (c : UInt8) (r : List UInt8) : (txB (c :: r)).extract 1 (txB (c :: r)).size = txB r := by
  apply ByteArray.ext
  rw [ByteArray.data_extract]
  apply Array.ext'
  simp [txB, ByteArray.size]
theorem toList_txB (l : List UInt8) : (txB l).toList = l := by
  rw [ByteArray.toList_eq]
  simp [txB]
theorem txB_ne (c : UInt8) (r : List UInt8) : (txB (c :: r)).toList.isEmpty = false ∧ ¬ (txB (c :: r)).toList = [] := by
  rw [toList_txB]
  exact ⟨rfl, by simp⟩
set_option maxRecDepth 100000 in
set_option maxHeartbeats 4000000 in
theorem octet_none (W : World) (R b o : Nat) (hr : RdrAt W R []) : Calls Tryd.prog 60 #[.pointer (some ⟨R, 0, none⟩), .pointer (some ⟨b, o, none⟩)] W fun e w' => e = .returned (.bool false) ∧ W = w' := by
  have c0 := blkp hr 0
  simp only [List.getElem?_toArray, List.getElem?_cons_zero] at c0
  have e0 : txB [] = (⟨#[]⟩ : ByteArray) := rfl
  rw [e0] at c0
  clear e0
  go_enter Tryd.func60, Tryd.ntmps60
  go_wp2
  go_ret
  exact ⟨rfl, rfl⟩
set_option maxRecDepth 100000 in
set_option maxHeartbeats 4000000 in
theorem octet_some (W : World) (R b o : Nat) (c : UInt8) (r : List UInt8) (hl : r.length ≤ 1000000) (hr : RdrAt W R (c :: r)) (hp : PlAt W b o) (hne : R ≠ b) :
    Calls Tryd.prog 60 #[.pointer (some ⟨R, 0, none⟩), .pointer (some ⟨b, o, none⟩)] W fun e w' => e = .returned (.bool true) ∧ w' = (W.setCell ⟨b, o, none⟩ (.int .i64 c.toNat)).setCell ⟨R, 0, none⟩ (.string (txB r)) := by
  have c0 := blkp hr 0
  simp only [List.getElem?_toArray, List.getElem?_cons_zero] at c0
  have f0 : W.frozen? ⟨R, 0, none⟩ = false := by simp [World.frozen?, show W.heap[R]? = _ from hr]
  obtain ⟨z, hz⟩ := hp.cell
  have hf := hp.frozen
  have hlt := hp.lt
  have hRl := hr.lt
  obtain ⟨V, hV⟩ : ∃ V, W.setCell ⟨b, o, none⟩ (.int .i64 c.toNat) = V := ⟨_, rfl⟩
  have hrV : RdrAt V R (c :: r) := by rw [← hV]; exact (Below.heap_setCell _ _ _ _ hne).trans hr
  have c1 := blkp hrV 0
  simp only [List.getElem?_toArray, List.getElem?_cons_zero] at c1
  have f1 : V.frozen? ⟨R, 0, none⟩ = false := by simp [World.frozen?, show V.heap[R]? = _ from hrV]
  have hsz : (txB (c :: r)).size = r.length + 1 := by rw [txB_size]; rfl
  have hx := txB_tail c r
  obtain ⟨hnm, hnm2⟩ := txB_ne c r
  have hg : (txB (c :: r))[0]'(by rw [hsz]; omega) = c := by simp [txB]; rfl
  have hcb := c.toNat_lt
  obtain ⟨T, hT⟩ : ∃ T, txB (c :: r) = T := ⟨_, rfl⟩
  have j0 : 0 < T.size := by rw [← hT, hsz]; omega
  have i0 : (0 : Int) < (T.size : Int) := by omega
  have i1 : (1 : Int) ≤ (T.size : Int) := by omega
  have j1 : T.size ≤ 1000001 := by rw [← hT, hsz]; omega
  have hg2 : T[0]'j0 = c := by subst hT; exact hg
  rw [hT] at c0 c1 hx hnm hnm2
  clear hr hp hT hg hsz hrV
  go_enter Tryd.func60, Tryd.ntmps60
  go_wp2
  go_ret
  exact ⟨rfl, by rw [hV]⟩
theorem wraps62 (n : Int) (h0 : 0 ≤ n) (h1 : n < 2 ^ 62) : IntKind.i64.wrap n = n := by rw [IntKind.wrap_i64]; omega
theorem or_zero (c : Nat) (h : c < 128) : bits .or .i64 0 (c : Int) = (c : Int) := by
  have := (bits_nat .i64 62 (by decide) wraps62 0 c (by decide) (by omega)).2
  rw [show ((0 : Nat) : Int) = 0 from rfl] at this
  rw [this]; simp
theorem or_two (a b : Nat) (ha : a < 128) (hb : b < 128) : bits .or .i64 (a : Int) ((b : Int) * 128) = ((a + 128 * b : Nat) : Int) := by
  have e : ((b : Int) * 128) = ((2 ^ 7 * b : Nat) : Int) := by omega
  rw [e, (bits_nat .i64 62 (by decide) wraps62 a _ (by omega) (by omega)).2]
  have h2 := Nat.two_pow_add_eq_or_of_lt (i := 7) (b := a) (by omega) b
  rw [Nat.or_comm, ← h2]
  omega
/-- What varint does. -/
def VarPost (W : World) (R b o : Nat) (s : List UInt8) (e : Ending) (w' : World) : Prop :=
  (∃ n r, rdV s = some (n, r) ∧ e = .returned (.bool true) ∧ RdrAt w' R r ∧ (W.setCell ⟨b, o, none⟩ (.int .i64 n)).grownBy w' (some R)) ∨
  (rdV s = none ∧ e = .returned (.bool false) ∧ ∀ base, base ≤ R → base ≤ b → Below base W w')
theorem grown_set' {V W : World} {R : Nat} (h : V.grownBy W (some R)) (v : Value) : V.grownBy (W.setCell ⟨R, 0, none⟩ v) (some R) :=
  ⟨h.os, h.tape, h.output, by rw [set_size]; exact h.size, fun k hk hne => (Below.heap_setCell _ _ _ _ (fun e => hne (by rw [e]))).trans (h.block k hk hne)⟩
theorem grown_cong {X Y Z : World} {R b o : Nat} {v : Value} (h : X.grownBy Y (some R)) (hZ : Y.setCell ⟨b, o, none⟩ v = Z) : (X.setCell ⟨b, o, none⟩ v).grownBy Z (some R) := by
  subst hZ
  exact ⟨h.os, h.tape, h.output, by rw [set_size, set_size]; exact h.size, fun k hk hne => heap_set_eq (h.block k (by rw [set_size] at hk; exact hk) hne) _ _⟩
theorem below_set {W : World} {base b o : Nat} (v : Value) (h : base ≤ b) : Below base W (W.setCell ⟨b, o, none⟩ v) :=
  ⟨rfl, rfl, rfl, by rw [set_size]; exact Nat.le_refl _, fun k hk => Below.heap_setCell _ _ _ _ (by show k ≠ b; omega)⟩
/-- What stands behind an octet that is read into a box of one's own. -/
structure Got (W W2 : World) (R b o B : Nat) (c : UInt8) (r : List UInt8) : Prop where
  cell : W2.cell? ⟨B, 0, none⟩ = some (.int .i64 c.toNat)
  rdr : RdrAt W2 R r
  pl : PlAt W2 b o
  gr : W.grownBy W2 (some R)
  lt : B < W2.heap.size
theorem got_of {W0 W W1 : World} {R b o : Nat} {c : UInt8} {r : List UInt8} (hr : RdrAt W R (c :: r)) (hp : PlAt W b o) (hne : R ≠ b) (h0 : W0.grownBy W (some R)) (hW1 : W.alloc (.cells #[.int .i64 0] 3) = W1) :
    RdrAt W1 R (c :: r) ∧ PlAt W1 W.heap.size 0 ∧ R ≠ W.heap.size ∧ Got W0 ((W1.setCell ⟨W.heap.size, 0, none⟩ (.int .i64 c.toNat)).setCell ⟨R, 0, none⟩ (.string (txB r))) R b o W.heap.size c r := by
  have hRl := hr.lt
  have hbl := hp.lt
  have hnew : W1.heap[W.heap.size]? = some (.cells #[.int .i64 0] 3 (0, 0)) := by rw [← hW1]; exact heap_alloc_new W _
  have hold : ∀ k, k < W.heap.size → W1.heap[k]? = W.heap[k]? := fun k hk => by rw [← hW1]; exact Below.heap_alloc _ _ _ hk
  have hsz : W1.heap.size = W.heap.size + 1 := by rw [← hW1]; simp
  have hR1 : RdrAt W1 R (c :: r) := (hold R hRl).trans hr
  have hP1 : PlAt W1 W.heap.size 0 := ⟨_, _, hnew, 0, rfl⟩
  have hne2 : R ≠ W.heap.size := by omega
  have hne3 : b ≠ W.heap.size := by omega
  have s1 := heap_setCell_same W1 W.heap.size 0 _ _ (.int .i64 (c.toNat : Int)) hnew
  have s2 : (W1.setCell ⟨W.heap.size, 0, none⟩ (.int .i64 c.toNat)).heap[R]? = some (.cells #[.string (txB (c :: r))] 107 (0, 0)) := (Below.heap_setCell _ _ _ _ hne2).trans hR1
  have s3 := heap_setCell_same (W1.setCell ⟨W.heap.size, 0, none⟩ (.int .i64 (c.toNat : Int))) R 0 _ _ (.string (txB r)) s2
  have s4 : ((W1.setCell ⟨W.heap.size, 0, none⟩ (.int .i64 c.toNat)).setCell ⟨R, 0, none⟩ (.string (txB r))).heap[W.heap.size]? = _ := (Below.heap_setCell _ _ _ _ (fun e => hne2 e.symm)).trans s1
  refine ⟨hR1, hP1, hne2, ?_, ?_, ?_, ?_, ?_⟩
  · simp [World.cell?, s4]
  · have s5 := s3
    simp only [List.setIfInBounds_toArray, List.set_cons_zero] at s5
    exact s5
  · refine hp.of ?_
    exact (Below.heap_setCell _ _ _ _ (fun e => hne e.symm)).trans ((Below.heap_setCell _ _ _ _ hne3).trans (hold b hbl))
  · refine ⟨?_, ?_, ?_, ?_, fun k hk hk2 => ?_⟩
    · show W1.os = _; rw [← hW1]; exact h0.os
    · show W1.tape = _; rw [← hW1]; exact h0.tape
    · show W1.output = _; rw [← hW1]; exact h0.output
    · rw [set_size, set_size, hsz]; have := h0.size; omega
    · have hkW : k < W.heap.size := Nat.lt_of_lt_of_le hk h0.size
      exact (Below.heap_setCell _ _ _ _ (fun e => hk2 (by rw [e]))).trans ((Below.heap_setCell _ _ _ _ (by show k ≠ W.heap.size; omega)).trans ((hold k hkW).trans (h0.block k hk hk2)))
  · rw [set_size, set_size, hsz]; omega
theorem grown_self (W : World) (R : Nat) : W.grownBy W (some R) := ⟨rfl, rfl, rfl, Nat.le_refl _, fun _ _ _ => rfl⟩
theorem below_grown {W W' : World} {R base : Nat} (h : W.grownBy W' (some R)) (hb : base ≤ R) (hs : base ≤ W.heap.size) : Below base W W' := (Below.refl base W).grown h hs (fun j hj => by injection hj; omega)
set_option maxRecDepth 100000 in
set_option maxHeartbeats 4000000 in
theorem varint_0 (W : World) (R b o : Nat) (hr : RdrAt W R []) : Calls Tryd.prog 59 #[.pointer (some ⟨R, 0, none⟩), .pointer (some ⟨b, o, none⟩)] W (VarPost W R b o []) := by
  have hRl := hr.lt
  obtain ⟨W1, hW1⟩ : ∃ W1, W.alloc (.cells #[.int .i64 0] 3) = W1 := ⟨_, rfl⟩
  have HR1 : Hid (RdrAt W1 R []) := Lib.hid (by rw [← hW1]; exact (Below.heap_alloc _ _ _ hRl).trans hr)
  have HB : Hid (∀ base, base ≤ R → base ≤ b → Below base W W1) := Lib.hid (fun base h1 h2 => by rw [← hW1]; exact (Below.refl _ _).alloc (by omega) _)
  have HW := Lib.hid hW1
  clear hW1 hr
  go_enter Tryd.func59, Tryd.ntmps59
  go_wp2
  refine wp_loop_rounds 1 ?_
  rw [rounds_succ]
  go_wp2_with (go_at_call 60; rw [HW.out]; refine (octet_none W1 R _ _ HR1.out).mono ?_; rintro e w' ⟨rfl, rfl⟩)
  go_ret
  exact .inr ⟨rfl, rfl, HB.out⟩
set_option maxRecDepth 100000 in
set_option maxHeartbeats 4000000 in
theorem varint_1 (W : World) (R b o : Nat) (c : UInt8) (r : List UInt8) (hc : c.toNat < 128) (hl : r.length ≤ 1000000) (hr : RdrAt W R (c :: r)) (hp : PlAt W b o) (hne : R ≠ b) : Calls Tryd.prog 59 #[.pointer (some ⟨R, 0, none⟩), .pointer (some ⟨b, o, none⟩)] W (VarPost W R b o (c :: r)) := by
  obtain ⟨W1, hW1⟩ : ∃ W1, W.alloc (.cells #[.int .i64 0] 3) = W1 := ⟨_, rfl⟩
  obtain ⟨hR1, hP1, hne2, hG⟩ := got_of hr hp hne (grown_self W R) hW1
  have HC := Lib.hid (octet_some W1 R W.heap.size 0 c r hl hR1 hP1 hne2)
  obtain ⟨W2, hW2⟩ : ∃ W2, (W1.setCell ⟨W.heap.size, 0, none⟩ (.int .i64 c.toNat)).setCell ⟨R, 0, none⟩ (.string (txB r)) = W2 := ⟨_, rfl⟩
  rw [hW2] at HC hG
  have HG := Lib.hid hG
  have HW := Lib.hid hW1
  have c0 := hG.cell
  obtain ⟨z, hz⟩ := hG.pl.cell
  have hf := hG.pl.frozen
  have hlt := hG.pl.lt
  have hlb := hG.lt
  have hRD : Hid (rdV (c :: r) = some ((c.toNat : Int), r)) := Lib.hid (by show (if _ then _ else _) = _; rw [if_pos hc])
  obtain ⟨k, hk⟩ : ∃ k, c.toNat = k := ⟨_, rfl⟩
  rw [hk] at c0 hc hRD
  have hbne : b ≠ W.heap.size := by have := hp.lt; omega
  obtain ⟨V2, hV2⟩ : ∃ V2, W2.setCell ⟨b, o, none⟩ (.int .i64 (k : Int)) = V2 := ⟨_, rfl⟩
  have c1 : V2.cell? ⟨W.heap.size, 0, none⟩ = some (.int .i64 (k : Int)) := by rw [← hV2]; exact (World.cell?_setCell_other _ _ _ _ (fun e => hbne (congrArg Addr.block e))).trans c0
  have HF : Hid (RdrAt V2 R r ∧ (W.setCell ⟨b, o, none⟩ (.int .i64 (k : Int))).grownBy V2 (some R)) := Lib.hid ⟨by rw [← hV2]; exact (Below.heap_setCell _ _ _ _ hne).trans hG.rdr, grown_cong hG.gr hV2⟩
  have hor := or_zero k hc
  have hkm : (k : Int).tmod 128 = (k : Int) := by rw [Int.tmod_eq_emod_of_nonneg (by omega)]; omega
  have hki : (k : Int) < 128 := by omega
  clear hW1 hW2 hr hp hR1 hP1 hG hl
  go_enter Tryd.func59, Tryd.ntmps59
  go_wp2
  refine wp_loop_rounds 1 ?_
  rw [rounds_succ]
  go_wp2_with (go_at_call 60; rw [HW.out]; refine HC.out.mono ?_; rintro e w' ⟨rfl, rfl⟩)
  all_goals
    go_ret
    exact .inl ⟨_, _, hRD.out, rfl, HF.out.1, HF.out.2⟩
set_option maxRecDepth 100000 in
set_option maxHeartbeats 4000000 in
theorem varint_2 (W : World) (R b o : Nat) (c : UInt8) (hc : ¬ c.toNat < 128) (hr : RdrAt W R [c]) (hp : PlAt W b o) (hne : R ≠ b) : Calls Tryd.prog 59 #[.pointer (some ⟨R, 0, none⟩), .pointer (some ⟨b, o, none⟩)] W (VarPost W R b o [c]) := by
  obtain ⟨W1, hW1⟩ : ∃ W1, W.alloc (.cells #[.int .i64 0] 3) = W1 := ⟨_, rfl⟩
  obtain ⟨hR1, hP1, hne2, hG⟩ := got_of hr hp hne (grown_self W R) hW1
  have HC := Lib.hid (octet_some W1 R W.heap.size 0 c [] (by simp) hR1 hP1 hne2)
  obtain ⟨W2, hW2⟩ : ∃ W2, (W1.setCell ⟨W.heap.size, 0, none⟩ (.int .i64 c.toNat)).setCell ⟨R, 0, none⟩ (.string (txB [])) = W2 := ⟨_, rfl⟩
  rw [hW2] at HC hG
  have HW := Lib.hid hW1
  have c0 := hG.cell
  have hRW := hr.lt
  have hpl := hp.lt
  obtain ⟨W3, hW3⟩ : ∃ W3, W2.alloc (.cells #[.int .i64 0] 3) = W3 := ⟨_, rfl⟩
  have HR3 : Hid (RdrAt W3 R []) := Lib.hid (by rw [← hW3]; exact (Below.heap_alloc _ _ _ hG.rdr.lt).trans hG.rdr)
  have HB : Hid (∀ base, base ≤ R → base ≤ b → Below base W W3) := Lib.hid (fun base h1 h2 => by
    rw [← hW3]
    exact (below_grown hG.gr h1 (by omega)).alloc (by have := hG.gr.size; omega) _)
  have HW3 := Lib.hid hW3
  have HRD : Hid (rdV [c] = none) := Lib.hid (by show (if _ then _ else _) = _; rw [if_neg hc]; rfl)
  have hcb := c.toNat_lt
  obtain ⟨k, hk⟩ : ∃ k, c.toNat = k := ⟨_, rfl⟩
  rw [hk] at c0 hc hcb
  obtain ⟨d, hd⟩ : ∃ d, k % 128 = d := ⟨_, rfl⟩
  have hd1 : d < 128 := by omega
  have hor := or_zero d hd1
  have hkm : (k : Int).tmod 128 = (d : Int) := by rw [Int.tmod_eq_emod_of_nonneg (by omega)]; omega
  have hki : ¬ (k : Int) < 128 := by omega
  clear hW1 hW2 hr hp hR1 hP1 hG hW3 hd hk hc hcb
  go_enter Tryd.func59, Tryd.ntmps59
  go_wp2
  refine wp_loop_rounds 2 ?_
  rw [rounds_succ]
  go_wp2_with (go_at_call 60; rw [HW.out]; refine HC.out.mono ?_; rintro e w' ⟨rfl, rfl⟩)
  rw [rounds_succ]
  go_wp2_with (go_at_call 60; rw [HW3.out]; refine (octet_none W3 R _ _ HR3.out).mono ?_; rintro e w' ⟨rfl, rfl⟩)
  go_ret
  exact .inr ⟨HRD.out, rfl, HB.out⟩
set_option maxRecDepth 100000 in
set_option maxHeartbeats 4000000 in
theorem varint_3 (W : World) (R b o : Nat) (c c2 : UInt8) (r : List UInt8) (hc : ¬ c.toNat < 128) (hc2 : c2.toNat < 128) (hl : r.length ≤ 900000) (hr : RdrAt W R (c :: c2 :: r)) (hp : PlAt W b o) (hne : R ≠ b) : Calls Tryd.prog 59 #[.pointer (some ⟨R, 0, none⟩), .pointer (some ⟨b, o, none⟩)] W (VarPost W R b o (c :: c2 :: r)) := by
  obtain ⟨W1, hW1⟩ : ∃ W1, W.alloc (.cells #[.int .i64 0] 3) = W1 := ⟨_, rfl⟩
  obtain ⟨hR1, hP1, hne2, hG⟩ := got_of hr hp hne (grown_self W R) hW1
  have HC := Lib.hid (octet_some W1 R W.heap.size 0 c (c2 :: r) (by simp; omega) hR1 hP1 hne2)
  obtain ⟨W2, hW2⟩ : ∃ W2, (W1.setCell ⟨W.heap.size, 0, none⟩ (.int .i64 c.toNat)).setCell ⟨R, 0, none⟩ (.string (txB (c2 :: r))) = W2 := ⟨_, rfl⟩
  rw [hW2] at HC hG
  have HW := Lib.hid hW1
  have c0 := hG.cell
  have hRW := hr.lt
  have hpl := hp.lt
  obtain ⟨W3, hW3⟩ : ∃ W3, W2.alloc (.cells #[.int .i64 0] 3) = W3 := ⟨_, rfl⟩
  obtain ⟨hR3, hP3, hne4, hG3⟩ := got_of hG.rdr hG.pl hne hG.gr hW3
  have HC3 := Lib.hid (octet_some W3 R W2.heap.size 0 c2 r (by omega) hR3 hP3 hne4)
  obtain ⟨W4, hW4⟩ : ∃ W4, (W3.setCell ⟨W2.heap.size, 0, none⟩ (.int .i64 c2.toNat)).setCell ⟨R, 0, none⟩ (.string (txB r)) = W4 := ⟨_, rfl⟩
  rw [hW4] at HC3 hG3
  have HW3 := Lib.hid hW3
  have c4 := hG3.cell
  obtain ⟨z, hz⟩ := hG3.pl.cell
  have hf := hG3.pl.frozen
  have hlt := hG3.pl.lt
  have hlb := hG3.lt
  obtain ⟨n, hn⟩ : ∃ n : Nat, c.toNat % 128 + 128 * c2.toNat = n := ⟨_, rfl⟩
  have HRD : Hid (rdV (c :: c2 :: r) = if 0 < c2.toNat then some ((n : Int), r) else none) := Lib.hid (by
    show (if _ then _ else (if _ then _ else _)) = _
    rw [if_neg hc, hn]
    by_cases h0 : 0 < c2.toNat
    · rw [if_pos ⟨hc2, h0⟩, if_pos h0]
    · rw [if_neg (fun h => h0 h.2), if_neg h0])
  have hcb := c.toNat_lt
  obtain ⟨k, hk⟩ : ∃ k, c.toNat = k := ⟨_, rfl⟩
  rw [hk] at c0 hc hcb hn
  obtain ⟨q, hq⟩ : ∃ q, c2.toNat = q := ⟨_, rfl⟩
  rw [hq] at c4 hc2 hn HRD
  have hbne : b ≠ W2.heap.size := by have := hG.gr.size; omega
  obtain ⟨V2, hV2⟩ : ∃ V2, W4.setCell ⟨b, o, none⟩ (.int .i64 (n : Int)) = V2 := ⟨_, rfl⟩
  have c5 : V2.cell? ⟨W2.heap.size, 0, none⟩ = some (.int .i64 (q : Int)) := by rw [← hV2]; exact (World.cell?_setCell_other _ _ _ _ (fun e => hbne (congrArg Addr.block e))).trans c4
  have HF : Hid (RdrAt V2 R r ∧ (W.setCell ⟨b, o, none⟩ (.int .i64 (n : Int))).grownBy V2 (some R)) := Lib.hid ⟨by rw [← hV2]; exact (Below.heap_setCell _ _ _ _ hne).trans hG3.rdr, grown_cong hG3.gr hV2⟩
  have HB : Hid (∀ base, base ≤ R → base ≤ b → Below base W V2) := Lib.hid (fun base h1 h2 => by
    rw [← hV2]
    exact (below_grown hG3.gr h1 (by omega)).trans (below_set _ h2))
  obtain ⟨d, hd⟩ : ∃ d, k % 128 = d := ⟨_, rfl⟩
  have hd1 : d < 128 := by omega
  rw [hd] at hn
  have hor := or_zero d hd1
  have hor2 := or_two d q hd1 hc2
  rw [hn] at hor2
  have hkm : (k : Int).tmod 128 = (d : Int) := by rw [Int.tmod_eq_emod_of_nonneg (by omega)]; omega
  have hqm : (q : Int).tmod 128 = (q : Int) := by rw [Int.tmod_eq_emod_of_nonneg (by omega)]; omega
  have hki : ¬ (k : Int) < 128 := by omega
  have hqi : (q : Int) < 128 := by omega
  have hsh : IntKind.i64.wrap ((q : Int) * 128) = (q : Int) * 128 := by rw [IntKind.wrap_i64]; omega
  clear hW1 hW2 hr hp hR1 hP1 hG hW3 hd hk hc hcb hW4 hR3 hP3 hG3 hl hq
  by_cases h0 : 0 < q
  · have h0i : (0 : Int) < (q : Int) := by omega
    rw [if_pos h0] at HRD
    go_enter Tryd.func59, Tryd.ntmps59
    go_wp2
    refine wp_loop_rounds 2 ?_
    rw [rounds_succ]
    go_wp2_with (go_at_call 60; rw [HW.out]; refine HC.out.mono ?_; rintro e w' ⟨rfl, rfl⟩)
    rw [rounds_succ]
    go_wp2_with (go_at_call 60; rw [HW3.out]; refine HC3.out.mono ?_; rintro e w' ⟨rfl, rfl⟩)
    go_ret
    exact .inl ⟨_, _, HRD.out, rfl, HF.out.1, HF.out.2⟩
  · have h0i : ¬ (0 : Int) < (q : Int) := by omega
    rw [if_neg h0] at HRD
    go_enter Tryd.func59, Tryd.ntmps59
    go_wp2
    refine wp_loop_rounds 2 ?_
    rw [rounds_succ]
    go_wp2_with (go_at_call 60; rw [HW.out]; refine HC.out.mono ?_; rintro e w' ⟨rfl, rfl⟩)
    rw [rounds_succ]
    go_wp2_with (go_at_call 60; rw [HW3.out]; refine HC3.out.mono ?_; rintro e w' ⟨rfl, rfl⟩)
    go_ret
    exact .inr ⟨HRD.out, rfl, HB.out⟩
set_option maxRecDepth 100000 in
set_option maxHeartbeats 4000000 in
theorem varint_4 (W : World) (R b o : Nat) (c c2 : UInt8) (r : List UInt8) (hc : ¬ c.toNat < 128) (hc2 : ¬ c2.toNat < 128) (hl : r.length ≤ 900000) (hr : RdrAt W R (c :: c2 :: r)) (hp : PlAt W b o) (hne : R ≠ b) : Calls Tryd.prog 59 #[.pointer (some ⟨R, 0, none⟩), .pointer (some ⟨b, o, none⟩)] W (VarPost W R b o (c :: c2 :: r)) := by
  obtain ⟨W1, hW1⟩ : ∃ W1, W.alloc (.cells #[.int .i64 0] 3) = W1 := ⟨_, rfl⟩
  obtain ⟨hR1, hP1, hne2, hG⟩ := got_of hr hp hne (grown_self W R) hW1
  have HC := Lib.hid (octet_some W1 R W.heap.size 0 c (c2 :: r) (by simp; omega) hR1 hP1 hne2)
  obtain ⟨W2, hW2⟩ : ∃ W2, (W1.setCell ⟨W.heap.size, 0, none⟩ (.int .i64 c.toNat)).setCell ⟨R, 0, none⟩ (.string (txB (c2 :: r))) = W2 := ⟨_, rfl⟩
  rw [hW2] at HC hG
  have HW := Lib.hid hW1
  have c0 := hG.cell
  have hRW := hr.lt
  have hpl := hp.lt
  obtain ⟨W3, hW3⟩ : ∃ W3, W2.alloc (.cells #[.int .i64 0] 3) = W3 := ⟨_, rfl⟩
  obtain ⟨hR3, hP3, hne4, hG3⟩ := got_of hG.rdr hG.pl hne hG.gr hW3
  have HC3 := Lib.hid (octet_some W3 R W2.heap.size 0 c2 r (by omega) hR3 hP3 hne4)
  obtain ⟨W4, hW4⟩ : ∃ W4, (W3.setCell ⟨W2.heap.size, 0, none⟩ (.int .i64 c2.toNat)).setCell ⟨R, 0, none⟩ (.string (txB r)) = W4 := ⟨_, rfl⟩
  rw [hW4] at HC3 hG3
  have HW3 := Lib.hid hW3
  have c4 := hG3.cell
  have hlb := hG3.lt
  have HRD : Hid (rdV (c :: c2 :: r) = none) := Lib.hid (by
    show (if _ then _ else (if _ then _ else _)) = _
    rw [if_neg hc, if_neg (fun h => hc2 h.1)])
  have HB : Hid (∀ base, base ≤ R → base ≤ b → Below base W W4) := Lib.hid (fun base h1 h2 => below_grown hG3.gr h1 (by omega))
  have hcb := c.toNat_lt
  have hcb2 := c2.toNat_lt
  obtain ⟨k, hk⟩ : ∃ k, c.toNat = k := ⟨_, rfl⟩
  rw [hk] at c0 hc hcb
  obtain ⟨q, hq⟩ : ∃ q, c2.toNat = q := ⟨_, rfl⟩
  rw [hq] at c4 hc2 hcb2
  obtain ⟨d, hd⟩ : ∃ d, k % 128 = d := ⟨_, rfl⟩
  obtain ⟨d2, hd2⟩ : ∃ d, q % 128 = d := ⟨_, rfl⟩
  have hd1 : d < 128 := by omega
  have hd3 : d2 < 128 := by omega
  have hor := or_zero d hd1
  have hor2 := or_two d d2 hd1 hd3
  have hkm : (k : Int).tmod 128 = (d : Int) := by rw [Int.tmod_eq_emod_of_nonneg (by omega)]; omega
  have hqm : (q : Int).tmod 128 = (d2 : Int) := by rw [Int.tmod_eq_emod_of_nonneg (by omega)]; omega
  have hki : ¬ (k : Int) < 128 := by omega
  have hqi : ¬ (q : Int) < 128 := by omega
  have hsh : IntKind.i64.wrap ((d2 : Int) * 128) = (d2 : Int) * 128 := by rw [IntKind.wrap_i64]; omega
  clear hW1 hW2 hr hp hR1 hP1 hG hW3 hd hk hc hcb hW4 hR3 hP3 hG3 hl hq hd2 hcb2 hc2
  go_enter Tryd.func59, Tryd.ntmps59
  go_wp2
  refine wp_loop_rounds 3 ?_
  rw [rounds_succ]
  go_wp2_with (go_at_call 60; rw [HW.out]; refine HC.out.mono ?_; rintro e w' ⟨rfl, rfl⟩)
  rw [rounds_succ]
  go_wp2_with (go_at_call 60; rw [HW3.out]; refine HC3.out.mono ?_; rintro e w' ⟨rfl, rfl⟩)
  rw [rounds_succ]
  go_wp2
  go_ret
  exact .inr ⟨HRD.out, rfl, HB.out⟩
theorem varint_any (W : World) (R b o : Nat) (s : List UInt8) (hl : s.length ≤ 800000) (hr : RdrAt W R s) (hp : PlAt W b o) (hne : R ≠ b) : Calls Tryd.prog 59 #[.pointer (some ⟨R, 0, none⟩), .pointer (some ⟨b, o, none⟩)] W (VarPost W R b o s) := by
  match s, hl, hr with
  | [], _, hr => exact varint_0 W R b o hr
  | c :: r, hl, hr =>
    by_cases hc : c.toNat < 128
    · exact varint_1 W R b o c r hc (by simp at hl; omega) hr hp hne
    · match r, hl, hr with
      | [], _, hr => exact varint_2 W R b o c hc hr hp hne
      | c2 :: r2, hl, hr =>
        by_cases hc2 : c2.toNat < 128
        · exact varint_3 W R b o c c2 r2 hc hc2 (by simp at hl; omega) hr hp hne
        · exact varint_4 W R b o c c2 r2 hc hc2 (by simp at hl; omega) hr hp hne
end Pgm
end Go.Proofs.YtfnimmbmcjgdpaaDoor
