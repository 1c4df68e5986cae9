/- The landed show: the printer's state; write. · The landed show: write. · Mathematics of bracket: escapes of numbers and of sets. · The plain mathematics of the classes: lists of numbers, two and two; which class a letter or a name means; no program. · Mathematics of bracket: escapes of sets, items, what stands between brackets. -/
import Derived.Test.YtanffablfgnioaaGreatDoorGp2
import Derived.Lib.AppendStr
import Derived.Recover
import Derived.Defers
import Derived.Test.YtanffablfgnioaaGreatDoorGp1
namespace Go.Proofs.YtanffablfgnioaaGreatDoor
open Go.RowKit
set_option linter.unusedVariables false
theorem Tryz.infoByte : (Tryz.prog.info? 5).map (fun i => (i.zero, i.size, i.bytes)) = some (some (.int .u8 0), 1, 1) := by kernel_rfl
theorem Tryz.underBytes : Tryz.prog.underlying 44 = some (.slice 5) := by kernel_rfl
theorem Tryz.underTextS : Tryz.prog.underlying 9 = some .string := by kernel_rfl
theorem strCells_nums (s : ByteArray) : Lib.strCells s = (Utf.nums s).map (Value.int .u8) := by
  unfold Lib.strCells Utf.nums
  rw [List.map_map]
  rfl
/-- The printer: its box, and what is printed. -/
def PrOk (W : World) (B : Nat) (O : List Int) : Prop := ∃ v, W.heap[B]? = some (.cells #[v] 46 (0, 0)) ∧ W.ownsRow (B + 1) 5 1 v O.length (O.map (Value.int .u8))
/-- A block that is no row of bytes and no printer. -/
def NoP (o : Option Obj) : Prop := (∀ c f, o ≠ some (.cells c 5 f)) ∧ ∀ c f, o ≠ some (.cells c 46 f)
/-- What a call of the printer leaves alone. -/
structure Kp (W : World) (B : Nat) (W' : World) : Prop where
  os : W'.os = W.os
  tape : W'.tape = W.tape
  output : W'.output = W.output
  size : W.heap.size ≤ W'.heap.size
  block : ∀ k, k < W.heap.size → (k < B ∨ NoP W.heap[k]?) → W'.heap[k]? = W.heap[k]?
theorem Kp.refl (W : World) (B : Nat) : Kp W B W := ⟨rfl, rfl, rfl, Nat.le_refl _, fun _ _ _ => rfl⟩
theorem Kp.trans {W W' W'' : World} {B : Nat} (h : Kp W B W') (k : Kp W' B W'') : Kp W B W'' :=
  ⟨k.os.trans h.os, k.tape.trans h.tape, k.output.trans h.output, Nat.le_trans h.size k.size, fun b hb hn => by
    have e := h.block b hb hn
    exact (k.block b (Nat.lt_of_lt_of_le hb h.size) (by rw [e]; exact hn)).trans e⟩
theorem Kp.below {W W' : World} {B : Nat} (k : Kp W B W') (hB : B ≤ W.heap.size) : Below B W W' := ⟨k.os, k.tape, k.output, k.size, fun b hb => k.block b (by omega) (.inl hb)⟩
theorem Kp.of_below {W W' : World} (B : Nat) (hb : Below W.heap.size W W') : Kp W B W' := ⟨hb.os, hb.tape, hb.output, hb.size, fun k hk _ => hb.block k hk⟩
theorem Kp.kept {W W' : World} {B k : Nat} (h : Kp W B W') {o : Obj} (ho : W.heap[k]? = some o) (hn : NoP (some o)) : W'.heap[k]? = some o :=
  (h.block k (Array.getElem?_eq_some_iff.1 ho).1 (.inr (by rw [ho]; exact hn))).trans ho
theorem noP_of {c : Array Value} {t : TypeId} {f : Nat × Nat} (h1 : t ≠ 5) (h2 : t ≠ 46) : NoP (some (.cells c t f)) :=
  ⟨fun c' f' e => by injection e with e; injection e with _ e _; exact h1 e, fun c' f' e => by injection e with e; injection e with _ e _; exact h2 e⟩
theorem PrOk.lt {W : World} {B : Nat} {O : List Int} (h : PrOk W B O) : B < W.heap.size := by
  obtain ⟨v, h1, _⟩ := h
  exact (Array.getElem?_eq_some_iff.1 h1).1
theorem PrOk.alloc {W : World} {B : Nat} {O : List Int} (h : PrOk W B O) (o : Obj) : PrOk (W.alloc o) B O := by
  have hlt := h.lt
  obtain ⟨v, h1, h2⟩ := h
  exact ⟨v, by rw [Below.heap_alloc W o B hlt]; exact h1, h2.alloc _⟩
/-- What Below leaves of the printer. -/
theorem PrOk.below {W W' : World} {B : Nat} {O : List Int} (h : PrOk W B O) (hb : Below W.heap.size W W') : PrOk W' B O := by
  have hlt := h.lt
  obtain ⟨v, h1, h2⟩ := h
  exact ⟨v, (hb.block _ hlt).trans h1, World.ownsRow.kept h2 ⟨hb.os, hb.tape, hb.output, hb.size, fun k hk _ => hb.block k hk⟩ (row := none) (by cases hv : v.ownBlock <;> simp)⟩
/-- The printer's box written anew behind an append. -/
theorem printer_put {W W1 : World} {B n : Nat} {O O1 : List Int} {v v1 : Value} (hbx : W.heap[B]? = some (.cells #[v] 46 (0, 0))) (hown : W.ownsRow (B + 1) 5 1 v n (O.map (Value.int .u8)))
    (hown1 : W1.ownsRow (B + 1) 5 1 v1 O1.length (O1.map (Value.int .u8))) (hg : W.grownBy W1 v.ownBlock) :
    W1.heap[B]? = some (.cells #[v] 46 (0, 0)) ∧ PrOk (W1.setCell ⟨B, 0, none⟩ v1) B O1 ∧ Kp W B (W1.setCell ⟨B, 0, none⟩ v1) := by
  have hlt := (Array.getElem?_eq_some_iff.1 hbx).1
  have hne : ∀ k, (k ≤ B ∨ NoP W.heap[k]?) → some k ≠ v.ownBlock := fun k hk => by
    rcases hown.2 with ⟨e, _⟩ | ⟨g, cap, cur, e, hge, hgc, _⟩
    · rw [e]; intro e2; cases e2
    · rw [e]; intro e2
      injection e2 with e2
      have e3 : k = g := e2
      subst e3
      rcases hk with hk | hk
      · omega
      · exact hk.1 cur _ hgc
  have hB1 : W1.heap[B]? = some (.cells #[v] 46 (0, 0)) := (hg.block B hlt (hne B (.inl (Nat.le_refl _)))).trans hbx
  have hB2 : (W1.setCell ⟨B, 0, none⟩ v1).heap[B]? = some (.cells #[v1] 46 (0, 0)) := by
    have h9 := heap_setCell_same W1 B 0 _ _ v1 hB1
    simpa using h9
  have hoth : ∀ b, b ≠ B → (W1.setCell ⟨B, 0, none⟩ v1).heap[b]? = W1.heap[b]? := fun b hb => heap_setCell_other W1 ⟨B, 0, none⟩ b v1 hb
  refine ⟨hB1, ⟨v1, hB2, hown1.1, ?_⟩, ⟨hg.os, hg.tape, hg.output, by simpa using hg.size, fun k hk hn => ?_⟩⟩
  · rcases hown1.2 with h | ⟨g, cap, cur, e, hge, hgc, h5⟩
    · exact .inl h
    · exact .inr ⟨g, cap, cur, e, hge, by rw [hoth g (by omega)]; exact hgc, h5⟩
  · by_cases hkB : k = B
    · subst hkB
      rcases hn with hn | hn
      · omega
      · exact absurd hbx (hn.2 _ _)
    · rw [hoth k hkB]
      exact hg.block k hk (hne k (by rcases hn with hn | hn; exact .inl (by omega); exact .inr hn))
theorem cell_box {W : World} {B : Nat} {v : Value} {t : TypeId} (h : W.heap[B]? = some (.cells #[v] t (0, 0))) : W.cell? ⟨B, 0, none⟩ = some v := by simp [World.cell?, h]
theorem frozen_box {W : World} {B : Nat} {v : Value} {t : TypeId} (h : W.heap[B]? = some (.cells #[v] t (0, 0))) : W.frozen? ⟨B, 0, none⟩ = false := by simp [World.frozen?, h]
/-- A call that prints X behind O. -/
def PrQ (W : World) (B : Nat) (O X : List Int) (e : Ending) (w' : World) : Prop :=
  Kp W B w' ∧ ((O.length + X.length ≤ 4096 ∧ e = .returned (.tuple #[]) ∧ PrOk w' B (O ++ X)) ∨
    (4096 < O.length + X.length ∧ ∃ O', 4096 < O'.length ∧ O'.length ≤ 10000000 ∧ e = .panicked [{ v := .iface 68 (.agg #[]), recovered := false }] ∧ PrOk w' B O'))
set_option maxRecDepth 100000 in
set_option maxHeartbeats 4000000 in
theorem tooLong_any (W : World) (B : Nat) (O : List Int) (h : PrOk W B O) (hl : O.length ≤ 10000000) : Calls Tryz.prog 72 #[.pointer (some ⟨B, 0, none⟩)] W fun e w' => e = .returned (.bool (decide (4096 < O.length))) ∧ W = w' := by
  obtain ⟨v, h1, h2⟩ := h
  have hv : ∃ a c, v = .slice a O.length c := by
    rcases h2.2 with ⟨e, e0⟩ | ⟨g, cap, cur, e, _⟩
    · exact ⟨none, 0, by rw [e, e0]⟩
    · exact ⟨_, _, e⟩
  obtain ⟨a, c, rfl⟩ := hv
  obtain ⟨n, hn⟩ : ∃ n, O.length = n := ⟨_, rfl⟩
  rw [hn] at h1 hl ⊢
  have q0 : W.cell? ⟨B, 0, none⟩ = some (.slice a n c) := by simp [World.cell?, h1]
  have hd : decide ((4096 : Int) < (n : Int)) = decide (4096 < n) := by
    by_cases h9 : 4096 < n
    · rw [decide_eq_true h9, decide_eq_true (by omega)]
    · rw [decide_eq_false h9, decide_eq_false (by omega)]
  clear h1 h2 hn
  go_enter Tryz.func72, Tryz.ntmps72
  go_wp2
  go_ret
  exact ⟨rfl, rfl⟩
end Go.Proofs.YtanffablfgnioaaGreatDoor
namespace Go.Proofs.YtanffablfgnioaaGreatDoor
open Go.RowKit
set_option linter.unusedVariables false
set_option maxRecDepth 100000 in
set_option maxHeartbeats 4000000 in
theorem write_any (W : World) (B : Nat) (O : List Int) (s : ByteArray) (h : PrOk W B O) (hl : O.length ≤ 4096) (hs : s.size ≤ 1000000) : Calls Tryz.prog 45 #[.pointer (some ⟨B, 0, none⟩), .string s] W (PrQ W B O (Utf.nums s)) := by
  have HT := Lib.hid (fun w O' (h' : PrOk w B O') (hl' : O'.length ≤ 10000000) => tooLong_any w B O' h' hl')
  have HP := Lib.hid h
  obtain ⟨v, hbx, hown⟩ := h
  have q0 := cell_box hbx
  have q1 := frozen_box hbx
  have hc1 := HT.out W O HP.out (by omega)
  rw [decide_eq_false (by omega)] at hc1
  obtain ⟨i0, hi, hz0, hz1, hz2⟩ := info_parts Tryz.infoByte
  have HBX := Lib.hid hbx
  have HOWN := Lib.hid hown
  have HC1 := Lib.hid hc1
  clear hbx hown hc1
  go_enter Tryz.func45, Tryz.ntmps45
  go_wp2_with fail
  refine HC1.out.mono ?_
  rintro e w' ⟨rfl, rfl⟩
  go_wp2_with (at_builtin; (refine Lib.wpList_append_own_string _ rfl _ _ 44 9 (by rfl) (B + 1) 5 i0 Tryz.underBytes Tryz.underTextS hi hz0 hz1 hz2 v O.length (O.map (Value.int .u8)) (by rfl) HOWN.out s (by rfl) (by unfold maxLen; omega) (by omega) (by have := HP.out.lt; omega) ?_))
  intro v' w' hown' hgr _
  have hown2 : w'.ownsRow (B + 1) 5 1 v' (O ++ Utf.nums s).length ((O ++ Utf.nums s).map (Value.int .u8)) := by
    rw [List.length_append, Utf.nums_length, List.map_append, ← strCells_nums]; exact hown'
  obtain ⟨a1, c1, hv1⟩ : ∃ a c, v' = .slice a (O.length + s.size) c := by
    rcases hown'.2 with ⟨e, e0⟩ | ⟨g, cap, cur, e, _⟩
    · exact ⟨none, 0, by rw [e, e0]⟩
    · exact ⟨_, _, e⟩
  subst hv1
  obtain ⟨hB1, hpr, hkp⟩ := printer_put HBX.out HOWN.out hown2 hgr
  have p0 := cell_box hB1
  have p1 := frozen_box hB1
  obtain ⟨w2, hw2⟩ : ∃ w2, w'.setCell ⟨B, 0, none⟩ (.slice a1 (O.length + s.size) c1) = w2 := ⟨_, rfl⟩
  rw [hw2] at hpr hkp
  have HW2 := Lib.hid hw2
  have HPR := Lib.hid hpr
  have HKP := Lib.hid hkp
  have hlen : (O ++ Utf.nums s).length = O.length + s.size := by rw [List.length_append, Utf.nums_length]
  have hlb : (O ++ Utf.nums s).length ≤ 10000000 := by omega
  have HLN := Lib.hid hlen
  have HC2 := Lib.hid (HT.out w2 _ hpr hlb)
  clear hown' hgr hown2 hB1 hpr hkp hw2 hlen
  by_cases hlong : 4096 < (O ++ Utf.nums s).length
  · rw [decide_eq_true hlong] at HC2
    have HLO := Lib.hid hlong
    clear hlong
    go_wp2_with fail
    rw [HW2.out]
    refine HC2.out.mono ?_
    rintro e w3 ⟨rfl, rfl⟩
    go_wp2
    refine ⟨rfl, ?_⟩
    exact ⟨HKP.out, .inr ⟨by rw [Utf.nums_length]; have := HLO.out; have := HLN.out; omega, _, HLO.out, hlb, rfl, HPR.out⟩⟩
  · rw [decide_eq_false hlong] at HC2
    have HLO := Lib.hid hlong
    clear hlong
    go_wp2_with fail
    rw [HW2.out]
    refine HC2.out.mono ?_
    rintro e w3 ⟨rfl, rfl⟩
    go_wp2
    refine ⟨rfl, .tuple #[], by simp [results, Tryz.f45, go_sem], ?_⟩
    exact ⟨HKP.out, .inl ⟨by rw [Utf.nums_length]; have := HLO.out; have := HLN.out; omega, rfl, HPR.out⟩⟩
set_option maxRecDepth 100000 in
set_option maxHeartbeats 4000000 in
theorem writeD_any (u : FrameMode) (W : World) (B : Nat) (O : List Int) (s : ByteArray) (h : PrOk W B O) (hl : O.length ≤ 4096) (hs : s.size ≤ 1000000) : CallsD Tryz.prog 45 #[.pointer (some ⟨B, 0, none⟩), .string s] u W fun e u' w' => u' = u ∧ PrQ W B O (Utf.nums s) e w' := by
  have HT := Lib.hid (fun w O' (h' : PrOk w B O') (hl' : O'.length ≤ 10000000) => tooLong_any w B O' h' hl')
  have HP := Lib.hid h
  obtain ⟨v, hbx, hown⟩ := h
  have q0 := cell_box hbx
  have q1 := frozen_box hbx
  have hc1 := HT.out W O HP.out (by omega)
  rw [decide_eq_false (by omega)] at hc1
  obtain ⟨i0, hi, hz0, hz1, hz2⟩ := info_parts Tryz.infoByte
  have HBX := Lib.hid hbx
  have HOWN := Lib.hid hown
  have HC1 := Lib.hid hc1
  clear hbx hown hc1
  refine callsD_of_wp Tryz.func45 rfl ?_
  simp only [Tryz.ntmps45, List.size_toArray, List.length_cons, List.length_nil, Nat.reduceAdd, Nat.reduceSub, Array.replicate_succ, Array.replicate_zero, List.push_toArray, List.append_toArray, List.nil_append, List.cons_append]
  go_wp2_with fail
  refine HC1.out.mono ?_
  rintro e w' ⟨rfl, rfl⟩
  go_wp2_with (at_builtin; (refine Lib.wpList_append_own_string _ rfl _ _ 44 9 (by rfl) (B + 1) 5 i0 Tryz.underBytes Tryz.underTextS hi hz0 hz1 hz2 v O.length (O.map (Value.int .u8)) (by rfl) HOWN.out s (by rfl) (by unfold maxLen; omega) (by omega) (by have := HP.out.lt; omega) ?_))
  intro v' w' hown' hgr _
  have hown2 : w'.ownsRow (B + 1) 5 1 v' (O ++ Utf.nums s).length ((O ++ Utf.nums s).map (Value.int .u8)) := by
    rw [List.length_append, Utf.nums_length, List.map_append, ← strCells_nums]; exact hown'
  obtain ⟨a1, c1, hv1⟩ : ∃ a c, v' = .slice a (O.length + s.size) c := by
    rcases hown'.2 with ⟨e, e0⟩ | ⟨g, cap, cur, e, _⟩
    · exact ⟨none, 0, by rw [e, e0]⟩
    · exact ⟨_, _, e⟩
  subst hv1
  obtain ⟨hB1, hpr, hkp⟩ := printer_put HBX.out HOWN.out hown2 hgr
  have p0 := cell_box hB1
  have p1 := frozen_box hB1
  obtain ⟨w2, hw2⟩ : ∃ w2, w'.setCell ⟨B, 0, none⟩ (.slice a1 (O.length + s.size) c1) = w2 := ⟨_, rfl⟩
  rw [hw2] at hpr hkp
  have HW2 := Lib.hid hw2
  have HPR := Lib.hid hpr
  have HKP := Lib.hid hkp
  have hlen : (O ++ Utf.nums s).length = O.length + s.size := by rw [List.length_append, Utf.nums_length]
  have hlb : (O ++ Utf.nums s).length ≤ 10000000 := by omega
  have HLN := Lib.hid hlen
  have HC2 := Lib.hid (HT.out w2 _ hpr hlb)
  clear hown' hgr hown2 hB1 hpr hkp hw2 hlen
  by_cases hlong : 4096 < (O ++ Utf.nums s).length
  · rw [decide_eq_true hlong] at HC2
    have HLO := Lib.hid hlong
    clear hlong
    go_wp2_with fail
    rw [HW2.out]
    refine HC2.out.mono ?_
    rintro e w3 ⟨rfl, rfl⟩
    go_wp2
    refine ⟨rfl, ?_⟩
    exact ⟨HKP.out, .inr ⟨by rw [Utf.nums_length]; have := HLO.out; have := HLN.out; omega, _, HLO.out, hlb, rfl, HPR.out⟩⟩
  · rw [decide_eq_false hlong] at HC2
    have HLO := Lib.hid hlong
    clear hlong
    go_wp2_with fail
    rw [HW2.out]
    refine HC2.out.mono ?_
    rintro e w3 ⟨rfl, rfl⟩
    go_wp2
    refine ⟨rfl, .tuple #[], by simp [results, Tryz.f45, go_sem], ?_⟩
    exact ⟨HKP.out, .inl ⟨by rw [Utf.nums_length]; have := HLO.out; have := HLN.out; omega, rfl, HPR.out⟩⟩
set_option maxRecDepth 100000 in
set_option maxHeartbeats 4000000 in
/-- On the way out of a pattern that is too long nothing more is printed. -/
theorem writeL_any (u : FrameMode) (W : World) (B : Nat) (O : List Int) (s : ByteArray) (h : PrOk W B O) (hl : 4096 < O.length) (hl2 : O.length ≤ 10000000) : CallsD Tryz.prog 45 #[.pointer (some ⟨B, 0, none⟩), .string s] u W fun e u' w' => u' = u ∧ e = .returned (.tuple #[]) ∧ w' = W := by
  have hc1 := tooLong_any W B O h hl2
  rw [decide_eq_true hl] at hc1
  have HC1 := Lib.hid hc1
  clear hc1
  refine callsD_of_wp Tryz.func45 rfl ?_
  simp only [Tryz.ntmps45, List.size_toArray, List.length_cons, List.length_nil, Nat.reduceAdd, Nat.reduceSub, Array.replicate_succ, Array.replicate_zero, List.push_toArray, List.append_toArray, List.nil_append, List.cons_append]
  go_wp2_with fail
  refine HC1.out.mono ?_
  rintro e w' ⟨rfl, rfl⟩
  go_wp2
  refine ⟨rfl, .tuple #[], by simp [results, Tryz.f45, go_sem], ?_⟩
  exact ⟨rfl, rfl⟩
end Go.Proofs.YtanffablfgnioaaGreatDoor
namespace Go.Proofs.YtanffablfgnioaaGreatDoor.Br
set_option linter.unusedVariables false
/-- What a hexadecimal digit says; -1: it is none. -/
def dig (c : Int) : Int := if 48 ≤ c ∧ c ≤ 57 then c - 48 else if 97 ≤ c ∧ c ≤ 102 then c - 87 else if 65 ≤ c ∧ c ≤ 70 then c - 55 else -1
/-- How many digits stand in front, at most so many. -/
def cnt : List Int → Nat → Nat
  | x :: l, m + 1 => if 0 ≤ dig x then cnt l m + 1 else 0
  | _, _ => 0
/-- The number that the first k make. -/
def val (l : List Int) (k : Nat) : Int := (l.take k).foldl (fun a x => a * 16 + dig x) 0
def letB (c : Int) : Bool := (decide (65 ≤ c) && decide (c ≤ 90)) || (decide (97 ≤ c) && decide (c ≤ 122))
def signB (c : Int) : Bool := decide (33 ≤ c) && decide (c ≤ 126) && !letB c && !(decide (48 ≤ c) && decide (c ≤ 57))
def plain (c : Int) : Int × Int × Int :=
  if c = 97 then (7, 2, 0) else if c = 116 then (9, 2, 0) else if c = 110 then (10, 2, 0) else if c = 118 then (11, 2, 0) else if c = 102 then (12, 2, 0) else if c = 114 then (13, 2, 0)
  else if signB c = true then (c, 2, 0) else (0, 0, 80)
def braced (l : List Int) : Int × Int × Int :=
  let n := cnt (l.drop 3) 6
  if 3 + n = l.length then (0, 0, 82) else if l[3 + n]?.getD 0 ≠ 125 ∨ n = 0 ∨ 1114111 < val (l.drop 3) n then (0, 0, 80) else (val (l.drop 3) n, n + 4, 0)
def two (l : List Int) : Int × Int × Int :=
  let n := cnt (l.drop 2) 2
  if n = 2 then (val (l.drop 2) 2, 4, 0) else if n + 2 = l.length then (0, 0, 82) else (0, 0, 80)
/-- An escape of a number: what it says, its length, and its code. -/
def num (l : List Int) : Int × Int × Int :=
  if l[0]?.getD 0 ≠ 92 then (0, 0, 3) else if l.length = 1 then (0, 0, 82) else if l[1]?.getD 0 ≠ 120 then plain (l[1]?.getD 0) else if l[2]?.getD 0 = 123 then braced l else two l
theorem dig_bd (c : Int) : -1 ≤ dig c ∧ dig c ≤ 15 := by unfold dig; split <;> (try split) <;> (try split) <;> omega
theorem cnt_le : ∀ (l : List Int) (m : Nat), cnt l m ≤ m ∧ cnt l m ≤ l.length
  | [], m => by cases m <;> simp [cnt]
  | x :: l, 0 => by simp [cnt]
  | x :: l, m + 1 => by
    have := cnt_le l m
    unfold cnt
    split <;> simp <;> omega
theorem cnt_yes : ∀ (l : List Int) (m k : Nat), k < cnt l m → 0 ≤ dig (l[k]?.getD 0)
  | [], m, k, h => by have := (cnt_le [] m).2; simp at this; omega
  | x :: l, 0, k, h => by simp [cnt] at h
  | x :: l, m + 1, k, h => by
    unfold cnt at h
    split at h
    · cases k with
      | zero => simpa
      | succ k => simpa using cnt_yes l m k (by omega)
    · omega
theorem cnt_no : ∀ (l : List Int) (m : Nat), cnt l m < m → cnt l m < l.length → dig (l[cnt l m]?.getD 0) < 0
  | [], m, h, h' => by simp at h'
  | x :: l, 0, h, h' => by omega
  | x :: l, m + 1, h, h' => by
    unfold cnt at h h' ⊢
    split
    · rename_i hx
      rw [if_pos hx] at h h'
      simpa using cnt_no l m (by omega) (by simpa using h')
    · rename_i hx
      simpa using hx
theorem val_succ (l : List Int) (k : Nat) (h : k < l.length) : val l (k + 1) = val l k * 16 + dig (l[k]?.getD 0) := by
  unfold val
  rw [List.take_succ_eq_append_getElem h, List.foldl_append, List.getElem?_eq_getElem h]
  rfl
theorem val_bd (l : List Int) (m : Nat) : ∀ k, k ≤ cnt l m → 0 ≤ val l k ∧ val l k < 16 ^ k
  | 0, _ => by simp [val]
  | k + 1, h => by
    have ih := val_bd l m k (by omega)
    have h1 := cnt_yes l m k (by omega)
    have h2 := (dig_bd (l[k]?.getD 0)).2
    rw [val_succ l k (by have := (cnt_le l m).2; omega)]
    have e : (16 : Int) ^ (k + 1) = 16 ^ k * 16 := by rw [Int.pow_succ]
    omega
/-- Where a count ends: it is all, or what follows is no digit. -/
theorem cnt_ends (l : List Int) (m k : Nat) (hk : k ≤ m) (hl : k ≤ l.length) (hy : ∀ j, j < k → 0 ≤ dig (l[j]?.getD 0)) (he : k = m ∨ k = l.length ∨ dig (l[k]?.getD 0) < 0) : cnt l m = k := by
  have h1 := cnt_le l m
  rcases Nat.lt_trichotomy (cnt l m) k with h | h | h
  · have := cnt_no l m (by omega) (by omega)
    have := hy _ h
    omega
  · exact h
  · rcases he with e | e | e
    · omega
    · omega
    · have := cnt_yes l m k h; omega
end Go.Proofs.YtanffablfgnioaaGreatDoor.Br
namespace Go.Proofs.YtanffablfgnioaaGreatDoor.Cl
open Go.Proofs.YtanffablfgnioaaGreatDoor.Rg
set_option linter.unusedVariables false
/-- Numbers, two and two. -/
def pairsOf : List Int → List R
  | a :: b :: t => (a, b) :: pairsOf t
  | _ => []
/-! ### Which class -/
def word : List Int := [48, 57, 65, 90, 95, 95, 97, 122]
def latin : List Int := [65, 90, 97, 122, 170, 170, 186, 186, 192, 214, 216, 246, 248, 591]
def greek : List Int := [880, 883, 885, 887, 890, 893, 895, 895, 900, 900, 902, 902, 904, 906, 908, 908, 910, 929, 931, 993, 1008, 1023, 8486, 8486]
def cyrillic : List Int := [1024, 1156, 1159, 1327]
def capitals : List Int := [65, 90, 192, 214, 216, 222, 376, 376, 913, 929, 931, 939, 1024, 1071]
def small : List Int := [97, 122, 181, 181, 223, 246, 248, 255, 940, 974, 1072, 1119, 383, 383]
/-- The class of a name between colons. -/
def colonT : List (List UInt8 × List Int) := [
  ([97, 108, 110, 117, 109], [48, 57, 65, 90, 97, 122]), ([97, 108, 112, 104, 97], [65, 90, 97, 122]), ([97, 115, 99, 105, 105], [0, 127]), ([98, 108, 97, 110, 107], [9, 9, 32, 32]),
  ([99, 110, 116, 114, 108], [0, 31, 127, 127]), ([100, 105, 103, 105, 116], [48, 57]), ([103, 114, 97, 112, 104], [33, 126]), ([108, 111, 119, 101, 114], [97, 122]), ([112, 114, 105, 110, 116], [32, 126]),
  ([112, 117, 110, 99, 116], [33, 47, 58, 64, 91, 96, 123, 126]), ([115, 112, 97, 99, 101], [9, 13, 32, 32]), ([117, 112, 112, 101, 114], [65, 90]), ([119, 111, 114, 100], word), ([120, 100, 105, 103, 105, 116], [48, 57, 65, 70, 97, 102])]
/-- The class of a property. -/
def propT : List (List UInt8 × List Int) := [
  ([65, 110, 121], [0, 1114111]), ([67, 121, 114, 105, 108, 108, 105, 99], cyrillic), ([71, 114, 101, 101, 107], greek), ([76], capitals ++ small ++ latin ++ greek ++ cyrillic), ([76, 97, 116, 105, 110], latin),
  ([76, 108], small), ([76, 117], capitals), ([78, 100], [48, 57, 1632, 1641, 1776, 1785, 2406, 2415])]
/-- What a table has of a name; with one 94 ahead: what the rest lacks. -/
def look (T : List (List UInt8 × List Int)) (s : List UInt8) : Option (List Int) := (T.find? fun e => s == e.1).map Prod.snd
def bare : List UInt8 → List UInt8 × Bool
  | 94 :: t => (t, true)
  | s => (s, false)
def lookC (T : List (List UInt8 × List Int)) (s : List UInt8) : Option (Bool × List Int) := (look T (bare s).1).map fun n => ((bare s).2, n)
def letterX (c : Int) : Option (Bool × List Int) :=
  if c = 100 then some (false, [48, 57]) else if c = 68 then some (true, [48, 57]) else
  if c = 115 then some (false, [9, 10, 12, 13, 32, 32]) else if c = 83 then some (true, [9, 10, 12, 13, 32, 32]) else
  if c = 119 then some (false, word) else if c = 87 then some (true, word) else none
/-- A list and a code are those of a class. -/
def ClassIs : Option (Bool × List Int) → List R → Int → Prop
  | none, out, code => out = [] ∧ code = 70
  | some (neg, T), out, code => code = 0 ∧ NormL out ∧ ∀ q, 0 ≤ q → q ≤ 1114111 → hasB out q = (neg != hasB (pairsOf T) q)
end Go.Proofs.YtanffablfgnioaaGreatDoor.Cl
namespace Go.Proofs.YtanffablfgnioaaGreatDoor.Br
open Go.Proofs.YtanffablfgnioaaGreatDoor.Rg
set_option linter.unusedVariables false
/-- How many stand ahead of the first c (all of them, where there is none). -/
def upTo (c : Int) : List Int → Nat
  | [] => 0
  | x :: l => if x = c then 0 else upTo c l + 1
/-- How many stand ahead of the first c that d follows (all of them, where there is none). -/
def upTo2 (c d : Int) : List Int → Nat
  | [] => 0
  | x :: l => if x = c ∧ l[0]? = some d then 0 else upTo2 c d l + 1
theorem upTo_le (c : Int) : ∀ l, upTo c l ≤ l.length
  | [] => Nat.le_refl _
  | x :: l => by unfold upTo; have := upTo_le c l; split <;> simp <;> omega
theorem upTo_at (c : Int) : ∀ l, upTo c l < l.length → l[upTo c l]? = some c
  | [], h => by simp [upTo] at h
  | x :: l, h => by
    unfold upTo at h ⊢
    split
    · rename_i hx; simp [hx]
    · rename_i hx
      rw [if_neg hx] at h
      simpa using upTo_at c l (by simpa using h)
theorem upTo_no (c : Int) : ∀ (l : List Int) (k : Nat), k < upTo c l → l[k]? ≠ some c
  | [], k, h => by simp
  | x :: l, k, h => by
    unfold upTo at h
    split at h
    · omega
    · rename_i hx
      cases k with
      | zero => simpa using hx
      | succ k => simpa using upTo_no c l k (by omega)
/-- Where the first c stands. -/
theorem upTo_is (c : Int) (l : List Int) (k : Nat) (hk : l[k]? = some c) (hy : ∀ j, j < k → l[j]? ≠ some c) : upTo c l = k := by
  have hl := (List.getElem?_eq_some_iff.1 hk).1
  have h1 := upTo_le c l
  rcases Nat.lt_trichotomy (upTo c l) k with h | h | h
  · exact absurd (upTo_at c l (by omega)) (hy _ h)
  · exact h
  · exact absurd hk (upTo_no c l k h)
theorem upTo_none (c : Int) (l : List Int) (hy : ∀ j, j < l.length → l[j]? ≠ some c) : upTo c l = l.length := by
  have h1 := upTo_le c l
  rcases Nat.lt_or_ge (upTo c l) l.length with h | h
  · exact absurd (upTo_at c l h) (hy _ h)
  · omega
theorem upTo2_le (c d : Int) : ∀ l, upTo2 c d l ≤ l.length
  | [] => Nat.le_refl _
  | x :: l => by unfold upTo2; have := upTo2_le c d l; split <;> simp <;> omega
theorem upTo2_at (c d : Int) : ∀ l, upTo2 c d l < l.length → l[upTo2 c d l]? = some c ∧ l[upTo2 c d l + 1]? = some d
  | [], h => by simp [upTo2] at h
  | x :: l, h => by
    unfold upTo2 at h ⊢
    split
    · rename_i hx; exact ⟨by simp [hx.1], by simpa using hx.2⟩
    · rename_i hx
      rw [if_neg hx] at h
      simpa using upTo2_at c d l (by simpa using h)
theorem upTo2_no (c d : Int) : ∀ (l : List Int) (k : Nat), k < upTo2 c d l → ¬ (l[k]? = some c ∧ l[k + 1]? = some d)
  | [], k, h => by simp
  | x :: l, k, h => by
    unfold upTo2 at h
    split at h
    · omega
    · rename_i hx
      cases k with
      | zero => intro hh; exact hx ⟨by simpa using hh.1, by simpa using hh.2⟩
      | succ k => simpa using upTo2_no c d l k (by omega)
theorem upTo2_is (c d : Int) (l : List Int) (k : Nat) (hk : l[k]? = some c) (hk2 : l[k + 1]? = some d) (hy : ∀ j, j < k → ¬ (l[j]? = some c ∧ l[j + 1]? = some d)) : upTo2 c d l = k := by
  have hl := (List.getElem?_eq_some_iff.1 hk).1
  have h1 := upTo2_le c d l
  rcases Nat.lt_trichotomy (upTo2 c d l) k with h | h | h
  · exact absurd (upTo2_at c d l (by omega)) (hy _ h)
  · exact h
  · exact absurd ⟨hk, hk2⟩ (upTo2_no c d l k h)
/-- The name of a property, the escape's length, and its code. -/
def nameX (s : ByteArray) : ByteArray × Int × Int :=
  let l := Utf.nums s
  if l.length = 2 then (⟨#[]⟩, 0, 82) else if letB (l[2]?.getD 0) = true then (s.extract 2 3, 3, 0) else if l[2]?.getD 0 ≠ 123 then (⟨#[]⟩, 0, 70)
  else if upTo 125 (l.drop 3) = (l.drop 3).length then (⟨#[]⟩, 0, 82) else (s.extract 3 (3 + upTo 125 (l.drop 3)), upTo 125 (l.drop 3) + 4, 0)
abbrev Cls := Option (Bool × List Int)
def propX (s : ByteArray) (neg : Bool) : Cls × Int × Int :=
  if (nameX s).2.2 ≠ 0 then (none, 0, (nameX s).2.2) else
  match Cl.lookC Cl.propT (nameX s).1.data.toList with
  | none => (none, 0, 70)
  | some (b, T) => (some (b != neg, T), (nameX s).2.1, 0)
/-- An escape of a set: its class, its length, and its code. -/
def set (s : ByteArray) : Cls × Int × Int :=
  let l := Utf.nums s
  if l[0]?.getD 0 ≠ 92 then (none, 0, 3) else if l.length = 1 then (none, 0, 5) else
  if l[1]?.getD 0 = 80 then propX s true else if l[1]?.getD 0 = 112 then propX s false else
  match Cl.letterX (l[1]?.getD 0) with
  | none => (none, 0, 5)
  | some x => (some x, 2, 0)
/-- A list is that of a class; there is none: it is empty. -/
def SetIs : Cls → List R → Prop
  | none, out => out = []
  | some (neg, T), out => NormL out ∧ ∀ q, 0 ≤ q → q ≤ 1114111 → hasB out q = (neg != hasB (Cl.pairsOf T) q)
theorem setIs_unique {X : Cls} {a b : List R} (h : SetIs X a) (k : SetIs X b) : a = b := by
  cases X with
  | none => exact Eq.trans h (Eq.symm k)
  | some p => exact norm_ext h.1 k.1 (fun q h0 h1 => by rw [h.2 q h0 h1, k.2 q h0 h1])
theorem setIs_of {X : Cls} {out : List R} {code : Int} (h : Cl.ClassIs X out code) : SetIs X out := by
  cases X with
  | none => exact h.1
  | some p => exact h.2
theorem setIs_not {neg : Bool} {T : List Int} {mid out : List R} (h : SetIs (some (neg, T)) mid) (k : Made 3 [(0, 1114111)] mid out) : SetIs (some (!neg, T)) out :=
  ⟨k.norm, fun q h0 h1 => by
    rw [k.has q h0 h1, h.2 q h0 h1]
    have e : hasB [(0, 1114111)] q = true := (hasB_iff _ _).2 ⟨⟨h0, h1⟩, (0, 1114111), by simp, h0, h1⟩
    rw [e]
    cases neg <;> cases hasB (Cl.pairsOf T) q <;> rfl⟩
/-- What an item stands for. -/
inductive It where
  | cls (x : Bool × List Int)
  | rng (lo hi : Int)
def ItIs : It → List R → Prop
  | .cls x, out => SetIs (some x) out
  | .rng lo hi, out => out = [(lo, hi)]
theorem itIs_unique {X : It} {a b : List R} (h : ItIs X a) (k : ItIs X b) : a = b := by
  cases X with
  | cls x => exact setIs_unique (show SetIs (some x) a from h) (show SetIs (some x) b from k)
  | rng lo hi => exact Eq.trans h (Eq.symm k)
/-- A list is that of items, one behind another. -/
inductive ItsIs : List It → List R → Prop where
  | nil : ItsIs [] []
  | snoc {Xs : List It} {L : List R} {X : It} {l : List R} : ItsIs Xs L → ItIs X l → ItsIs (Xs ++ [X]) (L ++ l)
theorem itsIs_nil {L : List R} (h : ItsIs [] L) : L = [] := by
  generalize hX : ([] : List It) = Xs at h
  cases h with
  | nil => rfl
  | snoc _ _ => exact absurd hX (by simp)
theorem itsIs_snoc {Xs : List It} {X : It} {L : List R} (h : ItsIs (Xs ++ [X]) L) : ∃ M l, L = M ++ l ∧ ItsIs Xs M ∧ ItIs X l := by
  generalize hX : Xs ++ [X] = Ys at h
  cases h with
  | nil => exact absurd hX (by simp)
  | snoc h1 h2 =>
    obtain ⟨e1, e2⟩ := List.append_inj' hX rfl
    subst e1
    cases e2
    exact ⟨_, _, rfl, h1, h2⟩
theorem itsIs_unique {Xs : List It} {a : List R} (h : ItsIs Xs a) : ∀ {b : List R}, ItsIs Xs b → a = b := by
  induction h with
  | nil => intro b k; exact (itsIs_nil k).symm
  | snoc _ h2 ih =>
    intro b k
    obtain ⟨M, l, rfl, k1, k2⟩ := itsIs_snoc k
    rw [ih k1, itIs_unique h2 k2]
/-- A character: its number, its length, its code. -/
def one (l : List Int) : Int × Int × Int := if l[0]?.getD 0 = 92 then num l else if (Utf.dec l).1 < 0 then (0, 0, 3) else ((Utf.dec l).1, (Utf.dec l).2, 0)
inductive Res (α : Type) where
  | bad (at_ code : Int)
  | ok (x : α) (next : Nat)
/-- The item at a place of a text: what it stands for, and the place behind it; or what is wrong, and where. -/
def colonX (s : ByteArray) (at_ : Nat) : Res It :=
  let l := (Utf.nums s).drop (at_ + 2)
  if upTo2 58 93 l = l.length then .bad at_ 82 else
  match Cl.lookC Cl.colonT (s.extract (at_ + 2) (at_ + 2 + upTo2 58 93 l)).data.toList with
  | none => .bad at_ 70
  | some x => .ok (.cls x) (at_ + 4 + upTo2 58 93 l)
def goesOn (l : List Int) : Bool := decide (l[0]? = some 45) && decide (2 ≤ l.length) && !decide (l[1]? = some 93)
def span (s : ByteArray) (at_ : Nat) : Res It :=
  let o := one ((Utf.nums s).drop at_)
  if o.2.2 ≠ 0 then .bad at_ o.2.2 else
  let e := at_ + o.2.1.toNat
  if goesOn ((Utf.nums s).drop e) = false then .ok (.rng o.1 o.1) e else
  let c := (set (s.extract (e + 1) s.size)).2.2
  if c ≠ 3 ∧ c ≠ 5 then .bad (e + 1) 70 else
  let p := one ((Utf.nums s).drop (e + 1))
  if p.2.2 ≠ 0 then .bad (e + 1) p.2.2 else if p.1 < o.1 then .bad at_ 70 else .ok (.rng o.1 p.1) (e + 1 + p.2.1.toNat)
def item (s : ByteArray) (at_ : Nat) : Res It :=
  let l := (Utf.nums s).drop at_
  if l[0]? = some 91 ∧ l[1]? = some 58 then colonX s at_ else
  let x := set (s.extract at_ s.size)
  if x.2.2 = 0 then (match x.1 with | some y => .ok (.cls y) (at_ + x.2.1.toNat) | none => .bad at_ 0)
  else if x.2.2 ≠ 3 ∧ x.2.2 ≠ 5 then .bad at_ x.2.2 else span s at_
/-- The items of a text from a place on, to the closing bracket; the first of them begins at 'first'. -/
def items (s : ByteArray) (first : Nat) : Nat → Nat → List It → Res (List It)
  | 0, at_, Xs => .bad s.size 82
  | f + 1, at_, Xs =>
    if s.size ≤ at_ then .bad s.size 82 else if (Utf.nums s)[at_]?.getD 0 = 93 ∧ first < at_ then .ok Xs at_ else
    match item s at_ with
    | .bad o c => .bad o c
    | .ok x next => items s first f next (Xs ++ [x])
def first (l : List Int) : Nat := if l[1]?.getD 0 = 94 then 2 else 1
/-- What stands between brackets. -/
def brack (s : ByteArray) : Res (List It) :=
  if (Utf.nums s)[0]?.getD 0 ≠ 91 then .bad 0 3 else items s (first (Utf.nums s)) (s.size + 1 - first (Utf.nums s)) (first (Utf.nums s)) []
end Go.Proofs.YtanffablfgnioaaGreatDoor.Br
