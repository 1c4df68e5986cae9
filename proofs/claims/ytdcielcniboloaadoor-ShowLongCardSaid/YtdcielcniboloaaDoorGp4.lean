/- The landed show: write. · Mathematics of bracket: escapes of numbers and of sets. · The plain mathematics of the classes: lists of numbers, two and two; which class a letter or a name means; no program. · Mathematics of bracket: escapes of sets, items, what stands between brackets. -/
import Derived.Test.YtdcielcniboloaaDoorGp3
import Derived.Test.YtdcielcniboloaaDoorGp1
namespace Go.Proofs.YtdcielcniboloaaDoor
open Go.RowKit
set_option linter.unusedVariables false
set_option maxRecDepth 100000 in
set_option maxHeartbeats 4000000 in
theorem write_any (W : World) (B : Nat) (O : List Int) (s : ByteArray) (h : PrOk W B O) (hl : O.length ≤ 4096) (hs : s.size ≤ 1000000) : Calls Tryd.prog 34 #[.pointer (some ⟨B, 0, none⟩), .string s] W (PrQ W B O (Utf.nums s)) := by
  have HT := Lib.hid (fun w O' (h' : PrOk w B O') (hl' : O'.length ≤ 10000000) => tooLong_any w B O' h' hl')
  have HP := Lib.hid h
  obtain ⟨v, hbx, hown⟩ := h
  have q0 := cell_box hbx
  have q1 := frozen_box hbx
  have hc1 := HT.out W O HP.out (by omega)
  rw [decide_eq_false (by omega)] at hc1
  obtain ⟨i0, hi, hz0, hz1, hz2⟩ := info_parts Tryd.infoByte
  have HBX := Lib.hid hbx
  have HOWN := Lib.hid hown
  have HC1 := Lib.hid hc1
  clear hbx hown hc1
  go_enter Tryd.func34, Tryd.ntmps34
  go_wp2_with fail
  refine HC1.out.mono ?_
  rintro e w' ⟨rfl, rfl⟩
  go_wp2_with (at_builtin; (refine Lib.wpList_append_own_string _ rfl _ _ 37 9 (by rfl) (B + 1) 5 i0 Tryd.underBytes Tryd.underTextS hi hz0 hz1 hz2 v O.length (O.map (Value.int .u8)) (by rfl) HOWN.out s (by rfl) (by unfold maxLen; omega) (by omega) (by have := HP.out.lt; omega) ?_))
  intro v' w' hown' hgr _
  have hown2 : w'.ownsRow (B + 1) 5 1 v' (O ++ Utf.nums s).length ((O ++ Utf.nums s).map (Value.int .u8)) := by
    rw [List.length_append, Utf.nums_length, List.map_append, ← strCells_nums]; exact hown'
  obtain ⟨a1, c1, hv1⟩ : ∃ a c, v' = .slice a (O.length + s.size) c := by
    rcases hown'.2 with ⟨e, e0⟩ | ⟨g, cap, cur, e, _⟩
    · exact ⟨none, 0, by rw [e, e0]⟩
    · exact ⟨_, _, e⟩
  subst hv1
  obtain ⟨hB1, hpr, hkp⟩ := printer_put HBX.out HOWN.out hown2 hgr
  have p0 := cell_box hB1
  have p1 := frozen_box hB1
  obtain ⟨w2, hw2⟩ : ∃ w2, w'.setCell ⟨B, 0, none⟩ (.slice a1 (O.length + s.size) c1) = w2 := ⟨_, rfl⟩
  rw [hw2] at hpr hkp
  have HW2 := Lib.hid hw2
  have HPR := Lib.hid hpr
  have HKP := Lib.hid hkp
  have hlen : (O ++ Utf.nums s).length = O.length + s.size := by rw [List.length_append, Utf.nums_length]
  have hlb : (O ++ Utf.nums s).length ≤ 10000000 := by omega
  have HLN := Lib.hid hlen
  have HC2 := Lib.hid (HT.out w2 _ hpr hlb)
  clear hown' hgr hown2 hB1 hpr hkp hw2 hlen
  by_cases hlong : 4096 < (O ++ Utf.nums s).length
  · rw [decide_eq_true hlong] at HC2
    have HLO := Lib.hid hlong
    clear hlong
    go_wp2_with fail
    rw [HW2.out]
    refine HC2.out.mono ?_
    rintro e w3 ⟨rfl, rfl⟩
    go_wp2
    refine ⟨rfl, ?_⟩
    exact ⟨HKP.out, .inr ⟨by rw [Utf.nums_length]; have := HLO.out; have := HLN.out; omega, _, HLO.out, hlb, rfl, HPR.out⟩⟩
  · rw [decide_eq_false hlong] at HC2
    have HLO := Lib.hid hlong
    clear hlong
    go_wp2_with fail
    rw [HW2.out]
    refine HC2.out.mono ?_
    rintro e w3 ⟨rfl, rfl⟩
    go_wp2
    refine ⟨rfl, .tuple #[], by simp [results, Tryd.f34, go_sem], ?_⟩
    exact ⟨HKP.out, .inl ⟨by rw [Utf.nums_length]; have := HLO.out; have := HLN.out; omega, rfl, HPR.out⟩⟩
set_option maxRecDepth 100000 in
set_option maxHeartbeats 4000000 in
theorem writeD_any (u : FrameMode) (W : World) (B : Nat) (O : List Int) (s : ByteArray) (h : PrOk W B O) (hl : O.length ≤ 4096) (hs : s.size ≤ 1000000) : CallsD Tryd.prog 34 #[.pointer (some ⟨B, 0, none⟩), .string s] u W fun e u' w' => u' = u ∧ PrQ W B O (Utf.nums s) e w' := by
  have HT := Lib.hid (fun w O' (h' : PrOk w B O') (hl' : O'.length ≤ 10000000) => tooLong_any w B O' h' hl')
  have HP := Lib.hid h
  obtain ⟨v, hbx, hown⟩ := h
  have q0 := cell_box hbx
  have q1 := frozen_box hbx
  have hc1 := HT.out W O HP.out (by omega)
  rw [decide_eq_false (by omega)] at hc1
  obtain ⟨i0, hi, hz0, hz1, hz2⟩ := info_parts Tryd.infoByte
  have HBX := Lib.hid hbx
  have HOWN := Lib.hid hown
  have HC1 := Lib.hid hc1
  clear hbx hown hc1
  refine callsD_of_wp Tryd.func34 rfl ?_
  simp only [Tryd.ntmps34, List.size_toArray, List.length_cons, List.length_nil, Nat.reduceAdd, Nat.reduceSub, Array.replicate_succ, Array.replicate_zero, List.push_toArray, List.append_toArray, List.nil_append, List.cons_append]
  go_wp2_with fail
  refine HC1.out.mono ?_
  rintro e w' ⟨rfl, rfl⟩
  go_wp2_with (at_builtin; (refine Lib.wpList_append_own_string _ rfl _ _ 37 9 (by rfl) (B + 1) 5 i0 Tryd.underBytes Tryd.underTextS hi hz0 hz1 hz2 v O.length (O.map (Value.int .u8)) (by rfl) HOWN.out s (by rfl) (by unfold maxLen; omega) (by omega) (by have := HP.out.lt; omega) ?_))
  intro v' w' hown' hgr _
  have hown2 : w'.ownsRow (B + 1) 5 1 v' (O ++ Utf.nums s).length ((O ++ Utf.nums s).map (Value.int .u8)) := by
    rw [List.length_append, Utf.nums_length, List.map_append, ← strCells_nums]; exact hown'
  obtain ⟨a1, c1, hv1⟩ : ∃ a c, v' = .slice a (O.length + s.size) c := by
    rcases hown'.2 with ⟨e, e0⟩ | ⟨g, cap, cur, e, _⟩
    · exact ⟨none, 0, by rw [e, e0]⟩
    · exact ⟨_, _, e⟩
  subst hv1
  obtain ⟨hB1, hpr, hkp⟩ := printer_put HBX.out HOWN.out hown2 hgr
  have p0 := cell_box hB1
  have p1 := frozen_box hB1
  obtain ⟨w2, hw2⟩ : ∃ w2, w'.setCell ⟨B, 0, none⟩ (.slice a1 (O.length + s.size) c1) = w2 := ⟨_, rfl⟩
  rw [hw2] at hpr hkp
  have HW2 := Lib.hid hw2
  have HPR := Lib.hid hpr
  have HKP := Lib.hid hkp
  have hlen : (O ++ Utf.nums s).length = O.length + s.size := by rw [List.length_append, Utf.nums_length]
  have hlb : (O ++ Utf.nums s).length ≤ 10000000 := by omega
  have HLN := Lib.hid hlen
  have HC2 := Lib.hid (HT.out w2 _ hpr hlb)
  clear hown' hgr hown2 hB1 hpr hkp hw2 hlen
  by_cases hlong : 4096 < (O ++ Utf.nums s).length
  · rw [decide_eq_true hlong] at HC2
    have HLO := Lib.hid hlong
    clear hlong
    go_wp2_with fail
    rw [HW2.out]
    refine HC2.out.mono ?_
    rintro e w3 ⟨rfl, rfl⟩
    go_wp2
    refine ⟨rfl, ?_⟩
    exact ⟨HKP.out, .inr ⟨by rw [Utf.nums_length]; have := HLO.out; have := HLN.out; omega, _, HLO.out, hlb, rfl, HPR.out⟩⟩
  · rw [decide_eq_false hlong] at HC2
    have HLO := Lib.hid hlong
    clear hlong
    go_wp2_with fail
    rw [HW2.out]
    refine HC2.out.mono ?_
    rintro e w3 ⟨rfl, rfl⟩
    go_wp2
    refine ⟨rfl, .tuple #[], by simp [results, Tryd.f34, go_sem], ?_⟩
    exact ⟨HKP.out, .inl ⟨by rw [Utf.nums_length]; have := HLO.out; have := HLN.out; omega, rfl, HPR.out⟩⟩
set_option maxRecDepth 100000 in
set_option maxHeartbeats 4000000 in
/-- On the way out of a pattern that is too long nothing more is printed. -/
theorem writeL_any (u : FrameMode) (W : World) (B : Nat) (O : List Int) (s : ByteArray) (h : PrOk W B O) (hl : 4096 < O.length) (hl2 : O.length ≤ 10000000) : CallsD Tryd.prog 34 #[.pointer (some ⟨B, 0, none⟩), .string s] u W fun e u' w' => u' = u ∧ e = .returned (.tuple #[]) ∧ w' = W := by
  have hc1 := tooLong_any W B O h hl2
  rw [decide_eq_true hl] at hc1
  have HC1 := Lib.hid hc1
  clear hc1
  refine callsD_of_wp Tryd.func34 rfl ?_
  simp only [Tryd.ntmps34, List.size_toArray, List.length_cons, List.length_nil, Nat.reduceAdd, Nat.reduceSub, Array.replicate_succ, Array.replicate_zero, List.push_toArray, List.append_toArray, List.nil_append, List.cons_append]
  go_wp2_with fail
  refine HC1.out.mono ?_
  rintro e w' ⟨rfl, rfl⟩
  go_wp2
  refine ⟨rfl, .tuple #[], by simp [results, Tryd.f34, go_sem], ?_⟩
  exact ⟨rfl, rfl⟩
end Go.Proofs.YtdcielcniboloaaDoor
namespace Go.Proofs.YtdcielcniboloaaDoor.Br
set_option linter.unusedVariables false
/-- What a hexadecimal digit says; -1: it is none. -/
def dig (c : Int) : Int := if 48 ≤ c ∧ c ≤ 57 then c - 48 else if 97 ≤ c ∧ c ≤ 102 then c - 87 else if 65 ≤ c ∧ c ≤ 70 then c - 55 else -1
/-- How many digits stand in front, at most so many. -/
def cnt : List Int → Nat → Nat
  | x :: l, m + 1 => if 0 ≤ dig x then cnt l m + 1 else 0
  | _, _ => 0
/-- The number that the first k make. -/
def val (l : List Int) (k : Nat) : Int := (l.take k).foldl (fun a x => a * 16 + dig x) 0
def letB (c : Int) : Bool := (decide (65 ≤ c) && decide (c ≤ 90)) || (decide (97 ≤ c) && decide (c ≤ 122))
def signB (c : Int) : Bool := decide (33 ≤ c) && decide (c ≤ 126) && !letB c && !(decide (48 ≤ c) && decide (c ≤ 57))
def plain (c : Int) : Int × Int × Int :=
  if c = 97 then (7, 2, 0) else if c = 116 then (9, 2, 0) else if c = 110 then (10, 2, 0) else if c = 118 then (11, 2, 0) else if c = 102 then (12, 2, 0) else if c = 114 then (13, 2, 0)
  else if signB c = true then (c, 2, 0) else (0, 0, 80)
def braced (l : List Int) : Int × Int × Int :=
  let n := cnt (l.drop 3) 6
  if 3 + n = l.length then (0, 0, 82) else if l[3 + n]?.getD 0 ≠ 125 ∨ n = 0 ∨ 1114111 < val (l.drop 3) n then (0, 0, 80) else (val (l.drop 3) n, n + 4, 0)
def two (l : List Int) : Int × Int × Int :=
  let n := cnt (l.drop 2) 2
  if n = 2 then (val (l.drop 2) 2, 4, 0) else if n + 2 = l.length then (0, 0, 82) else (0, 0, 80)
/-- An escape of a number: what it says, its length, and its code. -/
def num (l : List Int) : Int × Int × Int :=
  if l[0]?.getD 0 ≠ 92 then (0, 0, 3) else if l.length = 1 then (0, 0, 82) else if l[1]?.getD 0 ≠ 120 then plain (l[1]?.getD 0) else if l[2]?.getD 0 = 123 then braced l else two l
end Go.Proofs.YtdcielcniboloaaDoor.Br
namespace Go.Proofs.YtdcielcniboloaaDoor.Cl
open Go.Proofs.YtdcielcniboloaaDoor.Rg
set_option linter.unusedVariables false
/-- Numbers, two and two. -/
def pairsOf : List Int → List R
  | a :: b :: t => (a, b) :: pairsOf t
  | _ => []
/-! ### Which class -/
def word : List Int := [48, 57, 65, 90, 95, 95, 97, 122]
def latin : List Int := [65, 90, 97, 122, 170, 170, 186, 186, 192, 214, 216, 246, 248, 591]
def greek : List Int := [880, 883, 885, 887, 890, 893, 895, 895, 900, 900, 902, 902, 904, 906, 908, 908, 910, 929, 931, 993, 1008, 1023, 8486, 8486]
def cyrillic : List Int := [1024, 1156, 1159, 1327]
def capitals : List Int := [65, 90, 192, 214, 216, 222, 376, 376, 913, 929, 931, 939, 1024, 1071]
def small : List Int := [97, 122, 181, 181, 223, 246, 248, 255, 940, 974, 1072, 1119, 383, 383]
/-- The class of a name between colons. -/
def colonT : List (List UInt8 × List Int) := [
  ([97, 108, 110, 117, 109], [48, 57, 65, 90, 97, 122]), ([97, 108, 112, 104, 97], [65, 90, 97, 122]), ([97, 115, 99, 105, 105], [0, 127]), ([98, 108, 97, 110, 107], [9, 9, 32, 32]),
  ([99, 110, 116, 114, 108], [0, 31, 127, 127]), ([100, 105, 103, 105, 116], [48, 57]), ([103, 114, 97, 112, 104], [33, 126]), ([108, 111, 119, 101, 114], [97, 122]), ([112, 114, 105, 110, 116], [32, 126]),
  ([112, 117, 110, 99, 116], [33, 47, 58, 64, 91, 96, 123, 126]), ([115, 112, 97, 99, 101], [9, 13, 32, 32]), ([117, 112, 112, 101, 114], [65, 90]), ([119, 111, 114, 100], word), ([120, 100, 105, 103, 105, 116], [48, 57, 65, 70, 97, 102])]
/-- The class of a property. -/
def propT : List (List UInt8 × List Int) := [
  ([65, 110, 121], [0, 1114111]), ([67, 121, 114, 105, 108, 108, 105, 99], cyrillic), ([71, 114, 101, 101, 107], greek), ([76], capitals ++ small ++ latin ++ greek ++ cyrillic), ([76, 97, 116, 105, 110], latin),
  ([76, 108], small), ([76, 117], capitals), ([78, 100], [48, 57, 1632, 1641, 1776, 1785, 2406, 2415])]
/-- What a table has of a name; with one 94 ahead: what the rest lacks. -/
def look (T : List (List UInt8 × List Int)) (s : List UInt8) : Option (List Int) := (T.find? fun e => s == e.1).map Prod.snd
def bare : List UInt8 → List UInt8 × Bool
  | 94 :: t => (t, true)
  | s => (s, false)
def lookC (T : List (List UInt8 × List Int)) (s : List UInt8) : Option (Bool × List Int) := (look T (bare s).1).map fun n => ((bare s).2, n)
def letterX (c : Int) : Option (Bool × List Int) :=
  if c = 100 then some (false, [48, 57]) else if c = 68 then some (true, [48, 57]) else
  if c = 115 then some (false, [9, 10, 12, 13, 32, 32]) else if c = 83 then some (true, [9, 10, 12, 13, 32, 32]) else
  if c = 119 then some (false, word) else if c = 87 then some (true, word) else none
end Go.Proofs.YtdcielcniboloaaDoor.Cl
namespace Go.Proofs.YtdcielcniboloaaDoor.Br
open Go.Proofs.YtdcielcniboloaaDoor.Rg
set_option linter.unusedVariables false
/-- How many stand ahead of the first c (all of them, where there is none). -/
def upTo (c : Int) : List Int → Nat
  | [] => 0
  | x :: l => if x = c then 0 else upTo c l + 1
/-- How many stand ahead of the first c that d follows (all of them, where there is none). -/
def upTo2 (c d : Int) : List Int → Nat
  | [] => 0
  | x :: l => if x = c ∧ l[0]? = some d then 0 else upTo2 c d l + 1
/-- The name of a property, the escape's length, and its code. -/
def nameX (s : ByteArray) : ByteArray × Int × Int :=
  let l := Utf.nums s
  if l.length = 2 then (⟨#[]⟩, 0, 82) else if letB (l[2]?.getD 0) = true then (s.extract 2 3, 3, 0) else if l[2]?.getD 0 ≠ 123 then (⟨#[]⟩, 0, 70)
  else if upTo 125 (l.drop 3) = (l.drop 3).length then (⟨#[]⟩, 0, 82) else (s.extract 3 (3 + upTo 125 (l.drop 3)), upTo 125 (l.drop 3) + 4, 0)
abbrev Cls := Option (Bool × List Int)
def propX (s : ByteArray) (neg : Bool) : Cls × Int × Int :=
  if (nameX s).2.2 ≠ 0 then (none, 0, (nameX s).2.2) else
  match Cl.lookC Cl.propT (nameX s).1.data.toList with
  | none => (none, 0, 70)
  | some (b, T) => (some (b != neg, T), (nameX s).2.1, 0)
/-- An escape of a set: its class, its length, and its code. -/
def set (s : ByteArray) : Cls × Int × Int :=
  let l := Utf.nums s
  if l[0]?.getD 0 ≠ 92 then (none, 0, 3) else if l.length = 1 then (none, 0, 5) else
  if l[1]?.getD 0 = 80 then propX s true else if l[1]?.getD 0 = 112 then propX s false else
  match Cl.letterX (l[1]?.getD 0) with
  | none => (none, 0, 5)
  | some x => (some x, 2, 0)
/-- A list is that of a class; there is none: it is empty. -/
def SetIs : Cls → List R → Prop
  | none, out => out = []
  | some (neg, T), out => NormL out ∧ ∀ q, 0 ≤ q → q ≤ 1114111 → hasB out q = (neg != hasB (Cl.pairsOf T) q)
/-- What an item stands for. -/
inductive It where
  | cls (x : Bool × List Int)
  | rng (lo hi : Int)
def ItIs : It → List R → Prop
  | .cls x, out => SetIs (some x) out
  | .rng lo hi, out => out = [(lo, hi)]
/-- A list is that of items, one behind another. -/
inductive ItsIs : List It → List R → Prop where
  | nil : ItsIs [] []
  | snoc {Xs : List It} {L : List R} {X : It} {l : List R} : ItsIs Xs L → ItIs X l → ItsIs (Xs ++ [X]) (L ++ l)
/-- A character: its number, its length, its code. -/
def one (l : List Int) : Int × Int × Int := if l[0]?.getD 0 = 92 then num l else if (Utf.dec l).1 < 0 then (0, 0, 3) else ((Utf.dec l).1, (Utf.dec l).2, 0)
inductive Res (α : Type) where
  | bad (at_ code : Int)
  | ok (x : α) (next : Nat)
/-- The item at a place of a text: what it stands for, and the place behind it; or what is wrong, and where. -/
def colonX (s : ByteArray) (at_ : Nat) : Res It :=
  let l := (Utf.nums s).drop (at_ + 2)
  if upTo2 58 93 l = l.length then .bad at_ 82 else
  match Cl.lookC Cl.colonT (s.extract (at_ + 2) (at_ + 2 + upTo2 58 93 l)).data.toList with
  | none => .bad at_ 70
  | some x => .ok (.cls x) (at_ + 4 + upTo2 58 93 l)
def goesOn (l : List Int) : Bool := decide (l[0]? = some 45) && decide (2 ≤ l.length) && !decide (l[1]? = some 93)
def span (s : ByteArray) (at_ : Nat) : Res It :=
  let o := one ((Utf.nums s).drop at_)
  if o.2.2 ≠ 0 then .bad at_ o.2.2 else
  let e := at_ + o.2.1.toNat
  if goesOn ((Utf.nums s).drop e) = false then .ok (.rng o.1 o.1) e else
  let c := (set (s.extract (e + 1) s.size)).2.2
  if c ≠ 3 ∧ c ≠ 5 then .bad (e + 1) 70 else
  let p := one ((Utf.nums s).drop (e + 1))
  if p.2.2 ≠ 0 then .bad (e + 1) p.2.2 else if p.1 < o.1 then .bad at_ 70 else .ok (.rng o.1 p.1) (e + 1 + p.2.1.toNat)
def item (s : ByteArray) (at_ : Nat) : Res It :=
  let l := (Utf.nums s).drop at_
  if l[0]? = some 91 ∧ l[1]? = some 58 then colonX s at_ else
  let x := set (s.extract at_ s.size)
  if x.2.2 = 0 then (match x.1 with | some y => .ok (.cls y) (at_ + x.2.1.toNat) | none => .bad at_ 0)
  else if x.2.2 ≠ 3 ∧ x.2.2 ≠ 5 then .bad at_ x.2.2 else span s at_
/-- The items of a text from a place on, to the closing bracket; the first of them begins at 'first'. -/
def items (s : ByteArray) (first : Nat) : Nat → Nat → List It → Res (List It)
  | 0, at_, Xs => .bad s.size 82
  | f + 1, at_, Xs =>
    if s.size ≤ at_ then .bad s.size 82 else if (Utf.nums s)[at_]?.getD 0 = 93 ∧ first < at_ then .ok Xs at_ else
    match item s at_ with
    | .bad o c => .bad o c
    | .ok x next => items s first f next (Xs ++ [x])
def first (l : List Int) : Nat := if l[1]?.getD 0 = 94 then 2 else 1
end Go.Proofs.YtdcielcniboloaaDoor.Br
