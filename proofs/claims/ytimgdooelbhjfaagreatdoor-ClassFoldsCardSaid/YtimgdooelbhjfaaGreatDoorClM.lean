/- The plain mathematics of the classes: lists of numbers, two and two; which class a letter or a name means; no program. -/
import Derived.Test.YtimgdooelbhjfaaGreatDoorRgMath
namespace Go.Proofs.YtimgdooelbhjfaaGreatDoor.Cl
open Go.Proofs.YtimgdooelbhjfaaGreatDoor.Rg
set_option linter.unusedVariables false
/-- Numbers, two and two. -/
def pairsOf : List Int → List R
  | a :: b :: t => (a, b) :: pairsOf t
  | _ => []
theorem pairsOf_len : ∀ T : List Int, (pairsOf T).length = T.length / 2
  | [] => rfl
  | [_] => by simp [pairsOf]
  | a :: b :: t => by
    rw [show pairsOf (a :: b :: t) = (a, b) :: pairsOf t from rfl, List.length_cons, pairsOf_len t]
    simp; omega
theorem pairsOf_take : ∀ (T : List Int) (k : Nat), k * 2 + 1 < T.length → pairsOf (T.take (k * 2 + 2)) = pairsOf (T.take (k * 2)) ++ [(T[k * 2]?.getD 0, T[k * 2 + 1]?.getD 0)]
  | [], k, h => by simp at h
  | [_], k, h => by simp at h
  | a :: b :: t, 0, h => by simp [pairsOf]
  | a :: b :: t, k + 1, h => by
    have ih := pairsOf_take t k (by simp at h; omega)
    have e1 : (k + 1) * 2 = k * 2 + 2 := by omega
    rw [e1]
    show pairsOf (a :: b :: t.take (k * 2 + 2)) = pairsOf (a :: b :: t.take (k * 2)) ++ _
    rw [show pairsOf (a :: b :: t.take (k * 2 + 2)) = (a, b) :: pairsOf (t.take (k * 2 + 2)) from rfl, show pairsOf (a :: b :: t.take (k * 2)) = (a, b) :: pairsOf (t.take (k * 2)) from rfl, ih]
    simp
theorem pairsOf_mem : ∀ (T : List Int) (p : R), p ∈ pairsOf T → p.1 ∈ T ∧ p.2 ∈ T
  | [], p, h => by simp [pairsOf] at h
  | [_], p, h => by simp [pairsOf] at h
  | a :: b :: t, p, h => by
    rcases List.mem_cons.1 (show p ∈ (a, b) :: pairsOf t from h) with rfl | h
    · simp
    · have := pairsOf_mem t p h
      simp [this]
theorem pairsOf_all (T : List Int) (k : Nat) (h : T.length = k * 2 ∨ T.length = k * 2 + 1) : pairsOf (T.take (k * 2)) = pairsOf T := by
  rcases h with h | h
  · rw [List.take_of_length_le (by omega)]
  · induction k generalizing T with
    | zero =>
      match T, h with
      | [a], _ => rfl
    | succ k ih =>
      match T, h with
      | a :: b :: t, h =>
        have e1 : (k + 1) * 2 = k * 2 + 2 := by omega
        rw [e1]
        show pairsOf (a :: b :: t.take (k * 2)) = pairsOf (a :: b :: t)
        rw [show pairsOf (a :: b :: t.take (k * 2)) = (a, b) :: pairsOf (t.take (k * 2)) from rfl, ih t (by simp at h; omega)]; rfl
/-! ### Which class -/
def word : List Int := [48, 57, 65, 90, 95, 95, 97, 122]
def latin : List Int := [65, 90, 97, 122, 170, 170, 186, 186, 192, 214, 216, 246, 248, 591]
def greek : List Int := [880, 883, 885, 887, 890, 893, 895, 895, 900, 900, 902, 902, 904, 906, 908, 908, 910, 929, 931, 993, 1008, 1023, 8486, 8486]
def cyrillic : List Int := [1024, 1156, 1159, 1327]
def capitals : List Int := [65, 90, 192, 214, 216, 222, 376, 376, 913, 929, 931, 939, 1024, 1071]
def small : List Int := [97, 122, 181, 181, 223, 246, 248, 255, 940, 974, 1072, 1119, 383, 383]
/-- The class of a name between colons. -/
def colonT : List (List UInt8 × List Int) := [
  ([97, 108, 110, 117, 109], [48, 57, 65, 90, 97, 122]), ([97, 108, 112, 104, 97], [65, 90, 97, 122]), ([97, 115, 99, 105, 105], [0, 127]), ([98, 108, 97, 110, 107], [9, 9, 32, 32]),
  ([99, 110, 116, 114, 108], [0, 31, 127, 127]), ([100, 105, 103, 105, 116], [48, 57]), ([103, 114, 97, 112, 104], [33, 126]), ([108, 111, 119, 101, 114], [97, 122]), ([112, 114, 105, 110, 116], [32, 126]),
  ([112, 117, 110, 99, 116], [33, 47, 58, 64, 91, 96, 123, 126]), ([115, 112, 97, 99, 101], [9, 13, 32, 32]), ([117, 112, 112, 101, 114], [65, 90]), ([119, 111, 114, 100], word), ([120, 100, 105, 103, 105, 116], [48, 57, 65, 70, 97, 102])]
/-- The class of a property. -/
def propT : List (List UInt8 × List Int) := [
  ([65, 110, 121], [0, 1114111]), ([67, 121, 114, 105, 108, 108, 105, 99], cyrillic), ([71, 114, 101, 101, 107], greek), ([76], capitals ++ small ++ latin ++ greek ++ cyrillic), ([76, 97, 116, 105, 110], latin),
  ([76, 108], small), ([76, 117], capitals), ([78, 100], [48, 57, 1632, 1641, 1776, 1785, 2406, 2415])]
/-- What a table has of a name; with one 94 ahead: what the rest lacks. -/
def look (T : List (List UInt8 × List Int)) (s : List UInt8) : Option (List Int) := (T.find? fun e => s == e.1).map Prod.snd
theorem look_hit {T : List (List UInt8 × List Int)} {s k : List UInt8} {v : List Int} (h : (s == k) = true) : look ((k, v) :: T) s = some v := by
  unfold look; simp only [List.find?_cons, h]; rfl
theorem look_miss {T : List (List UInt8 × List Int)} {s k : List UInt8} {v : List Int} (h : (s == k) = false) : look ((k, v) :: T) s = look T s := by
  unfold look; simp only [List.find?_cons, h]
def bare : List UInt8 → List UInt8 × Bool
  | 94 :: t => (t, true)
  | s => (s, false)
def lookC (T : List (List UInt8 × List Int)) (s : List UInt8) : Option (Bool × List Int) := (look T (bare s).1).map fun n => ((bare s).2, n)
def letterX (c : Int) : Option (Bool × List Int) :=
  if c = 100 then some (false, [48, 57]) else if c = 68 then some (true, [48, 57]) else
  if c = 115 then some (false, [9, 10, 12, 13, 32, 32]) else if c = 83 then some (true, [9, 10, 12, 13, 32, 32]) else
  if c = 119 then some (false, word) else if c = 87 then some (true, word) else none
/-- A list and a code are those of a class. -/
def ClassIs : Option (Bool × List Int) → List R → Int → Prop
  | none, out, code => out = [] ∧ code = 70
  | some (neg, T), out, code => code = 0 ∧ NormL out ∧ ∀ q, 0 ≤ q → q ≤ 1114111 → hasB out q = (neg != hasB (pairsOf T) q)
theorem classIs_unique {X : Option (Bool × List Int)} {a b : List R} {c d : Int} (h : ClassIs X a c) (k : ClassIs X b d) : a = b ∧ c = d := by
  cases X with
  | none => exact ⟨h.1.trans k.1.symm, h.2.trans k.2.symm⟩
  | some p => exact ⟨norm_ext h.2.1 k.2.1 (fun q h0 h1 => by rw [h.2.2 q h0 h1, k.2.2 q h0 h1]), h.1.trans k.1.symm⟩
theorem classIs_yes {T : List Int} {out : List R} (h : Made 1 (pairsOf T) [] out) : ClassIs (some (false, T)) out 0 :=
  ⟨rfl, h.norm, fun q h0 h1 => by rw [h.has q h0 h1]; simp [opB, hasB]⟩
theorem classIs_not {T : List Int} {mid out : List R} (h : Made 1 (pairsOf T) [] mid) (k : Made 3 [(0, 1114111)] mid out) : ClassIs (some (true, T)) out 0 :=
  ⟨rfl, k.norm, fun q h0 h1 => by
    rw [k.has q h0 h1, h.has q h0 h1]
    have e : hasB [(0, 1114111)] q = true := (hasB_iff _ _).2 ⟨⟨h0, h1⟩, (0, 1114111), by simp, h0, h1⟩
    rw [e]
    have e2 : hasB [] q = false := by simp [hasB]
    rw [e2]
    cases hasB (pairsOf T) q <;> rfl⟩
end Go.Proofs.YtimgdooelbhjfaaGreatDoor.Cl
