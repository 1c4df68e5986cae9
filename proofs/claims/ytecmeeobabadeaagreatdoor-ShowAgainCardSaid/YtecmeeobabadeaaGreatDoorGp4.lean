/- The plain mathematics of the classes: lists of numbers, two and two; which class a letter or a name means; no program. · Mathematics of bracket: escapes of sets, items, what stands between brackets. · Mathematics of bracket: how long escapes and items are. -/
import Derived.Test.YtecmeeobabadeaaGreatDoorGp1
import Derived.Test.YtecmeeobabadeaaGreatDoorGp3
namespace Go.Proofs.YtecmeeobabadeaaGreatDoor.Cl
open Go.Proofs.YtecmeeobabadeaaGreatDoor.Rg
set_option linter.unusedVariables false
/-- Numbers, two and two. -/
def pairsOf : List Int → List R
  | a :: b :: t => (a, b) :: pairsOf t
  | _ => []
/-! ### Which class -/
def word : List Int := [48, 57, 65, 90, 95, 95, 97, 122]
def latin : List Int := [65, 90, 97, 122, 170, 170, 186, 186, 192, 214, 216, 246, 248, 591]
def greek : List Int := [880, 883, 885, 887, 890, 893, 895, 895, 900, 900, 902, 902, 904, 906, 908, 908, 910, 929, 931, 993, 1008, 1023, 8486, 8486]
def cyrillic : List Int := [1024, 1156, 1159, 1327]
def capitals : List Int := [65, 90, 192, 214, 216, 222, 376, 376, 913, 929, 931, 939, 1024, 1071]
def small : List Int := [97, 122, 181, 181, 223, 246, 248, 255, 940, 974, 1072, 1119, 383, 383]
/-- The class of a name between colons. -/
def colonT : List (List UInt8 × List Int) := [
  ([97, 108, 110, 117, 109], [48, 57, 65, 90, 97, 122]), ([97, 108, 112, 104, 97], [65, 90, 97, 122]), ([97, 115, 99, 105, 105], [0, 127]), ([98, 108, 97, 110, 107], [9, 9, 32, 32]),
  ([99, 110, 116, 114, 108], [0, 31, 127, 127]), ([100, 105, 103, 105, 116], [48, 57]), ([103, 114, 97, 112, 104], [33, 126]), ([108, 111, 119, 101, 114], [97, 122]), ([112, 114, 105, 110, 116], [32, 126]),
  ([112, 117, 110, 99, 116], [33, 47, 58, 64, 91, 96, 123, 126]), ([115, 112, 97, 99, 101], [9, 13, 32, 32]), ([117, 112, 112, 101, 114], [65, 90]), ([119, 111, 114, 100], word), ([120, 100, 105, 103, 105, 116], [48, 57, 65, 70, 97, 102])]
/-- The class of a property. -/
def propT : List (List UInt8 × List Int) := [
  ([65, 110, 121], [0, 1114111]), ([67, 121, 114, 105, 108, 108, 105, 99], cyrillic), ([71, 114, 101, 101, 107], greek), ([76], capitals ++ small ++ latin ++ greek ++ cyrillic), ([76, 97, 116, 105, 110], latin),
  ([76, 108], small), ([76, 117], capitals), ([78, 100], [48, 57, 1632, 1641, 1776, 1785, 2406, 2415])]
/-- What a table has of a name; with one 94 ahead: what the rest lacks. -/
def look (T : List (List UInt8 × List Int)) (s : List UInt8) : Option (List Int) := (T.find? fun e => s == e.1).map Prod.snd
def bare : List UInt8 → List UInt8 × Bool
  | 94 :: t => (t, true)
  | s => (s, false)
def lookC (T : List (List UInt8 × List Int)) (s : List UInt8) : Option (Bool × List Int) := (look T (bare s).1).map fun n => ((bare s).2, n)
def letterX (c : Int) : Option (Bool × List Int) :=
  if c = 100 then some (false, [48, 57]) else if c = 68 then some (true, [48, 57]) else
  if c = 115 then some (false, [9, 10, 12, 13, 32, 32]) else if c = 83 then some (true, [9, 10, 12, 13, 32, 32]) else
  if c = 119 then some (false, word) else if c = 87 then some (true, word) else none
/-- A list and a code are those of a class. -/
def ClassIs : Option (Bool × List Int) → List R → Int → Prop
  | none, out, code => out = [] ∧ code = 70
  | some (neg, T), out, code => code = 0 ∧ NormL out ∧ ∀ q, 0 ≤ q → q ≤ 1114111 → hasB out q = (neg != hasB (pairsOf T) q)
end Go.Proofs.YtecmeeobabadeaaGreatDoor.Cl
namespace Go.Proofs.YtecmeeobabadeaaGreatDoor.Br
open Go.Proofs.YtecmeeobabadeaaGreatDoor.Rg
set_option linter.unusedVariables false
/-- How many stand ahead of the first c (all of them, where there is none). -/
def upTo (c : Int) : List Int → Nat
  | [] => 0
  | x :: l => if x = c then 0 else upTo c l + 1
/-- How many stand ahead of the first c that d follows (all of them, where there is none). -/
def upTo2 (c d : Int) : List Int → Nat
  | [] => 0
  | x :: l => if x = c ∧ l[0]? = some d then 0 else upTo2 c d l + 1
theorem upTo_le (c : Int) : ∀ l, upTo c l ≤ l.length
  | [] => Nat.le_refl _
  | x :: l => by unfold upTo; have := upTo_le c l; split <;> simp <;> omega
theorem upTo_at (c : Int) : ∀ l, upTo c l < l.length → l[upTo c l]? = some c
  | [], h => by simp [upTo] at h
  | x :: l, h => by
    unfold upTo at h ⊢
    split
    · rename_i hx; simp [hx]
    · rename_i hx
      rw [if_neg hx] at h
      simpa using upTo_at c l (by simpa using h)
theorem upTo_no (c : Int) : ∀ (l : List Int) (k : Nat), k < upTo c l → l[k]? ≠ some c
  | [], k, h => by simp
  | x :: l, k, h => by
    unfold upTo at h
    split at h
    · omega
    · rename_i hx
      cases k with
      | zero => simpa using hx
      | succ k => simpa using upTo_no c l k (by omega)
/-- Where the first c stands. -/
theorem upTo_is (c : Int) (l : List Int) (k : Nat) (hk : l[k]? = some c) (hy : ∀ j, j < k → l[j]? ≠ some c) : upTo c l = k := by
  have hl := (List.getElem?_eq_some_iff.1 hk).1
  have h1 := upTo_le c l
  rcases Nat.lt_trichotomy (upTo c l) k with h | h | h
  · exact absurd (upTo_at c l (by omega)) (hy _ h)
  · exact h
  · exact absurd hk (upTo_no c l k h)
theorem upTo_none (c : Int) (l : List Int) (hy : ∀ j, j < l.length → l[j]? ≠ some c) : upTo c l = l.length := by
  have h1 := upTo_le c l
  rcases Nat.lt_or_ge (upTo c l) l.length with h | h
  · exact absurd (upTo_at c l h) (hy _ h)
  · omega
theorem upTo2_le (c d : Int) : ∀ l, upTo2 c d l ≤ l.length
  | [] => Nat.le_refl _
  | x :: l => by unfold upTo2; have := upTo2_le c d l; split <;> simp <;> omega
theorem upTo2_at (c d : Int) : ∀ l, upTo2 c d l < l.length → l[upTo2 c d l]? = some c ∧ l[upTo2 c d l + 1]? = some d
  | [], h => by simp [upTo2] at h
  | x :: l, h => by
    unfold upTo2 at h ⊢
    split
    · rename_i hx; exact ⟨by simp [hx.1], by simpa using hx.2⟩
    · rename_i hx
      rw [if_neg hx] at h
      simpa using upTo2_at c d l (by simpa using h)
theorem upTo2_no (c d : Int) : ∀ (l : List Int) (k : Nat), k < upTo2 c d l → ¬ (l[k]? = some c ∧ l[k + 1]? = some d)
  | [], k, h => by simp
  | x :: l, k, h => by
    unfold upTo2 at h
    split at h
    · omega
    · rename_i hx
      cases k with
      | zero => intro hh; exact hx ⟨by simpa using hh.1, by simpa using hh.2⟩
      | succ k => simpa using upTo2_no c d l k (by omega)
theorem upTo2_is (c d : Int) (l : List Int) (k : Nat) (hk : l[k]? = some c) (hk2 : l[k + 1]? = some d) (hy : ∀ j, j < k → ¬ (l[j]? = some c ∧ l[j + 1]? = some d)) : upTo2 c d l = k := by
  have hl := (List.getElem?_eq_some_iff.1 hk).1
  have h1 := upTo2_le c d l
  rcases Nat.lt_trichotomy (upTo2 c d l) k with h | h | h
  · exact absurd (upTo2_at c d l (by omega)) (hy _ h)
  · exact h
  · exact absurd ⟨hk, hk2⟩ (upTo2_no c d l k h)
/-- The name of a property, the escape's length, and its code. -/
def nameX (s : ByteArray) : ByteArray × Int × Int :=
  let l := Utf.nums s
  if l.length = 2 then (⟨#[]⟩, 0, 82) else if letB (l[2]?.getD 0) = true then (s.extract 2 3, 3, 0) else if l[2]?.getD 0 ≠ 123 then (⟨#[]⟩, 0, 70)
  else if upTo 125 (l.drop 3) = (l.drop 3).length then (⟨#[]⟩, 0, 82) else (s.extract 3 (3 + upTo 125 (l.drop 3)), upTo 125 (l.drop 3) + 4, 0)
abbrev Cls := Option (Bool × List Int)
def propX (s : ByteArray) (neg : Bool) : Cls × Int × Int :=
  if (nameX s).2.2 ≠ 0 then (none, 0, (nameX s).2.2) else
  match Cl.lookC Cl.propT (nameX s).1.data.toList with
  | none => (none, 0, 70)
  | some (b, T) => (some (b != neg, T), (nameX s).2.1, 0)
/-- An escape of a set: its class, its length, and its code. -/
def set (s : ByteArray) : Cls × Int × Int :=
  let l := Utf.nums s
  if l[0]?.getD 0 ≠ 92 then (none, 0, 3) else if l.length = 1 then (none, 0, 5) else
  if l[1]?.getD 0 = 80 then propX s true else if l[1]?.getD 0 = 112 then propX s false else
  match Cl.letterX (l[1]?.getD 0) with
  | none => (none, 0, 5)
  | some x => (some x, 2, 0)
/-- A list is that of a class; there is none: it is empty. -/
def SetIs : Cls → List R → Prop
  | none, out => out = []
  | some (neg, T), out => NormL out ∧ ∀ q, 0 ≤ q → q ≤ 1114111 → hasB out q = (neg != hasB (Cl.pairsOf T) q)
theorem setIs_unique {X : Cls} {a b : List R} (h : SetIs X a) (k : SetIs X b) : a = b := by
  cases X with
  | none => exact Eq.trans h (Eq.symm k)
  | some p => exact norm_ext h.1 k.1 (fun q h0 h1 => by rw [h.2 q h0 h1, k.2 q h0 h1])
theorem setIs_of {X : Cls} {out : List R} {code : Int} (h : Cl.ClassIs X out code) : SetIs X out := by
  cases X with
  | none => exact h.1
  | some p => exact h.2
theorem setIs_not {neg : Bool} {T : List Int} {mid out : List R} (h : SetIs (some (neg, T)) mid) (k : Made 3 [(0, 1114111)] mid out) : SetIs (some (!neg, T)) out :=
  ⟨k.norm, fun q h0 h1 => by
    rw [k.has q h0 h1, h.2 q h0 h1]
    have e : hasB [(0, 1114111)] q = true := (hasB_iff _ _).2 ⟨⟨h0, h1⟩, (0, 1114111), by simp, h0, h1⟩
    rw [e]
    cases neg <;> cases hasB (Cl.pairsOf T) q <;> rfl⟩
/-- What an item stands for. -/
inductive It where
  | cls (x : Bool × List Int)
  | rng (lo hi : Int)
def ItIs : It → List R → Prop
  | .cls x, out => SetIs (some x) out
  | .rng lo hi, out => out = [(lo, hi)]
theorem itIs_unique {X : It} {a b : List R} (h : ItIs X a) (k : ItIs X b) : a = b := by
  cases X with
  | cls x => exact setIs_unique (show SetIs (some x) a from h) (show SetIs (some x) b from k)
  | rng lo hi => exact Eq.trans h (Eq.symm k)
/-- A list is that of items, one behind another. -/
inductive ItsIs : List It → List R → Prop where
  | nil : ItsIs [] []
  | snoc {Xs : List It} {L : List R} {X : It} {l : List R} : ItsIs Xs L → ItIs X l → ItsIs (Xs ++ [X]) (L ++ l)
theorem itsIs_nil {L : List R} (h : ItsIs [] L) : L = [] := by
  generalize hX : ([] : List It) = Xs at h
  cases h with
  | nil => rfl
  | snoc _ _ => exact absurd hX (by simp)
theorem itsIs_snoc {Xs : List It} {X : It} {L : List R} (h : ItsIs (Xs ++ [X]) L) : ∃ M l, L = M ++ l ∧ ItsIs Xs M ∧ ItIs X l := by
  generalize hX : Xs ++ [X] = Ys at h
  cases h with
  | nil => exact absurd hX (by simp)
  | snoc h1 h2 =>
    obtain ⟨e1, e2⟩ := List.append_inj' hX rfl
    subst e1
    cases e2
    exact ⟨_, _, rfl, h1, h2⟩
theorem itsIs_unique {Xs : List It} {a : List R} (h : ItsIs Xs a) : ∀ {b : List R}, ItsIs Xs b → a = b := by
  induction h with
  | nil => intro b k; exact (itsIs_nil k).symm
  | snoc _ h2 ih =>
    intro b k
    obtain ⟨M, l, rfl, k1, k2⟩ := itsIs_snoc k
    rw [ih k1, itIs_unique h2 k2]
/-- A character: its number, its length, its code. -/
def one (l : List Int) : Int × Int × Int := if l[0]?.getD 0 = 92 then num l else if (Utf.dec l).1 < 0 then (0, 0, 3) else ((Utf.dec l).1, (Utf.dec l).2, 0)
inductive Res (α : Type) where
  | bad (at_ code : Int)
  | ok (x : α) (next : Nat)
/-- The item at a place of a text: what it stands for, and the place behind it; or what is wrong, and where. -/
def colonX (s : ByteArray) (at_ : Nat) : Res It :=
  let l := (Utf.nums s).drop (at_ + 2)
  if upTo2 58 93 l = l.length then .bad at_ 82 else
  match Cl.lookC Cl.colonT (s.extract (at_ + 2) (at_ + 2 + upTo2 58 93 l)).data.toList with
  | none => .bad at_ 70
  | some x => .ok (.cls x) (at_ + 4 + upTo2 58 93 l)
def goesOn (l : List Int) : Bool := decide (l[0]? = some 45) && decide (2 ≤ l.length) && !decide (l[1]? = some 93)
def span (s : ByteArray) (at_ : Nat) : Res It :=
  let o := one ((Utf.nums s).drop at_)
  if o.2.2 ≠ 0 then .bad at_ o.2.2 else
  let e := at_ + o.2.1.toNat
  if goesOn ((Utf.nums s).drop e) = false then .ok (.rng o.1 o.1) e else
  let c := (set (s.extract (e + 1) s.size)).2.2
  if c ≠ 3 ∧ c ≠ 5 then .bad (e + 1) 70 else
  let p := one ((Utf.nums s).drop (e + 1))
  if p.2.2 ≠ 0 then .bad (e + 1) p.2.2 else if p.1 < o.1 then .bad at_ 70 else .ok (.rng o.1 p.1) (e + 1 + p.2.1.toNat)
def item (s : ByteArray) (at_ : Nat) : Res It :=
  let l := (Utf.nums s).drop at_
  if l[0]? = some 91 ∧ l[1]? = some 58 then colonX s at_ else
  let x := set (s.extract at_ s.size)
  if x.2.2 = 0 then (match x.1 with | some y => .ok (.cls y) (at_ + x.2.1.toNat) | none => .bad at_ 0)
  else if x.2.2 ≠ 3 ∧ x.2.2 ≠ 5 then .bad at_ x.2.2 else span s at_
/-- The items of a text from a place on, to the closing bracket; the first of them begins at 'first'. -/
def items (s : ByteArray) (first : Nat) : Nat → Nat → List It → Res (List It)
  | 0, at_, Xs => .bad s.size 82
  | f + 1, at_, Xs =>
    if s.size ≤ at_ then .bad s.size 82 else if (Utf.nums s)[at_]?.getD 0 = 93 ∧ first < at_ then .ok Xs at_ else
    match item s at_ with
    | .bad o c => .bad o c
    | .ok x next => items s first f next (Xs ++ [x])
def first (l : List Int) : Nat := if l[1]?.getD 0 = 94 then 2 else 1
/-- What stands between brackets. -/
def brack (s : ByteArray) : Res (List It) :=
  if (Utf.nums s)[0]?.getD 0 ≠ 91 then .bad 0 3 else items s (first (Utf.nums s)) (s.size + 1 - first (Utf.nums s)) (first (Utf.nums s)) []
end Go.Proofs.YtecmeeobabadeaaGreatDoor.Br
namespace Go.Proofs.YtecmeeobabadeaaGreatDoor.Br
open Go.Proofs.YtecmeeobabadeaaGreatDoor.Rg
set_option linter.unusedVariables false
theorem getD_lt {l : List Int} {k : Nat} {c : Int} (h : l[k]?.getD 0 = c) (hc : c ≠ 0) : k < l.length := by
  rcases Nat.lt_or_ge k l.length with h1 | h1
  · exact h1
  · rw [List.getElem?_eq_none h1] at h; exact absurd h.symm hc
theorem plain_cases (c : Int) : (plain c = (0, 0, 80)) ∨ (0 ≤ (plain c).1 ∧ (plain c).1 ≤ 126 ∧ (plain c).2.1 = 2 ∧ (plain c).2.2 = 0) := by
  unfold plain
  repeat (split; · exact .inr ⟨by decide, by decide, rfl, rfl⟩)
  split
  · rename_i h
    simp [signB] at h
    exact .inr ⟨by show 0 ≤ c; omega, by show c ≤ 126; omega, rfl, rfl⟩
  · exact .inl rfl
/-- A number's escape: an error without number and length, or two bytes at least. -/
theorem num_cases (l : List Int) : ((num l).1 = 0 ∧ (num l).2.1 = 0 ∧ ((num l).2.2 = 3 ∨ (num l).2.2 = 82 ∨ (num l).2.2 = 80)) ∨ (0 ≤ (num l).1 ∧ (num l).1 ≤ 1114111 ∧ 2 ≤ (num l).2.1 ∧ (num l).2.1 ≤ l.length ∧ (num l).2.2 = 0) := by
  unfold num
  by_cases h0 : l[0]?.getD 0 ≠ 92
  · rw [if_pos h0]; exact .inl ⟨rfl, rfl, .inl rfl⟩
  rw [if_neg h0]
  have h00 : 0 < l.length := getD_lt (c := 92) (by omega) (by decide)
  by_cases h1 : l.length = 1
  · rw [if_pos h1]; exact .inl ⟨rfl, rfl, .inr (.inl rfl)⟩
  rw [if_neg h1]
  by_cases h2 : l[1]?.getD 0 ≠ 120
  · rw [if_pos h2]
    rcases plain_cases (l[1]?.getD 0) with h | ⟨h3, h4, h5, h6⟩
    · rw [h]; exact .inl ⟨rfl, rfl, .inr (.inr rfl)⟩
    · exact .inr ⟨h3, by omega, by omega, by omega, h6⟩
  rw [if_neg h2]
  by_cases h3 : l[2]?.getD 0 = 123
  · rw [if_pos h3]
    unfold braced
    dsimp only
    have hc := cnt_le (l.drop 3) 6
    have hv := val_bd (l.drop 3) 6 _ (Nat.le_refl _)
    rw [List.length_drop] at hc
    have h33 := getD_lt h3 (by decide)
    by_cases h4 : 3 + cnt (l.drop 3) 6 = l.length
    · rw [if_pos h4]; exact .inl ⟨rfl, rfl, .inr (.inl rfl)⟩
    rw [if_neg h4]
    by_cases h5 : l[3 + cnt (l.drop 3) 6]?.getD 0 ≠ 125 ∨ cnt (l.drop 3) 6 = 0 ∨ 1114111 < val (l.drop 3) (cnt (l.drop 3) 6)
    · rw [if_pos h5]; exact .inl ⟨rfl, rfl, .inr (.inr rfl)⟩
    rw [if_neg h5]
    refine .inr ⟨hv.1, ?_, ?_, ?_, rfl⟩
    · show val _ _ ≤ _; omega
    · show (2 : Int) ≤ ((cnt (l.drop 3) 6 : Nat) : Int) + 4; omega
    · show ((cnt (l.drop 3) 6 : Nat) : Int) + 4 ≤ _; omega
  · rw [if_neg h3]
    unfold two
    dsimp only
    have hc := cnt_le (l.drop 2) 2
    rw [List.length_drop] at hc
    by_cases h4 : cnt (l.drop 2) 2 = 2
    · rw [if_pos h4]
      have hv := val_bd (l.drop 2) 2 2 (by omega)
      refine .inr ⟨hv.1, ?_, ?_, ?_, rfl⟩
      · show val _ _ ≤ _; have := hv.2; omega
      · show (2 : Int) ≤ 4; omega
      · show (4 : Int) ≤ _; omega
    rw [if_neg h4]
    by_cases h5 : cnt (l.drop 2) 2 + 2 = l.length
    · rw [if_pos h5]; exact .inl ⟨rfl, rfl, .inr (.inl rfl)⟩
    · rw [if_neg h5]; exact .inl ⟨rfl, rfl, .inr (.inr rfl)⟩
theorem num_form {l : List Int} (h : l[0]?.getD 0 = 92) : (num l).2.2 ≠ 3 := by
  unfold num
  rw [if_neg (by omega)]
  split
  · decide
  split
  · rcases plain_cases (l[1]?.getD 0) with h | h
    · rw [h]; decide
    · rw [h.2.2.2]; decide
  split
  · unfold braced; dsimp only; split
    · decide
    · split <;> simp
  · unfold two; dsimp only; split
    · simp
    · split <;> simp
theorem num_no {l : List Int} (h : l[0]?.getD 0 ≠ 92) : num l = (0, 0, 3) := by unfold num; rw [if_pos h]
theorem nums_len (s : ByteArray) : (Utf.nums s).length = s.size := Utf.nums_length s
theorem nameX_cases (s : ByteArray) (h2 : 2 ≤ s.size) : ((nameX s).2.2 = 82 ∨ (nameX s).2.2 = 70) ∨ ((nameX s).2.2 = 0 ∧ 3 ≤ (nameX s).2.1 ∧ (nameX s).2.1 ≤ s.size) := by
  unfold nameX
  dsimp only
  rw [nums_len]
  by_cases h3 : s.size = 2
  · rw [if_pos h3]; exact .inl (.inl rfl)
  rw [if_neg h3]
  split
  · exact .inr ⟨rfl, Int.le_refl _, by show (3 : Int) ≤ _; omega⟩
  split
  · exact .inl (.inr rfl)
  split
  · exact .inl (.inl rfl)
  · rename_i h
    have := upTo_le 125 ((Utf.nums s).drop 3)
    rw [List.length_drop, nums_len] at h this
    refine .inr ⟨rfl, ?_, ?_⟩
    · show (3 : Int) ≤ ((upTo 125 ((Utf.nums s).drop 3) : Nat) : Int) + 4; omega
    · show ((upTo 125 ((Utf.nums s).drop 3) : Nat) : Int) + 4 ≤ _; omega
theorem propX_cases (s : ByteArray) (neg : Bool) (h2 : 2 ≤ s.size) : ((propX s neg).1 = none ∧ (propX s neg).2.1 = 0 ∧ ((propX s neg).2.2 = 82 ∨ (propX s neg).2.2 = 70)) ∨ (∃ x, (propX s neg).1 = some x ∧ (propX s neg).2.2 = 0 ∧ 3 ≤ (propX s neg).2.1 ∧ (propX s neg).2.1 ≤ s.size) := by
  unfold propX
  rcases nameX_cases s h2 with h | ⟨h, h3, h4⟩
  · rw [if_pos (by omega)]; exact .inl ⟨rfl, rfl, h⟩
  · rw [if_neg (by omega)]
    cases hl : Cl.lookC Cl.propT (nameX s).1.data.toList with
    | none => exact .inl ⟨rfl, rfl, .inr rfl⟩
    | some p => exact .inr ⟨_, rfl, rfl, h3, h4⟩
/-- A set's escape. -/
theorem set_cases (s : ByteArray) : ((set s).1 = none ∧ (set s).2.1 = 0 ∧ ((set s).2.2 = 3 ∨ (set s).2.2 = 5 ∨ (set s).2.2 = 82 ∨ (set s).2.2 = 70)) ∨ (∃ x, (set s).1 = some x ∧ (set s).2.2 = 0 ∧ 2 ≤ (set s).2.1 ∧ (set s).2.1 ≤ s.size) := by
  unfold set
  dsimp only
  by_cases h0 : (Utf.nums s)[0]?.getD 0 ≠ 92
  · rw [if_pos h0]; exact .inl ⟨rfl, rfl, .inl rfl⟩
  rw [if_neg h0]
  have h00 : 0 < (Utf.nums s).length := getD_lt (c := 92) (by omega) (by decide)
  by_cases h1 : (Utf.nums s).length = 1
  · rw [if_pos h1]; exact .inl ⟨rfl, rfl, .inr (.inl rfl)⟩
  rw [if_neg h1]
  rw [nums_len] at h00 h1
  split
  · rcases propX_cases s true (by omega) with ⟨e1, e2, e3⟩ | ⟨x, e1, e2, e3, e4⟩
    · exact .inl ⟨e1, e2, e3.elim (fun e => .inr (.inr (.inl e))) (fun e => .inr (.inr (.inr e)))⟩
    · exact .inr ⟨x, e1, e2, by omega, e4⟩
  split
  · rcases propX_cases s false (by omega) with ⟨e1, e2, e3⟩ | ⟨x, e1, e2, e3, e4⟩
    · exact .inl ⟨e1, e2, e3.elim (fun e => .inr (.inr (.inl e))) (fun e => .inr (.inr (.inr e)))⟩
    · exact .inr ⟨x, e1, e2, by omega, e4⟩
  cases Cl.letterX ((Utf.nums s)[1]?.getD 0) with
  | none => exact .inl ⟨rfl, rfl, .inr (.inl rfl)⟩
  | some x => exact .inr ⟨x, rfl, rfl, Int.le_refl _, by show (2 : Int) ≤ _; omega⟩
theorem one_cases (l : List Int) (hb : Utf.Bytes l) : ((one l).1 = 0 ∧ (one l).2.1 = 0 ∧ ((one l).2.2 = 3 ∨ (one l).2.2 = 82 ∨ (one l).2.2 = 80)) ∨ (0 ≤ (one l).1 ∧ (one l).1 ≤ 1114111 ∧ 1 ≤ (one l).2.1 ∧ (one l).2.1 ≤ l.length ∧ (one l).2.2 = 0) := by
  unfold one
  split
  · rcases num_cases l with h | ⟨h1, h2, h3, h4, h5⟩
    · exact .inl h
    · exact .inr ⟨h1, h2, by omega, h4, h5⟩
  split
  · exact .inl ⟨rfl, rfl, .inl rfl⟩
  · rename_i h
    have h1 := Utf.dec_len l hb
    have h2 := Utf.dec_neg l hb
    have hl : l ≠ [] := by rintro rfl; exact h (by decide)
    exact .inr ⟨by show 0 ≤ (Utf.dec l).1; omega, h2.2.2, h1.2.2.1 hl, h1.2.1, rfl⟩
/-- An item that is read ends behind its beginning, and in the text. -/
theorem item_bd (s : ByteArray) (at_ : Nat) (x : It) (next : Nat) (h : item s at_ = .ok x next) : at_ < next ∧ next ≤ s.size := by
  unfold item at h
  dsimp only at h
  split at h
  · rename_i hc
    have h1 : at_ + 1 < s.size := by
      have := (List.getElem?_eq_some_iff.1 hc.2).1
      rw [List.length_drop, nums_len] at this; omega
    unfold colonX at h
    dsimp only at h
    split at h
    · cases h
    rename_i hn
    have h2 := upTo2_le 58 93 ((Utf.nums s).drop (at_ + 2))
    have h3 := upTo2_at 58 93 ((Utf.nums s).drop (at_ + 2)) (by omega)
    have h4 := (List.getElem?_eq_some_iff.1 h3.2).1
    rw [List.length_drop, nums_len] at h4
    split at h
    · cases h
    · cases h; omega
  split at h
  · rename_i hc
    rcases set_cases (s.extract at_ s.size) with ⟨e1, e2, e3⟩ | ⟨y, e1, e2, e3, e4⟩
    · omega
    · rw [e1] at h
      cases h
      rw [ByteArray.size_extract] at e4
      omega
  split at h
  · cases h
  unfold span at h
  dsimp only at h
  split at h
  · cases h
  have o1 := one_cases ((Utf.nums s).drop at_) (Utf.bytes_drop (Utf.nums_bytes s) _)
  rw [List.length_drop, nums_len] at o1
  split at h
  · cases h; omega
  rename_i hg
  split at h
  · cases h
  split at h
  · cases h
  rename_i ho
  have o2 := one_cases ((Utf.nums s).drop (at_ + (one ((Utf.nums s).drop at_)).2.1.toNat + 1)) (Utf.bytes_drop (Utf.nums_bytes s) _)
  rw [List.length_drop, nums_len] at o2
  split at h
  · cases h
  · cases h; omega
theorem items_fuel (s : ByteArray) (fs : Nat) : ∀ (f g at_ : Nat) (Xs : List It), s.size + 1 - at_ ≤ f → s.size + 1 - at_ ≤ g → items s fs f at_ Xs = items s fs g at_ Xs
  | 0, 0, at_, Xs, _, _ => rfl
  | 0, g + 1, at_, Xs, h, _ => by
    unfold items
    rw [if_pos (by omega)]
  | f + 1, 0, at_, Xs, _, h => by
    unfold items
    rw [if_pos (by omega)]
  | f + 1, g + 1, at_, Xs, hf, hg => by
    unfold items
    by_cases h1 : s.size ≤ at_
    · rw [if_pos h1, if_pos h1]
    rw [if_neg h1, if_neg h1]
    by_cases h2 : (Utf.nums s)[at_]?.getD 0 = 93 ∧ fs < at_
    · rw [if_pos h2, if_pos h2]
    rw [if_neg h2, if_neg h2]
    cases hx : item s at_ with
    | bad o c => rfl
    | ok x next =>
      have := item_bd s at_ x next hx
      exact items_fuel s fs f g next (Xs ++ [x]) (by omega) (by omega)
/-- The items from a place on. -/
def rest (s : ByteArray) (fs at_ : Nat) (Xs : List It) : Res (List It) := items s fs (s.size + 1 - at_) at_ Xs
theorem rest_end {s : ByteArray} {fs at_ : Nat} {Xs : List It} (h : s.size ≤ at_) : rest s fs at_ Xs = .bad s.size 82 := by
  unfold rest
  cases s.size + 1 - at_ with
  | zero => rfl
  | succ k => unfold items; rw [if_pos h]
theorem rest_close {s : ByteArray} {fs at_ : Nat} {Xs : List It} (h : at_ < s.size) (h2 : (Utf.nums s)[at_]?.getD 0 = 93) (h3 : fs < at_) : rest s fs at_ Xs = .ok Xs at_ := by
  unfold rest
  rw [show s.size + 1 - at_ = (s.size - at_) + 1 by omega]
  unfold items; rw [if_neg (by omega), if_pos ⟨h2, h3⟩]
theorem rest_bad {s : ByteArray} {fs at_ : Nat} {Xs : List It} {o c : Int} (h : at_ < s.size) (h2 : ¬ ((Utf.nums s)[at_]?.getD 0 = 93 ∧ fs < at_)) (hx : item s at_ = .bad o c) : rest s fs at_ Xs = .bad o c := by
  unfold rest
  rw [show s.size + 1 - at_ = (s.size - at_) + 1 by omega]
  unfold items; rw [if_neg (by omega), if_neg h2, hx]
theorem rest_step {s : ByteArray} {fs at_ : Nat} {Xs : List It} {x : It} {next : Nat} (h : at_ < s.size) (h2 : ¬ ((Utf.nums s)[at_]?.getD 0 = 93 ∧ fs < at_)) (hx : item s at_ = .ok x next) : rest s fs at_ Xs = rest s fs next (Xs ++ [x]) := by
  have hb := item_bd s at_ x next hx
  unfold rest
  rw [show s.size + 1 - at_ = (s.size - at_) + 1 by omega]
  rw [items, if_neg (by omega), if_neg h2, hx]
  exact items_fuel s fs _ _ next _ (by omega) (Nat.le_refl _)
theorem brack_no {s : ByteArray} (h : (Utf.nums s)[0]?.getD 0 ≠ 91) : brack s = .bad 0 3 := by unfold brack; rw [if_pos h]
theorem brack_yes {s : ByteArray} (h : (Utf.nums s)[0]?.getD 0 = 91) : brack s = rest s (first (Utf.nums s)) (first (Utf.nums s)) [] := by unfold brack rest; rw [if_neg (by omega)]
end Go.Proofs.YtecmeeobabadeaaGreatDoor.Br
