/- Mathematics of bracket: escapes of sets, items, what stands between brackets. -/
import Derived.Test.YtcomjkoaieeidaaGreatDoorGp1
import Derived.Test.YtcomjkoaieeidaaGreatDoorGp2
namespace Go.Proofs.YtcomjkoaieeidaaGreatDoor.Br
open Go.Proofs.YtcomjkoaieeidaaGreatDoor.Rg
set_option linter.unusedVariables false
/-- How many stand ahead of the first c (all of them, where there is none). -/
def upTo (c : Int) : List Int → Nat
  | [] => 0
  | x :: l => if x = c then 0 else upTo c l + 1
/-- How many stand ahead of the first c that d follows (all of them, where there is none). -/
def upTo2 (c d : Int) : List Int → Nat
  | [] => 0
  | x :: l => if x = c ∧ l[0]? = some d then 0 else upTo2 c d l + 1
theorem upTo_le (c : Int) : ∀ l, upTo c l ≤ l.length
  | [] => Nat.le_refl _
  | x :: l => by unfold upTo; have := upTo_le c l; split <;> simp <;> omega
theorem upTo_at (c : Int) : ∀ l, upTo c l < l.length → l[upTo c l]? = some c
  | [], h => by simp [upTo] at h
  | x :: l, h => by
    unfold upTo at h ⊢
    split
    · rename_i hx; simp [hx]
    · rename_i hx
      rw [if_neg hx] at h
      simpa using upTo_at c l (by simpa using h)
theorem upTo_no (c : Int) : ∀ (l : List Int) (k : Nat), k < upTo c l → l[k]? ≠ some c
  | [], k, h => by simp
  | x :: l, k, h => by
    unfold upTo at h
    split at h
    · omega
    · rename_i hx
      cases k with
      | zero => simpa using hx
      | succ k => simpa using upTo_no c l k (by omega)
/-- Where the first c stands. -/
theorem upTo_is (c : Int) (l : List Int) (k : Nat) (hk : l[k]? = some c) (hy : ∀ j, j < k → l[j]? ≠ some c) : upTo c l = k := by
  have hl := (List.getElem?_eq_some_iff.1 hk).1
  have h1 := upTo_le c l
  rcases Nat.lt_trichotomy (upTo c l) k with h | h | h
  · exact absurd (upTo_at c l (by omega)) (hy _ h)
  · exact h
  · exact absurd hk (upTo_no c l k h)
theorem upTo_none (c : Int) (l : List Int) (hy : ∀ j, j < l.length → l[j]? ≠ some c) : upTo c l = l.length := by
  have h1 := upTo_le c l
  rcases Nat.lt_or_ge (upTo c l) l.length with h | h
  · exact absurd (upTo_at c l h) (hy _ h)
  · omega
theorem upTo2_le (c d : Int) : ∀ l, upTo2 c d l ≤ l.length
  | [] => Nat.le_refl _
  | x :: l => by unfold upTo2; have := upTo2_le c d l; split <;> simp <;> omega
theorem upTo2_at (c d : Int) : ∀ l, upTo2 c d l < l.length → l[upTo2 c d l]? = some c ∧ l[upTo2 c d l + 1]? = some d
  | [], h => by simp [upTo2] at h
  | x :: l, h => by
    unfold upTo2 at h ⊢
    split
    · rename_i hx; exact ⟨by simp [hx.1], by simpa using hx.2⟩
    · rename_i hx
      rw [if_neg hx] at h
      simpa using upTo2_at c d l (by simpa using h)
theorem upTo2_no (c d : Int) : ∀ (l : List Int) (k : Nat), k < upTo2 c d l → ¬ (l[k]? = some c ∧ l[k + 1]? = some d)
  | [], k, h => by simp
  | x :: l, k, h => by
    unfold upTo2 at h
    split at h
    · omega
    · rename_i hx
      cases k with
      | zero => intro hh; exact hx ⟨by simpa using hh.1, by simpa using hh.2⟩
      | succ k => simpa using upTo2_no c d l k (by omega)
theorem upTo2_is (c d : Int) (l : List Int) (k : Nat) (hk : l[k]? = some c) (hk2 : l[k + 1]? = some d) (hy : ∀ j, j < k → ¬ (l[j]? = some c ∧ l[j + 1]? = some d)) : upTo2 c d l = k := by
  have hl := (List.getElem?_eq_some_iff.1 hk).1
  have h1 := upTo2_le c d l
  rcases Nat.lt_trichotomy (upTo2 c d l) k with h | h | h
  · exact absurd (upTo2_at c d l (by omega)) (hy _ h)
  · exact h
  · exact absurd ⟨hk, hk2⟩ (upTo2_no c d l k h)
theorem upTo2_none (c d : Int) (l : List Int) (hy : ∀ j, j + 1 < l.length → ¬ (l[j]? = some c ∧ l[j + 1]? = some d)) : upTo2 c d l = l.length := by
  have h1 := upTo2_le c d l
  rcases Nat.lt_or_ge (upTo2 c d l) l.length with h | h
  · have h2 := upTo2_at c d l h
    exact absurd h2 (hy _ (List.getElem?_eq_some_iff.1 h2.2).1)
  · omega
/-- The name of a property, the escape's length, and its code. -/
def nameX (s : ByteArray) : ByteArray × Int × Int :=
  let l := Utf.nums s
  if l.length = 2 then (⟨#[]⟩, 0, 82) else if letB (l[2]?.getD 0) = true then (s.extract 2 3, 3, 0) else if l[2]?.getD 0 ≠ 123 then (⟨#[]⟩, 0, 70)
  else if upTo 125 (l.drop 3) = (l.drop 3).length then (⟨#[]⟩, 0, 82) else (s.extract 3 (3 + upTo 125 (l.drop 3)), upTo 125 (l.drop 3) + 4, 0)
abbrev Cls := Option (Bool × List Int)
def propX (s : ByteArray) (neg : Bool) : Cls × Int × Int :=
  if (nameX s).2.2 ≠ 0 then (none, 0, (nameX s).2.2) else
  match Cl.lookC Cl.propT (nameX s).1.data.toList with
  | none => (none, 0, 70)
  | some (b, T) => (some (b != neg, T), (nameX s).2.1, 0)
/-- An escape of a set: its class, its length, and its code. -/
def set (s : ByteArray) : Cls × Int × Int :=
  let l := Utf.nums s
  if l[0]?.getD 0 ≠ 92 then (none, 0, 3) else if l.length = 1 then (none, 0, 5) else
  if l[1]?.getD 0 = 80 then propX s true else if l[1]?.getD 0 = 112 then propX s false else
  match Cl.letterX (l[1]?.getD 0) with
  | none => (none, 0, 5)
  | some x => (some x, 2, 0)
/-- A list is that of a class; there is none: it is empty. -/
def SetIs : Cls → List R → Prop
  | none, out => out = []
  | some (neg, T), out => NormL out ∧ ∀ q, 0 ≤ q → q ≤ 1114111 → hasB out q = (neg != hasB (Cl.pairsOf T) q)
theorem setIs_unique {X : Cls} {a b : List R} (h : SetIs X a) (k : SetIs X b) : a = b := by
  cases X with
  | none => exact Eq.trans h (Eq.symm k)
  | some p => exact norm_ext h.1 k.1 (fun q h0 h1 => by rw [h.2 q h0 h1, k.2 q h0 h1])
theorem setIs_of {X : Cls} {out : List R} {code : Int} (h : Cl.ClassIs X out code) : SetIs X out := by
  cases X with
  | none => exact h.1
  | some p => exact h.2
theorem setIs_not {neg : Bool} {T : List Int} {mid out : List R} (h : SetIs (some (neg, T)) mid) (k : Made 3 [(0, 1114111)] mid out) : SetIs (some (!neg, T)) out :=
  ⟨k.norm, fun q h0 h1 => by
    rw [k.has q h0 h1, h.2 q h0 h1]
    have e : hasB [(0, 1114111)] q = true := (hasB_iff _ _).2 ⟨⟨h0, h1⟩, (0, 1114111), by simp, h0, h1⟩
    rw [e]
    cases neg <;> cases hasB (Cl.pairsOf T) q <;> rfl⟩
/-- What an item stands for. -/
inductive It where
  | cls (x : Bool × List Int)
  | rng (lo hi : Int)
def ItIs : It → List R → Prop
  | .cls x, out => SetIs (some x) out
  | .rng lo hi, out => out = [(lo, hi)]
theorem itIs_unique {X : It} {a b : List R} (h : ItIs X a) (k : ItIs X b) : a = b := by
  cases X with
  | cls x => exact setIs_unique (show SetIs (some x) a from h) (show SetIs (some x) b from k)
  | rng lo hi => exact Eq.trans h (Eq.symm k)
/-- A list is that of items, one behind another. -/
inductive ItsIs : List It → List R → Prop where
  | nil : ItsIs [] []
  | snoc {Xs : List It} {L : List R} {X : It} {l : List R} : ItsIs Xs L → ItIs X l → ItsIs (Xs ++ [X]) (L ++ l)
theorem itsIs_nil {L : List R} (h : ItsIs [] L) : L = [] := by
  generalize hX : ([] : List It) = Xs at h
  cases h with
  | nil => rfl
  | snoc _ _ => exact absurd hX (by simp)
theorem itsIs_snoc {Xs : List It} {X : It} {L : List R} (h : ItsIs (Xs ++ [X]) L) : ∃ M l, L = M ++ l ∧ ItsIs Xs M ∧ ItIs X l := by
  generalize hX : Xs ++ [X] = Ys at h
  cases h with
  | nil => exact absurd hX (by simp)
  | snoc h1 h2 =>
    obtain ⟨e1, e2⟩ := List.append_inj' hX rfl
    subst e1
    cases e2
    exact ⟨_, _, rfl, h1, h2⟩
theorem itsIs_unique {Xs : List It} {a : List R} (h : ItsIs Xs a) : ∀ {b : List R}, ItsIs Xs b → a = b := by
  induction h with
  | nil => intro b k; exact (itsIs_nil k).symm
  | snoc _ h2 ih =>
    intro b k
    obtain ⟨M, l, rfl, k1, k2⟩ := itsIs_snoc k
    rw [ih k1, itIs_unique h2 k2]
/-- A character: its number, its length, its code. -/
def one (l : List Int) : Int × Int × Int := if l[0]?.getD 0 = 92 then num l else if (Utf.dec l).1 < 0 then (0, 0, 3) else ((Utf.dec l).1, (Utf.dec l).2, 0)
inductive Res (α : Type) where
  | bad (at_ code : Int)
  | ok (x : α) (next : Nat)
/-- The item at a place of a text: what it stands for, and the place behind it; or what is wrong, and where. -/
def colonX (s : ByteArray) (at_ : Nat) : Res It :=
  let l := (Utf.nums s).drop (at_ + 2)
  if upTo2 58 93 l = l.length then .bad at_ 82 else
  match Cl.lookC Cl.colonT (s.extract (at_ + 2) (at_ + 2 + upTo2 58 93 l)).data.toList with
  | none => .bad at_ 70
  | some x => .ok (.cls x) (at_ + 4 + upTo2 58 93 l)
def goesOn (l : List Int) : Bool := decide (l[0]? = some 45) && decide (2 ≤ l.length) && !decide (l[1]? = some 93)
def span (s : ByteArray) (at_ : Nat) : Res It :=
  let o := one ((Utf.nums s).drop at_)
  if o.2.2 ≠ 0 then .bad at_ o.2.2 else
  let e := at_ + o.2.1.toNat
  if goesOn ((Utf.nums s).drop e) = false then .ok (.rng o.1 o.1) e else
  let c := (set (s.extract (e + 1) s.size)).2.2
  if c ≠ 3 ∧ c ≠ 5 then .bad (e + 1) 70 else
  let p := one ((Utf.nums s).drop (e + 1))
  if p.2.2 ≠ 0 then .bad (e + 1) p.2.2 else if p.1 < o.1 then .bad at_ 70 else .ok (.rng o.1 p.1) (e + 1 + p.2.1.toNat)
def item (s : ByteArray) (at_ : Nat) : Res It :=
  let l := (Utf.nums s).drop at_
  if l[0]? = some 91 ∧ l[1]? = some 58 then colonX s at_ else
  let x := set (s.extract at_ s.size)
  if x.2.2 = 0 then (match x.1 with | some y => .ok (.cls y) (at_ + x.2.1.toNat) | none => .bad at_ 0)
  else if x.2.2 ≠ 3 ∧ x.2.2 ≠ 5 then .bad at_ x.2.2 else span s at_
/-- The items of a text from a place on, to the closing bracket; the first of them begins at 'first'. -/
def items (s : ByteArray) (first : Nat) : Nat → Nat → List It → Res (List It)
  | 0, at_, Xs => .bad s.size 82
  | f + 1, at_, Xs =>
    if s.size ≤ at_ then .bad s.size 82 else if (Utf.nums s)[at_]?.getD 0 = 93 ∧ first < at_ then .ok Xs at_ else
    match item s at_ with
    | .bad o c => .bad o c
    | .ok x next => items s first f next (Xs ++ [x])
def first (l : List Int) : Nat := if l[1]?.getD 0 = 94 then 2 else 1
/-- What stands between brackets. -/
def brack (s : ByteArray) : Res (List It) :=
  if (Utf.nums s)[0]?.getD 0 ≠ 91 then .bad 0 3 else items s (first (Utf.nums s)) (s.size + 1 - first (Utf.nums s)) (first (Utf.nums s)) []
end Go.Proofs.YtcomjkoaieeidaaGreatDoor.Br
