/- The plain mathematics of the reference's fold (burinref03): inserting, rounds on lists, what is closed. · Mathematics of bracket: the list that an expression stands for. · The reference's tree (burinref06): letter, Name. · Mathematics of lex: the token at the front of a text, and all tokens of a text. · A number in decimal digits. · Mathematics of show: a tree as a pattern. -/
import Derived.Test.YtdcielcniboloaaDoorGp5
import Derived.Test.YtdcielcniboloaaDoorGp1
import Derived.Test.YtdcielcniboloaaDoorGp2
import Derived.IntWalk
namespace Go.Proofs.YtdcielcniboloaaDoor.Fd
open Go.Proofs.YtdcielcniboloaaDoor.Rg
set_option linter.unusedVariables false
/-! ### Next -/
/-! ### Close -/
def one (x : Int) : Int × Int := (x, x)
end Go.Proofs.YtdcielcniboloaaDoor.Fd
namespace Go.Proofs.YtdcielcniboloaaDoor.Br
open Go.Proofs.YtdcielcniboloaaDoor.Rg
set_option linter.unusedVariables false
end Go.Proofs.YtdcielcniboloaaDoor.Br
namespace Go.Proofs.YtdcielcniboloaaDoor
open Go.RowKit
set_option linter.unusedVariables false
namespace Td
/-- May a byte stand in a name? -/
def letC (c : Int) : Bool := decide (65 ≤ c ∧ c ≤ 90 ∨ 97 ≤ c ∧ c ≤ 122 ∨ 48 ≤ c ∧ c ≤ 57 ∨ c = 95)
def bytes (s : ByteArray) : List Int := s.data.toList.map (fun b => (b.toNat : Int))
theorem bytes_len (s : ByteArray) : (bytes s).length = s.size := by simp [bytes]
theorem bytes_at (s : ByteArray) (k : Nat) (h : k < s.size) : (bytes s)[k]? = some (s[k].toNat : Int) := by
  have h' : k < s.data.size := h
  simp only [bytes, List.getElem?_map, Array.getElem?_toList]
  rw [Array.getElem?_eq_getElem h']
  rfl
/-- Is it a name? -/
def nameB (s : ByteArray) : Bool := (bytes s).all letC && decide (1 ≤ s.size ∧ s.size ≤ 32 ∧ ((bytes s).getD 0 0 < 48 ∨ 57 < (bytes s).getD 0 0))
end Td
end Go.Proofs.YtdcielcniboloaaDoor
namespace Go.Proofs.YtdcielcniboloaaDoor.Lx
set_option linter.unusedVariables false
/-- A token, without its place. -/
structure Tk where
  kind : Int := 0
  num : Int := 0
  name : ByteArray := ⟨#[]⟩
  mn : Int := 0
  mx : Int := 0
  lazy : Bool := false
  cls : Br.Cls := none
inductive TR where
  | bad (n code : Int)
  | ok (t : Tk) (n : Nat)
def decB (c : Int) : Bool := decide (48 ≤ c) && decide (c ≤ 57)
/-- What stands ahead of a name, if one is begun. -/
def nameAt (l : List Int) : Nat :=
  if l.take 4 = [40, 63, 80, 60] then 4 else if l.take 3 = [40, 63, 60] then 3 else 0
def nameX (s : ByteArray) : Option (ByteArray × Nat) :=
  let l := Utf.nums s
  let p := nameAt l
  if p = 0 then none else
  if Br.upTo 62 (l.drop p) = (l.drop p).length then none else
  if Td.nameB (s.extract p (p + Br.upTo 62 (l.drop p))) = true then some (s.extract p (p + Br.upTo 62 (l.drop p)), p + Br.upTo 62 (l.drop p) + 1) else none
inductive LR where
  | bad (at_ code : Int)
  | ok (l : List (Int × Tk))
end Go.Proofs.YtdcielcniboloaaDoor.Lx
namespace Go.Proofs.YtdcielcniboloaaDoor
set_option linter.unusedVariables false
namespace Lx
def decF : Nat → Nat → List Int
  | 0, _ => []
  | f + 1, n => if n < 10 then [48 + (n : Int)] else decF f (n / 10) ++ [48 + ((n % 10 : Nat) : Int)]
/-- A number below a million in its decimal digits. -/
def decL (n : Nat) : List Int := decF 6 n
theorem decF_dec : ∀ (f n : Nat), (decF f n).all decB = true
  | 0, _ => rfl
  | f + 1, n => by
    unfold decF
    split
    · simp [decB]; omega
    · rw [List.all_append, decF_dec f (n / 10)]
      simp [decB]; omega
theorem decL_dec (n : Nat) : (decL n).all decB = true := decF_dec 6 n
theorem decF_len : ∀ (f n : Nat), 0 < f → n < 10 ^ f → 1 ≤ (decF f n).length ∧ (decF f n).length ≤ f ∧ (∀ g, 0 < g → n < 10 ^ g → (decF f n).length ≤ g) ∧ (∀ g, 10 ^ g ≤ n → g < (decF f n).length)
  | 0, _, h, _ => by omega
  | f + 1, n, _, h => by
    unfold decF
    by_cases h1 : n < 10
    · rw [if_pos h1]
      refine ⟨by simp, by simp, fun g hg _ => by simp; omega, fun g hg => ?_⟩
      rcases Nat.eq_zero_or_pos g with e | e
      · subst e; simp
      · have : 10 ^ 1 ≤ 10 ^ g := Nat.pow_le_pow_right (by omega) e
        omega
    · rw [if_neg h1]
      have e1 : n / 10 < 10 ^ f := by rw [Nat.pow_succ] at h; omega
      have f0 : 0 < f := by
        rcases Nat.eq_zero_or_pos f with e | e
        · subst e; simp at h; omega
        · exact e
      obtain ⟨a, b, c, d⟩ := decF_len f (n / 10) f0 e1
      rw [List.length_append]
      simp only [List.length_cons, List.length_nil]
      refine ⟨by omega, by omega, fun g hg hn => ?_, fun g hg => ?_⟩
      · cases g with
        | zero => omega
        | succ g =>
          rcases Nat.eq_zero_or_pos g with e | e
          · subst e; simp at hn; omega
          · have := c g e (by rw [Nat.pow_succ] at hn; omega)
            omega
      · cases g with
        | zero => omega
        | succ g =>
          have := d g (by rw [Nat.pow_succ] at hg; omega)
          omega
end Lx
end Go.Proofs.YtdcielcniboloaaDoor
namespace Go.Proofs.YtdcielcniboloaaDoor.Sh
open Go.Proofs.YtdcielcniboloaaDoor.Br (esc hexL)
open Go.Proofs.YtdcielcniboloaaDoor.Lx (decL)
set_option linter.unusedVariables false
/-- A number outside of brackets. -/
def charL (r : Int) : List Int := if (48 ≤ r ∧ r ≤ 57) ∨ (65 ≤ r ∧ r ≤ 90) ∨ (97 ≤ r ∧ r ≤ 122) then [r] else esc r.toNat
def aboutL (n : Int) : List Int := if n = 1 then [92, 65] else if n = 2 then [92, 122] else if n = 3 then [40, 63, 109, 58, 94, 41] else if n = 4 then [40, 63, 109, 58, 36, 41] else if n = 5 then [92, 98] else [92, 66]
def openL (nm : ByteArray) : List Int := if nm = ⟨#[]⟩ then [40] else [40, 63, 80, 60] ++ Utf.nums nm ++ [62]
def countL (lo hi : Int) : List Int :=
  if lo = 0 ∧ hi = -1 then [42] else if lo = 1 ∧ hi = -1 then [43] else if lo = 0 ∧ hi = 1 then [63] else if hi = lo then 123 :: (decL lo.toNat ++ [125]) else
  if hi = -1 then 123 :: (decL lo.toNat ++ [44, 125]) else 123 :: (decL lo.toNat ++ 44 :: (decL hi.toNat ++ [125]))
def timesL (lo hi : Int) (lz : Bool) : List Int := countL lo hi ++ (if lz then [63] else [])
/-- A range between brackets. -/
def rgL (p : Int × Int) : List Int := esc p.1.toNat ++ (if p.1 < p.2 then 45 :: esc p.2.toNat else [])
def setL (l : List (Int × Int)) : List Int :=
  if l.length = 1 ∧ (l[0]?.getD (0, 0)).1 = (l[0]?.getD (0, 0)).2 then charL (l[0]?.getD (0, 0)).1 else 91 :: (l.flatMap rgL ++ [93])
def noneL : List Int := 91 :: 94 :: (esc 0 ++ 45 :: (esc 1114111 ++ [93]))
/-- Is a part wrapped? -/
def wrapB (K j : Int) : Bool := decide (j = 8) || (decide (j = 7) && !decide (K = 8)) || (decide (j = 9) && decide (K = 9))
def wrapL (b : Bool) (x : List Int) : List Int := if b then [40, 63, 58] ++ x ++ [41] else x
/-- Alternatives, one behind another. -/
def altL : List (List Int) → List Int
  | [] => []
  | [x] => x
  | x :: y :: l => x ++ 124 :: altL (y :: l)
theorem altL_snoc (a : List Int) : ∀ (l : List (List Int)), l ≠ [] → altL (l ++ [a]) = altL l ++ 124 :: a
  | [], h => absurd rfl h
  | [x], _ => rfl
  | x :: y :: l, _ => by
    show x ++ 124 :: altL (y :: l ++ [a]) = (x ++ 124 :: altL (y :: l)) ++ 124 :: a
    rw [altL_snoc a (y :: l) (by simp)]
    simp
/-- A tree as a pattern, down to a depth. -/
def shL : Nat → Nd → List Int
  | 0, _ => []
  | k + 1, n =>
    if Td.kind n = 1 then [40, 63, 58, 41] else
    if Td.kind n = 2 then noneL else
    if Td.kind n = 3 then setL (Td.set n) else
    if Td.kind n = 4 then [92, 67] else
    if Td.kind n = 5 then aboutL (Td.num n) else
    if Td.kind n = 6 then openL (Td.name n) ++ (Td.subs n).flatMap (shL k) ++ [41] else
    if Td.kind n = 7 then (Td.subs n).flatMap (fun m => wrapL (wrapB 7 (Td.kind m)) (shL k m)) else
    if Td.kind n = 8 then altL ((Td.subs n).map fun m => wrapL (wrapB 8 (Td.kind m)) (shL k m)) else
    (Td.subs n).flatMap (fun m => wrapL (wrapB 9 (Td.kind m)) (shL k m)) ++ timesL (Td.mn n) (Td.mx n) (Td.lazy n)
def partL (k : Nat) (K : Int) (m : Nd) : List Int := wrapL (wrapB K (Td.kind m)) (shL k m)
end Go.Proofs.YtdcielcniboloaaDoor.Sh
