/- The plain mathematics of the reference's fold (burinref03): inserting, rounds on lists, what is closed. · Mathematics of bracket: the list that an expression stands for. · The reference's tree (burinref06): letter, Name. · Mathematics of lex: the token at the front of a text, and all tokens of a text. · A number in decimal digits. · Mathematics of show: a tree as a pattern. · strconv.FormatInt at base 16. -/
import Derived.Test.YtanffablfgnioaaGreatDoorGp5
import Derived.Test.YtanffablfgnioaaGreatDoorGp4
import Derived.Test.YtanffablfgnioaaGreatDoorGp1
import Derived.Test.YtanffablfgnioaaGreatDoorGp2
import Derived.IntWalk
import Derived.Test.YtanffablfgnioaaGreatDoorGp3
import Derived.Laws.IdiomStrings
import Derived.Laws.Bits64b
namespace Go.Proofs.YtanffablfgnioaaGreatDoor.Fd
open Go.Proofs.YtanffablfgnioaaGreatDoor.Rg
set_option linter.unusedVariables false
/-! ### Next -/
/-! ### Close -/
def one (x : Int) : Int × Int := (x, x)
/-- A number is in what is closed just if one of its family is in the set. -/
def clB (l : List R) (q : Int) : Bool := decide (0 ≤ q ∧ q ≤ 1114111) && (fam q).any (hasB l)
end Go.Proofs.YtanffablfgnioaaGreatDoor.Fd
namespace Go.Proofs.YtanffablfgnioaaGreatDoor.Br
open Go.Proofs.YtanffablfgnioaaGreatDoor.Rg
set_option linter.unusedVariables false
/-- The union of items, closed where it is asked, and its complement where it is asked. -/
def BrIs (Xs : List It) (fold neg : Bool) (out : List R) : Prop :=
  ∃ L M, ItsIs Xs L ∧ ListOf L M ∧ NormL out ∧ ∀ q, 0 ≤ q → q ≤ 1114111 → hasB out q = (neg != (if fold = true then Fd.clB M q else hasB M q))
theorem brIs_unique {Xs : List It} {fold neg : Bool} {a b : List R} (h : BrIs Xs fold neg a) (k : BrIs Xs fold neg b) : a = b := by
  obtain ⟨L, M, h1, h2, h3, h4⟩ := h
  obtain ⟨L', M', k1, k2, k3, k4⟩ := k
  obtain rfl := itsIs_unique h1 k1
  obtain rfl := made_unique h2 k2
  exact norm_ext h3 k3 (fun q h0 h1 => by rw [h4 q h0 h1, k4 q h0 h1])
theorem brIs_plain {Xs : List It} {L M : List R} (h1 : ItsIs Xs L) (h2 : ListOf L M) : BrIs Xs false false M := ⟨L, M, h1, h2, h2.norm, fun q _ _ => by simp⟩
theorem brIs_fold {Xs : List It} {L M out : List R} (h1 : ItsIs Xs L) (h2 : ListOf L M) (h3 : NormL out) (h4 : ∀ q, hasB out q = Fd.clB M q) : BrIs Xs true false out := ⟨L, M, h1, h2, h3, fun q _ _ => by rw [h4]; simp⟩
theorem brIs_not {Xs : List It} {fold : Bool} {a out : List R} (h : BrIs Xs fold false a) (k : Made 3 [(0, 1114111)] a out) : BrIs Xs fold true out := by
  obtain ⟨L, M, h1, h2, h3, h4⟩ := h
  refine ⟨L, M, h1, h2, k.norm, fun q h0 h5 => ?_⟩
  rw [k.has q h0 h5, h4 q h0 h5]
  have e : hasB [(0, 1114111)] q = true := (hasB_iff _ _).2 ⟨⟨h0, h5⟩, (0, 1114111), by simp, h0, h5⟩
  rw [e]
  generalize (if fold = true then Fd.clB M q else hasB M q) = z
  cases z <;> rfl
/-- What an item says lies in bounds. -/
def ItOk : It → Prop
  | .cls _ => True
  | .rng lo hi => 0 ≤ lo ∧ lo ≤ hi ∧ hi ≤ 1114111
theorem item_ok (s : ByteArray) (at_ : Nat) (x : It) (next : Nat) (h : item s at_ = .ok x next) : ItOk x := by
  unfold item at h
  dsimp only at h
  split at h
  · unfold colonX at h
    dsimp only at h
    split at h
    · cases h
    split at h
    · cases h
    · cases h; trivial
  split at h
  · split at h
    · cases h; trivial
    · cases h
  split at h
  · cases h
  unfold span at h
  dsimp only at h
  have hb := Utf.bytes_drop (Utf.nums_bytes s)
  have o1 := one_cases ((Utf.nums s).drop at_) (hb _)
  split at h
  · cases h
  rename_i c
  split at h
  · cases h
    exact ⟨by omega, Int.le_refl _, by omega⟩
  split at h
  · cases h
  split at h
  · cases h
  rename_i c2
  have o2 := one_cases ((Utf.nums s).drop (at_ + (one ((Utf.nums s).drop at_)).2.1.toNat + 1)) (hb _)
  split at h
  · cases h
  · cases h
    exact ⟨by omega, by omega, by omega⟩
theorem itIs_len {X : It} {l : List R} (h : ItIs X l) : l.length ≤ 1114113 := by
  cases X with
  | cls x => have := norm_len l 0 h.1 (by omega); omega
  | rng lo hi => obtain rfl : l = [(lo, hi)] := h; simp
/-- A list of ranges, all of them runes. -/
def Runes (l : List R) : Prop := ∀ p ∈ l, 0 ≤ p.1 ∧ p.2 ≤ 1114111 ∧ p.1 ≤ p.2
theorem runes_norm {l : List R} (h : NormL l) : Runes l := fun p hp => by have := norm_lo l 0 h p hp; omega
theorem itIs_runes {X : It} {l : List R} (ho : ItOk X) (h : ItIs X l) : Runes l := by
  cases X with
  | cls x => exact runes_norm h.1
  | rng lo hi =>
    obtain rfl : l = [(lo, hi)] := h
    intro p hp
    rw [List.mem_singleton] at hp
    subst hp
    exact ⟨ho.1, ho.2.2, ho.2.1⟩
theorem runes_wide {l : List R} (h : Runes l) : Wide64 l := by
  intro p hp
  have := h p hp
  omega
theorem item_ne (s : ByteArray) (at_ : Nat) (o c : Int) (h : item s at_ = .bad o c) : c ≠ 0 := by
  unfold item at h
  dsimp only at h
  split at h
  · unfold colonX at h
    dsimp only at h
    split at h
    · cases h; decide
    split at h
    · cases h; decide
    · cases h
  split at h
  · rename_i hc
    rcases set_cases (s.extract at_ s.size) with ⟨e1, e2, e3⟩ | ⟨y, e1, e2, e3, e4⟩
    · omega
    · rw [e1] at h; cases h
  rename_i hc
  split at h
  · cases h; exact hc
  unfold span at h
  dsimp only at h
  split at h
  · rename_i h9; cases h; exact h9
  split at h
  · cases h
  split at h
  · cases h; decide
  split at h
  · rename_i h9; cases h; exact h9
  split at h
  · cases h; decide
  · cases h
theorem goesOn_len {l : List Int} (h : ¬ goesOn l = false) : 2 ≤ l.length := by
  unfold goesOn at h
  simp at h
  omega
theorem item_bad_bd (s : ByteArray) (at_ : Nat) (o c : Int) (ha : at_ ≤ s.size) (h : item s at_ = .bad o c) : 0 ≤ o ∧ o ≤ s.size := by
  unfold item at h
  dsimp only at h
  split at h
  · unfold colonX at h
    dsimp only at h
    split at h
    · cases h; omega
    split at h
    · cases h; omega
    · cases h
  split at h
  · split at h
    · cases h
    · cases h; omega
  split at h
  · cases h; omega
  unfold span at h
  dsimp only at h
  split at h
  · cases h; omega
  split at h
  · cases h
  rename_i hg
  have h2 := goesOn_len hg
  rw [List.length_drop, nums_len] at h2
  split at h
  · cases h; omega
  split at h
  · cases h; omega
  split at h
  · cases h; omega
  · cases h
theorem items_bad (s : ByteArray) (fs : Nat) : ∀ (f at_ : Nat) (Xs : List It) (o c : Int), items s fs f at_ Xs = .bad o c → 0 ≤ o ∧ o ≤ s.size ∧ c ≠ 0
  | 0, at_, Xs, o, c, h => by cases h; exact ⟨by omega, by omega, by decide⟩
  | f + 1, at_, Xs, o, c, h => by
    unfold items at h
    split at h
    · cases h; exact ⟨by omega, by omega, by decide⟩
    rename_i h1
    split at h
    · cases h
    cases hx : item s at_ with
    | bad o' c' =>
      rw [hx] at h
      cases h
      have := item_bad_bd s at_ o c (by omega) hx
      exact ⟨this.1, this.2, item_ne s at_ o c hx⟩
    | ok x next => rw [hx] at h; exact items_bad s fs f next _ o c h
theorem brack_bad {s : ByteArray} {o c : Int} (h : brack s = .bad o c) : 0 ≤ o ∧ o ≤ s.size ∧ c ≠ 0 := by
  unfold brack at h
  split at h
  · cases h; exact ⟨by omega, by omega, by decide⟩
  · exact items_bad s _ _ _ _ o c h
theorem runes_app {a b : List R} (h : Runes a) (k : Runes b) : Runes (a ++ b) := fun p hp => (List.mem_append.1 hp).elim (h p) (k p)
end Go.Proofs.YtanffablfgnioaaGreatDoor.Br
namespace Go.Proofs.YtanffablfgnioaaGreatDoor
open Go.RowKit
set_option linter.unusedVariables false
namespace Td
/-- May a byte stand in a name? -/
def letC (c : Int) : Bool := decide (65 ≤ c ∧ c ≤ 90 ∨ 97 ≤ c ∧ c ≤ 122 ∨ 48 ≤ c ∧ c ≤ 57 ∨ c = 95)
def bytes (s : ByteArray) : List Int := s.data.toList.map (fun b => (b.toNat : Int))
theorem bytes_len (s : ByteArray) : (bytes s).length = s.size := by simp [bytes]
theorem bytes_at (s : ByteArray) (k : Nat) (h : k < s.size) : (bytes s)[k]? = some (s[k].toNat : Int) := by
  have h' : k < s.data.size := h
  simp only [bytes, List.getElem?_map, Array.getElem?_toList]
  rw [Array.getElem?_eq_getElem h']
  rfl
/-- Is it a name? -/
def nameB (s : ByteArray) : Bool := (bytes s).all letC && decide (1 ≤ s.size ∧ s.size ≤ 32 ∧ ((bytes s).getD 0 0 < 48 ∨ 57 < (bytes s).getD 0 0))
end Td






































































































































































































end Go.Proofs.YtanffablfgnioaaGreatDoor
namespace Go.Proofs.YtanffablfgnioaaGreatDoor.Lx
set_option linter.unusedVariables false
/-- A token, without its place. -/
structure Tk where
  kind : Int := 0
  num : Int := 0
  name : ByteArray := ⟨#[]⟩
  mn : Int := 0
  mx : Int := 0
  lazy : Bool := false
  cls : Br.Cls := none
inductive TR where
  | bad (n code : Int)
  | ok (t : Tk) (n : Nat)
def runeT (r : Int) : Tk := { kind := 1, num := r }
def charX (l : List Int) : TR := if (Utf.dec l).1 < 0 then .bad 0 3 else .ok (runeT (Utf.dec l).1) (Utf.dec l).2.toNat
/-- The escapes that are no class and no number. -/
def shortX (c : Int) : Option Tk :=
  if c = 65 then some { kind := 5, num := 1 } else if c = 122 then some { kind := 5, num := 2 } else if c = 98 then some { kind := 5, num := 5 } else
  if c = 66 then some { kind := 5, num := 6 } else if c = 67 then some { kind := 4 } else none
def numX (l : List Int) : TR := if (Br.num l).2.2 = 0 then .ok (runeT (Br.num l).1) (Br.num l).2.1.toNat else .bad 0 (Br.num l).2.2
def setX (s : ByteArray) : TR :=
  if (Br.set s).2.2 = 0 then .ok { kind := 2, cls := (Br.set s).1 } (Br.set s).2.1.toNat else
  if (Br.set s).2.2 = 5 then numX (Utf.nums s) else .bad 0 (Br.set s).2.2
def escX (s : ByteArray) : TR :=
  match shortX ((Utf.nums s)[1]?.getD 0) with
  | some t => .ok t 2
  | none => setX s
def brackX (s : ByteArray) : TR :=
  match Br.brack s with
  | .bad o c => .bad o c
  | .ok _ e => .ok { kind := 13, name := s.extract 0 (e + 1) } (e + 1)
def decB (c : Int) : Bool := decide (48 ≤ c) && decide (c ≤ 57)
def dval (l : List Int) : Int := l.foldl (fun a c => a * 10 + (c - 48)) 0
/-- A number of one to four digits. -/
def cntX (l : List Int) : Option Int := if 1 ≤ l.length ∧ l.length ≤ 4 ∧ l.all decB = true then some (dval l) else none
/-- The numbers between the braces, and the whole length. -/
def bodyX (b : List Int) : Option (Int × Int) :=
  match cntX (b.take (Br.upTo 44 b)) with
  | none => none
  | some lo =>
    if Br.upTo 44 b = b.length then some (lo, lo) else
    if Br.upTo 44 b + 1 = b.length then some (lo, -1) else
    match cntX (b.drop (Br.upTo 44 b + 1)) with
    | none => none
    | some hi => some (lo, hi)
def countsX (l : List Int) : Int × Int × Nat :=
  if Br.upTo 125 (l.drop 1) = (l.drop 1).length then (0, 0, 0) else
  match bodyX ((l.drop 1).take (Br.upTo 125 (l.drop 1))) with
  | none => (0, 0, 0)
  | some (lo, hi) => (lo, hi, Br.upTo 125 (l.drop 1) + 2)
def boundsX (l : List Int) : Int × Int × Nat :=
  if l[0]?.getD 0 = 63 then (0, 1, 1) else if l[0]?.getD 0 = 43 then (1, -1, 1) else if l[0]?.getD 0 = 42 then (0, -1, 1) else countsX l
def repOf (lo hi : Int) (n : Nat) (l : List Int) : TR :=
  if 1000 < lo ∨ 1000 < hi ∨ (hi ≠ -1 ∧ hi < lo) then .bad 0 81 else
  if l[n]?.getD 0 = 63 then .ok { kind := 8, mn := lo, mx := hi, lazy := true } (n + 1) else .ok { kind := 8, mn := lo, mx := hi } n
def repX (l : List Int) : TR := repOf (boundsX l).1 (boundsX l).2.1 (boundsX l).2.2 l
/-- One flag's letter. -/
def flagB (c : Int) : Int := if c = 105 then 1 else if c = 109 then 2 else if c = 115 then 4 else if c = 85 then 8 else 0
def flagsOfX : List Int → Int → Option Int
  | [], a => some a
  | c :: l, a => if flagB c = 0 then none else flagsOfX l (bits .or .i64 a (flagB c))
def flagsX (l : List Int) : Option (Int × Int) :=
  match flagsOfX (l.take (Br.upTo 45 l)) 0, flagsOfX (l.drop (Br.upTo 45 l + 1)) 0 with
  | some a, some c => if l = [] ∨ Br.upTo 45 l + 1 = l.length then none else some (bits .andNot .i64 a c, c)
  | _, _ => none
/-- Where the first colon or closing bracket stands (all, where there is none). -/
def upToC : List Int → Nat
  | [] => 0
  | c :: l => if c = 58 ∨ c = 41 then 0 else upToC l + 1
/-- What stands ahead of a name, if one is begun. -/
def nameAt (l : List Int) : Nat :=
  if l.take 4 = [40, 63, 80, 60] then 4 else if l.take 3 = [40, 63, 60] then 3 else 0
def nameX (s : ByteArray) : Option (ByteArray × Nat) :=
  let l := Utf.nums s
  let p := nameAt l
  if p = 0 then none else
  if Br.upTo 62 (l.drop p) = (l.drop p).length then none else
  if Td.nameB (s.extract p (p + Br.upTo 62 (l.drop p))) = true then some (s.extract p (p + Br.upTo 62 (l.drop p)), p + Br.upTo 62 (l.drop p) + 1) else none
def flagX (l : List Int) : TR :=
  if upToC l = l.length then .bad 0 90 else
  if upToC l = 2 ∧ l[2]?.getD 0 = 58 then .ok { kind := 9 } 3 else
  match flagsX ((l.drop 2).take (upToC l - 2)) with
  | none => .bad 0 90
  | some (a, c) => if l[upToC l]?.getD 0 = 58 then .ok { kind := 9, mn := a, mx := c } (upToC l + 1) else .ok { kind := 10, mn := a, mx := c } (upToC l + 1)
def openX (s : ByteArray) : TR :=
  if ¬ (Utf.nums s)[1]?.getD 0 = 63 then .ok { kind := 9, num := 1 } 1 else
  match nameX s with
  | some (nm, n) => .ok { kind := 9, num := 1, name := nm } n
  | none => flagX (Utf.nums s)
/-- The token at the front of a text, outside of quotations. -/
def tokX (s : ByteArray) : TR :=
  let c := (Utf.nums s)[0]?.getD 0
  if c = 46 then .ok { kind := 3 } 1 else if c = 94 then .ok { kind := 6 } 1 else if c = 36 then .ok { kind := 7 } 1 else
  if c = 41 then .ok { kind := 11 } 1 else if c = 124 then .ok { kind := 12 } 1 else
  if c = 92 then escX s else if c = 91 then brackX s else if c = 40 then openX s else
  if c = 123 then (if (countsX (Utf.nums s)).2.2 = 0 then charX (Utf.nums s) else repX (Utf.nums s)) else
  if c = 42 ∨ c = 43 ∨ c = 63 then repX (Utf.nums s) else charX (Utf.nums s)
inductive LR where
  | bad (at_ code : Int)
  | ok (l : List (Int × Tk))
/-- Does a quotation begin, or end, here? -/
def turnB (q : Bool) (l : List Int) : Bool := decide (l[0]?.getD 0 = 92) && decide (l[1]?.getD 0 = if q then 69 else 81)
/-- All tokens of a text from a place on. -/
def lexF (s : ByteArray) : Nat → Nat → Bool → List (Int × Tk) → LR
  | 0, _, _, _ => .bad 0 0
  | f + 1, at_, q, T =>
    if s.size ≤ at_ then .ok T else
    if turnB q ((Utf.nums s).drop at_) = true then lexF s f (at_ + 2) (!q) T else
    match (if q then charX ((Utf.nums s).drop at_) else tokX (s.extract at_ s.size)) with
    | .bad n c => .bad (at_ + n) c
    | .ok t n => lexF s f (at_ + n) q (T ++ [((at_ : Int), t)])
end Go.Proofs.YtanffablfgnioaaGreatDoor.Lx
namespace Go.Proofs.YtanffablfgnioaaGreatDoor
set_option linter.unusedVariables false
namespace Lx
def decF : Nat → Nat → List Int
  | 0, _ => []
  | f + 1, n => if n < 10 then [48 + (n : Int)] else decF f (n / 10) ++ [48 + ((n % 10 : Nat) : Int)]
/-- A number below a million in its decimal digits. -/
def decL (n : Nat) : List Int := decF 6 n
theorem decF_dec : ∀ (f n : Nat), (decF f n).all decB = true
  | 0, _ => rfl
  | f + 1, n => by
    unfold decF
    split
    · simp [decB]; omega
    · rw [List.all_append, decF_dec f (n / 10)]
      simp [decB]; omega
theorem decF_val : ∀ (f n : Nat) , n < 10 ^ f → 0 < f → dval (decF f n) = n
  | 0, _, _, h => by omega
  | f + 1, n, h, _ => by
    unfold decF
    by_cases h1 : n < 10
    · rw [if_pos h1]; unfold dval; simp; omega
    · rw [if_neg h1]
      have e1 : n / 10 < 10 ^ f := by rw [Nat.pow_succ] at h; omega
      have f0 : 0 < f := by
        rcases Nat.eq_zero_or_pos f with e | e
        · subst e; simp at h; omega
        · exact e
      have ih := decF_val f (n / 10) e1 f0
      unfold dval at ih ⊢
      rw [List.foldl_append, ih]
      simp
      omega
theorem decL_val (n : Nat) (h : n < 1000000) : dval (decL n) = n := decF_val 6 n (by omega) (by omega)
theorem decL_dec (n : Nat) : (decL n).all decB = true := decF_dec 6 n
theorem decF_len : ∀ (f n : Nat), 0 < f → n < 10 ^ f → 1 ≤ (decF f n).length ∧ (decF f n).length ≤ f ∧ (∀ g, 0 < g → n < 10 ^ g → (decF f n).length ≤ g) ∧ (∀ g, 10 ^ g ≤ n → g < (decF f n).length)
  | 0, _, h, _ => by omega
  | f + 1, n, _, h => by
    unfold decF
    by_cases h1 : n < 10
    · rw [if_pos h1]
      refine ⟨by simp, by simp, fun g hg _ => by simp; omega, fun g hg => ?_⟩
      rcases Nat.eq_zero_or_pos g with e | e
      · subst e; simp
      · have : 10 ^ 1 ≤ 10 ^ g := Nat.pow_le_pow_right (by omega) e
        omega
    · rw [if_neg h1]
      have e1 : n / 10 < 10 ^ f := by rw [Nat.pow_succ] at h; omega
      have f0 : 0 < f := by
        rcases Nat.eq_zero_or_pos f with e | e
        · subst e; simp at h; omega
        · exact e
      obtain ⟨a, b, c, d⟩ := decF_len f (n / 10) f0 e1
      rw [List.length_append]
      simp only [List.length_cons, List.length_nil]
      refine ⟨by omega, by omega, fun g hg hn => ?_, fun g hg => ?_⟩
      · cases g with
        | zero => omega
        | succ g =>
          rcases Nat.eq_zero_or_pos g with e | e
          · subst e; simp at hn; omega
          · have := c g e (by rw [Nat.pow_succ] at hn; omega)
            omega
      · cases g with
        | zero => omega
        | succ g =>
          have := d g (by rw [Nat.pow_succ] at hg; omega)
          omega
end Lx
end Go.Proofs.YtanffablfgnioaaGreatDoor
namespace Go.Proofs.YtanffablfgnioaaGreatDoor.Sh
open Go.Proofs.YtanffablfgnioaaGreatDoor.Br (esc hexL)
open Go.Proofs.YtanffablfgnioaaGreatDoor.Lx (decL)
set_option linter.unusedVariables false
/-- A number outside of brackets. -/
def charL (r : Int) : List Int := if (48 ≤ r ∧ r ≤ 57) ∨ (65 ≤ r ∧ r ≤ 90) ∨ (97 ≤ r ∧ r ≤ 122) then [r] else esc r.toNat
def aboutL (n : Int) : List Int := if n = 1 then [92, 65] else if n = 2 then [92, 122] else if n = 3 then [40, 63, 109, 58, 94, 41] else if n = 4 then [40, 63, 109, 58, 36, 41] else if n = 5 then [92, 98] else [92, 66]
def openL (nm : ByteArray) : List Int := if nm = ⟨#[]⟩ then [40] else [40, 63, 80, 60] ++ Utf.nums nm ++ [62]
def countL (lo hi : Int) : List Int :=
  if lo = 0 ∧ hi = -1 then [42] else if lo = 1 ∧ hi = -1 then [43] else if lo = 0 ∧ hi = 1 then [63] else if hi = lo then 123 :: (decL lo.toNat ++ [125]) else
  if hi = -1 then 123 :: (decL lo.toNat ++ [44, 125]) else 123 :: (decL lo.toNat ++ 44 :: (decL hi.toNat ++ [125]))
def timesL (lo hi : Int) (lz : Bool) : List Int := countL lo hi ++ (if lz then [63] else [])
/-- A range between brackets. -/
def rgL (p : Int × Int) : List Int := esc p.1.toNat ++ (if p.1 < p.2 then 45 :: esc p.2.toNat else [])
def setL (l : List (Int × Int)) : List Int :=
  if l.length = 1 ∧ (l[0]?.getD (0, 0)).1 = (l[0]?.getD (0, 0)).2 then charL (l[0]?.getD (0, 0)).1 else 91 :: (l.flatMap rgL ++ [93])
def noneL : List Int := 91 :: 94 :: (esc 0 ++ 45 :: (esc 1114111 ++ [93]))
/-- Is a part wrapped? -/
def wrapB (K j : Int) : Bool := decide (j = 8) || (decide (j = 7) && !decide (K = 8)) || (decide (j = 9) && decide (K = 9))
def wrapL (b : Bool) (x : List Int) : List Int := if b then [40, 63, 58] ++ x ++ [41] else x
/-- Alternatives, one behind another. -/
def altL : List (List Int) → List Int
  | [] => []
  | [x] => x
  | x :: y :: l => x ++ 124 :: altL (y :: l)
theorem altL_snoc (a : List Int) : ∀ (l : List (List Int)), l ≠ [] → altL (l ++ [a]) = altL l ++ 124 :: a
  | [], h => absurd rfl h
  | [x], _ => rfl
  | x :: y :: l, _ => by
    show x ++ 124 :: altL (y :: l ++ [a]) = (x ++ 124 :: altL (y :: l)) ++ 124 :: a
    rw [altL_snoc a (y :: l) (by simp)]
    simp
/-- A tree as a pattern, down to a depth. -/
def shL : Nat → Nd → List Int
  | 0, _ => []
  | k + 1, n =>
    if Td.kind n = 1 then [40, 63, 58, 41] else
    if Td.kind n = 2 then noneL else
    if Td.kind n = 3 then setL (Td.set n) else
    if Td.kind n = 4 then [92, 67] else
    if Td.kind n = 5 then aboutL (Td.num n) else
    if Td.kind n = 6 then openL (Td.name n) ++ (Td.subs n).flatMap (shL k) ++ [41] else
    if Td.kind n = 7 then (Td.subs n).flatMap (fun m => wrapL (wrapB 7 (Td.kind m)) (shL k m)) else
    if Td.kind n = 8 then altL ((Td.subs n).map fun m => wrapL (wrapB 8 (Td.kind m)) (shL k m)) else
    (Td.subs n).flatMap (fun m => wrapL (wrapB 9 (Td.kind m)) (shL k m)) ++ timesL (Td.mn n) (Td.mx n) (Td.lazy n)
def partL (k : Nat) (K : Int) (m : Nd) : List Int := wrapL (wrapB K (Td.kind m)) (shL k m)
end Go.Proofs.YtanffablfgnioaaGreatDoor.Sh
namespace Go.Proofs.YtanffablfgnioaaGreatDoor
open Go.RowKit
open Br (hexL hexL_small hexL_big)
set_option linter.unusedVariables false
/-- The one cell of a table that is read to find out that 16 is 2 to the 4th. -/
def TzAt (W : World) : Prop := W.cell? ⟨8, (16 * 285870213051353865 % 18446744073709551616 / 288230376151711744 : Nat), none⟩ = some (.int .u8 4)
theorem TzAt.below {W W' : World} {B : Nat} (h : TzAt W) (hB : W.heap.size ≤ B) (hb : Below B W W') : TzAt W' := by
  unfold TzAt at h ⊢
  have hlt : 8 < W.heap.size := by
    rcases Nat.lt_or_ge 8 W.heap.size with g | g
    · exact g
    · rw [World.cell?] at h
      dsimp only at h
      rw [Array.getElem?_eq_none g] at h
      cases h
  exact (hb.cell (p := ⟨8, _, none⟩) (Nat.lt_of_lt_of_le hlt hB)).trans h
set_option maxRecDepth 100000 in
set_option maxHeartbeats 4000000 in
theorem tz16_any (W : World) (h : TzAt W) : Calls Tryz.prog 172 #[.int .u64 16] W fun e w' => e = .returned (.int .i64 4) ∧ W = w' := by
  unfold TzAt at h
  have key : IntKind.u64.wrap (bits BinOp.and IntKind.u64 16 (IntKind.u64.wrap (-16)) * 285870213051353865) / 288230376151711744 = ((16 * 285870213051353865 % 18446744073709551616 / 288230376151711744 : Nat) : Int) := by decide +kernel
  go_enter Tryz.func172, Tryz.ntmps172
  go_wp2
  go_ret
  exact ⟨rfl, rfl⟩
def digB : ByteArray := ⟨#[48, 49, 50, 51, 52, 53, 54, 55, 56, 57, 97, 98, 99, 100, 101, 102, 103, 104, 105, 106, 107, 108, 109, 110, 111, 112, 113, 114, 115, 116, 117, 118, 119, 120, 121, 122]⟩
theorem pow16_any (W : World) : Calls Tryz.prog 171 #[.int .i64 16] W fun e w' => e = .returned (.bool true) ∧ W = w' := by
  have p0 : bits .and .i64 16 15 = 0 := by decide +kernel
  go_enter Tryz.func171, Tryz.ntmps171
  go_wp2
  go_ret
  exact ⟨rfl, rfl⟩
/-- The row of digits: T at its end. -/
structure RowEnd (W : World) (ab : Nat) (T : List Int) : Prop where
  blk : ∃ cur : Array Value, W.heap[ab]? = some (.cells cur 192 (0, 0)) ∧ cur.size = 65 ∧ ∀ j x, T[j]? = some x → cur[65 - T.length + j]? = some (.int .u8 x)
  len : T.length ≤ 6
theorem digB_at (d : Nat) (hd : d < 16) (h : d < digB.size) : ((digB[d]'h).toNat : Int) = Br.hd d := by
  have hk : ∀ k : Fin 16, ((digB[k.1]'(Nat.lt_of_lt_of_le k.2 (by decide))).toNat : Int) = Br.hd k.1 := by decide
  exact hk ⟨d, hd⟩
theorem RowEnd.step {W : World} {ab : Nat} {T : List Int} (h : RowEnd W ab T) (hT : T.length ≤ 5) {i : Nat} (hi : 65 - T.length = i + 1) (x : Int) : RowEnd (W.setCell ⟨ab, i, none⟩ (.int .u8 x)) ab (x :: T) := by
  obtain ⟨⟨cur, hblk, hsz, hcur⟩, hl6⟩ := h
  refine ⟨⟨_, heap_setCell_same W ab i _ _ (.int .u8 x) hblk, by rw [Array.size_setIfInBounds]; exact hsz, fun j y hj => ?_⟩, by rw [List.length_cons]; omega⟩
  have e : 65 - (x :: T).length = i := by rw [List.length_cons]; omega
  rw [e]
  cases j with
  | zero =>
    obtain rfl : x = y := by simpa using hj
    rw [Nat.add_zero, Array.getElem?_setIfInBounds, if_pos rfl, if_pos (by omega)]
  | succ j =>
    have hj' : T[j]? = some y := by simpa using hj
    have := hcur j y hj'
    rw [hi] at this
    rw [show i + (j + 1) = i + 1 + j by omega]
    rw [← this]
    rw [Array.getElem?_setIfInBounds, if_neg (by omega)]
theorem below_set {W W' : World} {B ab i : Nat} (h : Below B W W') (hab : B ≤ ab) (v : Value) : Below B W (W'.setCell ⟨ab, i, none⟩ v) := h.setCell (p := ⟨ab, i, none⟩) hab v
def hexS (n : Nat) : List UInt8 := (hexL n).map fun x => UInt8.ofNat x.toNat
theorem hexS_nums (n : Nat) : Utf.nums (⟨(hexS n).toArray⟩ : ByteArray) = hexL n := by
  unfold Utf.nums hexS
  simp only [List.map_map]
  refine (List.map_congr_left (fun x hx => ?_)).trans (List.map_id _)
  have := Br.hexL_all n x hx
  show ((UInt8.ofNat x.toNat).toNat : Int) = x
  rw [UInt8.toNat_ofNat']
  omega
/-- The digits, turned into a text. -/
theorem RowEnd.text {W : World} {ab n i : Nat} {T : List Int} (h : RowEnd W ab T) (hT : T = hexL n) (hi : 65 - T.length = i) (cap : Nat) :
    (convert 44 9 (.slice (some ⟨ab, i, none⟩) T.length cap)).run Tryz.prog W = .ok (.string ⟨(hexS n).toArray⟩) W := by
  obtain ⟨⟨cur, hblk, hsz, hcur⟩, hl6⟩ := h
  have hl : (hexS n).length = T.length := by unfold hexS; rw [List.length_map, hT]
  have h9 := run_convert_bytes_back (P := Tryz.prog) W 44 9 5 ⟨ab, i, none⟩ cap (hexS n) (by kernel_rfl) (by kernel_rfl) (by kernel_rfl) (fun j hj => by
    have hjT : j < T.length := by omega
    have h1 := hcur j T[j] (List.getElem?_eq_getElem hjT)
    rw [hi] at h1
    have h2 : ((hexS n)[j].toNat : Int) = T[j] := by
      have h3 := hexS_nums n
      have h4 : (Utf.nums (⟨(hexS n).toArray⟩ : ByteArray))[j]? = T[j]? := by rw [h3, hT]
      unfold Utf.nums at h4
      rw [List.getElem?_map, List.getElem?_eq_getElem hjT] at h4
      have h5 : ((hexS n)[j]?).map (fun b => (b.toNat : Int)) = some T[j] := h4
      rw [List.getElem?_eq_getElem hj] at h5
      exact Option.some.inj h5
    rw [h2]
    rw [Addr.add_lit]
    simp [World.cell?, hblk, h1])
  rw [hl] at h9
  exact h9
theorem slice65 (W : World) (ab i m : Nat) (hi : i + m = 65) (hm : 1 ≤ m) : (Instr.sliceAt 192 (.pointer (some ⟨ab, 0, none⟩)) (some (.int .i64 (i : Int))) none none).run Tryz.prog W = .ok (.slice (some ⟨ab, i, none⟩) m m) W := by
  have hu : Tryz.prog.underlying 192 = some (.array 65 5) := by kernel_rfl
  have hal : Tryz.prog.arrayLen 192 = 65 := by simp [Program.arrayLen, hu]
  rw [run_sliceAt_array_l W 192 ⟨ab, 0, none⟩ (by simp [Program.arrayLen, Program.elem, hu]) .i64 (i : Int) (by omega) (by rw [hal]; omega)]
  have e1 : 65 - i = m := by omega
  simp only [hal]
  go_simp
  omega
set_option maxRecDepth 100000 in
set_option maxHeartbeats 4000000 in
theorem fbits_any (W : World) (n : Nat) (hn : n ≤ 1114111) (h : TzAt W) : Calls Tryz.prog 135 #[.slice none 0 0, .int .u64 (n : Int), .int .i64 16, .bool false, .bool false] W fun e w' =>
    ∃ T : ByteArray, e = .returned (.tuple #[.slice none 0 0, .string T]) ∧ Utf.nums T = hexL n ∧ Below W.heap.size W w' := by
  have p0 : bits .and .i64 16 15 = 0 := by decide +kernel
  have HZ := Lib.hid h
  clear h
  go_enter Tryz.func135, Tryz.ntmps135
  go_wp2_with fail
  obtain ⟨w1, hw1⟩ : ∃ w1, W.alloc (.cells Tryz.zeroCells192 192) = w1 := ⟨_, rfl⟩
  obtain ⟨ab, hab⟩ : ∃ ab, W.heap.size = ab := ⟨_, rfl⟩
  have hb1 : Below W.heap.size W w1 := by rw [← hw1]; exact (Below.refl _ _).alloc (Nat.le_refl _) _
  have HR1 : Hid (RowEnd w1 ab []) := Lib.hid ⟨⟨_, by rw [← hw1, ← hab]; exact heap_alloc_new _ _, by kernel_rfl, fun j x h => by simp at h⟩, by simp⟩
  have HB1 := Lib.hid hb1
  have HZ1 := Lib.hid (HZ.out.below (Nat.le_refl _) hb1)
  rw [hw1, hab]
  have HAB := Lib.hid hab
  clear hw1 hab hb1 p0
  refine (pow16_any _).mono ?_
  rintro e w' ⟨rfl, rfl⟩
  go_wp2_with fail
  refine (tz16_any _ HZ1.out).mono ?_
  rintro e w' ⟨rfl, rfl⟩
  go_wp2
  go_loopw [1, 13] (fun uv iv wr => ∃ (u : Nat) (T : List Int), uv = .int .u64 (u : Int) ∧ iv = .int .i64 ((65 - T.length : Nat) : Int) ∧ T.length ≤ 5 ∧ u < 16 ^ (6 - T.length) ∧ Hid (hexL n = hexL u ++ T) ∧ Hid (RowEnd wr ab T) ∧ Hid (Below W.heap.size W wr)) (fun uv _ _ => (intOf uv).toNat)
  case atStart => exact ⟨n, [], rfl, rfl, by simp, by simp; omega, Lib.hid (by simp), HR1, HB1⟩
  case round =>
    obtain ⟨u, T, rfl, rfl, hT5, hu6, HH, HR, HB⟩ := hrel
    obtain ⟨⟨cur, hblk, hsz, hcur⟩, hl6⟩ := HR.out
    obtain ⟨k, hk⟩ : ∃ k, T.length = k := ⟨_, rfl⟩
    rw [hk] at hT5 hu6 hcur hl6 ⊢
    obtain ⟨i, hi⟩ : ∃ i, 64 - k = i := ⟨_, rfl⟩
    have hi1 : 65 - k = i + 1 := by omega
    rw [hi1] at hcur ⊢
    have hcell : ∀ j, j < 65 → wr.cell? ⟨ab, j, none⟩ = cur[j]? := fun j hj => by simp [World.cell?, hblk]
    have hfr : wr.frozen? ⟨ab, i, none⟩ = false := by simp [World.frozen?, hblk]
    have hci : wr.cell? ⟨ab, i, none⟩ = some (cur[i]'(by omega)) := by rw [hcell i (by omega), Array.getElem?_eq_getElem (by omega)]
    have hw1 : IntKind.i64.wrap (((i + 1 : Nat) : Int) - 1) = (i : Int) := by rw [IntKind.wrap_i64]; omega
    have hi65 : (i : Int) < 65 := by omega
    have hi0 : (0 : Int) ≤ (i : Int) := by omega
    have hi65n : i < 65 := by omega
    obtain ⟨d, hd⟩ : ∃ d, u % 16 = d := ⟨_, rfl⟩
    obtain ⟨q, hq⟩ : ∃ q, u / 16 = q := ⟨_, rfl⟩
    have hd16 : d < 16 := by omega
    have hu64 : u < 18446744073709551616 := by
      have : 16 ^ (6 - k) ≤ 16 ^ 6 := Nat.pow_le_pow_right (by decide) (by omega)
      omega
    by_cases hge : 16 ≤ u
    · have hgi : (16 : Int) ≤ (u : Int) := by omega
      have hand : bits .and .u64 (u : Int) 15 = (d : Int) := by
        rw [show (15 : Int) = ((15 : Nat) : Int) from rfl, bits_and_u64_nat u 15 hu64 (by decide), ← hd]
        congr 1
        exact Nat.and_two_pow_sub_one_eq_mod u 4
      have hdi : (d : Int) < 36 := by omega
      have hdn : d < 36 := by omega
      have hd0 : (0 : Int) ≤ (d : Int) := by omega
      clear hblk hcur hcell
      have HST := Lib.hid (HR.out.step (by omega) (i := i) (by omega) (Br.hd d))
      have HBS := Lib.hid (below_set (i := i) HB.out (by rw [HAB.out]; exact Nat.le_refl _) (.int .u8 (Br.hd d)))
      have hdg := digB_at d hd16 (by show d < 36; omega)
      have HDG := Lib.hid hdg
      have HQ : Hid ((u : Int) / 16 = (q : Int)) := Lib.hid (by omega)
      have HLX : Hid (hexL n = hexL q ++ (Br.hd d :: T)) := Lib.hid (by rw [HH.out, hexL_big (n := u) (by omega), hq, hd, List.append_assoc]; rfl)
      have hq6 : q < 16 ^ (6 - (k + 1)) := by
        have e : 16 ^ (6 - k) = 16 ^ (6 - (k + 1)) * 16 := by rw [← Nat.pow_succ]; congr 1; omega
        omega
      have hk4 : k + 1 ≤ 5 := by
        rcases Nat.lt_or_ge k 5 with g | g
        · omega
        · exfalso
          have : k = 5 := by omega
          subst this
          simp at hu6
          omega
      clear hdg
      go_wp2
      refine ⟨⟨q, Br.hd d :: T, by rw [HQ.out], by rw [List.length_cons, hk, show 65 - (k + 1) = i by omega], by rw [List.length_cons, hk]; exact hk4, by rw [List.length_cons, hk]; exact hq6, HLX, ?_, ?_⟩, ?_⟩
      · exact Lib.hid (by have e := HDG.out; unfold digB at e; rw [e]; exact HST.out)
      · exact Lib.hid (by have e := HDG.out; unfold digB at e; rw [e]; exact HBS.out)
      · simp [intOf]; omega
    · have hgi : ¬ (16 : Int) ≤ (u : Int) := by omega
      obtain rfl : u = d := by omega
      have hdi : (u : Int) < 36 := by omega
      have hdn : u < 36 := by omega
      have hd0 : (0 : Int) ≤ (u : Int) := by omega
      clear hblk hcur hcell hd hq
      have HST := Lib.hid (HR.out.step (by omega) (i := i) (by omega) (Br.hd u))
      have HBS := Lib.hid (below_set (i := i) HB.out (by rw [HAB.out]; exact Nat.le_refl _) (.int .u8 (Br.hd u)))
      have hdg := digB_at u hd16 (by show u < 36; omega)
      have HDG := Lib.hid hdg
      have HLX : Hid (Br.hd u :: T = hexL n) := Lib.hid (by rw [HH.out, hexL_small (n := u) (by omega)]; rfl)
      have hsl := fun w => slice65 w ab i (k + 1) (by omega) (by omega)
      have HTX := Lib.hid (fun cap => HST.out.text (n := n) (i := i) HLX.out (by rw [List.length_cons]; omega) cap)
      rw [List.length_cons, hk] at HTX
      have hcv := HTX.out (k + 1)
      have e9 := HDG.out
      unfold digB at e9
      rw [← e9] at hcv
      clear hdg e9
      have HCL := Lib.hid (hexS_nums n)
      go_wp2
      go_ret2
      exact ⟨_, rfl, HCL.out, by have e := HDG.out; unfold digB at e; rw [e]; exact HBS.out⟩
set_option maxRecDepth 100000 in
set_option maxHeartbeats 4000000 in
theorem fint_any (W : World) (n : Nat) (hn : n ≤ 1114111) (h : TzAt W) : Calls Tryz.prog 100 #[.int .i64 (n : Int), .int .i64 16] W fun e w' =>
    ∃ T : ByteArray, e = .returned (.string T) ∧ Utf.nums T = hexL n ∧ Below W.heap.size W w' := by
  have HZ := Lib.hid h
  have h0 : ¬ (n : Int) < 0 := by omega
  have hd : decide ((n : Int) < 0) = false := decide_eq_false h0
  have hw : IntKind.u64.wrap (n : Int) = (n : Int) := by rw [IntKind.wrap_u64]; omega
  clear h
  go_enter Tryz.func100, Tryz.ntmps100
  go_wp2_with fail
  refine (fbits_any W n hn HZ.out).mono ?_
  rintro e w' ⟨T, rfl, hT, hb⟩
  have HT := Lib.hid hT
  have HB := Lib.hid hb
  clear hT hb
  go_wp2
  go_ret
  exact ⟨T, rfl, HT.out, HB.out⟩
theorem fmt16_any (W : World) (n : Nat) (hn : n ≤ 1114111) (h : TzAt W) : Calls Tryz.prog 73 #[.int .i64 (n : Int), .int .i64 16] W fun e w' =>
    ∃ T : ByteArray, e = .returned (.string T) ∧ Utf.nums T = hexL n ∧ Below W.heap.size W w' := by
  have HZ := Lib.hid h
  clear h
  go_enter Tryz.func73, Tryz.ntmps73
  go_wp2_with fail
  refine (fint_any W n hn HZ.out).mono ?_
  rintro e w' ⟨T, rfl, hT, hb⟩
  have HT := Lib.hid hT
  have HB := Lib.hid hb
  clear hT hb
  go_wp2
  go_ret
  exact ⟨T, rfl, HT.out, HB.out⟩
/-- show.escape: a number in the form of braces. -/
theorem escape_show (W : World) (n : Nat) (hn : n ≤ 1114111) (h : TzAt W) : Calls Tryz.prog 46 #[.int .i64 (n : Int)] W fun e w' =>
    ∃ T : ByteArray, e = .returned (.string T) ∧ Utf.nums T = Br.esc n ∧ Below W.heap.size W w' := by
  have HZ := Lib.hid h
  clear h
  go_enter Tryz.func46, Tryz.ntmps46
  go_wp2_with fail
  refine (fmt16_any W n hn HZ.out).mono ?_
  rintro e w' ⟨T, rfl, hT, hb⟩
  have hz : T.size ≤ 6 := by rw [← Utf.nums_length, hT]; exact (Br.hexL6 hn).2
  have HT := Lib.hid hT
  have HB := Lib.hid hb
  have n1 : ¬ 9223372036854775807 < 3 + T.size := by omega
  have n2 : ¬ 9223372036854775807 < 3 + T.size + 1 := by omega
  have hP : ((⟨#[92, 120, 123]⟩ : ByteArray) ++ T).size = 3 + T.size := ByteArray.size_append ..
  have n3 : ¬ 9223372036854775807 < ((⟨#[92, 120, 123]⟩ : ByteArray) ++ T).size + 1 := by omega
  have HN : Hid (Utf.nums (((⟨#[92, 120, 123]⟩ : ByteArray) ++ T) ++ (⟨#[125]⟩ : ByteArray)) = Br.esc n) := Lib.hid (by
    rw [Br.nums_append', Br.nums_append', hT]
    unfold Br.esc
    show (92 :: 120 :: 123 :: hexL n) ++ [125] = _
    rfl)
  clear hT hb hP
  go_wp2
  go_ret
  exact ⟨_, rfl, HN.out, HB.out⟩
end Go.Proofs.YtanffablfgnioaaGreatDoor
