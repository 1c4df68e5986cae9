/- Programs and their texts: mathematics. -/
import Derived.Lib.Index
import Derived.Lib.IndexMore
import Derived.Lib.ItoaMem
import Derived.Lib.AtoiAll
import Derived.Lib.AtoiAllCases
import Derived.Lib.AtoiTie
import Derived.Lib.Strings
namespace Go.Proofs.YtfnimmbmcjgdpaaDoor.Pgm
set_option linter.unusedVariables false
/-- An instruction. -/
structure In where
  op : Int
  lo : Int
  hi : Int
  x : Int
  y : Int
theorem In.ext' {a b : In} (h1 : a.op = b.op) (h2 : a.lo = b.lo) (h3 : a.hi = b.hi) (h4 : a.x = b.x) (h5 : a.y = b.y) : a = b := by
  cases a; cases b; simp_all
/-- Its fields are valid. -/
def Fit (i : In) : Prop :=
  (i.op = 1 ∧ 0 ≤ i.lo ∧ i.lo ≤ i.hi ∧ i.hi ≤ 255 ∧ 0 ≤ i.x ∧ i.x ≤ 3999 ∧ i.y = 0) ∨
  (i.op = 2 ∧ i.lo = 0 ∧ i.hi = 0 ∧ 0 ≤ i.x ∧ i.x ≤ 3999 ∧ 0 ≤ i.y ∧ i.y ≤ 3999) ∨
  (i.op = 3 ∧ 0 ≤ i.lo ∧ i.lo ≤ 63 ∧ i.hi = 0 ∧ 0 ≤ i.x ∧ i.x ≤ 3999 ∧ i.y = 0) ∨
  (i.op = 4 ∧ 1 ≤ i.lo ∧ i.lo ≤ 6 ∧ i.hi = 0 ∧ 0 ≤ i.x ∧ i.x ≤ 3999 ∧ i.y = 0) ∨
  ((i.op = 5 ∨ i.op = 6) ∧ i.lo = 0 ∧ i.hi = 0 ∧ i.x = 0 ∧ i.y = 0)
instance (i : In) : Decidable (Fit i) := by unfold Fit; infer_instance
def fitB (i : In) : Bool := decide (Fit i)
theorem fitB_iff (i : In) : fitB i = true ↔ Fit i := by unfold fitB; exact decide_eq_true_iff
/-- A program that is well formed. -/
def Ok (l : List In) (st sl : Int) : Prop := 1 ≤ l.length ∧ l.length ≤ 4000 ∧ 0 ≤ st ∧ st ≤ 3999 ∧ 0 ≤ sl ∧ sl ≤ 64 ∧ l.all fitB = true
instance (l : List In) (st sl : Int) : Decidable (Ok l st sl) := by unfold Ok; infer_instance
/-- What Check says. -/
def chk (l : List In) (st sl : Int) : Int := if Ok l st sl then 0 else 130
/-- Words. -/
def wBytes (op : Int) : List UInt8 :=
  if op = 1 then [98, 121, 116, 101] else if op = 2 then [115, 112, 108, 105, 116] else if op = 3 then [99, 97, 112] else
  if op = 4 then [97, 115, 115, 101, 114, 116] else if op = 5 then [109, 97, 116, 99, 104] else if op = 6 then [102, 97, 105, 108] else []
def title : List UInt8 := [112, 114, 111, 103, 114, 97, 109]
def ownL (i : In) : List Int := if i.op = 1 then [i.lo, i.hi, i.x] else if i.op = 2 then [i.x, i.y] else if i.op = 3 ∨ i.op = 4 then [i.lo, i.x] else []
def numsL (ns : List Int) : List UInt8 := ns.flatMap fun n => 32 :: Lib.itoa n
def lineL (w : List UInt8) (ns : List Int) : List UInt8 := w ++ numsL ns ++ [10]
def instL (i : In) : List UInt8 := lineL (wBytes i.op) (ownL i)
def textL (l : List In) (st sl : Int) : List UInt8 := lineL title [st, sl] ++ l.flatMap instL
/-- What stands ahead of the first byte c, and what behind it. -/
def cutA (c : UInt8) : List UInt8 → List UInt8
  | [] => []
  | b :: r => if b = c then [] else b :: cutA c r
def cutB (c : UInt8) : List UInt8 → List UInt8
  | [] => []
  | b :: r => if b = c then r else cutB c r
theorem cutA_le (c : UInt8) : ∀ l, (cutA c l).length ≤ l.length
  | [] => Nat.le_refl _
  | b :: r => by
    have := cutA_le c r
    unfold cutA
    split <;> simp <;> omega
theorem cutB_le (c : UInt8) : ∀ l, (cutB c l).length ≤ l.length
  | [] => Nat.le_refl _
  | b :: r => by
    have := cutB_le c r
    unfold cutB
    split
    · simp
    · simp; omega
theorem cutB_lt (c : UInt8) : ∀ l, l ≠ [] → (cutB c l).length < l.length
  | [], h => absurd rfl h
  | b :: r, _ => by
    have := cutB_le c r
    unfold cutB
    split
    · simp
    · simp; omega
theorem cutA_at (c : UInt8) (b : List UInt8) : ∀ a, c ∉ a → cutA c (a ++ c :: b) = a
  | [], _ => by show (if c = c then _ else _) = _; rw [if_pos rfl]
  | x :: a, h => by
    have h1 : ¬ x = c := fun e => h (by simp [e])
    have h2 : c ∉ a := fun e => h (by simp [e])
    show (if x = c then [] else x :: cutA c (a ++ c :: b)) = _
    rw [if_neg h1, cutA_at c b a h2]
theorem cutB_at (c : UInt8) (b : List UInt8) : ∀ a, c ∉ a → cutB c (a ++ c :: b) = b
  | [], _ => by show (if c = c then _ else _) = _; rw [if_pos rfl]
  | x :: a, h => by
    have h1 : ¬ x = c := fun e => h (by simp [e])
    have h2 : c ∉ a := fun e => h (by simp [e])
    show (if x = c then a ++ c :: b else cutB c (a ++ c :: b)) = _
    rw [if_neg h1, cutB_at c b a h2]
theorem cutA_no (c : UInt8) : ∀ a, c ∉ a → cutA c a = a
  | [], _ => rfl
  | x :: a, h => by
    have h1 : ¬ x = c := fun e => h (by simp [e])
    have h2 : c ∉ a := fun e => h (by simp [e])
    show (if x = c then _ else _) = _
    rw [if_neg h1, cutA_no c a h2]
theorem cutB_no (c : UInt8) : ∀ a, c ∉ a → cutB c a = []
  | [], _ => rfl
  | x :: a, h => by
    have h1 : ¬ x = c := fun e => h (by simp [e])
    have h2 : c ∉ a := fun e => h (by simp [e])
    show (if x = c then _ else _) = _
    rw [if_neg h1, cutB_no c a h2]
/-- A text parted at its first c. -/
theorem cut_join (c : UInt8) : ∀ l, (c ∈ l ∧ l = cutA c l ++ c :: cutB c l ∧ c ∉ cutA c l) ∨ (c ∉ l ∧ cutA c l = l ∧ cutB c l = [])
  | [] => .inr ⟨by simp, rfl, rfl⟩
  | b :: r => by
    by_cases h : b = c
    · subst h
      refine .inl ⟨by simp, ?_, ?_⟩ <;> simp [cutA, cutB]
    · rcases cut_join c r with ⟨h1, h2, h3⟩ | ⟨h1, h2, h3⟩
      · refine .inl ⟨by simp [h1], ?_, ?_⟩
        · show b :: r = (if b = c then _ else _) ++ c :: (if b = c then _ else _)
          rw [if_neg h, if_neg h, List.cons_append, ← h2]
        · show c ∉ (if b = c then _ else _)
          rw [if_neg h]
          simp only [List.mem_cons, not_or]
          exact ⟨fun e => h e.symm, h3⟩
      · refine .inr ⟨by simp only [List.mem_cons, not_or]; exact ⟨fun e => h e.symm, h1⟩, ?_, ?_⟩
        · show (if b = c then _ else _) = _
          rw [if_neg h, h2]
        · show (if b = c then _ else _) = _
          rw [if_neg h, h3]
theorem index1 (c : UInt8) : ∀ l : List UInt8, Lib.index l [c] = if c ∈ l then ((cutA c l).length : Int) else -1
  | [] => by simp [Lib.index]
  | b :: r => by
    have ih := index1 c r
    unfold Lib.index
    by_cases h : b = c
    · subst h; simp [cutA]
    · have h1 : ([c] : List UInt8).isPrefixOf (b :: r) = false := by
        simp [List.isPrefixOf]
        exact fun e => h e.symm
      rw [h1, ih]
      have h2 : cutA c (b :: r) = b :: cutA c r := by show (if b = c then _ else _) = _; rw [if_neg h]
      rw [h2]
      by_cases hm : c ∈ r
      · have e1 : (((cutA c r).length : Int) == -1) = false := by rw [beq_eq_false_iff_ne]; omega
        simp [hm, e1]
      · have hm2 : c ∉ b :: r := by simp only [List.mem_cons, not_or]; exact ⟨fun e => h e.symm, hm⟩
        simp [hm, hm2]
theorem cut_is (c : UInt8) (l : List UInt8) : Lib.cut l [c] = (cutA c l, cutB c l, decide (c ∈ l)) := by
  unfold Lib.cut
  rw [index1]
  rcases cut_join c l with ⟨h1, h2, h3⟩ | ⟨h1, h2, h3⟩
  · rw [if_pos h1, if_pos (by omega), decide_eq_true h1]
    have e1 : l.take (cutA c l).length = cutA c l := by
      conv => lhs; rw [h2]
      rw [cutA_at c _ _ h3]
      simp
    have e2 : l.drop ((cutA c l).length + 1) = cutB c l := by
      have h4 : l.drop ((cutA c l).length + 1) = (cutA c l ++ c :: cutB c l).drop ((cutA c l).length + 1) := by rw [← h2]
      rw [h4, List.drop_append]
      simp
    simp only [Int.toNat_natCast, List.length_cons, List.length_nil, Nat.zero_add]
    rw [e1, e2]
  · rw [if_neg h1, if_neg (by omega), h2, h3, decide_eq_false h1]
/-- A number at the front of items. -/
def atoiV (t : List UInt8) : Int := match Lib.atoiAll t with
  | .ok v => v
  | .syntax => 0
  | .range => Lib.atoiSat t
theorem atoiV_bd (t : List UInt8) : -9223372036854775808 ≤ atoiV t ∧ atoiV t ≤ 9223372036854775807 := by
  unfold atoiV
  cases h : Lib.atoiAll t with
  | ok v => exact Lib.atoiAll_bounds h
  | «syntax» => exact ⟨by show (-9223372036854775808 : Int) ≤ 0; decide, by show (0 : Int) ≤ 9223372036854775807; decide⟩
  | range => exact Lib.atoiSat_bounds t
def numV (t : List UInt8) : Int := atoiV (cutA 32 t)
def opOf (w : List UInt8) : Int :=
  if w = [98, 121, 116, 101] then 1 else if w = [115, 112, 108, 105, 116] then 2 else if w = [99, 97, 112] then 3 else
  if w = [97, 115, 115, 101, 114, 116] then 4 else if w = [109, 97, 116, 99, 104] then 5 else if w = [102, 97, 105, 108] then 6 else 0
/-- The instruction of a line. -/
def instOf (op : Int) (r : List UInt8) : In :=
  if op = 1 then ⟨1, numV r, numV (cutB 32 r), numV (cutB 32 (cutB 32 r)), 0⟩ else
  if op = 2 then ⟨2, 0, 0, numV r, numV (cutB 32 r)⟩ else
  if op = 3 ∨ op = 4 then ⟨op, numV r, 0, numV (cutB 32 r), 0⟩ else ⟨op, 0, 0, 0, 0⟩
def instX (line : List UInt8) : In := instOf (opOf (cutA 32 line)) (cutB 32 line)
/-- The instructions of lines. -/
def instsX : Nat → List UInt8 → List In
  | 0, _ => []
  | f + 1, s => if s = [] then [] else instX (cutA 10 s) :: instsX f (cutB 10 s)
theorem digit_mem {n : Nat} {b : UInt8} (h : b ∈ Lib.decDigits n) : 48 ≤ b.toNat ∧ b.toNat ≤ 57 := by
  revert h
  induction n using Nat.strongRecOn with
  | ind n ih =>
    rw [Lib.decDigits]
    by_cases hn : n < 10
    · rw [dif_pos hn]
      intro h
      simp only [List.mem_singleton] at h
      subst h
      rw [UInt8.toNat_ofNat']
      omega
    · rw [dif_neg hn, List.mem_append]
      rintro (h | h)
      · exact ih (n / 10) (by omega) h
      · simp only [List.mem_singleton] at h
        subst h
        rw [UInt8.toNat_ofNat']
        omega
theorem itoa_mem {n : Int} (h0 : 0 ≤ n) {b : UInt8} (h : b ∈ Lib.itoa n) : 48 ≤ b.toNat ∧ b.toNat ≤ 57 := by
  unfold Lib.itoa at h
  rw [if_neg (by omega)] at h
  exact digit_mem h
theorem itoa_no {n : Int} (h0 : 0 ≤ n) {c : UInt8} (hc : c.toNat < 48) : c ∉ Lib.itoa n := fun h => by have := itoa_mem h0 h; omega
theorem decFrom_snoc (l : List UInt8) (b : UInt8) : ∀ acc, Lib.decFrom acc (l ++ [b]) = (Lib.decFrom acc l).bind fun n => (Lib.digitVal b).map fun d => n * 10 + d := by
  induction l with
  | nil =>
    intro acc
    simp only [List.nil_append, Lib.decFrom, Option.bind_some]
    cases Lib.digitVal b <;> rfl
  | cons a t ih =>
    intro acc
    simp only [List.cons_append, Lib.decFrom]
    cases Lib.digitVal a with
    | none => rfl
    | some d => exact ih _
theorem decFrom_digits (n : Nat) : Lib.decFrom 0 (Lib.decDigits n) = some n := by
  induction n using Nat.strongRecOn with
  | ind n ih =>
    rw [Lib.decDigits]
    by_cases hn : n < 10
    · rw [dif_pos hn]
      simp only [Lib.decFrom, Lib.digitVal]
      rw [UInt8.toNat_ofNat', if_pos (by omega)]
      simp only [Option.some.injEq]
      omega
    · rw [dif_neg hn, decFrom_snoc, ih (n / 10) (by omega)]
      simp only [Option.bind_some, Lib.digitVal]
      rw [UInt8.toNat_ofNat', if_pos (by omega)]
      simp only [Option.map_some, Option.some.injEq]
      omega
theorem digits_ne (n : Nat) : Lib.decDigits n ≠ [] := by
  rw [Lib.decDigits]
  split <;> simp
theorem itoa_nat {n : Int} (h0 : 0 ≤ n) : Lib.itoa n = Lib.decDigits n.toNat := by unfold Lib.itoa; rw [if_neg (by omega)]
theorem digits_len (n : Nat) (h : n < 1000000) : (Lib.decDigits n).length ≤ 6 := by
  rw [Lib.decDigits_length]
  by_cases h1 : n < 10
  · rw [Lib.nDigits_small h1]; omega
  by_cases h2 : n < 100
  · rw [Lib.nDigits_unique 1 n (by omega) (by omega)]; omega
  by_cases h3 : n < 1000
  · rw [Lib.nDigits_unique 2 n (by omega) (by omega)]; omega
  by_cases h4 : n < 10000
  · rw [Lib.nDigits_unique 3 n (by omega) (by omega)]; omega
  by_cases h5 : n < 100000
  · rw [Lib.nDigits_unique 4 n (by omega) (by omega)]; omega
  · rw [Lib.nDigits_unique 5 n (by omega) (by omega)]; omega
/-- A number's digits are read as it. -/
theorem atoiV_itoa {n : Int} (h0 : 0 ≤ n) (h1 : n < 1000000) : atoiV (Lib.itoa n) = n := by
  have hl := digits_len n.toNat (by omega)
  have hd := decFrom_digits n.toNat
  have hne := digits_ne n.toNat
  have hm := fun b (hb : b ∈ Lib.decDigits n.toNat) => digit_mem hb
  rw [itoa_nat h0]
  obtain ⟨L, hL⟩ : ∃ L, Lib.decDigits n.toNat = L := ⟨_, rfl⟩
  rw [hL] at hl hd hne hm ⊢
  have ha : Lib.atoiAll L = .ok n := by
    rw [Lib.atoiAll_short L (by omega)]
    cases L with
    | nil => exact absurd rfl hne
    | cons b r =>
      have hb := hm b (by simp)
      unfold Lib.atoi
      have e1 : (b == 45) = false := by rw [beq_eq_false_iff_ne]; intro e; subst e; revert hb; decide
      have e2 : (b == 43) = false := by rw [beq_eq_false_iff_ne]; intro e; subst e; revert hb; decide
      simp only [e1, e2]
      unfold Lib.decNat
      simp only [List.isEmpty_cons, Bool.false_eq_true, if_false, hd, Option.map_some]
      show Lib.NumEnd.ok ((n.toNat : Nat) : Int) = _
      rw [Int.toNat_of_nonneg h0]
  unfold atoiV
  rw [ha]
end Go.Proofs.YtfnimmbmcjgdpaaDoor.Pgm
