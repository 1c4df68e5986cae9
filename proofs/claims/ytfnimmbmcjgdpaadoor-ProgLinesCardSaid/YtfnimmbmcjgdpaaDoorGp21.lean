/- The reference's prog (burinref14): what Read reads: mathematics. -/
import Derived.Test.YtfnimmbmcjgdpaaDoorGp20
namespace Go.Proofs.YtfnimmbmcjgdpaaDoor
open Go.RowKit
set_option linter.unusedVariables false
namespace Pgm
/-- What num does to a text. -/
def NX (S : List UInt8) (p : Nat) (bad : Bool) (n : Int) (q : Nat) (b : Bool) : Prop :=
  p ≤ q ∧ q ≤ S.length ∧ 0 ≤ n ∧ n ≤ 100000 ∧ ∀ (m : Int) (z : List UInt8), 0 ≤ m → m < 10000 → S.drop p = 32 :: (Lib.itoa m ++ z) → (∀ b0 r, z = b0 :: r → Lib.digitVal b0 = none) → n = m ∧ b = bad ∧ S.drop q = z
theorem nx_step {S : List UInt8} {p q : Nat} {bad b : Bool} {n m : Int} {ns : List Int} {r : List UInt8} (h : NX S p bad n q b) (hm : 0 ≤ m ∧ m < 4000) (hd : S.drop p = numsL (m :: ns) ++ 10 :: r) : n = m ∧ b = bad ∧ S.drop q = numsL ns ++ 10 :: r := by
  refine h.2.2.2.2 m _ hm.1 (by omega) (by rw [hd]; simp [numsL]) ?_
  intro b0 r0 e
  cases ns with
  | nil => simp [numsL] at e; rw [← e.1]; decide
  | cons a ns => simp [numsL] at e; rw [← e.1]; decide
theorem word_yes {S : List UInt8} {p : Nat} {n : Int} {i : In} {r : List UInt8} (hn : 1 ≤ n ∧ n ≤ 6) (h : atW S p (wBytes n) = true) (hf : Fit i) (hd : S.drop p = instL i ++ r) : i.op = n ∧ S.drop (p + (wBytes n).length) = numsL (ownL i) ++ 10 :: r := by
  have ho := fit_op hf
  unfold atW at h
  rw [decide_eq_true_eq, hd] at h
  rcases (by omega : i.op = 1 ∨ i.op = 2 ∨ i.op = 3 ∨ i.op = 4 ∨ i.op = 5 ∨ i.op = 6) with ho' | ho' | ho' | ho' | ho' | ho' <;> rcases (by omega : n = 1 ∨ n = 2 ∨ n = 3 ∨ n = 4 ∨ n = 5 ∨ n = 6) with rfl | rfl | rfl | rfl | rfl | rfl <;>
  first
  | (refine ⟨ho', ?_⟩
     rw [← List.drop_drop, hd]
     unfold instL lineL
     rw [ho']
     simp [wBytes]
     done)
  | (exfalso
     unfold instL lineL at h
     rw [ho'] at h
     simp [wBytes] at h
     done)
theorem word_all {S : List UInt8} {p : Nat} {i : In} {r : List UInt8} (hd : S.drop p = instL i ++ r) : atW S p (wBytes i.op) = true := by
  unfold atW
  rw [decide_eq_true_eq, hd]
  unfold instL lineL
  rw [List.append_assoc, List.append_assoc, List.take_left]
/-- An instruction's line that is read. -/
def InT (S : List UInt8) (p : Nat) (i' : In) (q : Nat) (b : Bool) : Prop := ∀ (i : In) (r : List UInt8), Fit i → S.drop p = instL i ++ r → i' = i ∧ b = false ∧ S.drop q = 10 :: r
theorem inT_1 {S : List UInt8} {p q1 q2 q3 : Nat} {n1 n2 n3 : Int} {b1 b2 b3 : Bool} (h : atW S p [98, 121, 116, 101] = true) (h1 : NX S (p + 4) false n1 q1 b1) (h2 : NX S q1 b1 n2 q2 b2) (h3 : NX S q2 b2 n3 q3 b3) : InT S p ⟨1, n1, n2, n3, 0⟩ q3 b3 := by
  intro i r hf hd
  obtain ⟨ho, hd2⟩ := word_yes (n := 1) (by omega) h hf hd
  have hw : ownL i = [i.lo, i.hi, i.x] := by unfold ownL; rw [if_pos ho]
  have hb := fit_own hf
  rw [hw] at hd2 hb
  obtain ⟨x1, y1, z1⟩ := nx_step h1 (hb i.lo (by simp)) hd2
  obtain ⟨x2, y2, z2⟩ := nx_step h2 (hb i.hi (by simp)) z1
  obtain ⟨x3, y3, z3⟩ := nx_step h3 (hb i.x (by simp)) z2
  unfold Fit at hf
  exact ⟨In.ext' ho.symm x1 x2 x3 (by show 0 = i.y; omega), by rw [y3, y2, y1], z3⟩
theorem inT_2 {S : List UInt8} {p q1 q2 : Nat} {n1 n2 : Int} {b1 b2 : Bool} (h : atW S p [115, 112, 108, 105, 116] = true) (h1 : NX S (p + 5) false n1 q1 b1) (h2 : NX S q1 b1 n2 q2 b2) : InT S p ⟨2, 0, 0, n1, n2⟩ q2 b2 := by
  intro i r hf hd
  obtain ⟨ho, hd2⟩ := word_yes (n := 2) (by omega) h hf hd
  have hw : ownL i = [i.x, i.y] := by unfold ownL; rw [if_neg (by omega), if_pos ho]
  have hb := fit_own hf
  rw [hw] at hd2 hb
  obtain ⟨x1, y1, z1⟩ := nx_step h1 (hb i.x (by simp)) hd2
  obtain ⟨x2, y2, z2⟩ := nx_step h2 (hb i.y (by simp)) z1
  unfold Fit at hf
  exact ⟨In.ext' ho.symm (by show 0 = i.lo; omega) (by show 0 = i.hi; omega) x1 x2, by rw [y2, y1], z2⟩
theorem inT_34 {S : List UInt8} {p q1 q2 l : Nat} {op n1 n2 : Int} {b1 b2 : Bool} (ho34 : op = 3 ∨ op = 4) (h : atW S p (wBytes op) = true) (hl : (wBytes op).length = l) (h1 : NX S (p + l) false n1 q1 b1) (h2 : NX S q1 b1 n2 q2 b2) : InT S p ⟨op, n1, 0, n2, 0⟩ q2 b2 := by
  intro i r hf hd
  obtain ⟨ho, hd2⟩ := word_yes (n := op) (by omega) h hf hd
  have hw : ownL i = [i.lo, i.x] := by unfold ownL; rw [if_neg (by omega), if_neg (by omega), if_pos (by omega)]
  have hb := fit_own hf
  rw [hw] at hb
  rw [hw, hl] at hd2
  obtain ⟨x1, y1, z1⟩ := nx_step h1 (hb i.lo (by simp)) hd2
  obtain ⟨x2, y2, z2⟩ := nx_step h2 (hb i.x (by simp)) z1
  unfold Fit at hf
  exact ⟨In.ext' ho.symm x1 (by show 0 = i.hi; omega) x2 (by show 0 = i.y; omega), by rw [y2, y1], z2⟩
theorem inT_3 {S : List UInt8} {p q1 q2 : Nat} {n1 n2 : Int} {b1 b2 : Bool} (h : atW S p [99, 97, 112] = true) (h1 : NX S (p + 3) false n1 q1 b1) (h2 : NX S q1 b1 n2 q2 b2) : InT S p ⟨3, n1, 0, n2, 0⟩ q2 b2 := inT_34 (.inl rfl) h rfl h1 h2
theorem inT_4 {S : List UInt8} {p q1 q2 : Nat} {n1 n2 : Int} {b1 b2 : Bool} (h : atW S p [97, 115, 115, 101, 114, 116] = true) (h1 : NX S (p + 6) false n1 q1 b1) (h2 : NX S q1 b1 n2 q2 b2) : InT S p ⟨4, n1, 0, n2, 0⟩ q2 b2 := inT_34 (.inr rfl) h rfl h1 h2
theorem inT_56 {S : List UInt8} {p l : Nat} {op : Int} (ho56 : op = 5 ∨ op = 6) (h : atW S p (wBytes op) = true) (hl : (wBytes op).length = l) : InT S p ⟨op, 0, 0, 0, 0⟩ (p + l) false := by
  intro i r hf hd
  obtain ⟨ho, hd2⟩ := word_yes (n := op) (by omega) h hf hd
  have hw : ownL i = [] := by unfold ownL; rw [if_neg (by omega), if_neg (by omega), if_neg (by omega)]
  rw [hw, hl] at hd2
  unfold Fit at hf
  exact ⟨In.ext' ho.symm (by show 0 = i.lo; omega) (by show 0 = i.hi; omega) (by show 0 = i.x; omega) (by show 0 = i.y; omega), rfl, hd2⟩
theorem inT_5 {S : List UInt8} {p : Nat} (h : atW S p [109, 97, 116, 99, 104] = true) : InT S p ⟨5, 0, 0, 0, 0⟩ (p + 5) false := inT_56 (.inl rfl) h rfl
theorem inT_6 {S : List UInt8} {p : Nat} (h : atW S p [102, 97, 105, 108] = true) : InT S p ⟨6, 0, 0, 0, 0⟩ (p + 4) false := inT_56 (.inr rfl) h rfl
theorem inT_no {S : List UInt8} {p q : Nat} {i' : In} {b : Bool} (h1 : atW S p [98, 121, 116, 101] = false) (h2 : atW S p [115, 112, 108, 105, 116] = false) (h3 : atW S p [99, 97, 112] = false) (h4 : atW S p [97, 115, 115, 101, 114, 116] = false) (h5 : atW S p [109, 97, 116, 99, 104] = false) (h6 : atW S p [102, 97, 105, 108] = false) : InT S p i' q b := by
  intro i r hf hd
  have h := word_all hd
  have ho := fit_op hf
  exfalso
  rcases (by omega : i.op = 1 ∨ i.op = 2 ∨ i.op = 3 ∨ i.op = 4 ∨ i.op = 5 ∨ i.op = 6) with ho' | ho' | ho' | ho' | ho' | ho' <;> rw [ho'] at h
  · exact Bool.noConfusion (h.symm.trans h1)
  · exact Bool.noConfusion (h.symm.trans h2)
  · exact Bool.noConfusion (h.symm.trans h3)
  · exact Bool.noConfusion (h.symm.trans h4)
  · exact Bool.noConfusion (h.symm.trans h5)
  · exact Bool.noConfusion (h.symm.trans h6)
/-- What is so of what has been read, if the text is a program's. -/
def ExT (S : List UInt8) (a1 a2 : Int) (k p : Nat) (g : List In) (bad : Bool) : Prop :=
  ∀ (L : List In) (st sl : Int), Ok L st sl → textL L st sl = S → a1 = st ∧ a2 = sl ∧ bad = false ∧ k ≤ L.length ∧ g = L.take k ∧ S.drop p = (L.drop k).flatMap instL
/-- The end of a line. -/
def EolT (S : List UInt8) (q : Nat) (b : Bool) (q' : Nat) (b' : Bool) : Prop :=
  (b = true ∧ b' = true) ∨ (b = false ∧ atW S q [10] = true ∧ q' = q + 1 ∧ b' = false) ∨ (b = false ∧ atW S q [10] = false ∧ b' = true)
theorem eol_at {S : List UInt8} {q : Nat} {r : List UInt8} (h : S.drop q = 10 :: r) : atW S q [10] = true := by
  unfold atW
  rw [h]
  rfl
theorem eol_ok {S : List UInt8} {q q' : Nat} {b b' : Bool} {r : List UInt8} (h : EolT S q b q' b') (hb : b = false) (hd : S.drop q = 10 :: r) : b' = false ∧ S.drop q' = r := by
  subst hb
  rcases h with ⟨h1, _⟩ | ⟨_, _, h2, h3⟩ | ⟨_, h2, _⟩
  · cases h1
  · refine ⟨h3, ?_⟩
    rw [h2, ← List.drop_drop, hd]
    rfl
  · rw [eol_at hd] at h2; cases h2
theorem exT_start {S : List UInt8} {a1 a2 : Int} {q1 q2 q3 : Nat} {b1 b2 b3 : Bool} (h1 : NX S 7 false a1 q1 b1) (h2 : NX S q1 b1 a2 q2 b2) (h3 : EolT S q2 b2 q3 b3) : ExT S a1 a2 0 q3 [] b3 := by
  intro L st sl hok he
  have hd : S.drop 7 = numsL [st, sl] ++ 10 :: L.flatMap instL := by
    rw [← he]
    unfold textL lineL title
    simp
  obtain ⟨_, _, o1, o2, o3, o4, _⟩ := hok
  obtain ⟨x1, y1, z1⟩ := nx_step h1 ⟨o1, by omega⟩ hd
  obtain ⟨x2, y2, z2⟩ := nx_step h2 ⟨o3, by omega⟩ z1
  obtain ⟨y3, z3⟩ := eol_ok h3 (by rw [y2, y1]) z2
  exact ⟨x1, x2, y3, by omega, rfl, z3⟩
theorem exT_step {S : List UInt8} {a1 a2 : Int} {k p q q' : Nat} {g : List In} {i' : In} {b b' b'' : Bool} (h : ExT S a1 a2 k p g false) (hp : p < S.length) (hi : InT S p i' q b) (he : EolT S q b q' b') (hb : b'' = b' ∨ 4000 < k) : ExT S a1 a2 (k + 1) q' (g ++ [i']) b'' := by
  intro L st sl hok hs
  obtain ⟨e1, e2, e3, e4, e5, e6⟩ := h L st sl hok hs
  have hkl : k < L.length := by
    rcases Nat.lt_or_ge k L.length with h | h
    · exact h
    · exfalso
      rw [List.drop_of_length_le h] at e6
      have := congrArg List.length e6
      rw [List.length_drop] at this
      simp at this
      omega
  have hdr : L.drop k = L[k] :: L.drop (k + 1) := List.drop_eq_getElem_cons hkl
  rw [hdr, List.flatMap_cons] at e6
  obtain ⟨f1, f2, f3⟩ := hi L[k] _ (ok_fit hok _ (List.getElem_mem hkl)) e6
  obtain ⟨g1, g2⟩ := eol_ok he f2 f3
  have h4 := hok.2.1
  refine ⟨e1, e2, ?_, by omega, ?_, g2⟩
  · rcases hb with hb | hb
    · rw [hb, g1]
    · omega
  · rw [List.take_add_one, List.getElem?_eq_getElem hkl, e5, f1]
    rfl
theorem exT_end {S : List UInt8} {a1 a2 : Int} {k p : Nat} {g : List In} {bad : Bool} (h : ExT S a1 a2 k p g bad) (hc : bad = true ∨ S.length ≤ p) : ∀ L st sl, Ok L st sl → textL L st sl = S → L = g ∧ st = a1 ∧ sl = a2 ∧ bad = false := by
  intro L st sl hok he
  obtain ⟨e1, e2, e3, e4, e5, e6⟩ := h L st sl hok he
  have hp : S.length ≤ p := by
    rcases hc with hc | hc
    · rw [hc] at e3; cases e3
    · exact hc
  rw [List.drop_of_length_le hp] at e6
  have hkL : k = L.length := by
    rcases Nat.lt_or_ge k L.length with h | h
    · exfalso
      rw [List.drop_eq_getElem_cons h, List.flatMap_cons] at e6
      have := congrArg List.length e6
      unfold instL lineL at this
      simp at this
    · omega
  refine ⟨?_, e1.symm, e2.symm, e3⟩
  rw [e5, hkL, List.take_length]
theorem rd_no {S : List UInt8} {g : List In} {a1 a2 : Int} {bad : Bool} (h : ∀ L st sl, Ok L st sl → textL L st sl = S → L = g ∧ st = a1 ∧ sl = a2 ∧ bad = false) (hno : ¬ (bad = false ∧ Ok g a1 a2 ∧ textL g a1 a2 = S)) : readL S = none := by
  cases hd : readL S with
  | none => rfl
  | some p =>
    obtain ⟨L, st, sl⟩ := p
    obtain ⟨h1, h2⟩ := read_some hd
    obtain ⟨rfl, rfl, rfl, h3⟩ := h L st sl h1 h2
    exact absurd ⟨h3, h1, h2⟩ hno
theorem title_no {S : List UInt8} (h : atW S 0 [112, 114, 111, 103, 114, 97, 109] = false) : readL S = none := by
  cases hd : readL S with
  | none => rfl
  | some p =>
    obtain ⟨L, st, sl⟩ := p
    obtain ⟨h1, h2⟩ := read_some hd
    unfold atW at h
    rw [decide_eq_false_iff_not] at h
    refine absurd ?_ h
    rw [← h2]
    unfold textL lineL title
    rfl
/-- How much is left to read. -/
def curM (w : World) (C n : Nat) : Nat := 2 * (n - (match w.cell? ⟨C, 1, none⟩ with | some (.int _ p) => p.toNat | _ => 0)) + (match w.cell? ⟨C, 2, none⟩ with | some (.bool true) => 0 | _ => 1)
theorem curM_of {w : World} {C n p : Nat} {s : ByteArray} {bad : Bool} (h : CurAt w C s (p : Int) bad) : curM w C n = 2 * (n - p) + (if bad then 0 else 1) := by
  have h1 : w.cell? ⟨C, 1, none⟩ = some (.int .i64 (p : Int)) := blkp h 1
  have h2 : w.cell? ⟨C, 2, none⟩ = some (.bool bad) := blkp h 2
  unfold curM
  rw [h1, h2]
  cases bad <;> simp
end Pgm
end Go.Proofs.YtfnimmbmcjgdpaaDoor
