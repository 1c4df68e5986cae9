/- The plain mathematics of lists of ranges: membership, edges, normalized lists and their uniqueness; no program. · Lists of ranges in memory; the contract of the reference's Has (burinref02). · The contract of the reference's Make (burinref02), from edge to edge. · The contracts of burinbook.SameRanges and of the reference's Check, Norm, Not and Count (burinref02). -/
import Derived.Test.YtfopcgbfbedcjaaRows
import Derived.WalkKit
import Derived.OwnWalk
import Derived.WalkLawsBesides
import Derived.WalkSpells
import Derived.Lib.Hide
import Derived.Deep.QuietTactic
import Derived.BigQuiet
import Derived.Maps.AppendAt
import Derived.Deep.AppendLies
import Derived.Laws.OwnMore
import Derived.Laws.StructEq
namespace Go.Proofs.Ytfopcgbfbedcjaa.Rg
abbrev R := Int × Int
def MAX : Int := 1114111
def hasB (l : List R) (r : Int) : Bool := decide (0 ≤ r ∧ r ≤ 1114111) && l.any fun p => decide (p.1 ≤ r ∧ r ≤ p.2)
theorem hasB_iff (l : List R) (r : Int) : hasB l r = true ↔ (0 ≤ r ∧ r ≤ 1114111) ∧ ∃ p ∈ l, p.1 ≤ r ∧ r ≤ p.2 := by
  unfold hasB
  simp only [Bool.and_eq_true, decide_eq_true_eq, List.any_eq_true]
/-- One step of 'edge': the range's beginning, then its end's successor. -/
def edge1 (at_ : Int) (next : Int) (p : R) : Int :=
  let n1 := if at_ < p.1 ∧ p.1 < next then p.1 else next
  if at_ ≤ p.2 ∧ p.2 < 1114111 ∧ p.2 + 1 < n1 then p.2 + 1 else n1
def edgeN (l : List R) (at_ : Int) : Int := l.foldl (edge1 at_) 1114112
theorem edge1_le (at_ next : Int) (p : R) : edge1 at_ next p ≤ next ∧ (at_ < next → at_ < edge1 at_ next p) := by
  simp only [edge1]
  split <;> split <;> omega
theorem edge1_const (at_ next : Int) (p : R) (q : Int) (h1 : at_ ≤ q) (h2 : q < edge1 at_ next p) (h3 : q ≤ 1114111) : (p.1 ≤ q ∧ q ≤ p.2) ↔ (p.1 ≤ at_ ∧ at_ ≤ p.2) := by
  simp only [edge1] at h2
  constructor
  · intro h
    split at h2 <;> split at h2 <;> omega
  · intro h
    split at h2 <;> split at h2 <;> omega
theorem fold_le (at_ : Int) : ∀ (l : List R) (n : Int), l.foldl (edge1 at_) n ≤ n ∧ (at_ < n → at_ < l.foldl (edge1 at_) n)
  | [], n => ⟨Int.le_refl _, fun h => h⟩
  | p :: l, n => by
    have h1 := edge1_le at_ n p
    have h2 := fold_le at_ l (edge1 at_ n p)
    exact ⟨Int.le_trans h2.1 h1.1, fun h => h2.2 (h1.2 h)⟩
theorem edgeN_bd (l : List R) (at_ : Int) (h : at_ ≤ 1114111) : at_ < edgeN l at_ ∧ edgeN l at_ ≤ 1114112 := by
  have := fold_le at_ l 1114112
  exact ⟨this.2 (by omega), this.1⟩
theorem fold_const (at_ : Int) (q : Int) (h1 : at_ ≤ q) (h3 : q ≤ 1114111) : ∀ (l : List R) (n : Int), q < l.foldl (edge1 at_) n → ∀ p ∈ l, (p.1 ≤ q ∧ q ≤ p.2) ↔ (p.1 ≤ at_ ∧ at_ ≤ p.2)
  | [], n, _, p, hp => by cases hp
  | p' :: l, n, h2, p, hp => by
    rcases List.mem_cons.1 hp with rfl | hp
    · exact edge1_const at_ n p q h1 (Int.lt_of_lt_of_le h2 (fold_le at_ l _).1) h3
    · exact fold_const at_ q h1 h3 l _ h2 p hp
theorem has_const (l : List R) (at_ q : Int) (h0 : 0 ≤ at_) (h1 : at_ ≤ q) (h2 : q < edgeN l at_) (h3 : q ≤ 1114111) : hasB l q = hasB l at_ := by
  rw [Bool.eq_iff_iff, hasB_iff, hasB_iff]
  have hc := fold_const at_ q h1 h3 l 1114112 h2
  constructor
  · rintro ⟨_, p, hp, h⟩
    exact ⟨⟨h0, by omega⟩, p, hp, (hc p hp).1 h⟩
  · rintro ⟨_, p, hp, h⟩
    exact ⟨⟨by omega, h3⟩, p, hp, (hc p hp).2 h⟩

/-! ### Normalized lists -/
/-- Normalized, all from lo on. -/
def NormFrom : Int → List R → Prop
  | _, [] => True
  | lo, p :: l => lo ≤ p.1 ∧ p.1 ≤ p.2 ∧ p.2 ≤ 1114111 ∧ NormFrom (p.2 + 2) l
def NormL (l : List R) : Prop := NormFrom 0 l
theorem norm_lo : ∀ (l : List R) (lo : Int), NormFrom lo l → ∀ p ∈ l, lo ≤ p.1 ∧ p.1 ≤ p.2 ∧ p.2 ≤ 1114111
  | [], _, _, p, hp => by cases hp
  | p' :: l, lo, h, p, hp => by
    rcases List.mem_cons.1 hp with rfl | hp
    · exact ⟨h.1, h.2.1, h.2.2.1⟩
    · have := norm_lo l _ h.2.2.2 p hp
      have h1 := h.1
      have h2 := h.2.1
      omega
def memL (l : List R) (q : Int) : Prop := ∃ p ∈ l, p.1 ≤ q ∧ q ≤ p.2
theorem memL_cons (p : R) (l : List R) (q : Int) : memL (p :: l) q ↔ (p.1 ≤ q ∧ q ≤ p.2) ∨ memL l q := by
  unfold memL; simp
theorem norm_mem_lo {l : List R} {lo q : Int} (h : NormFrom lo l) (hm : memL l q) : lo ≤ q ∧ q ≤ 1114111 := by
  obtain ⟨p, hp, h1, h2⟩ := hm
  have := norm_lo l lo h p hp
  omega
/-- A normalized list is the list of its set. -/
theorem norm_unique : ∀ (l m : List R) (lo : Int), NormFrom lo l → NormFrom lo m → (∀ q, memL l q ↔ memL m q) → l = m
  | [], [], _, _, _, _ => rfl
  | [], p :: m, lo, _, hm, h => by
    exfalso
    have := (h p.1).2 ((memL_cons p m p.1).2 (.inl ⟨Int.le_refl _, hm.2.1⟩))
    obtain ⟨x, hx, _⟩ := this
    cases hx
  | p :: l, [], lo, hl, _, h => by
    exfalso
    have := (h p.1).1 ((memL_cons p l p.1).2 (.inl ⟨Int.le_refl _, hl.2.1⟩))
    obtain ⟨x, hx, _⟩ := this
    cases hx
  | p :: l, p' :: m, lo, hl, hm, h => by
    have a1 := hl.2.1
    have a2 := hm.2.1
    have tail1 : ∀ q, memL l q → p.2 + 2 ≤ q := fun q hq => (norm_mem_lo hl.2.2.2 hq).1
    have tail2 : ∀ q, memL m q → p'.2 + 2 ≤ q := fun q hq => (norm_mem_lo hm.2.2.2 hq).1
    have e1 : p.1 = p'.1 := by
      have h1 := (h p.1).1 ((memL_cons p l p.1).2 (.inl ⟨Int.le_refl _, a1⟩))
      have h2 := (h p'.1).2 ((memL_cons p' m p'.1).2 (.inl ⟨Int.le_refl _, a2⟩))
      rw [memL_cons] at h1 h2
      have b1 : p'.1 ≤ p.1 := by
        rcases h1 with h1 | h1
        · exact h1.1
        · have := tail2 _ h1; omega
      have b2 : p.1 ≤ p'.1 := by
        rcases h2 with h2 | h2
        · exact h2.1
        · have := tail1 _ h2; omega
      omega
    have e2 : p.2 = p'.2 := by
      have key : ∀ (a b : R) (x y : List R), a.1 = b.1 → a.1 ≤ a.2 → b.1 ≤ b.2 → (∀ q, memL y q → b.2 + 2 ≤ q) → (∀ q, memL (a :: x) q → memL (b :: y) q) → a.2 ≤ b.2 := by
        intro a b x y e ha hb ty hh
        rcases Int.lt_or_le b.2 a.2 with hlt | hle
        · exfalso
          have := hh (b.2 + 1) ((memL_cons a x _).2 (.inl ⟨by omega, by omega⟩))
          rcases (memL_cons b y _).1 this with h1 | h1
          · omega
          · have := ty _ h1; omega
        · exact hle
      have k1 := key p p' l m e1 a1 a2 tail2 (fun q hq => (h q).1 hq)
      have k2 := key p' p m l e1.symm a2 a1 tail1 (fun q hq => (h q).2 hq)
      omega
    have e : p = p' := Prod.ext e1 e2
    subst e
    rw [norm_unique l m (p.2 + 2) hl.2.2.2 hm.2.2.2 (fun q => ?_)]
    constructor
    · intro hq
      have := (h q).1 ((memL_cons p l q).2 (.inr hq))
      rcases (memL_cons p m q).1 this with h1 | h1
      · have := tail1 _ hq; omega
      · exact h1
    · intro hq
      have := (h q).2 ((memL_cons p m q).2 (.inr hq))
      rcases (memL_cons p l q).1 this with h1 | h1
      · have := tail2 _ hq; omega
      · exact h1
theorem norm_has {l : List R} (h : NormL l) (q : Int) : hasB l q = true ↔ memL l q := by
  rw [hasB_iff]
  exact ⟨fun h => h.2, fun hm => ⟨norm_mem_lo h hm, hm⟩⟩
theorem norm_ext {l m : List R} (hl : NormL l) (hm : NormL m) (h : ∀ q, 0 ≤ q → q ≤ 1114111 → hasB l q = hasB m q) : l = m :=
  norm_unique l m 0 hl hm (fun q => by
    constructor
    · intro hq
      have b := norm_mem_lo hl hq
      exact (norm_has hm q).1 ((h q b.1 b.2) ▸ (norm_has hl q).2 hq)
    · intro hq
      have b := norm_mem_lo hm hq
      exact (norm_has hl q).1 ((h q b.1 b.2) ▸ (norm_has hm q).2 hq))
end Go.Proofs.Ytfopcgbfbedcjaa.Rg
/-! Making a normalized list from edge to edge. -/
namespace Go.Proofs.Ytfopcgbfbedcjaa.Rg
theorem norm_snoc : ∀ (l : List R) (lo x y : Int), NormFrom lo l → (∀ p ∈ l, p.2 + 2 ≤ x) → lo ≤ x → x ≤ y → y ≤ 1114111 → NormFrom lo (l ++ [(x, y)])
  | [], lo, x, y, _, _, h1, h2, h3 => ⟨h1, h2, h3, trivial⟩
  | p :: l, lo, x, y, h, hp, h1, h2, h3 =>
    ⟨h.1, h.2.1, h.2.2.1, norm_snoc l _ x y h.2.2.2 (fun q hq => hp q (by simp [hq])) (hp p (by simp)) h2 h3⟩
theorem norm_unsnoc : ∀ (l : List R) (lo : Int) (p : R), NormFrom lo (l ++ [p]) → NormFrom lo l ∧ (∀ q ∈ l, q.2 + 2 ≤ p.1) ∧ lo ≤ p.1 ∧ p.1 ≤ p.2 ∧ p.2 ≤ 1114111
  | [], lo, p, h => ⟨trivial, by simp, h.1, h.2.1, h.2.2.1⟩
  | x :: l, lo, p, h => by
    have ih := norm_unsnoc l (x.2 + 2) p h.2.2.2
    have a1 := h.1
    have a2 := h.2.1
    refine ⟨⟨h.1, h.2.1, h.2.2.1, ih.1⟩, fun q hq => ?_, by omega, ih.2.2.2⟩
    rcases List.mem_cons.1 hq with rfl | hq
    · exact ih.2.2.1
    · exact ih.2.1 q hq
theorem memL_snoc (l : List R) (p : R) (q : Int) : memL (l ++ [p]) q ↔ memL l q ∨ (p.1 ≤ q ∧ q ≤ p.2) := by
  unfold memL
  constructor
  · rintro ⟨x, hx, h⟩
    rcases List.mem_append.1 hx with hx | hx
    · exact .inl ⟨x, hx, h⟩
    · simp at hx; subst hx; exact .inr h
  · rintro (⟨x, hx, h⟩ | h)
    · exact ⟨x, List.mem_append.2 (.inl hx), h⟩
    · exact ⟨p, List.mem_append.2 (.inr (by simp)), h⟩
/-- What has been made as far as 'at': normalized, below it, and of just the numbers below it that are wanted. -/
structure MInv (F : Int → Bool) (at_ : Int) (out : List R) : Prop where
  norm : NormL out
  below : ∀ p ∈ out, p.2 < at_
  mem : ∀ q, 0 ≤ q → q < at_ → (memL out q ↔ F q = true)
theorem MInv.start (F : Int → Bool) : MInv F 0 [] := ⟨trivial, (fun p h => by cases h), (fun q h1 h2 => by omega)⟩
section
variable {F : Int → Bool} {at_ next : Int} {out : List R}
theorem MInv.skip (h : MInv F at_ out) (h1 : at_ < next) (hc : ∀ q, at_ ≤ q → q < next → F q = F at_) (hf : F at_ = false) : MInv F next out := by
  refine ⟨h.norm, fun p hp => by have := h.below p hp; omega, fun q h0 hq => ?_⟩
  by_cases e : q < at_
  · exact h.mem q h0 e
  · rw [hc q (by omega) hq, hf]
    constructor
    · rintro ⟨p, hp, _, h2⟩
      have := h.below p hp
      omega
    · intro h; cases h
theorem MInv.add (h : MInv F at_ out) (h0 : 0 ≤ at_) (h1 : at_ < next) (h2 : next ≤ 1114112) (hc : ∀ q, at_ ≤ q → q < next → F q = F at_) (hf : F at_ = true) (hl : ∀ p ∈ out, p.2 + 2 ≤ at_) : MInv F next (out ++ [(at_, next - 1)]) := by
  refine ⟨norm_snoc out 0 _ _ h.norm hl h0 (by omega) (by omega), fun p hp => ?_, fun q hq0 hq => ?_⟩
  · rcases List.mem_append.1 hp with hp | hp
    · have := h.below p hp; omega
    · simp at hp; subst hp; show next - 1 < next; omega
  · rw [memL_snoc]
    by_cases e : q < at_
    · rw [← h.mem q hq0 e]
      constructor
      · rintro (h | h)
        · exact h
        · have := h.1; simp at this; omega
      · exact .inl
    · rw [hc q (by omega) hq, hf]
      exact ⟨fun _ => rfl, fun _ => .inr ⟨by show at_ ≤ q; omega, by show q ≤ next - 1; omega⟩⟩
theorem MInv.join {ini : List R} {p : R} (h : MInv F at_ (ini ++ [p])) (h0 : 0 ≤ at_) (h1 : at_ < next) (h2 : next ≤ 1114112) (hc : ∀ q, at_ ≤ q → q < next → F q = F at_) (hf : F at_ = true) (hl : p.2 + 1 = at_) : MInv F next (ini ++ [(p.1, next - 1)]) := by
  obtain ⟨a1, a2, a3, a4, a5⟩ := norm_unsnoc ini 0 p h.norm
  refine ⟨norm_snoc ini 0 _ _ a1 a2 a3 (by omega) (by omega), fun x hx => ?_, fun q hq0 hq => ?_⟩
  · rcases List.mem_append.1 hx with hx | hx
    · have := h.below x (List.mem_append.2 (.inl hx)); omega
    · simp at hx; subst hx; show next - 1 < next; omega
  · rw [memL_snoc]
    by_cases e : q < at_
    · rw [← h.mem q hq0 e, memL_snoc]
      constructor
      · rintro (h | h)
        · exact .inl h
        · exact .inr ⟨h.1, by omega⟩
      · rintro (h | h)
        · exact .inl h
        · exact .inr ⟨h.1, by show q ≤ next - 1; omega⟩
    · rw [hc q (by omega) hq, hf]
      exact ⟨fun _ => rfl, fun _ => .inr ⟨by show p.1 ≤ q; omega, by show q ≤ next - 1; omega⟩⟩
theorem MInv.last {ini : List R} {p : R} (h : MInv F at_ (ini ++ [p])) (hl : p.2 + 1 ≠ at_) : ∀ x ∈ ini ++ [p], x.2 + 2 ≤ at_ := by
  obtain ⟨a1, a2, a3, a4, a5⟩ := norm_unsnoc ini 0 p h.norm
  have hb := h.below p (by simp)
  intro x hx
  rcases List.mem_append.1 hx with hx | hx
  · have := a2 x hx; omega
  · simp at hx; subst hx; omega
end
def opB (op : Int) (x y : Bool) : Bool := decide (op = 1) && (x || y) || decide (op = 2) && x && y || decide (op = 3) && x && !y
/-- The list of a set made of two. -/
structure Made (op : Int) (a b : List R) (out : List R) : Prop where
  norm : NormL out
  has : ∀ q, 0 ≤ q → q ≤ 1114111 → hasB out q = opB op (hasB a q) (hasB b q)
theorem made_of {op : Int} {a b out : List R} {at_ : Int} (h : MInv (fun q => opB op (hasB a q) (hasB b q)) at_ out) (ha : 1114111 < at_) : Made op a b out :=
  ⟨h.norm, fun q h0 h1 => by
    have := h.mem q h0 (by omega)
    rw [Bool.eq_iff_iff, norm_has h.norm q]
    exact this⟩
theorem made_unique {op : Int} {a b x y : List R} (h : Made op a b x) (k : Made op a b y) : x = y :=
  norm_ext h.norm k.norm (fun q h0 h1 => by rw [h.has q h0 h1, k.has q h0 h1])
end Go.Proofs.Ytfopcgbfbedcjaa.Rg
namespace Go.Proofs.Ytfopcgbfbedcjaa
open Go.RowKit
set_option linter.unusedVariables false
def RRow (W : World) (v : Value) (l : List (Int × Int)) : Prop :=
  ∃ a cap, v = .slice a l.length cap ∧ l.length ≤ 8796093022208 ∧ (∀ p ∈ l, -9223372036854775808 ≤ p.1 ∧ p.1 ≤ 9223372036854775807 ∧ -9223372036854775808 ≤ p.2 ∧ p.2 ≤ 9223372036854775807) ∧ ∀ j, j < l.length → ∃ b off, a = some ⟨b, off, none⟩ ∧ b < W.heap.size ∧
    W.cell? ⟨b, off + j * 2, none⟩ = some (.int .i64 (l[j]?.getD (0, 0)).1) ∧ W.cell? ⟨b, off + j * 2 + 1, none⟩ = some (.int .i64 (l[j]?.getD (0, 0)).2)
theorem RRow.below {W W' : World} {v : Value} {l : List (Int × Int)} (h : RRow W v l) {B : Nat} (hB : W.heap.size ≤ B) (hb : Below B W W') : RRow W' v l := by
  obtain ⟨a, cap, hv, hl, hw, hc⟩ := h
  refine ⟨a, cap, hv, hl, hw, fun j hj => ?_⟩
  obtain ⟨b, off, ha, hlt, h1, h2⟩ := hc j hj
  exact ⟨b, off, ha, Nat.lt_of_lt_of_le hlt hb.size, (hb.cell (p := ⟨b, off + j * 2, none⟩) (by show b < B; omega)).trans h1, (hb.cell (p := ⟨b, off + j * 2 + 1, none⟩) (by show b < B; omega)).trans h2⟩
theorem any_take_succ (l : List (Int × Int)) (k : Nat) (hk : k < l.length) (f : Int × Int → Bool) : (l.take (k + 1)).any f = ((l.take k).any f || f (l[k]?.getD (0, 0))) := by
  rw [List.take_succ_eq_append_getElem hk, List.any_append]
  simp [hk]
set_option maxRecDepth 100000 in
set_option maxHeartbeats 1000000 in
theorem refHas_walk (W : World) (a : Option Addr) (n cap : Nat) (l : List (Int × Int)) (r : Int) (hn : l.length = n) (hn2 : n ≤ 8796093022208)
    (hc : ∀ j, j < n → ∃ b off, a = some ⟨b, off, none⟩ ∧ b < W.heap.size ∧ W.cell? ⟨b, off + j * 2, none⟩ = some (.int .i64 (l[j]?.getD (0, 0)).1) ∧ W.cell? ⟨b, off + j * 2 + 1, none⟩ = some (.int .i64 (l[j]?.getD (0, 0)).2)) :
    Calls Try.prog 59 #[.slice a n cap, .int .i64 r] W fun e w' => e = .returned (.bool (Rg.hasB l r)) ∧ W = w' := by
  have HN := Lib.hid hn
  have HC := Lib.hid hc
  clear hn hc
  by_cases hr : 0 ≤ r ∧ r ≤ 1114111
  · obtain ⟨hr0, hr1⟩ := hr
    go_enter Try.func59, Try.ntmps59
    go_wp2
    go_loop [4, 5] (fun R i => ∃ k : Nat, k ≤ n ∧ i = .int .i64 k ∧ Hid ((l.take k).any (fun p => decide (p.1 ≤ r ∧ r ≤ p.2)) = false)) (fun _ i => n - (intOf i).toNat)
    case atStart => exact ⟨0, Nat.zero_le _, rfl, Lib.hid rfl⟩
    case round =>
      obtain ⟨k, hk, rfl, HA⟩ := hrel
      by_cases hlt : k < n
      · obtain ⟨b, off, rfl, hb, hc1, hc2⟩ := HC.out k hlt
        have HT := Lib.hid (any_take_succ l k (by rw [HN.out]; exact hlt) (fun p => decide (p.1 ≤ r ∧ r ≤ p.2)))
        obtain ⟨p, hp⟩ : ∃ p, l[k]?.getD (0, 0) = p := ⟨_, rfl⟩
        rw [hp] at hc1 hc2
        have HP := Lib.hid hp
        clear hp
        have HY : Hid (p.1 ≤ r → r ≤ p.2 → Rg.hasB l r = true) := Lib.hid (fun h1 h2 => (Rg.hasB_iff l r).2 ⟨⟨hr0, hr1⟩, p, by
          have := HP.out; rw [List.getElem?_eq_getElem (by rw [HN.out]; exact hlt)] at this; rw [← this]; exact List.getElem_mem _, h1, h2⟩)
        have HX : Hid (¬ (p.1 ≤ r ∧ r ≤ p.2) → (l.take (k + 1)).any (fun p => decide (p.1 ≤ r ∧ r ≤ p.2)) = false) := Lib.hid (fun h => by
          rw [HT.out, HA.out, HP.out]; simp only [Bool.false_or, decide_eq_false_iff_not]; exact h)
        go_wp2
        · go_ret
          exact ⟨by rw [HY.out (by assumption) (by assumption)]; rfl, rfl⟩
        all_goals
          go_round
          case rel => exact ⟨k + 1, by omega, by go_num, Lib.hid (HX.out (by omega))⟩
          case measure => simp [intOf]; omega
      · obtain rfl : k = n := by omega
        have HF : Hid (Rg.hasB l r = false) := Lib.hid (by
          have := HA.out
          rw [List.take_of_length_le (by rw [HN.out]; exact Nat.le_refl _)] at this
          unfold Rg.hasB
          rw [this, Bool.and_false])
        go_wp2
        go_ret
        exact ⟨by rw [HF.out]; rfl, rfl⟩
  · have HF : Hid (Rg.hasB l r = false) := Lib.hid (by unfold Rg.hasB; rw [decide_eq_false hr, Bool.false_and])
    by_cases h0 : 0 ≤ r
    · have h1 : 1114111 < r := by omega
      clear hr
      by_cases hz : 0 < n
      all_goals
        go_enter Try.func59, Try.ntmps59
        go_wp2
        refine wp_loop_rounds 1 ?_
        rw [rounds_succ]
        go_wp2
        go_ret
        exact ⟨by rw [HF.out]; rfl, rfl⟩
    · have h1 : r < 0 := by omega
      clear hr
      by_cases hz : 0 < n
      all_goals
        go_enter Try.func59, Try.ntmps59
        go_wp2
        refine wp_loop_rounds 1 ?_
        rw [rounds_succ]
        go_wp2
        go_ret
        exact ⟨by rw [HF.out]; rfl, rfl⟩
theorem refHas_any (W : World) (v : Value) (l : List (Int × Int)) (r : Int) (h : RRow W v l) :
    Calls Try.prog 59 #[v, .int .i64 r] W fun e w' => e = .returned (.bool (Rg.hasB l r)) ∧ W = w' := by
  obtain ⟨a, cap, rfl, hl, hw, hc⟩ := h
  exact refHas_walk W a _ cap l r rfl hl hc
theorem fold_take_succ (at_ : Int) (l : List (Int × Int)) (k : Nat) (hk : k < l.length) : (l.take (k + 1)).foldl (Rg.edge1 at_) 1114112 = Rg.edge1 at_ ((l.take k).foldl (Rg.edge1 at_) 1114112) (l[k]?.getD (0, 0)) := by
  rw [List.take_succ_eq_append_getElem hk, List.foldl_append]
  simp [hk]
set_option maxRecDepth 100000 in
set_option maxHeartbeats 1000000 in
theorem refEdge_walk (W : World) (a : Option Addr) (n cap : Nat) (l : List (Int × Int)) (r : Int) (hn : l.length = n) (hn2 : n ≤ 8796093022208)
    (hc : ∀ j, j < n → ∃ b off, a = some ⟨b, off, none⟩ ∧ b < W.heap.size ∧ W.cell? ⟨b, off + j * 2, none⟩ = some (.int .i64 (l[j]?.getD (0, 0)).1) ∧ W.cell? ⟨b, off + j * 2 + 1, none⟩ = some (.int .i64 (l[j]?.getD (0, 0)).2))
    (hw : ∀ p ∈ l, -9223372036854775808 ≤ p.1 ∧ p.1 ≤ 9223372036854775807 ∧ -9223372036854775808 ≤ p.2 ∧ p.2 ≤ 9223372036854775807) (hr0 : 0 ≤ r) (hr1 : r ≤ 1114111) :
    Calls Try.prog 58 #[.slice a n cap, .int .i64 r] W fun e w' => e = .returned (.int .i64 (Rg.edgeN l r)) ∧ W = w' := by
  have HN := Lib.hid hn
  have HC := Lib.hid hc
  have HW := Lib.hid hw
  clear hn hc hw
  go_enter Try.func58, Try.ntmps58
  go_wp2
  go_loop [5, 6] (fun N i => ∃ (k : Nat) (x : Int), k ≤ n ∧ 0 ≤ x ∧ x ≤ 1114112 ∧ i = .int .i64 k ∧ N = .int .i64 x ∧ Hid ((l.take k).foldl (Rg.edge1 r) 1114112 = x)) (fun _ i => n - (intOf i).toNat)
  case atStart => exact ⟨0, 1114112, Nat.zero_le _, by omega, by omega, rfl, rfl, Lib.hid rfl⟩
  case round =>
    obtain ⟨k, x, hk, hx0, hx1, rfl, rfl, HF⟩ := hrel
    by_cases hlt : k < n
    · obtain ⟨b, off, rfl, hb, hc1, hc2⟩ := HC.out k hlt
      have ht := fold_take_succ r l k (by rw [HN.out]; exact hlt)
      rw [HF.out] at ht
      obtain ⟨p, hp⟩ : ∃ p, l[k]?.getD (0, 0) = p := ⟨_, rfl⟩
      have hpm : p ∈ l := by rw [← hp, List.getElem?_eq_getElem (by rw [HN.out]; exact hlt)]; exact List.getElem_mem _
      rw [hp] at hc1 hc2 ht
      obtain ⟨hw1, hw2, hw3, hw4⟩ := HW.out p hpm
      have HT := Lib.hid ht
      have hbd := Rg.edge1_le r x p
      have HBD := Lib.hid hbd
      clear hp ht hbd hpm
      obtain ⟨p1, p2⟩ := p
      dsimp only at hc1 hc2 hw1 hw2 hw3 hw4
      go_wp2
      all_goals
          go_round
          case rel => refine ⟨k + 1, _, by omega, ?_, ?_, by go_num, rfl, Lib.hid (by rw [HT.out]; simp only [Rg.edge1]; repeat (first | rfl | omega | split))⟩ <;> omega
          case measure => simp [intOf]; omega
    · obtain rfl : k = n := by omega
      have HE : Hid (Rg.edgeN l r = x) := Lib.hid (by
        have := HF.out
        rw [List.take_of_length_le (by rw [HN.out]; exact Nat.le_refl _)] at this
        exact this)
      go_wp2
      go_ret
      exact ⟨by rw [HE.out]; rfl, rfl⟩
end Go.Proofs.Ytfopcgbfbedcjaa
namespace Go.Proofs.Ytfopcgbfbedcjaa
open Go.RowKit
set_option linter.unusedVariables false
theorem Try.infoRange : (Try.prog.info? 44).map (fun i => (i.zero, i.size, i.bytes)) = some (some (.agg #[.int .i64 0, .int .i64 0]), 2, 16) := by kernel_rfl
abbrev flat2 (l : List (Int × Int)) : List Value := l.flatMap fun p => [Value.int .i64 p.1, Value.int .i64 p.2]
theorem flat2_snoc (l : List (Int × Int)) (p : Int × Int) : flat2 (l ++ [p]) = flat2 l ++ [Value.int .i64 p.1, Value.int .i64 p.2] := by simp [flat2]
theorem flat2_len (l : List (Int × Int)) : (flat2 l).length = l.length * 2 := by
  induction l with
  | nil => rfl
  | cons p l ih => show ([_, _] ++ flat2 l).length = _; rw [List.length_append, ih]; simp; omega
/-- A list of ranges that a call owns. -/
def RgOwn (W : World) (base : Nat) (v : Value) (l : List (Int × Int)) : Prop := W.ownsRow base 44 2 v l.length (flat2 l)
theorem RgOwn.below {W W' : World} {base : Nat} {v : Value} {l : List (Int × Int)} (h : RgOwn W base v l) (hb : Below W.heap.size W W') : RgOwn W' base v l :=
  h.kept ⟨hb.os, hb.tape, hb.output, hb.size, fun k hk _ => hb.block k hk⟩ (row := none) (by cases hv : v.ownBlock <;> simp)
theorem RgOwn.hi {W : World} {base g cap : Nat} {l : List (Int × Int)} {p : Int × Int} (h : RgOwn W base (.slice (some ⟨g, 0, none⟩) (l.length + 1) cap) (l ++ [p])) :
    W.cell? ⟨g, l.length * 2 + 1, none⟩ = some (.int .i64 p.2) ∧ W.frozen? ⟨g, l.length * 2 + 1, none⟩ = false := by
  have h' : W.ownsRow base 44 2 (.slice (some ⟨g, 0, none⟩) (l.length + 1) cap) (l.length + 1) (flat2 l ++ [Value.int .i64 p.1, Value.int .i64 p.2]) := by
    have := h; unfold RgOwn at this; rw [List.length_append, flat2_snoc] at this; exact this
  refine ⟨?_, h'.frozenAt _⟩
  rw [h'.cellAt _ (by omega), List.getElem?_append_right (by rw [flat2_len]; omega), flat2_len]
  rw [show l.length * 2 + 1 - l.length * 2 = 1 from by omega]; rfl
theorem RgOwn.setHi {W : World} {base g cap : Nat} {l : List (Int × Int)} {p : Int × Int} (h : RgOwn W base (.slice (some ⟨g, 0, none⟩) (l.length + 1) cap) (l ++ [p])) (y : Int) :
    RgOwn (W.setCell ⟨g, l.length * 2 + 1, none⟩ (.int .i64 y)) base (.slice (some ⟨g, 0, none⟩) (l.length + 1) cap) (l ++ [(p.1, y)]) := by
  have h' : W.ownsRow base 44 2 (.slice (some ⟨g, 0, none⟩) (l.length + 1) cap) (l.length + 1) (flat2 l ++ [Value.int .i64 p.1, Value.int .i64 p.2]) := by
    have := h; unfold RgOwn at this; rw [List.length_append, flat2_snoc] at this; exact this
  have hs := (h'.stored (l.length * 2 + 1) (.int .i64 y)).1
  have e : (flat2 l ++ [Value.int .i64 p.1, Value.int .i64 p.2]).set (l.length * 2 + 1) (.int .i64 y) = flat2 (l ++ [(p.1, y)]) := by
    rw [flat2_snoc, List.set_append_right _ _ (by rw [flat2_len]; omega), flat2_len, show l.length * 2 + 1 - l.length * 2 = 1 from by omega]; rfl
  rw [e] at hs
  unfold RgOwn
  rw [List.length_append]
  exact hs
theorem RgOwn.form {W : World} {base : Nat} {v : Value} {l : List (Int × Int)} {p : Int × Int} (h : RgOwn W base v (l ++ [p])) : ∃ g cap, v = .slice (some ⟨g, 0, none⟩) (l.length + 1) cap ∧ base ≤ g ∧ g < W.heap.size := by
  unfold RgOwn at h
  rw [List.length_append] at h
  rcases h.2 with ⟨_, h0⟩ | ⟨g, cap, cur, hv, hb, hg, _⟩
  · simp at h0
  · exact ⟨g, cap, hv, hb, (Array.getElem?_eq_some_iff.1 hg).1⟩
theorem RgOwn.nil {W : World} {base : Nat} : RgOwn W base (.slice none 0 0) [] := World.ownsRow_nil _ _ _ _
theorem RgOwn.empty {W : World} {base : Nat} {v : Value} (h : RgOwn W base v []) : ∃ a cap, v = .slice a 0 cap := by
  rcases h.2 with ⟨hv, _⟩ | ⟨g, cap, cur, hv, _⟩
  · exact ⟨none, 0, hv⟩
  · exact ⟨_, cap, hv⟩

def MakePost (op : Int) (a b : List (Int × Int)) (W : World) (e : Ending) (w' : World) : Prop := ∃ v out, e = .returned v ∧ Rg.Made op a b out ∧ RgOwn w' W.heap.size v out ∧ Below W.heap.size W w'
theorem nil_or_snoc {α : Type} (l : List α) : l = [] ∨ ∃ ini p, l = ini ++ [p] := by
  rcases List.eq_nil_or_concat l with h | ⟨ini, p, h⟩
  · exact .inl h
  · exact .inr ⟨ini, p, by rw [h, List.concat_eq_append]⟩
theorem refEdge_at {W : World} {v : Value} {l : List (Int × Int)} {r E : Int} (h : RRow W v l) (hr0 : 0 ≤ r) (hr1 : r ≤ 1114111) (hE : Rg.edgeN l r = E) :
    Calls Try.prog 58 #[v, .int .i64 r] W fun e w' => e = .returned (.int .i64 E) ∧ W = w' := by
  obtain ⟨a, cap, rfl, hl, hw, hc⟩ := h
  rw [← hE]
  exact refEdge_walk W a _ cap l r rfl hl hc hw hr0 hr1
theorem refHas_at {W : World} {v : Value} {l : List (Int × Int)} {r : Int} {X : Bool} (h : RRow W v l) (hX : Rg.hasB l r = X) :
    Calls Try.prog 59 #[v, .int .i64 r] W fun e w' => e = .returned (.bool X) ∧ W = w' := by
  rw [← hX]; exact refHas_any W v l r h
theorem RgOwn.slice {W : World} {base : Nat} {v : Value} {l : List (Int × Int)} (h : RgOwn W base v l) : ∃ a cap, v = .slice a l.length cap := by
  rcases h.2 with ⟨hv, h0⟩ | ⟨g, cap, cur, hv, _⟩
  · exact ⟨none, 0, by rw [h0]; exact hv⟩
  · exact ⟨_, cap, hv⟩

end Go.Proofs.Ytfopcgbfbedcjaa
namespace Go.Proofs.Ytfopcgbfbedcjaa
open Go.RowKit
set_option linter.unusedVariables false
theorem take_succ_eq {α : Type} [Inhabited α] {d : α} (l m : List α) (k : Nat) (hl : k < l.length) (hm : k < m.length) :
    l.take (k + 1) = m.take (k + 1) ↔ l.take k = m.take k ∧ l[k]?.getD d = m[k]?.getD d := by
  rw [List.take_add_one, List.take_add_one, List.getElem?_eq_getElem hl, List.getElem?_eq_getElem hm]
  constructor
  · intro h
    have := List.append_inj h (by simp; omega)
    exact ⟨this.1, by simpa using this.2⟩
  · rintro ⟨h1, h2⟩
    rw [h1]
    simp only [Option.getD_some] at h2
    simp [h2]
set_option maxRecDepth 100000 in
set_option maxHeartbeats 2000000 in
theorem same_rg_walk (W : World) (a b : Option Addr) (n p q : Nat) (l m : List (Int × Int)) (hn : n ≤ 8796093022208) (hl : l.length = n) (hm : m.length = n)
    (ha : ∀ j, j < n → ∃ g off, a = some ⟨g, off, none⟩ ∧ g < W.heap.size ∧ W.cell? ⟨g, off + j * 2, none⟩ = some (.int .i64 (l[j]?.getD (0, 0)).1) ∧ W.cell? ⟨g, off + j * 2 + 1, none⟩ = some (.int .i64 (l[j]?.getD (0, 0)).2))
    (hb : ∀ j, j < n → ∃ g off, b = some ⟨g, off, none⟩ ∧ g < W.heap.size ∧ W.cell? ⟨g, off + j * 2, none⟩ = some (.int .i64 (m[j]?.getD (0, 0)).1) ∧ W.cell? ⟨g, off + j * 2 + 1, none⟩ = some (.int .i64 (m[j]?.getD (0, 0)).2)) :
    Calls Try.prog 25 #[.slice a n p, .slice b n q] W fun e W' => e = .returned (.bool (decide (l = m))) ∧ ∃ d, W' = W.drewN d := by
  have HA := Lib.hid ha
  have HB := Lib.hid hb
  have HL := Lib.hid hl
  have HM := Lib.hid hm
  clear ha hb hl hm
  go_enter Try.func25, Try.ntmps25
  go_wp2
  go_loopw [5, 6] (fun s i wr => ∃ (k : Nat) (S : Bool), k ≤ n ∧ i = .int .i64 k ∧ s = .bool S ∧ Hid (S = decide (l.take k = m.take k)) ∧ ∃ d, wr = W.drewN d) (fun s i _ => (n - (intOf i).toNat) + (if s matches .bool true then 1 else 0))
  case atStart => exact ⟨0, true, Nat.zero_le _, rfl, by simp, Lib.hid (by simp), 0, rfl⟩
  case round =>
    obtain ⟨k, S, hk, rfl, rfl, HS, d, rfl⟩ := hrel
    cases S with
    | false =>
      have HF : Hid (decide (l = m) = false) := Lib.hid (by rw [decide_eq_false_iff_not]; intro e; have := HS.out; rw [e] at this; simp at this)
      go_wp2
      go_ret
      exact ⟨by rw [HF.out]; rfl, _, rfl⟩
    | true =>
      by_cases hlt : k < n
      · obtain ⟨g, off, rfl, hg, hc1, hc2⟩ := HA.out k hlt
        obtain ⟨g', off', rfl, hg', hc3, hc4⟩ := HB.out k hlt
        have hkl : k < l.length := by rw [HL.out]; exact hlt
        have hkm : k < m.length := by rw [HM.out]; exact hlt
        by_cases e1 : (l[k]?.getD (0, 0)).1 = (m[k]?.getD (0, 0)).1
        · by_cases e2 : (l[k]?.getD (0, 0)).2 = (m[k]?.getD (0, 0)).2
          · have HT : Hid (true = decide (l.take (k + 1) = m.take (k + 1))) := Lib.hid (by
              have := HS.out
              simp only [Eq.comm (a := true), decide_eq_true_eq] at this ⊢
              exact (take_succ_eq l m k hkl hkm).mpr ⟨this, Prod.ext e1 e2⟩)
            clear hkl hkm
            go_wp2
            go_quiet (fail)
            go_wp2
            go_round
            case rel => exact ⟨k + 1, true, by omega, by go_num, rfl, HT, _, rfl⟩
            case measure => simp [intOf]; omega
          · have HT : Hid (false = decide (l.take (k + 1) = m.take (k + 1))) := Lib.hid (by
              symm; rw [decide_eq_false_iff_not]; intro e
              exact e2 (congrArg Prod.snd ((take_succ_eq l m k hkl hkm).mp e).2))
            clear hkl hkm
            go_wp2
            go_quiet (fail)
            go_wp2
            go_round
            case rel => exact ⟨k + 1, false, by omega, by go_num, rfl, HT, _, rfl⟩
            case measure => simp [intOf]; omega
        · have HT : Hid (false = decide (l.take (k + 1) = m.take (k + 1))) := Lib.hid (by
            symm; rw [decide_eq_false_iff_not]; intro e
            exact e1 (congrArg Prod.fst ((take_succ_eq l m k hkl hkm).mp e).2))
          clear hkl hkm
          go_wp2
          go_quiet (fail)
          go_wp2
          go_round
          case rel => exact ⟨k + 1, false, by omega, by go_num, rfl, HT, _, rfl⟩
          case measure => simp [intOf]; omega
      · obtain rfl : k = n := by omega
        have HE : Hid (decide (l = m) = true) := Lib.hid (by
          have := HS.out
          rw [List.take_of_length_le (by rw [HL.out]; exact Nat.le_refl _), List.take_of_length_le (by rw [HM.out]; exact Nat.le_refl _)] at this
          exact this.symm)
        go_wp2
        go_ret
        exact ⟨by rw [HE.out]; rfl, _, rfl⟩
end Go.Proofs.Ytfopcgbfbedcjaa
