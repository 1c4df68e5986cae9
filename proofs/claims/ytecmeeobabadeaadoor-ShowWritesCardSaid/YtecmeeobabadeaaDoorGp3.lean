/- Mathematics of bracket: how long escapes and items are. · Mathematics of bracket: what is read does not hang on what stands behind. · Mathematics of bracket: a set written as its numbers; runes between brackets. · The plain mathematics of case folding: pairs, what they join, families; no program. · The plain mathematics of the landed way: cutting, merging a sorted list, turns and their parity; no program. · What the reference's Check answers, as plain mathematics. · The laws of sets, of normalized lists: plain mathematics over what is made. · The plain mathematics of the reference's fold (burinref03): inserting, rounds on lists, what is closed. · Mathematics of bracket: the list that an expression stands for. -/
import Derived.Test.YtecmeeobabadeaaDoorGp2
import Derived.Test.YtecmeeobabadeaaDoorGp1
namespace Go.Proofs.YtecmeeobabadeaaDoor.Br
open Go.Proofs.YtecmeeobabadeaaDoor.Rg
set_option linter.unusedVariables false
/-- The items from a place on. -/
def rest (s : ByteArray) (fs at_ : Nat) (Xs : List It) : Res (List It) := items s fs (s.size + 1 - at_) at_ Xs
end Go.Proofs.YtecmeeobabadeaaDoor.Br
namespace Go.Proofs.YtecmeeobabadeaaDoor.Br
open Go.Proofs.YtecmeeobabadeaaDoor.Rg
set_option linter.unusedVariables false
theorem nums_inj' {s t : ByteArray} (h : Utf.nums s = Utf.nums t) : s = t := by
  apply ByteArray.ext
  apply Array.toList_inj.1
  unfold Utf.nums at h
  exact List.map_inj_right (fun a b e => UInt8.toNat_inj.1 (by exact_mod_cast e)) |>.1 h
theorem nums_append' (s t : ByteArray) : Utf.nums (s ++ t) = Utf.nums s ++ Utf.nums t := by
  unfold Utf.nums; rw [ByteArray.data_append, Array.toList_append, List.map_append]
/-- Alike ahead of n. -/
def Ag (n : Nat) (l m : List Int) : Prop := n ≤ l.length ∧ n ≤ m.length ∧ ∀ k, k < n → m[k]? = l[k]?
theorem Ag.mono {n k : Nat} {l m : List Int} (h : Ag n l m) (hk : k ≤ n) : Ag k l m := ⟨by have := h.1; omega, by have := h.2.1; omega, fun j hj => h.2.2 j (by omega)⟩
theorem Ag.drop {n : Nat} {l m : List Int} (h : Ag n l m) (d : Nat) : Ag (n - d) (l.drop d) (m.drop d) :=
  ⟨by have := h.1; simp; omega, by have := h.2.1; simp; omega, fun k hk => by rw [List.getElem?_drop, List.getElem?_drop]; exact h.2.2 _ (by omega)⟩
theorem Ag.take {n : Nat} {l m : List Int} (h : Ag n l m) : m.take n = l.take n := by
  apply List.ext_getElem?
  intro k
  rw [List.getElem?_take, List.getElem?_take]
  split
  · exact h.2.2 k (by assumption)
  · rfl
theorem Ag.getD {n : Nat} {l m : List Int} (h : Ag n l m) {k : Nat} (hk : k < n) : m[k]?.getD 0 = l[k]?.getD 0 := by rw [h.2.2 k hk]
theorem Ag.value {n : Nat} {l m : List Int} (h : Ag n l m) : val m n = val l n := by unfold Br.val; rw [h.take]
end Go.Proofs.YtecmeeobabadeaaDoor.Br
namespace Go.Proofs.YtecmeeobabadeaaDoor.Br
open Go.Proofs.YtecmeeobabadeaaDoor.Rg
set_option linter.unusedVariables false
/-- A digit's sign. -/
def hd (d : Nat) : Int := if d < 10 then 48 + d else 87 + d
def hexL (n : Nat) : List Int := if h : n < 16 then [hd n] else hexL (n / 16) ++ [hd (n % 16)]
termination_by n
decreasing_by omega
theorem hexL_small {n : Nat} (h : n < 16) : hexL n = [hd n] := by rw [hexL, dif_pos h]
theorem hexL_big {n : Nat} (h : ¬ n < 16) : hexL n = hexL (n / 16) ++ [hd (n % 16)] := by rw [hexL, dif_neg h]
theorem dig_hd {d : Nat} (h : d < 16) : dig (hd d) = d := by
  unfold hd
  split
  · unfold dig; rw [if_pos (by omega)]; omega
  · unfold dig; rw [if_neg (by omega), if_pos (by omega)]; omega
theorem hd_bd {d : Nat} (h : d < 16) : 48 ≤ hd d ∧ hd d ≤ 102 := by unfold hd; split <;> omega
theorem hexL_all (n : Nat) : ∀ x ∈ hexL n, 0 ≤ dig x ∧ 48 ≤ x ∧ x ≤ 102 := by
  induction n using Nat.strongRecOn with
  | _ n ih =>
    by_cases h : n < 16
    · rw [hexL_small h]
      intro x hx
      rw [List.mem_singleton] at hx
      subst hx
      exact ⟨by rw [dig_hd h]; omega, hd_bd h⟩
    · rw [hexL_big h]
      intro x hx
      rcases List.mem_append.1 hx with hx | hx
      · exact ih _ (by omega) x hx
      · rw [List.mem_singleton] at hx
        subst hx
        exact ⟨by rw [dig_hd (by omega)]; omega, hd_bd (by omega)⟩
theorem hexL_len : ∀ (k n : Nat), n < 16 ^ (k + 1) → 1 ≤ (hexL n).length ∧ (hexL n).length ≤ k + 1
  | 0, n, h => by rw [hexL_small (by simpa using h)]; simp
  | k + 1, n, h => by
    by_cases hn : n < 16
    · rw [hexL_small hn]; simp
    · rw [hexL_big hn]
      have := hexL_len k (n / 16) (by rw [Nat.pow_succ] at h; omega)
      simp; omega
theorem hexL6 {n : Nat} (h : n ≤ 1114111) : 1 ≤ (hexL n).length ∧ (hexL n).length ≤ 6 := hexL_len 5 n (by omega)
/-- A number written as an escape. -/
def esc (n : Nat) : List Int := 92 :: 120 :: 123 :: (hexL n ++ [125])
theorem esc_len (n : Nat) : (esc n).length = (hexL n).length + 4 := by unfold esc; simp
/-- A range written. -/
def wr (p : Int × Int) : List Int := esc p.1.toNat ++ 45 :: esc p.2.toNat
end Go.Proofs.YtecmeeobabadeaaDoor.Br
namespace Go.Proofs.YtecmeeobabadeaaDoor.Fd
set_option linter.unusedVariables false
end Go.Proofs.YtecmeeobabadeaaDoor.Fd
namespace Go.Proofs.YtecmeeobabadeaaDoor.Rg
theorem memL_nil (q : Int) : ¬ memL [] q := by rintro ⟨p, hp, _⟩; cases hp
/-! ### Merging a list that is sorted by its beginnings -/
structure Srt (s : List R) : Prop where
  ok : ∀ p ∈ s, 0 ≤ p.1 ∧ p.1 ≤ p.2 ∧ p.2 ≤ 1114111
  asc : s.Pairwise fun a b => a.1 ≤ b.1
structure NInv (s : List R) (k : Nat) (out : List R) : Prop where
  norm : NormL out
  mem : ∀ q, memL out q ↔ memL (s.take k) q
  le : ∀ p ∈ out, ∀ y ∈ s.drop k, p.1 ≤ y.1
  len : out.length ≤ k
theorem NInv.start (s : List R) : NInv s 0 [] := ⟨trivial, (fun q => by rw [List.take_zero]), (fun p h => by cases h), Nat.le_refl _⟩
section
variable {s : List R} {k : Nat}
theorem Srt.at_ (h : Srt s) (hk : k < s.length) : 0 ≤ (s[k]?.getD (0, 0)).1 ∧ (s[k]?.getD (0, 0)).1 ≤ (s[k]?.getD (0, 0)).2 ∧ (s[k]?.getD (0, 0)).2 ≤ 1114111 := by
  rw [List.getElem?_eq_getElem hk]; exact h.ok _ (List.getElem_mem hk)
theorem Srt.behind (h : Srt s) (hk : k < s.length) : ∀ y ∈ s.drop (k + 1), (s[k]?.getD (0, 0)).1 ≤ y.1 := by
  intro y hy
  have hd := List.drop_eq_getElem_cons hk
  have := (List.Pairwise.sublist (List.drop_sublist k s) h.asc)
  rw [hd] at this
  rw [List.getElem?_eq_getElem hk]
  exact (List.pairwise_cons.1 this).1 y hy
theorem mem_take_succ (hk : k < s.length) (q : Int) : memL (s.take (k + 1)) q ↔ memL (s.take k) q ∨ ((s[k]?.getD (0, 0)).1 ≤ q ∧ q ≤ (s[k]?.getD (0, 0)).2) := by
  rw [List.take_succ_eq_append_getElem hk, memL_snoc, List.getElem?_eq_getElem hk]; rfl
theorem mem_drop_succ {y : R} (hy : y ∈ s.drop (k + 1)) : y ∈ s.drop k := by
  have : s.drop (k + 1) = (s.drop k).drop 1 := by rw [List.drop_drop]
  rw [this] at hy
  exact List.mem_of_mem_drop hy
theorem NInv.add {out : List R} {x : R} (h : NInv s k out) (hs : Srt s) (hk : k < s.length) (hx : s[k]?.getD (0, 0) = x) (hl : ∀ p ∈ out, p.2 + 2 ≤ x.1) : NInv s (k + 1) (out ++ [x]) := by
  have ha := hs.at_ hk
  have hb := hs.behind hk
  have hm := fun q => mem_take_succ hk q
  rw [hx] at ha hb hm
  obtain ⟨x1, x2⟩ := x
  refine ⟨norm_snoc out 0 _ _ h.norm hl ha.1 ha.2.1 ha.2.2, fun q => ?_, fun p hp y hy => ?_, by rw [List.length_append]; have := h.len; simp; omega⟩
  · rw [memL_snoc, hm, h.mem]
  · rcases List.mem_append.1 hp with hp | hp
    · exact h.le p hp y (mem_drop_succ hy)
    · simp at hp; subst hp; exact hb y hy
theorem NInv.last {ini : List R} {p x : R} (h : NInv s k (ini ++ [p])) (hl : ¬ x.1 ≤ p.2 + 1) : ∀ y ∈ ini ++ [p], y.2 + 2 ≤ x.1 := by
  obtain ⟨a1, a2, a3, a4, a5⟩ := norm_unsnoc ini 0 p h.norm
  intro y hy
  rcases List.mem_append.1 hy with hy | hy
  · have := a2 y hy; omega
  · simp at hy; subst hy; omega
end
/-- The list of the set of a. -/
def ListOf (a out : List R) : Prop := Made 1 a [] out
theorem NInv.made {s a out : List R} (h : NInv s s.length out) (hm : ∀ q, memL s q ↔ hasB a q = true) : ListOf a out := by
  refine ⟨h.norm, fun q h0 h1 => ?_⟩
  rw [Bool.eq_iff_iff, norm_has h.norm, h.mem, List.take_length, hm]
  simp [opB, hasB]
theorem ListOf.mem {a out : List R} (h : ListOf a out) (q : Int) : memL out q ↔ hasB a q = true := by
  constructor
  · intro hm
    have b := norm_mem_lo h.norm hm
    have := h.has q b.1 b.2
    rw [(norm_has h.norm q).2 hm] at this
    simp [opB] at this
    rcases this with this | this
    · exact this
    · simp [hasB] at this
  · intro hh
    have b := ((hasB_iff a q).1 hh).1
    have := h.has q b.1 b.2
    rw [hh] at this
    exact (norm_has h.norm q).1 (this.trans (by simp [opB]))

/-! ### Turns -/
def turnsN (l : List R) : List Int := l.flatMap fun p => [p.1, p.2 + 1]
def odd (n : Nat) : Bool := n % 2 == 1
def par (T : List Int) (q : Int) : Bool := odd (T.countP fun t => decide (t ≤ q))
theorem turns_cons (p : R) (l : List R) : turnsN (p :: l) = p.1 :: (p.2 + 1) :: turnsN l := rfl
theorem turns_bd : ∀ (l : List R) (lo : Int), NormFrom lo l → ∀ t ∈ turnsN l, lo ≤ t ∧ t ≤ 1114112
  | [], _, _, t, h => by cases h
  | p :: l, lo, h, t, ht => by
    obtain ⟨h1, h2, h3, h4⟩ := h
    rw [turns_cons] at ht
    rcases List.mem_cons.1 ht with rfl | ht
    · omega
    · rcases List.mem_cons.1 ht with rfl | ht
      · omega
      · have := turns_bd l _ h4 t ht; omega
theorem odd_succ (n : Nat) : odd (n + 1) = !odd n := by
  unfold odd
  rcases Nat.mod_two_eq_zero_or_one n with h | h
  · have : (n + 1) % 2 = 1 := by omega
    rw [h, this]; rfl
  · have : (n + 1) % 2 = 0 := by omega
    rw [h, this]; rfl
theorem par_none {T : List Int} {q : Int} (h : ∀ t ∈ T, q < t) : par T q = false := by
  unfold par
  rw [List.countP_eq_zero.2 (fun t ht => by have := h t ht; simp; omega)]; rfl
theorem par_all {T : List Int} {q : Int} (h : ∀ t ∈ T, t ≤ q) : par T q = odd T.length := by
  unfold par
  rw [List.countP_eq_length.2 (fun t ht => by have := h t ht; simp; omega)]
theorem par_cons_le {T : List Int} {t q : Int} (h : t ≤ q) : par (t :: T) q = !par T q := by
  unfold par
  rw [List.countP_cons_of_pos (by simpa using h), odd_succ]
theorem par_snoc_gt {T : List Int} {t q : Int} (h : q < t) : par (T ++ [t]) q = par T q := by
  unfold par
  have e : List.countP (fun t => decide (t ≤ q)) [t] = 0 := List.countP_eq_zero.2 (fun x hx => by simp at hx; subst hx; simp; omega)
  rw [List.countP_append, e]; rfl
theorem par_turns : ∀ (l : List R) (lo q : Int), NormFrom lo l → (par (turnsN l) q = true ↔ memL l q)
  | [], _, q, _ => by
    constructor
    · intro h; cases h
    · intro h; exact absurd h (memL_nil q)
  | p :: l, lo, q, h => by
    obtain ⟨h1, h2, h3, h4⟩ := h
    have ih := par_turns l _ q h4
    have hb := turns_bd l _ h4
    rw [turns_cons, memL_cons]
    by_cases a : q < p.1
    · rw [par_none (fun t ht => by
        rcases List.mem_cons.1 ht with rfl | ht
        · exact a
        · rcases List.mem_cons.1 ht with rfl | ht
          · omega
          · have := hb t ht; omega)]
      constructor
      · intro h; cases h
      · rintro (h | h)
        · omega
        · have := norm_mem_lo h4 h; omega
    · rw [par_cons_le (by omega)]
      by_cases b : q < p.2 + 1
      · rw [par_none (fun t ht => by
          rcases List.mem_cons.1 ht with rfl | ht
          · exact b
          · have := hb t ht; omega)]
        exact ⟨fun _ => .inl (by omega), fun _ => rfl⟩
      · rw [par_cons_le (by omega), Bool.not_not, ih]
        exact ⟨.inr, fun h => by rcases h with h | h; exact absurd h.2 (by omega); exact h⟩
theorem ListOf.par {a out : List R} (h : ListOf a out) (q : Int) : par (turnsN out) q = hasB a q := by
  rw [Bool.eq_iff_iff, par_turns out 0 q h.norm, h.mem]

/-! ### Walking two lists of turns -/
/-- A consumed, A' left; likewise B; out so far. -/
structure WInv (K : Bool → Bool → Bool) (A1 A2 B1 B2 out : List Int) : Prop where
  asc : out.Pairwise (· < ·)
  odd : odd out.length = K (odd A1.length) (odd B1.length)
  lt : ∀ x, (x ∈ A1 ∨ x ∈ B1 ∨ x ∈ out) → ∀ y, (y ∈ A2 ∨ y ∈ B2) → x < y
  par : ∀ q, (∀ y, (y ∈ A2 ∨ y ∈ B2) → q < y) → par out q = K (par A1 q) (par B1 q)
  bd : ∀ x ∈ out, 0 ≤ x ∧ x ≤ 1114112
theorem WInv.start (K : Bool → Bool → Bool) (hK : K false false = false) (A B : List Int) : WInv K [] A [] B [] :=
  ⟨List.Pairwise.nil, hK.symm, (fun x h => by rcases h with h | h | h <;> cases h), (fun q _ => hK.symm), (fun x h => by cases h)⟩
/-- One step: at stands at the head of A or of B, or of both; nothing less stands there. -/
theorem WInv.step {K : Bool → Bool → Bool} {A1 A2 B1 B2 out : List Int} (h : WInv K A1 A2 B1 B2 out) {at_ : Int} {cA cB cO : List Int} {A3 B3 : List Int}
    (hA : A2 = cA ++ A3) (hB : B2 = cB ++ B3) (hcA : cA = [] ∨ cA = [at_]) (hcB : cB = [] ∨ cB = [at_]) (hcO : cO = [] ∨ cO = [at_]) (hin : cA = [at_] ∨ cB = [at_])
    (hA3 : ∀ y ∈ A3, at_ < y) (hB3 : ∀ y ∈ B3, at_ < y) (hb : 0 ≤ at_ ∧ at_ ≤ 1114112)
    (ho : Rg.odd (out ++ cO).length = K (Rg.odd (A1 ++ cA).length) (Rg.odd (B1 ++ cB).length)) : WInv K (A1 ++ cA) A3 (B1 ++ cB) B3 (out ++ cO) := by
  have hat : at_ ∈ A2 ∨ at_ ∈ B2 := by
    rcases hin with h | h
    · exact .inl (by rw [hA, h]; simp)
    · exact .inr (by rw [hB, h]; simp)
  have one : ∀ {c : List Int}, (c = [] ∨ c = [at_]) → ∀ x ∈ c, x = at_ := by
    rintro c (rfl | rfl) x hx
    · cases hx
    · simpa using hx
  have old : ∀ x, (x ∈ A1 ∨ x ∈ B1 ∨ x ∈ out) → x < at_ := fun x hx => h.lt x hx at_ hat
  have all : ∀ x, (x ∈ A1 ++ cA ∨ x ∈ B1 ++ cB ∨ x ∈ out ++ cO) → x ≤ at_ := by
    intro x hx
    simp only [List.mem_append] at hx
    rcases hx with (hx | hx) | (hx | hx) | (hx | hx)
    · have := old x (.inl hx); omega
    · have := one hcA x hx; omega
    · have := old x (.inr (.inl hx)); omega
    · have := one hcB x hx; omega
    · have := old x (.inr (.inr hx)); omega
    · have := one hcO x hx; omega
  refine ⟨?_, ho, fun x hx y hy => ?_, fun q hq => ?_, fun x hx => ?_⟩
  · rcases hcO with rfl | rfl
    · simpa using h.asc
    · exact List.pairwise_append.2 ⟨h.asc, by simp, fun x hx y hy => by simp at hy; subst hy; exact old x (.inr (.inr hx))⟩
  · have h1 := all x hx
    rcases hy with hy | hy
    · have := hA3 y hy; omega
    · have := hB3 y hy; omega
  · by_cases e : q < at_
    · have hq' : ∀ y, (y ∈ A2 ∨ y ∈ B2) → q < y := by
        intro y hy
        rw [hA, hB] at hy
        simp only [List.mem_append] at hy
        rcases hy with (hy | hy) | (hy | hy)
        · rw [one hcA y hy]; exact e
        · exact hq y (.inl hy)
        · rw [one hcB y hy]; exact e
        · exact hq y (.inr hy)
      have ext : ∀ {X c : List Int}, (c = [] ∨ c = [at_]) → Rg.par (X ++ c) q = Rg.par X q := by
        rintro X c (rfl | rfl)
        · rw [List.append_nil]
        · exact par_snoc_gt e
      rw [ext hcA, ext hcB, ext hcO]
      exact h.par q hq'
    · rw [par_all (T := A1 ++ cA) (fun t ht => by have := all t (.inl ht); omega), par_all (T := B1 ++ cB) (fun t ht => by have := all t (.inr (.inl ht)); omega), par_all (T := out ++ cO) (fun t ht => by have := all t (.inr (.inr ht)); omega)]
      exact ho
  · rcases List.mem_append.1 hx with hx | hx
    · exact h.bd x hx
    · rw [one hcO x hx]; exact hb
/-! ### The ranges between turns -/
end Go.Proofs.YtecmeeobabadeaaDoor.Rg
namespace Go.Proofs.YtecmeeobabadeaaDoor
set_option linter.unusedVariables false
namespace Rg
def check1 (prev : Option Int) (p : R) : Int :=
  if p.1 < 0 ∨ p.2 < 0 ∨ p.1 > 1114111 ∨ p.2 > 1114111 then 1 else if p.1 > p.2 ∨ (∃ h, prev = some h ∧ p.1 - 1 ≤ h) then 4 else 0
def checkF : Option Int → List R → Int
  | _, [] => 0
  | prev, p :: l => if check1 prev p = 0 then checkF (some p.2) l else check1 prev p
def prevAt (l : List R) (k : Nat) : Option Int := if k = 0 then none else some (l[k - 1]?.getD (0, 0)).2
theorem checkF_step (l : List R) (k : Nat) (hk : k < l.length) :
    checkF (prevAt l k) (l.drop k) = if check1 (prevAt l k) (l[k]?.getD (0, 0)) = 0 then checkF (prevAt l (k + 1)) (l.drop (k + 1)) else check1 (prevAt l k) (l[k]?.getD (0, 0)) := by
  rw [List.drop_eq_getElem_cons hk]
  simp only [checkF]
  have e : l[k]?.getD (0, 0) = l[k] := by rw [List.getElem?_eq_getElem hk]; rfl
  rw [e]
  have e2 : prevAt l (k + 1) = some (l[k]).2 := by simp [prevAt, hk]
  rw [e2]
end Rg
end Go.Proofs.YtecmeeobabadeaaDoor
namespace Go.Proofs.YtecmeeobabadeaaDoor.Rg
set_option linter.unusedVariables false
/-- How many of the first n numbers have F. -/
def cnt (F : Int → Bool) : Nat → Int
  | 0 => 0
  | n + 1 => cnt F n + cond (F n) 1 0
end Go.Proofs.YtecmeeobabadeaaDoor.Rg
namespace Go.Proofs.YtecmeeobabadeaaDoor.Rg
set_option linter.unusedVariables false
theorem hasB_out {l : List R} {q : Int} (h : ¬ (0 ≤ q ∧ q ≤ 1114111)) : hasB l q = false := by unfold hasB; rw [decide_eq_false h, Bool.false_and]
theorem opB_ff (op : Int) : opB op false false = false := by simp [opB]
theorem Made.at_ {op : Int} {a b out : List R} (h : Made op a b out) (q : Int) : hasB out q = opB op (hasB a q) (hasB b q) := by
  by_cases hq : 0 ≤ q ∧ q ≤ 1114111
  · exact h.has q hq.1 hq.2
  · rw [hasB_out hq, hasB_out hq, hasB_out hq, opB_ff]
theorem Made.or {a b out : List R} (h : Made 1 a b out) (q : Int) : hasB out q = (hasB a q || hasB b q) := by
  rw [h.at_]; cases hasB a q <;> cases hasB b q <;> rfl
theorem Made.and {a b out : List R} (h : Made 2 a b out) (q : Int) : hasB out q = (hasB a q && hasB b q) := by
  rw [h.at_]; cases hasB a q <;> cases hasB b q <;> rfl
theorem Made.sub {a b out : List R} (h : Made 3 a b out) (q : Int) : hasB out q = (hasB a q && !hasB b q) := by
  rw [h.at_]; cases hasB a q <;> cases hasB b q <;> rfl
theorem ListOf.eq {a out : List R} (h : ListOf a out) (q : Int) : hasB out q = hasB a q := by
  rw [Made.or h]; simp [hasB]
/-! ### Check, and what is normalized -/
def CkFrom : Option Int → List R → Prop
  | none, l => NormFrom 0 l
  | some h, l => NormFrom (h + 2) l
theorem check1_zero {prev : Option Int} {p : R} (hp : ∀ h, prev = some h → 0 ≤ h) (h : check1 prev p = 0) : (∀ h, prev = some h → h + 2 ≤ p.1) ∧ 0 ≤ p.1 ∧ p.1 ≤ p.2 ∧ p.2 ≤ 1114111 := by
  unfold check1 at h
  split at h
  · cases h
  · split at h
    · cases h
    · rename_i h1 h2
      refine ⟨fun x hx => ?_, by omega, by omega, by omega⟩
      have : ¬ p.1 - 1 ≤ x := fun hle => h2 (.inr ⟨x, hx, hle⟩)
      omega
theorem check1_ok {prev : Option Int} {p : R} (h : ∀ h, prev = some h → h + 2 ≤ p.1) (h0 : 0 ≤ p.1) (h1 : p.1 ≤ p.2) (h2 : p.2 ≤ 1114111) : check1 prev p = 0 := by
  unfold check1
  rw [if_neg (by omega), if_neg]
  rintro (h3 | ⟨x, hx, h3⟩)
  · omega
  · have := h x hx; omega
theorem ck_iff : ∀ (l : List R) (prev : Option Int), (∀ h, prev = some h → 0 ≤ h) → (checkF prev l = 0 ↔ CkFrom prev l)
  | [], none, _ => ⟨fun _ => trivial, fun _ => rfl⟩
  | [], some h, _ => ⟨fun _ => trivial, fun _ => rfl⟩
  | p :: l, prev, hp => by
    have ih := ck_iff l (some p.2)
    show (if check1 prev p = 0 then checkF (some p.2) l else check1 prev p) = 0 ↔ _
    by_cases h : check1 prev p = 0
    · rw [if_pos h]
      have hz := check1_zero hp h
      rw [ih (fun x hx => by injection hx with hx; omega)]
      cases prev with
      | none => exact ⟨fun k => ⟨hz.2.1, hz.2.2.1, hz.2.2.2, k⟩, fun k => k.2.2.2⟩
      | some x => exact ⟨fun k => ⟨hz.1 x rfl, hz.2.2.1, hz.2.2.2, k⟩, fun k => k.2.2.2⟩
    · rw [if_neg h]
      refine ⟨fun k => absurd k h, fun k => absurd (check1_ok ?_ ?_ ?_ ?_) h⟩
      · intro x hx; subst hx; exact k.1
      · cases prev with
        | none => exact k.1
        | some x => have := k.1; have := hp x rfl; omega
      · cases prev <;> exact k.2.1
      · cases prev <;> exact k.2.2.1
theorem check_norm (l : List R) : checkF none l = 0 ↔ NormL l := ck_iff l none (fun h hh => by cases hh)
end Go.Proofs.YtecmeeobabadeaaDoor.Rg
namespace Go.Proofs.YtecmeeobabadeaaDoor.Fd
open Go.Proofs.YtecmeeobabadeaaDoor.Rg
set_option linter.unusedVariables false
/-! ### Next -/
/-! ### Close -/
def one (x : Int) : Int × Int := (x, x)
end Go.Proofs.YtecmeeobabadeaaDoor.Fd
namespace Go.Proofs.YtecmeeobabadeaaDoor.Br
open Go.Proofs.YtecmeeobabadeaaDoor.Rg
set_option linter.unusedVariables false
end Go.Proofs.YtecmeeobabadeaaDoor.Br
