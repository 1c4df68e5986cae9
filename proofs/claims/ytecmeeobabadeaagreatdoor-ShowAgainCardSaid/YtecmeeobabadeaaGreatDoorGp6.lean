/- The plain mathematics of the landed way: cutting, merging a sorted list, turns and their parity; no program. · What the reference's Check answers, as plain mathematics. · The laws of sets, of normalized lists: plain mathematics over what is made. · The plain mathematics of the reference's fold (burinref03): inserting, rounds on lists, what is closed. · Mathematics of bracket: the list that an expression stands for. · The reference's tree (burinref06): letter, Name. · Mathematics of lex: the token at the front of a text, and all tokens of a text. -/
import Derived.Test.YtecmeeobabadeaaGreatDoorGp1
import Derived.Test.YtecmeeobabadeaaGreatDoorGp5
import Derived.Test.YtecmeeobabadeaaGreatDoorGp4
import Derived.Test.YtecmeeobabadeaaGreatDoorGp2
import Derived.IntWalk
namespace Go.Proofs.YtecmeeobabadeaaGreatDoor.Rg
/-- What lies inside of each range, if anything does. -/
def clip1 (p : R) : Option R := if max p.1 0 ≤ min p.2 1114111 then some (max p.1 0, min p.2 1114111) else none
def clipL (l : List R) : List R := l.filterMap clip1
theorem memL_nil (q : Int) : ¬ memL [] q := by rintro ⟨p, hp, _⟩; cases hp
theorem clip_mem (l : List R) (q : Int) : memL (clipL l) q ↔ hasB l q = true := by
  rw [hasB_iff]
  unfold memL clipL
  constructor
  · rintro ⟨p, hp, h1, h2⟩
    obtain ⟨x, hx, hc⟩ := List.mem_filterMap.1 hp
    unfold clip1 at hc
    split at hc
    · injection hc with hc; subst hc
      simp only at h1 h2
      refine ⟨by omega, x, hx, by omega, by omega⟩
    · cases hc
  · rintro ⟨⟨h0, h1⟩, x, hx, h2, h3⟩
    refine ⟨(max x.1 0, min x.2 1114111), List.mem_filterMap.2 ⟨x, hx, ?_⟩, by show max x.1 0 ≤ q; omega, by show q ≤ min x.2 1114111; omega⟩
    unfold clip1
    rw [if_pos (by omega)]
theorem clip_ok (l : List R) : ∀ p ∈ clipL l, 0 ≤ p.1 ∧ p.1 ≤ p.2 ∧ p.2 ≤ 1114111 := by
  intro p hp
  obtain ⟨x, hx, hc⟩ := List.mem_filterMap.1 hp
  unfold clip1 at hc
  split at hc
  · injection hc with hc; subst hc; simp only; omega
  · cases hc
theorem clip_take_succ (l : List R) (k : Nat) (hk : k < l.length) : clipL (l.take (k + 1)) = clipL (l.take k) ++ (clip1 (l[k]?.getD (0, 0))).toList := by
  unfold clipL
  rw [List.take_succ_eq_append_getElem hk, List.filterMap_append]
  simp [hk, List.filterMap_cons]
  cases clip1 l[k] <;> rfl
theorem clip_len (l : List R) : (clipL l).length ≤ l.length := List.length_filterMap_le _ _
theorem memL_perm {s l : List R} (h : s.Perm l) (q : Int) : memL s q ↔ memL l q := by
  unfold memL
  exact ⟨fun ⟨p, hp, hh⟩ => ⟨p, h.mem_iff.1 hp, hh⟩, fun ⟨p, hp, hh⟩ => ⟨p, h.mem_iff.2 hp, hh⟩⟩
/-! ### Merging a list that is sorted by its beginnings -/
structure Srt (s : List R) : Prop where
  ok : ∀ p ∈ s, 0 ≤ p.1 ∧ p.1 ≤ p.2 ∧ p.2 ≤ 1114111
  asc : s.Pairwise fun a b => a.1 ≤ b.1
structure NInv (s : List R) (k : Nat) (out : List R) : Prop where
  norm : NormL out
  mem : ∀ q, memL out q ↔ memL (s.take k) q
  le : ∀ p ∈ out, ∀ y ∈ s.drop k, p.1 ≤ y.1
  len : out.length ≤ k
theorem NInv.start (s : List R) : NInv s 0 [] := ⟨trivial, (fun q => by rw [List.take_zero]), (fun p h => by cases h), Nat.le_refl _⟩
section
variable {s : List R} {k : Nat}
theorem Srt.at_ (h : Srt s) (hk : k < s.length) : 0 ≤ (s[k]?.getD (0, 0)).1 ∧ (s[k]?.getD (0, 0)).1 ≤ (s[k]?.getD (0, 0)).2 ∧ (s[k]?.getD (0, 0)).2 ≤ 1114111 := by
  rw [List.getElem?_eq_getElem hk]; exact h.ok _ (List.getElem_mem hk)
theorem Srt.behind (h : Srt s) (hk : k < s.length) : ∀ y ∈ s.drop (k + 1), (s[k]?.getD (0, 0)).1 ≤ y.1 := by
  intro y hy
  have hd := List.drop_eq_getElem_cons hk
  have := (List.Pairwise.sublist (List.drop_sublist k s) h.asc)
  rw [hd] at this
  rw [List.getElem?_eq_getElem hk]
  exact (List.pairwise_cons.1 this).1 y hy
theorem mem_take_succ (hk : k < s.length) (q : Int) : memL (s.take (k + 1)) q ↔ memL (s.take k) q ∨ ((s[k]?.getD (0, 0)).1 ≤ q ∧ q ≤ (s[k]?.getD (0, 0)).2) := by
  rw [List.take_succ_eq_append_getElem hk, memL_snoc, List.getElem?_eq_getElem hk]; rfl
theorem mem_drop_succ {y : R} (hy : y ∈ s.drop (k + 1)) : y ∈ s.drop k := by
  have : s.drop (k + 1) = (s.drop k).drop 1 := by rw [List.drop_drop]
  rw [this] at hy
  exact List.mem_of_mem_drop hy
theorem NInv.add {out : List R} {x : R} (h : NInv s k out) (hs : Srt s) (hk : k < s.length) (hx : s[k]?.getD (0, 0) = x) (hl : ∀ p ∈ out, p.2 + 2 ≤ x.1) : NInv s (k + 1) (out ++ [x]) := by
  have ha := hs.at_ hk
  have hb := hs.behind hk
  have hm := fun q => mem_take_succ hk q
  rw [hx] at ha hb hm
  obtain ⟨x1, x2⟩ := x
  refine ⟨norm_snoc out 0 _ _ h.norm hl ha.1 ha.2.1 ha.2.2, fun q => ?_, fun p hp y hy => ?_, by rw [List.length_append]; have := h.len; simp; omega⟩
  · rw [memL_snoc, hm, h.mem]
  · rcases List.mem_append.1 hp with hp | hp
    · exact h.le p hp y (mem_drop_succ hy)
    · simp at hp; subst hp; exact hb y hy
theorem NInv.join {ini : List R} {p x : R} (h : NInv s k (ini ++ [p])) (hs : Srt s) (hk : k < s.length) (hx : s[k]?.getD (0, 0) = x) (hl : x.1 ≤ p.2 + 1) : NInv s (k + 1) (ini ++ [(p.1, max p.2 x.2)]) := by
  have ha := hs.at_ hk
  have hb := hs.behind hk
  have hm := fun q => mem_take_succ hk q
  have hle := h.le p (by simp) x (by rw [List.drop_eq_getElem_cons hk, ← hx, List.getElem?_eq_getElem hk]; exact List.mem_cons_self)
  rw [hx] at ha hb hm
  obtain ⟨a1, a2, a3, a4, a5⟩ := norm_unsnoc ini 0 p h.norm
  refine ⟨norm_snoc ini 0 _ _ a1 a2 a3 (by omega) (by omega), fun q => ?_, fun p' hp y hy => ?_, by have := h.len; simpa using by simp at this; omega⟩
  · rw [memL_snoc, hm, ← h.mem, memL_snoc]
    show _ ∨ (p.1 ≤ q ∧ q ≤ max p.2 x.2) ↔ _
    constructor
    · rintro (h | h)
      · exact .inl (.inl h)
      · by_cases e : q ≤ p.2
        · exact .inl (.inr ⟨h.1, e⟩)
        · exact .inr (by omega)
    · rintro ((h | h) | h)
      · exact .inl h
      · exact .inr (by omega)
      · exact .inr (by omega)
  · rcases List.mem_append.1 hp with hp | hp
    · exact h.le p' (by simp [hp]) y (mem_drop_succ hy)
    · simp at hp; subst hp; exact h.le p (by simp) y (mem_drop_succ hy)
theorem NInv.last {ini : List R} {p x : R} (h : NInv s k (ini ++ [p])) (hl : ¬ x.1 ≤ p.2 + 1) : ∀ y ∈ ini ++ [p], y.2 + 2 ≤ x.1 := by
  obtain ⟨a1, a2, a3, a4, a5⟩ := norm_unsnoc ini 0 p h.norm
  intro y hy
  rcases List.mem_append.1 hy with hy | hy
  · have := a2 y hy; omega
  · simp at hy; subst hy; omega
end
/-- The list of the set of a. -/
def ListOf (a out : List R) : Prop := Made 1 a [] out
theorem NInv.made {s a out : List R} (h : NInv s s.length out) (hm : ∀ q, memL s q ↔ hasB a q = true) : ListOf a out := by
  refine ⟨h.norm, fun q h0 h1 => ?_⟩
  rw [Bool.eq_iff_iff, norm_has h.norm, h.mem, List.take_length, hm]
  simp [opB, hasB]
theorem ListOf.mem {a out : List R} (h : ListOf a out) (q : Int) : memL out q ↔ hasB a q = true := by
  constructor
  · intro hm
    have b := norm_mem_lo h.norm hm
    have := h.has q b.1 b.2
    rw [(norm_has h.norm q).2 hm] at this
    simp [opB] at this
    rcases this with this | this
    · exact this
    · simp [hasB] at this
  · intro hh
    have b := ((hasB_iff a q).1 hh).1
    have := h.has q b.1 b.2
    rw [hh] at this
    exact (norm_has h.norm q).1 (this.trans (by simp [opB]))

/-! ### Turns -/
def turnsN (l : List R) : List Int := l.flatMap fun p => [p.1, p.2 + 1]
def odd (n : Nat) : Bool := n % 2 == 1
def par (T : List Int) (q : Int) : Bool := odd (T.countP fun t => decide (t ≤ q))
theorem turns_cons (p : R) (l : List R) : turnsN (p :: l) = p.1 :: (p.2 + 1) :: turnsN l := rfl
theorem turns_len : ∀ l : List R, (turnsN l).length = l.length * 2
  | [] => rfl
  | p :: l => by rw [turns_cons, List.length_cons, List.length_cons, turns_len l, List.length_cons]; omega
theorem turns_snoc (l : List R) (p : R) : turnsN (l ++ [p]) = turnsN l ++ [p.1, p.2 + 1] := by simp [turnsN]
theorem turns_bd : ∀ (l : List R) (lo : Int), NormFrom lo l → ∀ t ∈ turnsN l, lo ≤ t ∧ t ≤ 1114112
  | [], _, _, t, h => by cases h
  | p :: l, lo, h, t, ht => by
    obtain ⟨h1, h2, h3, h4⟩ := h
    rw [turns_cons] at ht
    rcases List.mem_cons.1 ht with rfl | ht
    · omega
    · rcases List.mem_cons.1 ht with rfl | ht
      · omega
      · have := turns_bd l _ h4 t ht; omega
theorem turns_asc : ∀ (l : List R) (lo : Int), NormFrom lo l → (turnsN l).Pairwise (· < ·)
  | [], _, _ => List.Pairwise.nil
  | p :: l, lo, h => by
    obtain ⟨h1, h2, h3, h4⟩ := h
    have hb := turns_bd l _ h4
    rw [turns_cons]
    refine List.pairwise_cons.2 ⟨fun t ht => ?_, List.pairwise_cons.2 ⟨fun t ht => ?_, turns_asc l _ h4⟩⟩
    · rcases List.mem_cons.1 ht with rfl | ht
      · omega
      · have := hb t ht; omega
    · have := hb t ht; omega
theorem odd_succ (n : Nat) : odd (n + 1) = !odd n := by
  unfold odd
  rcases Nat.mod_two_eq_zero_or_one n with h | h
  · have : (n + 1) % 2 = 1 := by omega
    rw [h, this]; rfl
  · have : (n + 1) % 2 = 0 := by omega
    rw [h, this]; rfl
theorem par_none {T : List Int} {q : Int} (h : ∀ t ∈ T, q < t) : par T q = false := by
  unfold par
  rw [List.countP_eq_zero.2 (fun t ht => by have := h t ht; simp; omega)]; rfl
theorem par_all {T : List Int} {q : Int} (h : ∀ t ∈ T, t ≤ q) : par T q = odd T.length := by
  unfold par
  rw [List.countP_eq_length.2 (fun t ht => by have := h t ht; simp; omega)]
theorem par_cons_le {T : List Int} {t q : Int} (h : t ≤ q) : par (t :: T) q = !par T q := by
  unfold par
  rw [List.countP_cons_of_pos (by simpa using h), odd_succ]
theorem par_snoc_gt {T : List Int} {t q : Int} (h : q < t) : par (T ++ [t]) q = par T q := by
  unfold par
  have e : List.countP (fun t => decide (t ≤ q)) [t] = 0 := List.countP_eq_zero.2 (fun x hx => by simp at hx; subst hx; simp; omega)
  rw [List.countP_append, e]; rfl
theorem par_turns : ∀ (l : List R) (lo q : Int), NormFrom lo l → (par (turnsN l) q = true ↔ memL l q)
  | [], _, q, _ => by
    constructor
    · intro h; cases h
    · intro h; exact absurd h (memL_nil q)
  | p :: l, lo, q, h => by
    obtain ⟨h1, h2, h3, h4⟩ := h
    have ih := par_turns l _ q h4
    have hb := turns_bd l _ h4
    rw [turns_cons, memL_cons]
    by_cases a : q < p.1
    · rw [par_none (fun t ht => by
        rcases List.mem_cons.1 ht with rfl | ht
        · exact a
        · rcases List.mem_cons.1 ht with rfl | ht
          · omega
          · have := hb t ht; omega)]
      constructor
      · intro h; cases h
      · rintro (h | h)
        · omega
        · have := norm_mem_lo h4 h; omega
    · rw [par_cons_le (by omega)]
      by_cases b : q < p.2 + 1
      · rw [par_none (fun t ht => by
          rcases List.mem_cons.1 ht with rfl | ht
          · exact b
          · have := hb t ht; omega)]
        exact ⟨fun _ => .inl (by omega), fun _ => rfl⟩
      · rw [par_cons_le (by omega), Bool.not_not, ih]
        exact ⟨.inr, fun h => by rcases h with h | h; exact absurd h.2 (by omega); exact h⟩
theorem ListOf.par {a out : List R} (h : ListOf a out) (q : Int) : par (turnsN out) q = hasB a q := by
  rw [Bool.eq_iff_iff, par_turns out 0 q h.norm, h.mem]

/-! ### Walking two lists of turns -/
/-- A consumed, A' left; likewise B; out so far. -/
structure WInv (K : Bool → Bool → Bool) (A1 A2 B1 B2 out : List Int) : Prop where
  asc : out.Pairwise (· < ·)
  odd : odd out.length = K (odd A1.length) (odd B1.length)
  lt : ∀ x, (x ∈ A1 ∨ x ∈ B1 ∨ x ∈ out) → ∀ y, (y ∈ A2 ∨ y ∈ B2) → x < y
  par : ∀ q, (∀ y, (y ∈ A2 ∨ y ∈ B2) → q < y) → par out q = K (par A1 q) (par B1 q)
  bd : ∀ x ∈ out, 0 ≤ x ∧ x ≤ 1114112
theorem WInv.start (K : Bool → Bool → Bool) (hK : K false false = false) (A B : List Int) : WInv K [] A [] B [] :=
  ⟨List.Pairwise.nil, hK.symm, (fun x h => by rcases h with h | h | h <;> cases h), (fun q _ => hK.symm), (fun x h => by cases h)⟩
/-- One step: at stands at the head of A or of B, or of both; nothing less stands there. -/
theorem WInv.step {K : Bool → Bool → Bool} {A1 A2 B1 B2 out : List Int} (h : WInv K A1 A2 B1 B2 out) {at_ : Int} {cA cB cO : List Int} {A3 B3 : List Int}
    (hA : A2 = cA ++ A3) (hB : B2 = cB ++ B3) (hcA : cA = [] ∨ cA = [at_]) (hcB : cB = [] ∨ cB = [at_]) (hcO : cO = [] ∨ cO = [at_]) (hin : cA = [at_] ∨ cB = [at_])
    (hA3 : ∀ y ∈ A3, at_ < y) (hB3 : ∀ y ∈ B3, at_ < y) (hb : 0 ≤ at_ ∧ at_ ≤ 1114112)
    (ho : Rg.odd (out ++ cO).length = K (Rg.odd (A1 ++ cA).length) (Rg.odd (B1 ++ cB).length)) : WInv K (A1 ++ cA) A3 (B1 ++ cB) B3 (out ++ cO) := by
  have hat : at_ ∈ A2 ∨ at_ ∈ B2 := by
    rcases hin with h | h
    · exact .inl (by rw [hA, h]; simp)
    · exact .inr (by rw [hB, h]; simp)
  have one : ∀ {c : List Int}, (c = [] ∨ c = [at_]) → ∀ x ∈ c, x = at_ := by
    rintro c (rfl | rfl) x hx
    · cases hx
    · simpa using hx
  have old : ∀ x, (x ∈ A1 ∨ x ∈ B1 ∨ x ∈ out) → x < at_ := fun x hx => h.lt x hx at_ hat
  have all : ∀ x, (x ∈ A1 ++ cA ∨ x ∈ B1 ++ cB ∨ x ∈ out ++ cO) → x ≤ at_ := by
    intro x hx
    simp only [List.mem_append] at hx
    rcases hx with (hx | hx) | (hx | hx) | (hx | hx)
    · have := old x (.inl hx); omega
    · have := one hcA x hx; omega
    · have := old x (.inr (.inl hx)); omega
    · have := one hcB x hx; omega
    · have := old x (.inr (.inr hx)); omega
    · have := one hcO x hx; omega
  refine ⟨?_, ho, fun x hx y hy => ?_, fun q hq => ?_, fun x hx => ?_⟩
  · rcases hcO with rfl | rfl
    · simpa using h.asc
    · exact List.pairwise_append.2 ⟨h.asc, by simp, fun x hx y hy => by simp at hy; subst hy; exact old x (.inr (.inr hx))⟩
  · have h1 := all x hx
    rcases hy with hy | hy
    · have := hA3 y hy; omega
    · have := hB3 y hy; omega
  · by_cases e : q < at_
    · have hq' : ∀ y, (y ∈ A2 ∨ y ∈ B2) → q < y := by
        intro y hy
        rw [hA, hB] at hy
        simp only [List.mem_append] at hy
        rcases hy with (hy | hy) | (hy | hy)
        · rw [one hcA y hy]; exact e
        · exact hq y (.inl hy)
        · rw [one hcB y hy]; exact e
        · exact hq y (.inr hy)
      have ext : ∀ {X c : List Int}, (c = [] ∨ c = [at_]) → Rg.par (X ++ c) q = Rg.par X q := by
        rintro X c (rfl | rfl)
        · rw [List.append_nil]
        · exact par_snoc_gt e
      rw [ext hcA, ext hcB, ext hcO]
      exact h.par q hq'
    · rw [par_all (T := A1 ++ cA) (fun t ht => by have := all t (.inl ht); omega), par_all (T := B1 ++ cB) (fun t ht => by have := all t (.inr (.inl ht)); omega), par_all (T := out ++ cO) (fun t ht => by have := all t (.inr (.inr ht)); omega)]
      exact ho
  · rcases List.mem_append.1 hx with hx | hx
    · exact h.bd x hx
    · rw [one hcO x hx]; exact hb
theorem WInv.fin {K : Bool → Bool → Bool} {A B out : List Int} (h : WInv K A [] B [] out) (q : Int) : Rg.par out q = K (Rg.par A q) (Rg.par B q) :=
  h.par q (fun y hy => by rcases hy with hy | hy <;> cases hy)

/-! ### The ranges between turns -/
def rangesOf : List Int → List R
  | a :: b :: t => (a, b - 1) :: rangesOf t
  | _ => []
theorem turns_rangesOf : ∀ T : List Int, T.length % 2 = 0 → turnsN (rangesOf T) = T
  | [], _ => rfl
  | [a], h => by simp at h
  | a :: b :: t, h => by
    have ih := turns_rangesOf t (by simp at h; omega)
    show turnsN ((a, b - 1) :: rangesOf t) = _
    rw [turns_cons, ih]
    show a :: (b - 1 + 1) :: t = _
    rw [Int.sub_add_cancel]
theorem norm_rangesOf : ∀ (T : List Int) (lo : Int), T.Pairwise (· < ·) → (∀ t ∈ T, lo ≤ t ∧ t ≤ 1114112) → NormFrom lo (rangesOf T)
  | [], _, _, _ => trivial
  | [a], _, _, _ => trivial
  | a :: b :: t, lo, h, hb => by
    have h1 := List.pairwise_cons.1 h
    have h2 := List.pairwise_cons.1 h1.2
    have ab := h1.1 b (by simp)
    have ha := hb a (by simp)
    have hbb := hb b (by simp)
    refine ⟨ha.1, by show a ≤ b - 1; omega, by show b - 1 ≤ 1114111; omega, norm_rangesOf t _ h2.2 (fun x hx => ?_)⟩
    have := h2.1 x hx
    have := hb x (by simp [hx])
    show b - 1 + 2 ≤ x ∧ _
    omega
theorem made_walk {K : Bool → Bool → Bool} {op : Int} {a b na nb : List R} {out : List Int} (hK : ∀ x y, K x y = opB op x y) (ha : ListOf a na) (hb : ListOf b nb)
    (h : WInv K (turnsN na) [] (turnsN nb) [] out) (hl : out.length % 2 = 0) : Made op a b (rangesOf out) := by
  have hn := norm_rangesOf out 0 h.asc h.bd
  refine ⟨hn, fun q h0 h1 => ?_⟩
  rw [← hK, ← ha.par q, ← hb.par q, ← h.fin q, Bool.eq_iff_iff, norm_has hn, ← par_turns _ 0 q hn, turns_rangesOf out hl]
theorem rangesOf_len : ∀ T : List Int, T.length % 2 = 0 → (rangesOf T).length * 2 = T.length
  | [], _ => rfl
  | [a], h => by simp at h
  | a :: b :: t, h => by
    have ih := rangesOf_len t (by simp at h; omega)
    show ((a, b - 1) :: rangesOf t).length * 2 = _
    simp only [List.length_cons]; omega
theorem rangesOf_take : ∀ (T : List Int) (k : Nat), k * 2 + 1 < T.length → rangesOf (T.take (k * 2 + 2)) = rangesOf (T.take (k * 2)) ++ [(T[k * 2]?.getD 0, T[k * 2 + 1]?.getD 0 - 1)]
  | [], k, h => by simp at h
  | [a], k, h => by simp at h
  | a :: b :: t, 0, h => rfl
  | a :: b :: t, k + 1, h => by
    have ih := rangesOf_take t k (by simp at h; omega)
    have e1 : (k + 1) * 2 + 2 = (k * 2 + 2) + 1 + 1 := by omega
    have e2 : (k + 1) * 2 = k * 2 + 1 + 1 := by omega
    rw [e1, e2]
    show (a, b - 1) :: rangesOf (t.take (k * 2 + 2)) = (a, b - 1) :: (rangesOf (t.take (k * 2))) ++ [(t[k * 2]?.getD 0, t[k * 2 + 1]?.getD 0 - 1)]
    rw [ih]; rfl
end Go.Proofs.YtecmeeobabadeaaGreatDoor.Rg
namespace Go.Proofs.YtecmeeobabadeaaGreatDoor
set_option linter.unusedVariables false
namespace Rg
def check1 (prev : Option Int) (p : R) : Int :=
  if p.1 < 0 ∨ p.2 < 0 ∨ p.1 > 1114111 ∨ p.2 > 1114111 then 1 else if p.1 > p.2 ∨ (∃ h, prev = some h ∧ p.1 - 1 ≤ h) then 4 else 0
def checkF : Option Int → List R → Int
  | _, [] => 0
  | prev, p :: l => if check1 prev p = 0 then checkF (some p.2) l else check1 prev p
def prevAt (l : List R) (k : Nat) : Option Int := if k = 0 then none else some (l[k - 1]?.getD (0, 0)).2
theorem checkF_step (l : List R) (k : Nat) (hk : k < l.length) :
    checkF (prevAt l k) (l.drop k) = if check1 (prevAt l k) (l[k]?.getD (0, 0)) = 0 then checkF (prevAt l (k + 1)) (l.drop (k + 1)) else check1 (prevAt l k) (l[k]?.getD (0, 0)) := by
  rw [List.drop_eq_getElem_cons hk]
  simp only [checkF]
  have e : l[k]?.getD (0, 0) = l[k] := by rw [List.getElem?_eq_getElem hk]; rfl
  rw [e]
  have e2 : prevAt l (k + 1) = some (l[k]).2 := by simp [prevAt, hk]
  rw [e2]
end Rg
end Go.Proofs.YtecmeeobabadeaaGreatDoor
namespace Go.Proofs.YtecmeeobabadeaaGreatDoor.Rg
set_option linter.unusedVariables false
/-- How many of the first n numbers have F. -/
def cnt (F : Int → Bool) : Nat → Int
  | 0 => 0
  | n + 1 => cnt F n + cond (F n) 1 0
end Go.Proofs.YtecmeeobabadeaaGreatDoor.Rg
namespace Go.Proofs.YtecmeeobabadeaaGreatDoor.Rg
set_option linter.unusedVariables false
theorem hasB_out {l : List R} {q : Int} (h : ¬ (0 ≤ q ∧ q ≤ 1114111)) : hasB l q = false := by unfold hasB; rw [decide_eq_false h, Bool.false_and]
theorem opB_ff (op : Int) : opB op false false = false := by simp [opB]
theorem Made.at_ {op : Int} {a b out : List R} (h : Made op a b out) (q : Int) : hasB out q = opB op (hasB a q) (hasB b q) := by
  by_cases hq : 0 ≤ q ∧ q ≤ 1114111
  · exact h.has q hq.1 hq.2
  · rw [hasB_out hq, hasB_out hq, hasB_out hq, opB_ff]
theorem Made.or {a b out : List R} (h : Made 1 a b out) (q : Int) : hasB out q = (hasB a q || hasB b q) := by
  rw [h.at_]; cases hasB a q <;> cases hasB b q <;> rfl
theorem Made.and {a b out : List R} (h : Made 2 a b out) (q : Int) : hasB out q = (hasB a q && hasB b q) := by
  rw [h.at_]; cases hasB a q <;> cases hasB b q <;> rfl
theorem Made.sub {a b out : List R} (h : Made 3 a b out) (q : Int) : hasB out q = (hasB a q && !hasB b q) := by
  rw [h.at_]; cases hasB a q <;> cases hasB b q <;> rfl
theorem ListOf.eq {a out : List R} (h : ListOf a out) (q : Int) : hasB out q = hasB a q := by
  rw [Made.or h]; simp [hasB]
theorem norm_listOf {l : List R} (h : NormL l) : ListOf l l := ⟨h, fun q _ _ => by simp [opB, hasB]⟩
/-! ### Check, and what is normalized -/
def CkFrom : Option Int → List R → Prop
  | none, l => NormFrom 0 l
  | some h, l => NormFrom (h + 2) l
theorem check1_zero {prev : Option Int} {p : R} (hp : ∀ h, prev = some h → 0 ≤ h) (h : check1 prev p = 0) : (∀ h, prev = some h → h + 2 ≤ p.1) ∧ 0 ≤ p.1 ∧ p.1 ≤ p.2 ∧ p.2 ≤ 1114111 := by
  unfold check1 at h
  split at h
  · cases h
  · split at h
    · cases h
    · rename_i h1 h2
      refine ⟨fun x hx => ?_, by omega, by omega, by omega⟩
      have : ¬ p.1 - 1 ≤ x := fun hle => h2 (.inr ⟨x, hx, hle⟩)
      omega
theorem check1_ok {prev : Option Int} {p : R} (h : ∀ h, prev = some h → h + 2 ≤ p.1) (h0 : 0 ≤ p.1) (h1 : p.1 ≤ p.2) (h2 : p.2 ≤ 1114111) : check1 prev p = 0 := by
  unfold check1
  rw [if_neg (by omega), if_neg]
  rintro (h3 | ⟨x, hx, h3⟩)
  · omega
  · have := h x hx; omega
theorem ck_iff : ∀ (l : List R) (prev : Option Int), (∀ h, prev = some h → 0 ≤ h) → (checkF prev l = 0 ↔ CkFrom prev l)
  | [], none, _ => ⟨fun _ => trivial, fun _ => rfl⟩
  | [], some h, _ => ⟨fun _ => trivial, fun _ => rfl⟩
  | p :: l, prev, hp => by
    have ih := ck_iff l (some p.2)
    show (if check1 prev p = 0 then checkF (some p.2) l else check1 prev p) = 0 ↔ _
    by_cases h : check1 prev p = 0
    · rw [if_pos h]
      have hz := check1_zero hp h
      rw [ih (fun x hx => by injection hx with hx; omega)]
      cases prev with
      | none => exact ⟨fun k => ⟨hz.2.1, hz.2.2.1, hz.2.2.2, k⟩, fun k => k.2.2.2⟩
      | some x => exact ⟨fun k => ⟨hz.1 x rfl, hz.2.2.1, hz.2.2.2, k⟩, fun k => k.2.2.2⟩
    · rw [if_neg h]
      refine ⟨fun k => absurd k h, fun k => absurd (check1_ok ?_ ?_ ?_ ?_) h⟩
      · intro x hx; subst hx; exact k.1
      · cases prev with
        | none => exact k.1
        | some x => have := k.1; have := hp x rfl; omega
      · cases prev <;> exact k.2.1
      · cases prev <;> exact k.2.2.1
theorem check_norm (l : List R) : checkF none l = 0 ↔ NormL l := ck_iff l none (fun h hh => by cases hh)
end Go.Proofs.YtecmeeobabadeaaGreatDoor.Rg
namespace Go.Proofs.YtecmeeobabadeaaGreatDoor.Fd
open Go.Proofs.YtecmeeobabadeaaGreatDoor.Rg
set_option linter.unusedVariables false
/-! ### Next -/
/-! ### Close -/
def one (x : Int) : Int × Int := (x, x)
/-- A number is in what is closed just if one of its family is in the set. -/
def clB (l : List R) (q : Int) : Bool := decide (0 ≤ q ∧ q ≤ 1114111) && (fam q).any (hasB l)
end Go.Proofs.YtecmeeobabadeaaGreatDoor.Fd
namespace Go.Proofs.YtecmeeobabadeaaGreatDoor.Br
open Go.Proofs.YtecmeeobabadeaaGreatDoor.Rg
set_option linter.unusedVariables false
/-- The union of items, closed where it is asked, and its complement where it is asked. -/
def BrIs (Xs : List It) (fold neg : Bool) (out : List R) : Prop :=
  ∃ L M, ItsIs Xs L ∧ ListOf L M ∧ NormL out ∧ ∀ q, 0 ≤ q → q ≤ 1114111 → hasB out q = (neg != (if fold = true then Fd.clB M q else hasB M q))
theorem brIs_unique {Xs : List It} {fold neg : Bool} {a b : List R} (h : BrIs Xs fold neg a) (k : BrIs Xs fold neg b) : a = b := by
  obtain ⟨L, M, h1, h2, h3, h4⟩ := h
  obtain ⟨L', M', k1, k2, k3, k4⟩ := k
  obtain rfl := itsIs_unique h1 k1
  obtain rfl := made_unique h2 k2
  exact norm_ext h3 k3 (fun q h0 h1 => by rw [h4 q h0 h1, k4 q h0 h1])
theorem brIs_plain {Xs : List It} {L M : List R} (h1 : ItsIs Xs L) (h2 : ListOf L M) : BrIs Xs false false M := ⟨L, M, h1, h2, h2.norm, fun q _ _ => by simp⟩
theorem brIs_fold {Xs : List It} {L M out : List R} (h1 : ItsIs Xs L) (h2 : ListOf L M) (h3 : NormL out) (h4 : ∀ q, hasB out q = Fd.clB M q) : BrIs Xs true false out := ⟨L, M, h1, h2, h3, fun q _ _ => by rw [h4]; simp⟩
theorem brIs_not {Xs : List It} {fold : Bool} {a out : List R} (h : BrIs Xs fold false a) (k : Made 3 [(0, 1114111)] a out) : BrIs Xs fold true out := by
  obtain ⟨L, M, h1, h2, h3, h4⟩ := h
  refine ⟨L, M, h1, h2, k.norm, fun q h0 h5 => ?_⟩
  rw [k.has q h0 h5, h4 q h0 h5]
  have e : hasB [(0, 1114111)] q = true := (hasB_iff _ _).2 ⟨⟨h0, h5⟩, (0, 1114111), by simp, h0, h5⟩
  rw [e]
  generalize (if fold = true then Fd.clB M q else hasB M q) = z
  cases z <;> rfl
/-- What an item says lies in bounds. -/
def ItOk : It → Prop
  | .cls _ => True
  | .rng lo hi => 0 ≤ lo ∧ lo ≤ hi ∧ hi ≤ 1114111
theorem item_ok (s : ByteArray) (at_ : Nat) (x : It) (next : Nat) (h : item s at_ = .ok x next) : ItOk x := by
  unfold item at h
  dsimp only at h
  split at h
  · unfold colonX at h
    dsimp only at h
    split at h
    · cases h
    split at h
    · cases h
    · cases h; trivial
  split at h
  · split at h
    · cases h; trivial
    · cases h
  split at h
  · cases h
  unfold span at h
  dsimp only at h
  have hb := Utf.bytes_drop (Utf.nums_bytes s)
  have o1 := one_cases ((Utf.nums s).drop at_) (hb _)
  split at h
  · cases h
  rename_i c
  split at h
  · cases h
    exact ⟨by omega, Int.le_refl _, by omega⟩
  split at h
  · cases h
  split at h
  · cases h
  rename_i c2
  have o2 := one_cases ((Utf.nums s).drop (at_ + (one ((Utf.nums s).drop at_)).2.1.toNat + 1)) (hb _)
  split at h
  · cases h
  · cases h
    exact ⟨by omega, by omega, by omega⟩
theorem itIs_len {X : It} {l : List R} (h : ItIs X l) : l.length ≤ 1114113 := by
  cases X with
  | cls x => have := norm_len l 0 h.1 (by omega); omega
  | rng lo hi => obtain rfl : l = [(lo, hi)] := h; simp
/-- A list of ranges, all of them runes. -/
def Runes (l : List R) : Prop := ∀ p ∈ l, 0 ≤ p.1 ∧ p.2 ≤ 1114111 ∧ p.1 ≤ p.2
theorem runes_norm {l : List R} (h : NormL l) : Runes l := fun p hp => by have := norm_lo l 0 h p hp; omega
theorem itIs_runes {X : It} {l : List R} (ho : ItOk X) (h : ItIs X l) : Runes l := by
  cases X with
  | cls x => exact runes_norm h.1
  | rng lo hi =>
    obtain rfl : l = [(lo, hi)] := h
    intro p hp
    rw [List.mem_singleton] at hp
    subst hp
    exact ⟨ho.1, ho.2.2, ho.2.1⟩
theorem runes_wide {l : List R} (h : Runes l) : Wide64 l := by
  intro p hp
  have := h p hp
  omega
theorem item_ne (s : ByteArray) (at_ : Nat) (o c : Int) (h : item s at_ = .bad o c) : c ≠ 0 := by
  unfold item at h
  dsimp only at h
  split at h
  · unfold colonX at h
    dsimp only at h
    split at h
    · cases h; decide
    split at h
    · cases h; decide
    · cases h
  split at h
  · rename_i hc
    rcases set_cases (s.extract at_ s.size) with ⟨e1, e2, e3⟩ | ⟨y, e1, e2, e3, e4⟩
    · omega
    · rw [e1] at h; cases h
  rename_i hc
  split at h
  · cases h; exact hc
  unfold span at h
  dsimp only at h
  split at h
  · rename_i h9; cases h; exact h9
  split at h
  · cases h
  split at h
  · cases h; decide
  split at h
  · rename_i h9; cases h; exact h9
  split at h
  · cases h; decide
  · cases h
theorem goesOn_len {l : List Int} (h : ¬ goesOn l = false) : 2 ≤ l.length := by
  unfold goesOn at h
  simp at h
  omega
theorem item_bad_bd (s : ByteArray) (at_ : Nat) (o c : Int) (ha : at_ ≤ s.size) (h : item s at_ = .bad o c) : 0 ≤ o ∧ o ≤ s.size := by
  unfold item at h
  dsimp only at h
  split at h
  · unfold colonX at h
    dsimp only at h
    split at h
    · cases h; omega
    split at h
    · cases h; omega
    · cases h
  split at h
  · split at h
    · cases h
    · cases h; omega
  split at h
  · cases h; omega
  unfold span at h
  dsimp only at h
  split at h
  · cases h; omega
  split at h
  · cases h
  rename_i hg
  have h2 := goesOn_len hg
  rw [List.length_drop, nums_len] at h2
  split at h
  · cases h; omega
  split at h
  · cases h; omega
  split at h
  · cases h; omega
  · cases h
theorem items_bad (s : ByteArray) (fs : Nat) : ∀ (f at_ : Nat) (Xs : List It) (o c : Int), items s fs f at_ Xs = .bad o c → 0 ≤ o ∧ o ≤ s.size ∧ c ≠ 0
  | 0, at_, Xs, o, c, h => by cases h; exact ⟨by omega, by omega, by decide⟩
  | f + 1, at_, Xs, o, c, h => by
    unfold items at h
    split at h
    · cases h; exact ⟨by omega, by omega, by decide⟩
    rename_i h1
    split at h
    · cases h
    cases hx : item s at_ with
    | bad o' c' =>
      rw [hx] at h
      cases h
      have := item_bad_bd s at_ o c (by omega) hx
      exact ⟨this.1, this.2, item_ne s at_ o c hx⟩
    | ok x next => rw [hx] at h; exact items_bad s fs f next _ o c h
theorem brack_bad {s : ByteArray} {o c : Int} (h : brack s = .bad o c) : 0 ≤ o ∧ o ≤ s.size ∧ c ≠ 0 := by
  unfold brack at h
  split at h
  · cases h; exact ⟨by omega, by omega, by decide⟩
  · exact items_bad s _ _ _ _ o c h
theorem runes_app {a b : List R} (h : Runes a) (k : Runes b) : Runes (a ++ b) := fun p hp => (List.mem_append.1 hp).elim (h p) (k p)
end Go.Proofs.YtecmeeobabadeaaGreatDoor.Br
namespace Go.Proofs.YtecmeeobabadeaaGreatDoor
open Go.RowKit
set_option linter.unusedVariables false
namespace Td
/-- May a byte stand in a name? -/
def letC (c : Int) : Bool := decide (65 ≤ c ∧ c ≤ 90 ∨ 97 ≤ c ∧ c ≤ 122 ∨ 48 ≤ c ∧ c ≤ 57 ∨ c = 95)
def bytes (s : ByteArray) : List Int := s.data.toList.map (fun b => (b.toNat : Int))
theorem bytes_len (s : ByteArray) : (bytes s).length = s.size := by simp [bytes]
theorem bytes_at (s : ByteArray) (k : Nat) (h : k < s.size) : (bytes s)[k]? = some (s[k].toNat : Int) := by
  have h' : k < s.data.size := h
  simp only [bytes, List.getElem?_map, Array.getElem?_toList]
  rw [Array.getElem?_eq_getElem h']
  rfl
/-- Is it a name? -/
def nameB (s : ByteArray) : Bool := (bytes s).all letC && decide (1 ≤ s.size ∧ s.size ≤ 32 ∧ ((bytes s).getD 0 0 < 48 ∨ 57 < (bytes s).getD 0 0))
end Td
end Go.Proofs.YtecmeeobabadeaaGreatDoor
namespace Go.Proofs.YtecmeeobabadeaaGreatDoor.Lx
set_option linter.unusedVariables false
/-- A token, without its place. -/
structure Tk where
  kind : Int := 0
  num : Int := 0
  name : ByteArray := ⟨#[]⟩
  mn : Int := 0
  mx : Int := 0
  lazy : Bool := false
  cls : Br.Cls := none
inductive TR where
  | bad (n code : Int)
  | ok (t : Tk) (n : Nat)
def runeT (r : Int) : Tk := { kind := 1, num := r }
def charX (l : List Int) : TR := if (Utf.dec l).1 < 0 then .bad 0 3 else .ok (runeT (Utf.dec l).1) (Utf.dec l).2.toNat
/-- The escapes that are no class and no number. -/
def shortX (c : Int) : Option Tk :=
  if c = 65 then some { kind := 5, num := 1 } else if c = 122 then some { kind := 5, num := 2 } else if c = 98 then some { kind := 5, num := 5 } else
  if c = 66 then some { kind := 5, num := 6 } else if c = 67 then some { kind := 4 } else none
def numX (l : List Int) : TR := if (Br.num l).2.2 = 0 then .ok (runeT (Br.num l).1) (Br.num l).2.1.toNat else .bad 0 (Br.num l).2.2
def setX (s : ByteArray) : TR :=
  if (Br.set s).2.2 = 0 then .ok { kind := 2, cls := (Br.set s).1 } (Br.set s).2.1.toNat else
  if (Br.set s).2.2 = 5 then numX (Utf.nums s) else .bad 0 (Br.set s).2.2
def escX (s : ByteArray) : TR :=
  match shortX ((Utf.nums s)[1]?.getD 0) with
  | some t => .ok t 2
  | none => setX s
def brackX (s : ByteArray) : TR :=
  match Br.brack s with
  | .bad o c => .bad o c
  | .ok _ e => .ok { kind := 13, name := s.extract 0 (e + 1) } (e + 1)
def decB (c : Int) : Bool := decide (48 ≤ c) && decide (c ≤ 57)
def dval (l : List Int) : Int := l.foldl (fun a c => a * 10 + (c - 48)) 0
/-- A number of one to four digits. -/
def cntX (l : List Int) : Option Int := if 1 ≤ l.length ∧ l.length ≤ 4 ∧ l.all decB = true then some (dval l) else none
/-- The numbers between the braces, and the whole length. -/
def bodyX (b : List Int) : Option (Int × Int) :=
  match cntX (b.take (Br.upTo 44 b)) with
  | none => none
  | some lo =>
    if Br.upTo 44 b = b.length then some (lo, lo) else
    if Br.upTo 44 b + 1 = b.length then some (lo, -1) else
    match cntX (b.drop (Br.upTo 44 b + 1)) with
    | none => none
    | some hi => some (lo, hi)
def countsX (l : List Int) : Int × Int × Nat :=
  if Br.upTo 125 (l.drop 1) = (l.drop 1).length then (0, 0, 0) else
  match bodyX ((l.drop 1).take (Br.upTo 125 (l.drop 1))) with
  | none => (0, 0, 0)
  | some (lo, hi) => (lo, hi, Br.upTo 125 (l.drop 1) + 2)
def boundsX (l : List Int) : Int × Int × Nat :=
  if l[0]?.getD 0 = 63 then (0, 1, 1) else if l[0]?.getD 0 = 43 then (1, -1, 1) else if l[0]?.getD 0 = 42 then (0, -1, 1) else countsX l
def repOf (lo hi : Int) (n : Nat) (l : List Int) : TR :=
  if 1000 < lo ∨ 1000 < hi ∨ (hi ≠ -1 ∧ hi < lo) then .bad 0 81 else
  if l[n]?.getD 0 = 63 then .ok { kind := 8, mn := lo, mx := hi, lazy := true } (n + 1) else .ok { kind := 8, mn := lo, mx := hi } n
def repX (l : List Int) : TR := repOf (boundsX l).1 (boundsX l).2.1 (boundsX l).2.2 l
/-- One flag's letter. -/
def flagB (c : Int) : Int := if c = 105 then 1 else if c = 109 then 2 else if c = 115 then 4 else if c = 85 then 8 else 0
def flagsOfX : List Int → Int → Option Int
  | [], a => some a
  | c :: l, a => if flagB c = 0 then none else flagsOfX l (bits .or .i64 a (flagB c))
def flagsX (l : List Int) : Option (Int × Int) :=
  match flagsOfX (l.take (Br.upTo 45 l)) 0, flagsOfX (l.drop (Br.upTo 45 l + 1)) 0 with
  | some a, some c => if l = [] ∨ Br.upTo 45 l + 1 = l.length then none else some (bits .andNot .i64 a c, c)
  | _, _ => none
/-- Where the first colon or closing bracket stands (all, where there is none). -/
def upToC : List Int → Nat
  | [] => 0
  | c :: l => if c = 58 ∨ c = 41 then 0 else upToC l + 1
/-- What stands ahead of a name, if one is begun. -/
def nameAt (l : List Int) : Nat :=
  if l.take 4 = [40, 63, 80, 60] then 4 else if l.take 3 = [40, 63, 60] then 3 else 0
def nameX (s : ByteArray) : Option (ByteArray × Nat) :=
  let l := Utf.nums s
  let p := nameAt l
  if p = 0 then none else
  if Br.upTo 62 (l.drop p) = (l.drop p).length then none else
  if Td.nameB (s.extract p (p + Br.upTo 62 (l.drop p))) = true then some (s.extract p (p + Br.upTo 62 (l.drop p)), p + Br.upTo 62 (l.drop p) + 1) else none
def flagX (l : List Int) : TR :=
  if upToC l = l.length then .bad 0 90 else
  if upToC l = 2 ∧ l[2]?.getD 0 = 58 then .ok { kind := 9 } 3 else
  match flagsX ((l.drop 2).take (upToC l - 2)) with
  | none => .bad 0 90
  | some (a, c) => if l[upToC l]?.getD 0 = 58 then .ok { kind := 9, mn := a, mx := c } (upToC l + 1) else .ok { kind := 10, mn := a, mx := c } (upToC l + 1)
def openX (s : ByteArray) : TR :=
  if ¬ (Utf.nums s)[1]?.getD 0 = 63 then .ok { kind := 9, num := 1 } 1 else
  match nameX s with
  | some (nm, n) => .ok { kind := 9, num := 1, name := nm } n
  | none => flagX (Utf.nums s)
/-- The token at the front of a text, outside of quotations. -/
def tokX (s : ByteArray) : TR :=
  let c := (Utf.nums s)[0]?.getD 0
  if c = 46 then .ok { kind := 3 } 1 else if c = 94 then .ok { kind := 6 } 1 else if c = 36 then .ok { kind := 7 } 1 else
  if c = 41 then .ok { kind := 11 } 1 else if c = 124 then .ok { kind := 12 } 1 else
  if c = 92 then escX s else if c = 91 then brackX s else if c = 40 then openX s else
  if c = 123 then (if (countsX (Utf.nums s)).2.2 = 0 then charX (Utf.nums s) else repX (Utf.nums s)) else
  if c = 42 ∨ c = 43 ∨ c = 63 then repX (Utf.nums s) else charX (Utf.nums s)
inductive LR where
  | bad (at_ code : Int)
  | ok (l : List (Int × Tk))
/-- Does a quotation begin, or end, here? -/
def turnB (q : Bool) (l : List Int) : Bool := decide (l[0]?.getD 0 = 92) && decide (l[1]?.getD 0 = if q then 69 else 81)
/-- All tokens of a text from a place on. -/
def lexF (s : ByteArray) : Nat → Nat → Bool → List (Int × Tk) → LR
  | 0, _, _, _ => .bad 0 0
  | f + 1, at_, q, T =>
    if s.size ≤ at_ then .ok T else
    if turnB q ((Utf.nums s).drop at_) = true then lexF s f (at_ + 2) (!q) T else
    match (if q then charX ((Utf.nums s).drop at_) else tokX (s.extract at_ s.size)) with
    | .bad n c => .bad (at_ + n) c
    | .ok t n => lexF s f (at_ + n) q (T ++ [((at_ : Int), t)])
end Go.Proofs.YtecmeeobabadeaaGreatDoor.Lx
