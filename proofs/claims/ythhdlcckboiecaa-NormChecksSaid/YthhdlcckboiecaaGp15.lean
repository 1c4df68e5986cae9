/- The plain mathematics of the landed way: cutting, merging a sorted list, turns and their parity; no program. · The landed ranges: the contracts of inside, Has (with its closure) and Check. · The landed ranges: Check. -/
import Derived.Test.YthhdlcckboiecaaGp1
import Derived.Test.YthhdlcckboiecaaGp2
import Derived.Test.YthhdlcckboiecaaGp9
import Derived.IntWalk
namespace Go.Proofs.Ythhdlcckboiecaa.Rg
theorem memL_nil (q : Int) : ¬ memL [] q := by rintro ⟨p, hp, _⟩; cases hp
/-! ### Merging a list that is sorted by its beginnings -/
structure Srt (s : List R) : Prop where
  ok : ∀ p ∈ s, 0 ≤ p.1 ∧ p.1 ≤ p.2 ∧ p.2 ≤ 1114111
  asc : s.Pairwise fun a b => a.1 ≤ b.1
structure NInv (s : List R) (k : Nat) (out : List R) : Prop where
  norm : NormL out
  mem : ∀ q, memL out q ↔ memL (s.take k) q
  le : ∀ p ∈ out, ∀ y ∈ s.drop k, p.1 ≤ y.1
  len : out.length ≤ k
theorem NInv.start (s : List R) : NInv s 0 [] := ⟨trivial, (fun q => by rw [List.take_zero]), (fun p h => by cases h), Nat.le_refl _⟩
section
variable {s : List R} {k : Nat}
theorem Srt.at_ (h : Srt s) (hk : k < s.length) : 0 ≤ (s[k]?.getD (0, 0)).1 ∧ (s[k]?.getD (0, 0)).1 ≤ (s[k]?.getD (0, 0)).2 ∧ (s[k]?.getD (0, 0)).2 ≤ 1114111 := by
  rw [List.getElem?_eq_getElem hk]; exact h.ok _ (List.getElem_mem hk)
theorem Srt.behind (h : Srt s) (hk : k < s.length) : ∀ y ∈ s.drop (k + 1), (s[k]?.getD (0, 0)).1 ≤ y.1 := by
  intro y hy
  have hd := List.drop_eq_getElem_cons hk
  have := (List.Pairwise.sublist (List.drop_sublist k s) h.asc)
  rw [hd] at this
  rw [List.getElem?_eq_getElem hk]
  exact (List.pairwise_cons.1 this).1 y hy
theorem mem_take_succ (hk : k < s.length) (q : Int) : memL (s.take (k + 1)) q ↔ memL (s.take k) q ∨ ((s[k]?.getD (0, 0)).1 ≤ q ∧ q ≤ (s[k]?.getD (0, 0)).2) := by
  rw [List.take_succ_eq_append_getElem hk, memL_snoc, List.getElem?_eq_getElem hk]; rfl
theorem mem_drop_succ {y : R} (hy : y ∈ s.drop (k + 1)) : y ∈ s.drop k := by
  have : s.drop (k + 1) = (s.drop k).drop 1 := by rw [List.drop_drop]
  rw [this] at hy
  exact List.mem_of_mem_drop hy
theorem NInv.add {out : List R} {x : R} (h : NInv s k out) (hs : Srt s) (hk : k < s.length) (hx : s[k]?.getD (0, 0) = x) (hl : ∀ p ∈ out, p.2 + 2 ≤ x.1) : NInv s (k + 1) (out ++ [x]) := by
  have ha := hs.at_ hk
  have hb := hs.behind hk
  have hm := fun q => mem_take_succ hk q
  rw [hx] at ha hb hm
  obtain ⟨x1, x2⟩ := x
  refine ⟨norm_snoc out 0 _ _ h.norm hl ha.1 ha.2.1 ha.2.2, fun q => ?_, fun p hp y hy => ?_, by rw [List.length_append]; have := h.len; simp; omega⟩
  · rw [memL_snoc, hm, h.mem]
  · rcases List.mem_append.1 hp with hp | hp
    · exact h.le p hp y (mem_drop_succ hy)
    · simp at hp; subst hp; exact hb y hy
theorem NInv.join {ini : List R} {p x : R} (h : NInv s k (ini ++ [p])) (hs : Srt s) (hk : k < s.length) (hx : s[k]?.getD (0, 0) = x) (hl : x.1 ≤ p.2 + 1) : NInv s (k + 1) (ini ++ [(p.1, max p.2 x.2)]) := by
  have ha := hs.at_ hk
  have hb := hs.behind hk
  have hm := fun q => mem_take_succ hk q
  have hle := h.le p (by simp) x (by rw [List.drop_eq_getElem_cons hk, ← hx, List.getElem?_eq_getElem hk]; exact List.mem_cons_self)
  rw [hx] at ha hb hm
  obtain ⟨a1, a2, a3, a4, a5⟩ := norm_unsnoc ini 0 p h.norm
  refine ⟨norm_snoc ini 0 _ _ a1 a2 a3 (by omega) (by omega), fun q => ?_, fun p' hp y hy => ?_, by have := h.len; simpa using by simp at this; omega⟩
  · rw [memL_snoc, hm, ← h.mem, memL_snoc]
    show _ ∨ (p.1 ≤ q ∧ q ≤ max p.2 x.2) ↔ _
    constructor
    · rintro (h | h)
      · exact .inl (.inl h)
      · by_cases e : q ≤ p.2
        · exact .inl (.inr ⟨h.1, e⟩)
        · exact .inr (by omega)
    · rintro ((h | h) | h)
      · exact .inl h
      · exact .inr (by omega)
      · exact .inr (by omega)
  · rcases List.mem_append.1 hp with hp | hp
    · exact h.le p' (by simp [hp]) y (mem_drop_succ hy)
    · simp at hp; subst hp; exact h.le p (by simp) y (mem_drop_succ hy)
theorem NInv.last {ini : List R} {p x : R} (h : NInv s k (ini ++ [p])) (hl : ¬ x.1 ≤ p.2 + 1) : ∀ y ∈ ini ++ [p], y.2 + 2 ≤ x.1 := by
  obtain ⟨a1, a2, a3, a4, a5⟩ := norm_unsnoc ini 0 p h.norm
  intro y hy
  rcases List.mem_append.1 hy with hy | hy
  · have := a2 y hy; omega
  · simp at hy; subst hy; omega
end
/-- The list of the set of a. -/
def ListOf (a out : List R) : Prop := Made 1 a [] out
theorem NInv.made {s a out : List R} (h : NInv s s.length out) (hm : ∀ q, memL s q ↔ hasB a q = true) : ListOf a out := by
  refine ⟨h.norm, fun q h0 h1 => ?_⟩
  rw [Bool.eq_iff_iff, norm_has h.norm, h.mem, List.take_length, hm]
  simp [opB, hasB]
theorem ListOf.mem {a out : List R} (h : ListOf a out) (q : Int) : memL out q ↔ hasB a q = true := by
  constructor
  · intro hm
    have b := norm_mem_lo h.norm hm
    have := h.has q b.1 b.2
    rw [(norm_has h.norm q).2 hm] at this
    simp [opB] at this
    rcases this with this | this
    · exact this
    · simp [hasB] at this
  · intro hh
    have b := ((hasB_iff a q).1 hh).1
    have := h.has q b.1 b.2
    rw [hh] at this
    exact (norm_has h.norm q).1 (this.trans (by simp [opB]))

/-! ### Turns -/
def turnsN (l : List R) : List Int := l.flatMap fun p => [p.1, p.2 + 1]
def odd (n : Nat) : Bool := n % 2 == 1
def par (T : List Int) (q : Int) : Bool := odd (T.countP fun t => decide (t ≤ q))
theorem turns_cons (p : R) (l : List R) : turnsN (p :: l) = p.1 :: (p.2 + 1) :: turnsN l := rfl
theorem turns_bd : ∀ (l : List R) (lo : Int), NormFrom lo l → ∀ t ∈ turnsN l, lo ≤ t ∧ t ≤ 1114112
  | [], _, _, t, h => by cases h
  | p :: l, lo, h, t, ht => by
    obtain ⟨h1, h2, h3, h4⟩ := h
    rw [turns_cons] at ht
    rcases List.mem_cons.1 ht with rfl | ht
    · omega
    · rcases List.mem_cons.1 ht with rfl | ht
      · omega
      · have := turns_bd l _ h4 t ht; omega
theorem odd_succ (n : Nat) : odd (n + 1) = !odd n := by
  unfold odd
  rcases Nat.mod_two_eq_zero_or_one n with h | h
  · have : (n + 1) % 2 = 1 := by omega
    rw [h, this]; rfl
  · have : (n + 1) % 2 = 0 := by omega
    rw [h, this]; rfl
theorem par_none {T : List Int} {q : Int} (h : ∀ t ∈ T, q < t) : par T q = false := by
  unfold par
  rw [List.countP_eq_zero.2 (fun t ht => by have := h t ht; simp; omega)]; rfl
theorem par_all {T : List Int} {q : Int} (h : ∀ t ∈ T, t ≤ q) : par T q = odd T.length := by
  unfold par
  rw [List.countP_eq_length.2 (fun t ht => by have := h t ht; simp; omega)]
theorem par_cons_le {T : List Int} {t q : Int} (h : t ≤ q) : par (t :: T) q = !par T q := by
  unfold par
  rw [List.countP_cons_of_pos (by simpa using h), odd_succ]
theorem par_snoc_gt {T : List Int} {t q : Int} (h : q < t) : par (T ++ [t]) q = par T q := by
  unfold par
  have e : List.countP (fun t => decide (t ≤ q)) [t] = 0 := List.countP_eq_zero.2 (fun x hx => by simp at hx; subst hx; simp; omega)
  rw [List.countP_append, e]; rfl
theorem par_turns : ∀ (l : List R) (lo q : Int), NormFrom lo l → (par (turnsN l) q = true ↔ memL l q)
  | [], _, q, _ => by
    constructor
    · intro h; cases h
    · intro h; exact absurd h (memL_nil q)
  | p :: l, lo, q, h => by
    obtain ⟨h1, h2, h3, h4⟩ := h
    have ih := par_turns l _ q h4
    have hb := turns_bd l _ h4
    rw [turns_cons, memL_cons]
    by_cases a : q < p.1
    · rw [par_none (fun t ht => by
        rcases List.mem_cons.1 ht with rfl | ht
        · exact a
        · rcases List.mem_cons.1 ht with rfl | ht
          · omega
          · have := hb t ht; omega)]
      constructor
      · intro h; cases h
      · rintro (h | h)
        · omega
        · have := norm_mem_lo h4 h; omega
    · rw [par_cons_le (by omega)]
      by_cases b : q < p.2 + 1
      · rw [par_none (fun t ht => by
          rcases List.mem_cons.1 ht with rfl | ht
          · exact b
          · have := hb t ht; omega)]
        exact ⟨fun _ => .inl (by omega), fun _ => rfl⟩
      · rw [par_cons_le (by omega), Bool.not_not, ih]
        exact ⟨.inr, fun h => by rcases h with h | h; exact absurd h.2 (by omega); exact h⟩
theorem ListOf.par {a out : List R} (h : ListOf a out) (q : Int) : par (turnsN out) q = hasB a q := by
  rw [Bool.eq_iff_iff, par_turns out 0 q h.norm, h.mem]

/-! ### Walking two lists of turns -/
/-- A consumed, A' left; likewise B; out so far. -/
structure WInv (K : Bool → Bool → Bool) (A1 A2 B1 B2 out : List Int) : Prop where
  asc : out.Pairwise (· < ·)
  odd : odd out.length = K (odd A1.length) (odd B1.length)
  lt : ∀ x, (x ∈ A1 ∨ x ∈ B1 ∨ x ∈ out) → ∀ y, (y ∈ A2 ∨ y ∈ B2) → x < y
  par : ∀ q, (∀ y, (y ∈ A2 ∨ y ∈ B2) → q < y) → par out q = K (par A1 q) (par B1 q)
  bd : ∀ x ∈ out, 0 ≤ x ∧ x ≤ 1114112
theorem WInv.start (K : Bool → Bool → Bool) (hK : K false false = false) (A B : List Int) : WInv K [] A [] B [] :=
  ⟨List.Pairwise.nil, hK.symm, (fun x h => by rcases h with h | h | h <;> cases h), (fun q _ => hK.symm), (fun x h => by cases h)⟩
/-- One step: at stands at the head of A or of B, or of both; nothing less stands there. -/
theorem WInv.step {K : Bool → Bool → Bool} {A1 A2 B1 B2 out : List Int} (h : WInv K A1 A2 B1 B2 out) {at_ : Int} {cA cB cO : List Int} {A3 B3 : List Int}
    (hA : A2 = cA ++ A3) (hB : B2 = cB ++ B3) (hcA : cA = [] ∨ cA = [at_]) (hcB : cB = [] ∨ cB = [at_]) (hcO : cO = [] ∨ cO = [at_]) (hin : cA = [at_] ∨ cB = [at_])
    (hA3 : ∀ y ∈ A3, at_ < y) (hB3 : ∀ y ∈ B3, at_ < y) (hb : 0 ≤ at_ ∧ at_ ≤ 1114112)
    (ho : Rg.odd (out ++ cO).length = K (Rg.odd (A1 ++ cA).length) (Rg.odd (B1 ++ cB).length)) : WInv K (A1 ++ cA) A3 (B1 ++ cB) B3 (out ++ cO) := by
  have hat : at_ ∈ A2 ∨ at_ ∈ B2 := by
    rcases hin with h | h
    · exact .inl (by rw [hA, h]; simp)
    · exact .inr (by rw [hB, h]; simp)
  have one : ∀ {c : List Int}, (c = [] ∨ c = [at_]) → ∀ x ∈ c, x = at_ := by
    rintro c (rfl | rfl) x hx
    · cases hx
    · simpa using hx
  have old : ∀ x, (x ∈ A1 ∨ x ∈ B1 ∨ x ∈ out) → x < at_ := fun x hx => h.lt x hx at_ hat
  have all : ∀ x, (x ∈ A1 ++ cA ∨ x ∈ B1 ++ cB ∨ x ∈ out ++ cO) → x ≤ at_ := by
    intro x hx
    simp only [List.mem_append] at hx
    rcases hx with (hx | hx) | (hx | hx) | (hx | hx)
    · have := old x (.inl hx); omega
    · have := one hcA x hx; omega
    · have := old x (.inr (.inl hx)); omega
    · have := one hcB x hx; omega
    · have := old x (.inr (.inr hx)); omega
    · have := one hcO x hx; omega
  refine ⟨?_, ho, fun x hx y hy => ?_, fun q hq => ?_, fun x hx => ?_⟩
  · rcases hcO with rfl | rfl
    · simpa using h.asc
    · exact List.pairwise_append.2 ⟨h.asc, by simp, fun x hx y hy => by simp at hy; subst hy; exact old x (.inr (.inr hx))⟩
  · have h1 := all x hx
    rcases hy with hy | hy
    · have := hA3 y hy; omega
    · have := hB3 y hy; omega
  · by_cases e : q < at_
    · have hq' : ∀ y, (y ∈ A2 ∨ y ∈ B2) → q < y := by
        intro y hy
        rw [hA, hB] at hy
        simp only [List.mem_append] at hy
        rcases hy with (hy | hy) | (hy | hy)
        · rw [one hcA y hy]; exact e
        · exact hq y (.inl hy)
        · rw [one hcB y hy]; exact e
        · exact hq y (.inr hy)
      have ext : ∀ {X c : List Int}, (c = [] ∨ c = [at_]) → Rg.par (X ++ c) q = Rg.par X q := by
        rintro X c (rfl | rfl)
        · rw [List.append_nil]
        · exact par_snoc_gt e
      rw [ext hcA, ext hcB, ext hcO]
      exact h.par q hq'
    · rw [par_all (T := A1 ++ cA) (fun t ht => by have := all t (.inl ht); omega), par_all (T := B1 ++ cB) (fun t ht => by have := all t (.inr (.inl ht)); omega), par_all (T := out ++ cO) (fun t ht => by have := all t (.inr (.inr ht)); omega)]
      exact ho
  · rcases List.mem_append.1 hx with hx | hx
    · exact h.bd x hx
    · rw [one hcO x hx]; exact hb
/-! ### The ranges between turns -/
end Go.Proofs.Ythhdlcckboiecaa.Rg
namespace Go.Proofs.Ythhdlcckboiecaa
open Go.RowKit
set_option linter.unusedVariables false
set_option maxRecDepth 100000 in
set_option maxHeartbeats 1000000 in
theorem inside_yes (r : Int) (w : World) (h0 : 0 ≤ r) (h1 : r ≤ 1114111) : Calls Try.prog 59 #[.int .i64 r] w fun e w' => e = .returned (.bool true) ∧ w = w' := by
  go_enter Try.func59, Try.ntmps59
  go_wp2
  go_ret
  exact ⟨rfl, rfl⟩
set_option maxRecDepth 100000 in
set_option maxHeartbeats 1000000 in
theorem inside_no (r : Int) (w : World) (h : ¬ (0 ≤ r ∧ r ≤ 1114111)) : Calls Try.prog 59 #[.int .i64 r] w fun e w' => e = .returned (.bool false) ∧ w = w' := by
  by_cases h0 : 0 ≤ r
  · have h1 : 1114111 < r := by omega
    clear h
    go_enter Try.func59, Try.ntmps59
    go_wp2
    go_ret
    exact ⟨rg_ret_bool (by simp; omega), rfl⟩
  · have h1 : r < 0 := by omega
    clear h
    go_enter Try.func59, Try.ntmps59
    go_wp2
    go_ret
    exact ⟨rfl, rfl⟩



















end Go.Proofs.Ythhdlcckboiecaa
namespace Go.Proofs.Ythhdlcckboiecaa
open Go.RowKit
set_option linter.unusedVariables false
set_option maxRecDepth 100000 in
set_option maxHeartbeats 4000000 in
theorem check_walk (W : World) (a : Option Addr) (n cap : Nat) (l : List (Int × Int)) (hn : l.length = n) (hn2 : n ≤ 8796093022208)
    (hc : ∀ j, j < n → ∃ b off, a = some ⟨b, off, none⟩ ∧ b < W.heap.size ∧ W.cell? ⟨b, off + j * 2, none⟩ = some (.int .i64 (l[j]?.getD (0, 0)).1) ∧ W.cell? ⟨b, off + j * 2 + 1, none⟩ = some (.int .i64 (l[j]?.getD (0, 0)).2)) :
    Calls Try.prog 46 #[.slice a n cap] W fun e w' => e = .returned (.int .i64 (Rg.checkF none l)) ∧ Below W.heap.size W w' := by
  have HN := Lib.hid hn
  have HC := Lib.hid hc
  clear hn hc
  go_enter Try.func46, Try.ntmps46
  go_wp2
  go_loopw [2, 7] (fun R i wr => ∃ k : Nat, k ≤ n ∧ i = .int .i64 k ∧ Hid (Rg.checkF none l = Rg.checkF (Rg.prevAt l k) (l.drop k)) ∧ Hid (∀ j, j < k → 0 ≤ (l[j]?.getD (0, 0)).2 ∧ (l[j]?.getD (0, 0)).2 ≤ 1114111) ∧ Hid (Below W.heap.size W wr)) (fun _ i _ => n - (intOf i).toNat)
  case atStart => exact ⟨0, Nat.zero_le _, rfl, Lib.hid rfl, Lib.hid (fun j hj => absurd hj (Nat.not_lt_zero _)), Lib.hid (Below.refl _ _)⟩
  case round =>
    obtain ⟨k, hk, rfl, HF, HP, HB⟩ := hrel
    by_cases hlt : k < n
    · have HS := Lib.hid (Rg.checkF_step l k (by rw [HN.out]; exact hlt))
      obtain ⟨b, off, rfl, hb, hc1, hc2⟩ := HC.out k hlt
      rw [← HB.out.cell (p := ⟨b, off + k * 2, none⟩) hb] at hc1
      rw [← HB.out.cell (p := ⟨b, off + k * 2 + 1, none⟩) hb] at hc2
      obtain ⟨p, hp⟩ : ∃ p, l[k]?.getD (0, 0) = p := ⟨_, rfl⟩
      have HP2 : Hid (0 ≤ p.2 ∧ p.2 ≤ 1114111 → ∀ j, j < k + 1 → 0 ≤ (l[j]?.getD (0, 0)).2 ∧ (l[j]?.getD (0, 0)).2 ≤ 1114111) := Lib.hid (fun h j hj => by
        by_cases e : j = k
        · rw [e, hp]; exact h
        · exact HP.out j (by omega))
      rw [hp] at hc1 hc2
      rw [hp] at HS
      have hsz := HB.out.size
      clear hp
      obtain ⟨p1, p2⟩ := p
      dsimp only at hc1 hc2
      have HB1 := Lib.hid (HB.out.alloc hsz (.cells #[.int .i64 p1, .int .i64 p2] 42))
      by_cases a1 : p1 < 0 ∨ p2 < 0 ∨ p1 > 1114111 ∨ p2 > 1114111
      · have HE : Hid (Rg.checkF none l = 1) := Lib.hid (by rw [HF.out, HS.out, show Rg.check1 (Rg.prevAt l k) (p1, p2) = 1 from if_pos a1, if_neg (by decide)])
        have HA := Lib.hid a1
        clear a1
        by_cases i1 : 0 ≤ p1 ∧ p1 ≤ 1114111
        · have i2 : ¬ (0 ≤ p2 ∧ p2 ≤ 1114111) := by have := HA.out; omega
          have HI := Lib.hid i2
          obtain ⟨q1, q2⟩ := i1
          clear i2
          go_wp2_with fail
          refine (inside_yes p1 _ q1 q2).mono ?_
          rintro e w1 ⟨rfl, rfl⟩
          go_wp2_with fail
          refine (inside_no p2 _ HI.out).mono ?_
          rintro e w1 ⟨rfl, rfl⟩
          go_wp2
          go_ret
          exact ⟨by rw [HE.out]; rfl, HB1.out⟩
        · have HI := Lib.hid i1
          clear i1
          go_wp2_with fail
          refine (inside_no p1 _ HI.out).mono ?_
          rintro e w1 ⟨rfl, rfl⟩
          go_wp2
          go_ret
          exact ⟨by rw [HE.out]; rfl, HB1.out⟩
      · obtain ⟨q1, q2, q3, q4⟩ : 0 ≤ p1 ∧ 0 ≤ p2 ∧ p1 ≤ 1114111 ∧ p2 ≤ 1114111 := by omega
        have HP3 := Lib.hid (HP2.out ⟨q2, q4⟩)
        by_cases a2 : p1 > p2
        · have HE : Hid (Rg.checkF none l = 4) := Lib.hid (by rw [HF.out, HS.out, show Rg.check1 (Rg.prevAt l k) (p1, p2) = 4 from (if_neg a1).trans (if_pos (.inl a2)), if_neg (by decide)])
          clear a1
          go_wp2_with fail
          refine (inside_yes p1 _ q1 q3).mono ?_
          rintro e w1 ⟨rfl, rfl⟩
          go_wp2_with fail
          refine (inside_yes p2 _ q2 q4).mono ?_
          rintro e w1 ⟨rfl, rfl⟩
          go_wp2
          go_quiet (fail)
          go_wp2
          go_ret
          exact ⟨by rw [HE.out]; rfl, below_drewNr HB1.out _⟩
        · by_cases hkp : 0 < k; rotate_left
          · have hz : Rg.check1 (Rg.prevAt l k) (p1, p2) = 0 := (if_neg a1).trans (if_neg (by rintro (h | ⟨h, h1, h2⟩); exact a2 h; exact absurd h1 (by simp [Rg.prevAt, show k = 0 by omega])))
            have HE : Hid (Rg.checkF none l = Rg.checkF (Rg.prevAt l (k + 1)) (l.drop (k + 1))) := Lib.hid (by rw [HF.out, HS.out, hz, if_pos rfl])
            clear a1 hz
            go_wp2_with fail
            refine (inside_yes p1 _ q1 q3).mono ?_
            rintro e w1 ⟨rfl, rfl⟩
            go_wp2_with fail
            refine (inside_yes p2 _ q2 q4).mono ?_
            rintro e w1 ⟨rfl, rfl⟩
            go_wp2
            have a2' : ¬ p2 < p1 := by omega
            have hkz : ¬ (0 : Int) < (k : Int) := by omega
            go_quiet (fail)
            go_wp2
            go_roundw
            case rel => exact ⟨k + 1, by omega, by go_num, HE, HP3, Lib.hid (below_drewNr HB1.out _)⟩
            case measure => simp [intOf]; omega
          · obtain ⟨j, rfl⟩ : ∃ j, k = j + 1 := ⟨k - 1, by omega⟩
            obtain ⟨b', off', hbb, hb', _, hc4⟩ := HC.out j (by omega)
            injection hbb with hbb; injection hbb with hb1 hb2; subst hb1; subst hb2
            rw [← HB.out.cell (p := ⟨b, off + j * 2 + 1, none⟩) hb] at hc4
            obtain ⟨g1, g2⟩ := HP.out j (by omega)
            obtain ⟨h, hh⟩ : ∃ h, (l[j]?.getD (0, 0)).2 = h := ⟨_, rfl⟩
            have hprev : Rg.prevAt l (j + 1) = some h := by simp only [Rg.prevAt, Nat.add_one_ne_zero, if_false, Nat.add_sub_cancel]; rw [hh]
            rw [hh] at hc4 g1 g2
            rw [hprev] at HS
            clear hh
            by_cases a3 : p1 ≤ h + 1
            · have HE : Hid (Rg.checkF none l = 4) := Lib.hid (by rw [HF.out, hprev, HS.out, show Rg.check1 (some h) (p1, p2) = 4 from (if_neg a1).trans (if_pos (.inr ⟨h, rfl, by show p1 - 1 ≤ h; omega⟩)), if_neg (by decide)])
              clear a1 hprev
              go_wp2_with fail
              refine (inside_yes p1 _ q1 q3).mono ?_
              rintro e w1 ⟨rfl, rfl⟩
              go_wp2_with fail
              refine (inside_yes p2 _ q2 q4).mono ?_
              rintro e w1 ⟨rfl, rfl⟩
              go_wp2
              have a2' : ¬ p2 < p1 := by omega
              have hkz : (0 : Int) < ((j + 1 : Nat) : Int) := by omega
              have hbw : b < wr.heap.size := by omega
              have hj0 : (0 : Int) ≤ (j : Int) := by omega
              have hjn : (j : Int) < (n : Int) := by omega
              have hjN : j < n := by omega
              have hwj : IntKind.i64.wrap (j : Int) = (j : Int) := IntWalk.i64_in _ (by omega)
              have hwh : IntKind.i64.wrap (h + 1) = h + 1 := IntWalk.i64_in _ (by omega)
              go_quiet (fail)
              clear hwj hwh
              go_wp2
              go_ret
              exact ⟨by rw [HE.out]; rfl, below_drewNr HB1.out _⟩
            · have hz : Rg.check1 (some h) (p1, p2) = 0 := (if_neg a1).trans (if_neg (by rintro (h | ⟨h, h1, h2⟩); exact a2 h; injection h1 with h1; subst h1; exact a3 (by simp only at h2; omega)))
              have HE : Hid (Rg.checkF none l = Rg.checkF (Rg.prevAt l (j + 1 + 1)) (l.drop (j + 1 + 1))) := Lib.hid (by rw [HF.out, hprev, HS.out, hz, if_pos rfl])
              clear a1 hz hprev
              go_wp2_with fail
              refine (inside_yes p1 _ q1 q3).mono ?_
              rintro e w1 ⟨rfl, rfl⟩
              go_wp2_with fail
              refine (inside_yes p2 _ q2 q4).mono ?_
              rintro e w1 ⟨rfl, rfl⟩
              go_wp2
              have a2' : ¬ p2 < p1 := by omega
              have hkz : (0 : Int) < ((j + 1 : Nat) : Int) := by omega
              have a3' : ¬ p1 ≤ h + 1 := by omega
              have hbw : b < wr.heap.size := by omega
              have hj0 : (0 : Int) ≤ (j : Int) := by omega
              have hjn : (j : Int) < (n : Int) := by omega
              have hjN : j < n := by omega
              have hwj : IntKind.i64.wrap (j : Int) = (j : Int) := IntWalk.i64_in _ (by omega)
              have hwh : IntKind.i64.wrap (h + 1) = h + 1 := IntWalk.i64_in _ (by omega)
              go_quiet (fail)
              clear hwj hwh
              go_wp2
              go_roundw
              case rel => exact ⟨j + 1 + 1, by omega, by go_num, HE, HP3, Lib.hid (below_drewNr HB1.out _)⟩
              case measure => simp [intOf]; omega
    · obtain rfl : k = n := by omega
      have HE : Hid (Rg.checkF none l = 0) := Lib.hid (by rw [HF.out, List.drop_eq_nil_of_le (by rw [HN.out]; exact Nat.le_refl _)]; rfl)
      go_wp2
      go_ret
      exact ⟨by rw [HE.out]; rfl, HB.out⟩
theorem check_any (W : World) (v : Value) (l : List (Int × Int)) (h : RRow W v l) :
    Calls Try.prog 46 #[v] W fun e w' => e = .returned (.int .i64 (Rg.checkF none l)) ∧ Below W.heap.size W w' := by
  obtain ⟨a, cap, rfl, hl, hw, hc⟩ := h
  exact check_walk W a _ cap l rfl hl hc
end Go.Proofs.Ythhdlcckboiecaa
