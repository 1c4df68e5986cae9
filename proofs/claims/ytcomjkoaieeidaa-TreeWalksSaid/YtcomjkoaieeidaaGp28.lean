/- A tree that is small has few nodes: from Great's 'no' to the bounds of All. · A region that draws its order, in a round of a range over a function: as outside of it, where nothing is deferred. · A region that draws its order, all of whose operations but the last only read; the last, behind all others, writes. -/
import Derived.Test.YtcomjkoaieeidaaGp8
import Derived.Test.YtcomjkoaieeidaaGp6
import Derived.Sort.QuietTacIn
import Derived.RangeFuncCalls
namespace Go.Proofs.Ytcomjkoaieeidaa
set_option linter.unusedVariables false
namespace Td
theorem flat_sum_le (f : Nd → List (Nat × Nd)) (g : Nd → Nat) : ∀ (l : List Nd), (∀ m ∈ l, (f m).length ≤ g m) → (l.flatMap f).length ≤ (l.map g).sum
  | [], _ => by simp
  | m :: l, h => by
    have h1 := h m (by simp)
    have h2 := flat_sum_le f g l (fun x hx => h x (List.mem_cons_of_mem _ hx))
    rw [List.flatMap_cons, List.length_append, List.map_cons, List.sum_cons]; omega
theorem all_le_wgt : ∀ (k j d : Nat) (n : Nd), fit k n → (all j d n).length ≤ wgt k n
  | 0, _, _, _, h => h.elim
  | k + 1, 0, _, _, _ => by simp [all]
  | k + 1, j + 1, d, n, h => by
    rw [all, wgt, List.length_cons]
    have := flat_sum_le (all j (d + 1)) (wgt k) (subs n) (fun m hm => all_le_wgt k j (d + 1) m (h.2.2.2 m hm))
    omega
theorem all_small (n : Nd) (most : Int) (hm : most ≤ 1000000) (h : (wgt 40 n : Int) ≤ most ∧ fit 40 n) (d : Nat) : (all 1000 d n).length ≤ 1000000 := by
  have := all_le_wgt 40 1000 d n h.2
  omega
/-- The depth of a tree that is no deeper than k. -/
theorem dep_fit : ∀ (k j : Nat) (n : Nd), fit k n → dep j n ≤ k
  | 0, _, _, h => h.elim
  | k + 1, 0, _, _ => by simp [dep]
  | k + 1, j + 1, n, h => by
    rw [dep]
    have := foldl_max_le ((subs n).map (dep j)) 0 k (fun x hx => by
      obtain ⟨m, hm, rfl⟩ := List.mem_map.1 hx
      exact dep_fit k j m (h.2.2.2 m hm)) (by omega)
    omega
end Td
end Go.Proofs.Ytcomjkoaieeidaa
namespace Go.Proofs.Ytcomjkoaieeidaa
open Go Go.RowKit
set_option linter.unusedVariables false
section
variable {F : Fence} {n : Nat} {P : Program} {ops : Array Oper} {Q : Exit → Act → World → Prop} {md : Region.Mode}
theorem wpIn_round_of {r : Nat} (hro : F.round = none) {o : Oper} (hd : ∀ c, o.op ≠ .defer c) {a : Act} {w : World} {K K' : Act → World → Prop} (hK : ∀ a w, K a w → K' a w) (h : o.wpIn F n P a w K Q) : o.wpIn (F.inRound r) n P a w K' Q := by
  refine Oper.wpIn_mono hK ?_
  unfold Oper.wpIn at h ⊢
  refine ⟨h.1, ?_⟩
  have h2 := h.2
  rw [Oper.semAt_eq _ _ _ hd] at h2 ⊢
  generalize (execOp a.eval o).run P w = x at h2 ⊢
  cases x with
  | ok y w' => cases y <;> exact h2
  | halt y w' => cases y <;> exact h2
theorem wpAnyIn_round {r : Nat} (hro : F.round = none) (hd : ∀ (i : Nat) (o : Oper) c, ops[i]? = some o → o.op ≠ .defer c) : ∀ (fuel : Nat) (listed : Array Bool) (a : Act) (w : World), wpAnyIn F n P md ops Q fuel listed a w → wpAnyIn (F.inRound r) n P md ops Q fuel listed a w
  | 0, listed, a, w, h => h
  | fuel + 1, listed, a, w, h => ⟨h.1, fun i hi => by
    have h2 := h.2 i hi
    unfold wpOpIn at h2 ⊢
    cases ho : ops[i]? with
    | none => rw [ho] at h2; exact wpAnyIn_round hro hd fuel _ a w h2
    | some o =>
      rw [ho] at h2
      dsimp only at h2 ⊢
      by_cases hw : Region.wanted o (yielded ops a.tmps) = true
      · rw [if_pos hw] at h2 ⊢
        exact wpIn_round_of hro (fun c => hd i o c ho) (fun a w h => wpAnyIn_round hro hd fuel _ a w h) h2
      · rw [if_neg hw] at h2 ⊢
        exact ⟨h2.1, wpAnyIn_round hro hd fuel _ _ w h2.2⟩⟩
def noDefer (o : Oper) : Bool := match o.op with | .defer _ => false | _ => true
theorem wpIn_round_quiet_below {r id : Nat} {a : Act} {w : World} {l : List Oper} (hro : F.round = none) (hm : P.follows .mixedOrders = true) (hB : Region.lexB .any l.toArray = true) (hd : l.all noDefer = true)
    (h : wpQuietIn F n P l.toArray (fun w' => ∃ p : GrownTo w, w' = p.W') (fun a' => ∀ w', (∃ p : GrownTo w, w' = p.W') → Q .normal a' w') l a) : (Code.region id l.toArray true).wpIn (F.inRound r) n P Q a w := by
  have hB' := hB
  simp only [Region.lexB, Bool.and_eq_true] at hB'
  refine wpIn_region_any hm (wpAnyIn_round hro (fun i o c ho => ?_) _ _ _ _ (wpAnyIn_of_quiet (Q := fun a' => ∀ w', (∃ p : GrownTo w, w' = p.W') → Q .normal a' w') hro (fun _ w' hw' h => h w' hw') _ _ _ _ ⟨⟨w.drew, below_drewN (Below.refl _ _) 1⟩, rfl⟩ ?_))
  · have hm : o ∈ l := by
      have := Array.mem_of_getElem? ho
      simpa using this
    have := List.all_eq_true.1 hd o hm
    intro e
    unfold noDefer at this
    rw [e] at this
    cases this
  · have := wpAnyQIn_lex (F := F) (n := n) (C := fun w' => ∃ p : GrownTo w, w' = p.W') (md := .any) hB'.1 l 0 (Array.replicate l.toArray.size false) a (by simp) (by simpa using hB'.2) h
    simpa using this
theorem wpIn_quiet_grown {id : Nat} {a : Act} {w : World} {l : List Oper} (hro : F.round = none) (hm : P.follows .mixedOrders = true) (hB : Region.lexB .any l.toArray = true)
    (h : wpQuietIn F n P l.toArray (fun w' => ∃ p : GrownTo w, w' = p.W') (fun a' => ∀ w', (∃ p : GrownTo w, w' = p.W') → Q .normal a' w') l a) : (Code.region id l.toArray true).wpIn F n P Q a w :=
  wpIn_region_quiet (C := fun w' => ∃ p : GrownTo w, w' = p.W') hro hm hB ⟨⟨w.drew, below_drewN (Below.refl _ _) 1⟩, rfl⟩ (by simpa using h)
/-- One operation of the walk, where the fence bars nothing. -/
theorem wide_step {C : World → Prop} {Q : Act → Prop} {a : Act} {o : Oper} {rest : List Oper}
    (h : ∀ K : Act → Prop, (∀ a, wpQuietIn Fence.wide n P ops C Q rest a → K a) → if Region.wanted o (yielded ops a.tmps) then o.quietIn Fence.wide n P a C K else K (a.put o.dst undef)) : wpQuietIn Fence.wide n P ops C Q (o :: rest) a :=
  wpQuietIn_step (fun _ _ _ _ => trivial) h
end
end Go.Proofs.Ytcomjkoaieeidaa
namespace Go.Proofs.Ytcomjkoaieeidaa
open Go Go.RowKit
set_option linter.unusedVariables false
section
variable {F : Fence} {n : Nat} {P : Program} {Q' : Exit → Act → World → Prop} {l : List Oper} {o : Oper}
/-- The operation, its place taken by one that does nothing. -/
def idle (o : Oper) : Oper := { o with op := Op.move (Operand.const (.bool true)) }
def lastB (l : List Oper) (o : Oper) : Bool :=
  o.dst.isNone && o.guard.isNone && ((List.range l.length).all fun i => o.after.any fun (e : Edge) => Region.binds .any e && e.on == i) &&
  (List.range (l ++ [o]).length).all fun i => ((l ++ [o])[i]?.map fun p => p.after.all fun (e : Edge) => decide (e.on < i)).getD true
structure Last (l : List Oper) (o : Oper) : Prop where
  dst : o.dst = none
  guard : o.guard = none
  behind : ∀ i, i < l.length → ∃ e : Edge, e ∈ o.after ∧ Region.binds .any e = true ∧ e.on = i
  down : ∀ (i : Nat) (p : Oper), (l ++ [o])[i]? = some p → ∀ e : Edge, e ∈ p.after → e.on < i
theorem lastB_spec (h : lastB l o = true) : Last l o := by
  unfold lastB at h
  simp only [Bool.and_eq_true] at h
  obtain ⟨⟨⟨h1, h2⟩, h3⟩, h4⟩ := h
  refine ⟨by simpa using h1, by simpa using h2, fun i hi => ?_, fun i p hp e he => ?_⟩
  · have := List.all_eq_true.1 h3 i (List.mem_range.2 hi)
    rw [Array.any_eq_true] at this
    obtain ⟨k, hk, hh⟩ := this
    rw [Bool.and_eq_true] at hh
    exact ⟨_, Array.getElem_mem hk, hh.1, by simpa using hh.2⟩
  · have := List.all_eq_true.1 h4 i (List.mem_range.2 (List.getElem?_eq_some_iff.1 hp).1)
    rw [hp] at this
    simp only [Option.map_some, Option.getD_some] at this
    rw [Array.all_eq_true_iff_forall_mem] at this
    simpa using this e he
theorem idle_at (i : Nat) (hi : i ≠ l.length) : (l ++ [idle o]).toArray[i]? = (l ++ [o]).toArray[i]? := by
  simp only [List.getElem?_toArray]
  rcases Nat.lt_or_ge i l.length with h | h
  · rw [List.getElem?_append_left h, List.getElem?_append_left h]
  · rw [List.getElem?_eq_none (by simp; omega), List.getElem?_eq_none (by simp; omega)]
theorem idle_last : (l ++ [idle o]).toArray[l.length]? = some (idle o) := by simp
theorem last_last : (l ++ [o]).toArray[l.length]? = some o := by simp
theorem idle_yielded (t : Array Value) : yielded (l ++ [idle o]).toArray t = yielded (l ++ [o]).toArray t := by
  funext j
  unfold yielded
  by_cases h : j = l.length
  · subst h
    rw [idle_last, last_last]; rfl
  · rw [idle_at j h]
theorem idle_ready (listed : Array Bool) : Region.ready .any (l ++ [idle o]).toArray listed = Region.ready .any (l ++ [o]).toArray listed := by
  unfold Region.ready
  rw [show (l ++ [idle o]).toArray.size = (l ++ [o]).toArray.size by simp]
  refine List.filter_congr (fun i _ => ?_)
  by_cases h : i = l.length
  · subst h
    rw [idle_last, last_last]; rfl
  · rw [idle_at i h]
/-- While the last isn't listed, something may come up. -/
theorem some_ready (hl : Last l o) (listed : Array Bool) (h : listed.getD l.length true = false) : Region.ready .any (l ++ [o]).toArray listed ≠ [] := by
  have hs : l.length < listed.size := by
    rcases Nat.lt_or_ge l.length listed.size with h1 | h1
    · exact h1
    · rw [Array.getD_eq_getD_getElem?, Array.getElem?_eq_none h1] at h; simp at h
  have key : ∀ k, k ≤ l.length → (∀ j, j < k → listed.getD j true = true) ∨ ∃ j, j < k ∧ listed.getD j true = false ∧ ∀ i, i < j → listed.getD i true = true := by
    intro k
    induction k with
    | zero => intro _; exact .inl (fun j hj => by omega)
    | succ k ih =>
      intro hk
      rcases ih (by omega) with h1 | ⟨j, h1, h2, h3⟩
      · cases hb : listed.getD k true with
        | true => exact .inl (fun j hj => (Nat.lt_or_ge j k).elim (fun h4 => h1 j h4) (fun h4 => by obtain rfl : j = k := (by omega); exact hb))
        | false => exact .inr ⟨k, by omega, hb, h1⟩
      · exact .inr ⟨j, by omega, h2, h3⟩
  have first : ∃ j, j ≤ l.length ∧ listed.getD j true = false ∧ ∀ i, i < j → listed.getD i true = true := by
    rcases key l.length (Nat.le_refl _) with h1 | ⟨j, h1, h2, h3⟩
    · exact ⟨l.length, Nat.le_refl _, h, h1⟩
    · exact ⟨j, by omega, h2, h3⟩
  obtain ⟨j, hj, h1, h2⟩ := first
  intro he
  obtain ⟨p, hp⟩ : ∃ p, (l ++ [o])[j]? = some p := ⟨_, List.getElem?_eq_getElem (by simp; omega)⟩
  have : j ∈ Region.ready .any (l ++ [o]).toArray listed := mem_ready.2 ⟨h1, p, by simpa using hp, fun e hm _ => by
    have hd := hl.down j p hp e hm
    have ht := h2 _ hd
    rw [Array.getD_eq_getD_getElem?, Array.getElem?_eq_getElem (by omega)] at ht ⊢
    simpa using ht⟩
  rw [he] at this; cases this
/-- Behind the last, all is listed. -/
theorem none_ready (hl : Last l o) (listed : Array Bool) (h : l.length ∈ Region.ready .any (l ++ [o]).toArray listed) : Region.ready .any (l ++ [o]).toArray (listed.setIfInBounds l.length true) = [] := by
  obtain ⟨h1, p, hp, h2⟩ := mem_ready.1 h
  rw [last_last] at hp
  cases hp
  have hs : l.length < listed.size := by
    rcases Nat.lt_or_ge l.length listed.size with h3 | h3
    · exact h3
    · rw [Array.getD_eq_getD_getElem?, Array.getElem?_eq_none h3] at h1; simp at h1
  rw [List.eq_nil_iff_forall_not_mem]
  intro i hi
  obtain ⟨h3, q, hq, _⟩ := mem_ready.1 hi
  have hil : i < (l ++ [o]).length := by
    have := (Array.getElem?_eq_some_iff.1 hq).1
    simpa using this
  by_cases e : i = l.length
  · subst e
    rw [Array.getD_eq_getD_getElem?, Array.getElem?_setIfInBounds_self] at h3
    simp [hs] at h3
  · have hne : i < l.length := by simp at hil; omega
    obtain ⟨e9, hm, hb, hon⟩ := hl.behind i hne
    have := h2 e9 hm hb
    rw [hon] at this
    rw [Array.getD_eq_getD_getElem?, Array.getElem?_setIfInBounds_ne (by omega)] at h3
    rw [Array.getD_eq_getD_getElem?] at this
    rw [Array.getElem?_eq_getElem (by omega)] at this h3
    simp at this h3
    rw [this] at h3; cases h3
theorem wpAnyIn_last {C : World → Prop} {Q : Act → Prop} (hro : F.round = none) (hl : Last l o) (hQ : ∀ a w, C w → Q a → o.wpIn F n P a w (fun a' w' => Q' .normal a' w') Q') :
    ∀ (fuel : Nat) (listed : Array Bool) (a : Act) (w : World), listed.getD l.length true = false → C w → wpAnyQIn F n P .any (l ++ [idle o]).toArray C Q fuel listed a → wpAnyIn F n P .any (l ++ [o]).toArray Q' fuel listed a w
  | 0, listed, a, w, hu, hC, h => by
    have := h.1
    rw [idle_ready] at this
    exact absurd this (some_ready hl listed hu)
  | fuel + 1, listed, a, w, hu, hC, h => by
    refine ⟨fun he => absurd he (some_ready hl listed hu), fun i hi => ?_⟩
    have h2 := h.2 i (by rw [idle_ready]; exact hi)
    by_cases e : i = l.length
    · subst e
      have hn := none_ready hl listed hi
      unfold qOpIn at h2
      rw [idle_last] at h2
      dsimp only at h2
      have hw : Region.wanted (idle o) (yielded (l ++ [idle o]).toArray a.tmps) = true := by unfold Region.wanted idle; rw [hl.guard]
      rw [if_pos hw] at h2
      obtain ⟨_, v, _, h3⟩ := h2
      have ha : a.put (idle o).dst v = a := by unfold idle; rw [hl.dst]; rfl
      rw [ha] at h3
      have hq : Q a := by
        cases fuel with
        | zero => exact h3.2
        | succ k => exact h3.1 (by rw [idle_ready]; exact hn)
      unfold wpOpIn
      rw [last_last]
      dsimp only
      have hw2 : Region.wanted o (yielded (l ++ [o]).toArray a.tmps) = true := by unfold Region.wanted; rw [hl.guard]
      rw [if_pos hw2]
      exact Oper.wpIn_mono (fun a' w' h9 => wpAnyIn_done hn h9 fuel) (hQ a w hC hq)
    · have hu2 : (listed.setIfInBounds i true).getD l.length true = false := by rw [getD_set_ne true e]; exact hu
      have h3 := wpOpIn_of_qOpIn (Q' := Q') (K' := fun a' w' => wpAnyIn F n P .any (l ++ [o]).toArray Q' fuel (listed.setIfInBounds i true) a' w') hro hC (fun a' w' hc hk => wpAnyIn_last hro hl hQ fuel _ a' w' hu2 hc hk) h2
      unfold wpOpIn at h3 ⊢
      rw [idle_at i e, idle_yielded] at h3
      exact h3
/-- The region: all but the last by one walk, then the last. -/
theorem wpIn_quiet_last {id : Nat} {a : Act} {w : World} (hro : F.round = none) (hm : P.follows .mixedOrders = true) (hB : Region.lexB .any (l ++ [idle o]).toArray = true) (hl : lastB l o = true)
    (h : wpQuietIn F n P (l ++ [idle o]).toArray (fun w' => ∃ p : GrownTo w, w' = p.W') (fun a' => ∀ w', (∃ p : GrownTo w, w' = p.W') → o.wpIn F n P a' w' (fun a'' w'' => Q' .normal a'' w'') Q') (l ++ [idle o]) a) : (Code.region id (l ++ [o]).toArray true).wpIn F n P Q' a w := by
  have hB' := hB
  simp only [Region.lexB, Bool.and_eq_true] at hB'
  refine wpIn_region_any hm (wpAnyIn_last (Q := fun a' => ∀ w', (∃ p : GrownTo w, w' = p.W') → o.wpIn F n P a' w' (fun a'' w'' => Q' .normal a'' w'') Q') hro (lastB_spec hl) (fun a w hc h => h w hc) _ _ _ _ ?_ ⟨⟨w.drew, below_drewN (Below.refl _ _) 1⟩, rfl⟩ ?_)
  · simp [Array.getD_eq_getD_getElem?]
  · have := wpAnyQIn_lex (F := F) (n := n) (C := fun w' => ∃ p : GrownTo w, w' = p.W') (md := .any) hB'.1 (l ++ [idle o]) 0 (Array.replicate (l ++ [idle o]).toArray.size false) a (by simp) (by simpa using hB'.2) h
    simpa using this
theorem quiet_mono {ops : Array Oper} {C : World → Prop} {Q R : Act → Prop} (hQ : ∀ a, Q a → R a) : ∀ (l : List Oper) (a : Act), wpQuietIn F n P ops C Q l a → wpQuietIn F n P ops C R l a
  | [], a, h => hQ a h
  | o :: l, a, h => by
    unfold wpQuietIn at h ⊢
    refine ⟨h.1, ?_⟩
    have h2 := h.2
    split
    · rename_i hw
      rw [if_pos hw] at h2
      exact Oper.quietIn_mono (fun a h => quiet_mono hQ l a h) h2
    · rename_i hw
      rw [if_neg hw] at h2
      exact quiet_mono hQ l _ h2
theorem wpIn_of_list {z : Oper} {a : Act} {w : World} (hg : z.guard = none) (h : wpListIn F n P #[z] Q' [z] a w) : z.wpIn F n P a w (fun a' w' => Q' .normal a' w') Q' := by
  unfold wpListIn at h
  have hw : Region.wanted z (yielded #[z] a.tmps) = true := by unfold Region.wanted; rw [hg]
  rw [if_pos hw] at h
  exact h
theorem wpIn_quiet_last' {id : Nat} {a : Act} {w : World} {L : List Oper} {z : Oper} (hro : F.round = none) (hm : P.follows .mixedOrders = true) (hz : L.getLast? = some z) (hB : Region.lexB .any (L.dropLast ++ [idle z]).toArray = true) (hl : lastB L.dropLast z = true)
    (h : wpQuietIn F n P (L.dropLast ++ [idle z]).toArray (fun w' => ∃ p : GrownTo w, w' = p.W') (fun a' => ∀ w', (∃ p : GrownTo w, w' = p.W') → wpListIn F n P #[z] Q' [z] a' w') (L.dropLast ++ [idle z]) a) : (Code.region id L.toArray true).wpIn F n P Q' a w := by
  have h9 := wpIn_quiet_last (id := id) (Q' := Q') hro hm hB hl (quiet_mono (fun a' h w' hw' => wpIn_of_list (lastB_spec hl).guard (h w' hw')) _ _ h)
  have e : L.dropLast ++ [z] = L := by
    have hne : L ≠ [] := by rintro rfl; cases hz
    have h1 := List.dropLast_concat_getLast hne
    rw [List.getLast?_eq_some_getLast hne] at hz
    cases hz
    exact h1
  rw [e] at h9
  exact h9
end
end Go.Proofs.Ytcomjkoaieeidaa
