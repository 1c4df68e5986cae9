/- A region that draws its order, in a round of a range over a function: as outside of it, where nothing is deferred. · A region that draws its order, all of whose operations but the last only read; the last, behind all others, writes. · burinlaw06.TreeWalks, walked: up to the loop. -/
import Derived.Test.YtcomjkoaieeidaaGp10
import Derived.Sort.QuietTacIn
import Derived.RangeFuncCalls
import Derived.Test.YtcomjkoaieeidaaGp18
import Derived.Test.YtcomjkoaieeidaaGp30
import Derived.Test.YtcomjkoaieeidaaGp19
import Derived.Test.YtcomjkoaieeidaaGp11
import Derived.Test.YtcomjkoaieeidaaGp31
import Derived.Test.YtcomjkoaieeidaaGp21
namespace Go.Proofs.Ytcomjkoaieeidaa
open Go Go.RowKit
set_option linter.unusedVariables false
section
variable {F : Fence} {n : Nat} {P : Program} {ops : Array Oper} {Q : Exit → Act → World → Prop} {md : Region.Mode}
theorem wpIn_round_of {r : Nat} (hro : F.round = none) {o : Oper} (hd : ∀ c, o.op ≠ .defer c) {a : Act} {w : World} {K K' : Act → World → Prop} (hK : ∀ a w, K a w → K' a w) (h : o.wpIn F n P a w K Q) : o.wpIn (F.inRound r) n P a w K' Q := by
  refine Oper.wpIn_mono hK ?_
  unfold Oper.wpIn at h ⊢
  refine ⟨h.1, ?_⟩
  have h2 := h.2
  rw [Oper.semAt_eq _ _ _ hd] at h2 ⊢
  generalize (execOp a.eval o).run P w = x at h2 ⊢
  cases x with
  | ok y w' => cases y <;> exact h2
  | halt y w' => cases y <;> exact h2
theorem wpAnyIn_round {r : Nat} (hro : F.round = none) (hd : ∀ (i : Nat) (o : Oper) c, ops[i]? = some o → o.op ≠ .defer c) : ∀ (fuel : Nat) (listed : Array Bool) (a : Act) (w : World), wpAnyIn F n P md ops Q fuel listed a w → wpAnyIn (F.inRound r) n P md ops Q fuel listed a w
  | 0, listed, a, w, h => h
  | fuel + 1, listed, a, w, h => ⟨h.1, fun i hi => by
    have h2 := h.2 i hi
    unfold wpOpIn at h2 ⊢
    cases ho : ops[i]? with
    | none => rw [ho] at h2; exact wpAnyIn_round hro hd fuel _ a w h2
    | some o =>
      rw [ho] at h2
      dsimp only at h2 ⊢
      by_cases hw : Region.wanted o (yielded ops a.tmps) = true
      · rw [if_pos hw] at h2 ⊢
        exact wpIn_round_of hro (fun c => hd i o c ho) (fun a w h => wpAnyIn_round hro hd fuel _ a w h) h2
      · rw [if_neg hw] at h2 ⊢
        exact ⟨h2.1, wpAnyIn_round hro hd fuel _ _ w h2.2⟩⟩
def noDefer (o : Oper) : Bool := match o.op with | .defer _ => false | _ => true
theorem wpIn_round_quiet_below {r id : Nat} {a : Act} {w : World} {l : List Oper} (hro : F.round = none) (hm : P.follows .mixedOrders = true) (hB : Region.lexB .any l.toArray = true) (hd : l.all noDefer = true)
    (h : wpQuietIn F n P l.toArray (fun w' => ∃ p : GrownTo w, w' = p.W') (fun a' => ∀ w', (∃ p : GrownTo w, w' = p.W') → Q .normal a' w') l a) : (Code.region id l.toArray true).wpIn (F.inRound r) n P Q a w := by
  have hB' := hB
  simp only [Region.lexB, Bool.and_eq_true] at hB'
  refine wpIn_region_any hm (wpAnyIn_round hro (fun i o c ho => ?_) _ _ _ _ (wpAnyIn_of_quiet (Q := fun a' => ∀ w', (∃ p : GrownTo w, w' = p.W') → Q .normal a' w') hro (fun _ w' hw' h => h w' hw') _ _ _ _ ⟨⟨w.drew, below_drewN (Below.refl _ _) 1⟩, rfl⟩ ?_))
  · have hm : o ∈ l := by
      have := Array.mem_of_getElem? ho
      simpa using this
    have := List.all_eq_true.1 hd o hm
    intro e
    unfold noDefer at this
    rw [e] at this
    cases this
  · have := wpAnyQIn_lex (F := F) (n := n) (C := fun w' => ∃ p : GrownTo w, w' = p.W') (md := .any) hB'.1 l 0 (Array.replicate l.toArray.size false) a (by simp) (by simpa using hB'.2) h
    simpa using this
theorem wpIn_quiet_grown {id : Nat} {a : Act} {w : World} {l : List Oper} (hro : F.round = none) (hm : P.follows .mixedOrders = true) (hB : Region.lexB .any l.toArray = true)
    (h : wpQuietIn F n P l.toArray (fun w' => ∃ p : GrownTo w, w' = p.W') (fun a' => ∀ w', (∃ p : GrownTo w, w' = p.W') → Q .normal a' w') l a) : (Code.region id l.toArray true).wpIn F n P Q a w :=
  wpIn_region_quiet (C := fun w' => ∃ p : GrownTo w, w' = p.W') hro hm hB ⟨⟨w.drew, below_drewN (Below.refl _ _) 1⟩, rfl⟩ (by simpa using h)
/-- One operation of the walk, where the fence bars nothing. -/
theorem wide_step {C : World → Prop} {Q : Act → Prop} {a : Act} {o : Oper} {rest : List Oper}
    (h : ∀ K : Act → Prop, (∀ a, wpQuietIn Fence.wide n P ops C Q rest a → K a) → if Region.wanted o (yielded ops a.tmps) then o.quietIn Fence.wide n P a C K else K (a.put o.dst undef)) : wpQuietIn Fence.wide n P ops C Q (o :: rest) a :=
  wpQuietIn_step (fun _ _ _ _ => trivial) h
end
end Go.Proofs.Ytcomjkoaieeidaa
namespace Go.Proofs.Ytcomjkoaieeidaa
open Go Go.RowKit
set_option linter.unusedVariables false
section
variable {F : Fence} {n : Nat} {P : Program} {Q' : Exit → Act → World → Prop} {l : List Oper} {o : Oper}
/-- The operation, its place taken by one that does nothing. -/
def idle (o : Oper) : Oper := { o with op := Op.move (Operand.const (.bool true)) }
def lastB (l : List Oper) (o : Oper) : Bool :=
  o.dst.isNone && o.guard.isNone && ((List.range l.length).all fun i => o.after.any fun (e : Edge) => Region.binds .any e && e.on == i) &&
  (List.range (l ++ [o]).length).all fun i => ((l ++ [o])[i]?.map fun p => p.after.all fun (e : Edge) => decide (e.on < i)).getD true
structure Last (l : List Oper) (o : Oper) : Prop where
  dst : o.dst = none
  guard : o.guard = none
  behind : ∀ i, i < l.length → ∃ e : Edge, e ∈ o.after ∧ Region.binds .any e = true ∧ e.on = i
  down : ∀ (i : Nat) (p : Oper), (l ++ [o])[i]? = some p → ∀ e : Edge, e ∈ p.after → e.on < i
theorem lastB_spec (h : lastB l o = true) : Last l o := by
  unfold lastB at h
  simp only [Bool.and_eq_true] at h
  obtain ⟨⟨⟨h1, h2⟩, h3⟩, h4⟩ := h
  refine ⟨by simpa using h1, by simpa using h2, fun i hi => ?_, fun i p hp e he => ?_⟩
  · have := List.all_eq_true.1 h3 i (List.mem_range.2 hi)
    rw [Array.any_eq_true] at this
    obtain ⟨k, hk, hh⟩ := this
    rw [Bool.and_eq_true] at hh
    exact ⟨_, Array.getElem_mem hk, hh.1, by simpa using hh.2⟩
  · have := List.all_eq_true.1 h4 i (List.mem_range.2 (List.getElem?_eq_some_iff.1 hp).1)
    rw [hp] at this
    simp only [Option.map_some, Option.getD_some] at this
    rw [Array.all_eq_true_iff_forall_mem] at this
    simpa using this e he
theorem idle_at (i : Nat) (hi : i ≠ l.length) : (l ++ [idle o]).toArray[i]? = (l ++ [o]).toArray[i]? := by
  simp only [List.getElem?_toArray]
  rcases Nat.lt_or_ge i l.length with h | h
  · rw [List.getElem?_append_left h, List.getElem?_append_left h]
  · rw [List.getElem?_eq_none (by simp; omega), List.getElem?_eq_none (by simp; omega)]
theorem idle_last : (l ++ [idle o]).toArray[l.length]? = some (idle o) := by simp
theorem last_last : (l ++ [o]).toArray[l.length]? = some o := by simp
theorem idle_yielded (t : Array Value) : yielded (l ++ [idle o]).toArray t = yielded (l ++ [o]).toArray t := by
  funext j
  unfold yielded
  by_cases h : j = l.length
  · subst h
    rw [idle_last, last_last]; rfl
  · rw [idle_at j h]
theorem idle_ready (listed : Array Bool) : Region.ready .any (l ++ [idle o]).toArray listed = Region.ready .any (l ++ [o]).toArray listed := by
  unfold Region.ready
  rw [show (l ++ [idle o]).toArray.size = (l ++ [o]).toArray.size by simp]
  refine List.filter_congr (fun i _ => ?_)
  by_cases h : i = l.length
  · subst h
    rw [idle_last, last_last]; rfl
  · rw [idle_at i h]
/-- While the last isn't listed, something may come up. -/
theorem some_ready (hl : Last l o) (listed : Array Bool) (h : listed.getD l.length true = false) : Region.ready .any (l ++ [o]).toArray listed ≠ [] := by
  have hs : l.length < listed.size := by
    rcases Nat.lt_or_ge l.length listed.size with h1 | h1
    · exact h1
    · rw [Array.getD_eq_getD_getElem?, Array.getElem?_eq_none h1] at h; simp at h
  have key : ∀ k, k ≤ l.length → (∀ j, j < k → listed.getD j true = true) ∨ ∃ j, j < k ∧ listed.getD j true = false ∧ ∀ i, i < j → listed.getD i true = true := by
    intro k
    induction k with
    | zero => intro _; exact .inl (fun j hj => by omega)
    | succ k ih =>
      intro hk
      rcases ih (by omega) with h1 | ⟨j, h1, h2, h3⟩
      · cases hb : listed.getD k true with
        | true => exact .inl (fun j hj => (Nat.lt_or_ge j k).elim (fun h4 => h1 j h4) (fun h4 => by obtain rfl : j = k := (by omega); exact hb))
        | false => exact .inr ⟨k, by omega, hb, h1⟩
      · exact .inr ⟨j, by omega, h2, h3⟩
  have first : ∃ j, j ≤ l.length ∧ listed.getD j true = false ∧ ∀ i, i < j → listed.getD i true = true := by
    rcases key l.length (Nat.le_refl _) with h1 | ⟨j, h1, h2, h3⟩
    · exact ⟨l.length, Nat.le_refl _, h, h1⟩
    · exact ⟨j, by omega, h2, h3⟩
  obtain ⟨j, hj, h1, h2⟩ := first
  intro he
  obtain ⟨p, hp⟩ : ∃ p, (l ++ [o])[j]? = some p := ⟨_, List.getElem?_eq_getElem (by simp; omega)⟩
  have : j ∈ Region.ready .any (l ++ [o]).toArray listed := mem_ready.2 ⟨h1, p, by simpa using hp, fun e hm _ => by
    have hd := hl.down j p hp e hm
    have ht := h2 _ hd
    rw [Array.getD_eq_getD_getElem?, Array.getElem?_eq_getElem (by omega)] at ht ⊢
    simpa using ht⟩
  rw [he] at this; cases this
/-- Behind the last, all is listed. -/
theorem none_ready (hl : Last l o) (listed : Array Bool) (h : l.length ∈ Region.ready .any (l ++ [o]).toArray listed) : Region.ready .any (l ++ [o]).toArray (listed.setIfInBounds l.length true) = [] := by
  obtain ⟨h1, p, hp, h2⟩ := mem_ready.1 h
  rw [last_last] at hp
  cases hp
  have hs : l.length < listed.size := by
    rcases Nat.lt_or_ge l.length listed.size with h3 | h3
    · exact h3
    · rw [Array.getD_eq_getD_getElem?, Array.getElem?_eq_none h3] at h1; simp at h1
  rw [List.eq_nil_iff_forall_not_mem]
  intro i hi
  obtain ⟨h3, q, hq, _⟩ := mem_ready.1 hi
  have hil : i < (l ++ [o]).length := by
    have := (Array.getElem?_eq_some_iff.1 hq).1
    simpa using this
  by_cases e : i = l.length
  · subst e
    rw [Array.getD_eq_getD_getElem?, Array.getElem?_setIfInBounds_self] at h3
    simp [hs] at h3
  · have hne : i < l.length := by simp at hil; omega
    obtain ⟨e9, hm, hb, hon⟩ := hl.behind i hne
    have := h2 e9 hm hb
    rw [hon] at this
    rw [Array.getD_eq_getD_getElem?, Array.getElem?_setIfInBounds_ne (by omega)] at h3
    rw [Array.getD_eq_getD_getElem?] at this
    rw [Array.getElem?_eq_getElem (by omega)] at this h3
    simp at this h3
    rw [this] at h3; cases h3
theorem wpAnyIn_last {C : World → Prop} {Q : Act → Prop} (hro : F.round = none) (hl : Last l o) (hQ : ∀ a w, C w → Q a → o.wpIn F n P a w (fun a' w' => Q' .normal a' w') Q') :
    ∀ (fuel : Nat) (listed : Array Bool) (a : Act) (w : World), listed.getD l.length true = false → C w → wpAnyQIn F n P .any (l ++ [idle o]).toArray C Q fuel listed a → wpAnyIn F n P .any (l ++ [o]).toArray Q' fuel listed a w
  | 0, listed, a, w, hu, hC, h => by
    have := h.1
    rw [idle_ready] at this
    exact absurd this (some_ready hl listed hu)
  | fuel + 1, listed, a, w, hu, hC, h => by
    refine ⟨fun he => absurd he (some_ready hl listed hu), fun i hi => ?_⟩
    have h2 := h.2 i (by rw [idle_ready]; exact hi)
    by_cases e : i = l.length
    · subst e
      have hn := none_ready hl listed hi
      unfold qOpIn at h2
      rw [idle_last] at h2
      dsimp only at h2
      have hw : Region.wanted (idle o) (yielded (l ++ [idle o]).toArray a.tmps) = true := by unfold Region.wanted idle; rw [hl.guard]
      rw [if_pos hw] at h2
      obtain ⟨_, v, _, h3⟩ := h2
      have ha : a.put (idle o).dst v = a := by unfold idle; rw [hl.dst]; rfl
      rw [ha] at h3
      have hq : Q a := by
        cases fuel with
        | zero => exact h3.2
        | succ k => exact h3.1 (by rw [idle_ready]; exact hn)
      unfold wpOpIn
      rw [last_last]
      dsimp only
      have hw2 : Region.wanted o (yielded (l ++ [o]).toArray a.tmps) = true := by unfold Region.wanted; rw [hl.guard]
      rw [if_pos hw2]
      exact Oper.wpIn_mono (fun a' w' h9 => wpAnyIn_done hn h9 fuel) (hQ a w hC hq)
    · have hu2 : (listed.setIfInBounds i true).getD l.length true = false := by rw [getD_set_ne true e]; exact hu
      have h3 := wpOpIn_of_qOpIn (Q' := Q') (K' := fun a' w' => wpAnyIn F n P .any (l ++ [o]).toArray Q' fuel (listed.setIfInBounds i true) a' w') hro hC (fun a' w' hc hk => wpAnyIn_last hro hl hQ fuel _ a' w' hu2 hc hk) h2
      unfold wpOpIn at h3 ⊢
      rw [idle_at i e, idle_yielded] at h3
      exact h3
/-- The region: all but the last by one walk, then the last. -/
theorem wpIn_quiet_last {id : Nat} {a : Act} {w : World} (hro : F.round = none) (hm : P.follows .mixedOrders = true) (hB : Region.lexB .any (l ++ [idle o]).toArray = true) (hl : lastB l o = true)
    (h : wpQuietIn F n P (l ++ [idle o]).toArray (fun w' => ∃ p : GrownTo w, w' = p.W') (fun a' => ∀ w', (∃ p : GrownTo w, w' = p.W') → o.wpIn F n P a' w' (fun a'' w'' => Q' .normal a'' w'') Q') (l ++ [idle o]) a) : (Code.region id (l ++ [o]).toArray true).wpIn F n P Q' a w := by
  have hB' := hB
  simp only [Region.lexB, Bool.and_eq_true] at hB'
  refine wpIn_region_any hm (wpAnyIn_last (Q := fun a' => ∀ w', (∃ p : GrownTo w, w' = p.W') → o.wpIn F n P a' w' (fun a'' w'' => Q' .normal a'' w'') Q') hro (lastB_spec hl) (fun a w hc h => h w hc) _ _ _ _ ?_ ⟨⟨w.drew, below_drewN (Below.refl _ _) 1⟩, rfl⟩ ?_)
  · simp [Array.getD_eq_getD_getElem?]
  · have := wpAnyQIn_lex (F := F) (n := n) (C := fun w' => ∃ p : GrownTo w, w' = p.W') (md := .any) hB'.1 (l ++ [idle o]) 0 (Array.replicate (l ++ [idle o]).toArray.size false) a (by simp) (by simpa using hB'.2) h
    simpa using this
theorem quiet_mono {ops : Array Oper} {C : World → Prop} {Q R : Act → Prop} (hQ : ∀ a, Q a → R a) : ∀ (l : List Oper) (a : Act), wpQuietIn F n P ops C Q l a → wpQuietIn F n P ops C R l a
  | [], a, h => hQ a h
  | o :: l, a, h => by
    unfold wpQuietIn at h ⊢
    refine ⟨h.1, ?_⟩
    have h2 := h.2
    split
    · rename_i hw
      rw [if_pos hw] at h2
      exact Oper.quietIn_mono (fun a h => quiet_mono hQ l a h) h2
    · rename_i hw
      rw [if_neg hw] at h2
      exact quiet_mono hQ l _ h2
theorem wpIn_of_list {z : Oper} {a : Act} {w : World} (hg : z.guard = none) (h : wpListIn F n P #[z] Q' [z] a w) : z.wpIn F n P a w (fun a' w' => Q' .normal a' w') Q' := by
  unfold wpListIn at h
  have hw : Region.wanted z (yielded #[z] a.tmps) = true := by unfold Region.wanted; rw [hg]
  rw [if_pos hw] at h
  exact h
theorem wpIn_quiet_last' {id : Nat} {a : Act} {w : World} {L : List Oper} {z : Oper} (hro : F.round = none) (hm : P.follows .mixedOrders = true) (hz : L.getLast? = some z) (hB : Region.lexB .any (L.dropLast ++ [idle z]).toArray = true) (hl : lastB L.dropLast z = true)
    (h : wpQuietIn F n P (L.dropLast ++ [idle z]).toArray (fun w' => ∃ p : GrownTo w, w' = p.W') (fun a' => ∀ w', (∃ p : GrownTo w, w' = p.W') → wpListIn F n P #[z] Q' [z] a' w') (L.dropLast ++ [idle z]) a) : (Code.region id L.toArray true).wpIn F n P Q' a w := by
  have h9 := wpIn_quiet_last (id := id) (Q' := Q') hro hm hB hl (quiet_mono (fun a' h w' hw' => wpIn_of_list (lastB_spec hl).guard (h w' hw')) _ _ h)
  have e : L.dropLast ++ [z] = L := by
    have hne : L ≠ [] := by rintro rfl; cases hz
    have h1 := List.dropLast_concat_getLast hne
    rw [List.getLast?_eq_some_getLast hne] at hz
    cases hz
    exact h1
  rw [e] at h9
  exact h9
end
end Go.Proofs.Ytcomjkoaieeidaa
namespace Go.Proofs.Ytcomjkoaieeidaa
open Go.RowKit Go.Shelf
attribute [local go_sem] Oper.semAt_some
set_option linter.unusedVariables false
theorem eql_func_nil (w : World) (f : Fn) (ts : Array Value) (vs : Array Value) : (binOp .eql 31 (.func f ts vs) .nilFunc).run Try.prog w = .ok (.bool false) w := by
  have hu : (match Try.prog.underlying 31 with | some (.func _ _ _) => true | _ => false) = true := by kernel_rfl
  have h9 : ∀ d : Nat, (Op.equalIn (d + 1) 31 (.func f ts vs) .nilFunc).run Try.prog w = .ok false w := fun d => by
    split at hu
    · rename_i ps rs v h
      simp [Op.equalIn, run_underlying h]
    · cases hu
  simp only [binOp]
  simp [Op.equal, Op.maxDepth, h9 9999]
theorem RRow.celled {W W' : World} (hs : W.heap.size ≤ W'.heap.size) (hc : ∀ b o v, W.cell? ⟨b, o, none⟩ = some v → W'.cell? ⟨b, o, none⟩ = some v) {v : Value} {l : List (Int × Int)} (h : RRow W v l) : RRow W' v l := by
  obtain ⟨a, cap, h1, h2, h3, h4⟩ := h
  refine ⟨a, cap, h1, h2, h3, fun j hj => ?_⟩
  obtain ⟨b, off, e, hb, c1, c2⟩ := h4 j hj
  exact ⟨b, off, e, by omega, hc _ _ _ c1, hc _ _ _ c2⟩
theorem NdIs.celled {W W' : World} (hs : W.heap.size ≤ W'.heap.size) (hc : ∀ b o v, W.cell? ⟨b, o, none⟩ = some v → W'.cell? ⟨b, o, none⟩ = some v) : ∀ {n : Nd} {cs : List Value}, NdIs W n cs → NdIs W' n cs := by
  intro n cs h
  induction h with
  | mk cs hk hset hname hlen hrow hsub ih =>
    refine .mk cs hk (hset.celled hs hc) hname hlen (fun j hj => ?_) ih
    obtain ⟨b, off, ha, hlt, hl, h8⟩ := hrow j hj
    refine ⟨b, off, ha, by omega, hl, fun i hi => ?_⟩
    have := h8 i hi
    rw [List.getElem?_eq_getElem (by omega)] at this ⊢
    exact hc _ _ _ this
theorem wk_no {all : List (Nat × Nd)} {pre : List (Nat × Nd × List Value)} {x : Nat × Nd × List Value} (h : (pre ++ [x]).map wkP <+: all) : all[pre.length]? = some (wkP x) := by
  obtain ⟨t, ht⟩ := h
  rw [← ht, List.map_append, List.append_assoc, List.getElem?_append_right (by simp)]
  simp
set_option maxRecDepth 100000 in
set_option maxHeartbeats 16000000 in
theorem walkTreeWalks (W : World) (cs : List Value) (n : Nd) (ds : List Value) (m : Nd) (most : Int) (h : NdIs W n cs) (h' : NdIs W m ds) (hm : (Lit.int .i64 most).wf = true) : Calls Try.prog 3 #[.agg cs.toArray, .agg ds.toArray, .int .i64 most] W fun e w' => e = .returned (.bool true) ∧ Below W.heap.size W w' := by
  have mixed : Try.prog.follows .mixedOrders = true := by kernel_rfl
  obtain ⟨W1, hW1⟩ : ∃ W1, (((W.alloc (.cells cs.toArray 25)).alloc (.cells ds.toArray 25)).alloc (.cells #[.int .i64 most] 3)).alloc (.cells #[.bool false] 4) = W1 := ⟨_, rfl⟩
  have hsz : W1.heap.size = W.heap.size + 4 := by rw [← hW1]; simp
  have hb1 : Below W.heap.size W W1 := by rw [← hW1]; exact ((((Below.refl W.heap.size W).alloc (Nat.le_refl _) _).alloc (by simp only [World.size_alloc]; omega) _).alloc (by simp only [World.size_alloc]; omega) _).alloc (by simp only [World.size_alloc]; omega) _
  have hx1 : W1.heap[W.heap.size]? = some (.cells cs.toArray 25 (0, 0)) := by
    rw [← hW1]; exact (Below.heap_alloc _ _ _ (by simp only [World.size_alloc]; omega)).trans ((Below.heap_alloc _ _ _ (by simp only [World.size_alloc]; omega)).trans ((Below.heap_alloc _ _ _ (by simp only [World.size_alloc]; omega)).trans (heap_alloc_new W _)))
  have hy1 : W1.heap[W.heap.size + 1]? = some (.cells ds.toArray 25 (0, 0)) := by
    rw [← hW1]
    have h9 := heap_alloc_new (W.alloc (.cells cs.toArray 25)) (.cells ds.toArray 25)
    rw [World.size_alloc] at h9
    exact (Below.heap_alloc _ _ _ (by simp only [World.size_alloc]; omega)).trans ((Below.heap_alloc _ _ _ (by simp only [World.size_alloc]; omega)).trans h9)
  have hm1 : W1.heap[W.heap.size + 2]? = some (.cells #[.int .i64 most] 3 (0, 0)) := by
    rw [← hW1]
    have h9 := heap_alloc_new ((W.alloc (.cells cs.toArray 25)).alloc (.cells ds.toArray 25)) (.cells #[.int .i64 most] 3)
    rw [World.size_alloc, World.size_alloc] at h9
    exact (Below.heap_alloc _ _ _ (by simp)).trans h9
  have hr1 : Boxed W1 (W.heap.size + 3) 4 (.bool false) := by
    rw [← hW1]
    have h9 := Boxed.new (((W.alloc (.cells cs.toArray 25)).alloc (.cells ds.toArray 25)).alloc (.cells #[.int .i64 most] 3)) 4 (.bool false)
    rwa [World.size_alloc, World.size_alloc, World.size_alloc] at h9
  have HRB := Lib.hid hr1
  have HMB := Lib.hid hm1
  have HN := Lib.hid (h.kept hb1)
  have HM := Lib.hid (h'.kept hb1)
  have HB := Lib.hid hb1
  have HX := Lib.hid hx1
  have HY := Lib.hid hy1
  have HSZ := Lib.hid hsz
  obtain ⟨u0, u1, u2, u3, u4, u5, u6, u7, sa, sc, a, c, hcs, F⟩ := h.form_of
  subst hcs
  obtain ⟨rfl, rfl, rfl, rfl, rfl, rfl, rfl, rfl⟩ := F
  obtain ⟨x0, x1, x2, x3, x4, x5, x6, x7, ta, tc, p, r, hds, G⟩ := h'.form_of
  subst hds
  obtain ⟨rfl, rfl, rfl, rfl, rfl, rfl, rfl, rfl⟩ := G
  have HW1 := Lib.hid hW1
  clear h h' hb1 hx1 hy1 hsz hW1 hm1 hr1
  refine (callsIn_wide (n := 6)).1 ?_
  refine callsIn_of_wp_marks Try.func3 rfl trivial ?_ rfl
  simp only [Try.ntmps3, List.size_toArray, List.length_cons, List.length_nil, Nat.reduceAdd, Nat.reduceSub, Array.replicate_succ, Array.replicate_zero, List.push_toArray, List.append_toArray, List.nil_append, List.cons_append]
  gi_wp2_with fail
  refine ⟨trivial, ?_⟩
  rw [HW1.out]
  refine (callsIn_wide.2 (refGreat_any W1 n _ 300 (by omega) (by omega) HN.out)).mono ?_
  rintro e w2 ⟨b, rfl, hgr, hb2⟩
  have HN2 := Lib.hid (HN.out.kept hb2)
  have HM2 := Lib.hid (HM.out.kept hb2)
  have HX2 := Lib.hid ((hb2.block _ (Array.getElem?_eq_some_iff.1 HX.out).1).trans HX.out)
  have HY2 := Lib.hid ((hb2.block _ (Array.getElem?_eq_some_iff.1 HY.out).1).trans HY.out)
  have HRB2 := Lib.hid (boxed_low HRB.out hb2)
  have HMB2 := Lib.hid ((hb2.block _ (Array.getElem?_eq_some_iff.1 HMB.out).1).trans HMB.out)
  have HB2 := Lib.hid (HB.out.trans (hb2.mono HB.out.size))
  have HGR := Lib.hid hgr
  have HS2 : Hid (W.heap.size + 4 ≤ w2.heap.size) := Lib.hid (by have := hb2.size; rw [HSZ.out] at this; omega)
  clear hb2 hgr
  cases b with
  | true =>
    gi_wp2_with fail
    refine ⟨trivial, ?_⟩
    gi_wp2_with fail
    refine ⟨trivial, ?_⟩
    refine (callsIn_wide.2 (works6_any w2)).mono ?_
    rintro e w3 ⟨rfl, hb3⟩
    have HBW := Lib.hid (HB2.out.trans (hb3.mono HB2.out.size))
    have hrb := boxed_low HRB2.out hb3
    have hrc := hrb.cell
    have hrf := hrb.frozen
    have hc5 := (hrb.set (.bool true)).cell
    have HBZ := Lib.hid (HBW.out.setCell (p := ⟨W.heap.size + 3, 0, none⟩) (by simp) (.bool true))
    clear hb3 hrb
    gi_wp2
    refine ⟨.bool true, ?_, rfl, HBZ.out⟩
    simp [results, Try.f3, go_sem, hc5]
  | false =>
    have b0 := blkc HY2.out 0
    have b1 := blkc HY2.out 1
    have b2 := blkc HY2.out 2
    have b3 := blkc HY2.out 3
    have b4 := blkc HY2.out 4
    have b5 := blkc HY2.out 5
    have b6 := blkc HY2.out 6
    have b7 := blkc HY2.out 7
    simp only [List.getElem?_toArray, List.getElem?_cons_zero, List.getElem?_cons_succ] at b0 b1 b2 b3 b4 b5 b6 b7
    gi_wp2_with fail
    refine ⟨trivial, ?_⟩
    refine (callsIn_wide.2 (refGreat_any w2 m _ 300 (by omega) (by omega) HM2.out)).mono ?_
    rintro e w3 ⟨b, rfl, hgm, hb3⟩
    have HN3 := Lib.hid (HN2.out.kept hb3)
    have HM3 := Lib.hid (HM2.out.kept hb3)
    have HX3 := Lib.hid ((hb3.block _ (Array.getElem?_eq_some_iff.1 HX2.out).1).trans HX2.out)
    have HY3 := Lib.hid ((hb3.block _ (Array.getElem?_eq_some_iff.1 HY2.out).1).trans HY2.out)
    have HRB3 := Lib.hid (boxed_low HRB2.out hb3)
    have HMB3 := Lib.hid ((hb3.block _ (Array.getElem?_eq_some_iff.1 HMB2.out).1).trans HMB2.out)
    have HB3 := Lib.hid (HB2.out.trans (hb3.mono HB2.out.size))
    have HGM := Lib.hid hgm
    have HS3 : Hid (W.heap.size + 4 ≤ w3.heap.size) := Lib.hid (by have := hb3.size; have := HS2.out; omega)
    clear hb3 hgm b0 b1 b2 b3 b4 b5 b6 b7
    cases b with
    | true =>
      gi_wp2_with fail
      refine ⟨trivial, ?_⟩
      refine (callsIn_wide.2 (works6_any w3)).mono ?_
      rintro e w4 ⟨rfl, hb4⟩
      have HBW := Lib.hid (HB3.out.trans (hb4.mono HB3.out.size))
      have hrb := boxed_low HRB3.out hb4
      have hrc := hrb.cell
      have hrf := hrb.frozen
      have hc5 := (hrb.set (.bool true)).cell
      have HBZ := Lib.hid (HBW.out.setCell (p := ⟨W.heap.size + 3, 0, none⟩) (by simp) (.bool true))
      clear hb4 hrb
      gi_wp2
      refine ⟨.bool true, ?_, rfl, HBZ.out⟩
      simp [results, Try.f3, go_sem, hc5]
    | false =>
      have b0 := blkc HX3.out 0
      have b1 := blkc HX3.out 1
      have b2 := blkc HX3.out 2
      have b3 := blkc HX3.out 3
      have b4 := blkc HX3.out 4
      have b5 := blkc HX3.out 5
      have b6 := blkc HX3.out 6
      have b7 := blkc HX3.out 7
      simp only [List.getElem?_toArray, List.getElem?_cons_zero, List.getElem?_cons_succ] at b0 b1 b2 b3 b4 b5 b6 b7
      have HF := Lib.hid (HGR.out (by trivial))
      have HSM := Lib.hid (Td.all_small n 300 (by omega) HF.out 1)
      gi_wp2_with fail
      refine ⟨trivial, ?_⟩
      refine (callsIn_wide.2 (refAll_any 1000 1 w3 w3 (.slice none 0 0) [] n _ (by omega) (Below.refl _ _) (StOwn.nil _) HN3.out (by simpa using HSM.out))).mono ?_
      rintro e w4 ⟨v4, rfl, hown, hg4, hv4⟩
      obtain ⟨L, hL⟩ : ∃ L, Td.all 1000 1 n = L := ⟨_, rfl⟩
      rw [hL] at hown
      simp only [List.nil_append] at hown
      have hLp : 0 < L.length := by rw [← hL]; exact Td.all_len_pos 999 1 n
      obtain ⟨g, capw, c0, rfl, hg0, hgl, h9q⟩ := hown.at 0 hLp
      have hwant : ∀ (j : Nat) (p : Nat × Nd), L[j]? = some p → ∃ cs, w4.cell? ⟨g, j * 9, none⟩ = some (.int .i64 (p.1 : Int)) ∧ NdIs w3 p.2 cs ∧ ∀ q, q < 8 → w4.cell? ⟨g, j * 9 + 1 + q, none⟩ = cs[q]? := fun j p hp => by
        obtain ⟨hj, rfl⟩ := List.getElem?_eq_some_iff.1 hp
        obtain ⟨g', cap', cs, e, _, _, h1, h2, h3⟩ := hown.at j hj
        cases e
        exact ⟨cs, h1, h2, h3⟩
      have hb4 : Below w3.heap.size w3 w4 := ⟨hg4.os, hg4.tape, hg4.output, hg4.size, fun b hb => hg4.block b hb (by simp [Value.ownBlock])⟩
      have HN4 := Lib.hid (HN3.out.kept hb4)
      have HM4 := Lib.hid (HM3.out.kept hb4)
      have HX4 := Lib.hid ((hb4.block _ (Array.getElem?_eq_some_iff.1 HX3.out).1).trans HX3.out)
      have HY4 := Lib.hid ((hb4.block _ (Array.getElem?_eq_some_iff.1 HY3.out).1).trans HY3.out)
      have HRB4 := Lib.hid (boxed_low HRB3.out hb4)
      have HMB4 := Lib.hid ((hb4.block _ (Array.getElem?_eq_some_iff.1 HMB3.out).1).trans HMB3.out)
      have HB4 := Lib.hid (HB3.out.trans (hb4.mono HB3.out.size))
      have HS4 : Hid (W.heap.size + 4 ≤ w4.heap.size) := Lib.hid (by have := hb4.size; have := HS3.out; omega)
      have HWANT := Lib.hid hwant
      have HL := Lib.hid hL
      have HBD4 := Lib.hid hb4
      obtain ⟨N, hN⟩ : ∃ N, L.length = N := ⟨_, rfl⟩
      have HNN := Lib.hid hN
      have HSMN : Hid (N ≤ 1000000) := Lib.hid (by rw [← hN, ← hL]; exact HSM.out)
      have HGL := Lib.hid hgl
      rw [hN]
      clear h9q hwant hb4 hown hg4 hv4 hLp hL hg0 hN hgl b0 b1 b2 b3 b4 b5 b6 b7
      have hxa : ∀ o : Obj, (w4.alloc o).heap[W.heap.size]? = w4.heap[W.heap.size]? := fun o => Below.heap_alloc _ _ _ (by have := HS4.out; omega)
      have b0 := fun o : Obj => blkc ((hxa o).trans HX4.out) 0
      have b1 := fun o : Obj => blkc ((hxa o).trans HX4.out) 1
      have b2 := fun o : Obj => blkc ((hxa o).trans HX4.out) 2
      have b3 := fun o : Obj => blkc ((hxa o).trans HX4.out) 3
      have b4 := fun o : Obj => blkc ((hxa o).trans HX4.out) 4
      have b5 := fun o : Obj => blkc ((hxa o).trans HX4.out) 5
      have b6 := fun o : Obj => blkc ((hxa o).trans HX4.out) 6
      have b7 := fun o : Obj => blkc ((hxa o).trans HX4.out) 7
      simp only [List.getElem?_toArray, List.getElem?_cons_zero, List.getElem?_cons_succ] at b0 b1 b2 b3 b4 b5 b6 b7
      clear hxa
      obtain ⟨w5, hw5⟩ : ∃ w5, w4.alloc (.cells #[.slice (some ⟨g, 0, none⟩) N capw] 28) = w5 := ⟨_, rfl⟩
      have hb5 : Below w4.heap.size w4 w5 := by rw [← hw5]; exact (Below.refl _ w4).alloc (Nat.le_refl _) _
      have hwb : Boxed w5 w4.heap.size 28 (.slice (some ⟨g, 0, none⟩) N capw) := by rw [← hw5]; exact Boxed.new _ _ _
      have HW5 := Lib.hid hw5
      have HB5 := Lib.hid hb5
      have HWB := Lib.hid hwb
      clear hw5 hb5 hwb
      gi_wp2_with fail
      refine ⟨trivial, ?_⟩
      rw [HW5.out]
      refine (callsIn_wide.2 (walk_any w5 n _ (HN4.out.kept HB5.out) HF.out.2)).mono ?_
      rintro e w6 ⟨Bn, cs', rfl, hn6, hx6, hb6⟩
      have hb46 : Below w4.heap.size w4 w6 := HB5.out.trans (hb6.mono HB5.out.size)
      have HN6 := Lib.hid hn6
      have HX6 := Lib.hid hx6
      have HWB6 := Lib.hid (boxed_low HWB.out hb6)
      have HB46 := Lib.hid hb46
      have hs5 : w4.heap.size < w5.heap.size := HWB.out.lt
      have hs6 : w4.heap.size < w6.heap.size := by have := hb6.size; omega
      have HS6 := Lib.hid hs6
      obtain ⟨s, hs⟩ : ∃ s, w6.heap.size = s := ⟨_, rfl⟩
      have HSS := Lib.hid hs
      obtain ⟨w7, hw7⟩ : ∃ w7, w6.alloc (.cells #[.int .i64 0] 3) = w7 := ⟨_, rfl⟩
      have hk7 : Boxed w7 s 3 (.int .i64 0) := by rw [← hw7, ← hs]; exact Boxed.new _ _ _
      have hb7 : Below w6.heap.size w6 w7 := by rw [← hw7]; exact (Below.refl _ w6).alloc (Nat.le_refl _) _
      have hs7 : w7.heap.size = s + 1 := by rw [← hw7, ← hs]; simp
      have HW7 := Lib.hid hw7
      have HK7 := Lib.hid hk7
      have HB7 := Lib.hid hb7
      have HS7 := Lib.hid hs7
      clear hn6 hx6 hb6 hb46 hs5 hs6 hs hw7 hk7 hb7 hs7 b0 b1 b2 b3 b4 b5 b6 b7
      have heql := fun w => eql_func_nil w (.func 18) #[] #[.pointer (some ⟨Bn, 0, none⟩)]
      gi_wp2_with fail
      rw [HW7.out, HSS.out]
      refine range_told rfl (by omega) (gf := 18) (lb := #[.pointer (some ⟨Bn, 0, none⟩)]) rfl trivial (enters_of Try.func18 (by kernel_rfl) rfl)
        (walk1_told w6 w7 5 (s + 3) Bn (by omega) n cs' HF.out.2 HN6.out HX6.out HB7.out (by rw [HS7.out]; omega)) kpA_t (fun X l o o' hl h hc hw => kpA_b (w := w7) (by rw [HS7.out, HSS.out]; omega) (by rw [HS7.out]; omega) X l o o' hl h hc hw) (fun A X l o o' hl hA h hc hw => kfA_b (w := w7) (by rw [HS7.out]; omega) A X l o o' hl hA h hc hw) (Below.refl _ _) (fun _ => rfl)
        (fun pre W' => Boxed W' s 3 (.int .i64 (pre.length : Int)) ∧ Below w6.heap.size w6 W' ∧ (pre.length : Int) ≤ max most 0)
        (fun c pre W' => (c = .exit 0 ∧ Below w6.heap.size w6 W' ∧ ∃ q, pre.length = q + 1 ∧ (q : Int) = max most 0 ∧ Boxed W' s 3 (.int .i64 (q : Int))) ∨ (c = .ret ∧ ¬ pre.map wkP <+: Td.all 1000 1 n))
        ?hI ?hIx ?h0 ?round ?done ?stop
      case hI =>
        rintro pre A B row ⟨h1, h2, h3⟩ hgr hr
        exact ⟨h1.kept hgr (fun e => by have := (hr _ e.symm).1; rw [HS7.out] at this; omega), h2.grown hgr (by have := h2.size; omega) (fun k e => by have := (hr k e).1; rw [HS7.out] at this; rw [HSS.out]; omega), h3⟩
      case hIx =>
        rintro c pre A B row h hgr hr
        rcases h with ⟨h0, h2, q, h3, h4, h1⟩ | h
        · exact .inl ⟨h0, h2.grown hgr (by have := h2.size; omega) (fun k e => by have := (hr k e).1; rw [HS7.out] at this; rw [HSS.out]; omega), q, h3, h4, h1.kept hgr (fun e => by have := (hr _ e.symm).1; rw [HS7.out] at this; omega)⟩
        · exact .inr h
      case h0 => exact ⟨HK7.out, HB7.out, by show (0 : Int) ≤ max most 0; omega⟩
      case round =>
        rintro l pre ⟨d, nx, cx⟩ Wr hl hrec ⟨hk, hbb, hmx⟩ hx hlen
        have hx' : NdIs Wr nx cx := hx
        have hlen' : pre.length < N := by rw [← HNN.out, ← HL.out]; exact hlen
        have hnopre : ∀ p, L[pre.length]? = some p → (d, nx) ≠ p → ¬ (pre ++ [(d, nx, cx)]).map wkP <+: Td.all 1000 1 n := fun p hp hne hpre => by
          have := wk_no hpre
          rw [HL.out, hp] at this
          exact hne (Option.some.inj this).symm
        have hsnoc : (pre ++ [(d, nx, cx)]).length = pre.length + 1 := by simp
        obtain ⟨PR, hPR⟩ : ∃ PR, pre ++ [(d, nx, cx)] = PR := ⟨_, rfl⟩
        rw [hPR] at hnopre hsnoc ⊢
        obtain ⟨j, hj⟩ : ∃ j, pre.length = j := ⟨_, rfl⟩
        rw [hj] at hk hmx hlen' hnopre hsnoc
        obtain ⟨⟨dj, nj⟩, hp⟩ : ∃ p, L[j]? = some p := ⟨_, List.getElem?_eq_getElem (by rw [HNN.out]; exact hlen')⟩
        obtain ⟨wcs, hw0, hwn, hwc⟩ := HWANT.out j _ hp
        have hfj : Td.fit 40 nj := by
          have hm := List.mem_of_getElem? hp
          rw [← HL.out] at hm
          exact Td.all_fit 1000 1 40 n HF.out.2 _ hm
        have hno := hnopre _ hp
        clear hnopre hp hPR hj hlen
        dsimp only at hw0 hwn
        have hlw : l < Wr.heap.size := by obtain ⟨r, hr⟩ := hrec; exact (Array.getElem?_eq_some_iff.1 hr).1
        have hl2 : l = s + 2 := by rw [hl, HS7.out]
        have hbs := hbb.size
        rw [HSS.out] at hbs
        obtain ⟨v0, v1, v2, v3, v4, v5, v6, v7, sa', sc', a', c', hcs', F'⟩ := hx'.form_of
        subst hcs'
        obtain ⟨rfl, rfl, rfl, rfl, rfl, rfl, rfl, rfl⟩ := F'
        obtain ⟨z0, z1, z2, z3, z4, z5, z6, z7, sb', sd', b', e', hws', G'⟩ := hwn.form_of
        subst hws'
        obtain ⟨rfl, rfl, rfl, rfl, rfl, rfl, rfl, rfl⟩ := G'
        have HX := Lib.hid hx'
        have HK := Lib.hid hk
        have HBB := Lib.hid hbb
        have HREC := Lib.hid hrec
        have HNO := Lib.hid hno
        have HSN := Lib.hid hsnoc
        have HWN := Lib.hid hwn
        have HW0 := Lib.hid hw0
        have HWC := Lib.hid hwc
        have HFJ : Hid (Td.fit 40 nj) := Lib.hid hfj
        clear hx hx' hk hbb hrec hno hsnoc hwn hw0 hwc hfj hl
        unfold encW
        dsimp only
        gi_wp2
        refine ⟨⟨by simp, fun k o _ hk ho => (Below.heap_alloc _ _ _ (Array.getElem?_eq_some_iff.1 hk).1).trans hk⟩, fun o ho1 ho2 => ?_⟩
        obtain ⟨V, hV⟩ : ∃ V, (Wr.alloc (.cells #[.int .i64 (Td.kind nx), .slice sa' (Td.set nx).length sc', .int .i64 (Td.num nx), .string (Td.name nx), .int .i64 (Td.mn nx), .int .i64 (Td.mx nx), .bool (Td.lazy nx), .slice a' (Td.subs nx).length c'] 25)).putObj l o = V := ⟨_, rfl⟩
        have hgV : (Wr.alloc (.cells #[.int .i64 (Td.kind nx), .slice sa' (Td.set nx).length sc', .int .i64 (Td.num nx), .string (Td.name nx), .int .i64 (Td.mn nx), .int .i64 (Td.mx nx), .bool (Td.lazy nx), .slice a' (Td.subs nx).length c'] 25)).grownBy V (some l) := by rw [← hV]; exact grownBy_putObj' _ l o
        have hVs : V.heap.size = Wr.heap.size + 1 := by rw [← hV]; simp
        have hVk : ∀ b, b < Wr.heap.size → b ≠ l → V.heap[b]? = Wr.heap[b]? := fun b hb hne => (hgV.block b (by simp; omega) (fun e => hne (by cases e; rfl))).trans (Below.heap_alloc _ _ _ hb)
        have hVx : V.heap[Wr.heap.size]? = some (.cells #[.int .i64 (Td.kind nx), .slice sa' (Td.set nx).length sc', .int .i64 (Td.num nx), .string (Td.name nx), .int .i64 (Td.mn nx), .int .i64 (Td.mx nx), .bool (Td.lazy nx), .slice a' (Td.subs nx).length c'] 25 (0, 0)) := by
          rw [hgV.block _ (by simp) (fun e => by cases e; omega)]
          exact heap_alloc_new Wr _
        have hVb : Below w6.heap.size w6 V := (HBB.out.alloc HBB.out.size _).grown hgV (by have := HBB.out.size; simp; omega) (fun k e => by cases e; rw [HSS.out]; omega)
        have hVc : ∀ b o v, Wr.cell? ⟨b, o, none⟩ = some v → V.cell? ⟨b, o, none⟩ = some v := fun b o v hc => by
          have hne : b ≠ l := fun e => by
            subst e
            obtain ⟨r, hr⟩ := HREC.out
            simp [World.cell?, hr] at hc
          have hbl : b < Wr.heap.size := by
            rcases Nat.lt_or_ge b Wr.heap.size with h | h
            · exact h
            · simp [World.cell?, Array.getElem?_eq_none h] at hc
          rw [← hc]
          exact cell_of_blk (hVk b hbl hne) o
        have hVn := HX.out.celled (by omega) hVc
        have hVkb : Boxed V s 3 (.int .i64 (j : Int)) := (hVk s (by omega) (by omega)).trans HK.out
        have hVf : KfA (s + 3) Wr V := ⟨by omega, fun k o hk1 hk => (hVk k (Array.getElem?_eq_some_iff.1 hk).1 (by omega)).trans hk⟩
        have hVa : KpA w6.heap.size (s + 3) Wr V := ⟨⟨by rw [← hV]; rfl, by rw [← hV]; rfl, by rw [← hV]; rfl, by omega, fun k hk => hVk k (by rw [HSS.out] at hk; omega) (by rw [HSS.out] at hk; omega)⟩, hVf.own⟩
        have hV4 : Below w4.heap.size w4 V := HB46.out.trans (hVb.mono HB46.out.size)
        have hkc := hVkb.cell
        have hmb := (hV4.block _ (Array.getElem?_eq_some_iff.1 HMB4.out).1).trans HMB4.out
        have hmc : V.cell? ⟨W.heap.size + 2, 0, none⟩ = some (.int .i64 most) := by simp [World.cell?, hmb]
        have HVS := Lib.hid hVs
        have HVX := Lib.hid hVx
        have HVB := Lib.hid hVb
        have HVN := Lib.hid hVn
        have HVKB := Lib.hid hVkb
        have HVF := Lib.hid hVf
        have HVA := Lib.hid hVa
        have HV4 := Lib.hid hV4
        clear hgV hVs hVk hVx hVb hVc hVn hVkb hVf hVa hV4 hmb ho1 ho2
        rw [hV]
        clear hV
        by_cases hge : most ≤ (j : Int)
        · gi_wp2
          exact ⟨KeepsFrom.refl _ _, HVF.out, .inl ⟨rfl, HVB.out, j, HSN.out, by omega, HVKB.out⟩⟩
        have hg4 : g < w4.heap.size := HGL.out
        have hs4V : w4.heap.size ≤ V.heap.size := HV4.out.size
        have hw6V := HVB.out.size
        rw [HSS.out] at hw6V
        have hs46 := HS6.out
        rw [HSS.out] at hs46
        have hVS := HVS.out
        have q0 : ∀ p : GrownTo V, p.W'.cell? ⟨s, 0, none⟩ = some (.int .i64 (j : Int)) := cell_grownTo (w := V) (a := ⟨s, 0, none⟩) HVKB.out.lt hkc
        have q1 : ∀ p : GrownTo V, p.W'.cell? ⟨w4.heap.size, 0, none⟩ = some (.slice (some ⟨g, 0, none⟩) N capw) := cell_grownTo (w := V) (a := ⟨w4.heap.size, 0, none⟩) (by show w4.heap.size < _; omega) ((HVB.out.cell (p := ⟨w4.heap.size, 0, none⟩) HS6.out).trans HWB6.out.cell)
        have q2 : ∀ p : GrownTo V, p.W'.cell? ⟨g, j * 9, none⟩ = some (.int .i64 (dj : Int)) := cell_grownTo (w := V) (a := ⟨g, j * 9, none⟩) (by show g < _; omega) ((HV4.out.cell (p := ⟨g, j * 9, none⟩) hg4).trans HW0.out)
        have qn : ∀ (p : GrownTo V) (q : Nat) (v : Value), q < 8 → [Value.int .i64 (Td.kind nj), .slice sb' (Td.set nj).length sd', .int .i64 (Td.num nj), .string (Td.name nj), .int .i64 (Td.mn nj), .int .i64 (Td.mx nj), .bool (Td.lazy nj), .slice b' (Td.subs nj).length e'][q]? = some v → p.W'.cell? ⟨g, j * 9 + 1 + q, none⟩ = some v := fun p q v hq hv =>
          cell_grownTo (w := V) (a := ⟨g, j * 9 + 1 + q, none⟩) (by show g < _; omega) ((HV4.out.cell (p := ⟨g, j * 9 + 1 + q, none⟩) hg4).trans ((HWC.out q hq).trans hv)) p
        have n0 := fun p => qn p 0 _ (by omega) rfl
        have n1 := fun p => qn p 1 _ (by omega) rfl
        have n2 := fun p => qn p 2 _ (by omega) rfl
        have n3 := fun p => qn p 3 _ (by omega) rfl
        have n4 := fun p => qn p 4 _ (by omega) rfl
        have n5 := fun p => qn p 5 _ (by omega) rfl
        have n6 := fun p => qn p 6 _ (by omega) rfl
        have n7 := fun p => qn p 7 _ (by omega) rfl
        have qx : ∀ (p : GrownTo V) (i : Nat) (v : Value), (#[Value.int .i64 (Td.kind nx), .slice sa' (Td.set nx).length sc', .int .i64 (Td.num nx), .string (Td.name nx), .int .i64 (Td.mn nx), .int .i64 (Td.mx nx), .bool (Td.lazy nx), .slice a' (Td.subs nx).length c'] : Array Value)[i]? = some v → p.W'.cell? ⟨Wr.heap.size, i, none⟩ = some v := fun p i v hv =>
          cell_grownTo (w := V) (a := ⟨Wr.heap.size, i, none⟩) (by show Wr.heap.size < _; omega) ((blkc HVX.out i).trans hv) p
        have x0 := fun p => qx p 0 _ rfl
        have x1 := fun p => qx p 1 _ rfl
        have x2 := fun p => qx p 2 _ rfl
        have x3 := fun p => qx p 3 _ rfl
        have x4 := fun p => qx p 4 _ rfl
        have x5 := fun p => qx p 5 _ rfl
        have x6 := fun p => qx p 6 _ rfl
        have x7 := fun p => qx p 7 _ rfl
        obtain ⟨SB, hSB⟩ : ∃ SB, Td.sameB 50 nx nj = SB := ⟨_, rfl⟩
        have hsame : ∀ p : GrownTo V, Calls Try.prog 8 #[.agg #[.int .i64 (Td.kind nx), .slice sa' (Td.set nx).length sc', .int .i64 (Td.num nx), .string (Td.name nx), .int .i64 (Td.mn nx), .int .i64 (Td.mx nx), .bool (Td.lazy nx), .slice a' (Td.subs nx).length c'], .agg #[.int .i64 (Td.kind nj), .slice sb' (Td.set nj).length sd', .int .i64 (Td.num nj), .string (Td.name nj), .int .i64 (Td.mn nj), .int .i64 (Td.mx nj), .bool (Td.lazy nj), .slice b' (Td.subs nj).length e'], .int .i64 50] p.W' fun e w' => e = .returned (.bool SB) ∧ Below p.W'.heap.size p.W' w' := fun p => by
          have h9 := sameNode_any 50 (by omega) p.W' nx nj _ _ (HVN.out.kept p.h) ((HWN.out.kept (HBD4.out.trans (HV4.out.mono HBD4.out.size))).kept p.h)
          rw [hSB] at h9
          exact h9
        have HSAME := Lib.hid hsame
        have hSBno : SB = false → (d, nx) ≠ (dj, nj) := fun e9 e8 => by
          cases e8
          rw [Td.same_self 40 50 nx HFJ.out (by omega)] at hSB
          rw [← hSB] at e9; cases e9
        have HSBNO := Lib.hid hSBno
        have hjN : (j : Int) < (N : Int) := by omega
        clear qn qx hsame hSB hSBno
        by_cases hd : (d : Int) = (dj : Int)
        · have hdn : ((d : Int) != (dj : Int)) = false := by simp [hd]
          cases SB with
          | false =>
            gi_wp2
            refine wpIn_round_quiet_below rfl (by assumption) (by kernel_rfl) (by kernel_rfl) ?_
            repeat (
              refine wide_step (fun K hK => ?_)
              go_simp
              first
                | (refine hK _ ?_; clear hK K)
                | (apply Exists.intro
                   refine ⟨fun _ => ?_, hK _ ?_⟩
                   (gi_at_call 8; exact callsIn_wide.2 (calls_grownTo (HSAME.out _)))
                   clear hK K))
            refine wpQuietIn_nil ?_
            intro wz hw'
            obtain ⟨⟨wq, hbz⟩, hw''⟩ := hw'
            have hw9 : wz = wq := hw''
            clear hw''
            subst hw9
            clear q0 q1 q2 n0 n1 n2 n3 n4 n5 n6 n7 x0 x1 x2 x3 x4 x5 x6 x7 hkc hmc
            have hz4 : Below w4.heap.size w4 wz := HV4.out.trans (hbz.mono hs4V)
            have hzb := boxed_low HRB4.out hz4
            have hzc := hzb.cell
            have hzf := hzb.frozen
            have HKF : Hid (KfA (s + 3) Wr (wz.setCell ⟨W.heap.size + 3, 0, none⟩ (.bool false))) := Lib.hid ((⟨by have := hbz.size; omega, fun k o hk1 hk => (KfA.of_below hbz).own k o hk1 (HVF.out.own k o hk1 hk)⟩ : KfA (s + 3) Wr wz).set _ _ (by have := HS4.out; show W.heap.size + 3 < _; omega))
            have HKE : Hid (∀ B, KeepsFrom B V (wz.setCell ⟨W.heap.size + 3, 0, none⟩ (.bool false))) := Lib.hid (fun B => (keepsFrom_below hbz).trans ((KeepsOthers.setCell _ _ _).from _))
            have HBAD := Lib.hid (HNO.out (HSBNO.out (by trivial)))
            clear hz4 hzb hbz
            gi_wp2
            exact ⟨HKE.out _, HKF.out, .inr ⟨rfl, HBAD.out⟩⟩
          | true =>
            gi_wp2
            refine wpIn_round_quiet_below rfl (by assumption) (by kernel_rfl) (by kernel_rfl) ?_
            repeat (
              refine wide_step (fun K hK => ?_)
              go_simp
              first
                | (refine hK _ ?_; clear hK K)
                | (apply Exists.intro
                   refine ⟨fun _ => ?_, hK _ ?_⟩
                   (gi_at_call 8; exact callsIn_wide.2 (calls_grownTo (HSAME.out _)))
                   clear hK K))
            refine wpQuietIn_nil ?_
            intro wz hw'
            obtain ⟨⟨wq, hbz⟩, hw''⟩ := hw'
            have hw9 : wz = wq := hw''
            clear hw''
            subst hw9
            clear q0 q1 q2 n0 n1 n2 n3 n4 n5 n6 n7 x0 x1 x2 x3 x4 x5 x6 x7 hkc hmc
            have hzk := boxed_low HVKB.out hbz
            have hzc := hzk.cell
            have hzf := hzk.frozen
            have hw : IntKind.i64.wrap ((j : Int) + 1) = ((j + 1 : Nat) : Int) := by rw [IntKind.wrap_i64]; have := HSMN.out; omega
            have HZK := Lib.hid (hzk.set (.int .i64 ((j + 1 : Nat) : Int)))
            have HKE : Hid (∀ B, KeepsFrom B V (wz.setCell ⟨s, 0, none⟩ (.int .i64 ((j + 1 : Nat) : Int)))) := Lib.hid (fun B => (keepsFrom_below hbz).trans ((KeepsOthers.setCell _ _ _).from _))
            have HKA : Hid (KpA w6.heap.size (s + 3) Wr (wz.setCell ⟨s, 0, none⟩ (.int .i64 ((j + 1 : Nat) : Int)))) := Lib.hid (kpA_t HVA.out (kpA_t (KpA.of_below hbz HVB.out.size) (KpA.set _ _ _ (by rw [HSS.out]; exact Nat.le_refl _) (by show s < _; omega))))
            have HZB : Hid (Below w6.heap.size w6 (wz.setCell ⟨s, 0, none⟩ (.int .i64 ((j + 1 : Nat) : Int)))) := Lib.hid ((HVB.out.trans (hbz.mono HVB.out.size)).setCell (p := ⟨s, 0, none⟩) (by rw [HSS.out]; exact Nat.le_refl _) _)
            clear hzk hbz
            gi_wp2
            exact ⟨HKE.out _, HKA.out, by rw [HSN.out]; exact HZK.out, HZB.out, by rw [HSN.out]; omega⟩
        · have hdn : ((d : Int) != (dj : Int)) = true := by simpa using hd
          gi_wp2
          refine wpIn_round_quiet_below rfl (by assumption) (by kernel_rfl) (by kernel_rfl) ?_
          repeat (
            refine wide_step (fun K hK => ?_)
            go_simp
            first
              | (refine hK _ ?_; clear hK K)
              | (apply Exists.intro
                 refine ⟨fun _ => ?_, hK _ ?_⟩
                 (gi_at_call 8; exact callsIn_wide.2 (calls_grownTo (HSAME.out _)))
                 clear hK K))
          refine wpQuietIn_nil ?_
          intro wz hw'
          obtain ⟨⟨wq, hbz⟩, hw''⟩ := hw'
          have hw9 : wz = wq := hw''
          clear hw''
          subst hw9
          clear q0 q1 q2 n0 n1 n2 n3 n4 n5 n6 n7 x0 x1 x2 x3 x4 x5 x6 x7 hkc hmc
          have hz4 : Below w4.heap.size w4 wz := HV4.out.trans (hbz.mono hs4V)
          have hzb := boxed_low HRB4.out hz4
          have hzc := hzb.cell
          have hzf := hzb.frozen
          have HKF : Hid (KfA (s + 3) Wr (wz.setCell ⟨W.heap.size + 3, 0, none⟩ (.bool false))) := Lib.hid ((⟨by have := hbz.size; omega, fun k o hk1 hk => (KfA.of_below hbz).own k o hk1 (HVF.out.own k o hk1 hk)⟩ : KfA (s + 3) Wr wz).set _ _ (by have := HS4.out; show W.heap.size + 3 < _; omega))
          have HKE : Hid (∀ B, KeepsFrom B V (wz.setCell ⟨W.heap.size + 3, 0, none⟩ (.bool false))) := Lib.hid (fun B => (keepsFrom_below hbz).trans ((KeepsOthers.setCell _ _ _).from _))
          have HBAD := Lib.hid (HNO.out (fun e => by cases e; exact hd rfl))
          clear hz4 hzb hbz
          gi_wp2
          exact ⟨HKE.out _, HKF.out, .inr ⟨rfl, HBAD.out⟩⟩
      case done =>
        rintro D xs Wd hD hxs ⟨hk, hbb, hmx⟩ hK
        obtain ⟨kk, hkx⟩ : ∃ kk, xs.length = kk := ⟨_, rfl⟩
        rw [hkx] at hk hmx
        have hkn : kk = N := by
          have := congrArg List.length hxs
          rw [List.length_map, HL.out, HNN.out] at this
          omega
        have hkk : (kk : Int) = min (max most 0) (N : Int) := by omega
        rw [HS7.out] at hD
        clear hxs hkx hkn hmx
        have hs4 := HS4.out
        have hs46 := HS6.out
        rw [HSS.out] at hs46
        have hbs := hbb.size
        rw [HSS.out] at hbs
        have hd4 : Below w4.heap.size w4 Wd := HB46.out.trans (hbb.mono HB46.out.size)
        have q0 : ∀ p : GrownTo Wd, p.W'.cell? ⟨s, 0, none⟩ = some (.int .i64 (kk : Int)) := cell_grownTo (w := Wd) (a := ⟨s, 0, none⟩) hk.lt hk.cell
        have hmb := (hd4.block _ (Array.getElem?_eq_some_iff.1 HMB4.out).1).trans HMB4.out
        have q1 : ∀ p : GrownTo Wd, p.W'.cell? ⟨W.heap.size + 2, 0, none⟩ = some (.int .i64 most) := cell_grownTo (w := Wd) (a := ⟨W.heap.size + 2, 0, none⟩) (by show W.heap.size + 2 < _; omega) (by simp [World.cell?, hmb])
        have q2 : ∀ p : GrownTo Wd, p.W'.cell? ⟨w4.heap.size, 0, none⟩ = some (.slice (some ⟨g, 0, none⟩) N capw) := cell_grownTo (w := Wd) (a := ⟨w4.heap.size, 0, none⟩) (by show w4.heap.size < _; omega) ((hbb.cell (p := ⟨w4.heap.size, 0, none⟩) HS6.out).trans HWB6.out.cell)
        have hxd := (hd4.block _ (Array.getElem?_eq_some_iff.1 HX4.out).1).trans HX4.out
        have hyd := (hd4.block _ (Array.getElem?_eq_some_iff.1 HY4.out).1).trans HY4.out
        have qx : ∀ (p : GrownTo Wd) (i : Nat) (v : Value), [Value.int .i64 (Td.kind n), .slice sa (Td.set n).length sc, .int .i64 (Td.num n), .string (Td.name n), .int .i64 (Td.mn n), .int .i64 (Td.mx n), .bool (Td.lazy n), .slice a (Td.subs n).length c][i]? = some v → p.W'.cell? ⟨W.heap.size, i, none⟩ = some v := fun p i v hv =>
          cell_grownTo (w := Wd) (a := ⟨W.heap.size, i, none⟩) (by show W.heap.size < _; omega) ((blkc hxd i).trans (by simpa using hv)) p
        have qy : ∀ (pq : GrownTo Wd) (i : Nat) (v : Value), [Value.int .i64 (Td.kind m), .slice ta (Td.set m).length tc, .int .i64 (Td.num m), .string (Td.name m), .int .i64 (Td.mn m), .int .i64 (Td.mx m), .bool (Td.lazy m), .slice p (Td.subs m).length r][i]? = some v → pq.W'.cell? ⟨W.heap.size + 1, i, none⟩ = some v := fun pq i v hv =>
          cell_grownTo (w := Wd) (a := ⟨W.heap.size + 1, i, none⟩) (by show W.heap.size + 1 < _; omega) ((blkc hyd i).trans (by simpa using hv)) pq
        have x0 := fun p => qx p 0 _ rfl
        have y0 := fun p => qy p 0 _ rfl
        have x1 := fun p => qx p 1 _ rfl
        have y1 := fun p => qy p 1 _ rfl
        have x2 := fun p => qx p 2 _ rfl
        have y2 := fun p => qy p 2 _ rfl
        have x3 := fun p => qx p 3 _ rfl
        have y3 := fun p => qy p 3 _ rfl
        have x4 := fun p => qx p 4 _ rfl
        have y4 := fun p => qy p 4 _ rfl
        have x5 := fun p => qx p 5 _ rfl
        have y5 := fun p => qy p 5 _ rfl
        have x6 := fun p => qx p 6 _ rfl
        have y6 := fun p => qy p 6 _ rfl
        have x7 := fun p => qx p 7 _ rfl
        have y7 := fun p => qy p 7 _ rfl
        obtain ⟨SB, hSB⟩ : ∃ SB, Td.sameB 50 n m = SB := ⟨_, rfl⟩
        have HSA : Hid (∀ q : GrownTo Wd, Calls Try.prog 9 #[.agg #[Value.int .i64 (Td.kind n), .slice sa (Td.set n).length sc, .int .i64 (Td.num n), .string (Td.name n), .int .i64 (Td.mn n), .int .i64 (Td.mx n), .bool (Td.lazy n), .slice a (Td.subs n).length c], .agg #[Value.int .i64 (Td.kind m), .slice ta (Td.set m).length tc, .int .i64 (Td.num m), .string (Td.name m), .int .i64 (Td.mn m), .int .i64 (Td.mx m), .bool (Td.lazy m), .slice p (Td.subs m).length r]] q.W' fun e w' => e = .returned (.bool SB) ∧ Below q.W'.heap.size q.W' w') := Lib.hid (fun q => by
          have h9 := trSame_any q.W' n m _ _ ((HN4.out.kept hd4).kept q.h) ((HM4.out.kept hd4).kept q.h)
          rw [Td.same_fuel 40 1000 50 n m HF.out.2 (by omega) (by omega), hSB] at h9
          exact h9)
        have HSB : Hid (∀ q : GrownTo Wd, Calls Try.prog 8 #[.agg #[Value.int .i64 (Td.kind n), .slice sa (Td.set n).length sc, .int .i64 (Td.num n), .string (Td.name n), .int .i64 (Td.mn n), .int .i64 (Td.mx n), .bool (Td.lazy n), .slice a (Td.subs n).length c], .agg #[Value.int .i64 (Td.kind m), .slice ta (Td.set m).length tc, .int .i64 (Td.num m), .string (Td.name m), .int .i64 (Td.mn m), .int .i64 (Td.mx m), .bool (Td.lazy m), .slice p (Td.subs m).length r], .int .i64 50] q.W' fun e w' => e = .returned (.bool SB) ∧ Below q.W'.heap.size q.W' w') := Lib.hid (fun q => by
          have h9 := sameNode_any 50 (by omega) q.W' n m _ _ ((HN4.out.kept hd4).kept q.h) ((HM4.out.kept hd4).kept q.h)
          rw [hSB] at h9
          exact h9)
        have HSC : Hid (∀ q : GrownTo Wd, Calls Try.prog 9 #[.agg #[Value.int .i64 (Td.kind n), .slice sa (Td.set n).length sc, .int .i64 (Td.num n), .string (Td.name n), .int .i64 (Td.mn n), .int .i64 (Td.mx n), .bool (Td.lazy n), .slice a (Td.subs n).length c], .agg #[Value.int .i64 (Td.kind n), .slice sa (Td.set n).length sc, .int .i64 (Td.num n), .string (Td.name n), .int .i64 (Td.mn n), .int .i64 (Td.mx n), .bool (Td.lazy n), .slice a (Td.subs n).length c]] q.W' fun e w' => e = .returned (.bool true) ∧ Below q.W'.heap.size q.W' w') := Lib.hid (fun q => by
          have h9 := trSame_any q.W' n n _ _ ((HN4.out.kept hd4).kept q.h) ((HN4.out.kept hd4).kept q.h)
          rw [Td.same_self 40 1000 n HF.out.2 (by omega)] at h9
          exact h9)
        have HSD : Hid (∀ q : GrownTo Wd, Calls Try.prog 5 #[] q.W' fun e w' => e = .returned (.bool true) ∧ Below q.W'.heap.size q.W' w') := Lib.hid (fun q => works6_any q.W')
        have hss : (SB == SB) = true := by simp
        have hmn : ((kk : Int) == min (max most 0) (N : Int)) = true := by simpa using hkk
        have hrd := boxed_low HRB4.out hd4
        have HRD := Lib.hid hrd
        have HKD := Lib.hid hK
        have HDL := Lib.hid hD
        have HBW : Hid (Below W.heap.size W Wd) := Lib.hid (HB4.out.trans (hd4.mono HB4.out.size))
        have HFR : Hid ((D : Nat) ≠ W.heap.size + 3) := Lib.hid (by omega)
        clear qx qy hmb hxd hyd hd4 hSB hk hbb hK hkk hrd hD
        gi_wp2
        refine wpIn_quiet_last' rfl (by assumption) (by simp only [List.getLast?_cons_cons, List.getLast?_singleton]; exact rfl) (by kernel_rfl) (by kernel_rfl) ?_
        simp only [List.dropLast_cons_cons, List.dropLast_singleton, List.cons_append, List.nil_append, idle]
        repeat (
          refine wide_step (fun K hK => ?_)
          go_simp
          first
            | (refine hK _ ?_; clear hK K)
            | (apply Exists.intro
               refine ⟨fun _ => ?_, hK _ ?_⟩
               (first
                 | (gi_at_call 9; exact callsIn_wide.2 (calls_grownTo (HSA.out _)))
                 | (gi_at_call 9; exact callsIn_wide.2 (calls_grownTo (HSC.out _)))
                 | (gi_at_call 8; exact callsIn_wide.2 (calls_grownTo (HSB.out _)))
                 | (gi_at_call 5; exact callsIn_wide.2 (calls_grownTo (HSD.out _))))
               clear hK K))
        refine wpQuietIn_nil ?_
        intro wz hw'
        obtain ⟨⟨wq, hbz⟩, hw''⟩ := hw'
        have hw9 : wz = wq := hw''
        clear hw''
        subst hw9
        have hzb := boxed_low HRD.out hbz
        have hzc := hzb.cell
        have hzf := hzb.frozen
        have HSET := Lib.hid (hzb.set (.bool true))
        have HBE := Lib.hid ((HBW.out.trans (hbz.mono HBW.out.size)).setCell (p := ⟨W.heap.size + 3, 0, none⟩) (by simp) (.bool true))
        have hKz := (hbz.block D (Array.getElem?_eq_some_iff.1 HKD.out).1).trans HKD.out
        have HK9 := Lib.hid ((KeepsOthers.setCell wz ⟨W.heap.size + 3, 0, none⟩ (.bool true)).same D _ hKz rfl)
        clear q0 q1 q2 x0 x1 x2 x3 x4 x5 x6 x7 y0 y1 y2 y3 y4 y5 y6 y7 hzb hbz hKz
        gi_wp2
        refine ⟨by simp, .inl ⟨_, _, rfl, run_takeDeferred HK9.out, ?_⟩⟩
        have hc5 := cell_kept HSET.out.cell (grownBy_putObj' _ D (.deferred none)) (fun r e => by cases e; exact ⟨_, HK9.out, rfl⟩)
        refine ⟨.bool true, ?_, rfl, HBE.out.trans (belowK_b (w := W) (Nat.le_refl _) _ D _ _ (by have := HDL.out; have := HS4.out; omega) HK9.out rfl rfl)⟩
        simp [results, Try.f3, go_sem, hc5]
      case stop =>
        rintro D c pre Wd hD hpre hix hK
        rcases hix with ⟨rfl, hbb, kk, hq, hqm, hk⟩ | ⟨rfl, hno⟩
        rotate_left
        · exact absurd hpre hno
        have hkk : (kk : Int) = min (max most 0) (N : Int) := by
          have := hpre.length_le
          rw [List.length_map, HL.out, HNN.out] at this
          omega
        rw [HS7.out] at hD
        clear hpre hq hqm
        have hs4 := HS4.out
        have hs46 := HS6.out
        rw [HSS.out] at hs46
        have hbs := hbb.size
        rw [HSS.out] at hbs
        have hd4 : Below w4.heap.size w4 Wd := HB46.out.trans (hbb.mono HB46.out.size)
        have q0 : ∀ p : GrownTo Wd, p.W'.cell? ⟨s, 0, none⟩ = some (.int .i64 (kk : Int)) := cell_grownTo (w := Wd) (a := ⟨s, 0, none⟩) hk.lt hk.cell
        have hmb := (hd4.block _ (Array.getElem?_eq_some_iff.1 HMB4.out).1).trans HMB4.out
        have q1 : ∀ p : GrownTo Wd, p.W'.cell? ⟨W.heap.size + 2, 0, none⟩ = some (.int .i64 most) := cell_grownTo (w := Wd) (a := ⟨W.heap.size + 2, 0, none⟩) (by show W.heap.size + 2 < _; omega) (by simp [World.cell?, hmb])
        have q2 : ∀ p : GrownTo Wd, p.W'.cell? ⟨w4.heap.size, 0, none⟩ = some (.slice (some ⟨g, 0, none⟩) N capw) := cell_grownTo (w := Wd) (a := ⟨w4.heap.size, 0, none⟩) (by show w4.heap.size < _; omega) ((hbb.cell (p := ⟨w4.heap.size, 0, none⟩) HS6.out).trans HWB6.out.cell)
        have hxd := (hd4.block _ (Array.getElem?_eq_some_iff.1 HX4.out).1).trans HX4.out
        have hyd := (hd4.block _ (Array.getElem?_eq_some_iff.1 HY4.out).1).trans HY4.out
        have qx : ∀ (p : GrownTo Wd) (i : Nat) (v : Value), [Value.int .i64 (Td.kind n), .slice sa (Td.set n).length sc, .int .i64 (Td.num n), .string (Td.name n), .int .i64 (Td.mn n), .int .i64 (Td.mx n), .bool (Td.lazy n), .slice a (Td.subs n).length c][i]? = some v → p.W'.cell? ⟨W.heap.size, i, none⟩ = some v := fun p i v hv =>
          cell_grownTo (w := Wd) (a := ⟨W.heap.size, i, none⟩) (by show W.heap.size < _; omega) ((blkc hxd i).trans (by simpa using hv)) p
        have qy : ∀ (pq : GrownTo Wd) (i : Nat) (v : Value), [Value.int .i64 (Td.kind m), .slice ta (Td.set m).length tc, .int .i64 (Td.num m), .string (Td.name m), .int .i64 (Td.mn m), .int .i64 (Td.mx m), .bool (Td.lazy m), .slice p (Td.subs m).length r][i]? = some v → pq.W'.cell? ⟨W.heap.size + 1, i, none⟩ = some v := fun pq i v hv =>
          cell_grownTo (w := Wd) (a := ⟨W.heap.size + 1, i, none⟩) (by show W.heap.size + 1 < _; omega) ((blkc hyd i).trans (by simpa using hv)) pq
        have x0 := fun p => qx p 0 _ rfl
        have y0 := fun p => qy p 0 _ rfl
        have x1 := fun p => qx p 1 _ rfl
        have y1 := fun p => qy p 1 _ rfl
        have x2 := fun p => qx p 2 _ rfl
        have y2 := fun p => qy p 2 _ rfl
        have x3 := fun p => qx p 3 _ rfl
        have y3 := fun p => qy p 3 _ rfl
        have x4 := fun p => qx p 4 _ rfl
        have y4 := fun p => qy p 4 _ rfl
        have x5 := fun p => qx p 5 _ rfl
        have y5 := fun p => qy p 5 _ rfl
        have x6 := fun p => qx p 6 _ rfl
        have y6 := fun p => qy p 6 _ rfl
        have x7 := fun p => qx p 7 _ rfl
        have y7 := fun p => qy p 7 _ rfl
        obtain ⟨SB, hSB⟩ : ∃ SB, Td.sameB 50 n m = SB := ⟨_, rfl⟩
        have HSA : Hid (∀ q : GrownTo Wd, Calls Try.prog 9 #[.agg #[Value.int .i64 (Td.kind n), .slice sa (Td.set n).length sc, .int .i64 (Td.num n), .string (Td.name n), .int .i64 (Td.mn n), .int .i64 (Td.mx n), .bool (Td.lazy n), .slice a (Td.subs n).length c], .agg #[Value.int .i64 (Td.kind m), .slice ta (Td.set m).length tc, .int .i64 (Td.num m), .string (Td.name m), .int .i64 (Td.mn m), .int .i64 (Td.mx m), .bool (Td.lazy m), .slice p (Td.subs m).length r]] q.W' fun e w' => e = .returned (.bool SB) ∧ Below q.W'.heap.size q.W' w') := Lib.hid (fun q => by
          have h9 := trSame_any q.W' n m _ _ ((HN4.out.kept hd4).kept q.h) ((HM4.out.kept hd4).kept q.h)
          rw [Td.same_fuel 40 1000 50 n m HF.out.2 (by omega) (by omega), hSB] at h9
          exact h9)
        have HSB : Hid (∀ q : GrownTo Wd, Calls Try.prog 8 #[.agg #[Value.int .i64 (Td.kind n), .slice sa (Td.set n).length sc, .int .i64 (Td.num n), .string (Td.name n), .int .i64 (Td.mn n), .int .i64 (Td.mx n), .bool (Td.lazy n), .slice a (Td.subs n).length c], .agg #[Value.int .i64 (Td.kind m), .slice ta (Td.set m).length tc, .int .i64 (Td.num m), .string (Td.name m), .int .i64 (Td.mn m), .int .i64 (Td.mx m), .bool (Td.lazy m), .slice p (Td.subs m).length r], .int .i64 50] q.W' fun e w' => e = .returned (.bool SB) ∧ Below q.W'.heap.size q.W' w') := Lib.hid (fun q => by
          have h9 := sameNode_any 50 (by omega) q.W' n m _ _ ((HN4.out.kept hd4).kept q.h) ((HM4.out.kept hd4).kept q.h)
          rw [hSB] at h9
          exact h9)
        have HSC : Hid (∀ q : GrownTo Wd, Calls Try.prog 9 #[.agg #[Value.int .i64 (Td.kind n), .slice sa (Td.set n).length sc, .int .i64 (Td.num n), .string (Td.name n), .int .i64 (Td.mn n), .int .i64 (Td.mx n), .bool (Td.lazy n), .slice a (Td.subs n).length c], .agg #[Value.int .i64 (Td.kind n), .slice sa (Td.set n).length sc, .int .i64 (Td.num n), .string (Td.name n), .int .i64 (Td.mn n), .int .i64 (Td.mx n), .bool (Td.lazy n), .slice a (Td.subs n).length c]] q.W' fun e w' => e = .returned (.bool true) ∧ Below q.W'.heap.size q.W' w') := Lib.hid (fun q => by
          have h9 := trSame_any q.W' n n _ _ ((HN4.out.kept hd4).kept q.h) ((HN4.out.kept hd4).kept q.h)
          rw [Td.same_self 40 1000 n HF.out.2 (by omega)] at h9
          exact h9)
        have HSD : Hid (∀ q : GrownTo Wd, Calls Try.prog 5 #[] q.W' fun e w' => e = .returned (.bool true) ∧ Below q.W'.heap.size q.W' w') := Lib.hid (fun q => works6_any q.W')
        have hss : (SB == SB) = true := by simp
        have hmn : ((kk : Int) == min (max most 0) (N : Int)) = true := by simpa using hkk
        have hrd := boxed_low HRB4.out hd4
        have HRD := Lib.hid hrd
        have HKD := Lib.hid hK
        have HDL := Lib.hid hD
        have HBW : Hid (Below W.heap.size W Wd) := Lib.hid (HB4.out.trans (hd4.mono HB4.out.size))
        have HFR : Hid ((D : Nat) ≠ W.heap.size + 3) := Lib.hid (by omega)
        clear qx qy hmb hxd hyd hd4 hSB hk hbb hK hkk hrd hD
        gi_wp2
        refine wpIn_quiet_last' rfl (by assumption) (by simp only [List.getLast?_cons_cons, List.getLast?_singleton]; exact rfl) (by kernel_rfl) (by kernel_rfl) ?_
        simp only [List.dropLast_cons_cons, List.dropLast_singleton, List.cons_append, List.nil_append, idle]
        repeat (
          refine wide_step (fun K hK => ?_)
          go_simp
          first
            | (refine hK _ ?_; clear hK K)
            | (apply Exists.intro
               refine ⟨fun _ => ?_, hK _ ?_⟩
               (first
                 | (gi_at_call 9; exact callsIn_wide.2 (calls_grownTo (HSA.out _)))
                 | (gi_at_call 9; exact callsIn_wide.2 (calls_grownTo (HSC.out _)))
                 | (gi_at_call 8; exact callsIn_wide.2 (calls_grownTo (HSB.out _)))
                 | (gi_at_call 5; exact callsIn_wide.2 (calls_grownTo (HSD.out _))))
               clear hK K))
        refine wpQuietIn_nil ?_
        intro wz hw'
        obtain ⟨⟨wq, hbz⟩, hw''⟩ := hw'
        have hw9 : wz = wq := hw''
        clear hw''
        subst hw9
        have hzb := boxed_low HRD.out hbz
        have hzc := hzb.cell
        have hzf := hzb.frozen
        have HSET := Lib.hid (hzb.set (.bool true))
        have HBE := Lib.hid ((HBW.out.trans (hbz.mono HBW.out.size)).setCell (p := ⟨W.heap.size + 3, 0, none⟩) (by simp) (.bool true))
        have hKz := (hbz.block D (Array.getElem?_eq_some_iff.1 HKD.out).1).trans HKD.out
        have HK9 := Lib.hid ((KeepsOthers.setCell wz ⟨W.heap.size + 3, 0, none⟩ (.bool true)).same D _ hKz rfl)
        clear q0 q1 q2 x0 x1 x2 x3 x4 x5 x6 x7 y0 y1 y2 y3 y4 y5 y6 y7 hzb hbz hKz
        gi_wp2
        refine ⟨by simp, .inl ⟨_, _, rfl, run_takeDeferred HK9.out, ?_⟩⟩
        have hc5 := cell_kept HSET.out.cell (grownBy_putObj' _ D (.deferred none)) (fun r e => by cases e; exact ⟨_, HK9.out, rfl⟩)
        refine ⟨.bool true, ?_, rfl, HBE.out.trans (belowK_b (w := W) (Nat.le_refl _) _ D _ _ (by have := HDL.out; have := HS4.out; omega) HK9.out rfl rfl)⟩
        simp [results, Try.f3, go_sem, hc5]
end Go.Proofs.Ytcomjkoaieeidaa
