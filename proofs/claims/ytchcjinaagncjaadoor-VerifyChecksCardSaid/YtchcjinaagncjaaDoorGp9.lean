/- What a program's instructions lead to, their order, what is reached: mathematics. -/
import Derived.Test.YtchcjinaagncjaaDoorGp1
namespace Go.Proofs.YtchcjinaagncjaaDoor.Pgm
set_option linter.unusedVariables false
/-- What an instruction leads to. -/
def tgL (i : In) : List Int := if i.op = 2 then [i.y, i.x] else if i.op = 1 ∨ i.op = 3 ∨ i.op = 4 then [i.x] else []
/-- The same without a byte. -/
def etL (i : In) : List Int := if i.op = 1 then [] else tgL i
def tgN (i : In) : List Nat := (tgL i).map Int.toNat
def etN (i : In) : List Nat := (etL i).map Int.toNat
theorem tgL_len (i : In) : (tgL i).length ≤ 2 := by
  unfold tgL
  split
  · simp
  · split <;> simp
/-- As many as differ fit. -/
theorem nodup_le : ∀ {L M : List Nat}, L.Nodup → (∀ x ∈ L, x ∈ M) → L.length ≤ M.length
  | [], _, _, _ => Nat.zero_le _
  | a :: L, M, hn, hs => by
    obtain ⟨ha, hn⟩ := List.nodup_cons.1 hn
    have hm := hs a (by simp)
    have ih := nodup_le (M := M.erase a) hn fun x hx => (List.mem_erase_of_ne (fun e : x = a => ha (e ▸ hx))).2 (hs x (by simp [hx]))
    rw [List.length_erase_of_mem hm] at ih
    have : 0 < M.length := List.length_pos_of_mem hm
    simp only [List.length_cons]; omega
theorem etL_len (i : In) : (etL i).length ≤ 2 := by unfold etL; split; · simp
                                                    · exact tgL_len i
/-- All that an instruction leads to is there. -/
def Tg (l : List In) : Prop := ∀ i ∈ l, ∀ t ∈ tgL i, 0 ≤ t ∧ t < l.length
def inst (l : List In) (j : Nat) : List Nat := match l[j]? with | some i => etN i | none => []
theorem inst_at {l : List In} {j : Nat} (h : j < l.length) : inst l j = etN l[j] := by unfold inst; rw [List.getElem?_eq_getElem h]
theorem inst_lt {l : List In} (hT : Tg l) {j t : Nat} (h : t ∈ inst l j) : t < l.length := by
  unfold inst at h
  split at h
  · rename_i i hi
    obtain ⟨z, hz, rfl⟩ := List.mem_map.1 h
    have hz2 : z ∈ tgL i := by
      unfold etL at hz
      split at hz
      · cases hz
      · exact hz
    obtain ⟨h1, h2⟩ := hT i (List.mem_of_getElem? hi) z hz2
    omega
  · cases h
/-- How many of those that are left lead to t. -/
def ahd (l : List In) (out : List Nat) (t : Nat) : Nat := (((List.range l.length).filter fun j => decide (j ∉ out)).map fun j => (inst l j).count t).sum
def rdy (l : List In) (out : List Nat) (i : Nat) : Bool := decide (i ∉ out) && (List.range l.length).all fun j => decide (j ∈ out) || !(decide (i ∈ inst l j))
theorem sum_zero : ∀ L : List Nat, L.sum = 0 ↔ ∀ x ∈ L, x = 0
  | [] => by simp
  | a :: L => by have := sum_zero L; simp only [List.sum_cons, List.mem_cons, forall_eq_or_imp, ← this, Nat.add_eq_zero_iff]
theorem ahd_zero (l : List In) (out : List Nat) (t : Nat) : ahd l out t = 0 ↔ ∀ j, j < l.length → j ∉ out → t ∉ inst l j := by
  unfold ahd
  rw [sum_zero]
  constructor
  · intro h j hj ho
    have := h ((inst l j).count t) (List.mem_map.2 ⟨j, List.mem_filter.2 ⟨List.mem_range.2 hj, decide_eq_true ho⟩, rfl⟩)
    exact List.count_eq_zero.1 this
  · intro h x hx
    obtain ⟨j, hj, rfl⟩ := List.mem_map.1 hx
    obtain ⟨h1, h2⟩ := List.mem_filter.1 hj
    exact List.count_eq_zero.2 (h j (List.mem_range.1 h1) (of_decide_eq_true h2))
theorem rdy_iff (l : List In) (out : List Nat) (i : Nat) : rdy l out i = true ↔ i ∉ out ∧ ahd l out i = 0 := by
  rw [ahd_zero]
  unfold rdy
  rw [Bool.and_eq_true, decide_eq_true_iff, List.all_eq_true]
  refine and_congr Iff.rfl ⟨fun h j hj ho hm => ?_, fun h j hj => ?_⟩
  · have := h j (List.mem_range.2 hj)
    rw [Bool.or_eq_true, decide_eq_true_iff] at this
    rcases this with h1 | h1
    · exact ho h1
    · rw [decide_eq_true hm] at h1; cases h1
  · rw [Bool.or_eq_true, decide_eq_true_iff]
    by_cases ho : j ∈ out
    · exact .inl ho
    · refine .inr ?_
      rw [decide_eq_false (h j (List.mem_range.1 hj) ho)]; rfl
theorem sum_filter_ne {f : Nat → Nat} (p : Nat → Bool) (i : Nat) : ∀ (L : List Nat), L.Nodup → i ∈ L → p i = true →
    ((L.filter fun j => p j && decide (j ≠ i)).map f).sum + f i = ((L.filter p).map f).sum
  | [], _, h, _ => by cases h
  | a :: L, hn, hm, hp => by
    obtain ⟨ha, hn⟩ := List.nodup_cons.1 hn
    by_cases e : a = i
    · subst e
      have h1 : (L.filter fun j => p j && decide (j ≠ a)) = L.filter p := by
        apply List.filter_congr
        intro x hx
        have : x ≠ a := fun e => ha (e ▸ hx)
        simp [this]
      rw [List.filter_cons_of_neg (by simp), h1, List.filter_cons_of_pos hp, List.map_cons, List.sum_cons, Nat.add_comm]
    · have hm2 : i ∈ L := by rcases List.mem_cons.1 hm with h | h; · exact absurd h.symm e
                             · exact h
      have ih := sum_filter_ne (f := f) p i L hn hm2 hp
      by_cases hpa : p a = true
      · rw [List.filter_cons_of_pos (by simp [hpa, e]), List.filter_cons_of_pos hpa, List.map_cons, List.map_cons, List.sum_cons, List.sum_cons]; omega
      · rw [List.filter_cons_of_neg (by simp [hpa]), List.filter_cons_of_neg hpa]; exact ih
theorem ahd_snoc (l : List In) (out : List Nat) (i t : Nat) (hi : i < l.length) (ho : i ∉ out) : ahd l (out ++ [i]) t + (inst l i).count t = ahd l out t := by
  have h := sum_filter_ne (f := fun j => (inst l j).count t) (fun j => decide (j ∉ out)) i (List.range l.length) List.nodup_range (List.mem_range.2 hi) (decide_eq_true ho)
  unfold ahd
  rw [← h]
  congr 3
  apply List.filter_congr
  intro x _
  simp only [List.mem_append, List.mem_singleton, not_or, Bool.decide_and]
def pick (l : List In) (out : List Nat) : Option Nat := (List.range l.length).find? (rdy l out)
def ordN (l : List In) : Nat → List Nat → List Nat
  | 0, out => out
  | k + 1, out => match pick l out with | none => out | some i => ordN l k (out ++ [i])
/-- The order, as far as it goes. -/
def ordF (l : List In) : List Nat := ordN l l.length []
/-- What is so of the order's beginnings. -/
structure Inv (l : List In) (out : List Nat) : Prop where
  nd : out.Nodup
  lt : ∀ i ∈ out, i < l.length
  pre : ∀ k (hk : k < out.length), ∀ j, j < l.length → j ∉ out.take k → out[k] ∉ inst l j
theorem Inv.nil (l : List In) : Inv l [] := ⟨List.nodup_nil, by simp, fun k hk => absurd hk (by simp)⟩
theorem pick_some {l : List In} {out : List Nat} {i : Nat} (h : pick l out = some i) : i < l.length ∧ i ∉ out ∧ ahd l out i = 0 ∧ ∀ j, j < i → rdy l out j = false := by
  unfold pick at h
  have h1 := List.find?_some h
  have h2 := List.mem_range.1 (List.mem_of_find?_eq_some h)
  refine ⟨h2, ((rdy_iff l out i).1 h1).1, ((rdy_iff l out i).1 h1).2, fun j hj => ?_⟩
  obtain ⟨pa, pb, e, hb⟩ := (List.find?_eq_some_iff_append.1 h).2
  have hl : pa.length = i := by
    have : (List.range l.length)[pa.length]? = some i := by rw [e]; simp
    rw [List.getElem?_range (by
      have := congrArg List.length e
      simp at this; omega)] at this
    exact Option.some.inj this
  have hm : j ∈ pa := by
    have : (List.range l.length)[j]? = some j := List.getElem?_range (by omega)
    rw [e, List.getElem?_append_left (by omega)] at this
    exact List.mem_of_getElem? this
  simpa using hb j hm
theorem pick_none {l : List In} {out : List Nat} (h : pick l out = none) (i : Nat) (hi : i < l.length) : rdy l out i = false := by
  unfold pick at h
  simpa using List.find?_eq_none.1 h i (List.mem_range.2 hi)
theorem pick_is {l : List In} {out : List Nat} {i : Nat} (hi : i < l.length) (h : rdy l out i = true) (hb : ∀ j, j < i → rdy l out j = false) : pick l out = some i := by
  cases hp : pick l out with
  | none => rw [pick_none hp i hi] at h; cases h
  | some k =>
    obtain ⟨h1, h2, h3, h4⟩ := pick_some hp
    rcases Nat.lt_trichotomy k i with h9 | h9 | h9
    · have := hb k h9
      rw [(rdy_iff l out k).2 ⟨h2, h3⟩] at this; cases this
    · rw [h9]
    · rw [h4 i h9] at h; cases h
theorem pick_no {l : List In} {out : List Nat} (hb : ∀ j, j < l.length → rdy l out j = false) : pick l out = none := by
  cases hp : pick l out with
  | none => rfl
  | some k =>
    obtain ⟨h1, h2, h3, h4⟩ := pick_some hp
    have := hb k h1
    rw [(rdy_iff l out k).2 ⟨h2, h3⟩] at this; cases this
theorem Inv.snoc {l : List In} {out : List Nat} (h : Inv l out) {i : Nat} (hp : pick l out = some i) : Inv l (out ++ [i]) := by
  obtain ⟨h1, h2, h3, h4⟩ := pick_some hp
  refine ⟨?_, ?_, ?_⟩
  · rw [List.nodup_append]
    refine ⟨h.nd, by simp, ?_⟩
    intro a ha b hb
    rw [List.mem_singleton] at hb
    subst hb
    exact fun e => h2 (e ▸ ha)
  · intro x hx
    rcases List.mem_append.1 hx with hx | hx
    · exact h.lt x hx
    · rw [List.mem_singleton] at hx; omega
  · intro k hk j hj hnj
    rcases Nat.lt_or_ge k out.length with h9 | h9
    · rw [List.getElem_append_left h9]
      rw [List.take_append_of_le_length (by omega)] at hnj
      exact h.pre k h9 j hj hnj
    · have e : k = out.length := by simp at hk; omega
      subst e
      rw [List.getElem_concat_length rfl]
      rw [List.take_append_of_le_length (Nat.le_refl _), List.take_length] at hnj
      exact (ahd_zero l out i).1 h3 j hj hnj
theorem Inv.zero {l : List In} {out : List Nat} (h : Inv l out) : ∀ t ∈ out, ahd l out t = 0 := fun t ht => by
  obtain ⟨k, hk, rfl⟩ := List.mem_iff_getElem.1 ht
  exact (ahd_zero l out _).2 fun j hj ho => h.pre k hk j hj fun hm => ho (List.mem_of_mem_take hm)
theorem Inv.len {l : List In} {out : List Nat} (h : Inv l out) : out.length ≤ l.length := by
  have h2 := nodup_le (M := List.range l.length) h.nd fun i hi => List.mem_range.2 (h.lt i hi)
  simpa using h2
theorem ordN_inv (l : List In) : ∀ (k : Nat) (out : List Nat), Inv l out → Inv l (ordN l k out)
  | 0, out, h => h
  | k + 1, out, h => by
    rw [ordN]
    split
    · exact h
    · rename_i i hp; exact ordN_inv l k _ (h.snoc hp)
theorem ordF_inv (l : List In) : Inv l (ordF l) := ordN_inv l _ _ (.nil l)
theorem ordN_none {l : List In} {out : List Nat} (hp : pick l out = none) (k : Nat) : ordN l k out = out := by
  cases k with
  | zero => rfl
  | succ k => rw [ordN, hp]
theorem ordN_some {l : List In} {out : List Nat} {i : Nat} (hp : pick l out = some i) (k : Nat) : ordN l (k + 1) out = ordN l k (out ++ [i]) := by rw [ordN, hp]
end Go.Proofs.YtchcjinaagncjaaDoor.Pgm
