/- Mathematics of bracket: the list that an expression stands for. -/
import Derived.Test.YtecclhmjmceheaaGreatDoorGp3
import Derived.Test.YtecclhmjmceheaaGreatDoorGp7
import Derived.Test.YtecclhmjmceheaaGreatDoorGp5
namespace Go.Proofs.YtecclhmjmceheaaGreatDoor.Br
open Go.Proofs.YtecclhmjmceheaaGreatDoor.Rg
set_option linter.unusedVariables false
/-- The union of items, closed where it is asked, and its complement where it is asked. -/
def BrIs (Xs : List It) (fold neg : Bool) (out : List R) : Prop :=
  ∃ L M, ItsIs Xs L ∧ ListOf L M ∧ NormL out ∧ ∀ q, 0 ≤ q → q ≤ 1114111 → hasB out q = (neg != (if fold = true then Fd.clB M q else hasB M q))
theorem brIs_unique {Xs : List It} {fold neg : Bool} {a b : List R} (h : BrIs Xs fold neg a) (k : BrIs Xs fold neg b) : a = b := by
  obtain ⟨L, M, h1, h2, h3, h4⟩ := h
  obtain ⟨L', M', k1, k2, k3, k4⟩ := k
  obtain rfl := itsIs_unique h1 k1
  obtain rfl := made_unique h2 k2
  exact norm_ext h3 k3 (fun q h0 h1 => by rw [h4 q h0 h1, k4 q h0 h1])
theorem brIs_plain {Xs : List It} {L M : List R} (h1 : ItsIs Xs L) (h2 : ListOf L M) : BrIs Xs false false M := ⟨L, M, h1, h2, h2.norm, fun q _ _ => by simp⟩
theorem brIs_fold {Xs : List It} {L M out : List R} (h1 : ItsIs Xs L) (h2 : ListOf L M) (h3 : NormL out) (h4 : ∀ q, hasB out q = Fd.clB M q) : BrIs Xs true false out := ⟨L, M, h1, h2, h3, fun q _ _ => by rw [h4]; simp⟩
theorem brIs_not {Xs : List It} {fold : Bool} {a out : List R} (h : BrIs Xs fold false a) (k : Made 3 [(0, 1114111)] a out) : BrIs Xs fold true out := by
  obtain ⟨L, M, h1, h2, h3, h4⟩ := h
  refine ⟨L, M, h1, h2, k.norm, fun q h0 h5 => ?_⟩
  rw [k.has q h0 h5, h4 q h0 h5]
  have e : hasB [(0, 1114111)] q = true := (hasB_iff _ _).2 ⟨⟨h0, h5⟩, (0, 1114111), by simp, h0, h5⟩
  rw [e]
  generalize (if fold = true then Fd.clB M q else hasB M q) = z
  cases z <;> rfl
/-- What an item says lies in bounds. -/
def ItOk : It → Prop
  | .cls _ => True
  | .rng lo hi => 0 ≤ lo ∧ lo ≤ hi ∧ hi ≤ 1114111
theorem item_ok (s : ByteArray) (at_ : Nat) (x : It) (next : Nat) (h : item s at_ = .ok x next) : ItOk x := by
  unfold item at h
  dsimp only at h
  split at h
  · unfold colonX at h
    dsimp only at h
    split at h
    · cases h
    split at h
    · cases h
    · cases h; trivial
  split at h
  · split at h
    · cases h; trivial
    · cases h
  split at h
  · cases h
  unfold span at h
  dsimp only at h
  have hb := Utf.bytes_drop (Utf.nums_bytes s)
  have o1 := one_cases ((Utf.nums s).drop at_) (hb _)
  split at h
  · cases h
  rename_i c
  split at h
  · cases h
    exact ⟨by omega, Int.le_refl _, by omega⟩
  split at h
  · cases h
  split at h
  · cases h
  rename_i c2
  have o2 := one_cases ((Utf.nums s).drop (at_ + (one ((Utf.nums s).drop at_)).2.1.toNat + 1)) (hb _)
  split at h
  · cases h
  · cases h
    exact ⟨by omega, by omega, by omega⟩
theorem itIs_len {X : It} {l : List R} (h : ItIs X l) : l.length ≤ 1114113 := by
  cases X with
  | cls x => have := norm_len l 0 h.1 (by omega); omega
  | rng lo hi => obtain rfl : l = [(lo, hi)] := h; simp
/-- A list of ranges, all of them runes. -/
def Runes (l : List R) : Prop := ∀ p ∈ l, 0 ≤ p.1 ∧ p.2 ≤ 1114111 ∧ p.1 ≤ p.2
theorem runes_norm {l : List R} (h : NormL l) : Runes l := fun p hp => by have := norm_lo l 0 h p hp; omega
theorem itIs_runes {X : It} {l : List R} (ho : ItOk X) (h : ItIs X l) : Runes l := by
  cases X with
  | cls x => exact runes_norm h.1
  | rng lo hi =>
    obtain rfl : l = [(lo, hi)] := h
    intro p hp
    rw [List.mem_singleton] at hp
    subst hp
    exact ⟨ho.1, ho.2.2, ho.2.1⟩
theorem runes_wide {l : List R} (h : Runes l) : Wide64 l := by
  intro p hp
  have := h p hp
  omega
theorem item_ne (s : ByteArray) (at_ : Nat) (o c : Int) (h : item s at_ = .bad o c) : c ≠ 0 := by
  unfold item at h
  dsimp only at h
  split at h
  · unfold colonX at h
    dsimp only at h
    split at h
    · cases h; decide
    split at h
    · cases h; decide
    · cases h
  split at h
  · rename_i hc
    rcases set_cases (s.extract at_ s.size) with ⟨e1, e2, e3⟩ | ⟨y, e1, e2, e3, e4⟩
    · omega
    · rw [e1] at h; cases h
  rename_i hc
  split at h
  · cases h; exact hc
  unfold span at h
  dsimp only at h
  split at h
  · rename_i h9; cases h; exact h9
  split at h
  · cases h
  split at h
  · cases h; decide
  split at h
  · rename_i h9; cases h; exact h9
  split at h
  · cases h; decide
  · cases h
theorem goesOn_len {l : List Int} (h : ¬ goesOn l = false) : 2 ≤ l.length := by
  unfold goesOn at h
  simp at h
  omega
theorem item_bad_bd (s : ByteArray) (at_ : Nat) (o c : Int) (ha : at_ ≤ s.size) (h : item s at_ = .bad o c) : 0 ≤ o ∧ o ≤ s.size := by
  unfold item at h
  dsimp only at h
  split at h
  · unfold colonX at h
    dsimp only at h
    split at h
    · cases h; omega
    split at h
    · cases h; omega
    · cases h
  split at h
  · split at h
    · cases h
    · cases h; omega
  split at h
  · cases h; omega
  unfold span at h
  dsimp only at h
  split at h
  · cases h; omega
  split at h
  · cases h
  rename_i hg
  have h2 := goesOn_len hg
  rw [List.length_drop, nums_len] at h2
  split at h
  · cases h; omega
  split at h
  · cases h; omega
  split at h
  · cases h; omega
  · cases h
theorem items_bad (s : ByteArray) (fs : Nat) : ∀ (f at_ : Nat) (Xs : List It) (o c : Int), items s fs f at_ Xs = .bad o c → 0 ≤ o ∧ o ≤ s.size ∧ c ≠ 0
  | 0, at_, Xs, o, c, h => by cases h; exact ⟨by omega, by omega, by decide⟩
  | f + 1, at_, Xs, o, c, h => by
    unfold items at h
    split at h
    · cases h; exact ⟨by omega, by omega, by decide⟩
    rename_i h1
    split at h
    · cases h
    cases hx : item s at_ with
    | bad o' c' =>
      rw [hx] at h
      cases h
      have := item_bad_bd s at_ o c (by omega) hx
      exact ⟨this.1, this.2, item_ne s at_ o c hx⟩
    | ok x next => rw [hx] at h; exact items_bad s fs f next _ o c h
theorem brack_bad {s : ByteArray} {o c : Int} (h : brack s = .bad o c) : 0 ≤ o ∧ o ≤ s.size ∧ c ≠ 0 := by
  unfold brack at h
  split at h
  · cases h; exact ⟨by omega, by omega, by decide⟩
  · exact items_bad s _ _ _ _ o c h
theorem runes_app {a b : List R} (h : Runes a) (k : Runes b) : Runes (a ++ b) := fun p hp => (List.mem_append.1 hp).elim (h p) (k p)
end Go.Proofs.YtecclhmjmceheaaGreatDoor.Br
