/- The plain mathematics of the reference's fold (burinref03): inserting, rounds on lists, what is closed. · Mathematics of bracket: the list that an expression stands for. · The landed bracket: property, Set. · The landed bracket: Set. -/
import Derived.Test.YtmdpchiiamgnnaaGreatDoorGp14
import Derived.Test.YtmdpchiiamgnnaaGreatDoorGp6
import Derived.Test.YtmdpchiiamgnnaaGreatDoorGp8
import Derived.Test.YtmdpchiiamgnnaaGreatDoorGp7
import Derived.Test.YtmdpchiiamgnnaaGreatDoorGp13
import Derived.Test.YtmdpchiiamgnnaaGreatDoorGp12
namespace Go.Proofs.YtmdpchiiamgnnaaGreatDoor.Fd
open Go.Proofs.YtmdpchiiamgnnaaGreatDoor.Rg
set_option linter.unusedVariables false
theorem spanL_len : ∀ (n : Nat) (lo up : Int), (spanL lo up n).length = n
  | 0, _, _ => rfl
  | n + 1, lo, up => by rw [spanL, List.length_cons, spanL_len n]
theorem spanL_snoc : ∀ (n : Nat) (lo up : Int), spanL lo up (n + 1) = spanL lo up n ++ [(lo + n, lo + n + up)]
  | 0, lo, up => by simp [spanL]
  | n + 1, lo, up => by
    rw [spanL, spanL_snoc n (lo + 1) up]
    rw [show spanL lo up (n + 1) = (lo, lo + up) :: spanL (lo + 1) up n from rfl]
    rw [List.cons_append]
    have : lo + 1 + (n : Int) = lo + ((n + 1 : Nat) : Int) := by omega
    rw [this]
theorem joinB_take_succ (l : List Int) (k : Nat) (r : Int) (hk : k < l.length) : joinB (l.take (k + 1)) r = (joinB (l.take k) r || decide (l[k]?.getD 0 = r)) := by
  rw [Bool.eq_iff_iff, Bool.or_eq_true, joinB_iff, joinB_iff, List.take_succ_eq_append_getElem hk, List.mem_append, List.getElem?_eq_getElem hk]
  simp only [List.mem_singleton, Option.getD_some, decide_eq_true_eq]
  exact ⟨fun h => h.imp id Eq.symm, fun h => h.imp id Eq.symm⟩
/-- Inserting: what is less stands ahead. -/
theorem insL_split : ∀ (l : List Int) (i : Nat) (r : Int), i ≤ l.length → (∀ j, j < i → l[j]?.getD 0 < r) → (i = l.length ∨ ¬ l[i]?.getD 0 < r) → insL l r = l.take i ++ [r] ++ l.drop i
  | [], i, r, h, _, _ => by
    obtain rfl : i = 0 := by simpa using h
    rfl
  | x :: l, 0, r, _, _, h => by
    rcases h with h | h
    · simp at h
    · simp at h
      rw [insL, if_neg (by omega)]; rfl
  | x :: l, i + 1, r, hi, ha, h => by
    have h0 := ha 0 (by omega)
    simp at h0
    rw [insL, if_pos h0, insL_split l i r (by simpa using hi) (fun j hj => by have := ha (j + 1) (by omega); simpa using this) (by rcases h with h | h; exact .inl (by simpa using h); exact .inr (by simpa using h))]
    rfl
theorem insL_len : ∀ (l : List Int) (r : Int), (insL l r).length = l.length + 1
  | [], r => rfl
  | x :: l, r => by rw [insL]; split <;> simp [insL_len l r]
theorem withL_len (l : List Int) (r : Int) : l.length ≤ (withL l r).length ∧ (withL l r).length ≤ l.length + 1 := by
  unfold withL; split
  · omega
  · rw [insL_len]; omega
theorem pstep_len (l : List Int) (p : Int × Int) : l.length ≤ (pstep l p).length ∧ (pstep l p).length ≤ l.length + 2 := by
  unfold pstep step2 step1
  have h := fun m r => withL_len m r
  split <;> split <;> (try have h1 := h l p.2) <;> (try have h2 := h (withL l p.2) p.1) <;> (try have h3 := h l p.1) <;> omega
theorem fold_take_succ {α β : Type} (f : β → α → β) (d : α) (l : List α) (k : Nat) (hk : k < l.length) (b : β) : (l.take (k + 1)).foldl f b = f ((l.take k).foldl f b) (l[k]?.getD d) := by
  rw [List.take_succ_eq_append_getElem hk, List.foldl_append, List.getElem?_eq_getElem hk]; rfl
theorem fold_len : ∀ (ps : List (Int × Int)) (l : List Int), l.length ≤ (ps.foldl pstep l).length ∧ (ps.foldl pstep l).length ≤ l.length + ps.length * 2
  | [], l => by simp
  | p :: ps, l => by
    have h1 := pstep_len l p
    have h2 := fold_len ps (pstep l p)
    rw [List.foldl_cons, List.length_cons]; omega
theorem pairs_len : pairsL.length = 137 := by rw [← pairsE_eq]; decide +kernel
theorem pairs_bd : ∀ p ∈ pairsL, 0 ≤ p.1 ∧ p.1 ≤ 10000 ∧ 0 ≤ p.2 ∧ p.2 ≤ 10000 := by
  rw [← pairsE_eq]; decide +kernel
theorem famI_len (r : Int) : ∀ j, 1 ≤ (famI r j).length ∧ (famI r j).length ≤ 1 + j * 274
  | 0 => ⟨Nat.le_refl _, Nat.le_refl _⟩
  | j + 1 => by
    have h1 := famI_len r j
    have h2 := fold_len pairsL (famI r j)
    rw [pairs_len] at h2
    show 1 ≤ (round1 (famI r j)).length ∧ (round1 (famI r j)).length ≤ _
    unfold round1; omega
/-- Of what was inserted nothing is lost; where no more is there, it is the same. -/
theorem pstep_same {l : List Int} {p : Int × Int} (h : (pstep l p).length = l.length) : pstep l p = l := by
  unfold pstep step2 step1 at h ⊢
  have hw : ∀ m r, (withL m r).length = m.length → withL m r = m := by
    intro m r hm
    unfold withL at hm ⊢
    split
    · rfl
    · rename_i hj; rw [if_neg hj, insL_len] at hm; omega
  by_cases h1 : joinB l p.1 = true
  · rw [if_pos h1] at h ⊢
    have a1 := withL_len l p.2
    by_cases h2 : joinB (withL l p.2) p.2 = true
    · rw [if_pos h2] at h ⊢
      have a2 := withL_len (withL l p.2) p.1
      have e1 := hw l p.2 (by omega)
      rw [e1] at h ⊢
      exact hw l p.1 h
    · rw [if_neg h2] at h ⊢
      exact hw l p.2 h
  · rw [if_neg h1] at h ⊢
    by_cases h2 : joinB l p.2 = true
    · rw [if_pos h2] at h ⊢
      exact hw l p.1 h
    · rw [if_neg h2]
theorem fold_same : ∀ (ps : List (Int × Int)) (l : List Int), (ps.foldl pstep l).length = l.length → ps.foldl pstep l = l
  | [], _, _ => rfl
  | p :: ps, l, h => by
    rw [List.foldl_cons] at h ⊢
    have h1 := pstep_len l p
    have h2 := fold_len ps (pstep l p)
    have e := pstep_same (l := l) (p := p) (by omega)
    rw [e] at h ⊢
    exact fold_same ps l h
theorem famI_stop (r : Int) (j : Nat) (h : (famI r (j + 1)).length = (famI r j).length) (hj : j ≤ 2) : famI r j = fam r := by
  have e : famI r (j + 1) = famI r j := fold_same pairsL (famI r j) h
  have up : ∀ k, famI r (j + k) = famI r j := by
    intro k
    induction k with
    | zero => rfl
    | succ k ih => show round1 (famI r (j + k)) = _; rw [ih]; exact e
  obtain ⟨k, hk⟩ : ∃ k, 2 = j + k := ⟨2 - j, by omega⟩
  unfold fam
  rw [hk, up k]
/-! ### Next -/
def nextL (l : List Int) (r : Int) : Int := (l.find? fun x => decide (r < x)).getD (l[0]?.getD 0)
theorem find_take_none (l : List Int) (k : Nat) (hk : k < l.length) (r : Int) (h : ((l.take k).find? fun x => decide (r < x)) = none) :
    (r < l[k]?.getD 0 → (l.find? fun x => decide (r < x)) = some (l[k]?.getD 0)) ∧ (¬ r < l[k]?.getD 0 → ((l.take (k + 1)).find? fun x => decide (r < x)) = none) := by
  have e := List.getElem?_eq_getElem hk
  constructor
  · intro hr
    rw [e] at hr ⊢
    simp only [Option.getD_some] at hr ⊢
    have hs : l.take k ++ (l[k] :: l.drop (k + 1)) = l := by rw [← List.drop_eq_getElem_cons hk, List.take_append_drop]
    have h2 := congrArg (List.find? fun x => decide (r < x)) hs
    rw [← h2, List.find?_append, h, List.find?_cons_of_pos (by simpa using hr)]
    rfl
  · intro hr
    rw [e] at hr
    simp only [Option.getD_some] at hr
    rw [List.take_succ_eq_append_getElem hk, List.find?_append, h]
    simp [hr]
/-! ### Close -/
theorem pair_all : pairsE.all (fun p => joinB (famF p.1) p.2) = true := by decide +kernel
theorem pair_in (p : Int × Int) (hp : p ∈ pairsL) : p.2 ∈ fam p.1 := by
  rw [← pairsE_eq] at hp
  have := List.all_eq_true.1 pair_all p hp
  rw [famF_eq] at this
  exact (joinB_iff _ _).1 this
def one (x : Int) : Int × Int := (x, x)
def moreOf (l : List R) (p : Int × Int) : List R := if (fam p.1).any (hasB l) then (fam p.1).map one else []
def moreL (l : List R) : List R := pairsL.flatMap (moreOf l)
/-- A number is in what is closed just if one of its family is in the set. -/
def clB (l : List R) (q : Int) : Bool := decide (0 ≤ q ∧ q ≤ 1114111) && (fam q).any (hasB l)
theorem has_more (l : List R) (q : Int) : hasB (moreL l) q = true ↔ (0 ≤ q ∧ q ≤ 1114111) ∧ ∃ p ∈ pairsL, (fam p.1).any (hasB l) = true ∧ q ∈ fam p.1 := by
  rw [hasB_iff]
  constructor
  · rintro ⟨hq, x, hx, h1, h2⟩
    obtain ⟨p, hp, hx⟩ := List.mem_flatMap.1 hx
    unfold moreOf at hx
    split at hx
    · rename_i hany
      obtain ⟨y, hy, rfl⟩ := List.mem_map.1 hx
      have h1' : y ≤ q := h1
      have h2' : q ≤ y := h2
      have e : q = y := by omega
      exact ⟨hq, p, hp, hany, by rw [e]; exact hy⟩
    · cases hx
  · rintro ⟨hq, p, hp, hany, hm⟩
    refine ⟨hq, one q, List.mem_flatMap.2 ⟨p, hp, ?_⟩, Int.le_refl _, Int.le_refl _⟩
    unfold moreOf
    rw [if_pos hany]
    exact List.mem_map.2 ⟨q, hm, rfl⟩
theorem close_at (l : List R) (q : Int) : (hasB l q || hasB (moreL l) q) = clB l q := by
  rw [Bool.eq_iff_iff, Bool.or_eq_true, has_more]
  unfold clB
  rw [Bool.and_eq_true, decide_eq_true_eq]
  constructor
  · rintro (h | ⟨hq, p, hp, hany, hm⟩)
    · exact ⟨((hasB_iff l q).1 h).1, List.any_eq_true.2 ⟨q, fam_self q, h⟩⟩
    · exact ⟨hq, by rw [fam_same hm]; exact hany⟩
  · rintro ⟨hq, hany⟩
    rcases fam_cases q with ⟨_, h1⟩ | ⟨hmem, hself, _⟩
    · rw [h1] at hany
      exact .inl (by simpa using hany)
    · obtain ⟨p, hp, he⟩ := List.mem_flatMap.1 hmem
      by_cases hl : hasB l q = true
      · exact .inl hl
      · refine .inr ⟨hq, p, hp, ?_, ?_⟩
        · have : fam p.1 = fam q := by
            rcases List.mem_cons.1 he with rfl | he
            · rfl
            · have e2 : q = p.2 := by simpa using he
              rw [e2]; exact (fam_same (pair_in p hp)).symm
          rw [this]; exact hany
        · rcases List.mem_cons.1 he with rfl | he
          · exact fam_self _
          · have e2 : q = p.2 := by simpa using he
            rw [e2]; exact pair_in p hp
end Go.Proofs.YtmdpchiiamgnnaaGreatDoor.Fd
namespace Go.Proofs.YtmdpchiiamgnnaaGreatDoor.Br
open Go.Proofs.YtmdpchiiamgnnaaGreatDoor.Rg
set_option linter.unusedVariables false
/-- The union of items, closed where it is asked, and its complement where it is asked. -/
def BrIs (Xs : List It) (fold neg : Bool) (out : List R) : Prop :=
  ∃ L M, ItsIs Xs L ∧ ListOf L M ∧ NormL out ∧ ∀ q, 0 ≤ q → q ≤ 1114111 → hasB out q = (neg != (if fold = true then Fd.clB M q else hasB M q))
theorem brIs_unique {Xs : List It} {fold neg : Bool} {a b : List R} (h : BrIs Xs fold neg a) (k : BrIs Xs fold neg b) : a = b := by
  obtain ⟨L, M, h1, h2, h3, h4⟩ := h
  obtain ⟨L', M', k1, k2, k3, k4⟩ := k
  obtain rfl := itsIs_unique h1 k1
  obtain rfl := made_unique h2 k2
  exact norm_ext h3 k3 (fun q h0 h1 => by rw [h4 q h0 h1, k4 q h0 h1])
theorem brIs_plain {Xs : List It} {L M : List R} (h1 : ItsIs Xs L) (h2 : ListOf L M) : BrIs Xs false false M := ⟨L, M, h1, h2, h2.norm, fun q _ _ => by simp⟩
theorem brIs_fold {Xs : List It} {L M out : List R} (h1 : ItsIs Xs L) (h2 : ListOf L M) (h3 : NormL out) (h4 : ∀ q, hasB out q = Fd.clB M q) : BrIs Xs true false out := ⟨L, M, h1, h2, h3, fun q _ _ => by rw [h4]; simp⟩
theorem brIs_not {Xs : List It} {fold : Bool} {a out : List R} (h : BrIs Xs fold false a) (k : Made 3 [(0, 1114111)] a out) : BrIs Xs fold true out := by
  obtain ⟨L, M, h1, h2, h3, h4⟩ := h
  refine ⟨L, M, h1, h2, k.norm, fun q h0 h5 => ?_⟩
  rw [k.has q h0 h5, h4 q h0 h5]
  have e : hasB [(0, 1114111)] q = true := (hasB_iff _ _).2 ⟨⟨h0, h5⟩, (0, 1114111), by simp, h0, h5⟩
  rw [e]
  generalize (if fold = true then Fd.clB M q else hasB M q) = z
  cases z <;> rfl
/-- What an item says lies in bounds. -/
def ItOk : It → Prop
  | .cls _ => True
  | .rng lo hi => 0 ≤ lo ∧ lo ≤ hi ∧ hi ≤ 1114111
theorem item_ok (s : ByteArray) (at_ : Nat) (x : It) (next : Nat) (h : item s at_ = .ok x next) : ItOk x := by
  unfold item at h
  dsimp only at h
  split at h
  · unfold colonX at h
    dsimp only at h
    split at h
    · cases h
    split at h
    · cases h
    · cases h; trivial
  split at h
  · split at h
    · cases h; trivial
    · cases h
  split at h
  · cases h
  unfold span at h
  dsimp only at h
  have hb := Utf.bytes_drop (Utf.nums_bytes s)
  have o1 := one_cases ((Utf.nums s).drop at_) (hb _)
  split at h
  · cases h
  rename_i c
  split at h
  · cases h
    exact ⟨by omega, Int.le_refl _, by omega⟩
  split at h
  · cases h
  split at h
  · cases h
  rename_i c2
  have o2 := one_cases ((Utf.nums s).drop (at_ + (one ((Utf.nums s).drop at_)).2.1.toNat + 1)) (hb _)
  split at h
  · cases h
  · cases h
    exact ⟨by omega, by omega, by omega⟩
theorem itIs_len {X : It} {l : List R} (h : ItIs X l) : l.length ≤ 1114113 := by
  cases X with
  | cls x => have := norm_len l 0 h.1 (by omega); omega
  | rng lo hi => obtain rfl : l = [(lo, hi)] := h; simp
/-- A list of ranges, all of them runes. -/
def Runes (l : List R) : Prop := ∀ p ∈ l, 0 ≤ p.1 ∧ p.2 ≤ 1114111 ∧ p.1 ≤ p.2
theorem runes_norm {l : List R} (h : NormL l) : Runes l := fun p hp => by have := norm_lo l 0 h p hp; omega
theorem itIs_runes {X : It} {l : List R} (ho : ItOk X) (h : ItIs X l) : Runes l := by
  cases X with
  | cls x => exact runes_norm h.1
  | rng lo hi =>
    obtain rfl : l = [(lo, hi)] := h
    intro p hp
    rw [List.mem_singleton] at hp
    subst hp
    exact ⟨ho.1, ho.2.2, ho.2.1⟩
theorem runes_wide {l : List R} (h : Runes l) : Wide64 l := by
  intro p hp
  have := h p hp
  omega
theorem item_ne (s : ByteArray) (at_ : Nat) (o c : Int) (h : item s at_ = .bad o c) : c ≠ 0 := by
  unfold item at h
  dsimp only at h
  split at h
  · unfold colonX at h
    dsimp only at h
    split at h
    · cases h; decide
    split at h
    · cases h; decide
    · cases h
  split at h
  · rename_i hc
    rcases set_cases (s.extract at_ s.size) with ⟨e1, e2, e3⟩ | ⟨y, e1, e2, e3, e4⟩
    · omega
    · rw [e1] at h; cases h
  rename_i hc
  split at h
  · cases h; exact hc
  unfold span at h
  dsimp only at h
  split at h
  · rename_i h9; cases h; exact h9
  split at h
  · cases h
  split at h
  · cases h; decide
  split at h
  · rename_i h9; cases h; exact h9
  split at h
  · cases h; decide
  · cases h
theorem goesOn_len {l : List Int} (h : ¬ goesOn l = false) : 2 ≤ l.length := by
  unfold goesOn at h
  simp at h
  omega
theorem item_bad_bd (s : ByteArray) (at_ : Nat) (o c : Int) (ha : at_ ≤ s.size) (h : item s at_ = .bad o c) : 0 ≤ o ∧ o ≤ s.size := by
  unfold item at h
  dsimp only at h
  split at h
  · unfold colonX at h
    dsimp only at h
    split at h
    · cases h; omega
    split at h
    · cases h; omega
    · cases h
  split at h
  · split at h
    · cases h
    · cases h; omega
  split at h
  · cases h; omega
  unfold span at h
  dsimp only at h
  split at h
  · cases h; omega
  split at h
  · cases h
  rename_i hg
  have h2 := goesOn_len hg
  rw [List.length_drop, nums_len] at h2
  split at h
  · cases h; omega
  split at h
  · cases h; omega
  split at h
  · cases h; omega
  · cases h
theorem items_bad (s : ByteArray) (fs : Nat) : ∀ (f at_ : Nat) (Xs : List It) (o c : Int), items s fs f at_ Xs = .bad o c → 0 ≤ o ∧ o ≤ s.size ∧ c ≠ 0
  | 0, at_, Xs, o, c, h => by cases h; exact ⟨by omega, by omega, by decide⟩
  | f + 1, at_, Xs, o, c, h => by
    unfold items at h
    split at h
    · cases h; exact ⟨by omega, by omega, by decide⟩
    rename_i h1
    split at h
    · cases h
    cases hx : item s at_ with
    | bad o' c' =>
      rw [hx] at h
      cases h
      have := item_bad_bd s at_ o c (by omega) hx
      exact ⟨this.1, this.2, item_ne s at_ o c hx⟩
    | ok x next => rw [hx] at h; exact items_bad s fs f next _ o c h
theorem brack_bad {s : ByteArray} {o c : Int} (h : brack s = .bad o c) : 0 ≤ o ∧ o ≤ s.size ∧ c ≠ 0 := by
  unfold brack at h
  split at h
  · cases h; exact ⟨by omega, by omega, by decide⟩
  · exact items_bad s _ _ _ _ o c h
theorem runes_app {a b : List R} (h : Runes a) (k : Runes b) : Runes (a ++ b) := fun p hp => (List.mem_append.1 hp).elim (h p) (k p)
end Go.Proofs.YtmdpchiiamgnnaaGreatDoor.Br
namespace Go.Proofs.YtmdpchiiamgnnaaGreatDoor
open Go.RowKit
set_option linter.unusedVariables false
/-- What Set hands back. -/
def SetPost (X : Br.Cls × Int × Int) (W : World) (e : Ending) (w' : World) : Prop :=
  ∃ v out, e = .returned (.tuple #[v, .int .i64 X.2.1, .int .i64 X.2.2]) ∧ Br.SetIs X.1 out ∧ RgOwn w' W.heap.size v out ∧ Below W.heap.size W w'
theorem setIs_row {X : Br.Cls} {out : List (Int × Int)} (hc : Br.SetIs X out) {W : World} {base : Nat} {v : Value} (h : RgOwn W base v out) : RRow W v out := by
  cases X with
  | none => obtain rfl : out = [] := hc; exact h.row (by simp) (fun p hp => by cases hp)
  | some p => exact h.normRow hc.1
theorem below_drawn {W : World} (d : Nat) : Below W.heap.size W (W.drewN d) := below_drewN (Below.refl _ _) d
set_option maxRecDepth 100000 in
set_option maxHeartbeats 4000000 in
theorem property_any (W : World) (s : ByteArray) (hs : s.size ≤ 100000) (h2 : 2 ≤ s.size) (neg : Bool) (hE : Ev W) : Calls Tryz.prog 67 #[.string s, .bool neg] W (SetPost (Br.propX s neg) W) := by
  have h2i : (2 : Int) ≤ (s.size : Int) := by omega
  have hn := Br.nameX_of s h2
  have hpx : Br.propX s neg = (if (Br.nameX s).2.2 ≠ 0 then (none, 0, (Br.nameX s).2.2) else match Cl.lookC Cl.propT (Br.nameX s).1.data.toList with | none => (none, 0, 70) | some (b, T) => (some (b != neg, T), (Br.nameX s).2.1, 0)) := rfl
  have hcs := Br.nameX_cases s h2
  have hP := pname_any W (s.extract 2 s.size) (by rw [ByteArray.size_extract]; omega) hE
  rw [hn] at hpx hcs
  obtain ⟨⟨nm, n, code⟩, hp⟩ : ∃ p, Br.pname (s.extract 2 s.size) = p := ⟨_, rfl⟩
  rw [hp] at hP hpx hcs
  dsimp only at hP hpx hcs
  have HP := Lib.hid hP
  have HE := Lib.hid hE
  obtain ⟨R, hR⟩ : ∃ R, Br.propX s neg = R := ⟨_, rfl⟩
  rw [hR] at hpx ⊢
  clear hP hn hp hR hE
  by_cases hc : code = 0
  · subst hc
    rw [if_neg (by simp), if_pos rfl] at hpx
    rw [if_pos rfl] at hcs
    have hnb : 1 ≤ n ∧ n + 2 ≤ s.size := by omega
    have hw : IntKind.i64.wrap (2 + n) = n + 2 := by rw [IntKind.wrap_i64]; omega
    have HPX := Lib.hid hpx
    clear hpx hcs
    cases neg with
    | false =>
      go_enter Tryz.func67, Tryz.ntmps67
      go_wp2_with fail
      refine HP.out.mono ?_
      rintro e w' ⟨rfl, d, rfl⟩
      go_wp2_with fail
      refine (cProp_any _ nm (HE.out.drewN d).spaces).mono ?_
      rintro e w2 ⟨v, out, c2, rfl, hc2, ho, hb⟩
      have HO : Hid (RgOwn w2 W.heap.size v out) := Lib.hid ho
      have HB : Hid (Below W.heap.size W w2) := Lib.hid ((below_drawn (W := W) d).trans hb)
      cases hl : Cl.lookC Cl.propT nm.data.toList with
      | none =>
        rw [hl] at hc2
        obtain ⟨rfl, rfl⟩ := hc2
        have HR : Hid (R = (none, 0, 70)) := Lib.hid (by rw [HPX.out, hl])
        clear ho hb hl
        go_wp2
        go_ret3
        rw [HR.out]
        exact ⟨.slice none 0 0, [], rfl, rfl, RgOwn.nil, HB.out⟩
      | some x =>
        obtain ⟨b, T⟩ := x
        rw [hl] at hc2
        have HS := Lib.hid (Br.setIs_of hc2)
        obtain rfl : c2 = 0 := hc2.1
        have HR : Hid (R = (some (b != false, T), n + 2, 0)) := Lib.hid (by rw [HPX.out, hl])
        clear ho hb hl hc2
        go_wp2
        go_ret3
        rw [HR.out]
        exact ⟨v, out, rfl, by simpa using HS.out, HO.out, HB.out⟩
    | true =>
      go_enter Tryz.func67, Tryz.ntmps67
      go_wp2_with fail
      refine HP.out.mono ?_
      rintro e w' ⟨rfl, d, rfl⟩
      go_wp2_with fail
      refine (cProp_any _ nm (HE.out.drewN d).spaces).mono ?_
      rintro e w2 ⟨v, out, c2, rfl, hc2, ho, hb⟩
      have HO : Hid (RgOwn w2 W.heap.size v out) := Lib.hid ho
      have HB : Hid (Below W.heap.size W w2) := Lib.hid ((below_drawn (W := W) d).trans hb)
      cases hl : Cl.lookC Cl.propT nm.data.toList with
      | none =>
        rw [hl] at hc2
        obtain ⟨rfl, rfl⟩ := hc2
        have HR : Hid (R = (none, 0, 70)) := Lib.hid (by rw [HPX.out, hl])
        clear ho hb hl
        go_wp2
        go_ret3
        rw [HR.out]
        exact ⟨.slice none 0 0, [], rfl, rfl, RgOwn.nil, HB.out⟩
      | some x =>
        obtain ⟨b, T⟩ := x
        rw [hl] at hc2
        have HS := Lib.hid (Br.setIs_of hc2)
        obtain rfl : c2 = 0 := hc2.1
        have HR : Hid (R = (some (b != true, T), n + 2, 0)) := Lib.hid (by rw [HPX.out, hl])
        clear ho hb hl hc2
        go_wp2_with fail
        refine (not_any _ v out (setIs_row HS.out HO.out)).mono ?_
        rintro e w3 ⟨v3, out3, rfl, hm3, ho3, hb3⟩
        have HS3 := Lib.hid (Br.setIs_not HS.out hm3)
        have HO3 := Lib.hid (ho3.lower HB.out.size)
        have HB3 := Lib.hid (HB.out.trans (hb3.mono HB.out.size))
        clear hm3 ho3 hb3
        go_wp2
        go_ret3
        rw [HR.out]
        exact ⟨v3, out3, rfl, by simpa using HS3.out, HO3.out, HB3.out⟩
  · have hc0 : (code != 0) = true := by simpa using hc
    rw [if_pos hc] at hpx
    have HR := Lib.hid hpx
    clear hpx hcs
    go_enter Tryz.func67, Tryz.ntmps67
    go_wp2_with fail
    refine HP.out.mono ?_
    rintro e w' ⟨rfl, d, rfl⟩
    go_wp2
    go_ret3
    rw [HR.out]
    exact ⟨.slice none 0 0, [], rfl, rfl, RgOwn.nil, below_drawn d⟩
end Go.Proofs.YtmdpchiiamgnnaaGreatDoor
namespace Go.Proofs.YtmdpchiiamgnnaaGreatDoor
open Go.RowKit
set_option linter.unusedVariables false
set_option maxRecDepth 100000 in
set_option maxHeartbeats 4000000 in
theorem bSet_any (W : World) (s : ByteArray) (hs : s.size ≤ 100000) (hE : Ev W) : Calls Tryz.prog 39 #[.string s] W (SetPost (Br.set s) W) := by
  have hp := hasPre1 W s 92 (by decide)
  rw [show (((92 : UInt8).toNat : Nat) : Int) = 92 from rfl] at hp
  have hset : Br.set s = (if (Utf.nums s)[0]?.getD 0 ≠ 92 then (none, 0, 3) else if s.size = 1 then (none, 0, 5) else if (Utf.nums s)[1]?.getD 0 = 80 then Br.propX s true else if (Utf.nums s)[1]?.getD 0 = 112 then Br.propX s false else match Cl.letterX ((Utf.nums s)[1]?.getD 0) with | none => (none, 0, 5) | some x => (some x, 2, 0)) := by
    unfold Br.set
    dsimp only
    rw [Utf.nums_length]
    rfl
  have HE := Lib.hid hE
  obtain ⟨R, hR⟩ : ∃ R, Br.set s = R := ⟨_, rfl⟩
  rw [hR] at hset ⊢
  clear hE hR
  by_cases c0 : ¬ (Utf.nums s)[0]?.getD 0 = 92
  · have HR : Hid (R = (none, 0, 3)) := Lib.hid (by rw [hset, if_pos c0])
    rw [decide_eq_false c0] at hp
    have HP := Lib.hid hp
    clear hset hp c0
    go_enter Tryz.func39, Tryz.ntmps39
    go_wp2_with (go_at_call 22; refine HP.out.mono ?_; rintro e w' ⟨rfl, rfl⟩)
    go_ret3
    rw [HR.out]
    exact ⟨.slice none 0 0, [], rfl, rfl, RgOwn.nil, Below.refl _ _⟩
  have c0' : (Utf.nums s)[0]?.getD 0 = 92 := by omega
  rw [decide_eq_true c0'] at hp
  have HP := Lib.hid hp
  rw [if_neg (by omega)] at hset
  have h0 : 0 < s.size := by
    rcases Nat.lt_or_ge 0 s.size with h | h
    · exact h
    · rw [List.getElem?_eq_none (by rw [Utf.nums_length]; omega)] at c0'; cases c0'
  by_cases c1 : s.size = 1
  · have HR : Hid (R = (none, 0, 5)) := Lib.hid (by rw [hset, if_pos c1])
    have h1 : ((s.size : Int) == 1) = true := by simp [c1]
    clear hset hp c0 c0' c1
    go_enter Tryz.func39, Tryz.ntmps39
    go_wp2_with (go_at_call 22; refine HP.out.mono ?_; rintro e w' ⟨rfl, rfl⟩)
    go_ret3
    rw [HR.out]
    exact ⟨.slice none 0 0, [], rfl, rfl, RgOwn.nil, Below.refl _ _⟩
  have h1 : ((s.size : Int) == 1) = false := by simp; omega
  have h2 : 1 < s.size := by omega
  have h2i : (1 : Int) < (s.size : Int) := by omega
  have hb : s[1].toNat < 256 := UInt8.toNat_lt _
  have hat : (Utf.nums s)[1]?.getD 0 = (s[1].toNat : Int) := Utf.nums_at s 1 h2
  rw [if_neg c1, hat] at hset
  clear hp c0 c0' c1 hat
  by_cases c2 : (s[1].toNat : Int) = 80
  · rw [if_pos c2] at hset
    have HC := Lib.hid (property_any W s hs h2 true HE.out)
    rw [← hset] at HC
    clear hset
    go_enter Tryz.func39, Tryz.ntmps39
    go_wp2_with fail
    refine HP.out.mono ?_
    rintro e w' ⟨rfl, rfl⟩
    go_wp2_with fail
    refine HC.out.mono ?_
    rintro e w' ⟨v, out, rfl, h7, h8, h9⟩
    have H7 := Lib.hid (And.intro h7 (And.intro h8 h9))
    clear h7 h8 h9
    go_wp2
    go_ret3
    exact ⟨v, out, rfl, H7.out⟩
  rw [if_neg c2] at hset
  have c2b : ((s[1].toNat : Int) == 80) = false := by simpa using c2
  by_cases c3 : (s[1].toNat : Int) = 112
  · rw [if_pos c3] at hset
    have HC := Lib.hid (property_any W s hs h2 false HE.out)
    rw [← hset] at HC
    clear hset c2
    go_enter Tryz.func39, Tryz.ntmps39
    go_wp2_with fail
    refine HP.out.mono ?_
    rintro e w' ⟨rfl, rfl⟩
    go_wp2_with fail
    refine HC.out.mono ?_
    rintro e w' ⟨v, out, rfl, h7, h8, h9⟩
    have H7 := Lib.hid (And.intro h7 (And.intro h8 h9))
    clear h7 h8 h9
    go_wp2
    go_ret3
    exact ⟨v, out, rfl, H7.out⟩
  rw [if_neg c3] at hset
  have c3b : ((s[1].toNat : Int) == 112) = false := by simpa using c3
  have HC := Lib.hid (cLetter_any W (s[1].toNat : Int) HE.out.spaces)
  obtain ⟨X, hX⟩ : ∃ X, Cl.letterX (s[1].toNat : Int) = X := ⟨_, rfl⟩
  rw [hX] at HC hset
  cases X with
  | none =>
    have HR : Hid (R = (none, 0, 5)) := Lib.hid hset
    clear hset hX c2 c3
    go_enter Tryz.func39, Tryz.ntmps39
    go_wp2_with fail
    refine HP.out.mono ?_
    rintro e w' ⟨rfl, rfl⟩
    go_wp2_with fail
    refine HC.out.mono ?_
    rintro e w2 ⟨v, out, c9, rfl, hc9, ho, hb9⟩
    obtain ⟨rfl, rfl⟩ := hc9
    have HB := Lib.hid hb9
    clear ho hb9
    go_wp2
    go_ret3
    rw [HR.out]
    exact ⟨.slice none 0 0, [], rfl, rfl, RgOwn.nil, HB.out⟩
  | some x =>
    have HR : Hid (R = (some x, 2, 0)) := Lib.hid hset
    clear hset hX c2 c3
    go_enter Tryz.func39, Tryz.ntmps39
    go_wp2_with fail
    refine HP.out.mono ?_
    rintro e w' ⟨rfl, rfl⟩
    go_wp2_with fail
    refine HC.out.mono ?_
    rintro e w2 ⟨v, out, c9, rfl, hc9, ho, hb9⟩
    have HS := Lib.hid (Br.setIs_of hc9)
    obtain rfl : c9 = 0 := hc9.1
    have HB := Lib.hid hb9
    have HO := Lib.hid ho
    clear ho hb9 hc9
    go_wp2
    go_ret3
    rw [HR.out]
    exact ⟨v, out, rfl, HS.out, HO.out, HB.out⟩
end Go.Proofs.YtmdpchiiamgnnaaGreatDoor
