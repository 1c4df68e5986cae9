/- The core of a tree: mathematics without fuel (counts, height, weight, nullable, the core itself). -/
import Derived.Test.YthhdlcckboiecaaGp20
import Derived.Test.YthhdlcckboiecaaGp25
import Derived.Test.YthhdlcckboiecaaGp4
import Derived.Test.YthhdlcckboiecaaGp11
namespace Go.Proofs.Ythhdlcckboiecaa
open Go.RowKit
set_option linter.unusedVariables false
set_option linter.unusedSimpArgs false
namespace Nm
theorem sz_sub {n m : Nd} (h : m ∈ Td.subs n) : SizeOf.sizeOf m < SizeOf.sizeOf n := by
  cases n with
  | mk k s num nm mn mx lz l =>
    have h2 := List.sizeOf_lt_of_mem (show m ∈ l from h)
    simp only [Nd.mk.sizeOf_spec]
    omega
theorem nd_ind {p : Nd → Prop} (h : ∀ n, (∀ m ∈ Td.subs n, p m) → p n) (n : Nd) : p n :=
  (measure (SizeOf.sizeOf : Nd → Nat)).wf.induction n (fun n ih => h n (fun m hm => ih m (sz_sub hm)))
/-- A function of a tree, out of its parts' values. -/
def foldN {α : Type} (f : Nd → List α → α) (n : Nd) : α := f n ((Td.subs n).attach.map (fun m => foldN f m.1))
  termination_by SizeOf.sizeOf n
  decreasing_by exact sz_sub m.2
theorem foldN_eq {α : Type} (f : Nd → List α → α) (n : Nd) : foldN f n = f n ((Td.subs n).map (foldN f)) := by
  rw [foldN]
  congr 1
  exact List.attach_map_val ..
/-- How many nodes. -/
def cnt : Nd → Nat := foldN (fun _ l => 1 + l.sum)
theorem cnt_eq (n : Nd) : cnt n = 1 + ((Td.subs n).map cnt).sum := foldN_eq _ n
/-- How deep. -/
def hgt : Nd → Nat := foldN (fun _ l => l.foldl max 0 + 1)
theorem hgt_eq (n : Nd) : hgt n = ((Td.subs n).map hgt).foldl max 0 + 1 := foldN_eq _ n
def wtS (n : Nd) (l : List Nat) : Nat :=
  if Td.kind n = 6 ∨ Td.kind n = 7 ∨ Td.kind n = 8 then min 4001 (1 + min 4001 l.sum) else
  if Td.kind n = 9 then (if max (Td.mn n) 0 = 0 ∧ Td.mx n ≤ 0 ∧ Td.mx n ≠ -1 then 1 else repW (Td.mn n) (Td.mx n) (min 4001 l.sum)) else 1
/-- The weight. -/
def wtI : Nd → Nat := foldN wtS
theorem wtI_eq (n : Nd) : wtI n = wtS n ((Td.subs n).map wtI) := foldN_eq _ n
theorem wt_678 {n : Nd} (h : Td.kind n = 6 ∨ Td.kind n = 7 ∨ Td.kind n = 8) : wtI n = min 4001 (1 + min 4001 ((Td.subs n).map wtI).sum) := by rw [wtI_eq, wtS, if_pos h]
theorem wt_9 {n : Nd} (h : Td.kind n = 9) : wtI n = if max (Td.mn n) 0 = 0 ∧ Td.mx n ≤ 0 ∧ Td.mx n ≠ -1 then 1 else repW (Td.mn n) (Td.mx n) (min 4001 ((Td.subs n).map wtI).sum) := by rw [wtI_eq, wtS, if_neg (by omega), if_pos h]
theorem wt_1 {n : Nd} (h : Td.kind n ≠ 6 ∧ Td.kind n ≠ 7 ∧ Td.kind n ≠ 8 ∧ Td.kind n ≠ 9) : wtI n = 1 := by rw [wtI_eq, wtS, if_neg (by omega), if_neg h.2.2.2]
theorem wt_rep {a b : Int} {lz : Bool} {s : List (Int × Int)} {nm : ByteArray} {num : Int} {m : Nd} (h : ¬ (max a 0 = 0 ∧ b ≤ 0 ∧ b ≠ -1)) : wtI (.mk 9 s num nm a b lz [m]) = repW a b (min 4001 (wtI m)) := by
  rw [wt_9 rfl, if_neg (by exact h)]
  show repW a b (min 4001 ([m].map wtI).sum) = _
  rw [List.map_cons, List.map_nil, List.sum_cons, List.sum_nil, Nat.add_zero]
theorem wt_rep0 {a b : Int} {lz : Bool} {s : List (Int × Int)} {nm : ByteArray} {num : Int} {m : Nd} (h : max a 0 = 0 ∧ b ≤ 0 ∧ b ≠ -1) : wtI (.mk 9 s num nm a b lz [m]) = 1 := by
  rw [wt_9 rfl, if_pos (by exact h)]
def nulS (n : Nd) (l : List Bool) : Bool :=
  if Td.kind n = 1 ∨ Td.kind n = 5 then true else if Td.kind n = 6 ∨ Td.kind n = 7 then l.all id else if Td.kind n = 8 then l.any id else if Td.kind n = 9 then Td.mn n == 0 || l.all id else false
def nulI : Nd → Bool := foldN nulS
theorem nulI_eq (n : Nd) : nulI n = nulS n ((Td.subs n).map nulI) := foldN_eq _ n
def optI (n : Nd) : Int := if Td.mx n = -1 then -1 else Td.mx n - Td.mn n
def restN (n x : Nd) : Nd := .mk 9 [] 0 ⟨#[]⟩ 0 (optI n) (Td.lazy n) [x]
def repS (n x : Nd) : Nd := if Td.mx n = 0 then leaf1 else if Td.kind x = 1 then x else
  if Td.mx n = Td.mn n then catN (List.replicate (Td.mn n).toNat x) else catN (List.replicate (Td.mn n).toNat x ++ [restN n x])
def coreS (n : Nd) (l : List Nd) : Nd :=
  if Td.kind n = 6 then .mk 6 [] (Td.num n) ⟨#[]⟩ 0 0 false l else if Td.kind n = 7 then catN l else
  if Td.kind n = 8 then .mk 8 [] 0 ⟨#[]⟩ 0 0 false (altL l) else if Td.kind n = 9 then repS n (l.headD leaf1) else .mk (Td.kind n) (Td.set n) (Td.num n) ⟨#[]⟩ 0 0 false []
/-- The core. -/
def coreI : Nd → Nd := foldN coreS
theorem coreI_eq (n : Nd) : coreI n = coreS n ((Td.subs n).map coreI) := foldN_eq _ n
theorem cnt_pos (n : Nd) : 1 ≤ cnt n := by rw [cnt_eq]; omega
theorem hgt_pos (n : Nd) : 1 ≤ hgt n := by rw [hgt_eq]; omega
theorem max_in : ∀ (l : List Nat) (a x : Nat), (x ∈ l ∨ x ≤ a) → x ≤ l.foldl max a
  | [], a, x, h => by rcases h with h | h; cases h; exact h
  | y :: l, a, x, h => by
    refine max_in l (max a y) x ?_
    rcases h with h | h
    · rcases List.mem_cons.1 h with rfl | h
      · exact .inr (by omega)
      · exact .inl h
    · exact .inr (by omega)
theorem hgt_sub {n m : Nd} (h : m ∈ Td.subs n) : hgt m < hgt n := by
  rw [hgt_eq n]
  have := max_in ((Td.subs n).map hgt) 0 (hgt m) (.inl (List.mem_map_of_mem h))
  omega
theorem hgt_le {n : Nd} {k : Nat} (h : ∀ m ∈ Td.subs n, hgt m ≤ k) : hgt n ≤ k + 1 := by
  rw [hgt_eq]
  have := Td.foldl_max_le ((Td.subs n).map hgt) 0 k (fun x hx => by
    obtain ⟨m, hm, rfl⟩ := List.mem_map.1 hx
    exact h m hm) (by omega)
  omega
theorem wt_st : ∀ (k : Nat) (n : Nd), hgt n ≤ k → wtN k n = wtI n
  | 0, n, h => by have := hgt_pos n; omega
  | k + 1, n, h => by
    have e : (Td.subs n).map (wtN k) = (Td.subs n).map wtI := List.map_congr_left (fun m hm => wt_st k m (by have := hgt_sub hm; omega))
    rw [wtN, wtI_eq, wtS, e]
theorem all_cnt : ∀ (k d : Nat) (n : Nd), hgt n ≤ k → (Td.all k d n).length = cnt n
  | 0, d, n, h => by have := hgt_pos n; omega
  | k + 1, d, n, h => by
    rw [Td.all, List.length_cons, List.length_flatMap, cnt_eq]
    have e : (Td.subs n).map (fun m => (Td.all k (d + 1) m).length) = (Td.subs n).map cnt := List.map_congr_left (fun m hm => all_cnt k (d + 1) m (by have := hgt_sub hm; omega))
    rw [e]; omega
theorem dep_st : ∀ (k : Nat) (n : Nd), hgt n ≤ k → Td.dep k n = hgt n
  | 0, n, h => by have := hgt_pos n; omega
  | k + 1, n, h => by
    have e : (Td.subs n).map (Td.dep k) = (Td.subs n).map hgt := List.map_congr_left (fun m hm => dep_st k m (by have := hgt_sub hm; omega))
    rw [Td.dep, hgt_eq, e]
theorem hgt_of : ∀ (k : Nat) (n : Nd), Td.dep (k + 1) n ≤ k → hgt n ≤ k
  | 0, n, h => by rw [Td.dep] at h; omega
  | k + 1, n, h => by
    refine hgt_le (fun m hm => hgt_of k m ?_)
    rw [Td.dep] at h
    have := max_in ((Td.subs n).map (Td.dep (k + 1))) 0 (Td.dep (k + 1) m) (.inl (List.mem_map_of_mem hm))
    omega
/-- So of each node. -/
inductive AllN (Q : Nd → Prop) : Nd → Prop where
  | mk {n : Nd} (h : Q n) (hs : ∀ m, m ∈ Td.subs n → AllN Q m) : AllN Q n
theorem AllN.here {Q : Nd → Prop} {n : Nd} (h : AllN Q n) : Q n := by cases h with | mk h _ => exact h
theorem AllN.sub {Q : Nd → Prop} {n m : Nd} (h : AllN Q n) (hm : m ∈ Td.subs n) : AllN Q m := by cases h with | mk _ h => exact h m hm
theorem AllN.mono {Q Q' : Nd → Prop} (hq : ∀ n, Q n → Q' n) {n : Nd} (h : AllN Q n) : AllN Q' n := by
  induction h with
  | mk h _ ih => exact .mk (hq _ h) ih
theorem allN_of {Q : Nd → Prop} : ∀ (k d : Nat) (n : Nd), hgt n ≤ k → (∀ p ∈ Td.all k d n, Q p.2) → AllN Q n
  | 0, d, n, h, _ => by have := hgt_pos n; omega
  | k + 1, d, n, h, ha => by
    rw [Td.all] at ha
    exact .mk (ha (d, n) (by simp)) (fun m hm => allN_of k (d + 1) m (by have := hgt_sub hm; omega) (fun p hp => ha p (List.mem_cons_of_mem _ (List.mem_flatMap.2 ⟨m, hm, hp⟩))))
theorem AllN.all {Q : Nd → Prop} : ∀ (k d : Nat) {n : Nd}, AllN Q n → ∀ p ∈ Td.all k d n, Q p.2
  | 0, d, n, h, p, hp => by rw [Td.all] at hp; cases hp
  | k + 1, d, n, h, p, hp => by
    rw [Td.all] at hp
    rcases List.mem_cons.1 hp with rfl | hp
    · exact h.here
    · obtain ⟨m, hm, hp⟩ := List.mem_flatMap.1 hp
      exact AllN.all k (d + 1) (h.sub hm) p hp
theorem nil_isE : (⟨#[]⟩ : ByteArray).toList.isEmpty = true := by simp [ByteArray.toList_eq]
theorem isE_nil {s : ByteArray} (h : s.toList.isEmpty = true) : s = ⟨#[]⟩ := noNm (by simpa using h)
/-- What a node is whose fields are right. -/
theorem fits_cases {n : Nd} (h : Td.fitsB n = true) :
    (∃ k, (k = 1 ∨ k = 2 ∨ k = 4) ∧ n = .mk k [] 0 ⟨#[]⟩ 0 0 false []) ∨ (∃ s, s ≠ [] ∧ Rg.checkF none s = 0 ∧ n = .mk 3 s 0 ⟨#[]⟩ 0 0 false []) ∨ (∃ a, 1 ≤ a ∧ a ≤ 6 ∧ n = .mk 5 [] a ⟨#[]⟩ 0 0 false []) ∨
    (∃ a nm m, 1 ≤ a ∧ n = .mk 6 [] a nm 0 0 false [m]) ∨ (∃ k l, (k = 7 ∨ k = 8) ∧ 2 ≤ l.length ∧ n = .mk k [] 0 ⟨#[]⟩ 0 0 false l) ∨ (∃ a b lz m, 0 ≤ a ∧ a ≤ 1000 ∧ (b = -1 ∨ a ≤ b ∧ b ≤ 1000) ∧ n = .mk 9 [] 0 ⟨#[]⟩ a b lz [m]) := by
  obtain ⟨K, s, num, nm, mn, mx, lz, l⟩ := n
  unfold Td.fitsB at h
  simp only [Td.kind, Td.num, Td.mn, Td.mx, Td.subs, Td.set, Td.name, Td.lazy] at h
  unfold Td.fitsV at h
  by_cases k1 : K = 1 ∨ K = 2 ∨ K = 4
  · rw [if_pos k1] at h
    simp only [Bool.and_eq_true, beq_iff_eq, Bool.not_eq_true'] at h
    obtain ⟨h1, h2, h3, ⟨h4, h5⟩, h6, h7⟩ := h
    obtain rfl : s = [] := List.length_eq_zero_iff.1 (by omega)
    obtain rfl : l = [] := List.length_eq_zero_iff.1 (by omega)
    rw [isE_nil h3]; subst h2 h4 h5 h6
    exact .inl ⟨K, k1, rfl⟩
  rw [if_neg k1] at h
  by_cases k3 : K = 3
  · rw [if_pos k3] at h
    simp only [Bool.and_eq_true, beq_iff_eq, Bool.not_eq_true'] at h
    obtain ⟨h1, h8, h2, h3, ⟨h4, h5⟩, h6, h7⟩ := h
    obtain rfl : l = [] := List.length_eq_zero_iff.1 (by omega)
    rw [isE_nil h3]; subst h2 h4 h5 h6 k3
    exact .inr (.inl ⟨s, by rintro rfl; exact absurd h1 (by decide), h8, rfl⟩)
  rw [if_neg k3] at h
  by_cases k5 : K = 5
  · rw [if_pos k5] at h
    simp only [Bool.and_eq_true, beq_iff_eq, Bool.not_eq_true', decide_eq_true_eq] at h
    obtain ⟨h1, h2, h8, h3, ⟨h4, h5⟩, h6, h7⟩ := h
    obtain rfl : s = [] := List.length_eq_zero_iff.1 (by omega)
    obtain rfl : l = [] := List.length_eq_zero_iff.1 (by omega)
    rw [isE_nil h3]; subst h4 h5 h6 k5
    exact .inr (.inr (.inl ⟨num, h2, h8, rfl⟩))
  rw [if_neg k5] at h
  by_cases k6 : K = 6
  · rw [if_pos k6] at h
    simp only [Bool.and_eq_true, beq_iff_eq, Bool.not_eq_true', decide_eq_true_eq] at h
    obtain ⟨h1, h2, h3, ⟨h4, h5⟩, h6, h7⟩ := h
    obtain rfl : s = [] := List.length_eq_zero_iff.1 (by omega)
    obtain ⟨m, rfl⟩ : ∃ m, l = [m] := List.length_eq_one_iff.1 (by omega)
    subst h4 h5 h6 k6
    exact .inr (.inr (.inr (.inl ⟨num, nm, m, h2, rfl⟩)))
  rw [if_neg k6] at h
  by_cases k7 : K = 7 ∨ K = 8
  · rw [if_pos k7] at h
    simp only [Bool.and_eq_true, beq_iff_eq, Bool.not_eq_true', decide_eq_true_eq] at h
    obtain ⟨h1, h2, h3, ⟨h4, h5⟩, h6, h7⟩ := h
    obtain rfl : s = [] := List.length_eq_zero_iff.1 (by omega)
    rw [isE_nil h3]; subst h2 h4 h5 h6
    exact .inr (.inr (.inr (.inr (.inl ⟨K, l, k7, by omega, rfl⟩))))
  rw [if_neg k7] at h
  by_cases k9 : K = 9
  · rw [if_pos k9] at h
    simp only [Bool.and_eq_true, beq_iff_eq, Bool.not_eq_true', decide_eq_true_eq, Bool.or_eq_true] at h
    obtain ⟨h1, h2, h3, h4, h5, h6, h7⟩ := h
    obtain rfl : s = [] := List.length_eq_zero_iff.1 (by omega)
    obtain ⟨m, rfl⟩ : ∃ m, l = [m] := List.length_eq_one_iff.1 (by omega)
    rw [isE_nil h3]; subst h2 k9
    exact .inr (.inr (.inr (.inr (.inr ⟨mn, mx, lz, m, h4, h5, h6, rfl⟩))))
  rw [if_neg k9] at h
  cases h
theorem fitsB_leaf {k : Int} (h : k = 1 ∨ k = 2 ∨ k = 4) : Td.fitsB (.mk k [] 0 ⟨#[]⟩ 0 0 false []) = true := by
  unfold Td.fitsB
  simp only [Td.kind, Td.num, Td.mn, Td.mx, Td.subs, Td.set, Td.name, Td.lazy]
  unfold Td.fitsV
  rw [if_pos h, nil_isE]; rfl
theorem fitsB_set {s : List (Int × Int)} (h : s ≠ []) (h2 : Rg.checkF none s = 0) : Td.fitsB (.mk 3 s 0 ⟨#[]⟩ 0 0 false []) = true := by
  unfold Td.fitsB
  simp only [Td.kind, Td.num, Td.mn, Td.mx, Td.subs, Td.set, Td.name, Td.lazy]
  unfold Td.fitsV
  rw [if_neg (by omega), if_pos rfl, nil_isE, h2]
  have : ((s.length : Int) == 0) = false := by
    rw [beq_eq_false_iff_ne]
    intro e
    exact h (List.length_eq_zero_iff.1 (by omega))
  rw [this]; rfl
theorem fitsB_about {a : Int} (h : 1 ≤ a) (h2 : a ≤ 6) : Td.fitsB (.mk 5 [] a ⟨#[]⟩ 0 0 false []) = true := by
  unfold Td.fitsB
  simp only [Td.kind, Td.num, Td.mn, Td.mx, Td.subs, Td.set, Td.name, Td.lazy]
  unfold Td.fitsV
  rw [if_neg (by omega), if_neg (by omega), if_pos rfl, nil_isE, decide_eq_true h, decide_eq_true h2]; rfl
theorem fitsB_group {a : Int} {m : Nd} (h : 1 ≤ a) : Td.fitsB (.mk 6 [] a ⟨#[]⟩ 0 0 false [m]) = true := by
  unfold Td.fitsB
  simp only [Td.kind, Td.num, Td.mn, Td.mx, Td.subs, Td.set, Td.name, Td.lazy]
  unfold Td.fitsV
  rw [if_neg (by omega), if_neg (by omega), if_neg (by omega), if_pos rfl, nil_isE, decide_eq_true h]; rfl
theorem fitsB_many {k : Int} {l : List Nd} (h : k = 7 ∨ k = 8) (h2 : 2 ≤ l.length) : Td.fitsB (.mk k [] 0 ⟨#[]⟩ 0 0 false l) = true := by
  unfold Td.fitsB
  simp only [Td.kind, Td.num, Td.mn, Td.mx, Td.subs, Td.set, Td.name, Td.lazy]
  unfold Td.fitsV
  rw [if_neg (by omega), if_neg (by omega), if_neg (by omega), if_neg (by omega), if_pos h, nil_isE, decide_eq_true (show (2 : Int) ≤ l.length by omega)]; rfl
theorem fitsB_rep {a b : Int} {lz : Bool} {m : Nd} (h : 0 ≤ a) (h2 : a ≤ 1000) (h3 : b = -1 ∨ a ≤ b ∧ b ≤ 1000) : Td.fitsB (.mk 9 [] 0 ⟨#[]⟩ a b lz [m]) = true := by
  unfold Td.fitsB
  simp only [Td.kind, Td.num, Td.mn, Td.mx, Td.subs, Td.set, Td.name, Td.lazy]
  unfold Td.fitsV
  rw [if_neg (by omega), if_neg (by omega), if_neg (by omega), if_neg (by omega), if_neg (by omega), if_pos rfl, nil_isE, decide_eq_true h, decide_eq_true h2]
  have : (b == -1 || (decide (a ≤ b) && decide (b ≤ 1000))) = true := by
    rcases h3 with h3 | h3
    · rw [h3]; rfl
    · rw [decide_eq_true h3.1, decide_eq_true h3.2, Bool.or_eq_true]; exact .inr rfl
  rw [this]; rfl
/-- A node of a tree that Check takes; of a core. -/
def Qt (P : Int → Prop) (n : Nd) : Prop := Td.fitsB n = true ∧ (Td.kind n = 6 → P (Td.num n))
def Qc (P : Int → Prop) (n : Nd) : Prop := Td.fitsB n = true ∧ fitK n = true ∧ (Td.kind n = 6 → P (Td.num n))
theorem fitK_cat {n : Nd} (h : fitK n = true) (hk : Td.kind n = 7) : ∀ x ∈ Td.subs n, Td.kind x ≠ 7 ∧ Td.kind x ≠ 1 := fun x hx => by
  unfold fitK at h
  rw [if_neg (by omega), if_pos hk, Bool.not_eq_true', List.any_eq_false] at h
  have := h x hx
  simp at this
  exact this
theorem fitK_alt {n : Nd} (h : fitK n = true) (hk : Td.kind n = 8) : ∀ x ∈ Td.subs n, Td.kind x ≠ 8 := fun x hx => by
  unfold fitK at h
  rw [if_neg (by omega), if_neg (by omega), if_pos hk, Bool.not_eq_true', List.any_eq_false] at h
  have := h x hx
  simp at this
  exact this
theorem fitK_group {n : Nd} (h : fitK n = true) (hk : Td.kind n = 6) : 1 ≤ Td.num n ∧ Td.num n ≤ 31 ∧ Td.name n = ⟨#[]⟩ := by
  unfold fitK at h
  rw [if_pos hk, Bool.and_eq_true, Bool.and_eq_true, decide_eq_true_eq, decide_eq_true_eq, decide_eq_true_eq] at h
  exact ⟨h.1.1, h.1.2, h.2⟩
theorem fitK_cat' {n : Nd} (hk : Td.kind n = 7) (h : ∀ x ∈ Td.subs n, Td.kind x ≠ 7 ∧ Td.kind x ≠ 1) : fitK n = true := by
  unfold fitK
  rw [if_neg (by omega), if_pos hk, Bool.not_eq_true', List.any_eq_false]
  intro x hx
  have := h x hx
  simp [this.1, this.2]
theorem fitK_alt' {n : Nd} (hk : Td.kind n = 8) (h : ∀ x ∈ Td.subs n, Td.kind x ≠ 8) : fitK n = true := by
  unfold fitK
  rw [if_neg (by omega), if_neg (by omega), if_pos hk, Bool.not_eq_true', List.any_eq_false]
  intro x hx
  have := h x hx
  simp [this]
theorem fitK_rep' {n : Nd} (hk : Td.kind n = 9) (h0 : Td.mn n = 0) (h1 : Td.mx n ≠ 0) (h : ∀ x ∈ Td.subs n, Td.kind x ≠ 1) : fitK n = true := by
  unfold fitK
  rw [if_neg (by omega), if_neg (by omega), if_neg (by omega), if_pos hk, decide_eq_true h0, decide_eq_true h1, Bool.and_eq_true, Bool.not_eq_true', List.any_eq_false]
  refine ⟨rfl, fun x hx => ?_⟩
  have := h x hx
  simp [this]
theorem fitK_group' {n : Nd} (hk : Td.kind n = 6) (h0 : 1 ≤ Td.num n) (h1 : Td.num n ≤ 31) (h : Td.name n = ⟨#[]⟩) : fitK n = true := by
  unfold fitK
  rw [if_pos hk, decide_eq_true h0, decide_eq_true h1, decide_eq_true h]; rfl
theorem fitK_other {n : Nd} (h : Td.kind n ≠ 6 ∧ Td.kind n ≠ 7 ∧ Td.kind n ≠ 8 ∧ Td.kind n ≠ 9) : fitK n = true := by
  unfold fitK
  rw [if_neg h.1, if_neg h.2.1, if_neg h.2.2.1, if_neg h.2.2.2]
theorem leaf_ok (P : Int → Prop) : AllN (Qc P) leaf1 := .mk ⟨fitsB_leaf (.inl rfl), fitK_other (by unfold leaf1; simp [Td.kind]), fun e => by unfold leaf1 at e; simp [Td.kind] at e⟩ (fun m hm => by unfold leaf1 at hm; cases hm)
end Nm
end Go.Proofs.Ythhdlcckboiecaa
