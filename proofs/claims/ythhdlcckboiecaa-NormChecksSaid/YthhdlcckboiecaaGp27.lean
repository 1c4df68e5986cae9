/- The core of a tree is a core. -/
import Derived.Test.YthhdlcckboiecaaGp26
namespace Go.Proofs.Ythhdlcckboiecaa
open Go.RowKit
set_option linter.unusedVariables false
set_option linter.unusedSimpArgs false
namespace Nm
def sumC (A : List Nd) : Nat := (A.map cnt).sum
theorem sumC_app (A B : List Nd) : sumC (A ++ B) = sumC A + sumC B := by unfold sumC; rw [List.map_append, List.sum_append]
theorem sumC_cons (a : Nd) (B : List Nd) : sumC (a :: B) = cnt a + sumC B := by unfold sumC; rw [List.map_cons, List.sum_cons]
theorem sumC_nil : sumC [] = 0 := rfl
theorem len_sumC : ∀ A : List Nd, A.length ≤ sumC A
  | [] => Nat.zero_le _
  | a :: A => by
    have := len_sumC A
    have := cnt_pos a
    rw [sumC_cons, List.length_cons]; omega
theorem cnt_subs (n : Nd) : cnt n = 1 + sumC (Td.subs n) := cnt_eq n
theorem sumC_mem : ∀ {A : List Nd} {a : Nd}, a ∈ A → cnt a ≤ sumC A
  | b :: A, a, h => by
    rw [sumC_cons]
    rcases List.mem_cons.1 h with rfl | h
    · omega
    · have := sumC_mem h; omega
theorem catL_cons (a : Nd) (A : List Nd) : catL (a :: A) = (if Td.kind a = 1 then [] else if Td.kind a = 7 then Td.subs a else [a]) ++ catL A := by unfold catL; rw [List.flatMap_cons]
theorem altL_cons (a : Nd) (A : List Nd) : altL (a :: A) = (if Td.kind a = 8 then Td.subs a else [a]) ++ altL A := by unfold altL; rw [List.flatMap_cons]
theorem catL_mem {A : List Nd} {x : Nd} (h : x ∈ catL A) : ∃ a ∈ A, Td.kind a ≠ 1 ∧ ((Td.kind a = 7 ∧ x ∈ Td.subs a) ∨ (Td.kind a ≠ 7 ∧ x = a)) := by
  unfold catL at h
  obtain ⟨a, ha, hx⟩ := List.mem_flatMap.1 h
  refine ⟨a, ha, ?_⟩
  by_cases k1 : Td.kind a = 1
  · rw [if_pos k1] at hx; cases hx
  rw [if_neg k1] at hx
  by_cases k7 : Td.kind a = 7
  · rw [if_pos k7] at hx; exact ⟨k1, .inl ⟨k7, hx⟩⟩
  · rw [if_neg k7, List.mem_singleton] at hx; exact ⟨k1, .inr ⟨k7, hx⟩⟩
theorem altL_mem {A : List Nd} {x : Nd} (h : x ∈ altL A) : ∃ a ∈ A, (Td.kind a = 8 ∧ x ∈ Td.subs a) ∨ (Td.kind a ≠ 8 ∧ x = a) := by
  unfold altL at h
  obtain ⟨a, ha, hx⟩ := List.mem_flatMap.1 h
  refine ⟨a, ha, ?_⟩
  by_cases k8 : Td.kind a = 8
  · rw [if_pos k8] at hx; exact .inl ⟨k8, hx⟩
  · rw [if_neg k8, List.mem_singleton] at hx; exact .inr ⟨k8, hx⟩
theorem catL_ok {P : Int → Prop} {A : List Nd} (h : ∀ a ∈ A, AllN (Qc P) a) : ∀ x ∈ catL A, AllN (Qc P) x ∧ Td.kind x ≠ 7 ∧ Td.kind x ≠ 1 := fun x hx => by
  obtain ⟨a, ha, k1, ⟨k7, hx⟩ | ⟨k7, rfl⟩⟩ := catL_mem hx
  · exact ⟨(h a ha).sub hx, fitK_cat (h a ha).here.2.1 k7 x hx⟩
  · exact ⟨h x ha, k7, k1⟩
theorem altL_ok {P : Int → Prop} {A : List Nd} (h : ∀ a ∈ A, AllN (Qc P) a) : ∀ x ∈ altL A, AllN (Qc P) x ∧ Td.kind x ≠ 8 := fun x hx => by
  obtain ⟨a, ha, ⟨k8, hx⟩ | ⟨k8, rfl⟩⟩ := altL_mem hx
  · exact ⟨(h a ha).sub hx, fitK_alt (h a ha).here.2.1 k8 x hx⟩
  · exact ⟨h x ha, k8⟩
theorem catL_sum : ∀ A : List Nd, sumC (catL A) ≤ sumC A
  | [] => Nat.le_refl _
  | a :: A => by
    have ih := catL_sum A
    rw [catL_cons, sumC_app, sumC_cons]
    have h := cnt_subs a
    split
    · rw [sumC_nil]; omega
    · split
      · omega
      · rw [sumC_cons, sumC_nil]; omega
theorem altL_sum : ∀ A : List Nd, sumC (altL A) ≤ sumC A
  | [] => Nat.le_refl _
  | a :: A => by
    have ih := altL_sum A
    rw [altL_cons, sumC_app, sumC_cons]
    have h := cnt_subs a
    split
    · omega
    · rw [sumC_cons, sumC_nil]; omega
theorem hgt_mem {A : List Nd} {H : Nat} (h : ∀ a ∈ A, hgt a ≤ H) : (∀ x ∈ catL A, hgt x ≤ H) ∧ ∀ x ∈ altL A, hgt x ≤ H := by
  constructor <;> intro x hx
  · obtain ⟨a, ha, k1, ⟨k7, hx⟩ | ⟨k7, rfl⟩⟩ := catL_mem hx
    · have := hgt_sub hx; have := h a ha; omega
    · exact h x ha
  · obtain ⟨a, ha, ⟨k8, hx⟩ | ⟨k8, rfl⟩⟩ := altL_mem hx
    · have := hgt_sub hx; have := h a ha; omega
    · exact h x ha
theorem nul_1 {n : Nd} (h : Td.kind n = 1) : nulI n = true := by rw [nulI_eq, nulS, if_pos (.inl h)]
theorem map_id_all (f : Nd → Bool) (l : List Nd) : (l.map f).all id = l.all f := by rw [List.all_map]; rfl
theorem map_id_any (f : Nd → Bool) (l : List Nd) : (l.map f).any id = l.any f := by rw [List.any_map]; rfl
theorem nul_67 {n : Nd} (h : Td.kind n = 6 ∨ Td.kind n = 7) : nulI n = (Td.subs n).all nulI := by rw [nulI_eq, nulS, if_neg (by omega), if_pos h, map_id_all]
theorem nul_8 {n : Nd} (h : Td.kind n = 8) : nulI n = (Td.subs n).any nulI := by rw [nulI_eq, nulS, if_neg (by omega), if_neg (by omega), if_pos h, map_id_any]
theorem nul_9 {n : Nd} (h : Td.kind n = 9) : nulI n = (Td.mn n == 0 || (Td.subs n).all nulI) := by rw [nulI_eq, nulS, if_neg (by omega), if_neg (by omega), if_neg (by omega), if_pos h, map_id_all]
theorem catL_nul : ∀ A : List Nd, (catL A).all nulI = A.all nulI
  | [] => rfl
  | a :: A => by
    rw [catL_cons, List.all_append, catL_nul A, List.all_cons]
    congr 1
    by_cases k1 : Td.kind a = 1
    · rw [if_pos k1, nul_1 k1]; rfl
    · rw [if_neg k1]
      by_cases k7 : Td.kind a = 7
      · rw [if_pos k7, nul_67 (.inr k7)]
      · rw [if_neg k7]; simp
theorem altL_nul : ∀ A : List Nd, (altL A).any nulI = A.any nulI
  | [] => rfl
  | a :: A => by
    rw [altL_cons, List.any_append, altL_nul A, List.any_cons]
    congr 1
    by_cases k8 : Td.kind a = 8
    · rw [if_pos k8, nul_8 k8]
    · rw [if_neg k8]; simp
/-- What is so of trees one after another. -/
structure CatIs (P : Int → Prop) (A : List Nd) (x : Nd) (C H : Nat) : Prop where
  ok : AllN (Qc P) x
  cnt : cnt x ≤ 1 + C
  nul : nulI x = A.all nulI
  hgt : hgt x ≤ 1 + H
theorem catN_is {P : Int → Prop} {A : List Nd} {H : Nat} (h : ∀ a ∈ A, AllN (Qc P) a) (hh : ∀ a ∈ A, hgt a ≤ H) : CatIs P A (catN A) (sumC A) H := by
  have h1 := catL_ok h
  have h2 := catL_sum A
  have h3 := (hgt_mem hh).1
  have h4 := catL_nul A
  match hL : catL A with
  | [] =>
    have e : catN A = leaf1 := catN_none (by rw [hL]; rfl)
    rw [hL] at h4
    rw [e]
    refine ⟨leaf_ok P, ?_, ?_, ?_⟩
    · rw [cnt_eq]; show 1 + 0 ≤ _; omega
    · rw [← h4, nul_1 rfl]; rfl
    · rw [hgt_eq]; show 0 + 1 ≤ _; omega
  | [x] =>
    have e : catN A = x := catN_one (by rw [hL]; rfl) x (by rw [hL]; rfl)
    rw [hL] at h1 h2 h3 h4
    rw [e]
    have hx := h3 x (by simp)
    refine ⟨(h1 x (by simp)).1, ?_, ?_, by omega⟩
    · rw [sumC_cons, sumC_nil] at h2; omega
    · rw [← h4]; simp
  | x :: y :: l =>
    have e : catN A = .mk 7 [] 0 ⟨#[]⟩ 0 0 false (catL A) := catN_more (by rw [hL]; simp)
    rw [e]
    refine ⟨.mk ⟨fitsB_many (.inl rfl) (by rw [hL]; simp), ?_, fun e => by simp [Td.kind] at e⟩ (fun m hm => (h1 m hm).1), ?_, ?_, ?_⟩
    · exact fitK_cat' rfl (fun z hz => (h1 z hz).2)
    · rw [cnt_subs]; show 1 + sumC (catL A) ≤ _; omega
    · rw [nul_67 (.inr rfl)]; exact h4
    · have := hgt_le (n := .mk 7 [] 0 ⟨#[]⟩ 0 0 false (catL A)) (k := H) (fun m hm => h3 m hm); omega
theorem alt_len : ∀ A : List Nd, (∀ a ∈ A, Td.kind a = 8 → 1 ≤ (Td.subs a).length) → A.length ≤ (altL A).length
  | [], _ => Nat.le_refl _
  | a :: A, h => by
    have ih := alt_len A (fun b hb => h b (List.mem_cons_of_mem _ hb))
    rw [altL_cons, List.length_append, List.length_cons]
    split
    · rename_i k8
      have := h a (by simp) k8
      omega
    · simp; omega
theorem many_of {n : Nd} (h : Td.fitsB n = true) (hk : Td.kind n = 7 ∨ Td.kind n = 8) : 2 ≤ (Td.subs n).length := by
  rcases fits_cases h with ⟨k, h1, rfl⟩ | ⟨s, h1, h2, rfl⟩ | ⟨a, h1, h2, rfl⟩ | ⟨a, nm, m, h1, rfl⟩ | ⟨k, l, h1, h2, rfl⟩ | ⟨a, b, lz, m, h1, h2, h3, rfl⟩ <;> simp only [Td.kind] at hk
  · omega
  · omega
  · omega
  · omega
  · exact h2
  · omega
theorem altN_is {P : Int → Prop} {A : List Nd} {H : Nat} (h : ∀ a ∈ A, AllN (Qc P) a) (hh : ∀ a ∈ A, hgt a ≤ H) (h2 : 2 ≤ A.length) :
    AllN (Qc P) (.mk 8 [] 0 ⟨#[]⟩ 0 0 false (altL A)) ∧ cnt (.mk 8 [] 0 ⟨#[]⟩ 0 0 false (altL A)) ≤ 1 + sumC A ∧ nulI (.mk 8 [] 0 ⟨#[]⟩ 0 0 false (altL A)) = A.any nulI ∧ hgt (.mk 8 [] 0 ⟨#[]⟩ 0 0 false (altL A)) ≤ 1 + H := by
  have h1 := altL_ok h
  have h3 := (hgt_mem hh).2
  have hl := alt_len A (fun a ha k8 => by have := many_of (h a ha).here.1 (.inr k8); omega)
  refine ⟨.mk ⟨fitsB_many (.inr rfl) (by omega), ?_, fun e => by simp [Td.kind] at e⟩ (fun m hm => (h1 m hm).1), ?_, ?_, ?_⟩
  · exact fitK_alt' rfl (fun z hz => (h1 z hz).2)
  · rw [cnt_subs]
    have := altL_sum A
    show 1 + sumC (altL A) ≤ _; omega
  · rw [nul_8 rfl]; exact altL_nul A
  · have := hgt_le (n := .mk 8 [] 0 ⟨#[]⟩ 0 0 false (altL A)) (k := H) (fun m hm => h3 m hm); omega
theorem wt_sub {n m : Nd} (h : Td.fitsB n = true) (hw : wtI n ≤ 4000) (hm : m ∈ Td.subs n) (hx : Td.kind n = 9 → Td.mx n ≠ 0) : wtI m ≤ 4000 := by
  have hin : wtI m ≤ ((Td.subs n).map wtI).sum := by
    have : ∀ (l : List Nd), m ∈ l → wtI m ≤ (l.map wtI).sum := fun l => by
      induction l with
      | nil => intro h; cases h
      | cons a l ih =>
        intro h
        rw [List.map_cons, List.sum_cons]
        rcases List.mem_cons.1 h with rfl | h
        · omega
        · have := ih h; omega
    exact this _ hm
  rcases fits_cases h with ⟨k, h1, rfl⟩ | ⟨s, h1, h2, rfl⟩ | ⟨a, h1, h2, rfl⟩ | ⟨a, nm, m', h1, rfl⟩ | ⟨k, l, h1, h2, rfl⟩ | ⟨a, b, lz, m', h1, h2, h3, rfl⟩
  · exact absurd hm (by simp [Td.subs])
  · exact absurd hm (by simp [Td.subs])
  · exact absurd hm (by simp [Td.subs])
  · rw [wt_678 (.inl rfl)] at hw; omega
  · rw [wt_678 (by show k = 6 ∨ k = 7 ∨ k = 8; omega)] at hw; omega
  · have hx : b ≠ 0 := hx rfl
    have hm : m = m' := by simpa [Td.subs] using hm
    subst hm
    rw [wt_rep (by omega)] at hw
    obtain ⟨S, hS⟩ : ∃ S, wtI m = S := ⟨_, rfl⟩
    rw [hS] at hw ⊢
    unfold repW at hw
    have hmul : a.toNat ≠ 0 → min 4001 S ≤ min a.toNat 4001 * min 4001 S := fun h0 => Nat.le_mul_of_pos_left _ (by omega)
    split at hw
    · omega
    · split at hw
      · rename_i h5
        have : 2 + min 4001 S ≤ min (b - max a 0).toNat 4001 * (2 + min 4001 S) := Nat.le_mul_of_pos_left _ (by omega)
        omega
      · have := hmul (by omega)
        omega
/-- What is so of a core. -/
structure CoreIs (P : Int → Prop) (n x : Nd) : Prop where
  ok : AllN (Qc P) x
  cnt : cnt x ≤ wtI n
  nul : nulI x = nulI n
  hgt : hgt x ≤ 2 * hgt n
theorem sumC_rep (x : Nd) : ∀ k, sumC (List.replicate k x) = k * cnt x
  | 0 => by simp [sumC_nil]
  | k + 1 => by rw [List.replicate_succ, sumC_cons, sumC_rep x k, Nat.add_mul]; omega
theorem all_rep {p : Nd → Bool} {x : Nd} : ∀ k, (List.replicate k x).all p = (k == 0 || p x)
  | 0 => rfl
  | k + 1 => by
    rw [List.replicate_succ, List.all_cons, all_rep k]
    by_cases h : p x = true
    · simp [h]
    · simp [h]
theorem core_is (P : Int → Prop) (hP : ∀ x, P x → x ≤ 31) (n : Nd) : AllN (Qt P) n → wtI n ≤ 4000 → CoreIs P n (coreI n) := by
  refine nd_ind (p := fun n => AllN (Qt P) n → wtI n ≤ 4000 → CoreIs P n (coreI n)) (fun n ih ha hw => ?_) n
  have hf := ha.here.1
  have hg := ha.here.2
  have IH : (Td.kind n = 9 → Td.mx n ≠ 0) → ∀ m ∈ Td.subs n, CoreIs P m (coreI m) := fun hx m hm => ih m hm (ha.sub hm) (wt_sub hf hw hm hx)
  have hsum : (∀ m ∈ Td.subs n, CoreIs P m (coreI m)) → ∀ l : List Nd, (∀ m ∈ l, m ∈ Td.subs n) → sumC (l.map coreI) ≤ (l.map wtI).sum := fun h l => by
    induction l with
    | nil => intro _; exact Nat.le_refl _
    | cons a l ih2 =>
      intro hl
      rw [List.map_cons, sumC_cons, List.map_cons, List.sum_cons]
      have := (h a (hl a (by simp))).cnt
      have := ih2 (fun m hm => hl m (List.mem_cons_of_mem _ hm))
      omega
  have hall : (∀ m ∈ Td.subs n, CoreIs P m (coreI m)) → ∀ a ∈ (Td.subs n).map coreI, AllN (Qc P) a := fun h a ha => by
    obtain ⟨m, hm, rfl⟩ := List.mem_map.1 ha
    exact (h m hm).ok
  have hhgt : (∀ m ∈ Td.subs n, CoreIs P m (coreI m)) → ∀ a ∈ (Td.subs n).map coreI, hgt a ≤ 2 * (hgt n - 1) := fun h a ha => by
    obtain ⟨m, hm, rfl⟩ := List.mem_map.1 ha
    have := (h m hm).hgt
    have := hgt_sub hm
    omega
  have hn1 := hgt_pos n
  have hnA : (∀ m ∈ Td.subs n, CoreIs P m (coreI m)) → ((Td.subs n).map coreI).all nulI = (Td.subs n).all nulI := fun h => by
    rw [List.all_map]
    exact Bool.eq_iff_iff.2 ⟨fun q => List.all_eq_true.2 (fun m hm => by have := List.all_eq_true.1 q m hm; rw [← (h m hm).nul]; exact this), fun q => List.all_eq_true.2 (fun m hm => by have := List.all_eq_true.1 q m hm; rw [← (h m hm).nul] at this; exact this)⟩
  have hnO : (∀ m ∈ Td.subs n, CoreIs P m (coreI m)) → ((Td.subs n).map coreI).any nulI = (Td.subs n).any nulI := fun h => by
    rw [List.any_map]
    exact Bool.eq_iff_iff.2 ⟨fun q => by obtain ⟨m, hm, q⟩ := List.any_eq_true.1 q; exact List.any_eq_true.2 ⟨m, hm, by rw [← (h m hm).nul]; exact q⟩, fun q => by obtain ⟨m, hm, q⟩ := List.any_eq_true.1 q; exact List.any_eq_true.2 ⟨m, hm, by show nulI (coreI m) = true; rw [(h m hm).nul]; exact q⟩⟩
  rw [coreI_eq, coreS]
  by_cases k6 : Td.kind n = 6
  · have h := IH (fun e => by omega)
    rw [if_pos k6]
    have hWe := wt_678 (n := n) (.inl k6)
    have h1 := hsum h (Td.subs n) (fun m hm => hm)
    have hl : (Td.subs n).length = 1 := by
      rcases fits_cases hf with ⟨k, h1, rfl⟩ | ⟨s, h1, h2, rfl⟩ | ⟨a, h1, h2, rfl⟩ | ⟨a, nm, m', h1, rfl⟩ | ⟨k, l, h1, h2, rfl⟩ | ⟨a, b, lz, m', h1, h2, h3, rfl⟩ <;> simp only [Td.kind] at k6 <;> first | omega | rfl
    have hn : 1 ≤ Td.num n := by
      rcases fits_cases hf with ⟨k, h1, rfl⟩ | ⟨s, h1, h2, rfl⟩ | ⟨a, h1, h2, rfl⟩ | ⟨a, nm, m', q1, rfl⟩ | ⟨k, l, h1, h2, rfl⟩ | ⟨a, b, lz, m', h1, h2, h3, rfl⟩ <;> simp only [Td.kind] at k6 <;> first | exact q1 | omega
    obtain ⟨m, hm⟩ := List.length_eq_one_iff.1 hl
    have hmm : m ∈ Td.subs n := by rw [hm]; simp
    refine ⟨.mk ⟨by rw [hm]; exact fitsB_group hn, ?_, fun _ => hg k6⟩ (fun x hx => hall h x hx), ?_, ?_, ?_⟩
    · exact fitK_group' rfl hn (hP _ (hg k6)) rfl
    · rw [cnt_subs]
      show 1 + sumC ((Td.subs n).map coreI) ≤ wtI n
      omega
    · rw [nul_67 (.inl rfl), nul_67 (.inl k6)]
      exact hnA h
    · have := hgt_le (n := .mk 6 [] (Td.num n) ⟨#[]⟩ 0 0 false ((Td.subs n).map coreI)) (k := 2 * (hgt n - 1)) (fun x hx => hhgt h x hx)
      omega
  rw [if_neg k6]
  by_cases k7 : Td.kind n = 7
  · have h := IH (fun e => by omega)
    rw [if_pos k7]
    have hWe := wt_678 (n := n) (.inr (.inl k7))
    have h1 := hsum h (Td.subs n) (fun m hm => hm)
    have hc := catN_is (hall h) (hhgt h)
    refine ⟨hc.ok, ?_, ?_, ?_⟩
    · have := hc.cnt; omega
    · rw [hc.nul, nul_67 (.inr k7)]; exact hnA h
    · have := hc.hgt; omega
  rw [if_neg k7]
  by_cases k8 : Td.kind n = 8
  · have h := IH (fun e => by omega)
    rw [if_pos k8]
    have hWe := wt_678 (n := n) (.inr (.inr k8))
    have h1 := hsum h (Td.subs n) (fun m hm => hm)
    obtain ⟨q1, q2, q3, q4⟩ := altN_is (hall h) (hhgt h) (by rw [List.length_map]; exact many_of hf (.inr k8))
    refine ⟨q1, by omega, ?_, by omega⟩
    rw [q3, nul_8 k8]; exact hnO h
  rw [if_neg k8]
  by_cases k9 : Td.kind n = 9
  · rw [if_pos k9]
    rcases fits_cases hf with ⟨k, h1, rfl⟩ | ⟨s, h1, h2, rfl⟩ | ⟨a, h1, h2, rfl⟩ | ⟨a, nm, m', h1, rfl⟩ | ⟨k, l, h1, h2, rfl⟩ | ⟨a, b, lz, m, h1, h2, h3, rfl⟩ <;> simp only [Td.kind] at k9
    · omega
    · omega
    · omega
    · omega
    · omega
    show CoreIs P _ (repS _ (coreI m))
    unfold repS
    by_cases b0 : b = 0
    · rw [if_pos (by exact b0)]
      have a0 : a = 0 := by omega
      refine ⟨leaf_ok P, ?_, ?_, ?_⟩
      · rw [wt_rep0 (by omega), cnt_eq]; exact Nat.le_refl _
      · rw [nul_1 rfl, nul_9 rfl]
        simp [Td.mn, a0]
      · rw [hgt_eq leaf1]; show 0 + 1 ≤ _; omega
    rw [if_neg (by exact b0)]
    have h := IH (fun _ => b0) m (by simp [Td.subs])
    have hgm : hgt m < hgt (.mk 9 [] 0 ⟨#[]⟩ a b lz [m]) := hgt_sub (by simp [Td.subs])
    obtain ⟨x, hx⟩ : ∃ x, coreI m = x := ⟨_, rfl⟩
    rw [hx] at h ⊢
    have hxc := h.cnt
    have hWe := wt_rep (a := a) (b := b) (lz := lz) (s := []) (num := 0) (nm := ⟨#[]⟩) (m := m) (by omega)
    have hx1 := cnt_pos x
    have hnn : nulI (.mk 9 [] 0 ⟨#[]⟩ a b lz [m]) = (a == 0 || nulI m) := by
      rw [nul_9 rfl]; simp [Td.mn, Td.subs]
    have hmul : min a.toNat 4001 * cnt x ≤ min a.toNat 4001 * min 4001 (wtI m) := Nat.mul_le_mul_left _ (by
      have := wt_sub hf hw (m := m) (by simp [Td.subs]) (fun _ => b0)
      omega)
    have ha0 : min a.toNat 4001 = a.toNat := by omega
    rw [ha0] at hmul
    have hwm := wt_sub hf hw (m := m) (by simp [Td.subs]) (fun _ => b0)
    have hmin : min 4001 (wtI m) = wtI m := by omega
    rw [hmin] at hmul hWe
    unfold repW at hWe
    rw [ha0] at hWe
    by_cases kx : Td.kind x = 1
    · rw [if_pos kx]
      refine ⟨h.ok, ?_, ?_, ?_⟩
      · have hb1 : a.toNat ≠ 0 → wtI m ≤ a.toNat * wtI m := fun h0 => Nat.le_mul_of_pos_left _ (by omega)
        split at hWe
        · omega
        · split at hWe
          · have : 2 + wtI m ≤ min (b - max a 0).toNat 4001 * (2 + wtI m) := Nat.le_mul_of_pos_left _ (by omega)
            omega
          · have := hb1 (by omega)
            omega
      · rw [hnn, nul_1 kx, ← h.nul, nul_1 kx]; simp
      · have := h.hgt; omega
    rw [if_neg kx]
    by_cases hab : b = a
    · rw [if_pos (by exact hab)]
      show CoreIs P _ (catN (List.replicate a.toNat x))
      have hc := catN_is (P := P) (A := List.replicate a.toNat x) (H := 2 * (hgt (.mk 9 [] 0 ⟨#[]⟩ a b lz [m]) - 1)) (fun y hy => by rw [List.eq_of_mem_replicate hy]; exact h.ok) (fun y hy => by rw [List.eq_of_mem_replicate hy]; have := h.hgt; omega)
      have hcc := hc.cnt
      rw [sumC_rep] at hcc
      refine ⟨hc.ok, ?_, ?_, ?_⟩
      · rw [if_neg (by omega), if_neg (by omega)] at hWe; omega
      · rw [hc.nul, all_rep, hnn, h.nul]
        congr 1
        have p1 : (a.toNat == 0) = false := by rw [beq_eq_false_iff_ne]; omega
        have p2 : (a == 0) = false := by rw [beq_eq_false_iff_ne]; omega
        rw [p1, p2]
      · have := hc.hgt; omega
    rw [if_neg (by exact hab)]
    show CoreIs P _ (catN (List.replicate a.toNat x ++ [restN _ x]))
    obtain ⟨r, hr⟩ : ∃ r, restN (.mk 9 [] 0 ⟨#[]⟩ a b lz [m]) x = r := ⟨_, rfl⟩
    have hr2 : r = .mk 9 [] 0 ⟨#[]⟩ 0 (if b = -1 then -1 else b - a) lz [x] := by rw [← hr]; rfl
    have hrc : cnt r = 1 + cnt x := by rw [hr2, cnt_subs]; show 1 + sumC [x] = _; rw [sumC_cons, sumC_nil, Nat.add_zero]
    have hrn : nulI r = true := by rw [hr2, nul_9 rfl]; simp [Td.mn]
    have hro : AllN (Qc P) r := by
      rw [hr2]
      refine .mk ⟨fitsB_rep (by omega) (by omega) (by split <;> omega), ?_, fun e => by simp [Td.kind] at e⟩ (fun y hy => by
        simp only [Td.subs, List.mem_singleton] at hy
        rw [hy]; exact h.ok)
      exact fitK_rep' rfl rfl (show (if b = -1 then -1 else b - a) ≠ 0 by split <;> omega) (fun y hy => by
        simp only [Td.subs, List.mem_singleton] at hy
        rw [hy]; exact kx)
    have hrh : hgt r ≤ 1 + hgt x := by
      have := hgt_le (n := r) (k := hgt x) (fun y hy => by
        rw [hr2] at hy
        simp only [Td.subs, List.mem_singleton] at hy
        rw [hy]; exact Nat.le_refl _)
      omega
    rw [hr]
    have hxh := h.hgt
    have hc := catN_is (P := P) (A := List.replicate a.toNat x ++ [r]) (H := 2 * hgt (.mk 9 [] 0 ⟨#[]⟩ a b lz [m]) - 1) (fun y hy => by
      rcases List.mem_append.1 hy with hy | hy
      · rw [List.eq_of_mem_replicate hy]; exact h.ok
      · rw [List.mem_singleton.1 hy]; exact hro) (fun y hy => by
      rcases List.mem_append.1 hy with hy | hy
      · rw [List.eq_of_mem_replicate hy]; omega
      · rw [List.mem_singleton.1 hy]; omega)
    have hcc := hc.cnt
    rw [sumC_app, sumC_rep, sumC_cons, sumC_nil, hrc] at hcc
    refine ⟨hc.ok, ?_, ?_, ?_⟩
    · split at hWe
      · omega
      · rw [if_pos (by omega)] at hWe
        have : 2 + wtI m ≤ min (b - max a 0).toNat 4001 * (2 + wtI m) := Nat.le_mul_of_pos_left _ (by omega)
        omega
    · rw [hc.nul, List.all_append, all_rep, hnn, h.nul]
      have p0 : (([r] : List Nd).all nulI) = true := by rw [List.all_cons, hrn]; rfl
      rw [p0, Bool.and_true]
      by_cases ha : a = 0
      · subst ha; rfl
      · have p1 : (a.toNat == 0) = false := by rw [beq_eq_false_iff_ne]; omega
        have p2 : (a == 0) = false := by rw [beq_eq_false_iff_ne]; omega
        rw [p1, p2]
    · have := hc.hgt; omega
  rw [if_neg k9]
  have hleaf : Td.subs n = [] ∧ Td.fitsB (.mk (Td.kind n) (Td.set n) (Td.num n) ⟨#[]⟩ 0 0 false []) = true := by
    rcases fits_cases hf with ⟨k, h1, rfl⟩ | ⟨s, h1, h2, rfl⟩ | ⟨a, h1, h2, rfl⟩ | ⟨a, nm, m', h1, rfl⟩ | ⟨k, l, h1, h2, rfl⟩ | ⟨a, b, lz, m', h1, h2, h3, rfl⟩
    · exact ⟨rfl, fitsB_leaf h1⟩
    · exact ⟨rfl, fitsB_set h1 h2⟩
    · exact ⟨rfl, fitsB_about h1 h2⟩
    · exact absurd rfl k6
    · rcases h1 with h1 | h1
      · exact absurd h1 k7
      · exact absurd h1 k8
    · exact absurd rfl k9
  have hWe := wt_1 (n := n) ⟨k6, k7, k8, k9⟩
  refine ⟨.mk ⟨hleaf.2, fitK_other ⟨k6, k7, k8, k9⟩, fun e => absurd e k6⟩ (fun m hm => by cases hm), ?_, ?_, ?_⟩
  · rw [hWe, cnt_subs]; exact Nat.le_refl _
  · rw [nulI_eq n, nulS, hleaf.1, if_neg k9, nulI_eq, nulS, if_neg (c := Td.kind (Nd.mk (Td.kind n) (Td.set n) (Td.num n) ⟨#[]⟩ 0 0 false []) = 9) k9]
    rfl
  · rw [hgt_eq (.mk _ _ _ _ _ _ _ _)]; show 0 + 1 ≤ _; omega
end Nm
end Go.Proofs.Ythhdlcckboiecaa
