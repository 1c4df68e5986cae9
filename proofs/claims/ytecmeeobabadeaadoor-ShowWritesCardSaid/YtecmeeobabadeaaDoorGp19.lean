/- The reference's show: what a text is that may be cut off; how long it is. -/
import Derived.Test.YtecmeeobabadeaaDoorGp18
import Derived.Test.YtecmeeobabadeaaDoorGp3
import Derived.Test.YtecmeeobabadeaaDoorGp1
namespace Go.Proofs.YtecmeeobabadeaaDoor
open Go.RowKit
set_option linter.unusedVariables false
/-- A text that may be cut off where it is longer than so much. -/
structure TxQ (most : Int) (X : List Int) (T : ByteArray) : Prop where
  all : (X.length : Int) ≤ most → Utf.nums T = X
  cut : most < (X.length : Int) → most < (T.size : Int)
  short : T.size ≤ X.length
theorem TxQ.of {most : Int} {X : List Int} {T : ByteArray} (h : Utf.nums T = X) : TxQ most X T := by
  have hl := Utf.nums_length T
  rw [h] at hl
  exact ⟨fun _ => h, fun c => by omega, by omega⟩
theorem TxQ.none {most : Int} {X : List Int} (h : most < 0) : TxQ most X ⟨#[]⟩ := ⟨fun c => by omega, fun _ => by show most < ((0 : Nat) : Int); omega, Nat.zero_le _⟩
theorem TxQ.step {most : Int} {P x : List Int} {S t T : ByteArray} (hS : TxQ most P S) (ht : TxQ (most - (S.size : Int)) x t) (a b : List Int) (hT : Utf.nums T = Utf.nums S ++ (a ++ (Utf.nums t ++ b))) : TxQ most (P ++ (a ++ (x ++ b))) T := by
  have l1 := congrArg List.length hT
  simp only [List.length_append, Utf.nums_length] at l1
  have s1 := hS.short
  have s2 := ht.short
  refine ⟨fun c => ?_, fun c => ?_, ?_⟩
  · simp only [List.length_append] at c
    have hp := hS.all (by omega)
    have hz : S.size = P.length := by rw [← Utf.nums_length, hp]
    rw [hT, hp, ht.all (by omega)]
  · simp only [List.length_append] at c
    by_cases c1 : most < (P.length : Int)
    · have := hS.cut c1; omega
    · have hp := hS.all (by omega)
      have hz : S.size = P.length := by rw [← Utf.nums_length, hp]
      by_cases c2 : most - (S.size : Int) < (x.length : Int)
      · have := ht.cut c2; omega
      · have h2 := ht.all (by omega)
        have hz2 : t.size = x.length := by rw [← Utf.nums_length, h2]
        omega
  · simp only [List.length_append]; omega
theorem TxQ.wrap {most : Int} {x : List Int} {t T : ByteArray} (h : TxQ most x t) (a b : List Int) (hT : Utf.nums T = a ++ (Utf.nums t ++ b)) : TxQ most (a ++ (x ++ b)) T := by
  by_cases c : most < 0
  · have l1 := congrArg List.length hT
    simp only [List.length_append, Utf.nums_length] at l1
    have s2 := h.short
    exact ⟨fun c2 => by omega, fun _ => by omega, by simp only [List.length_append]; omega⟩
  · have h0 : TxQ most [] ⟨#[]⟩ := ⟨fun _ => rfl, fun c => by simp at c; omega, Nat.zero_le _⟩
    have := TxQ.step (T := T) h0 (by show TxQ (most - ((0 : Nat) : Int)) x t; simpa using h) a b (by rw [hT]; rfl)
    exact this
/-- All nodes of a tree are as Check takes them. -/
def FitZ : Nat → Nd → Prop
  | 0, _ => False
  | k + 1, n => Td.fitsB n = true ∧ ∀ m ∈ Td.subs n, FitZ k m
theorem fitZ_of : ∀ (k d : Nat) (n : Nd), Td.dep (k + 1) n ≤ k → (∀ p ∈ Td.all k d n, Td.fitsB p.2 = true) → FitZ k n
  | 0, d, n, h, _ => by rw [Td.dep] at h; omega
  | k + 1, d, n, h, ha => by
    rw [Td.all] at ha
    refine ⟨ha (d, n) (by simp), fun m hm => fitZ_of k (d + 1) m ?_ (fun p hp => ha p (List.mem_cons_of_mem _ (List.mem_flatMap.2 ⟨m, hm, hp⟩)))⟩
    rw [Td.dep] at h
    have := max_mem ((Td.subs n).map (Td.dep (k + 1))) 0 (Td.dep (k + 1) m) (.inl (List.mem_map_of_mem hm))
    omega
theorem fitZ_check {n : Nd} (h : Td.checkN n = 0) : FitZ 1000 n := by
  unfold Td.checkN at h
  by_cases hd : 1000 < Td.dep 1001 n
  · rw [if_pos hd] at h; cases h
  · rw [if_neg hd] at h
    exact fitZ_of 1000 1 n (show Td.dep 1001 n ≤ 1000 by omega) (chk_all _ _ h)
theorem fits_norm {n : Nd} (h : Td.fitsB n = true) (hk : Td.kind n = 3) : Rg.NormL (Td.set n) := by
  unfold Td.fitsB at h
  rw [hk] at h
  unfold Td.fitsV at h
  rw [if_neg (by omega), if_pos rfl] at h
  simp only [Bool.and_eq_true, beq_iff_eq, Bool.not_eq_true'] at h
  exact (Rg.check_norm _).1 h.2.1
theorem esc_short {r : Nat} (h : r ≤ 1114111) : (Br.esc r).length ≤ 10 := by rw [Br.esc_len]; have := (Br.hexL6 h).2; omega
theorem char_short {r : Int} (h0 : 0 ≤ r) (h1 : r ≤ 1114111) : (Sh.charL r).length ≤ 10 := by
  unfold Sh.charL
  split
  · simp
  · exact esc_short (by omega)
theorem rg_short {p : Int × Int} (h : 0 ≤ p.1 ∧ p.1 ≤ p.2 ∧ p.2 ≤ 1114111) : (Sh.rgL p).length ≤ 21 := by
  unfold Sh.rgL
  have h1 := esc_short (r := p.1.toNat) (by omega)
  have h2 := esc_short (r := p.2.toNat) (by omega)
  rw [List.length_append]
  split
  · rw [List.length_cons]; omega
  · simp; omega
theorem flat_short {α : Type} {f : α → List Int} {c : Nat} : ∀ (l : List α), (∀ x ∈ l, (f x).length ≤ c) → (l.flatMap f).length ≤ c * l.length
  | [], _ => by simp
  | x :: l, h => by
    have h1 := h x (by simp)
    have h2 := flat_short l (fun y hy => h y (by simp [hy]))
    rw [List.flatMap_cons, List.length_append, List.length_cons, Nat.mul_add]
    omega
theorem set_short {l : List (Int × Int)} (hN : Rg.NormL l) : (Sh.setL l).length ≤ 24000000 ∧ ∀ i, ((l.take i).flatMap Sh.rgL).length ≤ 23400000 := by
  have hw : ∀ p ∈ l, 0 ≤ p.1 ∧ p.1 ≤ p.2 ∧ p.2 ≤ 1114111 := fun p hp => Rg.norm_lo l 0 hN p hp
  have hl := Rg.norm_len l 0 hN (by omega)
  have hf : ∀ i, ((l.take i).flatMap Sh.rgL).length ≤ 23400000 := fun i => by
    have h1 := flat_short (f := Sh.rgL) (c := 21) (l.take i) (fun p hp => rg_short (hw p (List.mem_of_mem_take hp)))
    have h2 : (l.take i).length ≤ l.length := by rw [List.length_take]; omega
    have h3 : 21 * (l.take i).length ≤ 21 * 1114113 := Nat.mul_le_mul_left _ (by omega)
    omega
  refine ⟨?_, hf⟩
  unfold Sh.setL
  split
  · rename_i c
    obtain ⟨x, rfl⟩ := List.length_eq_one_iff.1 c.1
    have := hw x (by simp)
    have := char_short (r := x.1) (by omega) (by omega)
    show (Sh.charL x.1).length ≤ _
    omega
  · have := hf l.length
    rw [List.take_length] at this
    rw [List.length_cons, List.length_append]
    simp only [List.length_singleton]
    omega
theorem count_short {lo hi : Int} (h0 : 0 ≤ lo) (h1 : lo ≤ 1000) (h2 : hi = -1 ∨ lo ≤ hi ∧ hi ≤ 1000) (lz : Bool) : (Sh.timesL lo hi lz).length ≤ 12 := by
  have a1 := decL_short (n := lo.toNat) (by omega)
  unfold Sh.timesL
  rw [List.length_append]
  have h9 : (if lz = true then [63] else ([] : List Int)).length ≤ 1 := by split <;> simp
  have h8 : (Sh.countL lo hi).length ≤ 11 := by
    unfold Sh.countL
    split; · simp
    split; · simp
    split; · simp
    split; · simp; omega
    split; · simp; omega
    · have a2 := decL_short (n := hi.toNat) (by omega)
      simp; omega
  omega
theorem wrap_len (b : Bool) (x : List Int) : (Sh.wrapL b x).length ≤ x.length + 4 := by
  unfold Sh.wrapL
  split <;> simp
theorem alt_len : ∀ (l : List (List Int)), (Sh.altL l).length ≤ (l.map fun x => x.length + 1).sum
  | [] => Nat.le_refl _
  | [x] => by show x.length ≤ _; simp
  | x :: y :: l => by
    have := alt_len (y :: l)
    rw [Sh.altL, List.length_append, List.length_cons, List.map_cons, List.sum_cons]
    omega
theorem all_flat_len (f : Nd → List (Nat × Nd)) : ∀ (l : List Nd), (l.flatMap f).length = (l.map (fun m => (f m).length)).sum
  | [] => rfl
  | m :: l => by rw [List.flatMap_cons, List.length_append, all_flat_len f l, List.map_cons, List.sum_cons]
theorem sum_le {u v : Nd → Nat} : ∀ (l : List Nd), (∀ m ∈ l, u m ≤ v m) → (l.map u).sum ≤ (l.map v).sum
  | [], _ => Nat.le_refl _
  | m :: l, h => by
    have h1 := h m (by simp)
    have h2 := sum_le l (fun x hx => h x (by simp [hx]))
    rw [List.map_cons, List.map_cons, List.sum_cons, List.sum_cons]
    omega
theorem sum_mul (c : Nat) (u : Nd → Nat) : ∀ (l : List Nd), (l.map fun m => c * u m).sum = c * (l.map u).sum
  | [] => rfl
  | m :: l => by rw [List.map_cons, List.map_cons, List.sum_cons, List.sum_cons, sum_mul c u l, Nat.mul_add]
theorem flat_len_sum (f : Nd → List Int) : ∀ (l : List Nd), (l.flatMap f).length = (l.map (fun m => (f m).length)).sum
  | [] => rfl
  | m :: l => by rw [List.flatMap_cons, List.length_append, flat_len_sum f l, List.map_cons, List.sum_cons]
theorem alt_take_le (f : Nd → List Int) : ∀ (l : List Nd) (i : Nat), (Sh.altL ((l.take i).map f)).length ≤ (Sh.altL (l.map f)).length
  | [], i => by simp
  | [m], 0 => Nat.zero_le _
  | [m], i + 1 => by simp
  | m :: m2 :: l, 0 => Nat.zero_le _
  | m :: m2 :: l, 1 => by
    show (f m).length ≤ (f m ++ 124 :: _).length
    simp
  | m :: m2 :: l, i + 2 => by
    have := alt_take_le f (m2 :: l) (i + 1)
    show (f m ++ 124 :: Sh.altL (((m2 :: l).take (i + 1)).map f)).length ≤ (f m ++ 124 :: Sh.altL ((m2 :: l).map f)).length
    simp only [List.length_append, List.length_cons]
    omega
theorem flat_take_le (f : Nd → List Int) (l : List Nd) (i : Nat) : ((l.take i).flatMap f).length ≤ (l.flatMap f).length := by
  conv => rhs; rw [← List.take_append_drop i l, List.flatMap_append, List.length_append]
  omega
theorem sh_short : ∀ (k d : Nat) (n : Nd), FitZ k n → (Sh.shL k n).length + 100 ≤ 30000000 * (Td.all k d n).length
  | 0, d, n, h => absurd h id
  | k + 1, d, n, ⟨h, hs⟩ => by
    have hf := fitN_of h
    have ih : ∀ m ∈ Td.subs n, (Sh.shL k m).length + 100 ≤ 30000000 * (Td.all k (d + 1) m).length := fun m hm => sh_short k (d + 1) m (hs m hm)
    have hall : (Td.all (k + 1) d n).length = 1 + ((Td.subs n).map (fun m => (Td.all k (d + 1) m).length)).sum := by
      rw [Td.all, List.length_cons, all_flat_len]; omega
    have hw : ∀ (b : Nd → Bool) , ((Td.subs n).map (fun m => (Sh.wrapL (b m) (Sh.shL k m)).length + 1)).sum ≤ 30000000 * ((Td.subs n).map (fun m => (Td.all k (d + 1) m).length)).sum := fun b => by
      rw [← sum_mul]
      refine sum_le _ (fun m hm => ?_)
      have := ih m hm
      have := wrap_len (b m) (Sh.shL k m)
      omega
    have hp : ((Td.subs n).map (fun m => (Sh.shL k m).length)).sum ≤ 30000000 * ((Td.subs n).map (fun m => (Td.all k (d + 1) m).length)).sum := by
      rw [← sum_mul]
      refine sum_le _ (fun m hm => ?_)
      have := ih m hm
      omega
    have hwf : ∀ (b : Nd → Bool), ((Td.subs n).flatMap (fun m => Sh.wrapL (b m) (Sh.shL k m))).length ≤ 30000000 * ((Td.subs n).map (fun m => (Td.all k (d + 1) m).length)).sum := fun b => by
      rw [flat_len_sum]
      refine Nat.le_trans (sum_le _ (fun m hm => ?_)) (hw b)
      omega
    rw [hall, Nat.mul_add, Sh.shL]
    split; · simp only [List.length_cons, List.length_nil]; omega
    split
    · have e : Sh.noneL.length = 19 := by decide +kernel
      omega
    split
    · rename_i h3
      have := (set_short (fits_norm h h3)).1
      omega
    split; · simp only [List.length_cons, List.length_nil]; omega
    split
    · have : (Sh.aboutL (Td.num n)).length ≤ 6 := by
        unfold Sh.aboutL
        repeat' split
        all_goals simp
      omega
    split
    · rename_i h6
      have h9 := (hf.group h6).1
      have ho : (Sh.openL (Td.name n)).length ≤ 105 := by
        unfold Sh.openL
        split
        · simp
        · simp only [List.length_append, List.length_cons, List.length_nil, Utf.nums_length]; omega
      rw [List.length_append, List.length_append, flat_len_sum]
      simp only [List.length_singleton]
      omega
    split
    · have := hwf (fun m => Sh.wrapB 7 (Td.kind m)); omega
    split
    · have h1 := alt_len ((Td.subs n).map fun m => Sh.wrapL (Sh.wrapB 8 (Td.kind m)) (Sh.shL k m))
      have h2 := hw (fun m => Sh.wrapB 8 (Td.kind m))
      rw [List.map_map] at h1
      have h3 : ((Td.subs n).map ((fun x => x.length + 1) ∘ fun m => Sh.wrapL (Sh.wrapB 8 (Td.kind m)) (Sh.shL k m))).sum ≤ 30000000 * ((Td.subs n).map (fun m => (Td.all k (d + 1) m).length)).sum := h2
      omega
    · have h1 := hwf (fun m => Sh.wrapB 9 (Td.kind m))
      have hk9 : Td.kind n = 9 := by have := hf.kind; omega
      obtain ⟨_, b0, b1, b2⟩ := hf.rep hk9
      have h2 := count_short b0 b1 b2 (Td.lazy n)
      rw [List.length_append]
      omega
end Go.Proofs.YtecmeeobabadeaaDoor
