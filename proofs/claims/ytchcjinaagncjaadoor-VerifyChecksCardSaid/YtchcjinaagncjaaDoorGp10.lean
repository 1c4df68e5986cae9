/- A set of numbers as the bits of words; what is reached: mathematics. -/
import Derived.Test.YtchcjinaagncjaaDoorGp9
import Derived.Lib.TrailingZeros
namespace Go.Proofs.YtchcjinaagncjaaDoor.Pgm
set_option linter.unusedVariables false
theorem low_test (k m j : Nat) : (2 ^ k * (2 * m + 1)).testBit j = (decide (j = k) || (2 ^ k * (2 * m)).testBit j) ∧ (j < k → (2 ^ k * (2 * m + 1)).testBit j = false) := by
  rw [Nat.mul_comm (2 ^ k) (2 * m + 1), Nat.mul_comm (2 ^ k) (2 * m), Nat.testBit_mul_two_pow, Nat.testBit_mul_two_pow]
  refine ⟨?_, fun h => ?_⟩
  · by_cases h : k ≤ j
    · obtain ⟨d, rfl⟩ : ∃ d, j = k + d := ⟨j - k, by omega⟩
      rw [Nat.add_sub_cancel_left]
      cases d with
      | zero => simp [Nat.testBit_zero]
      | succ d =>
        have e1 : (2 * m + 1) / 2 = m := by omega
        have e2 : 2 * m / 2 = m := by omega
        rw [Nat.testBit_succ, Nat.testBit_succ, e1, e2]
        simp
    · have h1 : ¬ j = k := by omega
      simp [h, h1]
  · have : ¬ k ≤ j := by omega
    simp [this]
theorem low_less (k m : Nat) : (2 ^ k * (2 * m + 1)) &&& (2 ^ k * (2 * m + 1) - 1) = 2 ^ k * (2 * m) := by
  apply Nat.eq_of_testBit_eq
  intro j
  have hp : 0 < 2 ^ k := Nat.two_pow_pos k
  have e : 2 ^ k * (2 * m + 1) - 1 = 2 ^ k * (2 * m) + (2 ^ k - 1) := by rw [Nat.mul_add, Nat.mul_one]; omega
  rw [Nat.testBit_and, e, Nat.testBit_two_pow_mul_add _ (by omega)]
  obtain ⟨h1, h2⟩ := low_test k m j
  by_cases h : j < k
  · rw [h2 h]
    rw [Nat.mul_comm (2 ^ k) (2 * m), Nat.testBit_mul_two_pow]
    have : ¬ k ≤ j := by omega
    simp [this]
  · rw [if_neg h, h1, Nat.mul_comm (2 ^ k) (2 * m), Nat.testBit_mul_two_pow]
    have h3 : k ≤ j := by omega
    by_cases h4 : j = k
    · subst h4
      simp [Nat.testBit_zero]
    · simp [h3, h4]
theorem ctz_low (x : Nat) (h0 : x ≠ 0) (h : x < 2 ^ 64) : Lib.ctz 64 x < 64 ∧ x.testBit (Lib.ctz 64 x) = true ∧ (∀ j, j < Lib.ctz 64 x → x.testBit j = false) ∧ (x &&& (x - 1) < 2 ^ 64) ∧ ∀ j, (x &&& (x - 1)).testBit j = (x.testBit j && decide (j ≠ Lib.ctz 64 x)) := by
  obtain ⟨m, hm, hk⟩ := Lib.ctzFrom_spec 64 x (by omega) h
  have e : Lib.ctz 64 x = Lib.ctzFrom 64 x := by unfold Lib.ctz; rw [if_neg h0]
  rw [e]
  generalize Lib.ctzFrom 64 x = k at hm hk
  subst hm
  refine ⟨hk, ?_, fun j hj => (low_test k m j).2 hj, Nat.lt_of_le_of_lt Nat.and_le_left h, fun j => ?_⟩
  · rw [(low_test k m k).1]; simp
  · rw [low_less, (low_test k m j).1]
    by_cases h4 : j = k
    · subst h4
      rw [Nat.mul_comm, Nat.testBit_mul_two_pow]
      simp [Nat.testBit_zero]
    · simp [h4]
/-- 63 words hold a set. -/
def Wd (F : List Nat) (S : Nat → Bool) : Prop := F.length = 63 ∧ ∀ w, w < 63 → F.getD w 0 < 2 ^ 64 ∧ ∀ b, b < 64 → (F.getD w 0).testBit b = S (64 * w + b)
theorem Wd.nil : Wd (List.replicate 63 0) (fun _ => false) := by
  refine ⟨by simp, fun w hw => ?_⟩
  have h0 : ∀ n v : Nat, (List.replicate n 0).getD v 0 = 0 := fun n v => by
    simp only [List.getD, List.getElem?_replicate]
    split <;> rfl
  rw [h0]
  exact ⟨by decide, fun b _ => by simp⟩
theorem Wd.cong {F : List Nat} {S S' : Nat → Bool} (h : Wd F S) (e : ∀ j, j < 4032 → S j = S' j) : Wd F S' :=
  ⟨h.1, fun w hw => ⟨(h.2 w hw).1, fun b hb => ((h.2 w hw).2 b hb).trans (e _ (by omega))⟩⟩
theorem getD_set {F : List Nat} {k x w : Nat} (hk : k < F.length) : (F.set k x).getD w 0 = if w = k then x else F.getD w 0 := by
  simp only [List.getD, List.getElem?_set]
  by_cases h : k = w
  · subst h; simp [hk]
  · have : ¬ w = k := fun e => h e.symm
    simp [h, this]
theorem Wd.add {F : List Nat} {S : Nat → Bool} (h : Wd F S) {i : Nat} (hi : i < 4032) : Wd (F.set (i / 64) (F.getD (i / 64) 0 ||| 2 ^ (i % 64))) (fun j => S j || decide (j = i)) := by
  refine ⟨by rw [List.length_set]; exact h.1, fun w hw => ?_⟩
  rw [getD_set (by rw [h.1]; omega)]
  split
  · rename_i e
    subst e
    obtain ⟨h1, h2⟩ := h.2 (i / 64) hw
    refine ⟨Nat.or_lt_two_pow h1 (Nat.pow_lt_pow_right (by omega) (by omega)), fun b hb => ?_⟩
    rw [Nat.testBit_or, h2 b hb, Nat.testBit_two_pow]
    congr 1
    apply decide_eq_decide.2
    omega
  · rename_i e
    obtain ⟨h1, h2⟩ := h.2 w hw
    refine ⟨h1, fun b hb => ?_⟩
    rw [h2 b hb]
    have : ¬ 64 * w + b = i := by omega
    simp [this]
theorem Wd.zero {F : List Nat} {S : Nat → Bool} (h : Wd F S) {w : Nat} (hw : w ≤ 63) (hz : ∀ v, v < w → F.getD v 0 = 0) : ∀ j, j < 64 * w → S j = false := fun j hj => by
  have h1 := (h.2 (j / 64) (by omega)).2 (j % 64) (by omega)
  rw [hz (j / 64) (by omega), Nat.zero_testBit] at h1
  rw [h1]
  congr 1
  omega
theorem Wd.first {F : List Nat} {S : Nat → Bool} (h : Wd F S) {w : Nat} (hw : w < 63) (hz : ∀ v, v < w → F.getD v 0 = 0) (hn : F.getD w 0 ≠ 0) :
    S (64 * w + Lib.ctz 64 (F.getD w 0)) = true ∧ (∀ j, j < 64 * w + Lib.ctz 64 (F.getD w 0) → S j = false) ∧ Lib.ctz 64 (F.getD w 0) < 64 ∧ Wd (F.set w (F.getD w 0 &&& (F.getD w 0 - 1))) (fun j => S j && decide (j ≠ 64 * w + Lib.ctz 64 (F.getD w 0))) := by
  obtain ⟨h1, h2⟩ := h.2 w hw
  obtain ⟨g1, g2, g3, g4, g5⟩ := ctz_low _ hn h1
  generalize Lib.ctz 64 (F.getD w 0) = k at *
  refine ⟨by rw [← h2 k g1]; exact g2, fun j hj => ?_, g1, by rw [List.length_set]; exact h.1, fun v hv => ?_⟩
  · rcases Nat.lt_or_ge j (64 * w) with h9 | h9
    · exact h.zero (by omega) hz j h9
    · have e : j = 64 * w + (j - 64 * w) := by omega
      rw [e, ← h2 _ (by omega)]
      exact g3 _ (by omega)
  · rw [getD_set (by rw [h.1]; omega)]
    split
    · rename_i e
      subst e
      refine ⟨g4, fun b hb => ?_⟩
      rw [g5 b, h2 b hb]
      congr 1
      apply decide_eq_decide.2
      omega
    · rename_i e
      obtain ⟨q1, q2⟩ := h.2 v hv
      refine ⟨q1, fun b hb => ?_⟩
      rw [q2 b hb]
      have : 64 * v + b ≠ 64 * w + k := by omega
      simp [this]
/-- What is free while the targets of i, the last that is taken, are gone through. -/
def fre (l : List In) (out : List Nat) (i k : Nat) (t : Nat) : Bool := decide (t < l.length) && decide (t ∉ out) && decide (t ≠ i) && decide (ahd l out t = ((inst l i).take k).count t)
def fr0 (l : List In) (out : List Nat) (t : Nat) : Bool := decide (t < l.length) && rdy l out t
theorem pick_fr0 {l : List In} {out : List Nat} {i : Nat} (h : fr0 l out i = true) (hb : ∀ j, j < i → fr0 l out j = false) : pick l out = some i := by
  unfold fr0 at h hb
  rw [Bool.and_eq_true, decide_eq_true_iff] at h
  refine pick_is h.1 h.2 fun j hj => ?_
  have := hb j hj
  rw [decide_eq_true (show j < l.length by omega), Bool.true_and] at this
  exact this
theorem pick_fr0_no {l : List In} {out : List Nat} (hb : ∀ j, j < l.length → fr0 l out j = false) : pick l out = none := by
  refine pick_no fun j hj => ?_
  have := hb j hj
  unfold fr0 at this
  rw [decide_eq_true hj, Bool.true_and] at this
  exact this
theorem fre_start {l : List In} {out : List Nat} (i t : Nat) : fre l out i 0 t = (fr0 l out t && decide (t ≠ i)) := by
  apply Bool.eq_iff_iff.2
  unfold fre fr0
  simp only [Bool.and_eq_true, List.take_zero, List.count_nil, rdy_iff, decide_eq_true_eq]
  constructor
  · rintro ⟨⟨⟨a, b⟩, c⟩, d⟩; exact ⟨⟨a, b, of_decide_eq_true d⟩, c⟩
  · rintro ⟨⟨a, b, d⟩, c⟩; exact ⟨⟨⟨a, b⟩, c⟩, decide_eq_true d⟩
theorem fre_end {l : List In} {out : List Nat} {i : Nat} (hi : i < l.length) (ho : i ∉ out) (t : Nat) : fre l out i (inst l i).length t = fr0 l (out ++ [i]) t := by
  have h := ahd_snoc l out i t hi ho
  apply Bool.eq_iff_iff.2
  unfold fre fr0
  simp only [Bool.and_eq_true, decide_eq_true_iff, rdy_iff, List.take_length, List.mem_append, List.mem_singleton, not_or]
  constructor
  · rintro ⟨⟨⟨a, b⟩, c⟩, d⟩; exact ⟨a, ⟨b, c⟩, by omega⟩
  · rintro ⟨a, ⟨b, c⟩, d⟩; exact ⟨⟨⟨a, b⟩, c⟩, by omega⟩
theorem insv_len (l : List In) (j : Nat) : (inst l j).length ≤ 2 := by
  unfold inst
  split
  · unfold etN; rw [List.length_map]; exact etL_len _
  · simp
theorem sumv_le2 {f : Nat → Nat} (hf : ∀ j, f j ≤ 2) : ∀ L : List Nat, (L.map f).sum ≤ 2 * L.length
  | [] => by simp
  | a :: L => by
    have := sumv_le2 hf L
    have := hf a
    simp only [List.map_cons, List.sum_cons, List.length_cons]
    omega
theorem ahd_le (l : List In) (out : List Nat) (t : Nat) : ahd l out t ≤ 2 * l.length := by
  unfold ahd
  have h1 := sumv_le2 (f := fun j => (inst l j).count t) (fun j => Nat.le_trans List.count_le_length (insv_len l j)) ((List.range l.length).filter fun j => decide (j ∉ out))
  have h2 := List.length_filter_le (fun j => decide (j ∉ out)) (List.range l.length)
  rw [List.length_range] at h2
  omega
/-- What is left of the numbers ahead. -/
def lft (l : List In) (out : List Nat) (i k t : Nat) : Nat := ahd l out t - ((inst l i).take k).count t
theorem take_count {L : List Nat} {k : Nat} (hk : k < L.length) (t : Nat) : (L.take (k + 1)).count t = (L.take k).count t + if L[k] = t then 1 else 0 := by
  rw [List.take_succ_eq_append_getElem hk, List.count_append, List.count_singleton]
  simp only [beq_iff_eq]
theorem take_le (L : List Nat) (k t : Nat) : (L.take k).count t ≤ L.count t := List.Sublist.count_le t (List.take_sublist k L)
theorem cnt_le {l : List In} {out : List Nat} {i : Nat} (hi : i < l.length) (ho : i ∉ out) (t : Nat) : (inst l i).count t ≤ ahd l out t := by
  have := ahd_snoc l out i t hi ho
  omega
/-- One target: its number is one less. -/
theorem lft_step {l : List In} {out : List Nat} {i k : Nat} (hi : i < l.length) (ho : i ∉ out) (hk : k < (inst l i).length) (t : Nat) : lft l out i (k + 1) t = lft l out i k t - if (inst l i)[k] = t then 1 else 0 := by
  unfold lft
  rw [take_count hk]
  split <;> omega
theorem lft_pos {l : List In} {out : List Nat} {i k : Nat} (hi : i < l.length) (ho : i ∉ out) (hk : k < (inst l i).length) : 0 < lft l out i k (inst l i)[k] := by
  have h1 := cnt_le hi ho (inst l i)[k]
  have h2 := take_count hk (inst l i)[k]
  have h3 := take_le (inst l i) (k + 1) (inst l i)[k]
  rw [if_pos rfl] at h2
  unfold lft
  omega
theorem lft_end {l : List In} {out : List Nat} {i : Nat} (hi : i < l.length) (ho : i ∉ out) (t : Nat) : lft l out i (inst l i).length t = ahd l (out ++ [i]) t := by
  have := ahd_snoc l out i t hi ho
  unfold lft
  rw [List.take_length]
  omega
theorem lft_start (l : List In) (out : List Nat) (i t : Nat) : lft l out i 0 t = ahd l out t := by unfold lft; simp
/-- One that falls to nothing is free. -/
theorem fre_add {l : List In} {out : List Nat} {i k : Nat} (hT : Tg l) (hI : Inv l out) (hp : pick l out = some i) (hk : k < (inst l i).length) (hz : lft l out i (k + 1) (inst l i)[k] = 0) (t : Nat) :
    fre l out i (k + 1) t = (fre l out i k t || decide (t = (inst l i)[k])) := by
  obtain ⟨hi, ho, hz0, _⟩ := pick_some hp
  have hm : (inst l i)[k] ∈ inst l i := List.getElem_mem _
  have h1 := (ahd_zero l out (inst l i)[k]).1
  have hno : (inst l i)[k] ∉ out := fun e => h1 (hI.zero _ e) i hi ho hm
  have hni : (inst l i)[k] ≠ i := fun e => by
    rw [← e] at hz0
    exact h1 hz0 i hi ho hm
  have hlt := inst_lt hT hm
  have hpos := lft_pos hi ho hk
  have hc := take_count hk t
  have hle := cnt_le hi ho t
  have hle2 := take_le (inst l i) (k + 1) t
  apply Bool.eq_iff_iff.2
  unfold lft at hz hpos
  unfold fre
  simp only [Bool.and_eq_true, Bool.or_eq_true, decide_eq_true_iff]
  by_cases e : t = (inst l i)[k]
  · subst e
    rw [if_pos rfl] at hc
    refine ⟨fun _ => .inr rfl, fun _ => ⟨⟨⟨hlt, hno⟩, hni⟩, by omega⟩⟩
  · rw [if_neg (fun h => e h.symm)] at hc
    constructor
    · rintro ⟨⟨⟨a, b⟩, c⟩, d⟩; exact .inl ⟨⟨⟨a, b⟩, c⟩, by omega⟩
    · rintro (⟨⟨⟨a, b⟩, c⟩, d⟩ | h)
      · exact ⟨⟨⟨a, b⟩, c⟩, by omega⟩
      · exact absurd h e
theorem fre_same {l : List In} {out : List Nat} {i k : Nat} (hi : i < l.length) (ho : i ∉ out) (hk : k < (inst l i).length) (hz : lft l out i (k + 1) (inst l i)[k] ≠ 0) (t : Nat) :
    fre l out i (k + 1) t = fre l out i k t := by
  have hc := take_count hk t
  have hle := cnt_le hi ho t
  have hpos := lft_pos hi ho hk
  have hst := lft_step hi ho hk (inst l i)[k]
  rw [if_pos rfl] at hst
  apply Bool.eq_iff_iff.2
  unfold lft at hz hpos hst
  unfold fre
  simp only [Bool.and_eq_true, decide_eq_true_iff]
  by_cases e : t = (inst l i)[k]
  · subst e
    rw [if_pos rfl] at hc
    constructor
    · rintro ⟨⟨⟨a, b⟩, c⟩, d⟩; omega
    · rintro ⟨⟨⟨a, b⟩, c⟩, d⟩; omega
  · rw [if_neg (fun h => e h.symm)] at hc
    constructor
    · rintro ⟨⟨⟨a, b⟩, c⟩, d⟩; exact ⟨⟨⟨a, b⟩, c⟩, by omega⟩
    · rintro ⟨⟨⟨a, b⟩, c⟩, d⟩; exact ⟨⟨⟨a, b⟩, c⟩, by omega⟩
end Go.Proofs.YtchcjinaagncjaaDoor.Pgm
