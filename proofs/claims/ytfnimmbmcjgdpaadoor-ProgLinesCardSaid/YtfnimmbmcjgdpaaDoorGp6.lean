/- Programs and their texts: what is read from a program's text is that program. -/
import Derived.Test.YtfnimmbmcjgdpaaDoorGp1
namespace Go.Proofs.YtfnimmbmcjgdpaaDoor.Pgm
set_option linter.unusedVariables false
/-- Numbers with one space between two of them. -/
def itemsL : List Int → List UInt8
  | [] => []
  | n :: ns => Lib.itoa n ++ numsL ns
theorem numsL_cons (n : Int) (ns : List Int) : numsL (n :: ns) = 32 :: itemsL (n :: ns) := by
  unfold numsL itemsL
  simp [numsL]
theorem nums_no10 : ∀ ns : List Int, (∀ n ∈ ns, 0 ≤ n) → (10 : UInt8) ∉ numsL ns
  | [], _ => by simp [numsL]
  | n :: ns, h => by
    have h1 := nums_no10 ns (fun m hm => h m (by simp [hm]))
    have h2 := itoa_no (h n (by simp)) (c := 10) (by decide)
    rw [numsL_cons]
    unfold itemsL
    simp only [List.mem_cons, List.mem_append, not_or]
    exact ⟨by decide, h2, h1⟩
theorem cut_word {w : List UInt8} (hw : (32 : UInt8) ∉ w) (ns : List Int) : cutA 32 (w ++ numsL ns) = w ∧ cutB 32 (w ++ numsL ns) = itemsL ns := by
  cases ns with
  | nil =>
    have e : w ++ numsL [] = w := by simp [numsL]
    rw [e]
    exact ⟨cutA_no 32 w hw, cutB_no 32 w hw⟩
  | cons n ns =>
    rw [numsL_cons]
    exact ⟨cutA_at 32 _ w hw, cutB_at 32 _ w hw⟩
theorem num_item {n : Int} (h0 : 0 ≤ n) (h1 : n < 1000000) (ns : List Int) : numV (itemsL (n :: ns)) = n ∧ cutB 32 (itemsL (n :: ns)) = itemsL ns := by
  obtain ⟨a, b⟩ := cut_word (itoa_no h0 (c := 32) (by decide)) ns
  unfold numV
  show atoiV (cutA 32 (Lib.itoa n ++ numsL ns)) = n ∧ cutB 32 (Lib.itoa n ++ numsL ns) = itemsL ns
  rw [a, b]
  exact ⟨atoiV_itoa h0 h1, rfl⟩
theorem word_no (c : UInt8) (hc : c = 10 ∨ c = 32) (op : Int) : c ∉ wBytes op := by
  unfold wBytes
  rcases hc with rfl | rfl <;> (repeat' split) <;> decide
theorem opOf_w {op : Int} (h : 1 ≤ op ∧ op ≤ 6) : opOf (wBytes op) = op := by
  have : op = 1 ∨ op = 2 ∨ op = 3 ∨ op = 4 ∨ op = 5 ∨ op = 6 := by omega
  rcases this with rfl | rfl | rfl | rfl | rfl | rfl <;> decide
theorem fit_op {i : In} (h : Fit i) : 1 ≤ i.op ∧ i.op ≤ 6 := by unfold Fit at h; omega
theorem fit_own {i : In} (h : Fit i) : ∀ n ∈ ownL i, 0 ≤ n ∧ n < 4000 := by
  unfold Fit at h
  unfold ownL
  split
  · intro n hn
    simp only [List.mem_cons, List.not_mem_nil, or_false] at hn
    omega
  · split
    · intro n hn
      simp only [List.mem_cons, List.not_mem_nil, or_false] at hn
      omega
    · split
      · intro n hn
        simp only [List.mem_cons, List.not_mem_nil, or_false] at hn
        omega
      · intro n hn; simp at hn
theorem instX_line {i : In} (h : Fit i) : instX (wBytes i.op ++ numsL (ownL i)) = i := by
  obtain ⟨a, b⟩ := cut_word (word_no 32 (.inr rfl) i.op) (ownL i)
  unfold instX
  rw [a, b, opOf_w (fit_op h)]
  have hf := h
  unfold Fit at hf
  unfold instOf
  rcases hf with hf | hf | hf | hf | hf
  · have e : ownL i = [i.lo, i.hi, i.x] := by unfold ownL; rw [if_pos hf.1]
    rw [if_pos hf.1, e]
    obtain ⟨a1, b1⟩ := num_item (n := i.lo) (by omega) (by omega) [i.hi, i.x]
    obtain ⟨a2, b2⟩ := num_item (n := i.hi) (by omega) (by omega) [i.x]
    obtain ⟨a3, b3⟩ := num_item (n := i.x) (by omega) (by omega) []
    rw [a1, b1, a2, b2, a3]
    exact In.ext' (by show 1 = i.op; omega) rfl rfl rfl (by show 0 = i.y; omega)
  · have e : ownL i = [i.x, i.y] := by unfold ownL; rw [if_neg (by omega), if_pos hf.1]
    rw [if_neg (by omega), if_pos hf.1, e]
    obtain ⟨a1, b1⟩ := num_item (n := i.x) (by omega) (by omega) [i.y]
    obtain ⟨a2, b2⟩ := num_item (n := i.y) (by omega) (by omega) []
    rw [a1, b1, a2]
    exact In.ext' (by show 2 = i.op; omega) (by show 0 = i.lo; omega) (by show 0 = i.hi; omega) rfl rfl
  · have e : ownL i = [i.lo, i.x] := by unfold ownL; rw [if_neg (by omega), if_neg (by omega), if_pos (.inl hf.1)]
    rw [if_neg (by omega), if_neg (by omega), if_pos (.inl hf.1), e]
    obtain ⟨a1, b1⟩ := num_item (n := i.lo) (by omega) (by omega) [i.x]
    obtain ⟨a2, b2⟩ := num_item (n := i.x) (by omega) (by omega) []
    rw [a1, b1, a2]
    exact In.ext' rfl rfl (by show 0 = i.hi; omega) rfl (by show 0 = i.y; omega)
  · have e : ownL i = [i.lo, i.x] := by unfold ownL; rw [if_neg (by omega), if_neg (by omega), if_pos (.inr hf.1)]
    rw [if_neg (by omega), if_neg (by omega), if_pos (.inr hf.1), e]
    obtain ⟨a1, b1⟩ := num_item (n := i.lo) (by omega) (by omega) [i.x]
    obtain ⟨a2, b2⟩ := num_item (n := i.x) (by omega) (by omega) []
    rw [a1, b1, a2]
    exact In.ext' rfl rfl (by show 0 = i.hi; omega) rfl (by show 0 = i.y; omega)
  · rw [if_neg (by omega), if_neg (by omega), if_neg (by omega)]
    exact In.ext' rfl (by show 0 = i.lo; omega) (by show 0 = i.hi; omega) (by show 0 = i.x; omega) (by show 0 = i.y; omega)
theorem line_cut {w : List UInt8} (hw : (10 : UInt8) ∉ w) {ns : List Int} (hn : ∀ n ∈ ns, 0 ≤ n) (r : List UInt8) : cutA 10 (lineL w ns ++ r) = w ++ numsL ns ∧ cutB 10 (lineL w ns ++ r) = r := by
  have h : (10 : UInt8) ∉ w ++ numsL ns := by
    simp only [List.mem_append, not_or]; exact ⟨hw, nums_no10 ns hn⟩
  have e : lineL w ns ++ r = (w ++ numsL ns) ++ 10 :: r := by simp [lineL]
  rw [e]
  exact ⟨cutA_at 10 r _ h, cutB_at 10 r _ h⟩
theorem insts_text : ∀ (l : List In) (f : Nat), l.length ≤ f → (∀ i ∈ l, Fit i) → instsX f (l.flatMap instL) = l
  | [], f, _, _ => by cases f <;> simp [instsX]
  | i :: l, 0, h, _ => by simp at h
  | i :: l, f + 1, h, hf => by
    have hi := hf i (by simp)
    obtain ⟨a, b⟩ := line_cut (word_no 10 (.inl rfl) i.op) (fun n hn => (fit_own hi n hn).1) (l.flatMap instL)
    have e : (i :: l).flatMap instL = lineL (wBytes i.op) (ownL i) ++ l.flatMap instL := by simp [instL]
    have hne : lineL (wBytes i.op) (ownL i) ++ l.flatMap instL ≠ [] := by simp [lineL]
    rw [e]
    unfold instsX
    rw [if_neg hne, a, b, instX_line hi, insts_text l f (by simp at h; omega) (fun j hj => hf j (by simp [hj]))]
theorem ok_fit {l : List In} {st sl : Int} (h : Ok l st sl) : ∀ i ∈ l, Fit i := fun i hi => (fitB_iff i).1 (List.all_eq_true.1 h.2.2.2.2.2.2 i hi)
/-- The program that a text is taken for. -/
def gSt (s : List UInt8) : Int := numV (cutB 32 (cutA 10 s))
def gSl (s : List UInt8) : Int := numV (cutB 32 (cutB 32 (cutA 10 s)))
def gL (s : List UInt8) : List In := instsX 4001 (cutB 10 s)
theorem guess_text {l : List In} {st sl : Int} (h : Ok l st sl) : gL (textL l st sl) = l ∧ gSt (textL l st sl) = st ∧ gSl (textL l st sl) = sl := by
  have h' := h
  obtain ⟨h1, h2, h3, h4, h5, h6, h7⟩ := h'
  obtain ⟨a, b⟩ := line_cut (w := title) (by decide) (ns := [st, sl]) (by simp; omega) (l.flatMap instL)
  obtain ⟨c, d⟩ := cut_word (w := title) (by decide) [st, sl]
  unfold gL gSt gSl textL
  rw [a, b, d]
  obtain ⟨a1, b1⟩ := num_item (n := st) (by omega) (by omega) [sl]
  obtain ⟨a2, b2⟩ := num_item (n := sl) (by omega) (by omega) []
  rw [a1, b1, a2]
  exact ⟨insts_text l 4001 (by omega) (ok_fit h), rfl, rfl⟩
/-- What a text is read as. -/
def readL (s : List UInt8) : Option (List In × Int × Int) := if Ok (gL s) (gSt s) (gSl s) ∧ textL (gL s) (gSt s) (gSl s) = s then some (gL s, gSt s, gSl s) else none
theorem read_text {l : List In} {st sl : Int} (h : Ok l st sl) : readL (textL l st sl) = some (l, st, sl) := by
  obtain ⟨a, b, c⟩ := guess_text h
  unfold readL
  rw [a, b, c, if_pos ⟨h, rfl⟩]
theorem read_some {s : List UInt8} {l : List In} {st sl : Int} (h : readL s = some (l, st, sl)) : Ok l st sl ∧ textL l st sl = s := by
  unfold readL at h
  split at h
  · rename_i h1
    injection h with h
    have e1 := congrArg (fun p => p.1) h
    have e2 := congrArg (fun p => p.2.1) h
    have e3 := congrArg (fun p => p.2.2) h
    dsimp only at e1 e2 e3
    rw [e1, e2, e3] at h1
    exact h1
  · cases h
theorem insts_len : ∀ (f : Nat) (s : List UInt8), (instsX f s).length ≤ f
  | 0, _ => Nat.le_refl _
  | f + 1, s => by
    unfold instsX
    split
    · simp
    · have := insts_len f (cutB 10 s)
      simp; omega
/-- How long a text is. -/
theorem itoa_len {n : Int} (h0 : 0 ≤ n) (h1 : n < 1000000) : 1 ≤ (Lib.itoa n).length ∧ (Lib.itoa n).length ≤ 6 := by
  rw [itoa_nat h0]
  have := digits_ne n.toNat
  have := digits_len n.toNat (by omega)
  refine ⟨?_, this⟩
  cases h : Lib.decDigits n.toNat with
  | nil => exact absurd h ‹_›
  | cons a b => simp
theorem nums_len : ∀ ns : List Int, (∀ n ∈ ns, 0 ≤ n ∧ n < 1000000) → (numsL ns).length ≤ 7 * ns.length
  | [], _ => by simp [numsL]
  | n :: ns, h => by
    have h1 := nums_len ns (fun m hm => h m (by simp [hm]))
    have h2 := itoa_len (h n (by simp)).1 (h n (by simp)).2
    rw [numsL_cons]
    unfold itemsL
    simp; omega
theorem inst_len {i : In} (h : Fit i) : (instL i).length ≤ 28 := by
  have h1 := nums_len (ownL i) (fun n hn => ⟨(fit_own h n hn).1, by have := (fit_own h n hn).2; omega⟩)
  have h2 : (ownL i).length ≤ 3 := by unfold ownL; (repeat' split) <;> simp
  have h3 : (wBytes i.op).length ≤ 6 := by unfold wBytes; (repeat' split) <;> simp
  unfold instL lineL
  simp; omega
theorem insts_tlen : ∀ l : List In, (∀ i ∈ l, Fit i) → (l.flatMap instL).length ≤ 28 * l.length
  | [], _ => by simp
  | i :: l, h => by
    have h1 := insts_tlen l (fun j hj => h j (by simp [hj]))
    have h2 := inst_len (h i (by simp))
    rw [List.flatMap_cons, List.length_append, List.length_cons]
    omega
end Go.Proofs.YtfnimmbmcjgdpaaDoor.Pgm
