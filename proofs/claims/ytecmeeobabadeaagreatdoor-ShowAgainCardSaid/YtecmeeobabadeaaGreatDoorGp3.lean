/- The plain mathematics of UTF-8 as lists of numbers: width, encoding, decoding, and that they are inverse; no program. · The landed show: the printer's state; write. · The landed show: write. · Mathematics of bracket: escapes of numbers and of sets. -/
import Derived.Test.YtecmeeobabadeaaGreatDoorGp2
import Derived.Lib.AppendStr
import Derived.Recover
import Derived.Defers
namespace Go.Proofs.YtecmeeobabadeaaGreatDoor.Utf

def width (r : Int) : Int :=
  if r < 0 ∨ 1114111 < r ∨ (55296 ≤ r ∧ r ≤ 57343) then 0 else if r ≤ 127 then 1 else if r ≤ 2047 then 2 else if r ≤ 65535 then 3 else 4
def encN (r : Int) : List Int :=
  if width r = 0 then [] else if width r = 1 then [r] else if width r = 2 then [192 + r / 64, 128 + r % 64]
  else if width r = 3 then [224 + r / 4096, 128 + r / 64 % 64, 128 + r % 64]
  else [240 + r / 262144, 128 + r / 4096 % 64, 128 + r / 64 % 64, 128 + r % 64]
def ann (a : Int) : Int := if a < 128 then 1 else if a < 192 then 0 else if a < 224 then 2 else if a < 240 then 3 else if a < 248 then 4 else 0
def mark (n : Int) : Int := if n = 2 then 192 else if n = 3 then 224 else if n = 4 then 240 else 0
def Cont (b : Int) : Prop := 128 ≤ b ∧ b < 192
instance (b : Int) : Decidable (Cont b) := by unfold Cont; infer_instance
/-- What the first k bytes say. -/
def acc (l : List Int) (m : Int) : Nat → Int
  | 0 => 0
  | 1 => l[0]?.getD 0 - m
  | k + 2 => acc l m (k + 1) * 64 + l[k + 1]?.getD 0 % 64
def conts (l : List Int) : Nat → Bool
  | 0 => true
  | 1 => true
  | k + 2 => conts l (k + 1) && decide (Cont (l[k + 1]?.getD 0))
def dec (l : List Int) : Int × Int :=
  if l = [] then (-1, 0)
  else if ann (l[0]?.getD 0) = 0 ∨ (l.length : Int) < ann (l[0]?.getD 0) then (-1, 1)
  else if conts l (ann (l[0]?.getD 0)).toNat = true ∧ width (acc l (mark (ann (l[0]?.getD 0))) (ann (l[0]?.getD 0)).toNat) = ann (l[0]?.getD 0)
    then (acc l (mark (ann (l[0]?.getD 0))) (ann (l[0]?.getD 0)).toNat, ann (l[0]?.getD 0))
  else (-1, 1)
def Bytes (l : List Int) : Prop := ∀ x ∈ l, 0 ≤ x ∧ x < 256

theorem width_cases (r : Int) : (width r = 0 ∧ (r < 0 ∨ 1114111 < r ∨ (55296 ≤ r ∧ r ≤ 57343))) ∨ (width r = 1 ∧ 0 ≤ r ∧ r ≤ 127) ∨ (width r = 2 ∧ 128 ≤ r ∧ r ≤ 2047) ∨
    (width r = 3 ∧ 2048 ≤ r ∧ r ≤ 65535 ∧ (r < 55296 ∨ 57343 < r)) ∨ (width r = 4 ∧ 65536 ≤ r ∧ r ≤ 1114111) := by
  unfold width
  split
  · omega
  · split
    · omega
    · split
      · omega
      · split <;> omega
theorem width_le (r : Int) : 0 ≤ width r ∧ width r ≤ 4 := by rcases width_cases r with h | h | h | h | h <;> omega
theorem encN_length (r : Int) : ((encN r).length : Int) = width r := by
  rcases width_cases r with h | h | h | h | h <;> simp [encN, h.1]
theorem dec_of (l : List Int) (r : Int) (n : Nat) (hn : n ≠ 0) (h1 : ann (l[0]?.getD 0) = n) (h2 : n ≤ l.length) (h3 : conts l n = true) (h4 : acc l (mark n) n = r) (h5 : width r = n) : dec l = (r, (n : Int)) := by
  have hne : l ≠ [] := by intro h; subst h; simp at h2; exact hn h2
  unfold dec
  rw [h1, if_neg hne, if_neg (by omega), if_pos ⟨by rw [Int.toNat_natCast]; exact h3, by rw [Int.toNat_natCast, h4]; exact h5⟩, Int.toNat_natCast, h4]

/-- THERE AND BACK, one way. -/
theorem dec_enc (r : Int) (h : width r ≠ 0) (t : List Int) : dec (encN r ++ t) = (r, width r) := by
  rcases width_cases r with ⟨w, _⟩ | ⟨w, h1, h2⟩ | ⟨w, h1, h2⟩ | ⟨w, h1, h2, h3⟩ | ⟨w, h1, h2⟩
  · exact absurd w h
  · rw [w]
    have e : encN r ++ t = r :: t := by simp [encN, w]
    rw [e]
    exact dec_of _ r 1 (by decide) (by show ann r = _; unfold ann; split <;> omega) (by simp) rfl (by show r - 0 = r; omega) w
  · rw [w]
    have e : encN r ++ t = (192 + r / 64) :: (128 + r % 64) :: t := by simp [encN, w]
    rw [e]
    refine dec_of _ r 2 (by decide) (by show ann (192 + r / 64) = _; unfold ann; repeat (first | omega | split)) (by simp) ?_ (by show (192 + r / 64 - 192) * 64 + (128 + r % 64) % 64 = r; omega) w
    show decide (Cont (128 + r % 64)) = true
    simp only [decide_eq_true_eq]; unfold Cont; omega
  · rw [w]
    have e : encN r ++ t = (224 + r / 4096) :: (128 + r / 64 % 64) :: (128 + r % 64) :: t := by simp [encN, w]
    rw [e]
    refine dec_of _ r 3 (by decide) (by show ann (224 + r / 4096) = _; unfold ann; repeat (first | omega | split)) (by simp) ?_ (by show ((224 + r / 4096 - 224) * 64 + (128 + r / 64 % 64) % 64) * 64 + (128 + r % 64) % 64 = r; omega) w
    show (decide (Cont (128 + r / 64 % 64)) && decide (Cont (128 + r % 64))) = true
    simp only [Bool.and_eq_true, decide_eq_true_eq]; unfold Cont; omega
  · rw [w]
    have e : encN r ++ t = (240 + r / 262144) :: (128 + r / 4096 % 64) :: (128 + r / 64 % 64) :: (128 + r % 64) :: t := by simp [encN, w]
    rw [e]
    refine dec_of _ r 4 (by decide) (by show ann (240 + r / 262144) = _; unfold ann; repeat (first | omega | split)) (by simp) ?_ (by show (((240 + r / 262144 - 240) * 64 + (128 + r / 4096 % 64) % 64) * 64 + (128 + r / 64 % 64) % 64) * 64 + (128 + r % 64) % 64 = r; omega) w
    show (decide (Cont (128 + r / 4096 % 64)) && decide (Cont (128 + r / 64 % 64)) && decide (Cont (128 + r % 64))) = true
    simp only [Bool.and_eq_true, decide_eq_true_eq]; unfold Cont; omega

theorem ann_cases (a : Int) (h0 : 0 ≤ a) (h1 : a < 256) : (ann a = 0 ∧ (128 ≤ a ∧ a < 192 ∨ 248 ≤ a)) ∨ (ann a = 1 ∧ a < 128) ∨ (ann a = 2 ∧ 192 ≤ a ∧ a < 224) ∨ (ann a = 3 ∧ 224 ≤ a ∧ a < 240) ∨ (ann a = 4 ∧ 240 ≤ a ∧ a < 248) := by
  unfold ann; repeat (first | omega | split)

/-- THERE AND BACK, the other way: what is read has just the bytes that were read as its encoding. -/
theorem dec_some (l : List Int) (hb : Bytes l) : (l = [] ∧ dec l = (-1, 0)) ∨ (l ≠ [] ∧ dec l = (-1, 1)) ∨
    (width (dec l).1 ≠ 0 ∧ (dec l).2 = width (dec l).1 ∧ ∃ t, l = encN (dec l).1 ++ t) := by
  rcases l with _ | ⟨a, l⟩
  · exact .inl ⟨rfl, rfl⟩
  · refine .inr ?_
    have ha := hb a (by simp)
    by_cases hd : dec (a :: l) = (-1, 1)
    · exact .inl ⟨by simp, hd⟩
    · refine .inr ?_
      by_cases hq : ann a = 0 ∨ ((a :: l).length : Int) < ann a
      · exfalso; apply hd; unfold dec; simp only [List.getElem?_cons_zero, Option.getD_some]; rw [if_neg (by simp), if_pos hq]
      · by_cases hp : conts (a :: l) (ann a).toNat = true ∧ width (acc (a :: l) (mark (ann a)) (ann a).toNat) = ann a
        · have e : dec (a :: l) = (acc (a :: l) (mark (ann a)) (ann a).toNat, ann a) := by
            unfold dec; simp only [List.getElem?_cons_zero, Option.getD_some]; rw [if_neg (by simp), if_neg hq, if_pos hp]
          rw [e]
          have hw := hp.2
          refine ⟨?_, hw.symm, ?_⟩
          · show width (acc _ _ _) ≠ 0
            rw [hw]; omega
          · show ∃ t, _ = encN (acc _ _ _) ++ t
            rcases ann_cases a ha.1 ha.2 with h | h | h | h | h
            · omega
            · rw [h.1] at hp ⊢
              simp [conts, acc, mark] at hp ⊢
              exact ⟨l, by simp [encN, hp]⟩
            · rw [h.1] at hp hq ⊢
              rcases l with _ | ⟨b, l⟩
              · simp at hq
              · simp [conts, acc, mark, Cont] at hp ⊢
                have hbb := hb b (by simp)
                refine ⟨l, ?_⟩
                simp [encN, hp.2]
                omega
            · rw [h.1] at hp hq ⊢
              rcases l with _ | ⟨b, _ | ⟨c, l⟩⟩
              · simp at hq
              · simp at hq
              · simp [conts, acc, mark, Cont] at hp ⊢
                have hbb := hb b (by simp)
                have hcc := hb c (by simp)
                refine ⟨l, ?_⟩
                simp [encN, hp.2]
                omega
            · rw [h.1] at hp hq ⊢
              rcases l with _ | ⟨b, _ | ⟨c, _ | ⟨d, l⟩⟩⟩
              · simp at hq
              · simp at hq
              · simp at hq
              · simp [conts, acc, mark, Cont] at hp ⊢
                have hbb := hb b (by simp)
                have hcc := hb c (by simp)
                have hdd := hb d (by simp)
                refine ⟨l, ?_⟩
                simp [encN, hp.2]
                omega
        · exfalso; apply hd; unfold dec; simp only [List.getElem?_cons_zero, Option.getD_some]; rw [if_neg (by simp), if_neg hq, if_neg hp]

theorem getD_bytes {l : List Int} (hb : Bytes l) (k : Nat) : 0 ≤ l[k]?.getD 0 ∧ l[k]?.getD 0 < 256 := by
  rcases h : l[k]? with _ | x
  · simp
  · exact hb x (List.mem_of_getElem? h)
theorem mark_bd (n : Int) : 0 ≤ mark n ∧ mark n ≤ 240 := by
  unfold mark; split
  · omega
  · split
    · omega
    · split <;> omega
theorem ann_bd (a : Int) : 0 ≤ ann a ∧ ann a ≤ 4 := by
  unfold ann; split
  · omega
  · split
    · omega
    · split
      · omega
      · split
        · omega
        · split <;> omega
theorem acc1 (l : List Int) (m : Int) : acc l m 1 = l[0]?.getD 0 - m := rfl
theorem acc2 (l : List Int) (m : Int) : acc l m 2 = (l[0]?.getD 0 - m) * 64 + l[1]?.getD 0 % 64 := rfl
theorem acc3 (l : List Int) (m : Int) : acc l m 3 = ((l[0]?.getD 0 - m) * 64 + l[1]?.getD 0 % 64) * 64 + l[2]?.getD 0 % 64 := rfl
theorem acc4 (l : List Int) (m : Int) : acc l m 4 = (((l[0]?.getD 0 - m) * 64 + l[1]?.getD 0 % 64) * 64 + l[2]?.getD 0 % 64) * 64 + l[3]?.getD 0 % 64 := rfl
theorem acc_bd (l : List Int) (hb : Bytes l) (k : Nat) (hk : k ≤ 4) :
    0 ≤ acc l (mark (ann (l[0]?.getD 0))) k ∧ acc l (mark (ann (l[0]?.getD 0))) k ≤ 67108863 := by
  have h0 := getD_bytes hb 0
  have h1 := getD_bytes hb 1
  have h2 := getD_bytes hb 2
  have h3 := getD_bytes hb 3
  have hm : 0 ≤ l[0]?.getD 0 - mark (ann (l[0]?.getD 0)) ∧ l[0]?.getD 0 - mark (ann (l[0]?.getD 0)) < 256 := by
    have := mark_bd (ann (l[0]?.getD 0))
    refine ⟨?_, by omega⟩
    have m0 : mark 0 = 0 := by decide
    have m1 : mark 1 = 0 := by decide
    have m2 : mark 2 = 192 := by decide
    have m3 : mark 3 = 224 := by decide
    have m4 : mark 4 = 240 := by decide
    rcases ann_cases _ h0.1 h0.2 with h | h | h | h | h <;> rw [h.1] <;> omega
  generalize mark (ann (l[0]?.getD 0)) = m at *
  match k, hk with
  | 0, _ => exact ⟨by show (0 : Int) ≤ 0; omega, by show (0 : Int) ≤ _; omega⟩
  | 1, _ => rw [acc1]; omega
  | 2, _ => rw [acc2]; omega
  | 3, _ => rw [acc3]; omega
  | 4, _ => rw [acc4]; omega

def nums (s : ByteArray) : List Int := s.data.toList.map fun b => (b.toNat : Int)
theorem nums_length (s : ByteArray) : (nums s).length = s.size := by
  unfold nums; rw [List.length_map]; exact Array.length_toList
theorem nums_bytes (s : ByteArray) : Bytes (nums s) := by
  intro x hx
  simp [nums] at hx
  obtain ⟨b, _, rfl⟩ := hx
  have := b.toNat_lt
  omega
theorem nums_at (s : ByteArray) (k : Nat) (h : k < s.size) : (nums s)[k]?.getD 0 = (s[k].toNat : Int) := by
  have h' : k < s.data.size := h
  simp only [nums, List.getElem?_map, Array.getElem?_toList]
  rw [Array.getElem?_eq_getElem h']
  rfl
theorem nums_nil (s : ByteArray) : nums s = [] ↔ s.size = 0 := by rw [← nums_length]; simp

theorem conts_at (l : List Int) : ∀ (n k : Nat), conts l n = true → 1 ≤ k → k < n → Cont (l[k]?.getD 0)
  | 0, k, _, _, h => by omega
  | 1, k, _, _, h => by omega
  | n + 2, k, hc, h1, h => by
    simp only [conts, Bool.and_eq_true, decide_eq_true_eq] at hc
    by_cases e : k = n + 1
    · subst e; exact hc.2
    · exact conts_at l (n + 1) k hc.1 h1 (by omega)
theorem conts_succ (l : List Int) (k : Nat) (h1 : 1 ≤ k) (hc : conts l k = true) (h : Cont (l[k]?.getD 0)) : conts l (k + 1) = true := by
  obtain ⟨j, rfl⟩ : ∃ j, k = j + 1 := ⟨k - 1, by omega⟩
  simp only [conts, Bool.and_eq_true, decide_eq_true_eq]
  exact ⟨hc, h⟩
theorem acc_succ (l : List Int) (m : Int) (k : Nat) (h1 : 1 ≤ k) : acc l m (k + 1) = acc l m k * 64 + l[k]?.getD 0 % 64 := by
  obtain ⟨j, rfl⟩ : ∃ j, k = j + 1 := ⟨k - 1, by omega⟩
  rfl
theorem cont_yes (x : Int) (h : (x / 64 * 64 != 128) = false) : Cont x := by
  simp only [bne_eq_false_iff_eq] at h
  unfold Cont; omega
theorem cont_no (x : Int) (h : (x / 64 * 64 != 128) = true) : ¬ Cont x := by
  simp only [bne_iff_ne] at h
  unfold Cont; omega
theorem dec_bad1 (l : List Int) (hl : l ≠ []) (h : ann (l[0]?.getD 0) = 0 ∨ (l.length : Int) < ann (l[0]?.getD 0)) : dec l = (-1, 1) := by
  unfold dec; rw [if_neg hl, if_pos h]
theorem dec_bad2 (l : List Int) (n : Nat) (hl : l ≠ []) (h1 : ann (l[0]?.getD 0) = n) (h : ¬ (conts l n = true ∧ width (acc l (mark n) n) = n)) : dec l = (-1, 1) := by
  by_cases hq : ann (l[0]?.getD 0) = 0 ∨ (l.length : Int) < ann (l[0]?.getD 0)
  · exact dec_bad1 l hl hq
  · unfold dec; rw [if_neg hl, if_neg hq, h1, Int.toNat_natCast, if_neg h]

/-! ### Pieces -/
def step (l : List Int) : Nat := (dec l).2.toNat
def pc (l : List Int) : Nat → Nat → List (Int × Int)
  | 0, _ => []
  | f + 1, at_ => if at_ < l.length then ((at_ : Int), (dec (l.drop at_)).1) :: pc l f (at_ + step (l.drop at_)) else []
def rest (l : List Int) (at_ : Nat) : List (Int × Int) := pc l (l.length - at_) at_
def pieces (l : List Int) : List (Int × Int) := rest l 0

theorem bytes_drop {l : List Int} (h : Bytes l) (k : Nat) : Bytes (l.drop k) := fun x hx => h x (List.mem_of_mem_drop hx)
theorem dec_len (l : List Int) (hb : Bytes l) : 0 ≤ (dec l).2 ∧ ((dec l).2 : Int) ≤ l.length ∧ (l ≠ [] → 1 ≤ (dec l).2) ∧ (dec l).2 ≤ 4 := by
  rcases dec_some l hb with ⟨rfl, h⟩ | ⟨hn, h⟩ | ⟨h1, h2, t, ht⟩
  · rw [h]; simp
  · rw [h]
    have : 0 < l.length := List.length_pos_iff.2 hn
    refine ⟨by simp, by simp; omega, by simp, by simp⟩
  · have := encN_length (dec l).1
    have hl : (l.length : Int) = width (dec l).1 + t.length := by
      have := congrArg List.length ht
      rw [List.length_append] at this
      omega
    have hw := width_le (dec l).1
    refine ⟨by omega, by omega, fun _ => by omega, by omega⟩
theorem dec_neg (l : List Int) (hb : Bytes l) : -1 ≤ (dec l).1 ∧ ((dec l).1 < 0 → (dec l).1 = -1) ∧ (dec l).1 ≤ 1114111 := by
  rcases dec_some l hb with ⟨rfl, h⟩ | ⟨hn, h⟩ | ⟨h1, h2, t, ht⟩
  · rw [h]; simp
  · rw [h]; simp
  · rcases width_cases (dec l).1 with w | w | w | w | w <;> omega
theorem step_bd (l : List Int) (hb : Bytes l) (hn : l ≠ []) : 1 ≤ step l ∧ step l ≤ l.length ∧ (step l : Int) = (dec l).2 := by
  have := dec_len l hb
  have := this.2.2.1 hn
  unfold step; omega
theorem pc_fuel (l : List Int) (hb : Bytes l) : ∀ (f g at_ : Nat), l.length - at_ ≤ f → l.length - at_ ≤ g → pc l f at_ = pc l g at_
  | 0, 0, _, _, _ => rfl
  | 0, g + 1, at_, h, _ => by unfold pc; rw [if_neg (by omega)]
  | f + 1, 0, at_, _, h => by unfold pc; rw [if_neg (by omega)]
  | f + 1, g + 1, at_, h, h' => by
    unfold pc
    by_cases hl : at_ < l.length
    · rw [if_pos hl, if_pos hl]
      have hs := step_bd (l.drop at_) (bytes_drop hb _) (by intro e; have := congrArg List.length e; simp at this; omega)
      rw [pc_fuel l hb f g _ (by omega) (by omega)]
    · rw [if_neg hl, if_neg hl]
theorem rest_step (l : List Int) (hb : Bytes l) (at_ : Nat) (h : at_ < l.length) : rest l at_ = ((at_ : Int), (dec (l.drop at_)).1) :: rest l (at_ + step (l.drop at_)) := by
  have hs := step_bd (l.drop at_) (bytes_drop hb _) (by intro e; have := congrArg List.length e; simp at this; omega)
  unfold rest
  obtain ⟨f, hf⟩ : ∃ f, l.length - at_ = f + 1 := ⟨l.length - at_ - 1, by omega⟩
  rw [hf]
  conv => lhs; unfold pc
  rw [if_pos h, pc_fuel l hb f (l.length - (at_ + step (l.drop at_))) _ (by omega) (by omega)]
theorem nums_extract (s : ByteArray) (a b : Nat) : nums (s.extract a b) = ((nums s).drop a).take (b - a) := by
  unfold nums
  rw [ByteArray.data_extract, Array.toList_extract, List.extract_eq_take_drop, List.map_take, List.map_drop]
end Go.Proofs.YtecmeeobabadeaaGreatDoor.Utf
namespace Go.Proofs.YtecmeeobabadeaaGreatDoor
open Go.RowKit
set_option linter.unusedVariables false
theorem Tryz.infoByte : (Tryz.prog.info? 5).map (fun i => (i.zero, i.size, i.bytes)) = some (some (.int .u8 0), 1, 1) := by kernel_rfl
theorem Tryz.underBytes : Tryz.prog.underlying 54 = some (.slice 5) := by kernel_rfl
theorem Tryz.underTextS : Tryz.prog.underlying 9 = some .string := by kernel_rfl
theorem strCells_nums (s : ByteArray) : Lib.strCells s = (Utf.nums s).map (Value.int .u8) := by
  unfold Lib.strCells Utf.nums
  rw [List.map_map]
  rfl
/-- The printer: its box, and what is printed. -/
def PrOk (W : World) (B : Nat) (O : List Int) : Prop := ∃ v, W.heap[B]? = some (.cells #[v] 56 (0, 0)) ∧ W.ownsRow (B + 1) 5 1 v O.length (O.map (Value.int .u8))
/-- A block that is no row of bytes and no printer. -/
def NoP (o : Option Obj) : Prop := (∀ c f, o ≠ some (.cells c 5 f)) ∧ ∀ c f, o ≠ some (.cells c 56 f)
/-- What a call of the printer leaves alone. -/
structure Kp (W : World) (B : Nat) (W' : World) : Prop where
  os : W'.os = W.os
  tape : W'.tape = W.tape
  output : W'.output = W.output
  size : W.heap.size ≤ W'.heap.size
  block : ∀ k, k < W.heap.size → (k < B ∨ NoP W.heap[k]?) → W'.heap[k]? = W.heap[k]?
theorem Kp.refl (W : World) (B : Nat) : Kp W B W := ⟨rfl, rfl, rfl, Nat.le_refl _, fun _ _ _ => rfl⟩
theorem Kp.trans {W W' W'' : World} {B : Nat} (h : Kp W B W') (k : Kp W' B W'') : Kp W B W'' :=
  ⟨k.os.trans h.os, k.tape.trans h.tape, k.output.trans h.output, Nat.le_trans h.size k.size, fun b hb hn => by
    have e := h.block b hb hn
    exact (k.block b (Nat.lt_of_lt_of_le hb h.size) (by rw [e]; exact hn)).trans e⟩
theorem Kp.below {W W' : World} {B : Nat} (k : Kp W B W') (hB : B ≤ W.heap.size) : Below B W W' := ⟨k.os, k.tape, k.output, k.size, fun b hb => k.block b (by omega) (.inl hb)⟩
theorem Kp.of_below {W W' : World} (B : Nat) (hb : Below W.heap.size W W') : Kp W B W' := ⟨hb.os, hb.tape, hb.output, hb.size, fun k hk _ => hb.block k hk⟩
theorem Kp.kept {W W' : World} {B k : Nat} (h : Kp W B W') {o : Obj} (ho : W.heap[k]? = some o) (hn : NoP (some o)) : W'.heap[k]? = some o :=
  (h.block k (Array.getElem?_eq_some_iff.1 ho).1 (.inr (by rw [ho]; exact hn))).trans ho
theorem noP_of {c : Array Value} {t : TypeId} {f : Nat × Nat} (h1 : t ≠ 5) (h2 : t ≠ 56) : NoP (some (.cells c t f)) :=
  ⟨fun c' f' e => by injection e with e; injection e with _ e _; exact h1 e, fun c' f' e => by injection e with e; injection e with _ e _; exact h2 e⟩
theorem PrOk.lt {W : World} {B : Nat} {O : List Int} (h : PrOk W B O) : B < W.heap.size := by
  obtain ⟨v, h1, _⟩ := h
  exact (Array.getElem?_eq_some_iff.1 h1).1
theorem PrOk.alloc {W : World} {B : Nat} {O : List Int} (h : PrOk W B O) (o : Obj) : PrOk (W.alloc o) B O := by
  have hlt := h.lt
  obtain ⟨v, h1, h2⟩ := h
  exact ⟨v, by rw [Below.heap_alloc W o B hlt]; exact h1, h2.alloc _⟩
/-- What Below leaves of the printer. -/
theorem PrOk.below {W W' : World} {B : Nat} {O : List Int} (h : PrOk W B O) (hb : Below W.heap.size W W') : PrOk W' B O := by
  have hlt := h.lt
  obtain ⟨v, h1, h2⟩ := h
  exact ⟨v, (hb.block _ hlt).trans h1, World.ownsRow.kept h2 ⟨hb.os, hb.tape, hb.output, hb.size, fun k hk _ => hb.block k hk⟩ (row := none) (by cases hv : v.ownBlock <;> simp)⟩
/-- The printer's box written anew behind an append. -/
theorem printer_put {W W1 : World} {B n : Nat} {O O1 : List Int} {v v1 : Value} (hbx : W.heap[B]? = some (.cells #[v] 56 (0, 0))) (hown : W.ownsRow (B + 1) 5 1 v n (O.map (Value.int .u8)))
    (hown1 : W1.ownsRow (B + 1) 5 1 v1 O1.length (O1.map (Value.int .u8))) (hg : W.grownBy W1 v.ownBlock) :
    W1.heap[B]? = some (.cells #[v] 56 (0, 0)) ∧ PrOk (W1.setCell ⟨B, 0, none⟩ v1) B O1 ∧ Kp W B (W1.setCell ⟨B, 0, none⟩ v1) := by
  have hlt := (Array.getElem?_eq_some_iff.1 hbx).1
  have hne : ∀ k, (k ≤ B ∨ NoP W.heap[k]?) → some k ≠ v.ownBlock := fun k hk => by
    rcases hown.2 with ⟨e, _⟩ | ⟨g, cap, cur, e, hge, hgc, _⟩
    · rw [e]; intro e2; cases e2
    · rw [e]; intro e2
      injection e2 with e2
      have e3 : k = g := e2
      subst e3
      rcases hk with hk | hk
      · omega
      · exact hk.1 cur _ hgc
  have hB1 : W1.heap[B]? = some (.cells #[v] 56 (0, 0)) := (hg.block B hlt (hne B (.inl (Nat.le_refl _)))).trans hbx
  have hB2 : (W1.setCell ⟨B, 0, none⟩ v1).heap[B]? = some (.cells #[v1] 56 (0, 0)) := by
    have h9 := heap_setCell_same W1 B 0 _ _ v1 hB1
    simpa using h9
  have hoth : ∀ b, b ≠ B → (W1.setCell ⟨B, 0, none⟩ v1).heap[b]? = W1.heap[b]? := fun b hb => heap_setCell_other W1 ⟨B, 0, none⟩ b v1 hb
  refine ⟨hB1, ⟨v1, hB2, hown1.1, ?_⟩, ⟨hg.os, hg.tape, hg.output, by simpa using hg.size, fun k hk hn => ?_⟩⟩
  · rcases hown1.2 with h | ⟨g, cap, cur, e, hge, hgc, h5⟩
    · exact .inl h
    · exact .inr ⟨g, cap, cur, e, hge, by rw [hoth g (by omega)]; exact hgc, h5⟩
  · by_cases hkB : k = B
    · subst hkB
      rcases hn with hn | hn
      · omega
      · exact absurd hbx (hn.2 _ _)
    · rw [hoth k hkB]
      exact hg.block k hk (hne k (by rcases hn with hn | hn; exact .inl (by omega); exact .inr hn))
theorem cell_box {W : World} {B : Nat} {v : Value} {t : TypeId} (h : W.heap[B]? = some (.cells #[v] t (0, 0))) : W.cell? ⟨B, 0, none⟩ = some v := by simp [World.cell?, h]
theorem frozen_box {W : World} {B : Nat} {v : Value} {t : TypeId} (h : W.heap[B]? = some (.cells #[v] t (0, 0))) : W.frozen? ⟨B, 0, none⟩ = false := by simp [World.frozen?, h]
/-- A call that prints X behind O. -/
def PrQ (W : World) (B : Nat) (O X : List Int) (e : Ending) (w' : World) : Prop :=
  Kp W B w' ∧ ((O.length + X.length ≤ 4096 ∧ e = .returned (.tuple #[]) ∧ PrOk w' B (O ++ X)) ∨
    (4096 < O.length + X.length ∧ ∃ O', 4096 < O'.length ∧ O'.length ≤ 10000000 ∧ e = .panicked [{ v := .iface 89 (.agg #[]), recovered := false }] ∧ PrOk w' B O'))
set_option maxRecDepth 100000 in
set_option maxHeartbeats 4000000 in
theorem tooLong_any (W : World) (B : Nat) (O : List Int) (h : PrOk W B O) (hl : O.length ≤ 10000000) : Calls Tryz.prog 120 #[.pointer (some ⟨B, 0, none⟩)] W fun e w' => e = .returned (.bool (decide (4096 < O.length))) ∧ W = w' := by
  obtain ⟨v, h1, h2⟩ := h
  have hv : ∃ a c, v = .slice a O.length c := by
    rcases h2.2 with ⟨e, e0⟩ | ⟨g, cap, cur, e, _⟩
    · exact ⟨none, 0, by rw [e, e0]⟩
    · exact ⟨_, _, e⟩
  obtain ⟨a, c, rfl⟩ := hv
  obtain ⟨n, hn⟩ : ∃ n, O.length = n := ⟨_, rfl⟩
  rw [hn] at h1 hl ⊢
  have q0 : W.cell? ⟨B, 0, none⟩ = some (.slice a n c) := by simp [World.cell?, h1]
  have hd : decide ((4096 : Int) < (n : Int)) = decide (4096 < n) := by
    by_cases h9 : 4096 < n
    · rw [decide_eq_true h9, decide_eq_true (by omega)]
    · rw [decide_eq_false h9, decide_eq_false (by omega)]
  clear h1 h2 hn
  go_enter Tryz.func120, Tryz.ntmps120
  go_wp2
  go_ret
  exact ⟨rfl, rfl⟩
end Go.Proofs.YtecmeeobabadeaaGreatDoor
namespace Go.Proofs.YtecmeeobabadeaaGreatDoor
open Go.RowKit
set_option linter.unusedVariables false
set_option maxRecDepth 100000 in
set_option maxHeartbeats 4000000 in
theorem write_any (W : World) (B : Nat) (O : List Int) (s : ByteArray) (h : PrOk W B O) (hl : O.length ≤ 4096) (hs : s.size ≤ 1000000) : Calls Tryz.prog 80 #[.pointer (some ⟨B, 0, none⟩), .string s] W (PrQ W B O (Utf.nums s)) := by
  have HT := Lib.hid (fun w O' (h' : PrOk w B O') (hl' : O'.length ≤ 10000000) => tooLong_any w B O' h' hl')
  have HP := Lib.hid h
  obtain ⟨v, hbx, hown⟩ := h
  have q0 := cell_box hbx
  have q1 := frozen_box hbx
  have hc1 := HT.out W O HP.out (by omega)
  rw [decide_eq_false (by omega)] at hc1
  obtain ⟨i0, hi, hz0, hz1, hz2⟩ := info_parts Tryz.infoByte
  have HBX := Lib.hid hbx
  have HOWN := Lib.hid hown
  have HC1 := Lib.hid hc1
  clear hbx hown hc1
  go_enter Tryz.func80, Tryz.ntmps80
  go_wp2_with fail
  refine HC1.out.mono ?_
  rintro e w' ⟨rfl, rfl⟩
  go_wp2_with (at_builtin; (refine Lib.wpList_append_own_string _ rfl _ _ 54 9 (by rfl) (B + 1) 5 i0 Tryz.underBytes Tryz.underTextS hi hz0 hz1 hz2 v O.length (O.map (Value.int .u8)) (by rfl) HOWN.out s (by rfl) (by unfold maxLen; omega) (by omega) (by have := HP.out.lt; omega) ?_))
  intro v' w' hown' hgr _
  have hown2 : w'.ownsRow (B + 1) 5 1 v' (O ++ Utf.nums s).length ((O ++ Utf.nums s).map (Value.int .u8)) := by
    rw [List.length_append, Utf.nums_length, List.map_append, ← strCells_nums]; exact hown'
  obtain ⟨a1, c1, hv1⟩ : ∃ a c, v' = .slice a (O.length + s.size) c := by
    rcases hown'.2 with ⟨e, e0⟩ | ⟨g, cap, cur, e, _⟩
    · exact ⟨none, 0, by rw [e, e0]⟩
    · exact ⟨_, _, e⟩
  subst hv1
  obtain ⟨hB1, hpr, hkp⟩ := printer_put HBX.out HOWN.out hown2 hgr
  have p0 := cell_box hB1
  have p1 := frozen_box hB1
  obtain ⟨w2, hw2⟩ : ∃ w2, w'.setCell ⟨B, 0, none⟩ (.slice a1 (O.length + s.size) c1) = w2 := ⟨_, rfl⟩
  rw [hw2] at hpr hkp
  have HW2 := Lib.hid hw2
  have HPR := Lib.hid hpr
  have HKP := Lib.hid hkp
  have hlen : (O ++ Utf.nums s).length = O.length + s.size := by rw [List.length_append, Utf.nums_length]
  have hlb : (O ++ Utf.nums s).length ≤ 10000000 := by omega
  have HLN := Lib.hid hlen
  have HC2 := Lib.hid (HT.out w2 _ hpr hlb)
  clear hown' hgr hown2 hB1 hpr hkp hw2 hlen
  by_cases hlong : 4096 < (O ++ Utf.nums s).length
  · rw [decide_eq_true hlong] at HC2
    have HLO := Lib.hid hlong
    clear hlong
    go_wp2_with fail
    rw [HW2.out]
    refine HC2.out.mono ?_
    rintro e w3 ⟨rfl, rfl⟩
    go_wp2
    refine ⟨rfl, ?_⟩
    exact ⟨HKP.out, .inr ⟨by rw [Utf.nums_length]; have := HLO.out; have := HLN.out; omega, _, HLO.out, hlb, rfl, HPR.out⟩⟩
  · rw [decide_eq_false hlong] at HC2
    have HLO := Lib.hid hlong
    clear hlong
    go_wp2_with fail
    rw [HW2.out]
    refine HC2.out.mono ?_
    rintro e w3 ⟨rfl, rfl⟩
    go_wp2
    refine ⟨rfl, .tuple #[], by simp [results, Tryz.f80, go_sem], ?_⟩
    exact ⟨HKP.out, .inl ⟨by rw [Utf.nums_length]; have := HLO.out; have := HLN.out; omega, rfl, HPR.out⟩⟩
set_option maxRecDepth 100000 in
set_option maxHeartbeats 4000000 in
theorem writeD_any (u : FrameMode) (W : World) (B : Nat) (O : List Int) (s : ByteArray) (h : PrOk W B O) (hl : O.length ≤ 4096) (hs : s.size ≤ 1000000) : CallsD Tryz.prog 80 #[.pointer (some ⟨B, 0, none⟩), .string s] u W fun e u' w' => u' = u ∧ PrQ W B O (Utf.nums s) e w' := by
  have HT := Lib.hid (fun w O' (h' : PrOk w B O') (hl' : O'.length ≤ 10000000) => tooLong_any w B O' h' hl')
  have HP := Lib.hid h
  obtain ⟨v, hbx, hown⟩ := h
  have q0 := cell_box hbx
  have q1 := frozen_box hbx
  have hc1 := HT.out W O HP.out (by omega)
  rw [decide_eq_false (by omega)] at hc1
  obtain ⟨i0, hi, hz0, hz1, hz2⟩ := info_parts Tryz.infoByte
  have HBX := Lib.hid hbx
  have HOWN := Lib.hid hown
  have HC1 := Lib.hid hc1
  clear hbx hown hc1
  refine callsD_of_wp Tryz.func80 rfl ?_
  simp only [Tryz.ntmps80, List.size_toArray, List.length_cons, List.length_nil, Nat.reduceAdd, Nat.reduceSub, Array.replicate_succ, Array.replicate_zero, List.push_toArray, List.append_toArray, List.nil_append, List.cons_append]
  go_wp2_with fail
  refine HC1.out.mono ?_
  rintro e w' ⟨rfl, rfl⟩
  go_wp2_with (at_builtin; (refine Lib.wpList_append_own_string _ rfl _ _ 54 9 (by rfl) (B + 1) 5 i0 Tryz.underBytes Tryz.underTextS hi hz0 hz1 hz2 v O.length (O.map (Value.int .u8)) (by rfl) HOWN.out s (by rfl) (by unfold maxLen; omega) (by omega) (by have := HP.out.lt; omega) ?_))
  intro v' w' hown' hgr _
  have hown2 : w'.ownsRow (B + 1) 5 1 v' (O ++ Utf.nums s).length ((O ++ Utf.nums s).map (Value.int .u8)) := by
    rw [List.length_append, Utf.nums_length, List.map_append, ← strCells_nums]; exact hown'
  obtain ⟨a1, c1, hv1⟩ : ∃ a c, v' = .slice a (O.length + s.size) c := by
    rcases hown'.2 with ⟨e, e0⟩ | ⟨g, cap, cur, e, _⟩
    · exact ⟨none, 0, by rw [e, e0]⟩
    · exact ⟨_, _, e⟩
  subst hv1
  obtain ⟨hB1, hpr, hkp⟩ := printer_put HBX.out HOWN.out hown2 hgr
  have p0 := cell_box hB1
  have p1 := frozen_box hB1
  obtain ⟨w2, hw2⟩ : ∃ w2, w'.setCell ⟨B, 0, none⟩ (.slice a1 (O.length + s.size) c1) = w2 := ⟨_, rfl⟩
  rw [hw2] at hpr hkp
  have HW2 := Lib.hid hw2
  have HPR := Lib.hid hpr
  have HKP := Lib.hid hkp
  have hlen : (O ++ Utf.nums s).length = O.length + s.size := by rw [List.length_append, Utf.nums_length]
  have hlb : (O ++ Utf.nums s).length ≤ 10000000 := by omega
  have HLN := Lib.hid hlen
  have HC2 := Lib.hid (HT.out w2 _ hpr hlb)
  clear hown' hgr hown2 hB1 hpr hkp hw2 hlen
  by_cases hlong : 4096 < (O ++ Utf.nums s).length
  · rw [decide_eq_true hlong] at HC2
    have HLO := Lib.hid hlong
    clear hlong
    go_wp2_with fail
    rw [HW2.out]
    refine HC2.out.mono ?_
    rintro e w3 ⟨rfl, rfl⟩
    go_wp2
    refine ⟨rfl, ?_⟩
    exact ⟨HKP.out, .inr ⟨by rw [Utf.nums_length]; have := HLO.out; have := HLN.out; omega, _, HLO.out, hlb, rfl, HPR.out⟩⟩
  · rw [decide_eq_false hlong] at HC2
    have HLO := Lib.hid hlong
    clear hlong
    go_wp2_with fail
    rw [HW2.out]
    refine HC2.out.mono ?_
    rintro e w3 ⟨rfl, rfl⟩
    go_wp2
    refine ⟨rfl, .tuple #[], by simp [results, Tryz.f80, go_sem], ?_⟩
    exact ⟨HKP.out, .inl ⟨by rw [Utf.nums_length]; have := HLO.out; have := HLN.out; omega, rfl, HPR.out⟩⟩
set_option maxRecDepth 100000 in
set_option maxHeartbeats 4000000 in
/-- On the way out of a pattern that is too long nothing more is printed. -/
theorem writeL_any (u : FrameMode) (W : World) (B : Nat) (O : List Int) (s : ByteArray) (h : PrOk W B O) (hl : 4096 < O.length) (hl2 : O.length ≤ 10000000) : CallsD Tryz.prog 80 #[.pointer (some ⟨B, 0, none⟩), .string s] u W fun e u' w' => u' = u ∧ e = .returned (.tuple #[]) ∧ w' = W := by
  have hc1 := tooLong_any W B O h hl2
  rw [decide_eq_true hl] at hc1
  have HC1 := Lib.hid hc1
  clear hc1
  refine callsD_of_wp Tryz.func80 rfl ?_
  simp only [Tryz.ntmps80, List.size_toArray, List.length_cons, List.length_nil, Nat.reduceAdd, Nat.reduceSub, Array.replicate_succ, Array.replicate_zero, List.push_toArray, List.append_toArray, List.nil_append, List.cons_append]
  go_wp2_with fail
  refine HC1.out.mono ?_
  rintro e w' ⟨rfl, rfl⟩
  go_wp2
  refine ⟨rfl, .tuple #[], by simp [results, Tryz.f80, go_sem], ?_⟩
  exact ⟨rfl, rfl⟩
end Go.Proofs.YtecmeeobabadeaaGreatDoor
namespace Go.Proofs.YtecmeeobabadeaaGreatDoor.Br
set_option linter.unusedVariables false
/-- What a hexadecimal digit says; -1: it is none. -/
def dig (c : Int) : Int := if 48 ≤ c ∧ c ≤ 57 then c - 48 else if 97 ≤ c ∧ c ≤ 102 then c - 87 else if 65 ≤ c ∧ c ≤ 70 then c - 55 else -1
/-- How many digits stand in front, at most so many. -/
def cnt : List Int → Nat → Nat
  | x :: l, m + 1 => if 0 ≤ dig x then cnt l m + 1 else 0
  | _, _ => 0
/-- The number that the first k make. -/
def val (l : List Int) (k : Nat) : Int := (l.take k).foldl (fun a x => a * 16 + dig x) 0
def letB (c : Int) : Bool := (decide (65 ≤ c) && decide (c ≤ 90)) || (decide (97 ≤ c) && decide (c ≤ 122))
def signB (c : Int) : Bool := decide (33 ≤ c) && decide (c ≤ 126) && !letB c && !(decide (48 ≤ c) && decide (c ≤ 57))
def plain (c : Int) : Int × Int × Int :=
  if c = 97 then (7, 2, 0) else if c = 116 then (9, 2, 0) else if c = 110 then (10, 2, 0) else if c = 118 then (11, 2, 0) else if c = 102 then (12, 2, 0) else if c = 114 then (13, 2, 0)
  else if signB c = true then (c, 2, 0) else (0, 0, 80)
def braced (l : List Int) : Int × Int × Int :=
  let n := cnt (l.drop 3) 6
  if 3 + n = l.length then (0, 0, 82) else if l[3 + n]?.getD 0 ≠ 125 ∨ n = 0 ∨ 1114111 < val (l.drop 3) n then (0, 0, 80) else (val (l.drop 3) n, n + 4, 0)
def two (l : List Int) : Int × Int × Int :=
  let n := cnt (l.drop 2) 2
  if n = 2 then (val (l.drop 2) 2, 4, 0) else if n + 2 = l.length then (0, 0, 82) else (0, 0, 80)
/-- An escape of a number: what it says, its length, and its code. -/
def num (l : List Int) : Int × Int × Int :=
  if l[0]?.getD 0 ≠ 92 then (0, 0, 3) else if l.length = 1 then (0, 0, 82) else if l[1]?.getD 0 ≠ 120 then plain (l[1]?.getD 0) else if l[2]?.getD 0 = 123 then braced l else two l
theorem dig_bd (c : Int) : -1 ≤ dig c ∧ dig c ≤ 15 := by unfold dig; split <;> (try split) <;> (try split) <;> omega
theorem cnt_le : ∀ (l : List Int) (m : Nat), cnt l m ≤ m ∧ cnt l m ≤ l.length
  | [], m => by cases m <;> simp [cnt]
  | x :: l, 0 => by simp [cnt]
  | x :: l, m + 1 => by
    have := cnt_le l m
    unfold cnt
    split <;> simp <;> omega
theorem cnt_yes : ∀ (l : List Int) (m k : Nat), k < cnt l m → 0 ≤ dig (l[k]?.getD 0)
  | [], m, k, h => by have := (cnt_le [] m).2; simp at this; omega
  | x :: l, 0, k, h => by simp [cnt] at h
  | x :: l, m + 1, k, h => by
    unfold cnt at h
    split at h
    · cases k with
      | zero => simpa
      | succ k => simpa using cnt_yes l m k (by omega)
    · omega
theorem cnt_no : ∀ (l : List Int) (m : Nat), cnt l m < m → cnt l m < l.length → dig (l[cnt l m]?.getD 0) < 0
  | [], m, h, h' => by simp at h'
  | x :: l, 0, h, h' => by omega
  | x :: l, m + 1, h, h' => by
    unfold cnt at h h' ⊢
    split
    · rename_i hx
      rw [if_pos hx] at h h'
      simpa using cnt_no l m (by omega) (by simpa using h')
    · rename_i hx
      simpa using hx
theorem val_succ (l : List Int) (k : Nat) (h : k < l.length) : val l (k + 1) = val l k * 16 + dig (l[k]?.getD 0) := by
  unfold val
  rw [List.take_succ_eq_append_getElem h, List.foldl_append, List.getElem?_eq_getElem h]
  rfl
theorem val_bd (l : List Int) (m : Nat) : ∀ k, k ≤ cnt l m → 0 ≤ val l k ∧ val l k < 16 ^ k
  | 0, _ => by simp [val]
  | k + 1, h => by
    have ih := val_bd l m k (by omega)
    have h1 := cnt_yes l m k (by omega)
    have h2 := (dig_bd (l[k]?.getD 0)).2
    rw [val_succ l k (by have := (cnt_le l m).2; omega)]
    have e : (16 : Int) ^ (k + 1) = 16 ^ k * 16 := by rw [Int.pow_succ]
    omega
/-- Where a count ends: it is all, or what follows is no digit. -/
theorem cnt_ends (l : List Int) (m k : Nat) (hk : k ≤ m) (hl : k ≤ l.length) (hy : ∀ j, j < k → 0 ≤ dig (l[j]?.getD 0)) (he : k = m ∨ k = l.length ∨ dig (l[k]?.getD 0) < 0) : cnt l m = k := by
  have h1 := cnt_le l m
  rcases Nat.lt_trichotomy (cnt l m) k with h | h | h
  · have := cnt_no l m (by omega) (by omega)
    have := hy _ h
    omega
  · exact h
  · rcases he with e | e | e
    · omega
    · omega
    · have := cnt_yes l m k h; omega
end Go.Proofs.YtecmeeobabadeaaGreatDoor.Br
