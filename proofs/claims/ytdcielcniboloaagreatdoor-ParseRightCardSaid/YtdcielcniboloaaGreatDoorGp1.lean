/- The plain mathematics of UTF-8 as lists of numbers: width, encoding, decoding, and that they are inverse; no program. · Mathematics of bracket: escapes of numbers and of sets. · The plain mathematics of lists of ranges: membership, edges, normalized lists and their uniqueness; no program. -/
namespace Go.Proofs.YtdcielcniboloaaGreatDoor.Utf

def width (r : Int) : Int :=
  if r < 0 ∨ 1114111 < r ∨ (55296 ≤ r ∧ r ≤ 57343) then 0 else if r ≤ 127 then 1 else if r ≤ 2047 then 2 else if r ≤ 65535 then 3 else 4
def encN (r : Int) : List Int :=
  if width r = 0 then [] else if width r = 1 then [r] else if width r = 2 then [192 + r / 64, 128 + r % 64]
  else if width r = 3 then [224 + r / 4096, 128 + r / 64 % 64, 128 + r % 64]
  else [240 + r / 262144, 128 + r / 4096 % 64, 128 + r / 64 % 64, 128 + r % 64]
def ann (a : Int) : Int := if a < 128 then 1 else if a < 192 then 0 else if a < 224 then 2 else if a < 240 then 3 else if a < 248 then 4 else 0
def mark (n : Int) : Int := if n = 2 then 192 else if n = 3 then 224 else if n = 4 then 240 else 0
def Cont (b : Int) : Prop := 128 ≤ b ∧ b < 192
instance (b : Int) : Decidable (Cont b) := by unfold Cont; infer_instance
/-- What the first k bytes say. -/
def acc (l : List Int) (m : Int) : Nat → Int
  | 0 => 0
  | 1 => l[0]?.getD 0 - m
  | k + 2 => acc l m (k + 1) * 64 + l[k + 1]?.getD 0 % 64
def conts (l : List Int) : Nat → Bool
  | 0 => true
  | 1 => true
  | k + 2 => conts l (k + 1) && decide (Cont (l[k + 1]?.getD 0))
def dec (l : List Int) : Int × Int :=
  if l = [] then (-1, 0)
  else if ann (l[0]?.getD 0) = 0 ∨ (l.length : Int) < ann (l[0]?.getD 0) then (-1, 1)
  else if conts l (ann (l[0]?.getD 0)).toNat = true ∧ width (acc l (mark (ann (l[0]?.getD 0))) (ann (l[0]?.getD 0)).toNat) = ann (l[0]?.getD 0)
    then (acc l (mark (ann (l[0]?.getD 0))) (ann (l[0]?.getD 0)).toNat, ann (l[0]?.getD 0))
  else (-1, 1)
def Bytes (l : List Int) : Prop := ∀ x ∈ l, 0 ≤ x ∧ x < 256

theorem width_cases (r : Int) : (width r = 0 ∧ (r < 0 ∨ 1114111 < r ∨ (55296 ≤ r ∧ r ≤ 57343))) ∨ (width r = 1 ∧ 0 ≤ r ∧ r ≤ 127) ∨ (width r = 2 ∧ 128 ≤ r ∧ r ≤ 2047) ∨
    (width r = 3 ∧ 2048 ≤ r ∧ r ≤ 65535 ∧ (r < 55296 ∨ 57343 < r)) ∨ (width r = 4 ∧ 65536 ≤ r ∧ r ≤ 1114111) := by
  unfold width
  split
  · omega
  · split
    · omega
    · split
      · omega
      · split <;> omega
theorem width_le (r : Int) : 0 ≤ width r ∧ width r ≤ 4 := by rcases width_cases r with h | h | h | h | h <;> omega
theorem encN_length (r : Int) : ((encN r).length : Int) = width r := by
  rcases width_cases r with h | h | h | h | h <;> simp [encN, h.1]
theorem dec_of (l : List Int) (r : Int) (n : Nat) (hn : n ≠ 0) (h1 : ann (l[0]?.getD 0) = n) (h2 : n ≤ l.length) (h3 : conts l n = true) (h4 : acc l (mark n) n = r) (h5 : width r = n) : dec l = (r, (n : Int)) := by
  have hne : l ≠ [] := by intro h; subst h; simp at h2; exact hn h2
  unfold dec
  rw [h1, if_neg hne, if_neg (by omega), if_pos ⟨by rw [Int.toNat_natCast]; exact h3, by rw [Int.toNat_natCast, h4]; exact h5⟩, Int.toNat_natCast, h4]

/-- THERE AND BACK, one way. -/
theorem dec_enc (r : Int) (h : width r ≠ 0) (t : List Int) : dec (encN r ++ t) = (r, width r) := by
  rcases width_cases r with ⟨w, _⟩ | ⟨w, h1, h2⟩ | ⟨w, h1, h2⟩ | ⟨w, h1, h2, h3⟩ | ⟨w, h1, h2⟩
  · exact absurd w h
  · rw [w]
    have e : encN r ++ t = r :: t := by simp [encN, w]
    rw [e]
    exact dec_of _ r 1 (by decide) (by show ann r = _; unfold ann; split <;> omega) (by simp) rfl (by show r - 0 = r; omega) w
  · rw [w]
    have e : encN r ++ t = (192 + r / 64) :: (128 + r % 64) :: t := by simp [encN, w]
    rw [e]
    refine dec_of _ r 2 (by decide) (by show ann (192 + r / 64) = _; unfold ann; repeat (first | omega | split)) (by simp) ?_ (by show (192 + r / 64 - 192) * 64 + (128 + r % 64) % 64 = r; omega) w
    show decide (Cont (128 + r % 64)) = true
    simp only [decide_eq_true_eq]; unfold Cont; omega
  · rw [w]
    have e : encN r ++ t = (224 + r / 4096) :: (128 + r / 64 % 64) :: (128 + r % 64) :: t := by simp [encN, w]
    rw [e]
    refine dec_of _ r 3 (by decide) (by show ann (224 + r / 4096) = _; unfold ann; repeat (first | omega | split)) (by simp) ?_ (by show ((224 + r / 4096 - 224) * 64 + (128 + r / 64 % 64) % 64) * 64 + (128 + r % 64) % 64 = r; omega) w
    show (decide (Cont (128 + r / 64 % 64)) && decide (Cont (128 + r % 64))) = true
    simp only [Bool.and_eq_true, decide_eq_true_eq]; unfold Cont; omega
  · rw [w]
    have e : encN r ++ t = (240 + r / 262144) :: (128 + r / 4096 % 64) :: (128 + r / 64 % 64) :: (128 + r % 64) :: t := by simp [encN, w]
    rw [e]
    refine dec_of _ r 4 (by decide) (by show ann (240 + r / 262144) = _; unfold ann; repeat (first | omega | split)) (by simp) ?_ (by show (((240 + r / 262144 - 240) * 64 + (128 + r / 4096 % 64) % 64) * 64 + (128 + r / 64 % 64) % 64) * 64 + (128 + r % 64) % 64 = r; omega) w
    show (decide (Cont (128 + r / 4096 % 64)) && decide (Cont (128 + r / 64 % 64)) && decide (Cont (128 + r % 64))) = true
    simp only [Bool.and_eq_true, decide_eq_true_eq]; unfold Cont; omega

theorem ann_cases (a : Int) (h0 : 0 ≤ a) (h1 : a < 256) : (ann a = 0 ∧ (128 ≤ a ∧ a < 192 ∨ 248 ≤ a)) ∨ (ann a = 1 ∧ a < 128) ∨ (ann a = 2 ∧ 192 ≤ a ∧ a < 224) ∨ (ann a = 3 ∧ 224 ≤ a ∧ a < 240) ∨ (ann a = 4 ∧ 240 ≤ a ∧ a < 248) := by
  unfold ann; repeat (first | omega | split)

/-- THERE AND BACK, the other way: what is read has just the bytes that were read as its encoding. -/
theorem dec_some (l : List Int) (hb : Bytes l) : (l = [] ∧ dec l = (-1, 0)) ∨ (l ≠ [] ∧ dec l = (-1, 1)) ∨
    (width (dec l).1 ≠ 0 ∧ (dec l).2 = width (dec l).1 ∧ ∃ t, l = encN (dec l).1 ++ t) := by
  rcases l with _ | ⟨a, l⟩
  · exact .inl ⟨rfl, rfl⟩
  · refine .inr ?_
    have ha := hb a (by simp)
    by_cases hd : dec (a :: l) = (-1, 1)
    · exact .inl ⟨by simp, hd⟩
    · refine .inr ?_
      by_cases hq : ann a = 0 ∨ ((a :: l).length : Int) < ann a
      · exfalso; apply hd; unfold dec; simp only [List.getElem?_cons_zero, Option.getD_some]; rw [if_neg (by simp), if_pos hq]
      · by_cases hp : conts (a :: l) (ann a).toNat = true ∧ width (acc (a :: l) (mark (ann a)) (ann a).toNat) = ann a
        · have e : dec (a :: l) = (acc (a :: l) (mark (ann a)) (ann a).toNat, ann a) := by
            unfold dec; simp only [List.getElem?_cons_zero, Option.getD_some]; rw [if_neg (by simp), if_neg hq, if_pos hp]
          rw [e]
          have hw := hp.2
          refine ⟨?_, hw.symm, ?_⟩
          · show width (acc _ _ _) ≠ 0
            rw [hw]; omega
          · show ∃ t, _ = encN (acc _ _ _) ++ t
            rcases ann_cases a ha.1 ha.2 with h | h | h | h | h
            · omega
            · rw [h.1] at hp ⊢
              simp [conts, acc, mark] at hp ⊢
              exact ⟨l, by simp [encN, hp]⟩
            · rw [h.1] at hp hq ⊢
              rcases l with _ | ⟨b, l⟩
              · simp at hq
              · simp [conts, acc, mark, Cont] at hp ⊢
                have hbb := hb b (by simp)
                refine ⟨l, ?_⟩
                simp [encN, hp.2]
                omega
            · rw [h.1] at hp hq ⊢
              rcases l with _ | ⟨b, _ | ⟨c, l⟩⟩
              · simp at hq
              · simp at hq
              · simp [conts, acc, mark, Cont] at hp ⊢
                have hbb := hb b (by simp)
                have hcc := hb c (by simp)
                refine ⟨l, ?_⟩
                simp [encN, hp.2]
                omega
            · rw [h.1] at hp hq ⊢
              rcases l with _ | ⟨b, _ | ⟨c, _ | ⟨d, l⟩⟩⟩
              · simp at hq
              · simp at hq
              · simp at hq
              · simp [conts, acc, mark, Cont] at hp ⊢
                have hbb := hb b (by simp)
                have hcc := hb c (by simp)
                have hdd := hb d (by simp)
                refine ⟨l, ?_⟩
                simp [encN, hp.2]
                omega
        · exfalso; apply hd; unfold dec; simp only [List.getElem?_cons_zero, Option.getD_some]; rw [if_neg (by simp), if_neg hq, if_neg hp]

theorem getD_bytes {l : List Int} (hb : Bytes l) (k : Nat) : 0 ≤ l[k]?.getD 0 ∧ l[k]?.getD 0 < 256 := by
  rcases h : l[k]? with _ | x
  · simp
  · exact hb x (List.mem_of_getElem? h)
theorem mark_bd (n : Int) : 0 ≤ mark n ∧ mark n ≤ 240 := by
  unfold mark; split
  · omega
  · split
    · omega
    · split <;> omega
theorem ann_bd (a : Int) : 0 ≤ ann a ∧ ann a ≤ 4 := by
  unfold ann; split
  · omega
  · split
    · omega
    · split
      · omega
      · split
        · omega
        · split <;> omega
theorem acc1 (l : List Int) (m : Int) : acc l m 1 = l[0]?.getD 0 - m := rfl
theorem acc2 (l : List Int) (m : Int) : acc l m 2 = (l[0]?.getD 0 - m) * 64 + l[1]?.getD 0 % 64 := rfl
theorem acc3 (l : List Int) (m : Int) : acc l m 3 = ((l[0]?.getD 0 - m) * 64 + l[1]?.getD 0 % 64) * 64 + l[2]?.getD 0 % 64 := rfl
theorem acc4 (l : List Int) (m : Int) : acc l m 4 = (((l[0]?.getD 0 - m) * 64 + l[1]?.getD 0 % 64) * 64 + l[2]?.getD 0 % 64) * 64 + l[3]?.getD 0 % 64 := rfl
theorem acc_bd (l : List Int) (hb : Bytes l) (k : Nat) (hk : k ≤ 4) :
    0 ≤ acc l (mark (ann (l[0]?.getD 0))) k ∧ acc l (mark (ann (l[0]?.getD 0))) k ≤ 67108863 := by
  have h0 := getD_bytes hb 0
  have h1 := getD_bytes hb 1
  have h2 := getD_bytes hb 2
  have h3 := getD_bytes hb 3
  have hm : 0 ≤ l[0]?.getD 0 - mark (ann (l[0]?.getD 0)) ∧ l[0]?.getD 0 - mark (ann (l[0]?.getD 0)) < 256 := by
    have := mark_bd (ann (l[0]?.getD 0))
    refine ⟨?_, by omega⟩
    have m0 : mark 0 = 0 := by decide
    have m1 : mark 1 = 0 := by decide
    have m2 : mark 2 = 192 := by decide
    have m3 : mark 3 = 224 := by decide
    have m4 : mark 4 = 240 := by decide
    rcases ann_cases _ h0.1 h0.2 with h | h | h | h | h <;> rw [h.1] <;> omega
  generalize mark (ann (l[0]?.getD 0)) = m at *
  match k, hk with
  | 0, _ => exact ⟨by show (0 : Int) ≤ 0; omega, by show (0 : Int) ≤ _; omega⟩
  | 1, _ => rw [acc1]; omega
  | 2, _ => rw [acc2]; omega
  | 3, _ => rw [acc3]; omega
  | 4, _ => rw [acc4]; omega

def nums (s : ByteArray) : List Int := s.data.toList.map fun b => (b.toNat : Int)
theorem nums_length (s : ByteArray) : (nums s).length = s.size := by
  unfold nums; rw [List.length_map]; exact Array.length_toList
theorem nums_bytes (s : ByteArray) : Bytes (nums s) := by
  intro x hx
  simp [nums] at hx
  obtain ⟨b, _, rfl⟩ := hx
  have := b.toNat_lt
  omega
theorem nums_at (s : ByteArray) (k : Nat) (h : k < s.size) : (nums s)[k]?.getD 0 = (s[k].toNat : Int) := by
  have h' : k < s.data.size := h
  simp only [nums, List.getElem?_map, Array.getElem?_toList]
  rw [Array.getElem?_eq_getElem h']
  rfl
theorem nums_nil (s : ByteArray) : nums s = [] ↔ s.size = 0 := by rw [← nums_length]; simp

theorem conts_at (l : List Int) : ∀ (n k : Nat), conts l n = true → 1 ≤ k → k < n → Cont (l[k]?.getD 0)
  | 0, k, _, _, h => by omega
  | 1, k, _, _, h => by omega
  | n + 2, k, hc, h1, h => by
    simp only [conts, Bool.and_eq_true, decide_eq_true_eq] at hc
    by_cases e : k = n + 1
    · subst e; exact hc.2
    · exact conts_at l (n + 1) k hc.1 h1 (by omega)
theorem conts_succ (l : List Int) (k : Nat) (h1 : 1 ≤ k) (hc : conts l k = true) (h : Cont (l[k]?.getD 0)) : conts l (k + 1) = true := by
  obtain ⟨j, rfl⟩ : ∃ j, k = j + 1 := ⟨k - 1, by omega⟩
  simp only [conts, Bool.and_eq_true, decide_eq_true_eq]
  exact ⟨hc, h⟩
theorem acc_succ (l : List Int) (m : Int) (k : Nat) (h1 : 1 ≤ k) : acc l m (k + 1) = acc l m k * 64 + l[k]?.getD 0 % 64 := by
  obtain ⟨j, rfl⟩ : ∃ j, k = j + 1 := ⟨k - 1, by omega⟩
  rfl
theorem cont_yes (x : Int) (h : (x / 64 * 64 != 128) = false) : Cont x := by
  simp only [bne_eq_false_iff_eq] at h
  unfold Cont; omega
theorem cont_no (x : Int) (h : (x / 64 * 64 != 128) = true) : ¬ Cont x := by
  simp only [bne_iff_ne] at h
  unfold Cont; omega
theorem dec_bad1 (l : List Int) (hl : l ≠ []) (h : ann (l[0]?.getD 0) = 0 ∨ (l.length : Int) < ann (l[0]?.getD 0)) : dec l = (-1, 1) := by
  unfold dec; rw [if_neg hl, if_pos h]
theorem dec_bad2 (l : List Int) (n : Nat) (hl : l ≠ []) (h1 : ann (l[0]?.getD 0) = n) (h : ¬ (conts l n = true ∧ width (acc l (mark n) n) = n)) : dec l = (-1, 1) := by
  by_cases hq : ann (l[0]?.getD 0) = 0 ∨ (l.length : Int) < ann (l[0]?.getD 0)
  · exact dec_bad1 l hl hq
  · unfold dec; rw [if_neg hl, if_neg hq, h1, Int.toNat_natCast, if_neg h]

/-! ### Pieces -/
def step (l : List Int) : Nat := (dec l).2.toNat
def pc (l : List Int) : Nat → Nat → List (Int × Int)
  | 0, _ => []
  | f + 1, at_ => if at_ < l.length then ((at_ : Int), (dec (l.drop at_)).1) :: pc l f (at_ + step (l.drop at_)) else []
def rest (l : List Int) (at_ : Nat) : List (Int × Int) := pc l (l.length - at_) at_
theorem bytes_drop {l : List Int} (h : Bytes l) (k : Nat) : Bytes (l.drop k) := fun x hx => h x (List.mem_of_mem_drop hx)
theorem dec_len (l : List Int) (hb : Bytes l) : 0 ≤ (dec l).2 ∧ ((dec l).2 : Int) ≤ l.length ∧ (l ≠ [] → 1 ≤ (dec l).2) ∧ (dec l).2 ≤ 4 := by
  rcases dec_some l hb with ⟨rfl, h⟩ | ⟨hn, h⟩ | ⟨h1, h2, t, ht⟩
  · rw [h]; simp
  · rw [h]
    have : 0 < l.length := List.length_pos_iff.2 hn
    refine ⟨by simp, by simp; omega, by simp, by simp⟩
  · have := encN_length (dec l).1
    have hl : (l.length : Int) = width (dec l).1 + t.length := by
      have := congrArg List.length ht
      rw [List.length_append] at this
      omega
    have hw := width_le (dec l).1
    refine ⟨by omega, by omega, fun _ => by omega, by omega⟩
theorem dec_neg (l : List Int) (hb : Bytes l) : -1 ≤ (dec l).1 ∧ ((dec l).1 < 0 → (dec l).1 = -1) ∧ (dec l).1 ≤ 1114111 := by
  rcases dec_some l hb with ⟨rfl, h⟩ | ⟨hn, h⟩ | ⟨h1, h2, t, ht⟩
  · rw [h]; simp
  · rw [h]; simp
  · rcases width_cases (dec l).1 with w | w | w | w | w <;> omega
theorem step_bd (l : List Int) (hb : Bytes l) (hn : l ≠ []) : 1 ≤ step l ∧ step l ≤ l.length ∧ (step l : Int) = (dec l).2 := by
  have := dec_len l hb
  have := this.2.2.1 hn
  unfold step; omega
theorem pc_fuel (l : List Int) (hb : Bytes l) : ∀ (f g at_ : Nat), l.length - at_ ≤ f → l.length - at_ ≤ g → pc l f at_ = pc l g at_
  | 0, 0, _, _, _ => rfl
  | 0, g + 1, at_, h, _ => by unfold pc; rw [if_neg (by omega)]
  | f + 1, 0, at_, _, h => by unfold pc; rw [if_neg (by omega)]
  | f + 1, g + 1, at_, h, h' => by
    unfold pc
    by_cases hl : at_ < l.length
    · rw [if_pos hl, if_pos hl]
      have hs := step_bd (l.drop at_) (bytes_drop hb _) (by intro e; have := congrArg List.length e; simp at this; omega)
      rw [pc_fuel l hb f g _ (by omega) (by omega)]
    · rw [if_neg hl, if_neg hl]
theorem rest_step (l : List Int) (hb : Bytes l) (at_ : Nat) (h : at_ < l.length) : rest l at_ = ((at_ : Int), (dec (l.drop at_)).1) :: rest l (at_ + step (l.drop at_)) := by
  have hs := step_bd (l.drop at_) (bytes_drop hb _) (by intro e; have := congrArg List.length e; simp at this; omega)
  unfold rest
  obtain ⟨f, hf⟩ : ∃ f, l.length - at_ = f + 1 := ⟨l.length - at_ - 1, by omega⟩
  rw [hf]
  conv => lhs; unfold pc
  rw [if_pos h, pc_fuel l hb f (l.length - (at_ + step (l.drop at_))) _ (by omega) (by omega)]
theorem nums_extract (s : ByteArray) (a b : Nat) : nums (s.extract a b) = ((nums s).drop a).take (b - a) := by
  unfold nums
  rw [ByteArray.data_extract, Array.toList_extract, List.extract_eq_take_drop, List.map_take, List.map_drop]
end Go.Proofs.YtdcielcniboloaaGreatDoor.Utf
namespace Go.Proofs.YtdcielcniboloaaGreatDoor.Br
set_option linter.unusedVariables false
/-- What a hexadecimal digit says; -1: it is none. -/
def dig (c : Int) : Int := if 48 ≤ c ∧ c ≤ 57 then c - 48 else if 97 ≤ c ∧ c ≤ 102 then c - 87 else if 65 ≤ c ∧ c ≤ 70 then c - 55 else -1
/-- How many digits stand in front, at most so many. -/
def cnt : List Int → Nat → Nat
  | x :: l, m + 1 => if 0 ≤ dig x then cnt l m + 1 else 0
  | _, _ => 0
/-- The number that the first k make. -/
def val (l : List Int) (k : Nat) : Int := (l.take k).foldl (fun a x => a * 16 + dig x) 0
def letB (c : Int) : Bool := (decide (65 ≤ c) && decide (c ≤ 90)) || (decide (97 ≤ c) && decide (c ≤ 122))
def signB (c : Int) : Bool := decide (33 ≤ c) && decide (c ≤ 126) && !letB c && !(decide (48 ≤ c) && decide (c ≤ 57))
def plain (c : Int) : Int × Int × Int :=
  if c = 97 then (7, 2, 0) else if c = 116 then (9, 2, 0) else if c = 110 then (10, 2, 0) else if c = 118 then (11, 2, 0) else if c = 102 then (12, 2, 0) else if c = 114 then (13, 2, 0)
  else if signB c = true then (c, 2, 0) else (0, 0, 80)
def braced (l : List Int) : Int × Int × Int :=
  let n := cnt (l.drop 3) 6
  if 3 + n = l.length then (0, 0, 82) else if l[3 + n]?.getD 0 ≠ 125 ∨ n = 0 ∨ 1114111 < val (l.drop 3) n then (0, 0, 80) else (val (l.drop 3) n, n + 4, 0)
def two (l : List Int) : Int × Int × Int :=
  let n := cnt (l.drop 2) 2
  if n = 2 then (val (l.drop 2) 2, 4, 0) else if n + 2 = l.length then (0, 0, 82) else (0, 0, 80)
/-- An escape of a number: what it says, its length, and its code. -/
def num (l : List Int) : Int × Int × Int :=
  if l[0]?.getD 0 ≠ 92 then (0, 0, 3) else if l.length = 1 then (0, 0, 82) else if l[1]?.getD 0 ≠ 120 then plain (l[1]?.getD 0) else if l[2]?.getD 0 = 123 then braced l else two l
theorem dig_bd (c : Int) : -1 ≤ dig c ∧ dig c ≤ 15 := by unfold dig; split <;> (try split) <;> (try split) <;> omega
theorem cnt_le : ∀ (l : List Int) (m : Nat), cnt l m ≤ m ∧ cnt l m ≤ l.length
  | [], m => by cases m <;> simp [cnt]
  | x :: l, 0 => by simp [cnt]
  | x :: l, m + 1 => by
    have := cnt_le l m
    unfold cnt
    split <;> simp <;> omega
theorem cnt_yes : ∀ (l : List Int) (m k : Nat), k < cnt l m → 0 ≤ dig (l[k]?.getD 0)
  | [], m, k, h => by have := (cnt_le [] m).2; simp at this; omega
  | x :: l, 0, k, h => by simp [cnt] at h
  | x :: l, m + 1, k, h => by
    unfold cnt at h
    split at h
    · cases k with
      | zero => simpa
      | succ k => simpa using cnt_yes l m k (by omega)
    · omega
theorem cnt_no : ∀ (l : List Int) (m : Nat), cnt l m < m → cnt l m < l.length → dig (l[cnt l m]?.getD 0) < 0
  | [], m, h, h' => by simp at h'
  | x :: l, 0, h, h' => by omega
  | x :: l, m + 1, h, h' => by
    unfold cnt at h h' ⊢
    split
    · rename_i hx
      rw [if_pos hx] at h h'
      simpa using cnt_no l m (by omega) (by simpa using h')
    · rename_i hx
      simpa using hx
theorem val_succ (l : List Int) (k : Nat) (h : k < l.length) : val l (k + 1) = val l k * 16 + dig (l[k]?.getD 0) := by
  unfold val
  rw [List.take_succ_eq_append_getElem h, List.foldl_append, List.getElem?_eq_getElem h]
  rfl
theorem val_bd (l : List Int) (m : Nat) : ∀ k, k ≤ cnt l m → 0 ≤ val l k ∧ val l k < 16 ^ k
  | 0, _ => by simp [val]
  | k + 1, h => by
    have ih := val_bd l m k (by omega)
    have h1 := cnt_yes l m k (by omega)
    have h2 := (dig_bd (l[k]?.getD 0)).2
    rw [val_succ l k (by have := (cnt_le l m).2; omega)]
    have e : (16 : Int) ^ (k + 1) = 16 ^ k * 16 := by rw [Int.pow_succ]
    omega
/-- Where a count ends: it is all, or what follows is no digit. -/
theorem cnt_ends (l : List Int) (m k : Nat) (hk : k ≤ m) (hl : k ≤ l.length) (hy : ∀ j, j < k → 0 ≤ dig (l[j]?.getD 0)) (he : k = m ∨ k = l.length ∨ dig (l[k]?.getD 0) < 0) : cnt l m = k := by
  have h1 := cnt_le l m
  rcases Nat.lt_trichotomy (cnt l m) k with h | h | h
  · have := cnt_no l m (by omega) (by omega)
    have := hy _ h
    omega
  · exact h
  · rcases he with e | e | e
    · omega
    · omega
    · have := cnt_yes l m k h; omega
end Go.Proofs.YtdcielcniboloaaGreatDoor.Br
namespace Go.Proofs.YtdcielcniboloaaGreatDoor.Rg
abbrev R := Int × Int
def hasB (l : List R) (r : Int) : Bool := decide (0 ≤ r ∧ r ≤ 1114111) && l.any fun p => decide (p.1 ≤ r ∧ r ≤ p.2)
theorem hasB_iff (l : List R) (r : Int) : hasB l r = true ↔ (0 ≤ r ∧ r ≤ 1114111) ∧ ∃ p ∈ l, p.1 ≤ r ∧ r ≤ p.2 := by
  unfold hasB
  simp only [Bool.and_eq_true, decide_eq_true_eq, List.any_eq_true]
/-! ### Normalized lists -/
/-- Normalized, all from lo on. -/
def NormFrom : Int → List R → Prop
  | _, [] => True
  | lo, p :: l => lo ≤ p.1 ∧ p.1 ≤ p.2 ∧ p.2 ≤ 1114111 ∧ NormFrom (p.2 + 2) l
def NormL (l : List R) : Prop := NormFrom 0 l
theorem norm_lo : ∀ (l : List R) (lo : Int), NormFrom lo l → ∀ p ∈ l, lo ≤ p.1 ∧ p.1 ≤ p.2 ∧ p.2 ≤ 1114111
  | [], _, _, p, hp => by cases hp
  | p' :: l, lo, h, p, hp => by
    rcases List.mem_cons.1 hp with rfl | hp
    · exact ⟨h.1, h.2.1, h.2.2.1⟩
    · have := norm_lo l _ h.2.2.2 p hp
      have h1 := h.1
      have h2 := h.2.1
      omega
def memL (l : List R) (q : Int) : Prop := ∃ p ∈ l, p.1 ≤ q ∧ q ≤ p.2
theorem memL_cons (p : R) (l : List R) (q : Int) : memL (p :: l) q ↔ (p.1 ≤ q ∧ q ≤ p.2) ∨ memL l q := by
  unfold memL; simp
theorem norm_mem_lo {l : List R} {lo q : Int} (h : NormFrom lo l) (hm : memL l q) : lo ≤ q ∧ q ≤ 1114111 := by
  obtain ⟨p, hp, h1, h2⟩ := hm
  have := norm_lo l lo h p hp
  omega
/-- A normalized list is the list of its set. -/
theorem norm_unique : ∀ (l m : List R) (lo : Int), NormFrom lo l → NormFrom lo m → (∀ q, memL l q ↔ memL m q) → l = m
  | [], [], _, _, _, _ => rfl
  | [], p :: m, lo, _, hm, h => by
    exfalso
    have := (h p.1).2 ((memL_cons p m p.1).2 (.inl ⟨Int.le_refl _, hm.2.1⟩))
    obtain ⟨x, hx, _⟩ := this
    cases hx
  | p :: l, [], lo, hl, _, h => by
    exfalso
    have := (h p.1).1 ((memL_cons p l p.1).2 (.inl ⟨Int.le_refl _, hl.2.1⟩))
    obtain ⟨x, hx, _⟩ := this
    cases hx
  | p :: l, p' :: m, lo, hl, hm, h => by
    have a1 := hl.2.1
    have a2 := hm.2.1
    have tail1 : ∀ q, memL l q → p.2 + 2 ≤ q := fun q hq => (norm_mem_lo hl.2.2.2 hq).1
    have tail2 : ∀ q, memL m q → p'.2 + 2 ≤ q := fun q hq => (norm_mem_lo hm.2.2.2 hq).1
    have e1 : p.1 = p'.1 := by
      have h1 := (h p.1).1 ((memL_cons p l p.1).2 (.inl ⟨Int.le_refl _, a1⟩))
      have h2 := (h p'.1).2 ((memL_cons p' m p'.1).2 (.inl ⟨Int.le_refl _, a2⟩))
      rw [memL_cons] at h1 h2
      have b1 : p'.1 ≤ p.1 := by
        rcases h1 with h1 | h1
        · exact h1.1
        · have := tail2 _ h1; omega
      have b2 : p.1 ≤ p'.1 := by
        rcases h2 with h2 | h2
        · exact h2.1
        · have := tail1 _ h2; omega
      omega
    have e2 : p.2 = p'.2 := by
      have key : ∀ (a b : R) (x y : List R), a.1 = b.1 → a.1 ≤ a.2 → b.1 ≤ b.2 → (∀ q, memL y q → b.2 + 2 ≤ q) → (∀ q, memL (a :: x) q → memL (b :: y) q) → a.2 ≤ b.2 := by
        intro a b x y e ha hb ty hh
        rcases Int.lt_or_le b.2 a.2 with hlt | hle
        · exfalso
          have := hh (b.2 + 1) ((memL_cons a x _).2 (.inl ⟨by omega, by omega⟩))
          rcases (memL_cons b y _).1 this with h1 | h1
          · omega
          · have := ty _ h1; omega
        · exact hle
      have k1 := key p p' l m e1 a1 a2 tail2 (fun q hq => (h q).1 hq)
      have k2 := key p' p m l e1.symm a2 a1 tail1 (fun q hq => (h q).2 hq)
      omega
    have e : p = p' := Prod.ext e1 e2
    subst e
    rw [norm_unique l m (p.2 + 2) hl.2.2.2 hm.2.2.2 (fun q => ?_)]
    constructor
    · intro hq
      have := (h q).1 ((memL_cons p l q).2 (.inr hq))
      rcases (memL_cons p m q).1 this with h1 | h1
      · have := tail1 _ hq; omega
      · exact h1
    · intro hq
      have := (h q).2 ((memL_cons p m q).2 (.inr hq))
      rcases (memL_cons p l q).1 this with h1 | h1
      · have := tail2 _ hq; omega
      · exact h1
theorem norm_has {l : List R} (h : NormL l) (q : Int) : hasB l q = true ↔ memL l q := by
  rw [hasB_iff]
  exact ⟨fun h => h.2, fun hm => ⟨norm_mem_lo h hm, hm⟩⟩
theorem norm_ext {l m : List R} (hl : NormL l) (hm : NormL m) (h : ∀ q, 0 ≤ q → q ≤ 1114111 → hasB l q = hasB m q) : l = m :=
  norm_unique l m 0 hl hm (fun q => by
    constructor
    · intro hq
      have b := norm_mem_lo hl hq
      exact (norm_has hm q).1 ((h q b.1 b.2) ▸ (norm_has hl q).2 hq)
    · intro hq
      have b := norm_mem_lo hm hq
      exact (norm_has hl q).1 ((h q b.1 b.2) ▸ (norm_has hm q).2 hq))
end Go.Proofs.YtdcielcniboloaaGreatDoor.Rg
/-! Making a normalized list from edge to edge. -/
namespace Go.Proofs.YtdcielcniboloaaGreatDoor.Rg
theorem norm_snoc : ∀ (l : List R) (lo x y : Int), NormFrom lo l → (∀ p ∈ l, p.2 + 2 ≤ x) → lo ≤ x → x ≤ y → y ≤ 1114111 → NormFrom lo (l ++ [(x, y)])
  | [], lo, x, y, _, _, h1, h2, h3 => ⟨h1, h2, h3, trivial⟩
  | p :: l, lo, x, y, h, hp, h1, h2, h3 =>
    ⟨h.1, h.2.1, h.2.2.1, norm_snoc l _ x y h.2.2.2 (fun q hq => hp q (by simp [hq])) (hp p (by simp)) h2 h3⟩
theorem norm_unsnoc : ∀ (l : List R) (lo : Int) (p : R), NormFrom lo (l ++ [p]) → NormFrom lo l ∧ (∀ q ∈ l, q.2 + 2 ≤ p.1) ∧ lo ≤ p.1 ∧ p.1 ≤ p.2 ∧ p.2 ≤ 1114111
  | [], lo, p, h => ⟨trivial, by simp, h.1, h.2.1, h.2.2.1⟩
  | x :: l, lo, p, h => by
    have ih := norm_unsnoc l (x.2 + 2) p h.2.2.2
    have a1 := h.1
    have a2 := h.2.1
    refine ⟨⟨h.1, h.2.1, h.2.2.1, ih.1⟩, fun q hq => ?_, by omega, ih.2.2.2⟩
    rcases List.mem_cons.1 hq with rfl | hq
    · exact ih.2.2.1
    · exact ih.2.1 q hq
theorem memL_snoc (l : List R) (p : R) (q : Int) : memL (l ++ [p]) q ↔ memL l q ∨ (p.1 ≤ q ∧ q ≤ p.2) := by
  unfold memL
  constructor
  · rintro ⟨x, hx, h⟩
    rcases List.mem_append.1 hx with hx | hx
    · exact .inl ⟨x, hx, h⟩
    · simp at hx; subst hx; exact .inr h
  · rintro (⟨x, hx, h⟩ | h)
    · exact ⟨x, List.mem_append.2 (.inl hx), h⟩
    · exact ⟨p, List.mem_append.2 (.inr (by simp)), h⟩
/-- What has been made as far as 'at': normalized, below it, and of just the numbers below it that are wanted. -/
structure MInv (F : Int → Bool) (at_ : Int) (out : List R) : Prop where
  norm : NormL out
  below : ∀ p ∈ out, p.2 < at_
  mem : ∀ q, 0 ≤ q → q < at_ → (memL out q ↔ F q = true)
theorem MInv.start (F : Int → Bool) : MInv F 0 [] := ⟨trivial, (fun p h => by cases h), (fun q h1 h2 => by omega)⟩
section
variable {F : Int → Bool} {at_ next : Int} {out : List R}
theorem MInv.skip (h : MInv F at_ out) (h1 : at_ < next) (hc : ∀ q, at_ ≤ q → q < next → F q = F at_) (hf : F at_ = false) : MInv F next out := by
  refine ⟨h.norm, fun p hp => by have := h.below p hp; omega, fun q h0 hq => ?_⟩
  by_cases e : q < at_
  · exact h.mem q h0 e
  · rw [hc q (by omega) hq, hf]
    constructor
    · rintro ⟨p, hp, _, h2⟩
      have := h.below p hp
      omega
    · intro h; cases h
theorem MInv.add (h : MInv F at_ out) (h0 : 0 ≤ at_) (h1 : at_ < next) (h2 : next ≤ 1114112) (hc : ∀ q, at_ ≤ q → q < next → F q = F at_) (hf : F at_ = true) (hl : ∀ p ∈ out, p.2 + 2 ≤ at_) : MInv F next (out ++ [(at_, next - 1)]) := by
  refine ⟨norm_snoc out 0 _ _ h.norm hl h0 (by omega) (by omega), fun p hp => ?_, fun q hq0 hq => ?_⟩
  · rcases List.mem_append.1 hp with hp | hp
    · have := h.below p hp; omega
    · simp at hp; subst hp; show next - 1 < next; omega
  · rw [memL_snoc]
    by_cases e : q < at_
    · rw [← h.mem q hq0 e]
      constructor
      · rintro (h | h)
        · exact h
        · have := h.1; simp at this; omega
      · exact .inl
    · rw [hc q (by omega) hq, hf]
      exact ⟨fun _ => rfl, fun _ => .inr ⟨by show at_ ≤ q; omega, by show q ≤ next - 1; omega⟩⟩
theorem MInv.join {ini : List R} {p : R} (h : MInv F at_ (ini ++ [p])) (h0 : 0 ≤ at_) (h1 : at_ < next) (h2 : next ≤ 1114112) (hc : ∀ q, at_ ≤ q → q < next → F q = F at_) (hf : F at_ = true) (hl : p.2 + 1 = at_) : MInv F next (ini ++ [(p.1, next - 1)]) := by
  obtain ⟨a1, a2, a3, a4, a5⟩ := norm_unsnoc ini 0 p h.norm
  refine ⟨norm_snoc ini 0 _ _ a1 a2 a3 (by omega) (by omega), fun x hx => ?_, fun q hq0 hq => ?_⟩
  · rcases List.mem_append.1 hx with hx | hx
    · have := h.below x (List.mem_append.2 (.inl hx)); omega
    · simp at hx; subst hx; show next - 1 < next; omega
  · rw [memL_snoc]
    by_cases e : q < at_
    · rw [← h.mem q hq0 e, memL_snoc]
      constructor
      · rintro (h | h)
        · exact .inl h
        · exact .inr ⟨h.1, by omega⟩
      · rintro (h | h)
        · exact .inl h
        · exact .inr ⟨h.1, by show q ≤ next - 1; omega⟩
    · rw [hc q (by omega) hq, hf]
      exact ⟨fun _ => rfl, fun _ => .inr ⟨by show p.1 ≤ q; omega, by show q ≤ next - 1; omega⟩⟩
theorem MInv.last {ini : List R} {p : R} (h : MInv F at_ (ini ++ [p])) (hl : p.2 + 1 ≠ at_) : ∀ x ∈ ini ++ [p], x.2 + 2 ≤ at_ := by
  obtain ⟨a1, a2, a3, a4, a5⟩ := norm_unsnoc ini 0 p h.norm
  have hb := h.below p (by simp)
  intro x hx
  rcases List.mem_append.1 hx with hx | hx
  · have := a2 x hx; omega
  · simp at hx; subst hx; omega
end
def opB (op : Int) (x y : Bool) : Bool := decide (op = 1) && (x || y) || decide (op = 2) && x && y || decide (op = 3) && x && !y
/-- The list of a set made of two. -/
structure Made (op : Int) (a b : List R) (out : List R) : Prop where
  norm : NormL out
  has : ∀ q, 0 ≤ q → q ≤ 1114111 → hasB out q = opB op (hasB a q) (hasB b q)
theorem made_unique {op : Int} {a b x y : List R} (h : Made op a b x) (k : Made op a b y) : x = y :=
  norm_ext h.norm k.norm (fun q h0 h1 => by rw [h.has q h0 h1, k.has q h0 h1])
end Go.Proofs.YtdcielcniboloaaGreatDoor.Rg
