/- Mathematics of lex: how long tokens are, what they are. · Mathematics of lex: the places of tokens rise. · Mathematics of lex: what is so of each token. · The landed lex: the name of a group; flags. -/
import Derived.Test.YtanffablfgnioaaGreatDoorGp36
import Derived.Test.YtanffablfgnioaaGreatDoorGp33
import Derived.OpenShut
import Derived.Test.YtanffablfgnioaaGreatDoorGp35
import Derived.Test.YtanffablfgnioaaGreatDoorGp12
namespace Go.Proofs.YtanffablfgnioaaGreatDoor.Lx
set_option linter.unusedVariables false
/-- What a token, or an error, is within: a text of m bytes. -/
def TRok (m : Nat) : TR → Prop
  | .bad o c => 0 ≤ o ∧ o ≤ m ∧ c ≠ 0
  | .ok t n => 1 ≤ n ∧ n ≤ m ∧ 1 ≤ t.kind ∧ t.kind ≤ 13
theorem char_ok (s : ByteArray) (h0 : 0 < s.size) : TRok s.size (charX (Utf.nums s)) := by
  unfold charX
  have h1 := Utf.dec_len (Utf.nums s) (Utf.nums_bytes s)
  have hl := Utf.nums_length s
  have hne : Utf.nums s ≠ [] := by intro e; rw [e] at hl; simp at hl; omega
  have h2 := h1.2.2.1 hne
  rw [hl] at h1
  split
  · exact ⟨by omega, by omega, by omega⟩
  · exact ⟨by omega, by omega, by show (1 : Int) ≤ 1; omega, by show (1 : Int) ≤ 13; omega⟩
theorem esc_ok (s : ByteArray) (h0 : 0 < s.size) (h92 : (Utf.nums s)[0]?.getD 0 = 92) : TRok s.size (escX s) := by
  unfold escX
  have hl := Utf.nums_length s
  cases hs : shortX ((Utf.nums s)[1]?.getD 0) with
  | some t =>
    have h2 : 2 ≤ s.size := by
      rcases Nat.lt_or_ge 1 s.size with h | h
      · omega
      · rw [List.getElem?_eq_none (by omega)] at hs
        cases hs
    have hk : 1 ≤ t.kind ∧ t.kind ≤ 13 := by
      unfold shortX at hs
      repeat' split at hs
      all_goals first | (injection hs with hs; subst hs; exact ⟨by decide, by decide⟩) | cases hs
    exact ⟨by omega, h2, hk.1, hk.2⟩
  | none =>
    dsimp only
    unfold setX
    have hc := Br.set_cases s
    split
    · rename_i e0
      rcases hc with ⟨_, _, h⟩ | ⟨x, _, _, h1, h2⟩
      · omega
      · exact ⟨by omega, by omega, by show (1 : Int) ≤ 2; omega, by show (2 : Int) ≤ 13; omega⟩
    · split
      · unfold numX
        have hn := Br.num_cases (Utf.nums s)
        split
        · rcases hn with ⟨_, _, h⟩ | ⟨_, _, h1, h2, _⟩
          · omega
          · exact ⟨by omega, by omega, by show (1 : Int) ≤ 1; omega, by show (1 : Int) ≤ 13; omega⟩
        · rcases hn with ⟨_, _, h⟩ | ⟨_, _, h1, h2, h3⟩
          · exact ⟨by omega, by omega, by omega⟩
          · omega
      · rcases hc with ⟨_, _, h⟩ | ⟨x, _, h, h1, h2⟩
        · exact ⟨by omega, by omega, by omega⟩
        · omega
theorem brackX_ok (s : ByteArray) (h0 : 0 < s.size) : TRok s.size (brackX s) := by
  unfold brackX
  cases h : Br.brack s with
  | bad o c =>
    have h1 := Br.brack_bad h
    exact ⟨by omega, by omega, h1.2.2⟩
  | ok Ys e =>
    have h1 := Br.brack_close h
    exact ⟨by omega, by omega, by show (1 : Int) ≤ 13; omega, by show (13 : Int) ≤ 13; omega⟩
theorem rep_ok (l : List Int) (h1 : 1 ≤ l.length) (hn : 1 ≤ (boundsX l).2.2) : TRok l.length (repX l) := by
  have hb := bounds_bd l h1
  unfold repX repOf
  split
  · exact ⟨by omega, by omega, by omega⟩
  · split
    · rename_i h
      have := Br.getD_lt h (by decide)
      exact ⟨by omega, by omega, by show (1 : Int) ≤ 8; omega, by show (8 : Int) ≤ 13; omega⟩
    · exact ⟨by omega, by omega, by show (1 : Int) ≤ 8; omega, by show (8 : Int) ≤ 13; omega⟩
theorem flag_ok (l : List Int) : TRok l.length (flagX l) := by
  have hu := upToC_le l
  unfold flagX
  split
  · exact ⟨by omega, by omega, by omega⟩
  · split
    · exact ⟨by omega, by omega, by show (1 : Int) ≤ 9; omega, by show (9 : Int) ≤ 13; omega⟩
    · split
      · exact ⟨by omega, by omega, by omega⟩
      · split
        · exact ⟨by omega, by omega, by show (1 : Int) ≤ 9; omega, by show (9 : Int) ≤ 13; omega⟩
        · exact ⟨by omega, by omega, by show (1 : Int) ≤ 10; omega, by show (10 : Int) ≤ 13; omega⟩
theorem name_bd {s nm : ByteArray} {n : Nat} (h : nameX s = some (nm, n)) : 1 ≤ n ∧ n ≤ s.size := by
  unfold nameX at h
  dsimp only at h
  split at h
  · cases h
  · split at h
    · cases h
    · rename_i hp hne
      have hle := Br.upTo_le 62 ((Utf.nums s).drop (nameAt (Utf.nums s)))
      rw [List.length_drop, Utf.nums_length] at hle hne
      split at h
      · injection h with h; injection h with h1 h2; omega
      · cases h
theorem open_ok (s : ByteArray) (h0 : 0 < s.size) : TRok s.size (openX s) := by
  unfold openX
  split
  · exact ⟨by omega, by omega, by show (1 : Int) ≤ 9; omega, by show (9 : Int) ≤ 13; omega⟩
  · cases h : nameX s with
    | some p =>
      obtain ⟨nm, n⟩ := p
      have := name_bd h
      exact ⟨this.1, this.2, by show (1 : Int) ≤ 9; omega, by show (9 : Int) ≤ 13; omega⟩
    | none =>
      have := flag_ok (Utf.nums s)
      rw [Utf.nums_length] at this
      exact this
theorem tok_ok (s : ByteArray) (h0 : 0 < s.size) : TRok s.size (tokX s) := by
  have hl := Utf.nums_length s
  have hb : ∀ c : Int, (c = 42 ∨ c = 43 ∨ c = 63) → (Utf.nums s)[0]?.getD 0 = c → TRok s.size (repX (Utf.nums s)) := fun c hc h => by
    have := rep_ok (Utf.nums s) (by omega) (by
      unfold boundsX
      rw [h]
      rcases hc with rfl | rfl | rfl <;> exact Nat.le_refl 1)
    rw [hl] at this; exact this
  unfold tokX
  dsimp only
  split; · exact ⟨by omega, by omega, by show (1 : Int) ≤ 3; omega, by show (3 : Int) ≤ 13; omega⟩
  split; · exact ⟨by omega, by omega, by show (1 : Int) ≤ 6; omega, by show (6 : Int) ≤ 13; omega⟩
  split; · exact ⟨by omega, by omega, by show (1 : Int) ≤ 7; omega, by show (7 : Int) ≤ 13; omega⟩
  split; · exact ⟨by omega, by omega, by show (1 : Int) ≤ 11; omega, by show (11 : Int) ≤ 13; omega⟩
  split; · exact ⟨by omega, by omega, by show (1 : Int) ≤ 12; omega, by show (12 : Int) ≤ 13; omega⟩
  split; · rename_i h; exact esc_ok s h0 h
  split; · exact brackX_ok s h0
  split; · exact open_ok s h0
  split
  · rename_i h
    split
    · exact char_ok s h0
    · rename_i hn
      have := rep_ok (Utf.nums s) (by omega) (by
        unfold boundsX
        rw [if_neg (by omega), if_neg (by omega), if_neg (by omega)]
        omega)
      rw [hl] at this; exact this
  split
  · rename_i h; exact hb _ h rfl
  · exact char_ok s h0
/-- The token, or the rune, at the front. -/
def oneX (q : Bool) (s : ByteArray) : TR := if q then charX (Utf.nums s) else tokX s
theorem one_ok (q : Bool) (s : ByteArray) (h0 : 0 < s.size) : TRok s.size (oneX q s) := by
  unfold oneX
  cases q
  · exact tok_ok s h0
  · exact char_ok s h0
theorem lexF_eq (s : ByteArray) (f at_ : Nat) (q : Bool) (T : List (Int × Tk)) : lexF s (f + 1) at_ q T = if s.size ≤ at_ then .ok T else
    if turnB q ((Utf.nums s).drop at_) = true then lexF s f (at_ + 2) (!q) T else
    match oneX q (s.extract at_ s.size) with
    | .bad n c => .bad (at_ + n) c
    | .ok t n => lexF s f (at_ + n) q (T ++ [((at_ : Int), t)]) := by
  unfold oneX
  rw [Br.nums_tail]
  rfl
theorem lexF_fuel (s : ByteArray) : ∀ (f g at_ : Nat) (q : Bool) (T : List (Int × Tk)), s.size - at_ < f → s.size - at_ < g → lexF s f at_ q T = lexF s g at_ q T
  | 0, _, _, _, _, hf, _ => by omega
  | _ + 1, 0, _, _, _, _, hg => by omega
  | f + 1, g + 1, at_, q, T, hf, hg => by
    rw [lexF_eq, lexF_eq]
    by_cases h1 : s.size ≤ at_
    · rw [if_pos h1, if_pos h1]
    · rw [if_neg h1, if_neg h1]
      by_cases h2 : turnB q ((Utf.nums s).drop at_) = true
      · rw [if_pos h2, if_pos h2]
        exact lexF_fuel s f g (at_ + 2) _ T (by omega) (by omega)
      · rw [if_neg h2, if_neg h2]
        have hz : (s.extract at_ s.size).size = s.size - at_ := by rw [ByteArray.size_extract]; omega
        have ho := one_ok q (s.extract at_ s.size) (by omega)
        cases hx : oneX q (s.extract at_ s.size) with
        | bad n c => rfl
        | ok t n =>
          rw [hx] at ho
          have := ho.1
          exact lexF_fuel s f g (at_ + n) _ _ (by omega) (by omega)
/-- The tokens of a text from a place on. -/
def lexR (s : ByteArray) (at_ : Nat) (q : Bool) (T : List (Int × Tk)) : LR := lexF s (s.size + 2) at_ q T
theorem lexR_end {s : ByteArray} {at_ : Nat} {q : Bool} {T : List (Int × Tk)} (h : s.size ≤ at_) : lexR s at_ q T = .ok T := by
  unfold lexR
  rw [lexF_eq, if_pos h]
theorem lexR_turn {s : ByteArray} {at_ : Nat} {q : Bool} {T : List (Int × Tk)} (h : at_ < s.size) (h2 : turnB q ((Utf.nums s).drop at_) = true) : lexR s at_ q T = lexR s (at_ + 2) (!q) T := by
  unfold lexR
  rw [lexF_eq, if_neg (by omega), if_pos h2]
  exact lexF_fuel s _ _ _ _ _ (by omega) (by omega)
theorem lexR_bad {s : ByteArray} {at_ : Nat} {q : Bool} {T : List (Int × Tk)} {n c : Int} (h : at_ < s.size) (h2 : turnB q ((Utf.nums s).drop at_) = false) (hx : oneX q (s.extract at_ s.size) = .bad n c) : lexR s at_ q T = .bad (at_ + n) c := by
  unfold lexR
  rw [lexF_eq, if_neg (by omega), if_neg (by rw [h2]; decide), hx]
theorem lexR_tok {s : ByteArray} {at_ : Nat} {q : Bool} {T : List (Int × Tk)} {t : Tk} {n : Nat} (h : at_ < s.size) (h2 : turnB q ((Utf.nums s).drop at_) = false) (hx : oneX q (s.extract at_ s.size) = .ok t n) : lexR s at_ q T = lexR s (at_ + n) q (T ++ [((at_ : Int), t)]) := by
  have hz : (s.extract at_ s.size).size = s.size - at_ := by rw [ByteArray.size_extract]; omega
  have ho := one_ok q (s.extract at_ s.size) (by omega)
  rw [hx] at ho
  have := ho.1
  unfold lexR
  rw [lexF_eq, if_neg (by omega), if_neg (by rw [h2]; decide), hx]
  exact lexF_fuel s _ _ _ _ _ (by omega) (by omega)
end Go.Proofs.YtanffablfgnioaaGreatDoor.Lx
namespace Go.Proofs.YtanffablfgnioaaGreatDoor.Lx
set_option linter.unusedVariables false
/-- Places that rise from lo on, below m; kinds from 1 to 13. -/
def Ris (m : Int) : Int → List (Int × Tk) → Prop
  | _, [] => True
  | lo, p :: l => lo < p.1 ∧ p.1 < m ∧ 1 ≤ p.2.kind ∧ p.2.kind ≤ 13 ∧ Ris m p.1 l
theorem Ris.snoc {m : Int} {a : Int} {t : Tk} (ha : a < m) (h1 : 1 ≤ t.kind) (h2 : t.kind ≤ 13) : ∀ {lo : Int} {l : List (Int × Tk)}, Ris m lo l → lo < a → (∀ p ∈ l, p.1 < a) → Ris m lo (l ++ [(a, t)])
  | lo, [], _, h, _ => ⟨h, ha, h1, h2, True.intro⟩
  | lo, p :: l, hr, _, hp => ⟨hr.1, hr.2.1, hr.2.2.1, hr.2.2.2.1, Ris.snoc ha h1 h2 hr.2.2.2.2 (hp p (by simp)) (fun x hx => hp x (by simp [hx]))⟩
theorem Ris.drop {m : Int} : ∀ {lo : Int} {l : List (Int × Tk)} (i : Nat) (h : i < l.length), Ris m lo l → ∃ x, x < l[i].1 ∧ l[i].1 < m ∧ 1 ≤ l[i].2.kind ∧ l[i].2.kind ≤ 13 ∧ (i = 0 → x = lo) ∧ (∀ j (hj : j + 1 = i), x = (l[j]'(by omega)).1)
  | lo, p :: l, 0, h, hr => ⟨lo, hr.1, hr.2.1, hr.2.2.1, hr.2.2.2.1, fun _ => rfl, fun j hj => by omega⟩
  | lo, p :: l, i + 1, h, hr => by
    obtain ⟨x, h1, h2, h3, h4, h5, h6⟩ := Ris.drop i (by simpa using h) hr.2.2.2.2
    refine ⟨x, by simpa using h1, by simpa using h2, by simpa using h3, by simpa using h4, fun e => by omega, fun j hj => ?_⟩
    cases j with
    | zero =>
      have : i = 0 := by omega
      simpa using h5 this
    | succ j => simpa using h6 j (by omega)
theorem lexF_ris (s : ByteArray) : ∀ (f k : Nat) (q : Bool) (T T' : List (Int × Tk)), lexF s f k q T = .ok T' → Ris s.size (-1) T → (∀ p ∈ T, p.1 < (k : Int)) → Ris s.size (-1) T' ∧ ∃ U, T' = T ++ U
  | 0, _, _, _, _, h, _, _ => by cases h
  | f + 1, k, q, T, T', h, hr, hp => by
    rw [lexF_eq] at h
    by_cases h1 : s.size ≤ k
    · rw [if_pos h1] at h
      injection h with h
      subst h
      exact ⟨hr, [], by simp⟩
    · rw [if_neg h1] at h
      by_cases h2 : turnB q ((Utf.nums s).drop k) = true
      · rw [if_pos h2] at h
        exact lexF_ris s f (k + 2) _ T T' h hr (fun p hx => by have := hp p hx; omega)
      · rw [if_neg h2] at h
        have hz : (s.extract k s.size).size = s.size - k := by rw [ByteArray.size_extract]; omega
        have ho := one_ok q (s.extract k s.size) (by omega)
        cases hx : oneX q (s.extract k s.size) with
        | bad n c => rw [hx] at h; cases h
        | ok t n =>
          rw [hx] at h ho
          obtain ⟨o1, o2, o3, o4⟩ := ho
          obtain ⟨r1, U, r2⟩ := lexF_ris s f (k + n) q _ T' h (Ris.snoc (by omega) o3 o4 hr (by omega) hp) (fun p hx => by
            rcases List.mem_append.1 hx with hx | hx
            · have := hp p hx; omega
            · simp at hx; subst hx; show (k : Int) < _; omega)
          exact ⟨r1, [((k : Int), t)] ++ U, by rw [r2, List.append_assoc]⟩
theorem lexF_bad (s : ByteArray) : ∀ (f k : Nat) (q : Bool) (T : List (Int × Tk)) (o c : Int), s.size - k < f → lexF s f k q T = .bad o c → 0 ≤ o ∧ o ≤ s.size ∧ c ≠ 0
  | 0, _, _, _, _, _, hf, _ => by omega
  | f + 1, k, q, T, o, c, hf, h => by
    rw [lexF_eq] at h
    by_cases h1 : s.size ≤ k
    · rw [if_pos h1] at h; cases h
    · rw [if_neg h1] at h
      by_cases h2 : turnB q ((Utf.nums s).drop k) = true
      · rw [if_pos h2] at h
        exact lexF_bad s f (k + 2) _ T o c (by omega) h
      · rw [if_neg h2] at h
        have hz : (s.extract k s.size).size = s.size - k := by rw [ByteArray.size_extract]; omega
        have ho := one_ok q (s.extract k s.size) (by omega)
        cases hx : oneX q (s.extract k s.size) with
        | bad n c' =>
          rw [hx] at h ho
          obtain ⟨o1, o2, o3⟩ := ho
          injection h with h1 h2
          subst h1; subst h2
          exact ⟨by omega, by omega, o3⟩
        | ok t n =>
          rw [hx] at h ho
          exact lexF_bad s f (k + n) q _ o c (by have := ho.1; omega) h
/-- All that 8.2 says of the places. -/
theorem lex_rises {s : ByteArray} {T : List (Int × Tk)} (h : lexR s 0 false [] = .ok T) : Ris s.size (-1) T ∧ (0 < s.size → (Utf.nums s)[0]?.getD 0 ≠ 92 → ∃ t U, T = (0, t) :: U) := by
  refine ⟨(lexF_ris s _ 0 false [] T h True.intro (fun p hp => by cases hp)).1, fun h0 h92 => ?_⟩
  have hz : (s.extract 0 s.size).size = s.size - 0 := by rw [ByteArray.size_extract]; omega
  have ht : turnB false ((Utf.nums s).drop 0) = false := by
    unfold turnB
    rw [List.drop_zero, decide_eq_false h92]; rfl
  cases hx : oneX false (s.extract 0 s.size) with
  | bad n c => rw [lexR_bad h0 ht hx] at h; cases h
  | ok t n =>
    have ho := one_ok false (s.extract 0 s.size) (by omega)
    rw [hx] at ho
    rw [lexR_tok h0 ht hx] at h
    obtain ⟨o1, o2, o3, o4⟩ := ho
    obtain ⟨_, U, e⟩ := lexF_ris s _ (0 + n) false _ T h (Ris.snoc (by omega) o3 o4 (lo := -1) (l := []) True.intro (by omega) (fun p hp => by cases hp)) (fun p hp => by simp at hp; subst hp; show (0 : Int) < _; omega)
    exact ⟨t, U, by rw [e]; rfl⟩
end Go.Proofs.YtanffablfgnioaaGreatDoor.Lx
namespace Go.Proofs.YtanffablfgnioaaGreatDoor.Lx
open Go.RowKit
set_option linter.unusedVariables false
def Fine (m : Nat) (t : Tk) : Prop := I64 t.num ∧ I64 t.mn ∧ I64 t.mx ∧ t.name.size ≤ m ∧ (t.kind = 9 → t.num = 0 ∨ t.num = 1) ∧ (t.kind = 13 → ∃ Xs n, Br.brack t.name = .ok Xs n)
def TFine (m : Nat) : TR → Prop
  | .bad _ _ => True
  | .ok t _ => Fine m t
theorem i64z : I64 0 := i64_lit _ (by decide)
theorem i64_bits (op : BinOp) (x y : Int) : I64 (bits op .i64 x y) := by
  have h := wf_bits op .i64 x y
  unfold I64
  simp [Lit.wf] at h
  have e1 : IntKind.i64.min = -9223372036854775808 := by decide
  have e2 : IntKind.i64.max = 9223372036854775807 := by decide
  rw [e1] at h
  exact h
theorem fine_rune (m : Nat) (r : Int) (h : I64 r) : Fine m (runeT r) := ⟨h, i64z, i64z, Nat.zero_le _, fun e => absurd e (by show ¬ (1 : Int) = 9; decide), fun e => absurd e (by show ¬ (1 : Int) = 13; decide)⟩
theorem char_fine (m : Nat) (l : List Int) (hb : Utf.Bytes l) : TFine m (charX l) := by
  unfold charX
  split
  · trivial
  · have := Utf.dec_neg l hb
    exact fine_rune m _ ⟨by omega, by omega⟩
theorem num_fine (m : Nat) (l : List Int) : TFine m (numX l) := by
  unfold numX
  split
  · have := Br.num_cases l
    exact fine_rune m _ ⟨by omega, by omega⟩
  · trivial
theorem esc_fine (m : Nat) (s : ByteArray) : TFine m (escX s) := by
  unfold escX
  cases h : shortX ((Utf.nums s)[1]?.getD 0) with
  | some t =>
    unfold shortX at h
    repeat' split at h
    all_goals first | (cases h; done) | (injection h with h; subst h; exact ⟨i64_lit _ (by decide), i64z, i64z, Nat.zero_le _, fun e => absurd e (by decide), fun e => absurd e (by decide)⟩)
  | none =>
    show TFine m (setX s)
    unfold setX
    split
    · exact ⟨i64z, i64z, i64z, Nat.zero_le _, fun e => absurd e (by show ¬ (2 : Int) = 9; decide), fun e => absurd e (by show ¬ (2 : Int) = 13; decide)⟩
    split
    · exact num_fine m _
    · trivial
theorem brack_fine (s : ByteArray) : TFine s.size (brackX s) := by
  unfold brackX
  cases h : Br.brack s with
  | bad o c => trivial
  | ok Ys e =>
    have hc := Br.brack_close h
    refine ⟨i64z, i64z, i64z, by show (s.extract 0 (e + 1)).size ≤ s.size; rw [ByteArray.size_extract]; omega, fun e => absurd e (by show ¬ (13 : Int) = 9; decide), fun _ => ⟨Ys, e, ?_⟩⟩
    have hn : Utf.nums (s.extract 0 (e + 1)) = (Utf.nums s).take (e + 1) := by rw [Utf.nums_extract]; simp
    refine Br.brack_local h ⟨by rw [Utf.nums_length]; omega, by rw [hn, List.length_take, Utf.nums_length]; omega, fun j hj => ?_⟩
    rw [hn, List.getElem?_take_of_lt hj]
theorem rep_fine (m : Nat) (l : List Int) (h : 1 ≤ l.length) : TFine m (repX l) := by
  have hb := bounds_bd l h
  unfold repX repOf
  have f : ∀ b : Bool, Fine m { kind := 8, mn := (boundsX l).1, mx := (boundsX l).2.1, lazy := b } := fun b => ⟨i64z, ⟨by show -9223372036854775808 ≤ (boundsX l).1; omega, by show (boundsX l).1 ≤ 9223372036854775807; omega⟩, ⟨by show -9223372036854775808 ≤ (boundsX l).2.1; omega, by show (boundsX l).2.1 ≤ 9223372036854775807; omega⟩, Nat.zero_le _, fun e => absurd e (by show ¬ (8 : Int) = 9; decide), fun e => absurd e (by show ¬ (8 : Int) = 13; decide)⟩
  split
  · trivial
  split
  · exact f true
  · exact f false
theorem flagsOf_fine : ∀ (l : List Int) (a r : Int), flagsOfX l a = some r → I64 a → I64 r
  | [], a, r, h, ha => by injection h with h; subst h; exact ha
  | c :: l, a, r, h, ha => by
    rw [flagsOfX] at h
    split at h
    · cases h
    · exact flagsOf_fine l _ r h (i64_bits _ _ _)
theorem flag_fine (m : Nat) (l : List Int) : TFine m (flagX l) := by
  unfold flagX
  split
  · trivial
  split
  · exact ⟨i64z, i64z, i64z, Nat.zero_le _, fun _ => .inl rfl, fun e => absurd e (by show ¬ (9 : Int) = 13; decide)⟩
  cases h : flagsX ((l.drop 2).take (upToC l - 2)) with
  | none => trivial
  | some p =>
    obtain ⟨a, c⟩ := p
    have hac : I64 a ∧ I64 c := by
      unfold flagsX at h
      split at h
      · rename_i x y h1 h2
        split at h
        · cases h
        · injection h with h
          injection h with e1 e2
          subst e1 e2
          exact ⟨i64_bits _ _ _, flagsOf_fine _ _ _ h2 i64z⟩
      · cases h
    dsimp only
    split
    · exact ⟨i64z, hac.1, hac.2, Nat.zero_le _, fun _ => .inl rfl, fun e => absurd e (by show ¬ (9 : Int) = 13; decide)⟩
    · exact ⟨i64z, hac.1, hac.2, Nat.zero_le _, fun e => absurd e (by show ¬ (10 : Int) = 9; decide), fun e => absurd e (by show ¬ (10 : Int) = 13; decide)⟩
theorem name_size {s nm : ByteArray} {n : Nat} (h : nameX s = some (nm, n)) : nm.size ≤ s.size := by
  unfold nameX at h
  dsimp only at h
  split at h
  · cases h
  split at h
  · cases h
  split at h
  · injection h with h; injection h with h1 h2
    rw [← h1, ByteArray.size_extract]; omega
  · cases h
theorem open_fine (s : ByteArray) : TFine s.size (openX s) := by
  unfold openX
  split
  · exact ⟨i64_lit _ (by decide), i64z, i64z, Nat.zero_le _, fun _ => .inr rfl, fun e => absurd e (by show ¬ (9 : Int) = 13; decide)⟩
  · cases h : nameX s with
    | some p =>
      obtain ⟨nm, n⟩ := p
      exact ⟨(i64_lit 1 (by decide) : I64 1), i64z, i64z, name_size h, fun _ => .inr rfl, fun e => absurd e (by show ¬ (9 : Int) = 13; decide)⟩
    | none => exact flag_fine _ _
theorem plain_fine (m : Nat) (K : Int) (h9 : K ≠ 9) (h13 : K ≠ 13) : Fine m { kind := K } := ⟨i64z, i64z, i64z, Nat.zero_le _, fun e => absurd e h9, fun e => absurd e h13⟩
theorem tok_fine (s : ByteArray) (h0 : 0 < s.size) : TFine s.size (tokX s) := by
  have hl := Utf.nums_length s
  have hc := char_fine s.size (Utf.nums s) (Utf.nums_bytes s)
  have hr := rep_fine s.size (Utf.nums s) (by omega)
  unfold tokX
  dsimp only
  split; · exact plain_fine _ 3 (by decide) (by decide)
  split; · exact plain_fine _ 6 (by decide) (by decide)
  split; · exact plain_fine _ 7 (by decide) (by decide)
  split; · exact plain_fine _ 11 (by decide) (by decide)
  split; · exact plain_fine _ 12 (by decide) (by decide)
  split; · exact esc_fine _ s
  split; · exact brack_fine s
  split; · exact open_fine s
  split
  · split
    · exact hc
    · exact hr
  split
  · exact hr
  · exact hc
theorem one_fine (q : Bool) (s : ByteArray) (h0 : 0 < s.size) : TFine s.size (oneX q s) := by
  unfold oneX
  split
  · exact char_fine _ _ (Utf.nums_bytes s)
  · exact tok_fine s h0
theorem Fine.le {m k : Nat} {t : Tk} (h : Fine m t) (hk : m ≤ k) : Fine k t := ⟨h.1, h.2.1, h.2.2.1, Nat.le_trans h.2.2.2.1 hk, h.2.2.2.2⟩
/-- Each token of a pattern. -/
theorem lexF_fine (s : ByteArray) : ∀ (f k : Nat) (q : Bool) (T T' : List (Int × Tk)), lexF s f k q T = .ok T' → (∀ p ∈ T, Fine s.size p.2) → ∀ p ∈ T', Fine s.size p.2
  | 0, _, _, _, _, h, _ => by cases h
  | f + 1, k, q, T, T', h, hp => by
    rw [lexF_eq] at h
    by_cases h1 : s.size ≤ k
    · rw [if_pos h1] at h
      injection h with h
      subst h
      exact hp
    · rw [if_neg h1] at h
      by_cases h2 : turnB q ((Utf.nums s).drop k) = true
      · rw [if_pos h2] at h
        exact lexF_fine s f (k + 2) _ T T' h hp
      · rw [if_neg h2] at h
        have hz : (s.extract k s.size).size = s.size - k := by rw [ByteArray.size_extract]; omega
        have ho := one_fine q (s.extract k s.size) (by omega)
        cases hx : oneX q (s.extract k s.size) with
        | bad n c => rw [hx] at h; cases h
        | ok t n =>
          rw [hx] at h ho
          have ho2 : Fine (s.extract k s.size).size t := ho
          refine lexF_fine s f (k + n) q _ T' h (fun p hx => ?_)
          rcases List.mem_append.1 hx with hx | hx
          · exact hp p hx
          · simp at hx; subst hx; exact ho2.le (by omega)
theorem lex_fine {s : ByteArray} {T : List (Int × Tk)} (h : lexR s 0 false [] = .ok T) : ∀ p ∈ T, Fine s.size p.2 := lexF_fine s _ _ _ _ _ h (fun p hp => by cases hp)
end Go.Proofs.YtanffablfgnioaaGreatDoor.Lx
namespace Go.Proofs.YtanffablfgnioaaGreatDoor
open Go.RowKit
set_option linter.unusedVariables false
theorem pre_iff (s p : ByteArray) : Lib.hasPrefix s.data.toList p.data.toList = decide ((Utf.nums s).take p.size = Utf.nums p) := by
  unfold Lib.hasPrefix Utf.nums
  rw [Bool.eq_iff_iff, List.isPrefixOf_iff_prefix, List.prefix_iff_eq_take, decide_eq_true_iff, ← List.map_take, show p.data.toList.length = p.size from Array.length_toList]
  constructor
  · intro h; rw [← h]
  · intro h
    exact ((List.map_inj_right (f := fun b : UInt8 => (b.toNat : Int)) (fun a b e => UInt8.toNat_inj.1 (by have h9 : (a.toNat : Int) = (b.toNat : Int) := e; omega))).1 h).symm
theorem cutPre_any (W : World) (s p : ByteArray) : Calls Tryz.prog 87 #[.string s, .string p] W fun e w' =>
    e = .returned (.tuple #[.string (if (Utf.nums s).take p.size = Utf.nums p then s.extract p.size s.size else s), .bool (decide ((Utf.nums s).take p.size = Utf.nums p))]) ∧ W = w' := by
  have hcon := Any.strings_CutPrefix (P := Tryz.prog) Tryz.layPrefix s p W
  change Calls Tryz.prog 87 _ _ _ at hcon
  refine hcon.mono ?_
  rintro e w' ⟨rfl, rfl⟩
  refine ⟨?_, rfl⟩
  unfold Lib.trimPrefix
  rw [pre_iff]
  by_cases h : (Utf.nums s).take p.size = Utf.nums p
  · rw [decide_eq_true h, if_pos rfl, if_pos h, show p.data.toList.length = p.size from Array.length_toList, drop_extract']
  · rw [decide_eq_false h, if_neg (by decide), if_neg h]
/-- What groupName hands back. -/
def NamePost (X : Option (ByteArray × Nat)) (W : World) (e : Ending) (w' : World) : Prop :=
  Below W.heap.size W w' ∧ ((X = none ∧ e = .returned (.tuple #[.string ⟨#[]⟩, .int .i64 0])) ∨ ∃ nm n, X = some (nm, n) ∧ e = .returned (.tuple #[.string nm, .int .i64 (n : Nat)]))
set_option maxRecDepth 100000 in
set_option maxHeartbeats 8000000 in
theorem groupName_any (W : World) (s : ByteArray) (hs : s.size ≤ 4096) (hE : Ev W) : Calls Tryz.prog 58 #[.string s] W (NamePost (Lx.nameX s) W) := by
  have HE := Lib.hid hE
  clear hE
  obtain ⟨X, hX⟩ : ∃ X, Lx.nameX s = X := ⟨_, rfl⟩
  rw [hX]
  unfold Lx.nameX at hX
  dsimp only at hX
  have H4 := Lib.hid (fun w => cutPre_any w s ⟨#[40, 63, 80, 60]⟩)
  have H3 := Lib.hid (fun w => cutPre_any w s ⟨#[40, 63, 60]⟩)
  rw [show Utf.nums ⟨#[40, 63, 80, 60]⟩ = [40, 63, 80, 60] from rfl, show (ByteArray.mk #[40, 63, 80, 60]).size = 4 from rfl] at H4
  rw [show Utf.nums ⟨#[40, 63, 60]⟩ = [40, 63, 60] from rfl, show (ByteArray.mk #[40, 63, 60]).size = 3 from rfl] at H3
  by_cases c4 : (Utf.nums s).take 4 = [40, 63, 80, 60]
  · have hp : Lx.nameAt (Utf.nums s) = 4 := by unfold Lx.nameAt; rw [if_pos c4]
    rw [hp] at hX
    rw [if_pos c4, decide_eq_true c4] at H4
    have hps : 4 ≤ s.size := by
      have := congrArg List.length c4
      rw [List.length_take, Utf.nums_length] at this
      have h9 : min 4 s.size = 4 := this
      omega
    rw [if_neg (by decide), ← tail_drop s 4, Utf.nums_length] at hX
    obtain ⟨r, hr⟩ : ∃ r, s.extract 4 s.size = r := ⟨_, rfl⟩
    have hzr : r.size = s.size - 4 := by rw [← hr, ByteArray.size_extract]; omega
    have HC := Lib.hid (fun w (hw : Ev w) => cut_1r w r (by omega) 62 hw)
    rw [show (((62 : UInt8).toNat : Nat) : Int) = 62 from rfl] at HC
    have hkl := Br.upTo_le 62 (Utf.nums r)
    rw [Utf.nums_length] at hkl
    rw [hr] at hX H4
    obtain ⟨k, hk⟩ : ∃ k, Br.upTo 62 (Utf.nums r) = k := ⟨_, rfl⟩
    rw [hk] at hX HC hkl
    have hsub : r.extract 0 k = s.extract 4 (4 + k) := by
      rw [← hr, ByteArray.extract_extract]
      congr 1
      omega
    rw [← hsub] at hX
    obtain ⟨nm, hnm⟩ : ∃ nm, r.extract 0 k = nm := ⟨_, rfl⟩
    rw [hnm] at hX HC
    obtain ⟨g, hg⟩ : ∃ g, r.extract (k + 1) r.size = g := ⟨_, rfl⟩
    have hzg : g.size = r.size - (k + 1) := by rw [← hg, ByteArray.size_extract]; omega
    rw [hg] at HC
    have hzn : nm.size ≤ 4096 := by rw [← hnm, ByteArray.size_extract]; omega
    have HNM := Lib.hid (fun w => trName_any w nm (by omega))
    clear hr hk hsub hnm hg c4
    by_cases e1 : k = r.size
    · rw [if_pos e1] at hX
      rw [decide_eq_false (by simp [e1])] at HC
      have HX := Lib.hid hX.symm
      clear hX e1
      go_enter Tryz.func58, Tryz.ntmps58
      go_wp2_with fail
      refine (H4.out _).mono ?_
      rintro e w1 ⟨rfl, rfl⟩
      go_wp2_with fail
      refine (HC.out _ HE.out).mono ?_
      rintro e w1 ⟨rfl, n1, rfl⟩
      go_wp2
      go_ret2
      exact ⟨below_drewNr (Below.refl _ _) n1, .inl ⟨HX.out, rfl⟩⟩
    rw [if_neg e1] at hX
    rw [decide_eq_true e1] at HC
    cases hb : Td.nameB nm with
    | false =>
      rw [hb] at hX HNM
      rw [if_neg (by decide)] at hX
      have HX := Lib.hid hX.symm
      clear hX e1 hb
      go_enter Tryz.func58, Tryz.ntmps58
      go_wp2_with fail
      refine (H4.out _).mono ?_
      rintro e w1 ⟨rfl, rfl⟩
      go_wp2_with fail
      refine (HC.out _ HE.out).mono ?_
      rintro e w1 ⟨rfl, n1, rfl⟩
      go_wp2_with fail
      refine (HNM.out _).mono ?_
      rintro e w1 ⟨rfl, rfl⟩
      go_wp2
      go_ret2
      exact ⟨below_drewNr (Below.refl _ _) n1, .inl ⟨HX.out, rfl⟩⟩
    | true =>
      rw [hb] at hX HNM
      rw [if_pos rfl] at hX
      obtain ⟨n, hn⟩ : ∃ n, 4 + k + 1 = n := ⟨_, rfl⟩
      rw [hn] at hX
      have HX := Lib.hid hX.symm
      have hw : IntKind.i64.wrap ((s.size : Int) - (g.size : Int)) = (n : Int) := by rw [IntKind.wrap_i64]; omega
      clear hX e1 hb hzg hn
      go_enter Tryz.func58, Tryz.ntmps58
      go_wp2_with fail
      refine (H4.out _).mono ?_
      rintro e w1 ⟨rfl, rfl⟩
      go_wp2_with fail
      refine (HC.out _ HE.out).mono ?_
      rintro e w1 ⟨rfl, n1, rfl⟩
      go_wp2_with fail
      refine (HNM.out _).mono ?_
      rintro e w1 ⟨rfl, rfl⟩
      go_wp2
      go_ret2
      exact ⟨below_drewNr (Below.refl _ _) n1, .inr ⟨_, _, HX.out, rfl⟩⟩
  rw [if_neg c4, decide_eq_false c4] at H4
  by_cases c3 : (Utf.nums s).take 3 = [40, 63, 60]
  · have hp : Lx.nameAt (Utf.nums s) = 3 := by unfold Lx.nameAt; rw [if_neg c4, if_pos c3]
    rw [hp] at hX
    rw [if_pos c3, decide_eq_true c3] at H3
    have hps : 3 ≤ s.size := by
      have := congrArg List.length c3
      rw [List.length_take, Utf.nums_length] at this
      have h9 : min 3 s.size = 3 := this
      omega
    rw [if_neg (by decide), ← tail_drop s 3, Utf.nums_length] at hX
    obtain ⟨r, hr⟩ : ∃ r, s.extract 3 s.size = r := ⟨_, rfl⟩
    have hzr : r.size = s.size - 3 := by rw [← hr, ByteArray.size_extract]; omega
    have HC := Lib.hid (fun w (hw : Ev w) => cut_1r w r (by omega) 62 hw)
    rw [show (((62 : UInt8).toNat : Nat) : Int) = 62 from rfl] at HC
    have hkl := Br.upTo_le 62 (Utf.nums r)
    rw [Utf.nums_length] at hkl
    rw [hr] at hX H3
    obtain ⟨k, hk⟩ : ∃ k, Br.upTo 62 (Utf.nums r) = k := ⟨_, rfl⟩
    rw [hk] at hX HC hkl
    have hsub : r.extract 0 k = s.extract 3 (3 + k) := by
      rw [← hr, ByteArray.extract_extract]
      congr 1
      omega
    rw [← hsub] at hX
    obtain ⟨nm, hnm⟩ : ∃ nm, r.extract 0 k = nm := ⟨_, rfl⟩
    rw [hnm] at hX HC
    obtain ⟨g, hg⟩ : ∃ g, r.extract (k + 1) r.size = g := ⟨_, rfl⟩
    have hzg : g.size = r.size - (k + 1) := by rw [← hg, ByteArray.size_extract]; omega
    rw [hg] at HC
    have hzn : nm.size ≤ 4096 := by rw [← hnm, ByteArray.size_extract]; omega
    have HNM := Lib.hid (fun w => trName_any w nm (by omega))
    clear hr hk hsub hnm hg c4 c3
    by_cases e1 : k = r.size
    · rw [if_pos e1] at hX
      rw [decide_eq_false (by simp [e1])] at HC
      have HX := Lib.hid hX.symm
      clear hX e1
      go_enter Tryz.func58, Tryz.ntmps58
      go_wp2_with fail
      refine (H4.out _).mono ?_
      rintro e w1 ⟨rfl, rfl⟩
      go_wp2_with fail
      refine (H3.out _).mono ?_
      rintro e w1 ⟨rfl, rfl⟩
      go_wp2_with fail
      refine (HC.out _ HE.out).mono ?_
      rintro e w1 ⟨rfl, n1, rfl⟩
      go_wp2
      go_ret2
      exact ⟨below_drewNr (Below.refl _ _) n1, .inl ⟨HX.out, rfl⟩⟩
    rw [if_neg e1] at hX
    rw [decide_eq_true e1] at HC
    cases hb : Td.nameB nm with
    | false =>
      rw [hb] at hX HNM
      rw [if_neg (by decide)] at hX
      have HX := Lib.hid hX.symm
      clear hX e1 hb
      go_enter Tryz.func58, Tryz.ntmps58
      go_wp2_with fail
      refine (H4.out _).mono ?_
      rintro e w1 ⟨rfl, rfl⟩
      go_wp2_with fail
      refine (H3.out _).mono ?_
      rintro e w1 ⟨rfl, rfl⟩
      go_wp2_with fail
      refine (HC.out _ HE.out).mono ?_
      rintro e w1 ⟨rfl, n1, rfl⟩
      go_wp2_with fail
      refine (HNM.out _).mono ?_
      rintro e w1 ⟨rfl, rfl⟩
      go_wp2
      go_ret2
      exact ⟨below_drewNr (Below.refl _ _) n1, .inl ⟨HX.out, rfl⟩⟩
    | true =>
      rw [hb] at hX HNM
      rw [if_pos rfl] at hX
      obtain ⟨n, hn⟩ : ∃ n, 3 + k + 1 = n := ⟨_, rfl⟩
      rw [hn] at hX
      have HX := Lib.hid hX.symm
      have hw : IntKind.i64.wrap ((s.size : Int) - (g.size : Int)) = (n : Int) := by rw [IntKind.wrap_i64]; omega
      clear hX e1 hb hzg hn
      go_enter Tryz.func58, Tryz.ntmps58
      go_wp2_with fail
      refine (H4.out _).mono ?_
      rintro e w1 ⟨rfl, rfl⟩
      go_wp2_with fail
      refine (H3.out _).mono ?_
      rintro e w1 ⟨rfl, rfl⟩
      go_wp2_with fail
      refine (HC.out _ HE.out).mono ?_
      rintro e w1 ⟨rfl, n1, rfl⟩
      go_wp2_with fail
      refine (HNM.out _).mono ?_
      rintro e w1 ⟨rfl, rfl⟩
      go_wp2
      go_ret2
      exact ⟨below_drewNr (Below.refl _ _) n1, .inr ⟨_, _, HX.out, rfl⟩⟩
  rw [if_neg c3, decide_eq_false c3] at H3
  have hp : Lx.nameAt (Utf.nums s) = 0 := by unfold Lx.nameAt; rw [if_neg c4, if_neg c3]
  rw [hp, if_pos rfl] at hX
  have HX := Lib.hid hX.symm
  have HC := Lib.hid (fun w (hw : Ev w) => cut_1r w s (by omega) 62 hw)
  obtain ⟨k, hk⟩ : ∃ k, Br.upTo (((62 : UInt8).toNat : Nat) : Int) (Utf.nums s) = k := ⟨_, rfl⟩
  rw [hk] at HC
  clear hX c3 c4 hp hk
  go_enter Tryz.func58, Tryz.ntmps58
  go_wp2_with fail
  refine (H4.out _).mono ?_
  rintro e w1 ⟨rfl, rfl⟩
  go_wp2_with fail
  refine (H3.out _).mono ?_
  rintro e w1 ⟨rfl, rfl⟩
  go_wp2_with fail
  refine (HC.out _ HE.out).mono ?_
  rintro e w1 ⟨rfl, n1, rfl⟩
  go_wp2
  go_ret2
  exact ⟨below_drewNr (Below.refl _ _) n1, .inl ⟨HX.out, rfl⟩⟩
/-- The flags of a text, one letter behind another. -/
theorem flagsOf_step (l : List Int) (i : Nat) (c a : Int) (h : l[i]? = some c) : Lx.flagsOfX (l.drop i) a = if Lx.flagB c = 0 then none else Lx.flagsOfX (l.drop (i + 1)) (bits .or .i64 a (Lx.flagB c)) := by
  obtain ⟨hi, rfl⟩ := List.getElem?_eq_some_iff.1 h
  rw [List.drop_eq_getElem_cons hi]; rfl
end Go.Proofs.YtanffablfgnioaaGreatDoor
