/- burinlaw08.digits: a number from 0 on in decimal digits. · Mathematics of lex: a pattern of braces. · Rows of texts that come from without; the book's Few and Below. · burinlaw08.LexBraces, walked. -/
import Derived.Test.YtecclhmjmceheaaGreatDoorGp39
import Derived.IntWalk
import Derived.Laws.BytesArg
import Derived.Test.YtecclhmjmceheaaGreatDoorGp14
import Derived.Test.YtecclhmjmceheaaGreatDoorGp11
namespace Go.Proofs.YtecclhmjmceheaaGreatDoor
open Go.RowKit
set_option linter.unusedVariables false
namespace Lx
def decF : Nat → Nat → List Int
  | 0, _ => []
  | f + 1, n => if n < 10 then [48 + (n : Int)] else decF f (n / 10) ++ [48 + ((n % 10 : Nat) : Int)]
theorem decF_fuel : ∀ (f g n : Nat), n < 10 ^ f → n < 10 ^ g → 0 < f → 0 < g → decF f n = decF g n
  | 0, _, _, _, _, h, _ => by omega
  | _ + 1, 0, _, _, _, _, h => by omega
  | f + 1, g + 1, n, h1, h2, _, _ => by
    unfold decF
    by_cases h : n < 10
    · rw [if_pos h, if_pos h]
    · rw [if_neg h, if_neg h]
      have e1 : n / 10 < 10 ^ f := by rw [Nat.pow_succ] at h1; omega
      have e2 : n / 10 < 10 ^ g := by rw [Nat.pow_succ] at h2; omega
      have f0 : 0 < f := by
        rcases Nat.eq_zero_or_pos f with e | e
        · subst e; simp at h1; omega
        · exact e
      have g0 : 0 < g := by
        rcases Nat.eq_zero_or_pos g with e | e
        · subst e; simp at h2; omega
        · exact e
      rw [decF_fuel f g (n / 10) e1 e2 f0 g0]
/-- A number below a million in its decimal digits. -/
def decL (n : Nat) : List Int := decF 6 n
/-- The digits ahead of the last one. -/
def decP (n : Nat) : List Int := if n = 0 then [] else decL n
theorem decL_step (n : Nat) (h : n < 1000000) : decL n = decP (n / 10) ++ [48 + ((n % 10 : Nat) : Int)] := by
  unfold decP decL
  by_cases h1 : n < 10
  · rw [if_pos (by omega)]
    show (if n < 10 then [48 + (n : Int)] else decF 5 (n / 10) ++ [48 + ((n % 10 : Nat) : Int)]) = _
    rw [if_pos h1, show n % 10 = n by omega]; rfl
  · rw [if_neg (by omega)]
    show (if n < 10 then [48 + (n : Int)] else decF 5 (n / 10) ++ [48 + ((n % 10 : Nat) : Int)]) = _
    rw [if_neg h1, decF_fuel 5 6 (n / 10) (by omega) (by omega) (by omega) (by omega)]
theorem decP_step {n : Nat} (h0 : n ≠ 0) (h : n < 1000000) : decP n = decP (n / 10) ++ [48 + ((n % 10 : Nat) : Int)] := by
  rw [show decP n = decL n from if_neg h0]; exact decL_step n h
theorem decF_dec : ∀ (f n : Nat), (decF f n).all decB = true
  | 0, _ => rfl
  | f + 1, n => by
    unfold decF
    split
    · simp [decB]; omega
    · rw [List.all_append, decF_dec f (n / 10)]
      simp [decB]; omega
theorem decF_val : ∀ (f n : Nat) , n < 10 ^ f → 0 < f → dval (decF f n) = n
  | 0, _, _, h => by omega
  | f + 1, n, h, _ => by
    unfold decF
    by_cases h1 : n < 10
    · rw [if_pos h1]; unfold dval; simp; omega
    · rw [if_neg h1]
      have e1 : n / 10 < 10 ^ f := by rw [Nat.pow_succ] at h; omega
      have f0 : 0 < f := by
        rcases Nat.eq_zero_or_pos f with e | e
        · subst e; simp at h; omega
        · exact e
      have ih := decF_val f (n / 10) e1 f0
      unfold dval at ih ⊢
      rw [List.foldl_append, ih]
      simp
      omega
theorem decL_val (n : Nat) (h : n < 1000000) : dval (decL n) = n := decF_val 6 n (by omega) (by omega)
theorem decL_dec (n : Nat) : (decL n).all decB = true := decF_dec 6 n
theorem decF_len : ∀ (f n : Nat), 0 < f → n < 10 ^ f → 1 ≤ (decF f n).length ∧ (decF f n).length ≤ f ∧ (∀ g, 0 < g → n < 10 ^ g → (decF f n).length ≤ g) ∧ (∀ g, 10 ^ g ≤ n → g < (decF f n).length)
  | 0, _, h, _ => by omega
  | f + 1, n, _, h => by
    unfold decF
    by_cases h1 : n < 10
    · rw [if_pos h1]
      refine ⟨by simp, by simp, fun g hg _ => by simp; omega, fun g hg => ?_⟩
      rcases Nat.eq_zero_or_pos g with e | e
      · subst e; simp
      · have : 10 ^ 1 ≤ 10 ^ g := Nat.pow_le_pow_right (by omega) e
        omega
    · rw [if_neg h1]
      have e1 : n / 10 < 10 ^ f := by rw [Nat.pow_succ] at h; omega
      have f0 : 0 < f := by
        rcases Nat.eq_zero_or_pos f with e | e
        · subst e; simp at h; omega
        · exact e
      obtain ⟨a, b, c, d⟩ := decF_len f (n / 10) f0 e1
      rw [List.length_append]
      simp only [List.length_cons, List.length_nil]
      refine ⟨by omega, by omega, fun g hg hn => ?_, fun g hg => ?_⟩
      · cases g with
        | zero => omega
        | succ g =>
          rcases Nat.eq_zero_or_pos g with e | e
          · subst e; simp at hn; omega
          · have := c g e (by rw [Nat.pow_succ] at hn; omega)
            omega
      · cases g with
        | zero => omega
        | succ g =>
          have := d g (by rw [Nat.pow_succ] at hg; omega)
          omega
end Lx
set_option maxRecDepth 100000 in
set_option maxHeartbeats 4000000 in
theorem digits_any (W : World) (n : Nat) (hn : n < 1000000) : Calls Tryz.prog 18 #[.int .i64 (n : Int)] W fun e w' => ∃ T : ByteArray, e = .returned (.string T) ∧ Utf.nums T = Lx.decL n ∧ Below W.heap.size W w' := by
  have m1 : (n : Int).tmod 10 = ((n % 10 : Nat) : Int) := by rw [Int.tmod_eq_emod_of_nonneg (by omega)]; omega
  have q1 : (n : Int).tdiv 10 = ((n / 10 : Nat) : Int) := by rw [Int.tdiv_eq_ediv_of_nonneg (by omega)]; omega
  obtain ⟨a, ha⟩ : ∃ a, n % 10 = a := ⟨_, rfl⟩
  obtain ⟨q, hq⟩ : ∃ q, n / 10 = q := ⟨_, rfl⟩
  have HL : Hid (Lx.decL n = Lx.decP q ++ [48 + (a : Int)]) := Lib.hid (by rw [← ha, ← hq]; exact Lx.decL_step n hn)
  have a10 : a < 10 := by omega
  rw [ha] at m1
  rw [hq] at q1
  have w1 : IntKind.u8.wrap (a : Int) = (a : Int) := by unfold IntKind.wrap; simp [IntKind.bits, IntKind.signed]; omega
  have w2 : IntKind.u8.wrap (48 + (a : Int)) = 48 + (a : Int) := by unfold IntKind.wrap; simp [IntKind.bits, IntKind.signed]; omega
  have hcv := fun (w : World) (x : Int) => run_convert_bytes_arg (P := Tryz.prog) (w.alloc (.cells #[.int .u8 x] 5)) 63 5 (by kernel_rfl) (by kernel_rfl) w.heap.size 0 1 1 [x] rfl (fun i hi => by obtain rfl : i = 0 := (by omega); simp) 9 (by kernel_rfl)
  have es : ∀ x : Int, (strOfNums [x]).size = 1 := fun x => by rw [size_strOf]; rfl
  go_enter Tryz.func18, Tryz.ntmps18
  go_wp2
  go_loopw [0, 3] (fun N S wr => ∃ (k : Nat) (T : ByteArray), k ≤ q ∧ N = .int .i64 (k : Int) ∧ S = .string T ∧ Hid (Lx.decP k ++ Utf.nums T = Lx.decL n) ∧ T.size + k ≤ 1 + q ∧ Hid (Below W.heap.size W wr)) (fun N _ _ => (intOf N).toNat)
  case atStart => exact ⟨q, _, Nat.le_refl _, rfl, rfl, Lib.hid (by rw [nums_strOf _ (by intro x hx; simp at hx; subst hx; omega), HL.out]), by rw [es]; omega, Lib.hid ((Below.refl _ _).alloc (Nat.le_refl _) _)⟩
  case round =>
    obtain ⟨k, T, hk, rfl, rfl, HT, hts, HB⟩ := hrel
    by_cases h0 : 0 < k
    · have k1 : (0 : Int) < (k : Int) := by omega
      have m2 : (k : Int).tmod 10 = ((k % 10 : Nat) : Int) := by rw [Int.tmod_eq_emod_of_nonneg (by omega)]; omega
      have q2 : (k : Int).tdiv 10 = ((k / 10 : Nat) : Int) := by rw [Int.tdiv_eq_ediv_of_nonneg (by omega)]; omega
      have HS := Lib.hid (Lx.decP_step (n := k) (by omega) (by omega))
      obtain ⟨b, hb⟩ : ∃ b, k % 10 = b := ⟨_, rfl⟩
      obtain ⟨r, hr⟩ : ∃ r, k / 10 = r := ⟨_, rfl⟩
      have hrk : r < k := by omega
      have b10 : b < 10 := by omega
      rw [hb] at m2 HS
      rw [hr] at q2 HS
      have v1 : IntKind.u8.wrap (b : Int) = (b : Int) := by unfold IntKind.wrap; simp [IntKind.bits, IntKind.signed]; omega
      have v2 : IntKind.u8.wrap (48 + (b : Int)) = 48 + (b : Int) := by unfold IntKind.wrap; simp [IntKind.bits, IntKind.signed]; omega
      have hT9 : T.size ≤ 1000000 := by omega
      have e1 := es (48 + (b : Int))
      clear hb hr
      have hnb : Utf.nums (strOfNums [48 + (b : Int)]) = [48 + (b : Int)] := nums_strOf _ (by intro x hx; simp at hx; subst hx; omega)
      have HNB := Lib.hid hnb
      clear hnb
      go_wp2
      go_roundw
      case rel => exact ⟨r, _, by omega, by go_num, rfl, Lib.hid (by rw [nums_append, HNB.out, ← List.append_assoc, ← HS.out]; exact HT.out), by rw [ByteArray.size_append, e1]; omega, Lib.hid (HB.out.alloc HB.out.size _)⟩
      case measure => simp [intOf]; omega
    · obtain rfl : k = 0 := by omega
      have k1 : ¬ (0 : Int) < ((0 : Nat) : Int) := by omega
      go_wp2
      go_ret
      exact ⟨_, rfl, (by have := HT.out; rwa [show Lx.decP 0 = [] from rfl, List.nil_append] at this), HB.out⟩
end Go.Proofs.YtecclhmjmceheaaGreatDoor
namespace Go.Proofs.YtecclhmjmceheaaGreatDoor.Lx
set_option linter.unusedVariables false
theorem dec_one (c : Int) (l : List Int) (h0 : 0 ≤ c) (h1 : c < 128) : Utf.dec (c :: l) = (c, 1) := by
  have hw : Utf.width c = 1 := by unfold Utf.width; rw [if_neg (by omega), if_pos (by omega)]
  have he : Utf.encN c = [c] := by unfold Utf.encN; rw [hw]; rfl
  have := Utf.dec_enc c (by rw [hw]; decide) l
  rw [he, hw] at this
  exact this
theorem char_one (c : Int) (l : List Int) (h0 : 0 ≤ c) (h1 : c < 128) : charX (c :: l) = .ok (runeT c) 1 := by
  unfold charX
  rw [dec_one c l h0 h1, if_neg (by omega)]; rfl
theorem upTo_app (c : Int) : ∀ (X Y : List Int), (∀ x ∈ X, x ≠ c) → Br.upTo c (X ++ c :: Y) = X.length
  | [], Y, _ => by unfold Br.upTo; simp
  | x :: X, Y, h => by
    rw [List.cons_append]
    unfold Br.upTo
    rw [if_neg (h x (by simp)), upTo_app c X Y (fun y hy => h y (by simp [hy]))]; rfl
theorem dec_ne {X : List Int} (h : X.all decB = true) {c : Int} (hc : c < 48 ∨ 57 < c) : ∀ x ∈ X, x ≠ c := fun x hx e => by
  have := List.all_eq_true.1 h x hx
  unfold decB at this
  simp at this
  omega
/-- The numbers of a pattern of braces. -/
theorem counts_of (A B E : List Int) (hA : A.all decB = true) (hB : B.all decB = true) (hB1 : 1 ≤ B.length) :
    countsX (123 :: (A ++ 44 :: (B ++ 125 :: E))) = match cntX A, cntX B with
      | some a, some b => (a, b, A.length + B.length + 3)
      | _, _ => (0, 0, 0) := by
  have e1 : (A ++ 44 :: B) ++ 125 :: E = A ++ 44 :: (B ++ 125 :: E) := by simp
  have hj : Br.upTo 125 ((A ++ 44 :: B) ++ 125 :: E) = (A ++ 44 :: B).length := upTo_app 125 _ _ (fun x hx => by
    rcases List.mem_append.1 hx with h | h
    · exact dec_ne hA (by omega) x h
    · rcases List.mem_cons.1 h with h | h
      · omega
      · exact dec_ne hB (by omega) x h)
  have hk : Br.upTo 44 (A ++ 44 :: B) = A.length := upTo_app 44 _ _ (dec_ne hA (by omega))
  have hl : (A ++ 44 :: B).length = A.length + B.length + 1 := by simp; omega
  rw [countsX_parts (123 :: (A ++ 44 :: (B ++ 125 :: E))) (A ++ 44 :: B).length A.length (A ++ 44 :: B) (by rw [List.drop_one, List.tail_cons, ← e1]; exact hj)
    (by rw [List.drop_one, List.tail_cons, ← e1, List.take_left']; rfl) hk]
  have ht : (A ++ 44 :: B).take A.length = A := List.take_left' rfl
  have hd : (A ++ 44 :: B).drop (A.length + 1) = B := by
    rw [show A ++ 44 :: B = (A ++ [44]) ++ B by simp]
    exact List.drop_left' (by simp)
  rw [ht, hd, hl]
  have hm : ((123 :: (A ++ 44 :: (B ++ 125 :: E))).drop 1).length = A.length + B.length + 2 + E.length := by simp; omega
  rw [hm]
  unfold partsX
  rw [if_neg (by omega)]
  cases cntX A with
  | none => rfl
  | some a =>
    dsimp only
    rw [if_neg (by omega), if_neg (by omega)]
    cases cntX B with
    | none => rfl
    | some b => rfl
theorem cnt_dec (n : Nat) (h : n < 1000000) : cntX (decL n) = if n < 10000 then some (n : Int) else none := by
  have hl := decF_len 6 n (by omega) (by omega)
  have hd := decL_dec n
  have hv := decL_val n h
  unfold cntX
  by_cases h4 : n < 10000
  · rw [if_pos h4, if_pos ⟨hl.1, hl.2.2.1 4 (by omega) (by omega), hd⟩, hv]
  · rw [if_neg h4, if_neg]
    rintro ⟨_, h5, _⟩
    have := hl.2.2.2 4 (by omega)
    unfold decL at h5
    omega
theorem turn_no {l : List Int} (h : l[0]?.getD 0 ≠ 92) : turnB false l = false := by
  unfold turnB
  rw [decide_eq_false h]; rfl
theorem tok_plain {s : ByteArray} {c : Int} {l : List Int} (h : Utf.nums s = c :: l) (hc : (48 ≤ c ∧ c ≤ 57) ∨ c = 44 ∨ c = 125 ∨ c = 120) : tokX s = .ok (runeT c) 1 := by
  unfold tokX
  rw [h]
  dsimp only [List.getElem?_cons_zero, Option.getD_some]
  rw [if_neg (by omega), if_neg (by omega), if_neg (by omega), if_neg (by omega), if_neg (by omega), if_neg (by omega), if_neg (by omega), if_neg (by omega), if_neg (by omega), if_neg (by omega)]
  exact char_one c l (by omega) (by omega)
theorem tok_quest {s : ByteArray} (h : Utf.nums s = [63]) : tokX s = .ok { kind := 8, mn := 0, mx := 1 } 1 := by
  unfold tokX
  rw [h]
  rfl
theorem nums_tail_at (s : ByteArray) (k : Nat) (h : k < s.size) : ∃ c, Utf.nums (s.extract k s.size) = c :: (Utf.nums s).drop (k + 1) ∧ (Utf.nums s)[k]? = some c := by
  have hl := Utf.nums_length s
  rw [Br.nums_tail]
  refine ⟨(Utf.nums s)[k]'(by omega), List.drop_eq_getElem_cons (by omega), List.getElem?_eq_getElem (by omega)⟩
/-- Where nothing but digits, commas and braces stands, with at most a question mark at the end, every byte is a token. -/
theorem lexR_plain (s : ByteArray) : ∀ (d k : Nat) (T : List (Int × Tk)), k + d = s.size → (∀ i c, k ≤ i → (Utf.nums s)[i]? = some c → ((48 ≤ c ∧ c ≤ 57) ∨ c = 44 ∨ c = 125) ∨ (c = 63 ∧ i + 1 = s.size)) → ∃ U, lexR s k false T = .ok (T ++ U) ∧ U.length = d
  | 0, k, T, hk, _ => ⟨[], by rw [lexR_end (by omega), List.append_nil], rfl⟩
  | d + 1, k, T, hk, hp => by
    obtain ⟨c, h1, h2⟩ := nums_tail_at s k (by omega)
    have hc := hp k c (Nat.le_refl _) h2
    have ht : turnB false ((Utf.nums s).drop k) = false := turn_no (by
      rw [← Br.nums_tail, h1]
      simp
      omega)
    have hx : ∃ t, oneX false (s.extract k s.size) = .ok t 1 := by
      rcases hc with hc | ⟨rfl, he⟩
      · exact ⟨_, tok_plain h1 (by omega)⟩
      · exact ⟨_, tok_quest (by rw [h1, List.drop_of_length_le (by rw [Utf.nums_length]; omega)])⟩
    obtain ⟨t, hx⟩ := hx
    obtain ⟨U, hu, hl⟩ := lexR_plain s d (k + 1) (T ++ [((k : Int), t)]) (by omega) (fun i c hi => hp i c (by omega))
    exact ⟨((k : Int), t) :: U, by rw [lexR_tok (by omega) ht hx, hu]; simp, by simp [hl]⟩
/-- A pattern of braces, whole. -/
theorem lex_braces (s : ByteArray) (A B E : List Int) (hs : Utf.nums s = 120 :: 123 :: (A ++ 44 :: (B ++ 125 :: E))) (hA : A.all decB = true) (hB : B.all decB = true) (hB1 : 1 ≤ B.length) (hE : E = [] ∨ E = [63]) :
    match cntX A, cntX B with
    | some a, some b => lexR s 0 false [] = if 1000 < a ∨ 1000 < b ∨ (b ≠ -1 ∧ b < a) then .bad 1 81 else .ok [(0, runeT 120), (1, { kind := 8, mn := a, mx := b, lazy := decide (E = [63]) })]
    | _, _ => ∃ U, lexR s 0 false [] = .ok ([(0, runeT 120), (1, runeT 123)] ++ U) ∧ 3 ≤ U.length := by
  have hz : s.size = A.length + B.length + E.length + 4 := by
    have := Utf.nums_length s
    rw [hs] at this
    simp at this
    omega
  have h0 : Utf.nums (s.extract 0 s.size) = 120 :: 123 :: (A ++ 44 :: (B ++ 125 :: E)) := by rw [Br.nums_tail, hs]; rfl
  have h1 : Utf.nums (s.extract 1 s.size) = 123 :: (A ++ 44 :: (B ++ 125 :: E)) := by rw [Br.nums_tail, hs]; rfl
  have st1 : lexR s 0 false [] = lexR s (0 + 1) false ([] ++ [(((0 : Nat) : Int), runeT 120)]) := lexR_tok (by omega) (turn_no (by rw [hs]; show (120 : Int) ≠ 92; decide)) (tok_plain h0 (by omega))
  have hc := counts_of A B E hA hB hB1
  have ht1 : turnB false ((Utf.nums s).drop 1) = false := turn_no (by rw [hs]; show (123 : Int) ≠ 92; decide)
  have hbig : (match cntX A, cntX B with | some _, some _ => False | _, _ => True) → ∃ U, lexR s 0 false [] = .ok ([(0, runeT 120), (1, runeT 123)] ++ U) ∧ 3 ≤ U.length := fun hn => by
    have hc0 : (countsX (123 :: (A ++ 44 :: (B ++ 125 :: E)))).2.2 = 0 := by
      rw [hc]
      cases h1 : cntX A with
      | none => rfl
      | some a =>
        cases h2 : cntX B with
        | none => rfl
        | some b => rw [h1, h2] at hn; exact hn.elim
    have hx : oneX false (s.extract 1 s.size) = .ok (runeT 123) 1 := by
      show tokX _ = _
      unfold tokX
      rw [h1]
      dsimp only [List.getElem?_cons_zero, Option.getD_some]
      rw [if_neg (by decide), if_neg (by decide), if_neg (by decide), if_neg (by decide), if_neg (by decide), if_neg (by decide), if_neg (by decide), if_neg (by decide), if_pos rfl, if_pos hc0]
      exact char_one 123 _ (by omega) (by omega)
    have st2 := lexR_tok (s := s) (at_ := 1) (q := false) (T := [((0 : Int), runeT 120)]) (by omega) ht1 hx
    obtain ⟨U, hu, hl⟩ := lexR_plain s (A.length + B.length + E.length + 2) 2 ([((0 : Int), runeT 120)] ++ [(((1 : Nat) : Int), runeT 123)]) (by omega) (fun i c hi hcc => by
      rw [hs] at hcc
      obtain ⟨j, rfl⟩ : ∃ j, i = j + 2 := ⟨i - 2, by omega⟩
      simp only [List.getElem?_cons_succ] at hcc
      rcases Nat.lt_or_ge j A.length with g | g
      · rw [List.getElem?_append_left g] at hcc
        have := List.all_eq_true.1 hA c (List.mem_of_getElem? hcc)
        unfold decB at this; simp at this; exact .inl (.inl this)
      · rw [List.getElem?_append_right g] at hcc
        obtain ⟨m, hm⟩ : ∃ m, j - A.length = m := ⟨_, rfl⟩
        rw [hm] at hcc
        cases m with
        | zero => simp at hcc; omega
        | succ m =>
          rw [List.getElem?_cons_succ] at hcc
          rcases Nat.lt_or_ge m B.length with g2 | g2
          · rw [List.getElem?_append_left g2] at hcc
            have := List.all_eq_true.1 hB c (List.mem_of_getElem? hcc)
            unfold decB at this; simp at this; exact .inl (.inl this)
          · rw [List.getElem?_append_right g2] at hcc
            obtain ⟨r, hr⟩ : ∃ r, m - B.length = r := ⟨_, rfl⟩
            rw [hr] at hcc
            cases r with
            | zero => simp at hcc; omega
            | succ r =>
              rw [List.getElem?_cons_succ] at hcc
              rcases hE with rfl | rfl
              · simp at hcc
              · cases r with
                | zero => simp at hcc; refine .inr ⟨hcc.symm, ?_⟩; simp at hz; omega
                | succ r => simp at hcc)
    refine ⟨U, ?_, by omega⟩
    rw [st1]
    exact st2.trans hu
  cases hA2 : cntX A with
  | none => exact hbig (by rw [hA2]; exact True.intro)
  | some a =>
    cases hB2 : cntX B with
    | none => exact hbig (by rw [hA2, hB2]; exact True.intro)
    | some b =>
      rw [hA2, hB2] at hc
      dsimp only at hc ⊢
      have hrep : oneX false (s.extract 1 s.size) = repOf a b (A.length + B.length + 3) (123 :: (A ++ 44 :: (B ++ 125 :: E))) := by
        show tokX _ = _
        unfold tokX
        rw [h1]
        dsimp only [List.getElem?_cons_zero, Option.getD_some]
        rw [if_neg (by decide), if_neg (by decide), if_neg (by decide), if_neg (by decide), if_neg (by decide), if_neg (by decide), if_neg (by decide), if_neg (by decide), if_pos rfl, if_neg (by rw [hc]; show ¬ A.length + B.length + 3 = 0; omega)]
        unfold repX boundsX
        dsimp only [List.getElem?_cons_zero, Option.getD_some]
        rw [if_neg (by decide), if_neg (by decide), if_neg (by decide), hc]
      have hlast : (123 :: (A ++ 44 :: (B ++ 125 :: E)))[A.length + B.length + 3]? = E[0]? := by
        rw [show A.length + B.length + 3 = (A.length + (B.length + 1 + 1)) + 1 by omega, List.getElem?_cons_succ, List.getElem?_append_right (by omega), show A.length + (B.length + 1 + 1) - A.length = (B.length + 1) + 1 by omega, List.getElem?_cons_succ, List.getElem?_append_right (by omega), show B.length + 1 - B.length = 0 + 1 by omega, List.getElem?_cons_succ]
      rw [st1]
      by_cases hq : 1000 < a ∨ 1000 < b ∨ (b ≠ -1 ∧ b < a)
      · rw [if_pos hq]
        unfold repOf at hrep
        rw [if_pos hq] at hrep
        exact lexR_bad (by omega) ht1 hrep
      · rw [if_neg hq]
        unfold repOf at hrep
        rw [if_neg hq, hlast] at hrep
        rcases hE with rfl | rfl
        · rw [if_neg (by decide)] at hrep
          have st2 := lexR_tok (s := s) (at_ := 0 + 1) (q := false) (T := [] ++ [(((0 : Nat) : Int), runeT 120)]) (by omega) ht1 hrep
          rw [st2, lexR_end (by simp at hz; omega)]
          rfl
        · rw [if_pos (by rfl)] at hrep
          have st2 := lexR_tok (s := s) (at_ := 0 + 1) (q := false) (T := [] ++ [(((0 : Nat) : Int), runeT 120)]) (by omega) ht1 hrep
          rw [st2, lexR_end (by simp at hz; omega)]
          rfl
end Go.Proofs.YtecclhmjmceheaaGreatDoor.Lx
namespace Go.Proofs.YtecclhmjmceheaaGreatDoor
open Go.RowKit
set_option linter.unusedVariables false
/-- A value that reads as a list of texts, wherever it begins. -/
def SRow (W : World) (v : Value) (L : List ByteArray) : Prop :=
  ∃ a cap, v = .slice a L.length cap ∧ L.length ≤ 8796093022208 ∧ ∀ j (hj : j < L.length), ∃ b off, a = some ⟨b, off, none⟩ ∧ b < W.heap.size ∧ W.cell? ⟨b, off + j, none⟩ = some (.string L[j]) ∧ L[j].size ≤ 140737488351232
theorem SRow.below {W W' : World} {v : Value} {L : List ByteArray} (h : SRow W v L) {B : Nat} (hB : W.heap.size ≤ B) (hb : Below B W W') : SRow W' v L := by
  obtain ⟨a, cap, hv, h1, hc⟩ := h
  refine ⟨a, cap, hv, h1, fun j hj => ?_⟩
  obtain ⟨b, off, ha, hlt, hcell, hs⟩ := hc j hj
  exact ⟨b, off, ha, Nat.lt_of_lt_of_le hlt hb.size, (hb.cell (p := ⟨b, off + j, none⟩) (by show b < B; omega)).trans hcell, hs⟩
def FewPost (L : List ByteArray) (many long : Int) (e : Ending) : Prop := ∃ b : Bool, e = .returned (.bool b) ∧ (b = true → (L.length : Int) ≤ many ∧ ∀ s ∈ L, (s.size : Int) ≤ long)
















































set_option maxRecDepth 100000 in
set_option maxHeartbeats 2000000 in
theorem below_any (W : World) (n most : Int) (h0 : 1 ≤ most) (h1 : most ≤ 1000000000) (hn : I64 n) :
    Calls Tryz.prog 17 #[.int .i64 n, .int .i64 most] W fun e w' => ∃ k : Nat, e = .returned (.int .i64 (k : Int)) ∧ (k : Int) < most ∧ W = w' := by
  obtain ⟨hn0, hn1⟩ := hn
  have hm0 : ¬ most < 1 := by omega
  have hmz : ¬ most = 0 := by omega
  obtain ⟨r, hr⟩ : ∃ r, n.tmod most = r := ⟨_, rfl⟩
  have hr1 : r < most ∧ -most < r := by
    rw [← hr]
    have a1 := Int.tmod_lt_of_pos n (show 0 < most by omega)
    have a2 : -most < n.tmod most := by
      have a3 := Int.tmod_lt_of_pos (-n) (show 0 < most by omega)
      rw [Int.neg_tmod] at a3
      omega
    omega
  by_cases hneg : r < 0
  · obtain ⟨k, hk⟩ : ∃ k : Nat, r + most = (k : Int) := ⟨(r + most).toNat, by omega⟩
    have HK := Lib.hid hk
    go_enter Tryz.func17, Tryz.ntmps17
    go_wp2
    go_ret
    exact ⟨k, rfl, by have := HK.out; omega, rfl⟩
  · obtain ⟨k, hk⟩ : ∃ k : Nat, r = (k : Int) := ⟨r.toNat, by omega⟩
    have HK := Lib.hid hk
    go_enter Tryz.func17, Tryz.ntmps17
    go_wp2
    go_ret
    exact ⟨k, by rw [← HK.out]; rfl, by have := HK.out; omega, rfl⟩
end Go.Proofs.YtecclhmjmceheaaGreatDoor
namespace Go.Proofs.YtecclhmjmceheaaGreatDoor
open Go.RowKit
open Lx (Tk TR LR)
set_option linter.unusedVariables false
theorem decL_bytes (n : Nat) : Utf.Bytes (Lx.decL n) := fun x hx => by
  have := List.all_eq_true.1 (Lx.decL_dec n) x hx
  unfold Lx.decB at this
  simp at this
  omega
theorem digits_fun : ∃ f : Nat → ByteArray, ∀ k, k < 1000000 → Utf.nums (f k) = Lx.decL k ∧ (f k).size ≤ 6 ∧ ∀ W, Calls Tryz.prog 18 #[.int .i64 (k : Int)] W fun e w' => e = .returned (.string (f k)) ∧ Below W.heap.size W w' := by
  refine ⟨fun k => strOfNums (Lx.decL k), fun n hn => ?_⟩
  have hx : Utf.nums (strOfNums (Lx.decL n)) = Lx.decL n := nums_strOf _ (decL_bytes n)
  refine ⟨hx, by rw [size_strOf]; exact (Lx.decF_len 6 n (by omega) (by omega)).2.1, fun W => (digits_any W n hn).mono ?_⟩
  rintro e w' ⟨T, rfl, hT, h⟩
  exact ⟨by rw [Br.nums_inj' (hT.trans hx.symm)], h⟩
theorem braces_text (x y z : ByteArray) (a b : Nat) (hx : Utf.nums x = Lx.decL a) (hy : Utf.nums y = Lx.decL b) :
    Utf.nums (⟨#[120, 123]⟩ ++ x ++ ⟨#[44]⟩ ++ y ++ ⟨#[125]⟩ ++ z) = 120 :: 123 :: (Lx.decL a ++ 44 :: (Lx.decL b ++ 125 :: Utf.nums z)) := by
  rw [Br.nums_append', Br.nums_append', Br.nums_append', Br.nums_append', Br.nums_append', hx, hy, show Utf.nums ⟨#[120, 123]⟩ = [120, 123] from rfl, show Utf.nums ⟨#[44]⟩ = [44] from rfl, show Utf.nums ⟨#[125]⟩ = [125] from rfl]
  simp
theorem braces_size (x y z : ByteArray) : (⟨#[120, 123]⟩ ++ x ++ ⟨#[44]⟩ ++ y ++ ⟨#[125]⟩ ++ z : ByteArray).size = 2 + x.size + 1 + y.size + 1 + z.size := by
  rw [ByteArray.size_append, ByteArray.size_append, ByteArray.size_append, ByteArray.size_append, ByteArray.size_append]; rfl
/-- What Lex hands back at a pattern of braces. -/
def BrcOk (a b : Nat) (lz : Bool) (R : LR) : Prop :=
  ((9999 < a ∨ 9999 < b) ∧ ∃ U, R = .ok ([(0, Lx.runeT 120), (1, Lx.runeT 123)] ++ U) ∧ 3 ≤ U.length) ∨
  (¬ 9999 < a ∧ ¬ 9999 < b ∧ (1000 < a ∨ 1000 < b ∨ b < a) ∧ R = .bad 1 81) ∨
  (¬ 9999 < a ∧ ¬ 9999 < b ∧ ¬ 1000 < a ∧ ¬ 1000 < b ∧ ¬ b < a ∧ R = .ok [(0, Lx.runeT 120), (1, { kind := 8, mn := a, mx := b, lazy := lz })])
theorem brc_ok (s z : ByteArray) (a b : Nat) (lz : Bool) (ha : a < 20000) (hb : b < 20000) (hz : z = if lz then ⟨#[63]⟩ else ⟨#[]⟩) (hs : Utf.nums s = 120 :: 123 :: (Lx.decL a ++ 44 :: (Lx.decL b ++ 125 :: Utf.nums z))) :
    BrcOk a b lz (Lx.lexR s 0 false []) := by
  have hE : Utf.nums z = [] ∨ Utf.nums z = [63] := by
    rw [hz]
    cases lz
    · exact .inl rfl
    · exact .inr rfl
  have hEl : decide (Utf.nums z = [63]) = lz := by rw [hz]; cases lz <;> rfl
  have h := Lx.lex_braces s (Lx.decL a) (Lx.decL b) (Utf.nums z) hs (Lx.decL_dec a) (Lx.decL_dec b) (Lx.decF_len 6 b (by omega) (by omega)).1 hE
  rw [Lx.cnt_dec a (by omega), Lx.cnt_dec b (by omega), hEl] at h
  by_cases h1 : a < 10000
  · by_cases h2 : b < 10000
    · rw [if_pos h1, if_pos h2] at h
      dsimp only at h
      by_cases h3 : 1000 < (a : Int) ∨ 1000 < (b : Int) ∨ ((b : Int) ≠ -1 ∧ (b : Int) < (a : Int))
      · rw [if_pos h3] at h
        exact .inr (.inl ⟨by omega, by omega, by omega, h⟩)
      · rw [if_neg h3] at h
        exact .inr (.inr ⟨by omega, by omega, by omega, by omega, by omega, h⟩)
    · rw [if_pos h1, if_neg h2] at h
      exact .inl ⟨by omega, h⟩
  · rw [if_neg h1] at h
    exact .inl ⟨by omega, h⟩
theorem i64_of_wf {a : Int} (h : (Lit.int .i64 a).wf = true) : I64 a := by
  have h1 : IntKind.i64.min = -9223372036854775808 := rfl
  have h2 : IntKind.i64.max = 9223372036854775807 := rfl
  simp [Lit.wf, h1, h2] at h
  unfold I64
  omega
set_option maxRecDepth 100000 in
set_option maxHeartbeats 8000000 in
theorem walkLexBraces (W : World) (a b : Int) (lz : Bool) (ha : (Lit.int .i64 a).wf = true) (hb : (Lit.int .i64 b).wf = true) (hE : Ev W) : Calls Tryz.prog 5 #[.int .i64 a, .int .i64 b, .bool lz] W fun e w' => e = .returned (.bool true) ∧ Below W.heap.size W w' := by
  have mixed : Tryz.prog.follows .mixedOrders = true := by kernel_rfl
  have HE := Lib.hid hE
  have HA := Lib.hid (i64_of_wf ha)
  have HB := Lib.hid (i64_of_wf hb)
  clear hE ha hb
  go_enter Tryz.func5, Tryz.ntmps5
  go_wp2_with fail
  refine (works8_any _ HE.out).mono ?_
  rintro e w1 ⟨rfl, hb⟩
  have HB1 := Lib.hid hb
  clear hb
  go_wp2_with fail
  refine (below_any _ a 20000 (by omega) (by omega) HA.out).mono ?_
  rintro e w2 ⟨x, rfl, hx, rfl⟩
  go_wp2_with fail
  refine (below_any _ b 20000 (by omega) (by omega) HB.out).mono ?_
  rintro e w3 ⟨y, rfl, hy, rfl⟩
  obtain ⟨f, hf⟩ := digits_fun
  have hx1 : x < 20000 := by omega
  have hy1 : y < 20000 := by omega
  obtain ⟨hX, hXs, hXc⟩ := hf x (by omega)
  obtain ⟨hY, hYs, hYc⟩ := hf y (by omega)
  have HXC := Lib.hid hXc
  have HYC := Lib.hid hYc
  have hbr := fun z hz => brc_ok _ z x y lz hx1 hy1 hz (braces_text (f x) (f y) z x y hX hY)
  have HBR := Lib.hid hbr
  have hxi : ((f x).size : Int) ≤ 6 := by omega
  have hyi : ((f y).size : Int) ≤ 6 := by omega
  clear hf hX hY hXc hYc hbr hx hy
  have r1 : ¬ 9223372036854775807 < 2 + (f x).size := by omega
  have r2 : ¬ 9223372036854775807 < 2 + (f x).size + 1 := by omega
  have r3 : ¬ 9223372036854775807 < 2 + (f x).size + 1 + (f y).size := by omega
  have r4 : ¬ 9223372036854775807 < 2 + (f x).size + 1 + (f y).size + 1 := by omega
  cases lz
  · go_wp2_with fail
    refine (HXC.out _).mono ?_
    rintro e w4 ⟨rfl, hb4⟩
    have HB4 := Lib.hid (HB1.out.trans (hb4.mono HB1.out.size))
    clear hb4
    go_wp2_with fail
    refine (HYC.out _).mono ?_
    rintro e w5 ⟨rfl, hb5⟩
    have HB5 := Lib.hid (HB4.out.trans (hb5.mono HB4.out.size))
    clear hb5
    have hbr := HBR.out ⟨#[]⟩ rfl
    have hlx := lex_any w5 (⟨#[120, 123]⟩ ++ f x ++ ⟨#[44]⟩ ++ f y ++ ⟨#[125]⟩ ++ ⟨#[]⟩) (by rw [braces_size, show (⟨#[]⟩ : ByteArray).size = 0 from rfl]; omega) (HE.out.below (Nat.le_refl _) HB5.out)
    obtain ⟨R, hR⟩ : ∃ R, Lx.lexR (⟨#[120, 123]⟩ ++ f x ++ ⟨#[44]⟩ ++ f y ++ ⟨#[125]⟩ ++ ⟨#[]⟩) 0 false [] = R := ⟨_, rfl⟩
    rw [hR] at hbr hlx
    have HLX := Lib.hid hlx
    clear hlx hR HBR
    go_wp2_with fail
    refine HLX.out.mono ?_
    clear HLX r1 r2 r3 r4
    rintro e w6 ⟨hb6, h6⟩
    have HB6 := Lib.hid (HB5.out.trans (hb6.mono HB5.out.size))
    clear hb6
    rcases hbr with ⟨hbig, U, hU, hUl⟩ | ⟨n1, n2, n3, hU⟩ | ⟨n1, n2, n3, n4, n5, hU⟩
    · rcases h6 with ⟨o, c, h, _⟩ | ⟨T, v, h, rfl, ht, hTl⟩
      · rw [hU] at h; cases h
      rw [hU] at h
      injection h with h
      subst h
      obtain ⟨g, cap, rfl, hg0, hg1, hat⟩ := ht.at (by simp)
      obtain ⟨v1, _, a1⟩ := hat 1 (by simp)
      have c12 : w6.cell? ⟨g, 10, none⟩ = some (.int .i64 123) := a1 2 (by omega)
      obtain ⟨N, hN⟩ : ∃ N, ([((0 : Int), Lx.runeT 120), (1, Lx.runeT 123)] ++ U).length = N := ⟨_, rfl⟩
      have hN4 : 4 < N := by rw [← hN]; simp; omega
      have hN4i : (4 : Int) < (N : Int) := by omega
      have hN1i : (1 : Int) < (N : Int) := by omega
      rw [hN]
      clear hN ht hat a1 hTl hU hUl
      by_cases hx9 : 9999 < x
      · have hx9i : (9999 : Int) < (x : Int) := by omega
        clear hbig
        go_wp2
        go_ret
        exact ⟨rfl, HB6.out⟩
      · have hx9i : ¬ (9999 : Int) < (x : Int) := by omega
        have hy9i : (9999 : Int) < (y : Int) := by omega
        clear hbig
        go_wp2
        go_ret
        exact ⟨rfl, HB6.out⟩
    · rcases h6 with ⟨o, c, h, rfl⟩ | ⟨T, v, h, _⟩
      · rw [hU] at h
        injection h with h1 h2
        subst h1
        subst h2
        have hx9i : ¬ (9999 : Int) < (x : Int) := by omega
        have hy9i : ¬ (9999 : Int) < (y : Int) := by omega
        by_cases g1 : 1000 < x
        · have g1i : (1000 : Int) < (x : Int) := by omega
          clear n3 hU
          go_wp2
          go_ret
          exact ⟨rfl, HB6.out⟩
        · have g1i : ¬ (1000 : Int) < (x : Int) := by omega
          by_cases g2 : 1000 < y
          · have g2i : (1000 : Int) < (y : Int) := by omega
            clear n3 hU
            go_wp2
            go_ret
            exact ⟨rfl, HB6.out⟩
          · have g2i : ¬ (1000 : Int) < (y : Int) := by omega
            have g3i : (y : Int) < (x : Int) := by omega
            clear n3 hU
            go_wp2
            go_ret
            exact ⟨rfl, HB6.out⟩
      · rw [hU] at h; cases h
    · rcases h6 with ⟨o, c, h, _⟩ | ⟨T, v, h, rfl, ht, hTl⟩
      · rw [hU] at h; cases h
      rw [hU] at h
      injection h with h
      subst h
      obtain ⟨g, cap, rfl, hg0, hg1, hat⟩ := ht.at (by simp)
      obtain ⟨v1, _, a1⟩ := hat 1 (by simp)
      have c14 : w6.cell? ⟨g, 12, none⟩ = some (.int .i64 (x : Int)) := a1 4 (by omega)
      have c15 : w6.cell? ⟨g, 13, none⟩ = some (.int .i64 (y : Int)) := a1 5 (by omega)
      have c16 : w6.cell? ⟨g, 14, none⟩ = some (.bool false) := a1 6 (by omega)
      have hx9i : ¬ (9999 : Int) < (x : Int) := by omega
      have hy9i : ¬ (9999 : Int) < (y : Int) := by omega
      have g1i : ¬ (1000 : Int) < (x : Int) := by omega
      have g2i : ¬ (1000 : Int) < (y : Int) := by omega
      have g3i : ¬ (y : Int) < (x : Int) := by omega
      rw [show ([((0 : Int), Lx.runeT 120), (1, { kind := 8, mn := (x : Int), mx := (y : Int), lazy := false })] : List (Int × Tk)).length = 2 from rfl]
      clear ht hat a1 hTl hU
      go_wp2
      go_ret
      exact ⟨rfl, HB6.out⟩
  · have r5 : ¬ 9223372036854775807 < 2 + (f x).size + 1 + (f y).size + 1 + 1 := by omega
    go_wp2_with fail
    refine (HXC.out _).mono ?_
    rintro e w4 ⟨rfl, hb4⟩
    have HB4 := Lib.hid (HB1.out.trans (hb4.mono HB1.out.size))
    clear hb4
    go_wp2_with fail
    refine (HYC.out _).mono ?_
    rintro e w5 ⟨rfl, hb5⟩
    have HB5 := Lib.hid (HB4.out.trans (hb5.mono HB4.out.size))
    clear hb5
    have hbr := HBR.out ⟨#[63]⟩ rfl
    have hlx := lex_any w5 (⟨#[120, 123]⟩ ++ f x ++ ⟨#[44]⟩ ++ f y ++ ⟨#[125]⟩ ++ ⟨#[63]⟩) (by rw [braces_size, show (⟨#[63]⟩ : ByteArray).size = 1 from rfl]; omega) (HE.out.below (Nat.le_refl _) HB5.out)
    obtain ⟨R, hR⟩ : ∃ R, Lx.lexR (⟨#[120, 123]⟩ ++ f x ++ ⟨#[44]⟩ ++ f y ++ ⟨#[125]⟩ ++ ⟨#[63]⟩) 0 false [] = R := ⟨_, rfl⟩
    rw [hR] at hbr hlx
    have HLX := Lib.hid hlx
    clear hlx hR HBR
    go_wp2_with fail
    refine HLX.out.mono ?_
    clear HLX r1 r2 r3 r4
    rintro e w6 ⟨hb6, h6⟩
    have HB6 := Lib.hid (HB5.out.trans (hb6.mono HB5.out.size))
    clear hb6
    rcases hbr with ⟨hbig, U, hU, hUl⟩ | ⟨n1, n2, n3, hU⟩ | ⟨n1, n2, n3, n4, n5, hU⟩
    · rcases h6 with ⟨o, c, h, _⟩ | ⟨T, v, h, rfl, ht, hTl⟩
      · rw [hU] at h; cases h
      rw [hU] at h
      injection h with h
      subst h
      obtain ⟨g, cap, rfl, hg0, hg1, hat⟩ := ht.at (by simp)
      obtain ⟨v1, _, a1⟩ := hat 1 (by simp)
      have c12 : w6.cell? ⟨g, 10, none⟩ = some (.int .i64 123) := a1 2 (by omega)
      obtain ⟨N, hN⟩ : ∃ N, ([((0 : Int), Lx.runeT 120), (1, Lx.runeT 123)] ++ U).length = N := ⟨_, rfl⟩
      have hN4 : 4 < N := by rw [← hN]; simp; omega
      have hN4i : (4 : Int) < (N : Int) := by omega
      have hN1i : (1 : Int) < (N : Int) := by omega
      rw [hN]
      clear hN ht hat a1 hTl hU hUl
      by_cases hx9 : 9999 < x
      · have hx9i : (9999 : Int) < (x : Int) := by omega
        clear hbig
        go_wp2
        go_ret
        exact ⟨rfl, HB6.out⟩
      · have hx9i : ¬ (9999 : Int) < (x : Int) := by omega
        have hy9i : (9999 : Int) < (y : Int) := by omega
        clear hbig
        go_wp2
        go_ret
        exact ⟨rfl, HB6.out⟩
    · rcases h6 with ⟨o, c, h, rfl⟩ | ⟨T, v, h, _⟩
      · rw [hU] at h
        injection h with h1 h2
        subst h1
        subst h2
        have hx9i : ¬ (9999 : Int) < (x : Int) := by omega
        have hy9i : ¬ (9999 : Int) < (y : Int) := by omega
        by_cases g1 : 1000 < x
        · have g1i : (1000 : Int) < (x : Int) := by omega
          clear n3 hU
          go_wp2
          go_ret
          exact ⟨rfl, HB6.out⟩
        · have g1i : ¬ (1000 : Int) < (x : Int) := by omega
          by_cases g2 : 1000 < y
          · have g2i : (1000 : Int) < (y : Int) := by omega
            clear n3 hU
            go_wp2
            go_ret
            exact ⟨rfl, HB6.out⟩
          · have g2i : ¬ (1000 : Int) < (y : Int) := by omega
            have g3i : (y : Int) < (x : Int) := by omega
            clear n3 hU
            go_wp2
            go_ret
            exact ⟨rfl, HB6.out⟩
      · rw [hU] at h; cases h
    · rcases h6 with ⟨o, c, h, _⟩ | ⟨T, v, h, rfl, ht, hTl⟩
      · rw [hU] at h; cases h
      rw [hU] at h
      injection h with h
      subst h
      obtain ⟨g, cap, rfl, hg0, hg1, hat⟩ := ht.at (by simp)
      obtain ⟨v1, _, a1⟩ := hat 1 (by simp)
      have c14 : w6.cell? ⟨g, 12, none⟩ = some (.int .i64 (x : Int)) := a1 4 (by omega)
      have c15 : w6.cell? ⟨g, 13, none⟩ = some (.int .i64 (y : Int)) := a1 5 (by omega)
      have c16 : w6.cell? ⟨g, 14, none⟩ = some (.bool true) := a1 6 (by omega)
      have hx9i : ¬ (9999 : Int) < (x : Int) := by omega
      have hy9i : ¬ (9999 : Int) < (y : Int) := by omega
      have g1i : ¬ (1000 : Int) < (x : Int) := by omega
      have g2i : ¬ (1000 : Int) < (y : Int) := by omega
      have g3i : ¬ (y : Int) < (x : Int) := by omega
      rw [show ([((0 : Int), Lx.runeT 120), (1, { kind := 8, mn := (x : Int), mx := (y : Int), lazy := true })] : List (Int × Tk)).length = 2 from rfl]
      clear ht hat a1 hTl hU
      go_wp2
      go_ret
      exact ⟨rfl, HB6.out⟩
end Go.Proofs.YtecclhmjmceheaaGreatDoor
