/- Mathematics of bracket: a set written as its numbers; runes between brackets. · burinlaw07.hex: a number from 0 on in hexadecimal digits. -/
import Derived.Test.YtcomjkoaieeidaaGreatDoorGp29
import Derived.Test.YtcomjkoaieeidaaGreatDoorGp31
import Derived.IntWalk
import Derived.Test.YtcomjkoaieeidaaGreatDoorGp7
namespace Go.Proofs.YtcomjkoaieeidaaGreatDoor.Br
open Go.Proofs.YtcomjkoaieeidaaGreatDoor.Rg
set_option linter.unusedVariables false
/-- A digit's sign. -/
def hd (d : Nat) : Int := if d < 10 then 48 + d else 87 + d
def hexL (n : Nat) : List Int := if h : n < 16 then [hd n] else hexL (n / 16) ++ [hd (n % 16)]
termination_by n
decreasing_by omega
theorem hexL_small {n : Nat} (h : n < 16) : hexL n = [hd n] := by rw [hexL, dif_pos h]
theorem hexL_big {n : Nat} (h : ¬ n < 16) : hexL n = hexL (n / 16) ++ [hd (n % 16)] := by rw [hexL, dif_neg h]
theorem dig_hd {d : Nat} (h : d < 16) : dig (hd d) = d := by
  unfold hd
  split
  · unfold dig; rw [if_pos (by omega)]; omega
  · unfold dig; rw [if_neg (by omega), if_pos (by omega)]; omega
theorem hd_bd {d : Nat} (h : d < 16) : 48 ≤ hd d ∧ hd d ≤ 102 := by unfold hd; split <;> omega
theorem hexL_all (n : Nat) : ∀ x ∈ hexL n, 0 ≤ dig x ∧ 48 ≤ x ∧ x ≤ 102 := by
  induction n using Nat.strongRecOn with
  | _ n ih =>
    by_cases h : n < 16
    · rw [hexL_small h]
      intro x hx
      rw [List.mem_singleton] at hx
      subst hx
      exact ⟨by rw [dig_hd h]; omega, hd_bd h⟩
    · rw [hexL_big h]
      intro x hx
      rcases List.mem_append.1 hx with hx | hx
      · exact ih _ (by omega) x hx
      · rw [List.mem_singleton] at hx
        subst hx
        exact ⟨by rw [dig_hd (by omega)]; omega, hd_bd (by omega)⟩
theorem hexL_val (n : Nat) : (hexL n).foldl (fun a x => a * 16 + dig x) 0 = n := by
  induction n using Nat.strongRecOn with
  | _ n ih =>
    by_cases h : n < 16
    · rw [hexL_small h]
      show 0 * 16 + dig (hd n) = n
      rw [dig_hd h]; omega
    · rw [hexL_big h, List.foldl_append, ih _ (by omega)]
      show ((n / 16 : Nat) : Int) * 16 + dig (hd (n % 16)) = n
      rw [dig_hd (by omega)]; omega
theorem hexL_len : ∀ (k n : Nat), n < 16 ^ (k + 1) → 1 ≤ (hexL n).length ∧ (hexL n).length ≤ k + 1
  | 0, n, h => by rw [hexL_small (by simpa using h)]; simp
  | k + 1, n, h => by
    by_cases hn : n < 16
    · rw [hexL_small hn]; simp
    · rw [hexL_big hn]
      have := hexL_len k (n / 16) (by rw [Nat.pow_succ] at h; omega)
      simp; omega
theorem hexL6 {n : Nat} (h : n ≤ 1114111) : 1 ≤ (hexL n).length ∧ (hexL n).length ≤ 6 := hexL_len 5 n (by omega)
/-- A number written as an escape. -/
def esc (n : Nat) : List Int := 92 :: 120 :: 123 :: (hexL n ++ [125])
theorem esc_len (n : Nat) : (esc n).length = (hexL n).length + 4 := by unfold esc; simp
theorem num_esc {n : Nat} (h : n ≤ 1114111) (t : List Int) : num (esc n ++ t) = ((n : Int), ((esc n).length : Int), 0) := by
  have h6 := hexL6 h
  have hl := esc_len n
  have e : esc n ++ t = 92 :: 120 :: 123 :: (hexL n ++ 125 :: t) := by unfold esc; simp
  rw [e]
  unfold num
  rw [if_neg (by simp), if_neg (by simp), if_neg (by simp), if_pos (by simp)]
  unfold braced
  dsimp only
  have hd3 : (92 :: 120 :: 123 :: (hexL n ++ 125 :: t)).drop 3 = hexL n ++ 125 :: t := rfl
  rw [hd3]
  have hc : cnt (hexL n ++ 125 :: t) 6 = (hexL n).length := cnt_ends _ _ _ h6.2 (by simp) (fun j hj => by
    rw [List.getElem?_append_left hj, List.getElem?_eq_getElem hj]
    exact (hexL_all n _ (List.getElem_mem hj)).1) (.inr (.inr (by rw [List.getElem?_append_right (Nat.le_refl _), Nat.sub_self]; show dig 125 < 0; decide)))
  have hv : val (hexL n ++ 125 :: t) (hexL n).length = n := by
    unfold val
    rw [List.take_append_of_le_length (Nat.le_refl _), List.take_length]
    exact hexL_val n
  have hk : (92 :: 120 :: 123 :: (hexL n ++ 125 :: t))[3 + (hexL n).length]?.getD 0 = 125 := by
    rw [show 3 + (hexL n).length = (hexL n).length + 1 + 1 + 1 by omega]
    simp
  rw [hc, hv, hk, if_neg (by simp; omega), if_neg (by omega), hl]
  simp
theorem set_esc {s : ByteArray} {t : List Int} (h : Utf.nums s = 92 :: 120 :: t) : set s = (none, 0, 5) := by
  unfold set
  dsimp only
  rw [h, if_neg (by simp), if_neg (by simp), if_neg (by simp), if_neg (by simp)]
  rfl
theorem one_esc {n : Nat} (h : n ≤ 1114111) (t : List Int) : one (esc n ++ t) = ((n : Int), ((esc n).length : Int), 0) := by
  unfold one
  rw [if_pos (by unfold esc; simp)]
  exact num_esc h t
/-- A range written. -/
def wr (p : Int × Int) : List Int := esc p.1.toNat ++ 45 :: esc p.2.toNat
theorem wr_len (p : Int × Int) : (wr p).length = (esc p.1.toNat).length + 1 + (esc p.2.toNat).length := by unfold wr; simp; omega
theorem drop_len {α : Type} (x y : List α) {l : List α} {at_ : Nat} (h : l.drop at_ = x ++ y) : l.drop (at_ + x.length) = y := by
  rw [← List.drop_drop, h]; simp
theorem item_wr {s : ByteArray} {at_ : Nat} {p : Int × Int} {t : List Int} (h0 : 0 ≤ p.1) (h1 : p.1 ≤ p.2) (h2 : p.2 ≤ 1114111) (h : (Utf.nums s).drop at_ = wr p ++ t) : item s at_ = .ok (.rng p.1 p.2) (at_ + (wr p).length) := by
  obtain ⟨lo, hi⟩ := p
  dsimp only at h0 h1 h2
  obtain ⟨a, rfl⟩ : ∃ a : Nat, lo = a := ⟨lo.toNat, by omega⟩
  obtain ⟨b, rfl⟩ : ∃ b : Nat, hi = b := ⟨hi.toNat, by omega⟩
  have hw : wr ((a : Int), (b : Int)) = esc a ++ 45 :: esc b := rfl
  have e : (Utf.nums s).drop at_ = esc a ++ 45 :: (esc b ++ t) := by rw [h, hw]; simp
  have e2 : (Utf.nums s).drop (at_ + (esc a).length) = 45 :: (esc b ++ t) := drop_len _ _ e
  have e3 : (Utf.nums s).drop (at_ + (esc a).length + 1) = esc b ++ t := by rw [← List.drop_drop, e2]; rfl
  have s1 : set (s.extract at_ s.size) = (none, 0, 5) := set_esc (t := 123 :: (hexL a ++ [125]) ++ 45 :: (esc b ++ t)) (by rw [nums_tail, e]; unfold esc; simp)
  have s2 : set (s.extract (at_ + (esc a).length + 1) s.size) = (none, 0, 5) := set_esc (t := 123 :: (hexL b ++ [125]) ++ t) (by rw [nums_tail, e3]; unfold esc; simp)
  have o1 := one_esc (n := a) (by omega) (45 :: (esc b ++ t))
  have o2 := one_esc (n := b) (by omega) t
  unfold item
  dsimp only
  rw [e, if_neg (by unfold esc; simp), s1, if_neg (by decide), if_neg (by decide)]
  unfold span
  dsimp only
  rw [e, o1, if_neg (by simp)]
  dsimp only
  rw [Int.toNat_natCast, e2, if_neg (by unfold goesOn esc; simp), s2, if_neg (by decide), e3, o2, if_neg (by simp), if_neg (by dsimp only; omega)]
  rw [wr_len]
  dsimp only
  simp only [Int.toNat_natCast, Nat.add_assoc]
theorem items_wr (s : ByteArray) (fs : Nat) (t : List Int) : ∀ (L : List (Int × Int)) (at_ : Nat) (Xs : List It), (∀ p ∈ L, 0 ≤ p.1 ∧ p.1 ≤ p.2 ∧ p.2 ≤ 1114111) → (L ≠ [] ∨ fs < at_) → fs ≤ at_ → (Utf.nums s).drop at_ = L.flatMap wr ++ 93 :: t → rest s fs at_ Xs = .ok (Xs ++ L.map fun p => .rng p.1 p.2) (at_ + (L.flatMap wr).length)
  | [], at_, Xs, hL, hf, hfs, h => by
    have hl : at_ < s.size := by
      have := congrArg List.length h
      rw [List.length_drop, nums_len] at this
      simp at this; omega
    have h93 : (Utf.nums s)[at_]?.getD 0 = 93 := by
      have : ((Utf.nums s).drop at_)[0]? = some 93 := by rw [h]; rfl
      rw [List.getElem?_drop, Nat.add_zero] at this
      rw [this]; rfl
    rw [rest_close hl h93 (by rcases hf with hf | hf; exact absurd rfl hf; exact hf)]
    simp
  | p :: L, at_, Xs, hL, hf, hfs, h => by
    have e : (Utf.nums s).drop at_ = wr p ++ (L.flatMap wr ++ 93 :: t) := by rw [h]; simp
    have hl : at_ < s.size := by
      have := congrArg List.length h
      rw [List.length_drop, nums_len] at this
      simp at this; omega
    have h92 : (Utf.nums s)[at_]?.getD 0 = 92 := by
      have : ((Utf.nums s).drop at_)[0]? = some 92 := by rw [e]; rfl
      rw [List.getElem?_drop, Nat.add_zero] at this
      rw [this]; rfl
    obtain ⟨h0, h1, h2⟩ := hL p (by simp)
    have hp : 0 < (wr p).length := by rw [wr_len]; omega
    rw [rest_step hl (by omega) (item_wr h0 h1 h2 e), items_wr s fs t L _ _ (fun q hq => hL q (by simp [hq])) (.inr (by omega)) (by omega) (drop_len _ _ e)]
    simp [Nat.add_assoc]
theorem itsIs_rng : ∀ (L : List (Int × Int)) (Xs : List It) (M : List R), ItsIs Xs M → ItsIs (Xs ++ L.map fun p => .rng p.1 p.2) (M ++ L)
  | [], Xs, M, h => by simpa using h
  | p :: L, Xs, M, h => by
    have := itsIs_rng L (Xs ++ [.rng p.1 p.2]) (M ++ [p]) (.snoc h (show ItIs (.rng p.1 p.2) [p] from rfl))
    simpa using this
/-- A set that is written between brackets. -/
theorem brack_wr {s : ByteArray} {L : List (Int × Int)} {t : List Int} (hn : L ≠ []) (hL : ∀ p ∈ L, 0 ≤ p.1 ∧ p.1 ≤ p.2 ∧ p.2 ≤ 1114111) (h : Utf.nums s = 91 :: (L.flatMap wr ++ 93 :: t)) : brack s = .ok (L.map fun p => .rng p.1 p.2) (1 + (L.flatMap wr).length) ∧ first (Utf.nums s) = 1 := by
  have hf : first (Utf.nums s) = 1 := by
    cases L with
    | nil => exact absurd rfl hn
    | cons p L => unfold first; rw [h]; rfl
  refine ⟨?_, hf⟩
  rw [brack_yes (by rw [h]; rfl), hf, items_wr s 1 t L 1 [] hL (.inl hn) (Nat.le_refl _) (by rw [h]; rfl)]
  simp
theorem brack_wrn {s : ByteArray} {L : List (Int × Int)} {t : List Int} (hn : L ≠ []) (hL : ∀ p ∈ L, 0 ≤ p.1 ∧ p.1 ≤ p.2 ∧ p.2 ≤ 1114111) (h : Utf.nums s = 91 :: 94 :: (L.flatMap wr ++ 93 :: t)) : brack s = .ok (L.map fun p => .rng p.1 p.2) (2 + (L.flatMap wr).length) ∧ first (Utf.nums s) = 2 := by
  have hf : first (Utf.nums s) = 2 := by unfold first; rw [h]; rfl
  refine ⟨?_, hf⟩
  rw [brack_yes (by rw [h]; rfl), hf, items_wr s 2 t L 2 [] hL (.inl hn) (Nat.le_refl _) (by rw [h]; rfl)]
  simp
/-- The first byte of a rune. -/
theorem enc_first {r : Int} (hw : Utf.width r ≠ 0) : ∃ x t, Utf.encN r = x :: t ∧ ∀ c, 0 ≤ c → c ≤ 127 → (x = c ↔ r = c) := by
  have hl := Utf.encN_length r
  have hd := Utf.dec_enc r hw []
  rcases Utf.width_cases r with ⟨h, _⟩ | ⟨h, h1, h2⟩ | ⟨h, h1, h2⟩ | ⟨h, h1⟩ | ⟨h, h1⟩
  · exact absurd h hw
  · refine ⟨r, [], by simp [Utf.encN, h], fun c _ _ => Iff.rfl⟩
  all_goals
    cases he : Utf.encN r with
    | nil => rw [he] at hl; simp at hl; omega
    | cons x t =>
      refine ⟨x, t, rfl, fun c c0 c1 => ⟨fun e => ?_, fun e => ?_⟩⟩
      · subst e
        have hx := congrArg (fun l => l[0]?.getD 0) he
        simp [Utf.encN, h] at hx
        omega
      · omega
theorem set_not {s : ByteArray} (h : (Utf.nums s)[0]?.getD 0 ≠ 92) : set s = (none, 0, 3) := by unfold set; dsimp only; rw [if_pos h]
theorem one_enc {r : Int} (hw : Utf.width r ≠ 0) (h92 : r ≠ 92) (t : List Int) : one (Utf.encN r ++ t) = (r, Utf.width r, 0) := by
  obtain ⟨x, u, he, hx⟩ := enc_first hw
  have hd := Utf.dec_enc r hw t
  have h0 : 0 ≤ r := by
    rcases Int.lt_or_le r 0 with h | h
    · exact absurd (Utf.width_neg r h) hw
    · exact h
  have hne : ¬ (Utf.encN r ++ t)[0]?.getD 0 = 92 := by
    rw [he]; simp; intro e; exact h92 ((hx 92 (by omega) (by omega)).1 e)
  unfold one
  rw [if_neg hne, hd, if_neg (by dsimp only; omega)]
/-- One rune between brackets. -/
theorem brack_one {s : ByteArray} {a : Int} (ha : Utf.width a ≠ 0) (h1 : a ≠ 94) (h2 : a ≠ 92) (h3 : a ≠ 91) (h : Utf.nums s = 91 :: (Utf.encN a ++ [93])) : brack s = .ok [.rng a a] (1 + (Utf.encN a).length) ∧ first (Utf.nums s) = 1 := by
  obtain ⟨x, u, he, hx⟩ := enc_first ha
  have hl := Utf.encN_length a
  have hwb := Utf.width_le a
  have hf : first (Utf.nums s) = 1 := by
    unfold first
    rw [h, he, if_neg]
    simp; intro e; exact h1 ((hx 94 (by omega) (by omega)).1 e)
  have hsz : s.size = (Utf.encN a).length + 2 := by rw [← nums_len, h]; simp
  have d1 : (Utf.nums s).drop 1 = Utf.encN a ++ [93] := by rw [h]; rfl
  have d2 : (Utf.nums s).drop (1 + (Utf.encN a).length) = [93] := drop_len _ _ d1
  have h0 : ((Utf.nums s).drop 1)[0]?.getD 0 = x := by rw [d1, he]; rfl
  have hi : item s 1 = .ok (.rng a a) (1 + (Utf.encN a).length) := by
    have hs : set (s.extract 1 s.size) = (none, 0, 3) := set_not (by rw [nums_tail, h0]; intro e; exact h2 ((hx 92 (by omega) (by omega)).1 e))
    have ho := one_enc ha h2 [93]
    unfold item
    dsimp only
    rw [hs, if_neg (by rintro ⟨e, _⟩; rw [e] at h0; exact h3 ((hx 91 (by omega) (by omega)).1 h0.symm)), if_neg (by decide), if_neg (by decide)]
    unfold span
    dsimp only
    rw [d1, ho, if_neg (by simp)]
    dsimp only
    rw [show (Utf.width a).toNat = (Utf.encN a).length by omega, d2, if_pos (by decide)]
  refine ⟨?_, hf⟩
  have h93 : (Utf.nums s)[1 + (Utf.encN a).length]?.getD 0 = 93 := by
    have : ((Utf.nums s).drop (1 + (Utf.encN a).length))[0]? = some 93 := by rw [d2]; rfl
    rw [List.getElem?_drop, Nat.add_zero] at this
    rw [this]; rfl
  rw [brack_yes (by rw [h]; rfl), hf, rest_step (by omega) (by omega) hi, rest_close (by omega) h93 (by omega)]
  rfl
/-- Two runes with a hyphen between brackets. -/
theorem brack_two {s : ByteArray} {a b : Int} (ha : Utf.width a ≠ 0) (hb : Utf.width b ≠ 0) (h1 : a ≠ 94) (h2 : a ≠ 92) (h3 : a ≠ 91) (h4 : b ≠ 92) (h5 : b ≠ 93) (h : Utf.nums s = 91 :: (Utf.encN a ++ 45 :: (Utf.encN b ++ [93]))) :
    first (Utf.nums s) = 1 ∧ (b < a → brack s = .bad 1 70) ∧ (¬ b < a → brack s = .ok [.rng a b] (2 + (Utf.encN a).length + (Utf.encN b).length)) := by
  obtain ⟨x, u, he, hx⟩ := enc_first ha
  obtain ⟨y, v, hy, hz⟩ := enc_first hb
  have hl := Utf.encN_length a
  have hlb := Utf.encN_length b
  have hwb := Utf.width_le b
  have hwa := Utf.width_le a
  have hf : first (Utf.nums s) = 1 := by
    unfold first
    rw [h, he, if_neg]
    simp; intro e; exact h1 ((hx 94 (by omega) (by omega)).1 e)
  have hsz : s.size = (Utf.encN a).length + (Utf.encN b).length + 3 := by rw [← nums_len, h]; simp; omega
  have d1 : (Utf.nums s).drop 1 = Utf.encN a ++ 45 :: (Utf.encN b ++ [93]) := by rw [h]; rfl
  have d2 : (Utf.nums s).drop (1 + (Utf.encN a).length) = 45 :: (Utf.encN b ++ [93]) := drop_len _ _ d1
  have d3 : (Utf.nums s).drop (1 + (Utf.encN a).length + 1) = Utf.encN b ++ [93] := by rw [← List.drop_drop, d2]; rfl
  have d4 : (Utf.nums s).drop (1 + (Utf.encN a).length + 1 + (Utf.encN b).length) = [93] := drop_len _ _ d3
  have h0 : ((Utf.nums s).drop 1)[0]?.getD 0 = x := by rw [d1, he]; rfl
  have hy0 : ((Utf.nums s).drop (1 + (Utf.encN a).length + 1))[0]?.getD 0 = y := by rw [d3, hy]; rfl
  have hi : item s 1 = if b < a then .bad 1 70 else .ok (.rng a b) (1 + (Utf.encN a).length + 1 + (Utf.encN b).length) := by
    have hs : set (s.extract 1 s.size) = (none, 0, 3) := set_not (by rw [nums_tail, h0]; intro e; exact h2 ((hx 92 (by omega) (by omega)).1 e))
    have hs2 : set (s.extract (1 + (Utf.encN a).length + 1) s.size) = (none, 0, 3) := set_not (by rw [nums_tail, hy0]; intro e; exact h4 ((hz 92 (by omega) (by omega)).1 e))
    have ho := one_enc ha h2 (45 :: (Utf.encN b ++ [93]))
    have ho2 := one_enc hb h4 [93]
    have hg : goesOn (45 :: (Utf.encN b ++ [93])) = true := by
      unfold goesOn
      rw [hy]
      simp
      intro e; exact h5 ((hz 93 (by omega) (by omega)).1 e)
    unfold item
    dsimp only
    rw [hs, if_neg (by rintro ⟨e, _⟩; rw [e] at h0; exact h3 ((hx 91 (by omega) (by omega)).1 h0.symm)), if_neg (by decide), if_neg (by decide)]
    unfold span
    dsimp only
    rw [d1, ho, if_neg (by simp)]
    dsimp only
    rw [show (Utf.width a).toNat = (Utf.encN a).length by omega, d2, hg, if_neg (by decide), hs2, if_neg (by decide), d3, ho2, if_neg (by simp)]
    dsimp only
    rw [show (Utf.width b).toNat = (Utf.encN b).length by omega]
    rfl
  refine ⟨hf, fun hlt => ?_, fun hge => ?_⟩
  · rw [if_pos hlt] at hi
    rw [brack_yes (by rw [h]; rfl), hf, rest_bad (by omega) (by omega) hi]
  · rw [if_neg hge] at hi
    have h93 : (Utf.nums s)[1 + (Utf.encN a).length + 1 + (Utf.encN b).length]?.getD 0 = 93 := by
      have : ((Utf.nums s).drop (1 + (Utf.encN a).length + 1 + (Utf.encN b).length))[0]? = some 93 := by rw [d4]; rfl
      rw [List.getElem?_drop, Nat.add_zero] at this
      rw [this]; rfl
    rw [brack_yes (by rw [h]; rfl), hf, rest_step (by omega) (by omega) hi, rest_close (by omega) h93 (by omega)]
    congr 1; omega
end Go.Proofs.YtcomjkoaieeidaaGreatDoor.Br
namespace Go.Proofs.YtcomjkoaieeidaaGreatDoor
open Go.RowKit
set_option linter.unusedVariables false
namespace Br
/-- The digits ahead of the last one. -/
def hexP (n : Nat) : List Int := if n = 0 then [] else hexL n
theorem hexL_step (n : Nat) : hexL n = hexP (n / 16) ++ [hd (n % 16)] := by
  unfold hexP
  by_cases h : n < 16
  · rw [hexL_small h, if_pos (by omega), show n % 16 = n by omega]; rfl
  · rw [hexL_big h, if_neg (by omega)]
theorem hexP_step {n : Nat} (h : n ≠ 0) : hexP n = hexP (n / 16) ++ [hd (n % 16)] := by
  rw [show hexP n = hexL n from if_neg h]; exact hexL_step n
def digs : ByteArray := ⟨#[48, 49, 50, 51, 52, 53, 54, 55, 56, 57, 97, 98, 99, 100, 101, 102]⟩
theorem digs_tab : (List.range 16).map (fun k => Utf.nums (digs.extract k (k + 1))) = (List.range 16).map (fun k => [hd k]) := by kernel_rfl
theorem digs_at (k : Nat) (h : k < 16) : Utf.nums (digs.extract k (k + 1)) = [hd k] := by
  have := congrArg (fun l => l[k]?) digs_tab
  simpa [h] using this
theorem digs_size (k : Nat) (h : k < 16) : (digs.extract k (k + 1)).size = 1 := by rw [ByteArray.size_extract]; show min (k + 1) 16 - k = 1; omega
end Br
set_option maxRecDepth 100000 in
set_option maxHeartbeats 4000000 in
theorem hex7_any (W : World) (n : Nat) (hn : n ≤ 1114111) : Calls Tryz.prog 18 #[.int .i64 (n : Int)] W fun e w' => ∃ T : ByteArray, e = .returned (.string T) ∧ Utf.nums T = Br.hexL n ∧ W = w' := by
  obtain ⟨d, hd⟩ : ∃ d, (⟨#[48, 49, 50, 51, 52, 53, 54, 55, 56, 57, 97, 98, 99, 100, 101, 102]⟩ : ByteArray) = d := ⟨_, rfl⟩
  have hds : d.size = 16 := by rw [← hd]; rfl
  have HDA : Hid (∀ k, k < 16 → Utf.nums (d.extract k (k + 1)) = [Br.hd k]) := Lib.hid (by rw [← hd]; exact Br.digs_at)
  have m1 : (n : Int).tmod 16 = ((n % 16 : Nat) : Int) := by rw [Int.tmod_eq_emod_of_nonneg (by omega)]; omega
  have q1 : (n : Int).tdiv 16 = ((n / 16 : Nat) : Int) := by rw [Int.tdiv_eq_ediv_of_nonneg (by omega)]; omega
  obtain ⟨a, ha⟩ : ∃ a, n % 16 = a := ⟨_, rfl⟩
  obtain ⟨q, hq⟩ : ∃ q, n / 16 = q := ⟨_, rfl⟩
  have HL : Hid (Br.hexL n = Br.hexP q ++ [Br.hd a]) := Lib.hid (by rw [← ha, ← hq]; exact Br.hexL_step n)
  have a16 : a < 16 := by omega
  have q9 : q ≤ 69632 := by omega
  rw [ha] at m1
  rw [hq] at q1
  have a0 : (0 : Int) ≤ (a : Int) := by omega
  have a1 : (a : Int) + 1 ≤ 16 := by omega
  have a2 : ((a : Int) + 1).toNat = a + 1 := by omega
  have es : (d.extract a (a + 1)).size = 1 := by rw [ByteArray.size_extract]; omega
  go_enter Tryz.func18, Tryz.ntmps18
  rw [hd]
  clear hd ha hq
  go_wp2
  go_loop [0, 4] (fun N S => ∃ (k : Nat) (T : ByteArray), k ≤ q ∧ N = .int .i64 (k : Int) ∧ S = .string T ∧ Hid (Br.hexP k ++ Utf.nums T = Br.hexL n) ∧ T.size + k ≤ 1 + q) (fun N _ => (intOf N).toNat)
  case atStart => exact ⟨q, _, Nat.le_refl _, rfl, rfl, Lib.hid (by rw [HDA.out a a16, HL.out]), by omega⟩
  case round =>
    obtain ⟨k, T, hk, rfl, rfl, HT, hts⟩ := hrel
    by_cases h0 : 0 < k
    · have k1 : (0 : Int) < (k : Int) := by omega
      have m2 : (k : Int).tmod 16 = ((k % 16 : Nat) : Int) := by rw [Int.tmod_eq_emod_of_nonneg (by omega)]; omega
      have q2 : (k : Int).tdiv 16 = ((k / 16 : Nat) : Int) := by rw [Int.tdiv_eq_ediv_of_nonneg (by omega)]; omega
      have HS := Lib.hid (Br.hexP_step (n := k) (by omega))
      obtain ⟨b, hb⟩ : ∃ b, k % 16 = b := ⟨_, rfl⟩
      obtain ⟨r, hr⟩ : ∃ r, k / 16 = r := ⟨_, rfl⟩
      have hrk : r < k := by omega
      have b16 : b < 16 := by omega
      rw [hb] at m2 HS
      rw [hr] at q2 HS
      have b0 : (0 : Int) ≤ (b : Int) := by omega
      have b1 : (b : Int) + 1 ≤ 16 := by omega
      have b2 : ((b : Int) + 1).toNat = b + 1 := by omega
      have fs : (d.extract b (b + 1)).size = 1 := by rw [ByteArray.size_extract]; omega
      clear hb hr
      go_wp2
      go_round
      case rel => exact ⟨r, _, by omega, by go_num, rfl, Lib.hid (by rw [nums_append, HDA.out b b16, ← List.append_assoc, ← HS.out]; exact HT.out), by rw [ByteArray.size_append, fs]; omega⟩
      case measure => simp [intOf]; omega
    · obtain rfl : k = 0 := by omega
      go_wp2
      go_ret
      exact ⟨_, rfl, (by have := HT.out; rwa [show Br.hexP 0 = [] from rfl, List.nil_append] at this), rfl⟩
theorem hexL_bytes (n : Nat) : Utf.Bytes (Br.hexL n) := fun x hx => by have := Br.hexL_all n x hx; omega
theorem hex7_fun : ∃ f : Nat → ByteArray, ∀ k, k ≤ 1114111 → Utf.nums (f k) = Br.hexL k ∧ (f k).size ≤ 6 ∧ ∀ W, Calls Tryz.prog 18 #[.int .i64 (k : Int)] W fun e w' => e = .returned (.string (f k)) ∧ W = w' := by
  refine ⟨fun k => strOfNums (Br.hexL k), fun n hn => ?_⟩
  have hx : Utf.nums (strOfNums (Br.hexL n)) = Br.hexL n := nums_strOf _ (hexL_bytes n)
  refine ⟨hx, by have := (Br.hexL6 hn).2; rw [size_strOf]; exact this, fun W => (hex7_any W n hn).mono ?_⟩
  rintro e w' ⟨T, rfl, hT, h⟩
  exact ⟨by rw [Br.nums_inj' (hT.trans hx.symm)], h⟩
end Go.Proofs.YtcomjkoaieeidaaGreatDoor
