/- The plain mathematics of bands: how a range of runes of one width is split; no program. · The landed bands: masks of the lowest bits of an int, and the splitting of numbers by them; no program. · The landed bands: where a range is split (border, widest), for two runes. -/
import Derived.Test.YtfopcgbfbedcjaaGp4
import Derived.Test.YtfopcgbfbedcjaaGp5
import Derived.Laws.BitsLemmas
import Derived.Laws.BitsAllLaws
namespace Go.Proofs.Ytfopcgbfbedcjaa.Bd
open Go.Proofs.Ytfopcgbfbedcjaa.Rg
set_option linter.unusedVariables false
def pw : Nat → Int
  | 0 => 1
  | 1 => 64
  | 2 => 4096
  | _ => 262144
/-- Where a range is split for the last i bytes, if it is: the greatest of the lower part. -/
def cut (lo hi : Int) (i : Nat) : Option Int :=
  if lo / pw i = hi / pw i then none
  else if lo % pw i ≠ 0 then some (lo / pw i * pw i + pw i - 1)
  else if hi % pw i ≠ pw i - 1 then some (hi / pw i * pw i - 1)
  else none
/-- The first i that splits it, from i on, below w. -/
def cutFrom (lo hi : Int) (w : Nat) (i : Nat) : Nat → Option Int
  | 0 => none
  | f + 1 => if i < w then (match cut lo hi i with | some m => some m | none => cutFrom lo hi w (i + 1) f) else none
def cutAll (lo hi : Int) : Option Int := cutFrom lo hi (Utf.width lo).toNat 1 3
def zipE (lo hi : Int) : List R := (Utf.encN lo).zip (Utf.encN hi)
def oneF : Nat → Int → Int → List (List R)
  | 0, lo, hi => [zipE lo hi]
  | f + 1, lo, hi =>
    match cutAll lo hi with
    | none => [zipE lo hi]
    | some m => oneF f lo m ++ oneF f (m + 1) hi
def oneL (lo hi : Int) : List (List R) := oneF (hi - lo).toNat lo hi
theorem pw_cases (i : Nat) : pw i = 1 ∨ pw i = 64 ∨ pw i = 4096 ∨ pw i = 262144 := by
  match i with
  | 0 => simp [pw]
  | 1 => simp [pw]
  | 2 => simp [pw]
  | n + 3 => simp [pw]
theorem cut_in {lo hi m : Int} {i : Nat} (h : cut lo hi i = some m) (hl : lo ≤ hi) : lo ≤ m ∧ m < hi := by
  unfold cut at h
  rcases pw_cases i with e | e | e | e <;> rw [e] at h
  all_goals
    split at h
    · cases h
    · split at h
      · injection h with h; omega
      · split at h
        · injection h with h; omega
        · cases h
theorem cutFrom_in {lo hi m : Int} {w : Nat} (hl : lo ≤ hi) : ∀ (f i : Nat), cutFrom lo hi w i f = some m → lo ≤ m ∧ m < hi
  | 0, i, h => by cases h
  | f + 1, i, h => by
    unfold cutFrom at h
    split at h
    · split at h
      · rename_i m' hc
        injection h with h; subst h
        exact cut_in hc hl
      · exact cutFrom_in hl f (i + 1) h
    · cases h
theorem cutAll_in {lo hi m : Int} (hl : lo ≤ hi) (h : cutAll lo hi = some m) : lo ≤ m ∧ m < hi := cutFrom_in hl 3 1 h
theorem oneF_mono : ∀ (f g : Nat) (lo hi : Int), lo ≤ hi → (hi - lo).toNat ≤ f → (hi - lo).toNat ≤ g → oneF f lo hi = oneF g lo hi
  | 0, 0, lo, hi, _, _, _ => rfl
  | 0, g + 1, lo, hi, hl, h1, h2 => by
    cases hc : cutAll lo hi with
    | none => rw [oneF, oneF, hc]
    | some m => have := cutAll_in hl hc; omega
  | f + 1, 0, lo, hi, hl, h1, h2 => by
    cases hc : cutAll lo hi with
    | none => rw [oneF, oneF, hc]
    | some m => have := cutAll_in hl hc; omega
  | f + 1, g + 1, lo, hi, hl, h1, h2 => by
    cases hc : cutAll lo hi with
    | none => rw [oneF, oneF, hc]
    | some m =>
      have := cutAll_in hl hc
      rw [oneF, oneF, hc]
      dsimp only
      rw [oneF_mono f g lo m (by omega) (by omega) (by omega), oneF_mono f g (m + 1) hi (by omega) (by omega) (by omega)]
theorem oneL_none {lo hi : Int} (h : cutAll lo hi = none) : oneL lo hi = [zipE lo hi] := by
  unfold oneL
  cases (hi - lo).toNat with
  | zero => rfl
  | succ n => rw [oneF, h]
theorem oneL_some {lo hi m : Int} (hl : lo ≤ hi) (h : cutAll lo hi = some m) : oneL lo hi = oneL lo m ++ oneL (m + 1) hi := by
  have hi' := cutAll_in hl h
  unfold oneL
  obtain ⟨n, hn⟩ : ∃ n, (hi - lo).toNat = n + 1 := ⟨(hi - lo).toNat - 1, by omega⟩
  rw [hn, oneF, h]
  dsimp only
  rw [oneF_mono n (m - lo).toNat lo m (by omega) (by omega) (by omega), oneF_mono n (hi - (m + 1)).toNat (m + 1) hi (by omega) (by omega) (by omega)]
theorem oneF_len : ∀ (f : Nat) (lo hi : Int), lo ≤ hi → 1 ≤ (oneF f lo hi).length ∧ ((oneF f lo hi).length : Int) ≤ hi - lo + 1
  | 0, lo, hi, h => by simp [oneF]; omega
  | f + 1, lo, hi, h => by
    cases hc : cutAll lo hi with
    | none => rw [oneF, hc]; simp; omega
    | some m =>
      have hm := cutAll_in h hc
      have h1 := oneF_len f lo m (by omega)
      have h2 := oneF_len f (m + 1) hi (by omega)
      rw [oneF, hc]
      dsimp only
      rw [List.length_append]
      push_cast
      omega
theorem oneL_len {lo hi : Int} (h : lo ≤ hi) : 1 ≤ (oneL lo hi).length ∧ ((oneL lo hi).length : Int) ≤ hi - lo + 1 := oneF_len _ lo hi h
end Go.Proofs.Ytfopcgbfbedcjaa.Bd
namespace Go.Proofs.Ytfopcgbfbedcjaa.Bd
open Go
set_option linter.unusedVariables false
theorem wraps_i64_62 (n : Int) (h0 : 0 ≤ n) (h1 : n < 2 ^ 62) : IntKind.i64.wrap n = n := by rw [IntKind.wrap_i64]; omega
theorem and_mask (i : Nat) (hi : i ≤ 62) (x : Int) (h0 : 0 ≤ x) (h1 : x < 2 ^ 62) : bits .and .i64 x (2 ^ i - 1) = x % 2 ^ i :=
  bits_mask .i64 62 (by decide) wraps_i64_62 i hi x h0 h1
theorem nat_or_mask (a i : Nat) : a ||| (2 ^ i - 1) = 2 ^ i * (a / 2 ^ i) + (2 ^ i - 1) := by
  have hp : 0 < 2 ^ i := Nat.two_pow_pos i
  rw [Nat.two_pow_add_eq_or_of_lt (by omega)]
  apply Nat.eq_of_testBit_eq
  intro j
  rw [Nat.testBit_or, Nat.testBit_or, Nat.testBit_two_pow_mul, Nat.testBit_two_pow_sub_one, Nat.testBit_div_two_pow]
  by_cases h : i ≤ j
  · have e : i + (j - i) = j := by omega
    simp [h, e]
  · have e : j < i := by omega
    simp [e]
theorem or_mask (i : Nat) (hi : i ≤ 62) (x : Int) (h0 : 0 ≤ x) (h1 : x < 2 ^ 62) : bits .or .i64 x (2 ^ i - 1) = x / 2 ^ i * 2 ^ i + 2 ^ i - 1 := by
  obtain ⟨a, rfl⟩ := Int.eq_ofNat_of_zero_le h0
  have ha : a < 2 ^ 62 := by exact_mod_cast h1
  have hp : 0 < 2 ^ i := Nat.two_pow_pos i
  have hm : 2 ^ i - 1 < 2 ^ 62 := Nat.lt_of_lt_of_le (Nat.sub_lt hp (by decide)) (Nat.pow_le_pow_right (by decide) hi)
  have hc : ((2 : Int) ^ i - 1) = ((2 ^ i - 1 : Nat) : Int) := by
    rw [Int.natCast_sub hp]; simp
  rw [hc, (bits_nat .i64 62 (by decide) wraps_i64_62 a _ ha hm).2, nat_or_mask]
  have e1 : ((2 : Int) ^ i) = ((2 ^ i : Nat) : Int) := by simp
  rw [e1]
  generalize 2 ^ i = M at hp ⊢
  have e2 : ((a : Int) / (M : Int)) = ((a / M : Nat) : Int) := rfl
  rw [e2, Nat.mul_comm]
  omega
theorem nat_and_not (a i B : Nat) (hi : i ≤ B) (ha : a < 2 ^ B) : a &&& (2 ^ B - 1 - (2 ^ i - 1)) = 2 ^ i * (a / 2 ^ i) := by
  have hp : 0 < 2 ^ i := Nat.two_pow_pos i
  have hle : 2 ^ i ≤ 2 ^ B := Nat.pow_le_pow_right (by decide) hi
  have e0 : 2 ^ B - 1 - (2 ^ i - 1) = 2 ^ B - ((2 ^ i - 1) + 1) := by omega
  rw [e0]
  apply Nat.eq_of_testBit_eq
  intro j
  rw [Nat.testBit_and, Nat.testBit_two_pow_sub_succ (by omega), Nat.testBit_two_pow_sub_one, Nat.testBit_two_pow_mul, Nat.testBit_div_two_pow]
  by_cases h : i ≤ j
  · have e : i + (j - i) = j := by omega
    by_cases hb : j < B
    · simp [h, e, hb, Nat.not_lt.2 h]
    · have : a.testBit j = false := Nat.testBit_lt_two_pow (Nat.lt_of_lt_of_le ha (Nat.pow_le_pow_right (by decide) (by omega)))
      have e9 : j - i + i = j := by omega
      simp [e, this, e9]
  · have e : j < i := by omega
    simp [e, h]
theorem not_mask (i : Nat) (hi : i ≤ 62) (x : Int) (h0 : 0 ≤ x) (h1 : x < 2 ^ 62) : bits .andNot .i64 x (2 ^ i - 1) = x / 2 ^ i * 2 ^ i := by
  obtain ⟨a, rfl⟩ := Int.eq_ofNat_of_zero_le h0
  have ha : a < 2 ^ 62 := by exact_mod_cast h1
  have hp : 0 < 2 ^ i := Nat.two_pow_pos i
  have hm : 2 ^ i - 1 < 2 ^ 62 := Nat.lt_of_lt_of_le (Nat.sub_lt hp (by decide)) (Nat.pow_le_pow_right (by decide) hi)
  have hc : ((2 : Int) ^ i - 1) = ((2 ^ i - 1 : Nat) : Int) := by
    rw [Int.natCast_sub hp]; simp
  have hk : bits .andNot .i64 (a : Int) ((2 ^ i - 1 : Nat) : Int) = IntKind.i64.wrap ((a &&& (2 ^ 64 - 1 - (2 ^ i - 1)) : Nat) : Int) := by
    have e1 : a % 2 ^ 64 = a := Nat.mod_eq_of_lt (by omega)
    have e2 : (2 ^ i - 1) % 2 ^ 64 = 2 ^ i - 1 := Nat.mod_eq_of_lt (by omega)
    show IntKind.i64.wrap ((BitVec.ofInt 64 (a : Int) &&& ~~~BitVec.ofInt 64 ((2 ^ i - 1 : Nat) : Int)).toNat : Int) = _
    rw [BitVec.ofInt_natCast, BitVec.ofInt_natCast, BitVec.toNat_and, BitVec.toNat_not, BitVec.toNat_ofNat, BitVec.toNat_ofNat, e1, e2]
  rw [hc, hk, nat_and_not a i 64 (by omega) (by omega)]
  have hle : 2 ^ i * (a / 2 ^ i) ≤ a := Nat.mul_div_le a (2 ^ i)
  rw [wraps_i64_62 _ (Int.natCast_nonneg _) (by omega)]
  have e1 : ((2 : Int) ^ i) = ((2 ^ i : Nat) : Int) := by simp
  rw [e1]
  generalize 2 ^ i = M at hp ⊢
  have e2 : ((a : Int) / (M : Int)) = ((a / M : Nat) : Int) := rfl
  rw [e2, Nat.mul_comm]
  simp
/-- What the three masks do to a rune. -/
structure Masks (x : Int) (k : Int) (i : Nat) : Prop where
  and : bits .and .i64 x k = x % pw i
  or : bits .or .i64 x k = x / pw i * pw i + pw i - 1
  andNot : bits .andNot .i64 x k = x / pw i * pw i
theorem masks1 (x : Int) (h0 : 0 ≤ x) (h1 : x ≤ 1114111) : Masks x 63 1 := ⟨and_mask 6 (by decide) x h0 (by omega), or_mask 6 (by decide) x h0 (by omega), not_mask 6 (by decide) x h0 (by omega)⟩
theorem masks2 (x : Int) (h0 : 0 ≤ x) (h1 : x ≤ 1114111) : Masks x 4095 2 := ⟨and_mask 12 (by decide) x h0 (by omega), or_mask 12 (by decide) x h0 (by omega), not_mask 12 (by decide) x h0 (by omega)⟩
theorem masks3 (x : Int) (h0 : 0 ≤ x) (h1 : x ≤ 1114111) : Masks x 262143 3 := ⟨and_mask 18 (by decide) x h0 (by omega), or_mask 18 (by decide) x h0 (by omega), not_mask 18 (by decide) x h0 (by omega)⟩
/-- What the landed border hands back. -/
def bordN (lo hi : Int) (i : Nat) : Int × Bool := match cut lo hi i with | some m => (m, true) | none => (0, false)
theorem bord_same {lo hi : Int} {i : Nat} (h : lo / pw i = hi / pw i) : bordN lo hi i = (0, false) := by unfold bordN cut; rw [if_pos h]
theorem bord_low {lo hi : Int} {i : Nat} (h : lo / pw i ≠ hi / pw i) (h1 : lo % pw i ≠ 0) : bordN lo hi i = (lo / pw i * pw i + pw i - 1, true) := by unfold bordN cut; rw [if_neg h, if_pos h1]
theorem bord_high {lo hi : Int} {i : Nat} (h : lo / pw i ≠ hi / pw i) (h1 : lo % pw i = 0) (h2 : hi % pw i ≠ pw i - 1) : bordN lo hi i = (hi / pw i * pw i - 1, true) := by
  unfold bordN cut; rw [if_neg h, if_neg (by omega), if_pos h2]
theorem bord_none {lo hi : Int} {i : Nat} (h : lo / pw i ≠ hi / pw i) (h1 : lo % pw i = 0) (h2 : hi % pw i = pw i - 1) : bordN lo hi i = (0, false) := by
  unfold bordN cut; rw [if_neg h, if_neg (by omega), if_neg (by omega)]
theorem or_same {lo hi p : Int} (hp : 0 < p) : lo / p * p + p - 1 = hi / p * p + p - 1 ↔ lo / p = hi / p := by
  constructor
  · intro h
    exact Int.eq_of_mul_eq_mul_right (by omega) (by omega : lo / p * p = hi / p * p)
  · intro h; rw [h]
theorem pw_pos (i : Nat) : 0 < pw i := by rcases pw_cases i with h | h | h | h <;> rw [h] <;> decide
end Go.Proofs.Ytfopcgbfbedcjaa.Bd
namespace Go.Proofs.Ytfopcgbfbedcjaa
open Go.RowKit
set_option linter.unusedVariables false
/-- What border hands back. -/
def BordPost (lo hi : Int) (i : Nat) (W : World) (e : Ending) (w' : World) : Prop :=
  e = .returned (.tuple #[.int .i64 (Bd.bordN lo hi i).1, .bool (Bd.bordN lo hi i).2]) ∧ Below W.heap.size W w'
theorem bordPost_mk {lo hi m : Int} {i : Nat} {b : Bool} {W w' : World} (h : Bd.bordN lo hi i = (m, b)) (hb : Below W.heap.size W w') : BordPost lo hi i W (.returned (.tuple #[.int .i64 m, .bool b])) w' := by
  unfold BordPost; rw [h]; exact ⟨rfl, hb⟩
set_option maxRecDepth 100000 in
set_option maxHeartbeats 4000000 in
theorem border_walk (W : World) (lo hi k : Int) (i : Nat) (hik : (i = 1 ∧ k = 63) ∨ (i = 2 ∧ k = 4095) ∨ (i = 3 ∧ k = 262143)) (h0 : 0 ≤ lo) (h1 : lo ≤ 1114111) (h2 : 0 ≤ hi) (h3 : hi ≤ 1114111)
    (ml : Bd.Masks lo k i) (mh : Bd.Masks hi k i) :
    Calls Try.prog 48 #[.agg #[.int .i64 lo, .int .i64 hi], .int .i64 i] W (BordPost lo hi i W) := by
  have hp := Bd.pw_pos i
  obtain ⟨p, ep⟩ : ∃ p, Bd.pw i = p := ⟨_, rfl⟩
  have hpb : p ≤ 262144 := by rcases Bd.pw_cases i with e | e | e | e <;> omega
  obtain ⟨al, ol, nl⟩ := ml
  obtain ⟨ah, oh, nh⟩ := mh
  rw [ep] at al ol nl ah oh nh hp
  have bl : 0 ≤ lo / p * p ∧ lo / p * p ≤ lo := ⟨Int.mul_nonneg (Int.ediv_nonneg h0 (by omega)) (by omega), Int.ediv_mul_le _ (by omega)⟩
  have bh : 0 ≤ hi / p * p ∧ hi / p * p ≤ hi := ⟨Int.mul_nonneg (Int.ediv_nonneg h2 (by omega)) (by omega), Int.ediv_mul_le _ (by omega)⟩
  obtain ⟨L, eL⟩ : ∃ L, lo / p * p + p - 1 = L := ⟨_, rfl⟩
  obtain ⟨U, eU⟩ : ∃ U, hi / p * p + p - 1 = U := ⟨_, rfl⟩
  obtain ⟨V, eV⟩ : ∃ V, hi / p * p = V := ⟨_, rfl⟩
  have hV : IntKind.i64.wrap (V - 1) = V - 1 := by rw [IntKind.wrap_i64]; omega
  have hLU : L = U ↔ lo / p = hi / p := by rw [← eL, ← eU]; exact Bd.or_same hp
  obtain ⟨x, ex⟩ : ∃ x, lo % p = x := ⟨_, rfl⟩
  obtain ⟨y, ey⟩ : ∃ y, hi % p = y := ⟨_, rfl⟩
  have hkp : k = p - 1 := by rcases hik with ⟨rfl, rfl⟩ | ⟨rfl, rfl⟩ | ⟨rfl, rfl⟩ <;> (rw [← ep]; rfl)
  have HSAME : Hid (L = U → Bd.bordN lo hi i = (0, false)) := Lib.hid (fun h => Bd.bord_same (by rw [ep]; exact hLU.1 h))
  have HLOW : Hid (¬ L = U → ¬ x = 0 → Bd.bordN lo hi i = (L, true)) := Lib.hid (fun h h' => by
    rw [Bd.bord_low (by rw [ep]; exact fun e => h (hLU.2 e)) (by rw [ep, ex]; exact h'), ep, eL])
  have HHIGH : Hid (¬ L = U → x = 0 → ¬ y = k → Bd.bordN lo hi i = (V - 1, true)) := Lib.hid (fun h h' h'' => by
    rw [Bd.bord_high (by rw [ep]; exact fun e => h (hLU.2 e)) (by rw [ep, ex]; exact h') (by rw [ep, ey, ← hkp]; exact h''), ep, eV])
  have HNONE : Hid (¬ L = U → x = 0 → y = k → Bd.bordN lo hi i = (0, false)) := Lib.hid (fun h h' h'' =>
    Bd.bord_none (by rw [ep]; exact fun e => h (hLU.2 e)) (by rw [ep, ex]; exact h') (by rw [ep, ey, ← hkp]; exact h''))
  rw [ex] at al
  rw [ey] at ah
  rw [eL] at ol
  rw [eU] at oh
  rw [eV] at nh
  clear ex ey eL eU eV ep hLU bl bh nl hkp hp hpb
  by_cases c1 : L = U
  · have HR := Lib.hid (HSAME.out c1)
    have d1 : (L == U) = true := by rw [beq_iff_eq]; exact c1
    clear HLOW HHIGH HNONE HSAME c1
    rcases hik with ⟨rfl, rfl⟩ | ⟨rfl, rfl⟩ | ⟨rfl, rfl⟩
    all_goals
      go_enter Try.func48, Try.ntmps48
      go_wp2
      go_ret2
      exact bordPost_mk HR.out ((Below.refl _ _).alloc (Nat.le_refl _) _)
  · have d1 : (L == U) = false := by rw [beq_eq_false_iff_ne]; exact c1
    by_cases c2 : x = 0
    · have d2 : (x == 0) = true := by rw [beq_iff_eq]; exact c2
      by_cases c3 : y = k
      · have HR := Lib.hid (HNONE.out c1 c2 c3)
        have d3 := beq_iff_eq.2 c3
        clear HLOW HHIGH HNONE HSAME c1 c2 c3
        rcases hik with ⟨rfl, rfl⟩ | ⟨rfl, rfl⟩ | ⟨rfl, rfl⟩
        all_goals
          go_enter Try.func48, Try.ntmps48
          go_wp2
          go_ret2
          exact bordPost_mk HR.out ((Below.refl _ _).alloc (Nat.le_refl _) _)
      · have HR := Lib.hid (HHIGH.out c1 c2 c3)
        have d3 := beq_eq_false_iff_ne.2 c3
        clear HLOW HHIGH HNONE HSAME c1 c2 c3
        rcases hik with ⟨rfl, rfl⟩ | ⟨rfl, rfl⟩ | ⟨rfl, rfl⟩
        all_goals
          go_enter Try.func48, Try.ntmps48
          go_wp2
          go_ret2
          exact bordPost_mk HR.out ((Below.refl _ _).alloc (Nat.le_refl _) _)
    · have HR := Lib.hid (HLOW.out c1 c2)
      have d2 : (x == 0) = false := by rw [beq_eq_false_iff_ne]; exact c2
      clear HLOW HHIGH HNONE HSAME c1 c2
      rcases hik with ⟨rfl, rfl⟩ | ⟨rfl, rfl⟩ | ⟨rfl, rfl⟩
      all_goals
        go_enter Try.func48, Try.ntmps48
        go_wp2
        go_ret2
        exact bordPost_mk HR.out ((Below.refl _ _).alloc (Nat.le_refl _) _)
theorem border_any (W : World) (lo hi : Int) (i : Nat) (hi1 : 1 ≤ i) (hi2 : i ≤ 3) (h0 : 0 ≤ lo) (h1 : lo ≤ 1114111) (h2 : 0 ≤ hi) (h3 : hi ≤ 1114111) :
    Calls Try.prog 48 #[.agg #[.int .i64 lo, .int .i64 hi], .int .i64 i] W (BordPost lo hi i W) := by
  rcases (by omega : i = 1 ∨ i = 2 ∨ i = 3) with rfl | rfl | rfl
  · exact border_walk W lo hi 63 1 (.inl ⟨rfl, rfl⟩) h0 h1 h2 h3 (Bd.masks1 lo h0 h1) (Bd.masks1 hi h2 h3)
  · exact border_walk W lo hi 4095 2 (.inr (.inl ⟨rfl, rfl⟩)) h0 h1 h2 h3 (Bd.masks2 lo h0 h1) (Bd.masks2 hi h2 h3)
  · exact border_walk W lo hi 262143 3 (.inr (.inr ⟨rfl, rfl⟩)) h0 h1 h2 h3 (Bd.masks3 lo h0 h1) (Bd.masks3 hi h2 h3)
/-- The greatest rune of a width. -/
def widestN (n : Int) : Int := if n = 1 then 127 else if n = 2 then 2047 else 65535
set_option maxRecDepth 100000 in
theorem widest_any (W : World) (n : Int) : Calls Try.prog 47 #[.int .i64 n] W fun e w' => e = .returned (.int .i64 (widestN n)) ∧ W = w' := by
  unfold widestN
  by_cases h1 : n = 1
  · rw [if_pos h1]
    subst h1
    go_enter Try.func47, Try.ntmps47
    go_wp2
    go_ret
    exact ⟨rfl, rfl⟩
  · rw [if_neg h1]
    have d1 : (n == 1) = false := by rw [beq_eq_false_iff_ne]; exact h1
    by_cases h2 : n = 2
    · rw [if_pos h2]
      subst h2
      go_enter Try.func47, Try.ntmps47
      go_wp2
      go_ret
      exact ⟨rfl, rfl⟩
    · rw [if_neg h2]
      have d2 : (n == 2) = false := by rw [beq_eq_false_iff_ne]; exact h2
      clear h1 h2
      go_enter Try.func47, Try.ntmps47
      go_wp2
      go_ret
      exact ⟨rfl, rfl⟩
end Go.Proofs.Ytfopcgbfbedcjaa
