/- The plain mathematics of bands: a set's sequences as ascending intervals of runes; which runes they take, from the front and from behind; no program. -/
import Derived.Test.YtfopcgbfbedcjaaGp28
namespace Go.Proofs.Ytfopcgbfbedcjaa.Bd
open Go.Proofs.Ytfopcgbfbedcjaa.Rg
set_option linter.unusedVariables false
def zp (p : Int × Int) : List R := zipE p.1 p.2
/-- Ascending intervals, each of one width and split nowhere. -/
def AscI : Int → List (Int × Int) → Prop
  | _, [] => True
  | lo, p :: I => lo ≤ p.1 ∧ (∃ w, Cls w p.1 p.2) ∧ cutAll p.1 p.2 = none ∧ AscI (p.2 + 1) I
def memI (I : List (Int × Int)) (r : Int) : Bool := I.any fun p => decide (p.1 ≤ r ∧ r ≤ p.2)
theorem memI_iff (I : List (Int × Int)) (r : Int) : memI I r = true ↔ ∃ p ∈ I, p.1 ≤ r ∧ r ≤ p.2 := by unfold memI; simp
theorem ascI_mono : ∀ (I : List (Int × Int)) (lo lo' : Int), lo' ≤ lo → AscI lo I → AscI lo' I
  | [], _, _, _, _ => trivial
  | p :: I, lo, lo', h, ⟨h1, h2⟩ => ⟨by omega, h2⟩
theorem ascI_append : ∀ (I J : List (Int × Int)) (lo m : Int), AscI lo I → (∀ p ∈ I, p.2 ≤ m) → AscI (m + 1) J → lo ≤ m + 1 → AscI lo (I ++ J)
  | [], J, lo, m, _, _, hJ, hl => ascI_mono J _ _ hl hJ
  | p :: I, J, lo, m, ⟨h1, h2, h3, h4⟩, hm, hJ, hl => ⟨h1, h2, h3, ascI_append I J _ m h4 (fun q hq => hm q (List.mem_cons_of_mem _ hq)) hJ (by have := hm p (by simp); omega)⟩
theorem ascI_mem : ∀ (I : List (Int × Int)) (lo : Int), AscI lo I → ∀ p ∈ I, lo ≤ p.1 ∧ (∃ w, Cls w p.1 p.2) ∧ cutAll p.1 p.2 = none
  | [], _, _, p, hp => by cases hp
  | q :: I, lo, ⟨h1, h2, h3, h4⟩, p, hp => by
    rcases List.mem_cons.1 hp with rfl | hp
    · exact ⟨h1, h2, h3⟩
    · have := ascI_mem I _ h4 p hp
      obtain ⟨w, hc⟩ := h2
      have := hc.le
      exact ⟨by omega, (ascI_mem I _ h4 p hp).2⟩
theorem memI_append (I J : List (Int × Int)) (r : Int) : memI (I ++ J) r = (memI I r || memI J r) := by unfold memI; rw [List.any_append]
/-- What a list of sequences is made of. -/
structure Made5 (L : List (List R)) (I : List (Int × Int)) (lo hi : Int) (P : Int → Prop) : Prop where
  eq : L = I.map zp
  asc : AscI lo I
  top : ∀ p ∈ I, p.2 ≤ hi
  mem : ∀ r, memI I r = true ↔ P r
theorem oneF_made : ∀ (f : Nat) (w : Nat) (lo hi : Int), Cls w lo hi → (hi - lo).toNat ≤ f → ∃ I, Made5 (oneF f lo hi) I lo hi (fun r => lo ≤ r ∧ r ≤ hi)
  | 0, w, lo, hi, h, hf => by
    have hle := h.le
    obtain rfl : lo = hi := by omega
    refine ⟨[(lo, lo)], rfl, ⟨Int.le_refl _, ⟨w, h⟩, ?_, trivial⟩, by simp, fun r => by simp [memI]⟩
    cases hc : cutAll lo lo with
    | none => rfl
    | some m => have := cutAll_in (Int.le_refl _) hc; omega
  | f + 1, w, lo, hi, h, hf => by
    have hle := h.le
    rw [oneF]
    cases hc : cutAll lo hi with
    | none => exact ⟨[(lo, hi)], rfl, ⟨Int.le_refl _, ⟨w, h⟩, hc, trivial⟩, by simp, fun r => by simp [memI]⟩
    | some m =>
      have hm := cutAll_in hle hc
      obtain ⟨I, h1⟩ := oneF_made f w lo m (h.sub (Int.le_refl _) (by omega) hm.1) (by omega)
      obtain ⟨J, h2⟩ := oneF_made f w (m + 1) hi (h.sub (by omega) (Int.le_refl _) (by omega)) (by omega)
      refine ⟨I ++ J, by dsimp only; rw [List.map_append, h1.eq, h2.eq], ascI_append I J lo m h1.asc h1.top h2.asc (by omega), fun p hp => ?_, fun r => ?_⟩
      · rcases List.mem_append.1 hp with hp | hp
        · have := h1.top p hp; omega
        · exact h2.top p hp
      · rw [memI_append, Bool.or_eq_true, h1.mem, h2.mem]; omega
theorem part_made (lo hi : Int) (c : Int × Int × Nat) (hc : c ∈ clsT) : ∃ I, Made5 (part lo hi c) I (max lo c.1) (min hi c.2.1) (fun r => max lo c.1 ≤ r ∧ r ≤ min hi c.2.1) := by
  unfold part
  split
  · rename_i h
    have hcl : Cls c.2.2 (max lo c.1) (min hi c.2.1) := by
      refine ⟨h, ?_⟩
      simp only [clsT, List.mem_cons, List.not_mem_nil, or_false] at hc
      rcases hc with rfl | rfl | rfl | rfl | rfl <;> simp <;> omega
    exact oneF_made _ c.2.2 _ _ hcl (Nat.le_refl _)
  · rename_i h
    exact ⟨[], rfl, trivial, by simp, fun r => by simp [memI]; omega⟩
theorem splitL_made (lo hi : Int) : ∃ I, Made5 (splitL lo hi) I lo hi (fun r => (lo ≤ r ∧ r ≤ hi) ∧ Utf.width r ≠ 0) := by
  obtain ⟨I1, h1⟩ := part_made lo hi (0, 127, 1) (by simp [clsT])
  obtain ⟨I2, h2⟩ := part_made lo hi (128, 2047, 2) (by simp [clsT])
  obtain ⟨I3, h3⟩ := part_made lo hi (2048, 55295, 3) (by simp [clsT])
  obtain ⟨I4, h4⟩ := part_made lo hi (57344, 65535, 3) (by simp [clsT])
  obtain ⟨I5, h5⟩ := part_made lo hi (65536, 1114111, 4) (by simp [clsT])
  dsimp only at h1 h2 h3 h4 h5
  have e : splitL lo hi = part lo hi (0, 127, 1) ++ (part lo hi (128, 2047, 2) ++ (part lo hi (2048, 55295, 3) ++ (part lo hi (57344, 65535, 3) ++ part lo hi (65536, 1114111, 4)))) := by simp [splitL, clsT]
  refine ⟨I1 ++ (I2 ++ (I3 ++ (I4 ++ I5))), by rw [e, h1.eq, h2.eq, h3.eq, h4.eq, h5.eq]; simp, ?_, fun p hp => ?_, fun r => ?_⟩
  · have a5 := ascI_mono I5 _ 65536 (by omega) h5.asc
    have a4 := ascI_append I4 I5 57344 65535 (ascI_mono I4 _ _ (by omega) h4.asc) (fun p hp => by have := h4.top p hp; omega) (by simpa using a5) (by omega)
    have a3 := ascI_append I3 (I4 ++ I5) 2048 55295 (ascI_mono I3 _ _ (by omega) h3.asc) (fun p hp => by have := h3.top p hp; omega) (ascI_mono _ _ _ (by omega) a4) (by omega)
    have a2 := ascI_append I2 (I3 ++ (I4 ++ I5)) 128 2047 (ascI_mono I2 _ _ (by omega) h2.asc) (fun p hp => by have := h2.top p hp; omega) (ascI_mono _ _ _ (by omega) a3) (by omega)
    have a1 := ascI_append I1 (I2 ++ (I3 ++ (I4 ++ I5))) 0 127 (ascI_mono I1 _ _ (by omega) h1.asc) (fun p hp => by have := h1.top p hp; omega) (ascI_mono _ _ _ (by omega) a2) (by omega)
    -- from lo on: the first interval begins at lo or later
    have hall : ∀ p ∈ I1 ++ (I2 ++ (I3 ++ (I4 ++ I5))), lo ≤ p.1 := fun p hp => by
      simp only [List.mem_append] at hp
      rcases hp with hp | hp | hp | hp | hp
      · have := (ascI_mem _ _ h1.asc p hp).1; omega
      · have := (ascI_mem _ _ h2.asc p hp).1; omega
      · have := (ascI_mem _ _ h3.asc p hp).1; omega
      · have := (ascI_mem _ _ h4.asc p hp).1; omega
      · have := (ascI_mem _ _ h5.asc p hp).1; omega
    revert a1 hall
    generalize I1 ++ (I2 ++ (I3 ++ (I4 ++ I5))) = I
    intro a1 hall
    cases I with
    | nil => trivial
    | cons p I => exact ⟨hall p (by simp), a1.2⟩
  · simp only [List.mem_append] at hp
    rcases hp with hp | hp | hp | hp | hp
    · have := h1.top p hp; omega
    · have := h2.top p hp; omega
    · have := h3.top p hp; omega
    · have := h4.top p hp; omega
    · have := h5.top p hp; omega
  · rw [memI_append, memI_append, memI_append, memI_append]
    simp only [Bool.or_eq_true]
    rw [h1.mem, h2.mem, h3.mem, h4.mem, h5.mem]
    rcases Utf.width_cases r with ⟨q, z⟩ | ⟨q, z⟩ | ⟨q, z⟩ | ⟨q, z⟩ | ⟨q, z⟩ <;> rw [q] <;> omega
theorem ofL_made : ∀ (B : List R) (lo : Int), NormFrom lo B → ∃ I, Made5 (ofL B) I lo 1114111 (fun r => (∃ p ∈ B, p.1 ≤ r ∧ r ≤ p.2) ∧ Utf.width r ≠ 0)
  | [], lo, _ => ⟨[], rfl, trivial, by simp, fun r => by simp [memI]⟩
  | p :: B, lo, ⟨h1, h2, h3, h4⟩ => by
    obtain ⟨J, hJ⟩ := ofL_made B _ h4
    obtain ⟨I, hI⟩ := splitL_made p.1 p.2
    refine ⟨I ++ J, by rw [List.map_append, ← hI.eq, ← hJ.eq]; simp [ofL], ascI_append I J lo p.2 (ascI_mono I _ _ h1 hI.asc) hI.top (ascI_mono J _ _ (by omega) hJ.asc) (by omega), fun q hq => ?_, fun r => ?_⟩
    · rcases List.mem_append.1 hq with hq | hq
      · have := hI.top q hq; omega
      · exact hJ.top q hq
    · rw [memI_append, Bool.or_eq_true, hI.mem, hJ.mem]
      simp only [List.mem_cons, exists_eq_or_imp]
      constructor
      · rintro (⟨h, hw⟩ | ⟨h, hw⟩)
        · exact ⟨.inl h, hw⟩
        · exact ⟨.inr h, hw⟩
      · rintro ⟨h | h, hw⟩
        · exact .inl ⟨h, hw⟩
        · exact .inr ⟨h, hw⟩
/-! Which text an interval's sequence takes. -/
theorem Cls.nonneg {w : Nat} {a b : Int} (h : Cls w a b) : 0 ≤ a ∧ w ≠ 0 := by have := h.bd; omega
theorem fit_dec {w : Nat} {a b : Int} (h : Cls w a b) (hc : cutAll a b = none) (s : ByteArray) : fitB (zipE a b) s = true ↔ a ≤ (Utf.dec (Utf.nums s)).1 ∧ (Utf.dec (Utf.nums s)).1 ≤ b := by
  rw [fitB_iff, zipE_len h, take_iff h hc]
  have hw0 := h.nonneg
  constructor
  · rintro ⟨h1, h2, r, hr1, hr2, e⟩
    have hwr := h.width hr1 hr2
    have hd := Utf.dec_enc r (by omega) ((Utf.nums s).drop w)
    rw [← e, List.take_append_drop] at hd
    rw [hd]; exact ⟨hr1, hr2⟩
  · rintro ⟨h1, h2⟩
    rcases Utf.dec_some (Utf.nums s) (Utf.nums_bytes s) with ⟨_, hd⟩ | ⟨_, hd⟩ | ⟨hw, _, t, e⟩
    · rw [hd] at h1; dsimp only at h1; omega
    · rw [hd] at h1; dsimp only at h1; omega
    · have hwr := h.width h1 h2
      have hl := Utf.encN_length (Utf.dec (Utf.nums s)).1
      have hn := Utf.nums_length s
      refine ⟨by omega, ?_, _, h1, h2, ?_⟩
      · rw [← hn, e, List.length_append]; omega
      · rw [show (Utf.nums s).take w = (Utf.encN (Utf.dec (Utf.nums s)).1 ++ t).take w by rw [← e]]
        rw [List.take_append_of_le_length (by omega), List.take_of_length_le (by omega)]
theorem longN_asc : ∀ (I : List (Int × Int)) (lo : Int) (s : ByteArray), AscI lo I → longN (I.map zp) s = if memI I (Utf.dec (Utf.nums s)).1 = true then Utf.width (Utf.dec (Utf.nums s)).1 else 0
  | [], _, _, _ => by simp [longN, memI]
  | p :: I, lo, s, ⟨h1, ⟨w, h2⟩, h3, h4⟩ => by
    have ih := longN_asc I _ s h4
    have hf := fit_dec h2 h3 s
    rw [List.map_cons, longN]
    by_cases hb : fitB (zp p) s = true
    · have hr := hf.1 hb
      rw [if_pos hb, if_pos (by rw [memI_iff]; exact ⟨p, by simp, hr⟩), h2.width hr.1 hr.2]
      unfold zp; rw [zipE_len h2]
    · rw [if_neg hb, ih]
      have hr : ¬ (p.1 ≤ (Utf.dec (Utf.nums s)).1 ∧ (Utf.dec (Utf.nums s)).1 ≤ p.2) := fun h => hb (hf.2 h)
      have e : memI (p :: I) (Utf.dec (Utf.nums s)).1 = memI I (Utf.dec (Utf.nums s)).1 := by
        unfold memI; rw [List.any_cons, decide_eq_false hr, Bool.false_or]
      rw [e]
/-- At most one of them takes a text. -/
theorem once_asc : ∀ (I : List (Int × Int)) (lo : Int) (s : ByteArray), AscI lo I → (I.filter fun p => fitB (zp p) s).length ≤ 1
  | [], _, _, _ => by simp
  | p :: I, lo, s, ⟨h1, ⟨w, h2⟩, h3, h4⟩ => by
    have ih := once_asc I _ s h4
    rw [List.filter_cons]
    split
    · rename_i hb
      have hr := (fit_dec h2 h3 s).1 hb
      have : I.filter (fun p => fitB (zp p) s) = [] := by
        rw [List.filter_eq_nil_iff]
        intro q hq hb2
        obtain ⟨hq1, ⟨w', hq2⟩, hq3⟩ := ascI_mem I _ h4 q hq
        have := (fit_dec hq2 hq3 s).1 hb2
        omega
      rw [this]; simp
    · exact ih
/-! From behind. -/
theorem fitL_rev : ∀ (q : List R) (l : List Int), q.length = l.length → (fitL q.reverse l.reverse ↔ fitL q l)
  | [], [], _ => by simp
  | p :: q, x :: l, h => by
    have hl : q.length = l.length := by simpa using h
    rw [List.reverse_cons, List.reverse_cons, fitL_snoc _ _ _ _ (by simpa using hl), fitL_rev q l hl]
    simp only [fitL]
    exact ⟨fun ⟨h1, h2⟩ => ⟨h2, h1⟩, fun ⟨h1, h2⟩ => ⟨h2, h1⟩⟩
  | [], _ :: _, h => by simp at h
  | _ :: _, [], h => by simp at h
theorem enc_inj {a b : Int} (ha : Utf.width a ≠ 0) (hb : Utf.width b ≠ 0) (h : Utf.encN a = Utf.encN b) : a = b := by
  have h1 := Utf.dec_enc a ha []
  have h2 := Utf.dec_enc b hb []
  rw [h, h2] at h1
  exact (congrArg Prod.fst h1).symm
theorem fit_turn {w : Nat} {a b r : Int} (h : Cls w a b) (hc : cutAll a b = none) (hr : Utf.width r ≠ 0) (s : ByteArray) (hs : Utf.nums s = (Utf.encN r).reverse) : fitB (zipE a b).reverse s = true ↔ a ≤ r ∧ r ≤ b := by
  have hw0 := h.nonneg
  have hl := Utf.encN_length r
  have hn := Utf.nums_length s
  have hwa := h.width (Int.le_refl _) h.le
  have hwb := h.width h.le (Int.le_refl _)
  have hz := zipE_len h
  rw [fitB_iff, List.length_reverse, hz, hs]
  rw [hs, List.length_reverse] at hn
  rcases (by omega : w = Utf.width r ∨ (Utf.width r : Int) < w ∨ (w : Int) < Utf.width r) with e | e | e
  · rw [List.take_of_length_le (by rw [List.length_reverse]; omega), fitL_rev _ _ (by rw [hz]; omega), take_iff h hc]
    constructor
    · rintro ⟨_, _, r', h1, h2, e'⟩
      have := h.width h1 h2
      obtain rfl := enc_inj hr (by omega) e'
      exact ⟨h1, h2⟩
    · rintro ⟨h1, h2⟩
      exact ⟨by omega, by omega, r, h1, h2, rfl⟩
  · constructor
    · rintro ⟨_, h1, _⟩; omega
    · rintro ⟨h1, h2⟩; have := h.width h1 h2; omega
  · constructor
    · rintro ⟨_, _, h3⟩
      exfalso
      have hwr := (Utf.width_le r).2
      rcases (by omega : w = 1 ∨ w = 2 ∨ w = 3) with rfl | rfl | rfl
      · unfold zipE at h3
        rw [enc1 hwa, enc1 hwb] at h3
        have hbd := h.bd
        rcases (by omega : Utf.width r = (2 : Nat) ∨ Utf.width r = (3 : Nat) ∨ Utf.width r = (4 : Nat)) with q | q | q
        · rw [enc2 q] at h3; simp [fitL] at h3; omega
        · rw [enc3 q] at h3; simp [fitL] at h3; omega
        · rw [enc4 q] at h3; simp [fitL] at h3; omega
      · unfold zipE at h3
        rw [enc2 hwa, enc2 hwb] at h3
        have hbd := h.bd
        rcases (by omega : Utf.width r = (3 : Nat) ∨ Utf.width r = (4 : Nat)) with q | q
        · rw [enc3 q] at h3; simp [fitL] at h3; omega
        · rw [enc4 q] at h3; simp [fitL] at h3; omega
      · unfold zipE at h3
        rw [enc3 hwa, enc3 hwb] at h3
        have hbd := h.bd
        rw [enc4 (by omega : Utf.width r = (4 : Nat))] at h3
        simp [fitL] at h3; omega
    · rintro ⟨h1, h2⟩; have := h.width h1 h2; omega
theorem longN_turn : ∀ (I : List (Int × Int)) (lo : Int) (r : Int) (s : ByteArray), AscI lo I → Utf.width r ≠ 0 → Utf.nums s = (Utf.encN r).reverse → longN (turnL (I.map zp)) s = if memI I r = true then Utf.width r else 0
  | [], _, _, _, _, _, _ => by simp [longN, memI, turnL]
  | p :: I, lo, r, s, ⟨h1, ⟨w, h2⟩, h3, h4⟩, hr, hs => by
    have ih := longN_turn I _ r s h4 hr hs
    have hf := fit_turn h2 h3 hr s hs
    unfold turnL at ih ⊢
    rw [List.map_cons, List.map_cons, longN]
    by_cases hb : fitB (zp p).reverse s = true
    · have hx := hf.1 hb
      rw [if_pos hb, if_pos (by rw [memI_iff]; exact ⟨p, by simp, hx⟩), h2.width hx.1 hx.2, List.length_reverse]
      unfold zp; rw [zipE_len h2]
    · rw [if_neg hb, ih]
      have hx : ¬ (p.1 ≤ r ∧ r ≤ p.2) := fun h => hb (hf.2 h)
      have e : memI (p :: I) r = memI I r := by unfold memI; rw [List.any_cons, decide_eq_false hx, Bool.false_or]
      rw [e]
theorem turnL_turnL (L : List (List R)) : turnL (turnL L) = L := by simp [turnL, Function.comp_def]
end Go.Proofs.Ytfopcgbfbedcjaa.Bd
