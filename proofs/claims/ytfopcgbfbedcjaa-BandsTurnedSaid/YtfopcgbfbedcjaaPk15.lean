/- The plain mathematics of bands: a set's sequences as ascending intervals of runes; which runes they take, from the front and from behind; no program. · The plain mathematics of bands: the first bytes of an interval's sequence; no program. · The laws' own example (burinlaw05.works); what reads as a list of sequences. · The plain mathematics of the laws of bands: a set's sequences as intervals, and what they take of a text; no program. · Ranges over a function inside a loop: the marks that pile up among the deferred calls, and how a function leaves with them; no function of the program. -/
import Derived.Test.YtfopcgbfbedcjaaPk14
import Derived.Test.YtfopcgbfbedcjaaPk10
import Derived.Test.YtfopcgbfbedcjaaPk2
import Derived.RangeFuncBox
import Derived.RangeFuncNested
import Derived.RangeFuncBound
import Derived.RangeFuncCalls
import Derived.RangeFuncLeaves
import Derived.OwnWalkIn
namespace Go.Proofs.Ytfopcgbfbedcjaa.Bd
open Go.Proofs.Ytfopcgbfbedcjaa.Rg
set_option linter.unusedVariables false
def zp (p : Int × Int) : List R := zipE p.1 p.2
/-- Ascending intervals, each of one width and split nowhere. -/
def AscI : Int → List (Int × Int) → Prop
  | _, [] => True
  | lo, p :: I => lo ≤ p.1 ∧ (∃ w, Cls w p.1 p.2) ∧ cutAll p.1 p.2 = none ∧ AscI (p.2 + 1) I
def memI (I : List (Int × Int)) (r : Int) : Bool := I.any fun p => decide (p.1 ≤ r ∧ r ≤ p.2)
theorem memI_iff (I : List (Int × Int)) (r : Int) : memI I r = true ↔ ∃ p ∈ I, p.1 ≤ r ∧ r ≤ p.2 := by unfold memI; simp
theorem ascI_mono : ∀ (I : List (Int × Int)) (lo lo' : Int), lo' ≤ lo → AscI lo I → AscI lo' I
  | [], _, _, _, _ => trivial
  | p :: I, lo, lo', h, ⟨h1, h2⟩ => ⟨by omega, h2⟩
theorem ascI_append : ∀ (I J : List (Int × Int)) (lo m : Int), AscI lo I → (∀ p ∈ I, p.2 ≤ m) → AscI (m + 1) J → lo ≤ m + 1 → AscI lo (I ++ J)
  | [], J, lo, m, _, _, hJ, hl => ascI_mono J _ _ hl hJ
  | p :: I, J, lo, m, ⟨h1, h2, h3, h4⟩, hm, hJ, hl => ⟨h1, h2, h3, ascI_append I J _ m h4 (fun q hq => hm q (List.mem_cons_of_mem _ hq)) hJ (by have := hm p (by simp); omega)⟩
theorem ascI_mem : ∀ (I : List (Int × Int)) (lo : Int), AscI lo I → ∀ p ∈ I, lo ≤ p.1 ∧ (∃ w, Cls w p.1 p.2) ∧ cutAll p.1 p.2 = none
  | [], _, _, p, hp => by cases hp
  | q :: I, lo, ⟨h1, h2, h3, h4⟩, p, hp => by
    rcases List.mem_cons.1 hp with rfl | hp
    · exact ⟨h1, h2, h3⟩
    · have := ascI_mem I _ h4 p hp
      obtain ⟨w, hc⟩ := h2
      have := hc.le
      exact ⟨by omega, (ascI_mem I _ h4 p hp).2⟩
theorem memI_append (I J : List (Int × Int)) (r : Int) : memI (I ++ J) r = (memI I r || memI J r) := by unfold memI; rw [List.any_append]
/-- What a list of sequences is made of. -/
structure Made5 (L : List (List R)) (I : List (Int × Int)) (lo hi : Int) (P : Int → Prop) : Prop where
  eq : L = I.map zp
  asc : AscI lo I
  top : ∀ p ∈ I, p.2 ≤ hi
  mem : ∀ r, memI I r = true ↔ P r
theorem oneF_made : ∀ (f : Nat) (w : Nat) (lo hi : Int), Cls w lo hi → (hi - lo).toNat ≤ f → ∃ I, Made5 (oneF f lo hi) I lo hi (fun r => lo ≤ r ∧ r ≤ hi)
  | 0, w, lo, hi, h, hf => by
    have hle := h.le
    obtain rfl : lo = hi := by omega
    refine ⟨[(lo, lo)], rfl, ⟨Int.le_refl _, ⟨w, h⟩, ?_, trivial⟩, by simp, fun r => by simp [memI]⟩
    cases hc : cutAll lo lo with
    | none => rfl
    | some m => have := cutAll_in (Int.le_refl _) hc; omega
  | f + 1, w, lo, hi, h, hf => by
    have hle := h.le
    rw [oneF]
    cases hc : cutAll lo hi with
    | none => exact ⟨[(lo, hi)], rfl, ⟨Int.le_refl _, ⟨w, h⟩, hc, trivial⟩, by simp, fun r => by simp [memI]⟩
    | some m =>
      have hm := cutAll_in hle hc
      obtain ⟨I, h1⟩ := oneF_made f w lo m (h.sub (Int.le_refl _) (by omega) hm.1) (by omega)
      obtain ⟨J, h2⟩ := oneF_made f w (m + 1) hi (h.sub (by omega) (Int.le_refl _) (by omega)) (by omega)
      refine ⟨I ++ J, by dsimp only; rw [List.map_append, h1.eq, h2.eq], ascI_append I J lo m h1.asc h1.top h2.asc (by omega), fun p hp => ?_, fun r => ?_⟩
      · rcases List.mem_append.1 hp with hp | hp
        · have := h1.top p hp; omega
        · exact h2.top p hp
      · rw [memI_append, Bool.or_eq_true, h1.mem, h2.mem]; omega
theorem part_made (lo hi : Int) (c : Int × Int × Nat) (hc : c ∈ clsT) : ∃ I, Made5 (part lo hi c) I (max lo c.1) (min hi c.2.1) (fun r => max lo c.1 ≤ r ∧ r ≤ min hi c.2.1) := by
  unfold part
  split
  · rename_i h
    have hcl : Cls c.2.2 (max lo c.1) (min hi c.2.1) := by
      refine ⟨h, ?_⟩
      simp only [clsT, List.mem_cons, List.not_mem_nil, or_false] at hc
      rcases hc with rfl | rfl | rfl | rfl | rfl <;> simp <;> omega
    exact oneF_made _ c.2.2 _ _ hcl (Nat.le_refl _)
  · rename_i h
    exact ⟨[], rfl, trivial, by simp, fun r => by simp [memI]; omega⟩
theorem splitL_made (lo hi : Int) : ∃ I, Made5 (splitL lo hi) I lo hi (fun r => (lo ≤ r ∧ r ≤ hi) ∧ Utf.width r ≠ 0) := by
  obtain ⟨I1, h1⟩ := part_made lo hi (0, 127, 1) (by simp [clsT])
  obtain ⟨I2, h2⟩ := part_made lo hi (128, 2047, 2) (by simp [clsT])
  obtain ⟨I3, h3⟩ := part_made lo hi (2048, 55295, 3) (by simp [clsT])
  obtain ⟨I4, h4⟩ := part_made lo hi (57344, 65535, 3) (by simp [clsT])
  obtain ⟨I5, h5⟩ := part_made lo hi (65536, 1114111, 4) (by simp [clsT])
  dsimp only at h1 h2 h3 h4 h5
  have e : splitL lo hi = part lo hi (0, 127, 1) ++ (part lo hi (128, 2047, 2) ++ (part lo hi (2048, 55295, 3) ++ (part lo hi (57344, 65535, 3) ++ part lo hi (65536, 1114111, 4)))) := by simp [splitL, clsT]
  refine ⟨I1 ++ (I2 ++ (I3 ++ (I4 ++ I5))), by rw [e, h1.eq, h2.eq, h3.eq, h4.eq, h5.eq]; simp, ?_, fun p hp => ?_, fun r => ?_⟩
  · have a5 := ascI_mono I5 _ 65536 (by omega) h5.asc
    have a4 := ascI_append I4 I5 57344 65535 (ascI_mono I4 _ _ (by omega) h4.asc) (fun p hp => by have := h4.top p hp; omega) (by simpa using a5) (by omega)
    have a3 := ascI_append I3 (I4 ++ I5) 2048 55295 (ascI_mono I3 _ _ (by omega) h3.asc) (fun p hp => by have := h3.top p hp; omega) (ascI_mono _ _ _ (by omega) a4) (by omega)
    have a2 := ascI_append I2 (I3 ++ (I4 ++ I5)) 128 2047 (ascI_mono I2 _ _ (by omega) h2.asc) (fun p hp => by have := h2.top p hp; omega) (ascI_mono _ _ _ (by omega) a3) (by omega)
    have a1 := ascI_append I1 (I2 ++ (I3 ++ (I4 ++ I5))) 0 127 (ascI_mono I1 _ _ (by omega) h1.asc) (fun p hp => by have := h1.top p hp; omega) (ascI_mono _ _ _ (by omega) a2) (by omega)
    -- from lo on: the first interval begins at lo or later
    have hall : ∀ p ∈ I1 ++ (I2 ++ (I3 ++ (I4 ++ I5))), lo ≤ p.1 := fun p hp => by
      simp only [List.mem_append] at hp
      rcases hp with hp | hp | hp | hp | hp
      · have := (ascI_mem _ _ h1.asc p hp).1; omega
      · have := (ascI_mem _ _ h2.asc p hp).1; omega
      · have := (ascI_mem _ _ h3.asc p hp).1; omega
      · have := (ascI_mem _ _ h4.asc p hp).1; omega
      · have := (ascI_mem _ _ h5.asc p hp).1; omega
    revert a1 hall
    generalize I1 ++ (I2 ++ (I3 ++ (I4 ++ I5))) = I
    intro a1 hall
    cases I with
    | nil => trivial
    | cons p I => exact ⟨hall p (by simp), a1.2⟩
  · simp only [List.mem_append] at hp
    rcases hp with hp | hp | hp | hp | hp
    · have := h1.top p hp; omega
    · have := h2.top p hp; omega
    · have := h3.top p hp; omega
    · have := h4.top p hp; omega
    · have := h5.top p hp; omega
  · rw [memI_append, memI_append, memI_append, memI_append]
    simp only [Bool.or_eq_true]
    rw [h1.mem, h2.mem, h3.mem, h4.mem, h5.mem]
    rcases Utf.width_cases r with ⟨q, z⟩ | ⟨q, z⟩ | ⟨q, z⟩ | ⟨q, z⟩ | ⟨q, z⟩ <;> rw [q] <;> omega
theorem ofL_made : ∀ (B : List R) (lo : Int), NormFrom lo B → ∃ I, Made5 (ofL B) I lo 1114111 (fun r => (∃ p ∈ B, p.1 ≤ r ∧ r ≤ p.2) ∧ Utf.width r ≠ 0)
  | [], lo, _ => ⟨[], rfl, trivial, by simp, fun r => by simp [memI]⟩
  | p :: B, lo, ⟨h1, h2, h3, h4⟩ => by
    obtain ⟨J, hJ⟩ := ofL_made B _ h4
    obtain ⟨I, hI⟩ := splitL_made p.1 p.2
    refine ⟨I ++ J, by rw [List.map_append, ← hI.eq, ← hJ.eq]; simp [ofL], ascI_append I J lo p.2 (ascI_mono I _ _ h1 hI.asc) hI.top (ascI_mono J _ _ (by omega) hJ.asc) (by omega), fun q hq => ?_, fun r => ?_⟩
    · rcases List.mem_append.1 hq with hq | hq
      · have := hI.top q hq; omega
      · exact hJ.top q hq
    · rw [memI_append, Bool.or_eq_true, hI.mem, hJ.mem]
      simp only [List.mem_cons, exists_eq_or_imp]
      constructor
      · rintro (⟨h, hw⟩ | ⟨h, hw⟩)
        · exact ⟨.inl h, hw⟩
        · exact ⟨.inr h, hw⟩
      · rintro ⟨h | h, hw⟩
        · exact .inl ⟨h, hw⟩
        · exact .inr ⟨h, hw⟩
/-! Which text an interval's sequence takes. -/
theorem Cls.nonneg {w : Nat} {a b : Int} (h : Cls w a b) : 0 ≤ a ∧ w ≠ 0 := by have := h.bd; omega
theorem fit_dec {w : Nat} {a b : Int} (h : Cls w a b) (hc : cutAll a b = none) (s : ByteArray) : fitB (zipE a b) s = true ↔ a ≤ (Utf.dec (Utf.nums s)).1 ∧ (Utf.dec (Utf.nums s)).1 ≤ b := by
  rw [fitB_iff, zipE_len h, take_iff h hc]
  have hw0 := h.nonneg
  constructor
  · rintro ⟨h1, h2, r, hr1, hr2, e⟩
    have hwr := h.width hr1 hr2
    have hd := Utf.dec_enc r (by omega) ((Utf.nums s).drop w)
    rw [← e, List.take_append_drop] at hd
    rw [hd]; exact ⟨hr1, hr2⟩
  · rintro ⟨h1, h2⟩
    rcases Utf.dec_some (Utf.nums s) (Utf.nums_bytes s) with ⟨_, hd⟩ | ⟨_, hd⟩ | ⟨hw, _, t, e⟩
    · rw [hd] at h1; dsimp only at h1; omega
    · rw [hd] at h1; dsimp only at h1; omega
    · have hwr := h.width h1 h2
      have hl := Utf.encN_length (Utf.dec (Utf.nums s)).1
      have hn := Utf.nums_length s
      refine ⟨by omega, ?_, _, h1, h2, ?_⟩
      · rw [← hn, e, List.length_append]; omega
      · rw [show (Utf.nums s).take w = (Utf.encN (Utf.dec (Utf.nums s)).1 ++ t).take w by rw [← e]]
        rw [List.take_append_of_le_length (by omega), List.take_of_length_le (by omega)]
theorem longN_asc : ∀ (I : List (Int × Int)) (lo : Int) (s : ByteArray), AscI lo I → longN (I.map zp) s = if memI I (Utf.dec (Utf.nums s)).1 = true then Utf.width (Utf.dec (Utf.nums s)).1 else 0
  | [], _, _, _ => by simp [longN, memI]
  | p :: I, lo, s, ⟨h1, ⟨w, h2⟩, h3, h4⟩ => by
    have ih := longN_asc I _ s h4
    have hf := fit_dec h2 h3 s
    rw [List.map_cons, longN]
    by_cases hb : fitB (zp p) s = true
    · have hr := hf.1 hb
      rw [if_pos hb, if_pos (by rw [memI_iff]; exact ⟨p, by simp, hr⟩), h2.width hr.1 hr.2]
      unfold zp; rw [zipE_len h2]
    · rw [if_neg hb, ih]
      have hr : ¬ (p.1 ≤ (Utf.dec (Utf.nums s)).1 ∧ (Utf.dec (Utf.nums s)).1 ≤ p.2) := fun h => hb (hf.2 h)
      have e : memI (p :: I) (Utf.dec (Utf.nums s)).1 = memI I (Utf.dec (Utf.nums s)).1 := by
        unfold memI; rw [List.any_cons, decide_eq_false hr, Bool.false_or]
      rw [e]
/-- At most one of them takes a text. -/
theorem once_asc : ∀ (I : List (Int × Int)) (lo : Int) (s : ByteArray), AscI lo I → (I.filter fun p => fitB (zp p) s).length ≤ 1
  | [], _, _, _ => by simp
  | p :: I, lo, s, ⟨h1, ⟨w, h2⟩, h3, h4⟩ => by
    have ih := once_asc I _ s h4
    rw [List.filter_cons]
    split
    · rename_i hb
      have hr := (fit_dec h2 h3 s).1 hb
      have : I.filter (fun p => fitB (zp p) s) = [] := by
        rw [List.filter_eq_nil_iff]
        intro q hq hb2
        obtain ⟨hq1, ⟨w', hq2⟩, hq3⟩ := ascI_mem I _ h4 q hq
        have := (fit_dec hq2 hq3 s).1 hb2
        omega
      rw [this]; simp
    · exact ih
/-! From behind. -/
theorem fitL_rev : ∀ (q : List R) (l : List Int), q.length = l.length → (fitL q.reverse l.reverse ↔ fitL q l)
  | [], [], _ => by simp
  | p :: q, x :: l, h => by
    have hl : q.length = l.length := by simpa using h
    rw [List.reverse_cons, List.reverse_cons, fitL_snoc _ _ _ _ (by simpa using hl), fitL_rev q l hl]
    simp only [fitL]
    exact ⟨fun ⟨h1, h2⟩ => ⟨h2, h1⟩, fun ⟨h1, h2⟩ => ⟨h2, h1⟩⟩
  | [], _ :: _, h => by simp at h
  | _ :: _, [], h => by simp at h
theorem enc_inj {a b : Int} (ha : Utf.width a ≠ 0) (hb : Utf.width b ≠ 0) (h : Utf.encN a = Utf.encN b) : a = b := by
  have h1 := Utf.dec_enc a ha []
  have h2 := Utf.dec_enc b hb []
  rw [h, h2] at h1
  exact (congrArg Prod.fst h1).symm
theorem fit_turn {w : Nat} {a b r : Int} (h : Cls w a b) (hc : cutAll a b = none) (hr : Utf.width r ≠ 0) (s : ByteArray) (hs : Utf.nums s = (Utf.encN r).reverse) : fitB (zipE a b).reverse s = true ↔ a ≤ r ∧ r ≤ b := by
  have hw0 := h.nonneg
  have hl := Utf.encN_length r
  have hn := Utf.nums_length s
  have hwa := h.width (Int.le_refl _) h.le
  have hwb := h.width h.le (Int.le_refl _)
  have hz := zipE_len h
  rw [fitB_iff, List.length_reverse, hz, hs]
  rw [hs, List.length_reverse] at hn
  rcases (by omega : w = Utf.width r ∨ (Utf.width r : Int) < w ∨ (w : Int) < Utf.width r) with e | e | e
  · rw [List.take_of_length_le (by rw [List.length_reverse]; omega), fitL_rev _ _ (by rw [hz]; omega), take_iff h hc]
    constructor
    · rintro ⟨_, _, r', h1, h2, e'⟩
      have := h.width h1 h2
      obtain rfl := enc_inj hr (by omega) e'
      exact ⟨h1, h2⟩
    · rintro ⟨h1, h2⟩
      exact ⟨by omega, by omega, r, h1, h2, rfl⟩
  · constructor
    · rintro ⟨_, h1, _⟩; omega
    · rintro ⟨h1, h2⟩; have := h.width h1 h2; omega
  · constructor
    · rintro ⟨_, _, h3⟩
      exfalso
      have hwr := (Utf.width_le r).2
      rcases (by omega : w = 1 ∨ w = 2 ∨ w = 3) with rfl | rfl | rfl
      · unfold zipE at h3
        rw [enc1 hwa, enc1 hwb] at h3
        have hbd := h.bd
        rcases (by omega : Utf.width r = (2 : Nat) ∨ Utf.width r = (3 : Nat) ∨ Utf.width r = (4 : Nat)) with q | q | q
        · rw [enc2 q] at h3; simp [fitL] at h3; omega
        · rw [enc3 q] at h3; simp [fitL] at h3; omega
        · rw [enc4 q] at h3; simp [fitL] at h3; omega
      · unfold zipE at h3
        rw [enc2 hwa, enc2 hwb] at h3
        have hbd := h.bd
        rcases (by omega : Utf.width r = (3 : Nat) ∨ Utf.width r = (4 : Nat)) with q | q
        · rw [enc3 q] at h3; simp [fitL] at h3; omega
        · rw [enc4 q] at h3; simp [fitL] at h3; omega
      · unfold zipE at h3
        rw [enc3 hwa, enc3 hwb] at h3
        have hbd := h.bd
        rw [enc4 (by omega : Utf.width r = (4 : Nat))] at h3
        simp [fitL] at h3; omega
    · rintro ⟨h1, h2⟩; have := h.width h1 h2; omega
theorem longN_turn : ∀ (I : List (Int × Int)) (lo : Int) (r : Int) (s : ByteArray), AscI lo I → Utf.width r ≠ 0 → Utf.nums s = (Utf.encN r).reverse → longN (turnL (I.map zp)) s = if memI I r = true then Utf.width r else 0
  | [], _, _, _, _, _, _ => by simp [longN, memI, turnL]
  | p :: I, lo, r, s, ⟨h1, ⟨w, h2⟩, h3, h4⟩, hr, hs => by
    have ih := longN_turn I _ r s h4 hr hs
    have hf := fit_turn h2 h3 hr s hs
    unfold turnL at ih ⊢
    rw [List.map_cons, List.map_cons, longN]
    by_cases hb : fitB (zp p).reverse s = true
    · have hx := hf.1 hb
      rw [if_pos hb, if_pos (by rw [memI_iff]; exact ⟨p, by simp, hx⟩), h2.width hx.1 hx.2, List.length_reverse]
      unfold zp; rw [zipE_len h2]
    · rw [if_neg hb, ih]
      have hx : ¬ (p.1 ≤ r ∧ r ≤ p.2) := fun h => hb (hf.2 h)
      have e : memI (p :: I) r = memI I r := by unfold memI; rw [List.any_cons, decide_eq_false hx, Bool.false_or]
      rw [e]
theorem turnL_turnL (L : List (List R)) : turnL (turnL L) = L := by simp [turnL, Function.comp_def]
end Go.Proofs.Ytfopcgbfbedcjaa.Bd
namespace Go.Proofs.Ytfopcgbfbedcjaa.Bd
open Go.Proofs.Ytfopcgbfbedcjaa.Rg
set_option linter.unusedVariables false
theorem zip_fst : ∀ (l m : List Int), l.length = m.length → (l.zip m).map Prod.fst = l
  | [], [], _ => rfl
  | a :: l, b :: m, h => by simp [zip_fst l m (by simpa using h)]
  | [], _ :: _, h => by simp at h
  | _ :: _, [], h => by simp at h
theorem zipE_fst {w : Nat} {a b : Int} (h : Cls w a b) : (zipE a b).map Prod.fst = Utf.encN a := by
  have h1 := Utf.encN_length a
  have h2 := Utf.encN_length b
  rw [h.width (Int.le_refl _) h.le] at h1
  rw [h.width h.le (Int.le_refl _)] at h2
  exact zip_fst _ _ (by omega)
theorem fitL_fst : ∀ (q : List R), fitL q (q.map Prod.fst) → ∀ p ∈ q, p.1 ≤ p.2
  | [], _, p, hp => by cases hp
  | a :: q, h, p, hp => by
    rcases List.mem_cons.1 hp with rfl | hp
    · exact h.1.2
    · exact fitL_fst q h.2 p hp
theorem zip_bytes : ∀ (l m : List Int), Utf.Bytes l → Utf.Bytes m → ∀ p ∈ l.zip m, (0 ≤ p.1 ∧ p.1 < 256) ∧ 0 ≤ p.2 ∧ p.2 < 256
  | [], _, _, _, p, hp => by simp at hp
  | _ :: _, [], _, _, p, hp => by simp at hp
  | a :: l, b :: m, hl, hm, p, hp => by
    rw [List.zip_cons_cons] at hp
    rcases List.mem_cons.1 hp with rfl | hp
    · exact ⟨hl a (by simp), hm b (by simp)⟩
    · exact zip_bytes l m (fun x hx => hl x (List.mem_cons_of_mem _ hx)) (fun x hx => hm x (List.mem_cons_of_mem _ hx)) p hp
/-- Each range of a sequence is one of bytes and not empty; its first bytes are the encoding of the first rune. -/
theorem zipE_ok {w : Nat} {a b : Int} (h : Cls w a b) (hc : cutAll a b = none) : (∀ p ∈ zipE a b, p.1 ≤ p.2 ∧ 0 ≤ p.1 ∧ p.1 ≤ 255 ∧ p.2 ≤ 255) ∧ (zipE a b).map Prod.fst = Utf.encN a ∧ (zipE a b).length = w ∧ Utf.width a = w ∧ w ≠ 0 := by
  have h0 := (take_iff h hc (Utf.encN a)).2 ⟨a, Int.le_refl _, h.le, rfl⟩
  rw [← zipE_fst h] at h0
  refine ⟨fun p hp => ?_, zipE_fst h, zipE_len h, h.width (Int.le_refl _) h.le, h.nonneg.2⟩
  have h1 := fitL_fst _ h0 p hp
  have h2 := zip_bytes _ _ (Utf.encN_bytes a) (Utf.encN_bytes b) p hp
  omega
end Go.Proofs.Ytfopcgbfbedcjaa.Bd
namespace Go.Proofs.Ytfopcgbfbedcjaa
open Go.RowKit
set_option linter.unusedVariables false
namespace Bd
/-- Few sequences, each short and of numbers of an int. -/
structure SeqOk (L : List (List (Int × Int))) : Prop where
  len : L.length ≤ 1114113
  each : ∀ q ∈ L, q.length ≤ 4 ∧ Wide64 q
theorem asc_ok {I : List (Int × Int)} {lo : Int} (h : AscI lo I) : ∀ q ∈ I.map zp, q.length ≤ 4 ∧ Wide64 q := by
  intro q hq
  obtain ⟨p, hp, rfl⟩ := List.mem_map.1 hq
  obtain ⟨_, ⟨w, hc⟩, hn⟩ := ascI_mem I lo h p hp
  have hz := zipE_ok hc hn
  have hb := hc.bd
  unfold zp
  refine ⟨by rw [hz.2.2.1]; omega, fun x hx => ?_⟩
  have := hz.1 x hx
  omega
theorem splitL_ok (lo hi : Int) : SeqOk (splitL lo hi) := by
  refine ⟨?_, ?_⟩
  · by_cases h : max lo 0 ≤ min hi 1114111
    · have := splitL_len (lo := max lo 0) (hi := min hi 1114111) (by omega) h (by omega)
      rw [← splitL_clamp] at this
      omega
    · rw [splitL_clamp, splitL_nil (by omega)]; simp
  · obtain ⟨I, hI⟩ := splitL_made lo hi
    rw [hI.eq]
    exact asc_ok hI.asc
theorem ofL_ok {B : List Rg.R} (h : Rg.NormL B) : SeqOk (ofL B) := by
  refine ⟨?_, ?_⟩
  · have := ofL_len B 0 B.length h (Int.le_refl 0) (by omega)
    rw [List.take_length] at this
    omega
  · obtain ⟨I, hI⟩ := ofL_made B 0 h
    rw [hI.eq]
    exact asc_ok hI.asc
theorem split_two : splitL 128 2047 = [[(194, 223), (128, 191)]] := by
  rw [splitL_cls (w := 2) ⟨by decide, .inr (.inl ⟨rfl, by decide, by decide⟩)⟩, oneL_none (by decide)]
  decide
theorem split_all : (splitL 0 1114111).length = 9 := by
  rw [splitL_parts, part_at (c := (0, 127, 1)) (a := 0) (b := 127) (by decide) (by decide) (by decide), part_at (c := (128, 2047, 2)) (a := 128) (b := 2047) (by decide) (by decide) (by decide), part_at (c := (2048, 55295, 3)) (a := 2048) (b := 55295) (by decide) (by decide) (by decide),
    part_at (c := (57344, 65535, 3)) (a := 57344) (b := 65535) (by decide) (by decide) (by decide), part_at (c := (65536, 1114111, 4)) (a := 65536) (b := 1114111) (by decide) (by decide) (by decide)]
  rw [oneL_none (lo := 0) (hi := 127) (by decide), oneL_none (lo := 128) (hi := 2047) (by decide), oneL_none (lo := 57344) (hi := 65535) (by decide)]
  rw [oneL_some (lo := 2048) (hi := 55295) (m := 4095) (by decide) (by decide), oneL_none (lo := 2048) (hi := 4095) (by decide)]
  rw [show ((4095 : Int) + 1) = 4096 from rfl, oneL_some (lo := 4096) (hi := 55295) (m := 53247) (by decide) (by decide), oneL_none (lo := 4096) (hi := 53247) (by decide)]
  rw [show ((53247 : Int) + 1) = 53248 from rfl, oneL_none (lo := 53248) (hi := 55295) (by decide)]
  rw [oneL_some (lo := 65536) (hi := 1114111) (m := 262143) (by decide) (by decide), oneL_none (lo := 65536) (hi := 262143) (by decide)]
  rw [show ((262143 : Int) + 1) = 262144 from rfl, oneL_some (lo := 262144) (hi := 1114111) (m := 1048575) (by decide) (by decide), oneL_none (lo := 262144) (hi := 1048575) (by decide)]
  rw [show ((1048575 : Int) + 1) = 1048576 from rfl, oneL_none (lo := 1048576) (hi := 1114111) (by decide)]
  rfl
theorem long_two : longN [[(194, 223), (128, 191)]] ⟨#[195, 169, 120]⟩ = 2 := by decide
end Bd
theorem QOwnU.row2 {W : World} {base : Nat} {v : Value} {us : List Value} {L : List (List (Int × Int))} (h : QOwnU W base v us L) (ok : Bd.SeqOk L) : QRow W v L :=
  h.row (by have := ok.len; omega) (fun q hq => ⟨by have := (ok.each q hq).1; omega, (ok.each q hq).2⟩)
theorem rrow_lits2 (W : World) (x y z u : Int) (hb : (-9223372036854775808 ≤ x ∧ x ≤ 9223372036854775807) ∧ (-9223372036854775808 ≤ y ∧ y ≤ 9223372036854775807) ∧ (-9223372036854775808 ≤ z ∧ z ≤ 9223372036854775807) ∧ -9223372036854775808 ≤ u ∧ u ≤ 9223372036854775807) (t : TypeId) :
    RRow (W.alloc (.cells #[.int .i64 x, .int .i64 y, .int .i64 z, .int .i64 u] t)) (.slice (some ⟨W.heap.size, 0, none⟩) 2 2) [(x, y), (z, u)] :=
  ⟨_, 2, rfl, by simp, (fun p hp => by simp at hp; rcases hp with rfl | rfl <;> (dsimp only; omega)), fun j hj => by
    have hj2 : j < 2 := by simpa using hj
    match j, hj2 with
    | 0, _ => exact ⟨W.heap.size, 0, rfl, by simp, by simp, by simp⟩
    | 1, _ => exact ⟨W.heap.size, 0, rfl, by simp, by simp, by simp⟩⟩
set_option maxRecDepth 100000 in
set_option maxHeartbeats 4000000 in
theorem works5_any (W : World) : Calls Try.prog 8 #[] W fun e w' => e = .returned (.bool true) ∧ Below W.heap.size W w' := by
  go_enter Try.func8, Try.ntmps8
  go_wp2_with fail
  refine (split_any W 128 2047 (by decide) (by decide)).mono ?_
  rintro e w1 ⟨v, us, rfl, hq, hb⟩
  have hr := hq.row2 (Bd.splitL_ok 128 2047)
  rw [Bd.split_two] at hr
  have HR := Lib.hid hr
  obtain ⟨a, cap, rfl, _, hc⟩ := hr
  obtain ⟨g, off, u, rfl, hg, hc0, hu⟩ := hc 0 (by decide)
  have HU := Lib.hid hu
  have HB := Lib.hid hb
  obtain ⟨ua, uc, rfl, _⟩ := hu
  rw [Nat.add_zero] at hc0
  have e1 : ([[((194 : Int), (223 : Int)), (128, 191)]] : List (List (Int × Int))).length = 1 := rfl
  have e2 : ([[((194 : Int), (223 : Int)), (128, 191)]][0]?.getD []).length = 2 := rfl
  rw [e2] at hc0 HU
  rw [e1] at HR ⊢
  clear hq hb hc e1 e2
  go_wp2_with fail
  have hlit := rrow_lits2 w1 194 223 128 191 (by decide) 44
  refine (same_rg _ _ _ [(194, 223), (128, 191)] [(194, 223), (128, 191)] (HU.out.below (Nat.le_refl _) ((Below.refl w1.heap.size w1).alloc (Nat.le_refl _) _)) hlit).mono ?_
  rintro e w2 ⟨rfl, d, rfl⟩
  rw [decide_eq_true (rfl : [((194 : Int), (223 : Int)), (128, 191)] = [(194, 223), (128, 191)])]
  have HB2 := Lib.hid (below_drewN (((Below.refl w1.heap.size w1).alloc (Nat.le_refl _) (.cells #[.int .i64 194, .int .i64 223, .int .i64 128, .int .i64 191] 44))) d)
  clear hlit
  go_wp2_with fail
  refine (split_any _ 0 1114111 (by decide) (by decide)).mono ?_
  rintro e w3 ⟨v3, us3, rfl, hq3, hb3⟩
  have hr3 := hq3.row2 (Bd.splitL_ok 0 1114111)
  obtain ⟨a3, cap3, rfl, _⟩ := hr3
  have HB3 := Lib.hid (HB2.out.trans (hb3.mono HB2.out.size))
  rw [Bd.split_all]
  clear hq3 hb3
  go_wp2_with fail
  refine (long_any _ _ _ ⟨#[195, 169, 120]⟩ (by decide) (HR.out.below HB3.out)).mono ?_
  rintro e w4 ⟨rfl, hb4⟩
  rw [Bd.long_two]
  have HB4 := Lib.hid ((HB.out.trans (HB3.out.mono HB.out.size)).trans (hb4.mono (HB.out.trans (HB3.out.mono HB.out.size)).size))
  clear hb4
  go_wp2
  go_ret
  exact ⟨rfl, HB4.out⟩
end Go.Proofs.Ytfopcgbfbedcjaa
namespace Go.Proofs.Ytfopcgbfbedcjaa.Bd
open Go.Proofs.Ytfopcgbfbedcjaa.Rg
set_option linter.unusedVariables false
theorem dec_w (l : List Int) (hb : Utf.Bytes l) (h : Utf.width (Utf.dec l).1 ≠ 0) : (Utf.dec l).2 = Utf.width (Utf.dec l).1 := by
  rcases Utf.dec_some l hb with ⟨_, e⟩ | ⟨_, e⟩ | hs
  · rw [e] at h; exact absurd (Utf.width_neg (-1) (by decide)) h
  · rw [e] at h; exact absurd (Utf.width_neg (-1) (by decide)) h
  · exact hs.2.1
/-- The sequences of a set, as intervals. -/
structure SetI (l : List R) (L : List (List R)) (I : List (Int × Int)) : Prop where
  eq : L = I.map zp
  asc : AscI 0 I
  mem : ∀ r, memI I r = true ↔ hasB l r = true ∧ Utf.width r ≠ 0
theorem runes_has {r : Int} (h : Utf.width r ≠ 0) : hasB runesT r = true := by
  rw [hasB_iff]
  simp only [runesT, List.mem_cons, List.mem_nil_iff, or_false, exists_eq_or_imp, exists_eq_left]
  rcases Utf.width_cases r with ⟨q, z⟩ | ⟨q, z⟩ | ⟨q, z⟩ | ⟨q, z⟩ | ⟨q, z⟩ <;> omega
theorem width_pos {r : Int} (h : Utf.width r ≠ 0) : 0 ≤ r ∧ r ≤ 1114111 := by
  rcases Utf.width_cases r with ⟨q, z⟩ | ⟨q, z⟩ | ⟨q, z⟩ | ⟨q, z⟩ | ⟨q, z⟩ <;> omega
theorem setI {l C : List R} (hC : Made 2 l runesT C) : ∃ I, SetI l (ofL C) I := by
  obtain ⟨I, hI⟩ := ofL_made C 0 hC.norm
  refine ⟨I, hI.eq, hI.asc, fun r => ?_⟩
  rw [hI.mem]
  constructor
  · rintro ⟨h, hw⟩
    have hp := width_pos hw
    have e := hC.has r hp.1 hp.2
    rw [(norm_has hC.norm r).2 h] at e
    refine ⟨?_, hw⟩
    cases hq : hasB l r
    · rw [hq] at e; simp [opB] at e
    · rfl
  · rintro ⟨h, hw⟩
    have hp := width_pos hw
    have e := hC.has r hp.1 hp.2
    rw [h, runes_has hw] at e
    exact ⟨(norm_has hC.norm r).1 (by rw [e]; rfl), hw⟩
theorem SetI.yes {l : List R} {L : List (List R)} {I : List (Int × Int)} (h : SetI l L I) (s : ByteArray) {r : Int} (hd : (Utf.dec (Utf.nums s)).1 = r) (h1 : hasB l r = true) (h2 : Utf.width r ≠ 0) : longN L s = Utf.width r := by
  rw [h.eq, longN_asc I 0 s h.asc, hd, if_pos ((h.mem r).2 ⟨h1, h2⟩)]
theorem SetI.no {l : List R} {L : List (List R)} {I : List (Int × Int)} (h : SetI l L I) (s : ByteArray) {r : Int} (hd : (Utf.dec (Utf.nums s)).1 = r) (h1 : ¬ (hasB l r = true ∧ Utf.width r ≠ 0)) : longN L s = 0 := by
  rw [h.eq, longN_asc I 0 s h.asc, hd, if_neg (fun e => h1 ((h.mem r).1 e))]
theorem SetI.turnYes {l : List R} {L : List (List R)} {I : List (Int × Int)} (h : SetI l L I) {s : ByteArray} {r : Int} (hs : Utf.nums s = (Utf.encN r).reverse) (h1 : hasB l r = true) (h2 : Utf.width r ≠ 0) : longN (turnL L) s = Utf.width r := by
  rw [h.eq, longN_turn I 0 r s h.asc h2 hs, if_pos ((h.mem r).2 ⟨h1, h2⟩)]
theorem SetI.turnNo {l : List R} {L : List (List R)} {I : List (Int × Int)} (h : SetI l L I) {s : ByteArray} {r : Int} (hs : Utf.nums s = (Utf.encN r).reverse) (h1 : hasB l r ≠ true) (h2 : Utf.width r ≠ 0) : longN (turnL L) s = 0 := by
  rw [h.eq, longN_turn I 0 r s h.asc h2 hs, if_neg (fun e => h1 ((h.mem r).1 e).1)]
end Go.Proofs.Ytfopcgbfbedcjaa.Bd
namespace Go.Proofs.Ytfopcgbfbedcjaa
open Go.RowKit
set_option linter.unusedVariables false
/-- The mark of a range over a function. -/
def markOf (D : Nat) : Deferred := { target := .collected D, args := #[] }
/-- The marks that a function has laid, from block B on: each block still open. -/
structure Marks (B : Nat) (w : World) (Ds : List Nat) : Prop where
  nodup : Ds.Nodup
  at_ : ∀ D ∈ Ds, B ≤ D ∧ w.heap[D]? = some (.deferred (some []))
theorem Marks.nil (B : Nat) (w : World) : Marks B w [] := ⟨List.nodup_nil, fun D h => by cases h⟩
theorem Marks.below {B : Nat} {w w' : World} {Ds : List Nat} (h : Marks B w Ds) (hb : Below w.heap.size w w') : Marks B w' Ds :=
  ⟨h.nodup, fun D hD => ⟨(h.at_ D hD).1, (hb.block D (Array.getElem?_eq_some_iff.1 (h.at_ D hD).2).1).trans (h.at_ D hD).2⟩⟩
theorem Marks.cons {B D : Nat} {w0 w' : World} {Ds : List Nat} (h : Marks B w0 Ds) (hb : Below w0.heap.size w0 w') (hD : w0.heap.size ≤ D) (hB : B ≤ w0.heap.size) (hd : w'.heap[D]? = some (.deferred (some []))) : Marks B w' (D :: Ds) :=
  ⟨List.nodup_cons.2 ⟨fun hm => by have := (Array.getElem?_eq_some_iff.1 (h.at_ D hm).2).1; omega, h.nodup⟩, fun x hx => by
    rcases List.mem_cons.1 hx with rfl | hx
    · exact ⟨by omega, hd⟩
    · exact (h.below hb).at_ x hx⟩
theorem Marks.keep {B : Nat} {w w' : World} {Ds : List Nat} (h : Marks B w Ds) (hb : KeepsOthers w w') : Marks B w' Ds :=
  ⟨h.nodup, fun D hD => ⟨(h.at_ D hD).1, hb.same D _ (h.at_ D hD).2 rfl⟩⟩
/-- A world in which nothing but marks has turned. -/
structure Shut (B : Nat) (w w' : World) : Prop where
  below : Below B w w'
  cells : ∀ (k : Nat) (o : Obj), w.heap[k]? = some o → o.isCells = true → w'.heap[k]? = some o
theorem Shut.refl (B : Nat) (w : World) : Shut B w w := ⟨Below.refl _ _, fun _ _ h _ => h⟩
theorem Shut.put {B D : Nat} {w w' : World} (h : Shut B (w.putObj D (.deferred none)) w') (hD : B ≤ D) (hd : w.heap[D]? = some (.deferred (some []))) (hB : B ≤ w.heap.size) : Shut B w w' := by
  refine ⟨((Below.refl B w).grown (grownBy_putObj' w D _) hB (fun k e => by cases e; exact hD)).trans h.below, fun k o hk ho => ?_⟩
  refine h.cells k o ?_ ho
  refine ((grownBy_putObj' w D (.deferred none)).block k (Array.getElem?_eq_some_iff.1 hk).1 (fun e => ?_)).trans hk
  injection e with e
  subst e
  rw [hd] at hk
  cases hk
  cases ho
theorem leaves_marks {F : Fence} {n : Nat} {P : Program} {fn : Func} {tmps : Array Value} {R : Ending → World → Prop} {B : Nat} : ∀ (Ds : List Nat) (w : World), Marks B w Ds → B ≤ w.heap.size →
    (∀ w', Shut B w w' → LeavesInM F n P fn tmps R [] .returning w') → LeavesInM F n P fn tmps R (Ds.map markOf) .returning w
  | [], w, _, _, h => h w (Shut.refl _ _)
  | D :: Ds, w, hm, hB, h => by
    have h0 := hm.at_ D (List.mem_cons_self ..)
    have hn := List.nodup_cons.1 hm.nodup
    refine ⟨by simp, .inl ⟨D, _, rfl, run_takeDeferred h0.2, ?_⟩⟩
    refine leaves_marks Ds _ ⟨hn.2, fun x hx => ?_⟩ (by simpa using hB) (fun w' hs => h w' (hs.put h0.1 h0.2 hB))
    have h1 := hm.at_ x (List.mem_cons_of_mem _ hx)
    refine ⟨h1.1, ((grownBy_putObj' w D (.deferred none)).block x (Array.getElem?_eq_some_iff.1 h1.2).1 (fun e => ?_)).trans h1.2⟩
    injection e with e
    subst e
    exact hn.1 hx
theorem ownsRow_shut {w w' : World} {B base : Nat} {e : TypeId} {size n : Nat} {v : Value} {xs : List Value} (h : w.ownsRow base e size v n xs) (hs : Shut B w w') : w'.ownsRow base e size v n xs :=
  ⟨h.1, h.2.imp id (fun ⟨g, cap, cur, h1, h2, h3, h4⟩ => ⟨g, cap, cur, h1, h2, hs.cells _ _ h3 rfl, h4⟩)⟩
theorem boxed_own2 {W W' : World} {B : Nat} {t : TypeId} {v : Value} {row : Option Nat} (h : Boxed W B t v) (hg : W.grownBy W' row) (hr : ∀ r, row = some r → ∃ o : Obj, W.heap[r]? = some o ∧ o.isCells = false) : Boxed W' B t v :=
  h.kept hg (fun e => by
    obtain ⟨o, ho, hc⟩ := hr B e.symm
    rw [show W.heap[B]? = _ from h] at ho
    cases ho
    cases hc)
theorem rgOwn_own2 {W W' : World} {base : Nat} {v : Value} {l : List (Int × Int)} {row : Option Nat} (h : RgOwn W base v l) (hg : W.grownBy W' row) (hr : ∀ r, row = some r → ∃ o : Obj, W.heap[r]? = some o ∧ o.isCells = false) : RgOwn W' base v l := by
  refine World.ownsRow.kept h hg ?_
  rcases h.2 with ⟨rfl, _⟩ | ⟨g, cap, cur, rfl, _, hgb, _⟩
  · exact .inl rfl
  · refine .inr fun e => ?_
    obtain ⟨o, ho, hc⟩ := hr g e.symm
    rw [hgb] at ho; cases ho; cases hc
/-- An append whose run is known, in a fenced walk. -/
theorem wpListIn_append_run2 {F : Fence} {n : Nat} {P : Program} {ops : Array Oper} {rest : List Oper} {o : Oper} {a : Act} {w : World} {Q : Exit → Act → World → Prop} (hgd : o.guard = none) (s x : Operand) (t : TypeId)
    (ho : o.op = .call { callee := .builtin .append, args := #[s, x], argTypes := #[t, t] }) (vs vx v' : Value) (w' : World) (hs : a.eval s = vs) (hx : a.eval x = vx)
    (hr : (Builtin.append_ #[t, t] o.type #[vs, vx]).run P w = .ok v' w') (h : wpListIn F n P ops Q rest (a.put o.dst v') w') : wpListIn F n P ops Q (o :: rest) a w := by
  refine wpListIn_plain hgd fun K hK' => ?_
  unfold Oper.wpIn
  refine ⟨?_, ?_⟩
  · simp [Oper.about, ho, resolve, Target.leads, Sem.run_pure]
  · rw [Oper.semAt_plain F _ _ (by rw [ho]; intro c hc'; cases hc')]
    simp [execOp, ho, resolve, invoke, builtin, hs, hx, hr, Result.andThen]
    exact hK' _ _ h
theorem grown_drewN2 (w : World) (n : Nat) (row : Option Nat) : w.grownBy (w.drewN n) row := ⟨rfl, rfl, rfl, Nat.le_refl _, fun _ _ _ => rfl⟩
end Go.Proofs.Ytfopcgbfbedcjaa
