/- The plain mathematics of bands: a set's sequences as ascending intervals of runes; which runes they take, from the front and from behind; no program. · The plain mathematics of bands: the first bytes of an interval's sequence; no program. · The laws' own example (burinlaw05.works); what reads as a list of sequences. · The plain mathematics of the laws of bands: a set's sequences as intervals, and what they take of a text; no program. · The order of texts, in numbers: no program. · The plain mathematics of BandsOnce: how many sequences take a text, and the order of their first bytes; no program. -/
import Derived.Test.YtfopcgbfbedcjaaPk14
import Derived.Test.YtfopcgbfbedcjaaPk10
import Derived.Test.YtfopcgbfbedcjaaPk4
namespace Go.Proofs.Ytfopcgbfbedcjaa.Bd
open Go.Proofs.Ytfopcgbfbedcjaa.Rg
set_option linter.unusedVariables false
def zp (p : Int × Int) : List R := zipE p.1 p.2
/-- Ascending intervals, each of one width and split nowhere. -/
def AscI : Int → List (Int × Int) → Prop
  | _, [] => True
  | lo, p :: I => lo ≤ p.1 ∧ (∃ w, Cls w p.1 p.2) ∧ cutAll p.1 p.2 = none ∧ AscI (p.2 + 1) I
def memI (I : List (Int × Int)) (r : Int) : Bool := I.any fun p => decide (p.1 ≤ r ∧ r ≤ p.2)
theorem memI_iff (I : List (Int × Int)) (r : Int) : memI I r = true ↔ ∃ p ∈ I, p.1 ≤ r ∧ r ≤ p.2 := by unfold memI; simp
theorem ascI_mono : ∀ (I : List (Int × Int)) (lo lo' : Int), lo' ≤ lo → AscI lo I → AscI lo' I
  | [], _, _, _, _ => trivial
  | p :: I, lo, lo', h, ⟨h1, h2⟩ => ⟨by omega, h2⟩
theorem ascI_append : ∀ (I J : List (Int × Int)) (lo m : Int), AscI lo I → (∀ p ∈ I, p.2 ≤ m) → AscI (m + 1) J → lo ≤ m + 1 → AscI lo (I ++ J)
  | [], J, lo, m, _, _, hJ, hl => ascI_mono J _ _ hl hJ
  | p :: I, J, lo, m, ⟨h1, h2, h3, h4⟩, hm, hJ, hl => ⟨h1, h2, h3, ascI_append I J _ m h4 (fun q hq => hm q (List.mem_cons_of_mem _ hq)) hJ (by have := hm p (by simp); omega)⟩
theorem ascI_mem : ∀ (I : List (Int × Int)) (lo : Int), AscI lo I → ∀ p ∈ I, lo ≤ p.1 ∧ (∃ w, Cls w p.1 p.2) ∧ cutAll p.1 p.2 = none
  | [], _, _, p, hp => by cases hp
  | q :: I, lo, ⟨h1, h2, h3, h4⟩, p, hp => by
    rcases List.mem_cons.1 hp with rfl | hp
    · exact ⟨h1, h2, h3⟩
    · have := ascI_mem I _ h4 p hp
      obtain ⟨w, hc⟩ := h2
      have := hc.le
      exact ⟨by omega, (ascI_mem I _ h4 p hp).2⟩
theorem memI_append (I J : List (Int × Int)) (r : Int) : memI (I ++ J) r = (memI I r || memI J r) := by unfold memI; rw [List.any_append]
/-- What a list of sequences is made of. -/
structure Made5 (L : List (List R)) (I : List (Int × Int)) (lo hi : Int) (P : Int → Prop) : Prop where
  eq : L = I.map zp
  asc : AscI lo I
  top : ∀ p ∈ I, p.2 ≤ hi
  mem : ∀ r, memI I r = true ↔ P r
theorem oneF_made : ∀ (f : Nat) (w : Nat) (lo hi : Int), Cls w lo hi → (hi - lo).toNat ≤ f → ∃ I, Made5 (oneF f lo hi) I lo hi (fun r => lo ≤ r ∧ r ≤ hi)
  | 0, w, lo, hi, h, hf => by
    have hle := h.le
    obtain rfl : lo = hi := by omega
    refine ⟨[(lo, lo)], rfl, ⟨Int.le_refl _, ⟨w, h⟩, ?_, trivial⟩, by simp, fun r => by simp [memI]⟩
    cases hc : cutAll lo lo with
    | none => rfl
    | some m => have := cutAll_in (Int.le_refl _) hc; omega
  | f + 1, w, lo, hi, h, hf => by
    have hle := h.le
    rw [oneF]
    cases hc : cutAll lo hi with
    | none => exact ⟨[(lo, hi)], rfl, ⟨Int.le_refl _, ⟨w, h⟩, hc, trivial⟩, by simp, fun r => by simp [memI]⟩
    | some m =>
      have hm := cutAll_in hle hc
      obtain ⟨I, h1⟩ := oneF_made f w lo m (h.sub (Int.le_refl _) (by omega) hm.1) (by omega)
      obtain ⟨J, h2⟩ := oneF_made f w (m + 1) hi (h.sub (by omega) (Int.le_refl _) (by omega)) (by omega)
      refine ⟨I ++ J, by dsimp only; rw [List.map_append, h1.eq, h2.eq], ascI_append I J lo m h1.asc h1.top h2.asc (by omega), fun p hp => ?_, fun r => ?_⟩
      · rcases List.mem_append.1 hp with hp | hp
        · have := h1.top p hp; omega
        · exact h2.top p hp
      · rw [memI_append, Bool.or_eq_true, h1.mem, h2.mem]; omega
theorem part_made (lo hi : Int) (c : Int × Int × Nat) (hc : c ∈ clsT) : ∃ I, Made5 (part lo hi c) I (max lo c.1) (min hi c.2.1) (fun r => max lo c.1 ≤ r ∧ r ≤ min hi c.2.1) := by
  unfold part
  split
  · rename_i h
    have hcl : Cls c.2.2 (max lo c.1) (min hi c.2.1) := by
      refine ⟨h, ?_⟩
      simp only [clsT, List.mem_cons, List.not_mem_nil, or_false] at hc
      rcases hc with rfl | rfl | rfl | rfl | rfl <;> simp <;> omega
    exact oneF_made _ c.2.2 _ _ hcl (Nat.le_refl _)
  · rename_i h
    exact ⟨[], rfl, trivial, by simp, fun r => by simp [memI]; omega⟩
theorem splitL_made (lo hi : Int) : ∃ I, Made5 (splitL lo hi) I lo hi (fun r => (lo ≤ r ∧ r ≤ hi) ∧ Utf.width r ≠ 0) := by
  obtain ⟨I1, h1⟩ := part_made lo hi (0, 127, 1) (by simp [clsT])
  obtain ⟨I2, h2⟩ := part_made lo hi (128, 2047, 2) (by simp [clsT])
  obtain ⟨I3, h3⟩ := part_made lo hi (2048, 55295, 3) (by simp [clsT])
  obtain ⟨I4, h4⟩ := part_made lo hi (57344, 65535, 3) (by simp [clsT])
  obtain ⟨I5, h5⟩ := part_made lo hi (65536, 1114111, 4) (by simp [clsT])
  dsimp only at h1 h2 h3 h4 h5
  have e : splitL lo hi = part lo hi (0, 127, 1) ++ (part lo hi (128, 2047, 2) ++ (part lo hi (2048, 55295, 3) ++ (part lo hi (57344, 65535, 3) ++ part lo hi (65536, 1114111, 4)))) := by simp [splitL, clsT]
  refine ⟨I1 ++ (I2 ++ (I3 ++ (I4 ++ I5))), by rw [e, h1.eq, h2.eq, h3.eq, h4.eq, h5.eq]; simp, ?_, fun p hp => ?_, fun r => ?_⟩
  · have a5 := ascI_mono I5 _ 65536 (by omega) h5.asc
    have a4 := ascI_append I4 I5 57344 65535 (ascI_mono I4 _ _ (by omega) h4.asc) (fun p hp => by have := h4.top p hp; omega) (by simpa using a5) (by omega)
    have a3 := ascI_append I3 (I4 ++ I5) 2048 55295 (ascI_mono I3 _ _ (by omega) h3.asc) (fun p hp => by have := h3.top p hp; omega) (ascI_mono _ _ _ (by omega) a4) (by omega)
    have a2 := ascI_append I2 (I3 ++ (I4 ++ I5)) 128 2047 (ascI_mono I2 _ _ (by omega) h2.asc) (fun p hp => by have := h2.top p hp; omega) (ascI_mono _ _ _ (by omega) a3) (by omega)
    have a1 := ascI_append I1 (I2 ++ (I3 ++ (I4 ++ I5))) 0 127 (ascI_mono I1 _ _ (by omega) h1.asc) (fun p hp => by have := h1.top p hp; omega) (ascI_mono _ _ _ (by omega) a2) (by omega)
    -- from lo on: the first interval begins at lo or later
    have hall : ∀ p ∈ I1 ++ (I2 ++ (I3 ++ (I4 ++ I5))), lo ≤ p.1 := fun p hp => by
      simp only [List.mem_append] at hp
      rcases hp with hp | hp | hp | hp | hp
      · have := (ascI_mem _ _ h1.asc p hp).1; omega
      · have := (ascI_mem _ _ h2.asc p hp).1; omega
      · have := (ascI_mem _ _ h3.asc p hp).1; omega
      · have := (ascI_mem _ _ h4.asc p hp).1; omega
      · have := (ascI_mem _ _ h5.asc p hp).1; omega
    revert a1 hall
    generalize I1 ++ (I2 ++ (I3 ++ (I4 ++ I5))) = I
    intro a1 hall
    cases I with
    | nil => trivial
    | cons p I => exact ⟨hall p (by simp), a1.2⟩
  · simp only [List.mem_append] at hp
    rcases hp with hp | hp | hp | hp | hp
    · have := h1.top p hp; omega
    · have := h2.top p hp; omega
    · have := h3.top p hp; omega
    · have := h4.top p hp; omega
    · have := h5.top p hp; omega
  · rw [memI_append, memI_append, memI_append, memI_append]
    simp only [Bool.or_eq_true]
    rw [h1.mem, h2.mem, h3.mem, h4.mem, h5.mem]
    rcases Utf.width_cases r with ⟨q, z⟩ | ⟨q, z⟩ | ⟨q, z⟩ | ⟨q, z⟩ | ⟨q, z⟩ <;> rw [q] <;> omega
theorem ofL_made : ∀ (B : List R) (lo : Int), NormFrom lo B → ∃ I, Made5 (ofL B) I lo 1114111 (fun r => (∃ p ∈ B, p.1 ≤ r ∧ r ≤ p.2) ∧ Utf.width r ≠ 0)
  | [], lo, _ => ⟨[], rfl, trivial, by simp, fun r => by simp [memI]⟩
  | p :: B, lo, ⟨h1, h2, h3, h4⟩ => by
    obtain ⟨J, hJ⟩ := ofL_made B _ h4
    obtain ⟨I, hI⟩ := splitL_made p.1 p.2
    refine ⟨I ++ J, by rw [List.map_append, ← hI.eq, ← hJ.eq]; simp [ofL], ascI_append I J lo p.2 (ascI_mono I _ _ h1 hI.asc) hI.top (ascI_mono J _ _ (by omega) hJ.asc) (by omega), fun q hq => ?_, fun r => ?_⟩
    · rcases List.mem_append.1 hq with hq | hq
      · have := hI.top q hq; omega
      · exact hJ.top q hq
    · rw [memI_append, Bool.or_eq_true, hI.mem, hJ.mem]
      simp only [List.mem_cons, exists_eq_or_imp]
      constructor
      · rintro (⟨h, hw⟩ | ⟨h, hw⟩)
        · exact ⟨.inl h, hw⟩
        · exact ⟨.inr h, hw⟩
      · rintro ⟨h | h, hw⟩
        · exact .inl ⟨h, hw⟩
        · exact .inr ⟨h, hw⟩
/-! Which text an interval's sequence takes. -/
theorem Cls.nonneg {w : Nat} {a b : Int} (h : Cls w a b) : 0 ≤ a ∧ w ≠ 0 := by have := h.bd; omega
theorem fit_dec {w : Nat} {a b : Int} (h : Cls w a b) (hc : cutAll a b = none) (s : ByteArray) : fitB (zipE a b) s = true ↔ a ≤ (Utf.dec (Utf.nums s)).1 ∧ (Utf.dec (Utf.nums s)).1 ≤ b := by
  rw [fitB_iff, zipE_len h, take_iff h hc]
  have hw0 := h.nonneg
  constructor
  · rintro ⟨h1, h2, r, hr1, hr2, e⟩
    have hwr := h.width hr1 hr2
    have hd := Utf.dec_enc r (by omega) ((Utf.nums s).drop w)
    rw [← e, List.take_append_drop] at hd
    rw [hd]; exact ⟨hr1, hr2⟩
  · rintro ⟨h1, h2⟩
    rcases Utf.dec_some (Utf.nums s) (Utf.nums_bytes s) with ⟨_, hd⟩ | ⟨_, hd⟩ | ⟨hw, _, t, e⟩
    · rw [hd] at h1; dsimp only at h1; omega
    · rw [hd] at h1; dsimp only at h1; omega
    · have hwr := h.width h1 h2
      have hl := Utf.encN_length (Utf.dec (Utf.nums s)).1
      have hn := Utf.nums_length s
      refine ⟨by omega, ?_, _, h1, h2, ?_⟩
      · rw [← hn, e, List.length_append]; omega
      · rw [show (Utf.nums s).take w = (Utf.encN (Utf.dec (Utf.nums s)).1 ++ t).take w by rw [← e]]
        rw [List.take_append_of_le_length (by omega), List.take_of_length_le (by omega)]
theorem longN_asc : ∀ (I : List (Int × Int)) (lo : Int) (s : ByteArray), AscI lo I → longN (I.map zp) s = if memI I (Utf.dec (Utf.nums s)).1 = true then Utf.width (Utf.dec (Utf.nums s)).1 else 0
  | [], _, _, _ => by simp [longN, memI]
  | p :: I, lo, s, ⟨h1, ⟨w, h2⟩, h3, h4⟩ => by
    have ih := longN_asc I _ s h4
    have hf := fit_dec h2 h3 s
    rw [List.map_cons, longN]
    by_cases hb : fitB (zp p) s = true
    · have hr := hf.1 hb
      rw [if_pos hb, if_pos (by rw [memI_iff]; exact ⟨p, by simp, hr⟩), h2.width hr.1 hr.2]
      unfold zp; rw [zipE_len h2]
    · rw [if_neg hb, ih]
      have hr : ¬ (p.1 ≤ (Utf.dec (Utf.nums s)).1 ∧ (Utf.dec (Utf.nums s)).1 ≤ p.2) := fun h => hb (hf.2 h)
      have e : memI (p :: I) (Utf.dec (Utf.nums s)).1 = memI I (Utf.dec (Utf.nums s)).1 := by
        unfold memI; rw [List.any_cons, decide_eq_false hr, Bool.false_or]
      rw [e]
/-- At most one of them takes a text. -/
theorem once_asc : ∀ (I : List (Int × Int)) (lo : Int) (s : ByteArray), AscI lo I → (I.filter fun p => fitB (zp p) s).length ≤ 1
  | [], _, _, _ => by simp
  | p :: I, lo, s, ⟨h1, ⟨w, h2⟩, h3, h4⟩ => by
    have ih := once_asc I _ s h4
    rw [List.filter_cons]
    split
    · rename_i hb
      have hr := (fit_dec h2 h3 s).1 hb
      have : I.filter (fun p => fitB (zp p) s) = [] := by
        rw [List.filter_eq_nil_iff]
        intro q hq hb2
        obtain ⟨hq1, ⟨w', hq2⟩, hq3⟩ := ascI_mem I _ h4 q hq
        have := (fit_dec hq2 hq3 s).1 hb2
        omega
      rw [this]; simp
    · exact ih
/-! From behind. -/
theorem fitL_rev : ∀ (q : List R) (l : List Int), q.length = l.length → (fitL q.reverse l.reverse ↔ fitL q l)
  | [], [], _ => by simp
  | p :: q, x :: l, h => by
    have hl : q.length = l.length := by simpa using h
    rw [List.reverse_cons, List.reverse_cons, fitL_snoc _ _ _ _ (by simpa using hl), fitL_rev q l hl]
    simp only [fitL]
    exact ⟨fun ⟨h1, h2⟩ => ⟨h2, h1⟩, fun ⟨h1, h2⟩ => ⟨h2, h1⟩⟩
  | [], _ :: _, h => by simp at h
  | _ :: _, [], h => by simp at h
theorem enc_inj {a b : Int} (ha : Utf.width a ≠ 0) (hb : Utf.width b ≠ 0) (h : Utf.encN a = Utf.encN b) : a = b := by
  have h1 := Utf.dec_enc a ha []
  have h2 := Utf.dec_enc b hb []
  rw [h, h2] at h1
  exact (congrArg Prod.fst h1).symm
theorem fit_turn {w : Nat} {a b r : Int} (h : Cls w a b) (hc : cutAll a b = none) (hr : Utf.width r ≠ 0) (s : ByteArray) (hs : Utf.nums s = (Utf.encN r).reverse) : fitB (zipE a b).reverse s = true ↔ a ≤ r ∧ r ≤ b := by
  have hw0 := h.nonneg
  have hl := Utf.encN_length r
  have hn := Utf.nums_length s
  have hwa := h.width (Int.le_refl _) h.le
  have hwb := h.width h.le (Int.le_refl _)
  have hz := zipE_len h
  rw [fitB_iff, List.length_reverse, hz, hs]
  rw [hs, List.length_reverse] at hn
  rcases (by omega : w = Utf.width r ∨ (Utf.width r : Int) < w ∨ (w : Int) < Utf.width r) with e | e | e
  · rw [List.take_of_length_le (by rw [List.length_reverse]; omega), fitL_rev _ _ (by rw [hz]; omega), take_iff h hc]
    constructor
    · rintro ⟨_, _, r', h1, h2, e'⟩
      have := h.width h1 h2
      obtain rfl := enc_inj hr (by omega) e'
      exact ⟨h1, h2⟩
    · rintro ⟨h1, h2⟩
      exact ⟨by omega, by omega, r, h1, h2, rfl⟩
  · constructor
    · rintro ⟨_, h1, _⟩; omega
    · rintro ⟨h1, h2⟩; have := h.width h1 h2; omega
  · constructor
    · rintro ⟨_, _, h3⟩
      exfalso
      have hwr := (Utf.width_le r).2
      rcases (by omega : w = 1 ∨ w = 2 ∨ w = 3) with rfl | rfl | rfl
      · unfold zipE at h3
        rw [enc1 hwa, enc1 hwb] at h3
        have hbd := h.bd
        rcases (by omega : Utf.width r = (2 : Nat) ∨ Utf.width r = (3 : Nat) ∨ Utf.width r = (4 : Nat)) with q | q | q
        · rw [enc2 q] at h3; simp [fitL] at h3; omega
        · rw [enc3 q] at h3; simp [fitL] at h3; omega
        · rw [enc4 q] at h3; simp [fitL] at h3; omega
      · unfold zipE at h3
        rw [enc2 hwa, enc2 hwb] at h3
        have hbd := h.bd
        rcases (by omega : Utf.width r = (3 : Nat) ∨ Utf.width r = (4 : Nat)) with q | q
        · rw [enc3 q] at h3; simp [fitL] at h3; omega
        · rw [enc4 q] at h3; simp [fitL] at h3; omega
      · unfold zipE at h3
        rw [enc3 hwa, enc3 hwb] at h3
        have hbd := h.bd
        rw [enc4 (by omega : Utf.width r = (4 : Nat))] at h3
        simp [fitL] at h3; omega
    · rintro ⟨h1, h2⟩; have := h.width h1 h2; omega
theorem longN_turn : ∀ (I : List (Int × Int)) (lo : Int) (r : Int) (s : ByteArray), AscI lo I → Utf.width r ≠ 0 → Utf.nums s = (Utf.encN r).reverse → longN (turnL (I.map zp)) s = if memI I r = true then Utf.width r else 0
  | [], _, _, _, _, _, _ => by simp [longN, memI, turnL]
  | p :: I, lo, r, s, ⟨h1, ⟨w, h2⟩, h3, h4⟩, hr, hs => by
    have ih := longN_turn I _ r s h4 hr hs
    have hf := fit_turn h2 h3 hr s hs
    unfold turnL at ih ⊢
    rw [List.map_cons, List.map_cons, longN]
    by_cases hb : fitB (zp p).reverse s = true
    · have hx := hf.1 hb
      rw [if_pos hb, if_pos (by rw [memI_iff]; exact ⟨p, by simp, hx⟩), h2.width hx.1 hx.2, List.length_reverse]
      unfold zp; rw [zipE_len h2]
    · rw [if_neg hb, ih]
      have hx : ¬ (p.1 ≤ r ∧ r ≤ p.2) := fun h => hb (hf.2 h)
      have e : memI (p :: I) r = memI I r := by unfold memI; rw [List.any_cons, decide_eq_false hx, Bool.false_or]
      rw [e]
theorem turnL_turnL (L : List (List R)) : turnL (turnL L) = L := by simp [turnL, Function.comp_def]
end Go.Proofs.Ytfopcgbfbedcjaa.Bd
namespace Go.Proofs.Ytfopcgbfbedcjaa.Bd
open Go.Proofs.Ytfopcgbfbedcjaa.Rg
set_option linter.unusedVariables false
theorem zip_fst : ∀ (l m : List Int), l.length = m.length → (l.zip m).map Prod.fst = l
  | [], [], _ => rfl
  | a :: l, b :: m, h => by simp [zip_fst l m (by simpa using h)]
  | [], _ :: _, h => by simp at h
  | _ :: _, [], h => by simp at h
theorem zipE_fst {w : Nat} {a b : Int} (h : Cls w a b) : (zipE a b).map Prod.fst = Utf.encN a := by
  have h1 := Utf.encN_length a
  have h2 := Utf.encN_length b
  rw [h.width (Int.le_refl _) h.le] at h1
  rw [h.width h.le (Int.le_refl _)] at h2
  exact zip_fst _ _ (by omega)
theorem fitL_fst : ∀ (q : List R), fitL q (q.map Prod.fst) → ∀ p ∈ q, p.1 ≤ p.2
  | [], _, p, hp => by cases hp
  | a :: q, h, p, hp => by
    rcases List.mem_cons.1 hp with rfl | hp
    · exact h.1.2
    · exact fitL_fst q h.2 p hp
theorem zip_bytes : ∀ (l m : List Int), Utf.Bytes l → Utf.Bytes m → ∀ p ∈ l.zip m, (0 ≤ p.1 ∧ p.1 < 256) ∧ 0 ≤ p.2 ∧ p.2 < 256
  | [], _, _, _, p, hp => by simp at hp
  | _ :: _, [], _, _, p, hp => by simp at hp
  | a :: l, b :: m, hl, hm, p, hp => by
    rw [List.zip_cons_cons] at hp
    rcases List.mem_cons.1 hp with rfl | hp
    · exact ⟨hl a (by simp), hm b (by simp)⟩
    · exact zip_bytes l m (fun x hx => hl x (List.mem_cons_of_mem _ hx)) (fun x hx => hm x (List.mem_cons_of_mem _ hx)) p hp
/-- Each range of a sequence is one of bytes and not empty; its first bytes are the encoding of the first rune. -/
theorem zipE_ok {w : Nat} {a b : Int} (h : Cls w a b) (hc : cutAll a b = none) : (∀ p ∈ zipE a b, p.1 ≤ p.2 ∧ 0 ≤ p.1 ∧ p.1 ≤ 255 ∧ p.2 ≤ 255) ∧ (zipE a b).map Prod.fst = Utf.encN a ∧ (zipE a b).length = w ∧ Utf.width a = w ∧ w ≠ 0 := by
  have h0 := (take_iff h hc (Utf.encN a)).2 ⟨a, Int.le_refl _, h.le, rfl⟩
  rw [← zipE_fst h] at h0
  refine ⟨fun p hp => ?_, zipE_fst h, zipE_len h, h.width (Int.le_refl _) h.le, h.nonneg.2⟩
  have h1 := fitL_fst _ h0 p hp
  have h2 := zip_bytes _ _ (Utf.encN_bytes a) (Utf.encN_bytes b) p hp
  omega
end Go.Proofs.Ytfopcgbfbedcjaa.Bd
namespace Go.Proofs.Ytfopcgbfbedcjaa
open Go.RowKit
set_option linter.unusedVariables false
namespace Bd
/-- Few sequences, each short and of numbers of an int. -/
structure SeqOk (L : List (List (Int × Int))) : Prop where
  len : L.length ≤ 1114113
  each : ∀ q ∈ L, q.length ≤ 4 ∧ Wide64 q
theorem asc_ok {I : List (Int × Int)} {lo : Int} (h : AscI lo I) : ∀ q ∈ I.map zp, q.length ≤ 4 ∧ Wide64 q := by
  intro q hq
  obtain ⟨p, hp, rfl⟩ := List.mem_map.1 hq
  obtain ⟨_, ⟨w, hc⟩, hn⟩ := ascI_mem I lo h p hp
  have hz := zipE_ok hc hn
  have hb := hc.bd
  unfold zp
  refine ⟨by rw [hz.2.2.1]; omega, fun x hx => ?_⟩
  have := hz.1 x hx
  omega
theorem splitL_ok (lo hi : Int) : SeqOk (splitL lo hi) := by
  refine ⟨?_, ?_⟩
  · by_cases h : max lo 0 ≤ min hi 1114111
    · have := splitL_len (lo := max lo 0) (hi := min hi 1114111) (by omega) h (by omega)
      rw [← splitL_clamp] at this
      omega
    · rw [splitL_clamp, splitL_nil (by omega)]; simp
  · obtain ⟨I, hI⟩ := splitL_made lo hi
    rw [hI.eq]
    exact asc_ok hI.asc
theorem ofL_ok {B : List Rg.R} (h : Rg.NormL B) : SeqOk (ofL B) := by
  refine ⟨?_, ?_⟩
  · have := ofL_len B 0 B.length h (Int.le_refl 0) (by omega)
    rw [List.take_length] at this
    omega
  · obtain ⟨I, hI⟩ := ofL_made B 0 h
    rw [hI.eq]
    exact asc_ok hI.asc
theorem split_two : splitL 128 2047 = [[(194, 223), (128, 191)]] := by
  rw [splitL_cls (w := 2) ⟨by decide, .inr (.inl ⟨rfl, by decide, by decide⟩)⟩, oneL_none (by decide)]
  decide
theorem split_all : (splitL 0 1114111).length = 9 := by
  rw [splitL_parts, part_at (c := (0, 127, 1)) (a := 0) (b := 127) (by decide) (by decide) (by decide), part_at (c := (128, 2047, 2)) (a := 128) (b := 2047) (by decide) (by decide) (by decide), part_at (c := (2048, 55295, 3)) (a := 2048) (b := 55295) (by decide) (by decide) (by decide),
    part_at (c := (57344, 65535, 3)) (a := 57344) (b := 65535) (by decide) (by decide) (by decide), part_at (c := (65536, 1114111, 4)) (a := 65536) (b := 1114111) (by decide) (by decide) (by decide)]
  rw [oneL_none (lo := 0) (hi := 127) (by decide), oneL_none (lo := 128) (hi := 2047) (by decide), oneL_none (lo := 57344) (hi := 65535) (by decide)]
  rw [oneL_some (lo := 2048) (hi := 55295) (m := 4095) (by decide) (by decide), oneL_none (lo := 2048) (hi := 4095) (by decide)]
  rw [show ((4095 : Int) + 1) = 4096 from rfl, oneL_some (lo := 4096) (hi := 55295) (m := 53247) (by decide) (by decide), oneL_none (lo := 4096) (hi := 53247) (by decide)]
  rw [show ((53247 : Int) + 1) = 53248 from rfl, oneL_none (lo := 53248) (hi := 55295) (by decide)]
  rw [oneL_some (lo := 65536) (hi := 1114111) (m := 262143) (by decide) (by decide), oneL_none (lo := 65536) (hi := 262143) (by decide)]
  rw [show ((262143 : Int) + 1) = 262144 from rfl, oneL_some (lo := 262144) (hi := 1114111) (m := 1048575) (by decide) (by decide), oneL_none (lo := 262144) (hi := 1048575) (by decide)]
  rw [show ((1048575 : Int) + 1) = 1048576 from rfl, oneL_none (lo := 1048576) (hi := 1114111) (by decide)]
  rfl
theorem long_two : longN [[(194, 223), (128, 191)]] ⟨#[195, 169, 120]⟩ = 2 := by decide
end Bd
theorem QOwnU.row2 {W : World} {base : Nat} {v : Value} {us : List Value} {L : List (List (Int × Int))} (h : QOwnU W base v us L) (ok : Bd.SeqOk L) : QRow W v L :=
  h.row (by have := ok.len; omega) (fun q hq => ⟨by have := (ok.each q hq).1; omega, (ok.each q hq).2⟩)
theorem rrow_lits2 (W : World) (x y z u : Int) (hb : (-9223372036854775808 ≤ x ∧ x ≤ 9223372036854775807) ∧ (-9223372036854775808 ≤ y ∧ y ≤ 9223372036854775807) ∧ (-9223372036854775808 ≤ z ∧ z ≤ 9223372036854775807) ∧ -9223372036854775808 ≤ u ∧ u ≤ 9223372036854775807) (t : TypeId) :
    RRow (W.alloc (.cells #[.int .i64 x, .int .i64 y, .int .i64 z, .int .i64 u] t)) (.slice (some ⟨W.heap.size, 0, none⟩) 2 2) [(x, y), (z, u)] :=
  ⟨_, 2, rfl, by simp, (fun p hp => by simp at hp; rcases hp with rfl | rfl <;> (dsimp only; omega)), fun j hj => by
    have hj2 : j < 2 := by simpa using hj
    match j, hj2 with
    | 0, _ => exact ⟨W.heap.size, 0, rfl, by simp, by simp, by simp⟩
    | 1, _ => exact ⟨W.heap.size, 0, rfl, by simp, by simp, by simp⟩⟩
set_option maxRecDepth 100000 in
set_option maxHeartbeats 4000000 in
theorem works5_any (W : World) : Calls Try.prog 8 #[] W fun e w' => e = .returned (.bool true) ∧ Below W.heap.size W w' := by
  go_enter Try.func8, Try.ntmps8
  go_wp2_with fail
  refine (split_any W 128 2047 (by decide) (by decide)).mono ?_
  rintro e w1 ⟨v, us, rfl, hq, hb⟩
  have hr := hq.row2 (Bd.splitL_ok 128 2047)
  rw [Bd.split_two] at hr
  have HR := Lib.hid hr
  obtain ⟨a, cap, rfl, _, hc⟩ := hr
  obtain ⟨g, off, u, rfl, hg, hc0, hu⟩ := hc 0 (by decide)
  have HU := Lib.hid hu
  have HB := Lib.hid hb
  obtain ⟨ua, uc, rfl, _⟩ := hu
  rw [Nat.add_zero] at hc0
  have e1 : ([[((194 : Int), (223 : Int)), (128, 191)]] : List (List (Int × Int))).length = 1 := rfl
  have e2 : ([[((194 : Int), (223 : Int)), (128, 191)]][0]?.getD []).length = 2 := rfl
  rw [e2] at hc0 HU
  rw [e1] at HR ⊢
  clear hq hb hc e1 e2
  go_wp2_with fail
  have hlit := rrow_lits2 w1 194 223 128 191 (by decide) 44
  refine (same_rg _ _ _ [(194, 223), (128, 191)] [(194, 223), (128, 191)] (HU.out.below (Nat.le_refl _) ((Below.refl w1.heap.size w1).alloc (Nat.le_refl _) _)) hlit).mono ?_
  rintro e w2 ⟨rfl, d, rfl⟩
  rw [decide_eq_true (rfl : [((194 : Int), (223 : Int)), (128, 191)] = [(194, 223), (128, 191)])]
  have HB2 := Lib.hid (below_drewN (((Below.refl w1.heap.size w1).alloc (Nat.le_refl _) (.cells #[.int .i64 194, .int .i64 223, .int .i64 128, .int .i64 191] 44))) d)
  clear hlit
  go_wp2_with fail
  refine (split_any _ 0 1114111 (by decide) (by decide)).mono ?_
  rintro e w3 ⟨v3, us3, rfl, hq3, hb3⟩
  have hr3 := hq3.row2 (Bd.splitL_ok 0 1114111)
  obtain ⟨a3, cap3, rfl, _⟩ := hr3
  have HB3 := Lib.hid (HB2.out.trans (hb3.mono HB2.out.size))
  rw [Bd.split_all]
  clear hq3 hb3
  go_wp2_with fail
  refine (long_any _ _ _ ⟨#[195, 169, 120]⟩ (by decide) (HR.out.below HB3.out)).mono ?_
  rintro e w4 ⟨rfl, hb4⟩
  rw [Bd.long_two]
  have HB4 := Lib.hid ((HB.out.trans (HB3.out.mono HB.out.size)).trans (hb4.mono (HB.out.trans (HB3.out.mono HB.out.size)).size))
  clear hb4
  go_wp2
  go_ret
  exact ⟨rfl, HB4.out⟩
end Go.Proofs.Ytfopcgbfbedcjaa
namespace Go.Proofs.Ytfopcgbfbedcjaa.Bd
open Go.Proofs.Ytfopcgbfbedcjaa.Rg
set_option linter.unusedVariables false
theorem dec_w (l : List Int) (hb : Utf.Bytes l) (h : Utf.width (Utf.dec l).1 ≠ 0) : (Utf.dec l).2 = Utf.width (Utf.dec l).1 := by
  rcases Utf.dec_some l hb with ⟨_, e⟩ | ⟨_, e⟩ | hs
  · rw [e] at h; exact absurd (Utf.width_neg (-1) (by decide)) h
  · rw [e] at h; exact absurd (Utf.width_neg (-1) (by decide)) h
  · exact hs.2.1
/-- The sequences of a set, as intervals. -/
structure SetI (l : List R) (L : List (List R)) (I : List (Int × Int)) : Prop where
  eq : L = I.map zp
  asc : AscI 0 I
  mem : ∀ r, memI I r = true ↔ hasB l r = true ∧ Utf.width r ≠ 0
theorem runes_has {r : Int} (h : Utf.width r ≠ 0) : hasB runesT r = true := by
  rw [hasB_iff]
  simp only [runesT, List.mem_cons, List.mem_nil_iff, or_false, exists_eq_or_imp, exists_eq_left]
  rcases Utf.width_cases r with ⟨q, z⟩ | ⟨q, z⟩ | ⟨q, z⟩ | ⟨q, z⟩ | ⟨q, z⟩ <;> omega
theorem width_pos {r : Int} (h : Utf.width r ≠ 0) : 0 ≤ r ∧ r ≤ 1114111 := by
  rcases Utf.width_cases r with ⟨q, z⟩ | ⟨q, z⟩ | ⟨q, z⟩ | ⟨q, z⟩ | ⟨q, z⟩ <;> omega
theorem setI {l C : List R} (hC : Made 2 l runesT C) : ∃ I, SetI l (ofL C) I := by
  obtain ⟨I, hI⟩ := ofL_made C 0 hC.norm
  refine ⟨I, hI.eq, hI.asc, fun r => ?_⟩
  rw [hI.mem]
  constructor
  · rintro ⟨h, hw⟩
    have hp := width_pos hw
    have e := hC.has r hp.1 hp.2
    rw [(norm_has hC.norm r).2 h] at e
    refine ⟨?_, hw⟩
    cases hq : hasB l r
    · rw [hq] at e; simp [opB] at e
    · rfl
  · rintro ⟨h, hw⟩
    have hp := width_pos hw
    have e := hC.has r hp.1 hp.2
    rw [h, runes_has hw] at e
    exact ⟨(norm_has hC.norm r).1 (by rw [e]; rfl), hw⟩
theorem SetI.yes {l : List R} {L : List (List R)} {I : List (Int × Int)} (h : SetI l L I) (s : ByteArray) {r : Int} (hd : (Utf.dec (Utf.nums s)).1 = r) (h1 : hasB l r = true) (h2 : Utf.width r ≠ 0) : longN L s = Utf.width r := by
  rw [h.eq, longN_asc I 0 s h.asc, hd, if_pos ((h.mem r).2 ⟨h1, h2⟩)]
theorem SetI.no {l : List R} {L : List (List R)} {I : List (Int × Int)} (h : SetI l L I) (s : ByteArray) {r : Int} (hd : (Utf.dec (Utf.nums s)).1 = r) (h1 : ¬ (hasB l r = true ∧ Utf.width r ≠ 0)) : longN L s = 0 := by
  rw [h.eq, longN_asc I 0 s h.asc, hd, if_neg (fun e => h1 ((h.mem r).1 e))]
theorem SetI.turnYes {l : List R} {L : List (List R)} {I : List (Int × Int)} (h : SetI l L I) {s : ByteArray} {r : Int} (hs : Utf.nums s = (Utf.encN r).reverse) (h1 : hasB l r = true) (h2 : Utf.width r ≠ 0) : longN (turnL L) s = Utf.width r := by
  rw [h.eq, longN_turn I 0 r s h.asc h2 hs, if_pos ((h.mem r).2 ⟨h1, h2⟩)]
theorem SetI.turnNo {l : List R} {L : List (List R)} {I : List (Int × Int)} (h : SetI l L I) {s : ByteArray} {r : Int} (hs : Utf.nums s = (Utf.encN r).reverse) (h1 : hasB l r ≠ true) (h2 : Utf.width r ≠ 0) : longN (turnL L) s = 0 := by
  rw [h.eq, longN_turn I 0 r s h.asc h2 hs, if_neg (fun e => h1 ((h.mem r).1 e).1)]
end Go.Proofs.Ytfopcgbfbedcjaa.Bd
namespace Go.Proofs.Ytfopcgbfbedcjaa
open Go.RowKit
set_option linter.unusedVariables false
namespace Utf
def lexI : List Int → List Int → Bool
  | _, [] => false
  | [], _ :: _ => true
  | a :: x, b :: y => decide (a < b) || (decide (a = b) && lexI x y)
theorem lexI_asymm : ∀ (x y : List Int), lexI x y = true → lexI y x = false
  | _, [], h => by simp [lexI] at h
  | [], _ :: _, _ => rfl
  | a :: x, b :: y, h => by
    have ih := lexI_asymm x y
    simp only [lexI, Bool.or_eq_true, Bool.and_eq_true, decide_eq_true_eq] at h
    simp only [lexI, Bool.or_eq_false_iff, Bool.and_eq_false_iff, decide_eq_false_iff_not]
    rcases h with h | ⟨rfl, h⟩
    · exact ⟨by omega, .inl (by omega)⟩
    · exact ⟨by omega, .inr (ih h)⟩
theorem lex_lt (a b : Int) (ha : width a ≠ 0) (hb : width b ≠ 0) (h : a < b) : lexI (encN a) (encN b) = true := by
  rcases width_cases a with p | p | p | p | p <;> rcases width_cases b with q | q | q | q | q <;>
    first
    | exact absurd p.1 ha
    | exact absurd q.1 hb
    | (exfalso; omega)
    | (simp [encN, p.1, q.1, lexI]; omega)
theorem take_ne (a b : Int) (ha : width a ≠ 0) (hb : width b ≠ 0) (h : a ≠ b) (n : Nat) (hn : n = (encN a).length ∨ n = (encN b).length) (h1 : n ≤ (encN a).length) (h2 : n ≤ (encN b).length) : (encN a).take n ≠ (encN b).take n := by
  intro e
  apply h
  rcases hn with hn | hn
  · have e1 : encN b = encN a ++ (encN b).drop n := by rw [hn, List.take_length] at e; rw [hn]; conv => lhs; rw [← List.take_append_drop (encN a).length (encN b)]; rw [← e]
    have d1 := dec_enc a ha ((encN b).drop n)
    have d2 := dec_enc b hb []
    rw [List.append_nil] at d2
    rw [← e1, d2] at d1
    exact (congrArg Prod.fst d1).symm
  · have e1 : encN a = encN b ++ (encN a).drop n := by rw [hn, List.take_length] at e; rw [hn]; conv => lhs; rw [← List.take_append_drop (encN b).length (encN a)]; rw [e]
    have d1 := dec_enc b hb ((encN a).drop n)
    have d2 := dec_enc a ha []
    rw [List.append_nil] at d2
    rw [← e1, d2] at d1
    exact congrArg Prod.fst d1
end Utf
theorem bytesLess_of : ∀ (x y : List Int), Utf.Bytes x → Utf.Bytes y → Op.bytesLess (x.map fun n => UInt8.ofNat n.toNat) (y.map fun n => UInt8.ofNat n.toNat) = Utf.lexI x y
  | _, [], _, _ => by simp [Op.bytesLess, Utf.lexI]
  | [], _ :: _, _, _ => rfl
  | a :: x, b :: y, hx, hy => by
    have ih := bytesLess_of x y (fun z hz => hx z (by simp [hz])) (fun z hz => hy z (by simp [hz]))
    have ha := hx a (by simp)
    have hb := hy b (by simp)
    simp only [List.map_cons, Op.bytesLess, Utf.lexI, ih]
    have e1 : (decide (UInt8.ofNat a.toNat < UInt8.ofNat b.toNat)) = decide (a < b) := by
      rw [decide_eq_decide, UInt8.lt_iff_toNat_lt, UInt8.toNat_ofNat', UInt8.toNat_ofNat']; omega
    have e2 : (UInt8.ofNat a.toNat == UInt8.ofNat b.toNat) = decide (a = b) := by
      rw [Bool.eq_iff_iff, beq_iff_eq, decide_eq_true_eq, ← UInt8.toNat_inj, UInt8.toNat_ofNat', UInt8.toNat_ofNat']; omega
    rw [e1, e2]
theorem toList_strOf (xs : List Int) : (strOfNums xs).toList = xs.map fun n => UInt8.ofNat n.toNat := by
  rw [ByteArray.toList_eq]; unfold strOfNums; simp
end Go.Proofs.Ytfopcgbfbedcjaa
namespace Go.Proofs.Ytfopcgbfbedcjaa
set_option linter.unusedVariables false
namespace Bd
open Go.Proofs.Ytfopcgbfbedcjaa.Rg
def cntI (I : List (Int × Int)) (s : ByteArray) (i : Nat) : Nat := ((I.take i).filter fun p => fitB (zp p) s).length
theorem cnt_succ {I : List (Int × Int)} {s : ByteArray} {i : Nat} {p : Int × Int} (hi : i < I.length) (hp : I[i]?.getD (0, 0) = p) (b : Bool) (hb : fitB (zp p) s = b) : cntI I s (i + 1) = cntI I s i + (if b = true then 1 else 0) := by
  unfold cntI
  rw [List.getElem?_eq_getElem hi] at hp
  rw [List.take_succ_eq_append_getElem hi, List.filter_append, List.length_append]
  congr 1
  rw [show I[i] = p from hp, List.filter_cons, hb]
  cases b <;> rfl
theorem cnt_le {I : List (Int × Int)} {lo : Int} (s : ByteArray) (h : AscI lo I) (i : Nat) : cntI I s i ≤ 1 := by
  have h1 := once_asc I lo s h
  have h2 := ((List.take_sublist i I).filter fun p => fitB (zp p) s).length_le
  unfold cntI
  omega
/-- One interval's sequence: what the law asks of it. -/
structure OneI (q : List R) (a : Int) (m : Nat) : Prop where
  len : q.length = m
  enc : (Utf.encN a).length = m
  width : Utf.width a = m
  pos : 0 < m
  small : m ≤ 4
  ok : ∀ k, k < m → 0 ≤ (q[k]?.getD (0, 0)).1 ∧ (q[k]?.getD (0, 0)).1 ≤ (q[k]?.getD (0, 0)).2 ∧ (q[k]?.getD (0, 0)).2 ≤ 255 ∧ (Utf.encN a)[k]?.getD 0 = (q[k]?.getD (0, 0)).1
theorem oneI {I : List (Int × Int)} {lo : Int} (h : AscI lo I) {i : Nat} (hi : i < I.length) {p : Int × Int} (hp : I[i]?.getD (0, 0) = p) : ∃ m, OneI (zp p) p.1 m := by
  rw [List.getElem?_eq_getElem hi] at hp
  have hm : p ∈ I := by rw [← hp]; exact List.getElem_mem _
  obtain ⟨_, ⟨w, hc⟩, hn⟩ := ascI_mem I lo h p hm
  have hz := zipE_ok hc hn
  have hb := hc.bd
  refine ⟨w, hz.2.2.1, ?_, hz.2.2.2.1, by omega, by omega, fun k hk => ?_⟩
  · have := Utf.encN_length p.1
    have := hz.2.2.2.1
    omega
  · have hkl : k < (zp p).length := by unfold zp; rw [hz.2.2.1]; exact hk
    rw [List.getElem?_eq_getElem hkl]
    have h1 := hz.1 _ (List.getElem_mem hkl)
    have h2 := hz.2.1
    refine ⟨h1.2.1, h1.1, h1.2.2.2, ?_⟩
    rw [← h2, List.getElem?_map]
    unfold zp at hkl ⊢
    rw [List.getElem?_eq_getElem hkl]
    rfl
theorem asc_next : ∀ (I : List (Int × Int)) (lo : Int) (j : Nat), AscI lo I → j + 1 < I.length → (I[j]?.getD (0, 0)).1 < (I[j + 1]?.getD (0, 0)).1
  | [], _, _, _, h => absurd h (by simp)
  | [p], _, j, _, h => absurd h (by simp)
  | p :: q :: I, lo, 0, ⟨h1, ⟨w, h2⟩, h3, h4⟩, _ => by
    have := h2.le
    have := h4.1
    simp
    omega
  | p :: q :: I, lo, j + 1, ⟨h1, h2, h3, h4⟩, h => by
    have := asc_next (q :: I) _ j h4 (by simpa using h)
    simpa using this
/-- The first bytes of the interval ahead. -/
def LastIs (I : List (Int × Int)) (i : Nat) (ls : ByteArray) : Prop := (i = 0 ∧ ls = ⟨#[]⟩) ∨ ∃ j, i = j + 1 ∧ ls = strOfNums (Utf.encN (I[j]?.getD (0, 0)).1)
theorem last_cmp {I : List (Int × Int)} {lo : Int} (h : AscI lo I) {i : Nat} (hi : i < I.length) {p : Int × Int} (hp : I[i]?.getD (0, 0) = p) {ls : ByteArray} (hl : LastIs I i ls) :
    ls = ⟨#[]⟩ ∨ (0 < ls.size ∧ Op.bytesLess (strOfNums (Utf.encN p.1)).toList ls.toList = false ∧ ((strOfNums (Utf.encN p.1)).toList == ls.toList) = false) := by
  rcases hl with ⟨_, h1⟩ | ⟨j, rfl, rfl⟩
  · exact .inl h1
  · right
    obtain ⟨m0, o0⟩ := oneI h (i := j) (by omega) rfl
    obtain ⟨m1, o1⟩ := oneI h hi hp
    have hlt := asc_next I lo j h hi
    rw [hp] at hlt
    have w0 : Utf.width (I[j]?.getD (0, 0)).1 ≠ 0 := by rw [o0.width]; have := o0.pos; omega
    have w1 : Utf.width p.1 ≠ 0 := by rw [o1.width]; have := o1.pos; omega
    have hlex := Utf.lex_lt _ _ w0 w1 hlt
    refine ⟨by rw [size_strOf, o0.enc]; exact o0.pos, ?_, ?_⟩
    · rw [toList_strOf, toList_strOf, bytesLess_of _ _ (Utf.encN_bytes _) (Utf.encN_bytes _)]
      exact Utf.lexI_asymm _ _ hlex
    · rw [beq_eq_false_iff_ne]
      intro e
      have e2 : strOfNums (Utf.encN p.1) = strOfNums (Utf.encN (I[j]?.getD (0, 0)).1) := by
        apply ByteArray.ext; apply Array.toList_inj.1
        rw [← ByteArray.toList_eq, ← ByteArray.toList_eq]; exact e
      have e3 := congrArg Utf.nums e2
      rw [nums_strOf _ (Utf.encN_bytes _), nums_strOf _ (Utf.encN_bytes _)] at e3
      have := enc_inj w1 w0 e3
      omega
end Bd
end Go.Proofs.Ytfopcgbfbedcjaa
