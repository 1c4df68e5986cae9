/- The plain mathematics of bands: the first bytes of an interval's sequence; no program. · The laws' own example (burinlaw05.works); what reads as a list of sequences. · The plain mathematics of the laws of bands: a set's sequences as intervals, and what they take of a text; no program. -/
import Derived.Test.YtfopcgbfbedcjaaGp29
import Derived.Test.YtfopcgbfbedcjaaGp26
import Derived.Test.YtfopcgbfbedcjaaGp27
import Derived.Test.YtfopcgbfbedcjaaGp20
namespace Go.Proofs.Ytfopcgbfbedcjaa.Bd
open Go.Proofs.Ytfopcgbfbedcjaa.Rg
set_option linter.unusedVariables false
theorem zip_fst : ∀ (l m : List Int), l.length = m.length → (l.zip m).map Prod.fst = l
  | [], [], _ => rfl
  | a :: l, b :: m, h => by simp [zip_fst l m (by simpa using h)]
  | [], _ :: _, h => by simp at h
  | _ :: _, [], h => by simp at h
theorem zipE_fst {w : Nat} {a b : Int} (h : Cls w a b) : (zipE a b).map Prod.fst = Utf.encN a := by
  have h1 := Utf.encN_length a
  have h2 := Utf.encN_length b
  rw [h.width (Int.le_refl _) h.le] at h1
  rw [h.width h.le (Int.le_refl _)] at h2
  exact zip_fst _ _ (by omega)
theorem fitL_fst : ∀ (q : List R), fitL q (q.map Prod.fst) → ∀ p ∈ q, p.1 ≤ p.2
  | [], _, p, hp => by cases hp
  | a :: q, h, p, hp => by
    rcases List.mem_cons.1 hp with rfl | hp
    · exact h.1.2
    · exact fitL_fst q h.2 p hp
theorem zip_bytes : ∀ (l m : List Int), Utf.Bytes l → Utf.Bytes m → ∀ p ∈ l.zip m, (0 ≤ p.1 ∧ p.1 < 256) ∧ 0 ≤ p.2 ∧ p.2 < 256
  | [], _, _, _, p, hp => by simp at hp
  | _ :: _, [], _, _, p, hp => by simp at hp
  | a :: l, b :: m, hl, hm, p, hp => by
    rw [List.zip_cons_cons] at hp
    rcases List.mem_cons.1 hp with rfl | hp
    · exact ⟨hl a (by simp), hm b (by simp)⟩
    · exact zip_bytes l m (fun x hx => hl x (List.mem_cons_of_mem _ hx)) (fun x hx => hm x (List.mem_cons_of_mem _ hx)) p hp
/-- Each range of a sequence is one of bytes and not empty; its first bytes are the encoding of the first rune. -/
theorem zipE_ok {w : Nat} {a b : Int} (h : Cls w a b) (hc : cutAll a b = none) : (∀ p ∈ zipE a b, p.1 ≤ p.2 ∧ 0 ≤ p.1 ∧ p.1 ≤ 255 ∧ p.2 ≤ 255) ∧ (zipE a b).map Prod.fst = Utf.encN a ∧ (zipE a b).length = w ∧ Utf.width a = w ∧ w ≠ 0 := by
  have h0 := (take_iff h hc (Utf.encN a)).2 ⟨a, Int.le_refl _, h.le, rfl⟩
  rw [← zipE_fst h] at h0
  refine ⟨fun p hp => ?_, zipE_fst h, zipE_len h, h.width (Int.le_refl _) h.le, h.nonneg.2⟩
  have h1 := fitL_fst _ h0 p hp
  have h2 := zip_bytes _ _ (Utf.encN_bytes a) (Utf.encN_bytes b) p hp
  omega
end Go.Proofs.Ytfopcgbfbedcjaa.Bd
namespace Go.Proofs.Ytfopcgbfbedcjaa
open Go.RowKit
set_option linter.unusedVariables false
namespace Bd
/-- Few sequences, each short and of numbers of an int. -/
structure SeqOk (L : List (List (Int × Int))) : Prop where
  len : L.length ≤ 1114113
  each : ∀ q ∈ L, q.length ≤ 4 ∧ Wide64 q
theorem asc_ok {I : List (Int × Int)} {lo : Int} (h : AscI lo I) : ∀ q ∈ I.map zp, q.length ≤ 4 ∧ Wide64 q := by
  intro q hq
  obtain ⟨p, hp, rfl⟩ := List.mem_map.1 hq
  obtain ⟨_, ⟨w, hc⟩, hn⟩ := ascI_mem I lo h p hp
  have hz := zipE_ok hc hn
  have hb := hc.bd
  unfold zp
  refine ⟨by rw [hz.2.2.1]; omega, fun x hx => ?_⟩
  have := hz.1 x hx
  omega
theorem splitL_ok (lo hi : Int) : SeqOk (splitL lo hi) := by
  refine ⟨?_, ?_⟩
  · by_cases h : max lo 0 ≤ min hi 1114111
    · have := splitL_len (lo := max lo 0) (hi := min hi 1114111) (by omega) h (by omega)
      rw [← splitL_clamp] at this
      omega
    · rw [splitL_clamp, splitL_nil (by omega)]; simp
  · obtain ⟨I, hI⟩ := splitL_made lo hi
    rw [hI.eq]
    exact asc_ok hI.asc
theorem ofL_ok {B : List Rg.R} (h : Rg.NormL B) : SeqOk (ofL B) := by
  refine ⟨?_, ?_⟩
  · have := ofL_len B 0 B.length h (Int.le_refl 0) (by omega)
    rw [List.take_length] at this
    omega
  · obtain ⟨I, hI⟩ := ofL_made B 0 h
    rw [hI.eq]
    exact asc_ok hI.asc
theorem split_two : splitL 128 2047 = [[(194, 223), (128, 191)]] := by
  rw [splitL_cls (w := 2) ⟨by decide, .inr (.inl ⟨rfl, by decide, by decide⟩)⟩, oneL_none (by decide)]
  decide
theorem split_all : (splitL 0 1114111).length = 9 := by
  rw [splitL_parts, part_at (c := (0, 127, 1)) (a := 0) (b := 127) (by decide) (by decide) (by decide), part_at (c := (128, 2047, 2)) (a := 128) (b := 2047) (by decide) (by decide) (by decide), part_at (c := (2048, 55295, 3)) (a := 2048) (b := 55295) (by decide) (by decide) (by decide),
    part_at (c := (57344, 65535, 3)) (a := 57344) (b := 65535) (by decide) (by decide) (by decide), part_at (c := (65536, 1114111, 4)) (a := 65536) (b := 1114111) (by decide) (by decide) (by decide)]
  rw [oneL_none (lo := 0) (hi := 127) (by decide), oneL_none (lo := 128) (hi := 2047) (by decide), oneL_none (lo := 57344) (hi := 65535) (by decide)]
  rw [oneL_some (lo := 2048) (hi := 55295) (m := 4095) (by decide) (by decide), oneL_none (lo := 2048) (hi := 4095) (by decide)]
  rw [show ((4095 : Int) + 1) = 4096 from rfl, oneL_some (lo := 4096) (hi := 55295) (m := 53247) (by decide) (by decide), oneL_none (lo := 4096) (hi := 53247) (by decide)]
  rw [show ((53247 : Int) + 1) = 53248 from rfl, oneL_none (lo := 53248) (hi := 55295) (by decide)]
  rw [oneL_some (lo := 65536) (hi := 1114111) (m := 262143) (by decide) (by decide), oneL_none (lo := 65536) (hi := 262143) (by decide)]
  rw [show ((262143 : Int) + 1) = 262144 from rfl, oneL_some (lo := 262144) (hi := 1114111) (m := 1048575) (by decide) (by decide), oneL_none (lo := 262144) (hi := 1048575) (by decide)]
  rw [show ((1048575 : Int) + 1) = 1048576 from rfl, oneL_none (lo := 1048576) (hi := 1114111) (by decide)]
  rfl
theorem long_two : longN [[(194, 223), (128, 191)]] ⟨#[195, 169, 120]⟩ = 2 := by decide
end Bd
theorem QOwnU.row2 {W : World} {base : Nat} {v : Value} {us : List Value} {L : List (List (Int × Int))} (h : QOwnU W base v us L) (ok : Bd.SeqOk L) : QRow W v L :=
  h.row (by have := ok.len; omega) (fun q hq => ⟨by have := (ok.each q hq).1; omega, (ok.each q hq).2⟩)
theorem rrow_lits2 (W : World) (x y z u : Int) (hb : (-9223372036854775808 ≤ x ∧ x ≤ 9223372036854775807) ∧ (-9223372036854775808 ≤ y ∧ y ≤ 9223372036854775807) ∧ (-9223372036854775808 ≤ z ∧ z ≤ 9223372036854775807) ∧ -9223372036854775808 ≤ u ∧ u ≤ 9223372036854775807) (t : TypeId) :
    RRow (W.alloc (.cells #[.int .i64 x, .int .i64 y, .int .i64 z, .int .i64 u] t)) (.slice (some ⟨W.heap.size, 0, none⟩) 2 2) [(x, y), (z, u)] :=
  ⟨_, 2, rfl, by simp, (fun p hp => by simp at hp; rcases hp with rfl | rfl <;> (dsimp only; omega)), fun j hj => by
    have hj2 : j < 2 := by simpa using hj
    match j, hj2 with
    | 0, _ => exact ⟨W.heap.size, 0, rfl, by simp, by simp, by simp⟩
    | 1, _ => exact ⟨W.heap.size, 0, rfl, by simp, by simp, by simp⟩⟩
set_option maxRecDepth 100000 in
set_option maxHeartbeats 4000000 in
theorem works5_any (W : World) : Calls Try.prog 8 #[] W fun e w' => e = .returned (.bool true) ∧ Below W.heap.size W w' := by
  go_enter Try.func8, Try.ntmps8
  go_wp2_with fail
  refine (split_any W 128 2047 (by decide) (by decide)).mono ?_
  rintro e w1 ⟨v, us, rfl, hq, hb⟩
  have hr := hq.row2 (Bd.splitL_ok 128 2047)
  rw [Bd.split_two] at hr
  have HR := Lib.hid hr
  obtain ⟨a, cap, rfl, _, hc⟩ := hr
  obtain ⟨g, off, u, rfl, hg, hc0, hu⟩ := hc 0 (by decide)
  have HU := Lib.hid hu
  have HB := Lib.hid hb
  obtain ⟨ua, uc, rfl, _⟩ := hu
  rw [Nat.add_zero] at hc0
  have e1 : ([[((194 : Int), (223 : Int)), (128, 191)]] : List (List (Int × Int))).length = 1 := rfl
  have e2 : ([[((194 : Int), (223 : Int)), (128, 191)]][0]?.getD []).length = 2 := rfl
  rw [e2] at hc0 HU
  rw [e1] at HR ⊢
  clear hq hb hc e1 e2
  go_wp2_with fail
  have hlit := rrow_lits2 w1 194 223 128 191 (by decide) 44
  refine (same_rg _ _ _ [(194, 223), (128, 191)] [(194, 223), (128, 191)] (HU.out.below (Nat.le_refl _) ((Below.refl w1.heap.size w1).alloc (Nat.le_refl _) _)) hlit).mono ?_
  rintro e w2 ⟨rfl, d, rfl⟩
  rw [decide_eq_true (rfl : [((194 : Int), (223 : Int)), (128, 191)] = [(194, 223), (128, 191)])]
  have HB2 := Lib.hid (below_drewN (((Below.refl w1.heap.size w1).alloc (Nat.le_refl _) (.cells #[.int .i64 194, .int .i64 223, .int .i64 128, .int .i64 191] 44))) d)
  clear hlit
  go_wp2_with fail
  refine (split_any _ 0 1114111 (by decide) (by decide)).mono ?_
  rintro e w3 ⟨v3, us3, rfl, hq3, hb3⟩
  have hr3 := hq3.row2 (Bd.splitL_ok 0 1114111)
  obtain ⟨a3, cap3, rfl, _⟩ := hr3
  have HB3 := Lib.hid (HB2.out.trans (hb3.mono HB2.out.size))
  rw [Bd.split_all]
  clear hq3 hb3
  go_wp2_with fail
  refine (long_any _ _ _ ⟨#[195, 169, 120]⟩ (by decide) (HR.out.below HB3.out)).mono ?_
  rintro e w4 ⟨rfl, hb4⟩
  rw [Bd.long_two]
  have HB4 := Lib.hid ((HB.out.trans (HB3.out.mono HB.out.size)).trans (hb4.mono (HB.out.trans (HB3.out.mono HB.out.size)).size))
  clear hb4
  go_wp2
  go_ret
  exact ⟨rfl, HB4.out⟩
end Go.Proofs.Ytfopcgbfbedcjaa
namespace Go.Proofs.Ytfopcgbfbedcjaa.Bd
open Go.Proofs.Ytfopcgbfbedcjaa.Rg
set_option linter.unusedVariables false
theorem dec_w (l : List Int) (hb : Utf.Bytes l) (h : Utf.width (Utf.dec l).1 ≠ 0) : (Utf.dec l).2 = Utf.width (Utf.dec l).1 := by
  rcases Utf.dec_some l hb with ⟨_, e⟩ | ⟨_, e⟩ | hs
  · rw [e] at h; exact absurd (Utf.width_neg (-1) (by decide)) h
  · rw [e] at h; exact absurd (Utf.width_neg (-1) (by decide)) h
  · exact hs.2.1
/-- The sequences of a set, as intervals. -/
structure SetI (l : List R) (L : List (List R)) (I : List (Int × Int)) : Prop where
  eq : L = I.map zp
  asc : AscI 0 I
  mem : ∀ r, memI I r = true ↔ hasB l r = true ∧ Utf.width r ≠ 0
theorem runes_has {r : Int} (h : Utf.width r ≠ 0) : hasB runesT r = true := by
  rw [hasB_iff]
  simp only [runesT, List.mem_cons, List.mem_nil_iff, or_false, exists_eq_or_imp, exists_eq_left]
  rcases Utf.width_cases r with ⟨q, z⟩ | ⟨q, z⟩ | ⟨q, z⟩ | ⟨q, z⟩ | ⟨q, z⟩ <;> omega
theorem width_pos {r : Int} (h : Utf.width r ≠ 0) : 0 ≤ r ∧ r ≤ 1114111 := by
  rcases Utf.width_cases r with ⟨q, z⟩ | ⟨q, z⟩ | ⟨q, z⟩ | ⟨q, z⟩ | ⟨q, z⟩ <;> omega
theorem setI {l C : List R} (hC : Made 2 l runesT C) : ∃ I, SetI l (ofL C) I := by
  obtain ⟨I, hI⟩ := ofL_made C 0 hC.norm
  refine ⟨I, hI.eq, hI.asc, fun r => ?_⟩
  rw [hI.mem]
  constructor
  · rintro ⟨h, hw⟩
    have hp := width_pos hw
    have e := hC.has r hp.1 hp.2
    rw [(norm_has hC.norm r).2 h] at e
    refine ⟨?_, hw⟩
    cases hq : hasB l r
    · rw [hq] at e; simp [opB] at e
    · rfl
  · rintro ⟨h, hw⟩
    have hp := width_pos hw
    have e := hC.has r hp.1 hp.2
    rw [h, runes_has hw] at e
    exact ⟨(norm_has hC.norm r).1 (by rw [e]; rfl), hw⟩
theorem SetI.yes {l : List R} {L : List (List R)} {I : List (Int × Int)} (h : SetI l L I) (s : ByteArray) {r : Int} (hd : (Utf.dec (Utf.nums s)).1 = r) (h1 : hasB l r = true) (h2 : Utf.width r ≠ 0) : longN L s = Utf.width r := by
  rw [h.eq, longN_asc I 0 s h.asc, hd, if_pos ((h.mem r).2 ⟨h1, h2⟩)]
theorem SetI.no {l : List R} {L : List (List R)} {I : List (Int × Int)} (h : SetI l L I) (s : ByteArray) {r : Int} (hd : (Utf.dec (Utf.nums s)).1 = r) (h1 : ¬ (hasB l r = true ∧ Utf.width r ≠ 0)) : longN L s = 0 := by
  rw [h.eq, longN_asc I 0 s h.asc, hd, if_neg (fun e => h1 ((h.mem r).1 e))]
theorem SetI.turnYes {l : List R} {L : List (List R)} {I : List (Int × Int)} (h : SetI l L I) {s : ByteArray} {r : Int} (hs : Utf.nums s = (Utf.encN r).reverse) (h1 : hasB l r = true) (h2 : Utf.width r ≠ 0) : longN (turnL L) s = Utf.width r := by
  rw [h.eq, longN_turn I 0 r s h.asc h2 hs, if_pos ((h.mem r).2 ⟨h1, h2⟩)]
theorem SetI.turnNo {l : List R} {L : List (List R)} {I : List (Int × Int)} (h : SetI l L I) {s : ByteArray} {r : Int} (hs : Utf.nums s = (Utf.encN r).reverse) (h1 : hasB l r ≠ true) (h2 : Utf.width r ≠ 0) : longN (turnL L) s = 0 := by
  rw [h.eq, longN_turn I 0 r s h.asc h2 hs, if_neg (fun e => h1 ((h.mem r).1 e).1)]
end Go.Proofs.Ytfopcgbfbedcjaa.Bd
