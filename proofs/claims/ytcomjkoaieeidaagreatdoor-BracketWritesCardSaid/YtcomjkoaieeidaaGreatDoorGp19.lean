/- The landed class: Letter, Colon and Property. -/
import Derived.Test.YtcomjkoaieeidaaGreatDoorGp18
namespace Go.Proofs.YtcomjkoaieeidaaGreatDoor
open Go.RowKit Go.Shelf
set_option linter.unusedVariables false
namespace Cl
open Go.Proofs.YtcomjkoaieeidaaGreatDoor.Rg
/-- Two lists of the same ranges. -/
def sameB (a b : List (Int × Int)) : Bool := a.all (fun p => b.contains p) && b.all (fun p => a.contains p)
theorem sameB_has {a b : List (Int × Int)} (h : sameB a b = true) (q : Int) : hasB a q = hasB b q := by
  simp only [sameB, Bool.and_eq_true, List.all_eq_true, List.contains_iff_mem] at h
  rw [Bool.eq_iff_iff, hasB_iff, hasB_iff]
  constructor
  · rintro ⟨h0, p, hp, h1⟩; exact ⟨h0, p, h.1 p hp, h1⟩
  · rintro ⟨h0, p, hp, h1⟩; exact ⟨h0, p, h.2 p hp, h1⟩
/-- The landed table has of each name what the reference's has. -/
def agreeB (T : List (ByteArray × ByteArray)) (U : List (List UInt8 × List Int)) : Bool :=
  (T.all fun e => match look U e.1.data.toList with | some n => sameB (pairsT e.2.data.toList) (pairsOf n) | none => false) && U.all fun u => T.any fun e => e.1.data.toList == u.1
theorem agree_col : agreeB colB colonT = true := by decide +kernel
theorem agree_prop : agreeB propB propT = true := by decide +kernel
theorem agree_some {T : List (ByteArray × ByteArray)} {U : List (List UInt8 × List Int)} (h : agreeB T U = true) {s : List UInt8} {p : ByteArray × ByteArray} (hf : findT T s = some p) :
    ∃ n, look U s = some n ∧ ∀ q, hasB (pairsT p.2.data.toList) q = hasB (pairsOf n) q := by
  simp only [agreeB, Bool.and_eq_true, List.all_eq_true] at h
  have hm := h.1 p (List.mem_of_find?_eq_some hf)
  have hs : p.1.data.toList = s := by have := List.find?_some hf; simpa using this
  rw [hs] at hm
  cases hl : look U s with
  | none => rw [hl] at hm; cases hm
  | some n => rw [hl] at hm; exact ⟨n, rfl, sameB_has hm⟩
theorem agree_none {T : List (ByteArray × ByteArray)} {U : List (List UInt8 × List Int)} (h : agreeB T U = true) {s : List UInt8} (hf : findT T s = none) : look U s = none := by
  simp only [agreeB, Bool.and_eq_true, List.all_eq_true] at h
  unfold look
  cases hu : U.find? fun e => s == e.1 with
  | none => rfl
  | some u =>
    exfalso
    have hs : s = u.1 := by have := List.find?_some hu; simpa using this
    have ha := h.2 u (List.mem_of_find?_eq_some hu)
    rw [List.any_eq_true] at ha
    obtain ⟨e, he, h2⟩ := ha
    unfold findT at hf
    rw [List.find?_eq_none] at hf
    exact hf e he (by rw [hs]; exact h2)
end Cl
theorem class_of_find {T : List (ByteArray × ByteArray)} {U : List (List UInt8 × List Int)} (h : Cl.agreeB T U = true) {s : List UInt8} {W : World} {e : Ending} {w' : World} (hp : FindPost T s W e w') : ClassPost (Cl.lookC U s) W e w' := by
  obtain ⟨v, out, code, rfl, ho, hb, hc⟩ := hp
  refine ⟨v, out, code, rfl, ?_, ho, hb⟩
  unfold Cl.lookC
  rcases hc with ⟨hf, rfl, rfl⟩ | ⟨p, hf, rfl, hn, hh⟩
  · rw [Cl.agree_none h hf]; exact ⟨rfl, rfl⟩
  · obtain ⟨n, hl, hs⟩ := Cl.agree_some h hf
    rw [hl]
    exact ⟨rfl, hn, fun q h0 h1 => by rw [hh q h0 h1, hs]⟩
theorem class_of_list {neg : Bool} {L : List (Int × Int)} {T : List Int} (h : ∀ q, Rg.hasB L q = Rg.hasB (Cl.pairsOf T) q) {out : List (Int × Int)} (hn : Rg.NormL out) (hh : ∀ q, 0 ≤ q → q ≤ 1114111 → Rg.hasB out q = (neg != Rg.hasB L q)) : Cl.ClassIs (some (neg, T)) out 0 :=
  ⟨rfl, hn, fun q h0 h1 => by rw [hh q h0 h1, h]⟩
theorem Cl.space_has (q : Int) : Rg.hasB (Cl.pairsT [57, 32, 65, 32, 67, 32, 68, 32, 50, 48]) q = Rg.hasB (Cl.pairsOf [9, 10, 12, 13, 32, 32]) q := by
  rw [show Cl.pairsT [57, 32, 65, 32, 67, 32, 68, 32, 50, 48] = [(9, 9), (10, 10), (12, 12), (13, 13), (32, 32)] by decide +kernel, show Cl.pairsOf [9, 10, 12, 13, 32, 32] = [(9, 10), (12, 13), (32, 32)] by decide, Bool.eq_iff_iff, Rg.hasB_iff, Rg.hasB_iff]
  simp only [List.mem_cons, List.not_mem_nil, or_false, exists_eq_or_imp, exists_eq_left]
  omega
set_option maxRecDepth 100000 in
set_option maxHeartbeats 2000000 in
theorem cColon_any (W : World) (s : ByteArray) (htab : Spaces W) : Calls Tryz.prog 92 #[.string s] W (ClassPost (Cl.lookC Cl.colonT s.data.toList) W) := by
  have HS := Lib.hid htab
  clear htab
  go_enter Tryz.func92, Tryz.ntmps92
  go_wp2_with fail
  refine (colons_any _).mono ?_
  rintro e w1 ⟨rfl, rfl⟩
  have D1 := Lib.hid ((Below.refl W.heap.size W).alloc (Nat.le_refl _) (.cells (Cl.cellsT Cl.colB) 114))
  go_wp2_with fail
  refine (find_any _ Cl.colB Cl.okTab_col 14 rfl (by decide) W.heap.size (heap_alloc_new W _) s (HS.out.below (Nat.le_refl _) D1.out)).mono ?_
  intro e w2 hp
  obtain ⟨v, out, code, rfl, hc, ho, hb⟩ := class_of_find Cl.agree_col hp
  have HC := Lib.hid hc
  have HO := Lib.hid (ho.lower D1.out.size)
  have HB := Lib.hid (D1.out.trans (hb.mono D1.out.size))
  clear hp hc ho hb
  go_wp2
  go_ret2
  exact ⟨v, out, code, rfl, HC.out, HO.out, HB.out⟩
set_option maxRecDepth 100000 in
set_option maxHeartbeats 2000000 in
theorem cProp_any (W : World) (s : ByteArray) (htab : Spaces W) : Calls Tryz.prog 53 #[.string s] W (ClassPost (Cl.lookC Cl.propT s.data.toList) W) := by
  have HS := Lib.hid htab
  clear htab
  go_enter Tryz.func53, Tryz.ntmps53
  go_wp2_with fail
  refine (properties_any _).mono ?_
  rintro e w1 ⟨rfl, rfl⟩
  have D1 := Lib.hid ((Below.refl W.heap.size W).alloc (Nat.le_refl _) (.cells (Cl.cellsT Cl.propB) 114))
  go_wp2_with fail
  refine (find_any _ Cl.propB Cl.okTab_prop 8 rfl (by decide) W.heap.size (heap_alloc_new W _) s (HS.out.below (Nat.le_refl _) D1.out)).mono ?_
  intro e w2 hp
  obtain ⟨v, out, code, rfl, hc, ho, hb⟩ := class_of_find Cl.agree_prop hp
  have HC := Lib.hid hc
  have HO := Lib.hid (ho.lower D1.out.size)
  have HB := Lib.hid (D1.out.trans (hb.mono D1.out.size))
  clear hp hc ho hb
  go_wp2
  go_ret2
  exact ⟨v, out, code, rfl, HC.out, HO.out, HB.out⟩
set_option maxRecDepth 100000 in
set_option maxHeartbeats 4000000 in
theorem cLetter_any (W : World) (c : Int) (htab : Spaces W) : Calls Tryz.prog 30 #[.int .u8 c] W (ClassPost (Cl.letterX c) W) := by
  have HS := Lib.hid htab
  clear htab
  by_cases h100 : c = 100
  · subst h100
    have HX : Hid (Cl.letterX 100 = some (false, [48, 57])) := Lib.hid (by decide)
    go_enter Tryz.func30, Tryz.ntmps30
    go_wp2_with fail
    refine (clist_any ⟨#[51, 48, 45, 51, 57]⟩ (by decide +kernel) false _ HS.out).mono ?_
    rintro e w1 ⟨v1, o1, rfl, hn, hh, ho, hb⟩
    have HN := Lib.hid hn
    have HH := Lib.hid hh
    have HO := Lib.hid ho
    have HB := Lib.hid hb
    clear hn hh ho hb
    go_wp2
    go_ret2
    exact ⟨v1, o1, 0, rfl, by rw [HX.out]; exact class_of_list (Cl.sameB_has (by decide +kernel)) HN.out HH.out, HO.out, HB.out⟩
  by_cases h68 : c = 68
  · subst h68
    have HX : Hid (Cl.letterX 68 = some (true, [48, 57])) := Lib.hid (by decide)
    go_enter Tryz.func30, Tryz.ntmps30
    go_wp2_with fail
    refine (clist_any ⟨#[51, 48, 45, 51, 57]⟩ (by decide +kernel) true _ HS.out).mono ?_
    rintro e w1 ⟨v1, o1, rfl, hn, hh, ho, hb⟩
    have HN := Lib.hid hn
    have HH := Lib.hid hh
    have HO := Lib.hid ho
    have HB := Lib.hid hb
    clear hn hh ho hb
    go_wp2
    go_ret2
    exact ⟨v1, o1, 0, rfl, by rw [HX.out]; exact class_of_list (Cl.sameB_has (by decide +kernel)) HN.out HH.out, HO.out, HB.out⟩
  by_cases h115 : c = 115
  · subst h115
    have HX : Hid (Cl.letterX 115 = some (false, [9, 10, 12, 13, 32, 32])) := Lib.hid (by decide)
    go_enter Tryz.func30, Tryz.ntmps30
    go_wp2_with fail
    refine (clist_any ⟨#[57, 32, 65, 32, 67, 32, 68, 32, 50, 48]⟩ (by decide +kernel) false _ HS.out).mono ?_
    rintro e w1 ⟨v1, o1, rfl, hn, hh, ho, hb⟩
    have HN := Lib.hid hn
    have HH := Lib.hid hh
    have HO := Lib.hid ho
    have HB := Lib.hid hb
    clear hn hh ho hb
    go_wp2
    go_ret2
    exact ⟨v1, o1, 0, rfl, by rw [HX.out]; exact class_of_list Cl.space_has HN.out HH.out, HO.out, HB.out⟩
  by_cases h83 : c = 83
  · subst h83
    have HX : Hid (Cl.letterX 83 = some (true, [9, 10, 12, 13, 32, 32])) := Lib.hid (by decide)
    go_enter Tryz.func30, Tryz.ntmps30
    go_wp2_with fail
    refine (clist_any ⟨#[57, 32, 65, 32, 67, 32, 68, 32, 50, 48]⟩ (by decide +kernel) true _ HS.out).mono ?_
    rintro e w1 ⟨v1, o1, rfl, hn, hh, ho, hb⟩
    have HN := Lib.hid hn
    have HH := Lib.hid hh
    have HO := Lib.hid ho
    have HB := Lib.hid hb
    clear hn hh ho hb
    go_wp2
    go_ret2
    exact ⟨v1, o1, 0, rfl, by rw [HX.out]; exact class_of_list Cl.space_has HN.out HH.out, HO.out, HB.out⟩
  by_cases h119 : c = 119
  · subst h119
    have HX : Hid (Cl.letterX 119 = some (false, Cl.word)) := Lib.hid (by decide)
    go_enter Tryz.func30, Tryz.ntmps30
    go_wp2_with fail
    refine (clist_any ⟨#[51, 48, 45, 51, 57, 32, 52, 49, 45, 53, 65, 32, 54, 49, 45, 55, 65, 32, 53, 70]⟩ (by decide +kernel) false _ HS.out).mono ?_
    rintro e w1 ⟨v1, o1, rfl, hn, hh, ho, hb⟩
    have HN := Lib.hid hn
    have HH := Lib.hid hh
    have HO := Lib.hid ho
    have HB := Lib.hid hb
    clear hn hh ho hb
    go_wp2
    go_ret2
    exact ⟨v1, o1, 0, rfl, by rw [HX.out]; exact class_of_list (Cl.sameB_has (by decide +kernel)) HN.out HH.out, HO.out, HB.out⟩
  by_cases h87 : c = 87
  · subst h87
    have HX : Hid (Cl.letterX 87 = some (true, Cl.word)) := Lib.hid (by decide)
    go_enter Tryz.func30, Tryz.ntmps30
    go_wp2_with fail
    refine (clist_any ⟨#[51, 48, 45, 51, 57, 32, 52, 49, 45, 53, 65, 32, 54, 49, 45, 55, 65, 32, 53, 70]⟩ (by decide +kernel) true _ HS.out).mono ?_
    rintro e w1 ⟨v1, o1, rfl, hn, hh, ho, hb⟩
    have HN := Lib.hid hn
    have HH := Lib.hid hh
    have HO := Lib.hid ho
    have HB := Lib.hid hb
    clear hn hh ho hb
    go_wp2
    go_ret2
    exact ⟨v1, o1, 0, rfl, by rw [HX.out]; exact class_of_list (Cl.sameB_has (by decide +kernel)) HN.out HH.out, HO.out, HB.out⟩
  have HX : Hid (Cl.letterX c = none) := Lib.hid (by unfold Cl.letterX; rw [if_neg h100, if_neg h68, if_neg h115, if_neg h83, if_neg h119, if_neg h87])
  go_enter Tryz.func30, Tryz.ntmps30
  go_wp2_with fail
  go_ret2
  exact ⟨_, [], 70, rfl, by rw [HX.out]; exact ⟨rfl, rfl⟩, RgOwn.nil, Below.refl _ _⟩
end Go.Proofs.YtcomjkoaieeidaaGreatDoor
