/- The landed class: Letter, Colon and Property. · The landed bracket: property, Set. · The landed bracket: Set. -/
import Derived.Test.YtmdpchiiamgnnaaGreatDoorGp21
import Derived.Test.YtmdpchiiamgnnaaGreatDoorGp16
import Derived.Test.YtmdpchiiamgnnaaGreatDoorGp20
import Derived.Test.YtmdpchiiamgnnaaGreatDoorGp8
namespace Go.Proofs.YtmdpchiiamgnnaaGreatDoor
open Go.RowKit Go.Shelf
set_option linter.unusedVariables false
namespace Cl
open Go.Proofs.YtmdpchiiamgnnaaGreatDoor.Rg
/-- Two lists of the same ranges. -/
def sameB (a b : List (Int × Int)) : Bool := a.all (fun p => b.contains p) && b.all (fun p => a.contains p)
theorem sameB_has {a b : List (Int × Int)} (h : sameB a b = true) (q : Int) : hasB a q = hasB b q := by
  simp only [sameB, Bool.and_eq_true, List.all_eq_true, List.contains_iff_mem] at h
  rw [Bool.eq_iff_iff, hasB_iff, hasB_iff]
  constructor
  · rintro ⟨h0, p, hp, h1⟩; exact ⟨h0, p, h.1 p hp, h1⟩
  · rintro ⟨h0, p, hp, h1⟩; exact ⟨h0, p, h.2 p hp, h1⟩
/-- The landed table has of each name what the reference's has. -/
def agreeB (T : List (ByteArray × ByteArray)) (U : List (List UInt8 × List Int)) : Bool :=
  (T.all fun e => match look U e.1.data.toList with | some n => sameB (pairsT e.2.data.toList) (pairsOf n) | none => false) && U.all fun u => T.any fun e => e.1.data.toList == u.1
theorem agree_col : agreeB colB colonT = true := by decide +kernel
theorem agree_prop : agreeB propB propT = true := by decide +kernel
theorem agree_some {T : List (ByteArray × ByteArray)} {U : List (List UInt8 × List Int)} (h : agreeB T U = true) {s : List UInt8} {p : ByteArray × ByteArray} (hf : findT T s = some p) :
    ∃ n, look U s = some n ∧ ∀ q, hasB (pairsT p.2.data.toList) q = hasB (pairsOf n) q := by
  simp only [agreeB, Bool.and_eq_true, List.all_eq_true] at h
  have hm := h.1 p (List.mem_of_find?_eq_some hf)
  have hs : p.1.data.toList = s := by have := List.find?_some hf; simpa using this
  rw [hs] at hm
  cases hl : look U s with
  | none => rw [hl] at hm; cases hm
  | some n => rw [hl] at hm; exact ⟨n, rfl, sameB_has hm⟩
theorem agree_none {T : List (ByteArray × ByteArray)} {U : List (List UInt8 × List Int)} (h : agreeB T U = true) {s : List UInt8} (hf : findT T s = none) : look U s = none := by
  simp only [agreeB, Bool.and_eq_true, List.all_eq_true] at h
  unfold look
  cases hu : U.find? fun e => s == e.1 with
  | none => rfl
  | some u =>
    exfalso
    have hs : s = u.1 := by have := List.find?_some hu; simpa using this
    have ha := h.2 u (List.mem_of_find?_eq_some hu)
    rw [List.any_eq_true] at ha
    obtain ⟨e, he, h2⟩ := ha
    unfold findT at hf
    rw [List.find?_eq_none] at hf
    exact hf e he (by rw [hs]; exact h2)
end Cl
theorem class_of_find {T : List (ByteArray × ByteArray)} {U : List (List UInt8 × List Int)} (h : Cl.agreeB T U = true) {s : List UInt8} {W : World} {e : Ending} {w' : World} (hp : FindPost T s W e w') : ClassPost (Cl.lookC U s) W e w' := by
  obtain ⟨v, out, code, rfl, ho, hb, hc⟩ := hp
  refine ⟨v, out, code, rfl, ?_, ho, hb⟩
  unfold Cl.lookC
  rcases hc with ⟨hf, rfl, rfl⟩ | ⟨p, hf, rfl, hn, hh⟩
  · rw [Cl.agree_none h hf]; exact ⟨rfl, rfl⟩
  · obtain ⟨n, hl, hs⟩ := Cl.agree_some h hf
    rw [hl]
    exact ⟨rfl, hn, fun q h0 h1 => by rw [hh q h0 h1, hs]⟩
theorem class_of_list {neg : Bool} {L : List (Int × Int)} {T : List Int} (h : ∀ q, Rg.hasB L q = Rg.hasB (Cl.pairsOf T) q) {out : List (Int × Int)} (hn : Rg.NormL out) (hh : ∀ q, 0 ≤ q → q ≤ 1114111 → Rg.hasB out q = (neg != Rg.hasB L q)) : Cl.ClassIs (some (neg, T)) out 0 :=
  ⟨rfl, hn, fun q h0 h1 => by rw [hh q h0 h1, h]⟩
theorem Cl.space_has (q : Int) : Rg.hasB (Cl.pairsT [57, 32, 65, 32, 67, 32, 68, 32, 50, 48]) q = Rg.hasB (Cl.pairsOf [9, 10, 12, 13, 32, 32]) q := by
  rw [show Cl.pairsT [57, 32, 65, 32, 67, 32, 68, 32, 50, 48] = [(9, 9), (10, 10), (12, 12), (13, 13), (32, 32)] by decide +kernel, show Cl.pairsOf [9, 10, 12, 13, 32, 32] = [(9, 10), (12, 13), (32, 32)] by decide, Bool.eq_iff_iff, Rg.hasB_iff, Rg.hasB_iff]
  simp only [List.mem_cons, List.not_mem_nil, or_false, exists_eq_or_imp, exists_eq_left]
  omega
set_option maxRecDepth 100000 in
set_option maxHeartbeats 2000000 in
theorem cColon_any (W : World) (s : ByteArray) (htab : Spaces W) : Calls Tryz.prog 66 #[.string s] W (ClassPost (Cl.lookC Cl.colonT s.data.toList) W) := by
  have HS := Lib.hid htab
  clear htab
  go_enter Tryz.func66, Tryz.ntmps66
  go_wp2_with fail
  refine (colons_any _).mono ?_
  rintro e w1 ⟨rfl, rfl⟩
  have D1 := Lib.hid ((Below.refl W.heap.size W).alloc (Nat.le_refl _) (.cells (Cl.cellsT Cl.colB) 138))
  go_wp2_with fail
  refine (find_any _ Cl.colB Cl.okTab_col 14 rfl (by decide) W.heap.size (heap_alloc_new W _) s (HS.out.below (Nat.le_refl _) D1.out)).mono ?_
  intro e w2 hp
  obtain ⟨v, out, code, rfl, hc, ho, hb⟩ := class_of_find Cl.agree_col hp
  have HC := Lib.hid hc
  have HO := Lib.hid (ho.lower D1.out.size)
  have HB := Lib.hid (D1.out.trans (hb.mono D1.out.size))
  clear hp hc ho hb
  go_wp2
  go_ret2
  exact ⟨v, out, code, rfl, HC.out, HO.out, HB.out⟩
set_option maxRecDepth 100000 in
set_option maxHeartbeats 2000000 in
theorem cProp_any (W : World) (s : ByteArray) (htab : Spaces W) : Calls Tryz.prog 105 #[.string s] W (ClassPost (Cl.lookC Cl.propT s.data.toList) W) := by
  have HS := Lib.hid htab
  clear htab
  go_enter Tryz.func105, Tryz.ntmps105
  go_wp2_with fail
  refine (properties_any _).mono ?_
  rintro e w1 ⟨rfl, rfl⟩
  have D1 := Lib.hid ((Below.refl W.heap.size W).alloc (Nat.le_refl _) (.cells (Cl.cellsT Cl.propB) 138))
  go_wp2_with fail
  refine (find_any _ Cl.propB Cl.okTab_prop 8 rfl (by decide) W.heap.size (heap_alloc_new W _) s (HS.out.below (Nat.le_refl _) D1.out)).mono ?_
  intro e w2 hp
  obtain ⟨v, out, code, rfl, hc, ho, hb⟩ := class_of_find Cl.agree_prop hp
  have HC := Lib.hid hc
  have HO := Lib.hid (ho.lower D1.out.size)
  have HB := Lib.hid (D1.out.trans (hb.mono D1.out.size))
  clear hp hc ho hb
  go_wp2
  go_ret2
  exact ⟨v, out, code, rfl, HC.out, HO.out, HB.out⟩
set_option maxRecDepth 100000 in
set_option maxHeartbeats 4000000 in
theorem cLetter_any (W : World) (c : Int) (htab : Spaces W) : Calls Tryz.prog 68 #[.int .u8 c] W (ClassPost (Cl.letterX c) W) := by
  have HS := Lib.hid htab
  clear htab
  by_cases h100 : c = 100
  · subst h100
    have HX : Hid (Cl.letterX 100 = some (false, [48, 57])) := Lib.hid (by decide)
    go_enter Tryz.func68, Tryz.ntmps68
    go_wp2_with fail
    refine (clist_any ⟨#[51, 48, 45, 51, 57]⟩ (by decide +kernel) false _ HS.out).mono ?_
    rintro e w1 ⟨v1, o1, rfl, hn, hh, ho, hb⟩
    have HN := Lib.hid hn
    have HH := Lib.hid hh
    have HO := Lib.hid ho
    have HB := Lib.hid hb
    clear hn hh ho hb
    go_wp2
    go_ret2
    exact ⟨v1, o1, 0, rfl, by rw [HX.out]; exact class_of_list (Cl.sameB_has (by decide +kernel)) HN.out HH.out, HO.out, HB.out⟩
  by_cases h68 : c = 68
  · subst h68
    have HX : Hid (Cl.letterX 68 = some (true, [48, 57])) := Lib.hid (by decide)
    go_enter Tryz.func68, Tryz.ntmps68
    go_wp2_with fail
    refine (clist_any ⟨#[51, 48, 45, 51, 57]⟩ (by decide +kernel) true _ HS.out).mono ?_
    rintro e w1 ⟨v1, o1, rfl, hn, hh, ho, hb⟩
    have HN := Lib.hid hn
    have HH := Lib.hid hh
    have HO := Lib.hid ho
    have HB := Lib.hid hb
    clear hn hh ho hb
    go_wp2
    go_ret2
    exact ⟨v1, o1, 0, rfl, by rw [HX.out]; exact class_of_list (Cl.sameB_has (by decide +kernel)) HN.out HH.out, HO.out, HB.out⟩
  by_cases h115 : c = 115
  · subst h115
    have HX : Hid (Cl.letterX 115 = some (false, [9, 10, 12, 13, 32, 32])) := Lib.hid (by decide)
    go_enter Tryz.func68, Tryz.ntmps68
    go_wp2_with fail
    refine (clist_any ⟨#[57, 32, 65, 32, 67, 32, 68, 32, 50, 48]⟩ (by decide +kernel) false _ HS.out).mono ?_
    rintro e w1 ⟨v1, o1, rfl, hn, hh, ho, hb⟩
    have HN := Lib.hid hn
    have HH := Lib.hid hh
    have HO := Lib.hid ho
    have HB := Lib.hid hb
    clear hn hh ho hb
    go_wp2
    go_ret2
    exact ⟨v1, o1, 0, rfl, by rw [HX.out]; exact class_of_list Cl.space_has HN.out HH.out, HO.out, HB.out⟩
  by_cases h83 : c = 83
  · subst h83
    have HX : Hid (Cl.letterX 83 = some (true, [9, 10, 12, 13, 32, 32])) := Lib.hid (by decide)
    go_enter Tryz.func68, Tryz.ntmps68
    go_wp2_with fail
    refine (clist_any ⟨#[57, 32, 65, 32, 67, 32, 68, 32, 50, 48]⟩ (by decide +kernel) true _ HS.out).mono ?_
    rintro e w1 ⟨v1, o1, rfl, hn, hh, ho, hb⟩
    have HN := Lib.hid hn
    have HH := Lib.hid hh
    have HO := Lib.hid ho
    have HB := Lib.hid hb
    clear hn hh ho hb
    go_wp2
    go_ret2
    exact ⟨v1, o1, 0, rfl, by rw [HX.out]; exact class_of_list Cl.space_has HN.out HH.out, HO.out, HB.out⟩
  by_cases h119 : c = 119
  · subst h119
    have HX : Hid (Cl.letterX 119 = some (false, Cl.word)) := Lib.hid (by decide)
    go_enter Tryz.func68, Tryz.ntmps68
    go_wp2_with fail
    refine (clist_any ⟨#[51, 48, 45, 51, 57, 32, 52, 49, 45, 53, 65, 32, 54, 49, 45, 55, 65, 32, 53, 70]⟩ (by decide +kernel) false _ HS.out).mono ?_
    rintro e w1 ⟨v1, o1, rfl, hn, hh, ho, hb⟩
    have HN := Lib.hid hn
    have HH := Lib.hid hh
    have HO := Lib.hid ho
    have HB := Lib.hid hb
    clear hn hh ho hb
    go_wp2
    go_ret2
    exact ⟨v1, o1, 0, rfl, by rw [HX.out]; exact class_of_list (Cl.sameB_has (by decide +kernel)) HN.out HH.out, HO.out, HB.out⟩
  by_cases h87 : c = 87
  · subst h87
    have HX : Hid (Cl.letterX 87 = some (true, Cl.word)) := Lib.hid (by decide)
    go_enter Tryz.func68, Tryz.ntmps68
    go_wp2_with fail
    refine (clist_any ⟨#[51, 48, 45, 51, 57, 32, 52, 49, 45, 53, 65, 32, 54, 49, 45, 55, 65, 32, 53, 70]⟩ (by decide +kernel) true _ HS.out).mono ?_
    rintro e w1 ⟨v1, o1, rfl, hn, hh, ho, hb⟩
    have HN := Lib.hid hn
    have HH := Lib.hid hh
    have HO := Lib.hid ho
    have HB := Lib.hid hb
    clear hn hh ho hb
    go_wp2
    go_ret2
    exact ⟨v1, o1, 0, rfl, by rw [HX.out]; exact class_of_list (Cl.sameB_has (by decide +kernel)) HN.out HH.out, HO.out, HB.out⟩
  have HX : Hid (Cl.letterX c = none) := Lib.hid (by unfold Cl.letterX; rw [if_neg h100, if_neg h68, if_neg h115, if_neg h83, if_neg h119, if_neg h87])
  go_enter Tryz.func68, Tryz.ntmps68
  go_wp2_with fail
  go_ret2
  exact ⟨_, [], 70, rfl, by rw [HX.out]; exact ⟨rfl, rfl⟩, RgOwn.nil, Below.refl _ _⟩
end Go.Proofs.YtmdpchiiamgnnaaGreatDoor
namespace Go.Proofs.YtmdpchiiamgnnaaGreatDoor
open Go.RowKit
set_option linter.unusedVariables false
/-- What Set hands back. -/
def SetPost (X : Br.Cls × Int × Int) (W : World) (e : Ending) (w' : World) : Prop :=
  ∃ v out, e = .returned (.tuple #[v, .int .i64 X.2.1, .int .i64 X.2.2]) ∧ Br.SetIs X.1 out ∧ RgOwn w' W.heap.size v out ∧ Below W.heap.size W w'
theorem setIs_row {X : Br.Cls} {out : List (Int × Int)} (hc : Br.SetIs X out) {W : World} {base : Nat} {v : Value} (h : RgOwn W base v out) : RRow W v out := by
  cases X with
  | none => obtain rfl : out = [] := hc; exact h.row (by simp) (fun p hp => by cases hp)
  | some p => exact h.normRow hc.1
theorem below_drawn {W : World} (d : Nat) : Below W.heap.size W (W.drewN d) := below_drewN (Below.refl _ _) d
set_option maxRecDepth 100000 in
set_option maxHeartbeats 4000000 in
theorem property_any (W : World) (s : ByteArray) (hs : s.size ≤ 100000) (h2 : 2 ≤ s.size) (neg : Bool) (hE : Ev W) : Calls Tryz.prog 67 #[.string s, .bool neg] W (SetPost (Br.propX s neg) W) := by
  have h2i : (2 : Int) ≤ (s.size : Int) := by omega
  have hn := Br.nameX_of s h2
  have hpx : Br.propX s neg = (if (Br.nameX s).2.2 ≠ 0 then (none, 0, (Br.nameX s).2.2) else match Cl.lookC Cl.propT (Br.nameX s).1.data.toList with | none => (none, 0, 70) | some (b, T) => (some (b != neg, T), (Br.nameX s).2.1, 0)) := rfl
  have hcs := Br.nameX_cases s h2
  have hP := pname_any W (s.extract 2 s.size) (by rw [ByteArray.size_extract]; omega) hE
  rw [hn] at hpx hcs
  obtain ⟨⟨nm, n, code⟩, hp⟩ : ∃ p, Br.pname (s.extract 2 s.size) = p := ⟨_, rfl⟩
  rw [hp] at hP hpx hcs
  dsimp only at hP hpx hcs
  have HP := Lib.hid hP
  have HE := Lib.hid hE
  obtain ⟨R, hR⟩ : ∃ R, Br.propX s neg = R := ⟨_, rfl⟩
  rw [hR] at hpx ⊢
  clear hP hn hp hR hE
  by_cases hc : code = 0
  · subst hc
    rw [if_neg (by simp), if_pos rfl] at hpx
    rw [if_pos rfl] at hcs
    have hnb : 1 ≤ n ∧ n + 2 ≤ s.size := by omega
    have hw : IntKind.i64.wrap (2 + n) = n + 2 := by rw [IntKind.wrap_i64]; omega
    have HPX := Lib.hid hpx
    clear hpx hcs
    cases neg with
    | false =>
      go_enter Tryz.func67, Tryz.ntmps67
      go_wp2_with fail
      refine HP.out.mono ?_
      rintro e w' ⟨rfl, d, rfl⟩
      go_wp2_with fail
      refine (cProp_any _ nm (HE.out.drewN d).spaces).mono ?_
      rintro e w2 ⟨v, out, c2, rfl, hc2, ho, hb⟩
      have HO : Hid (RgOwn w2 W.heap.size v out) := Lib.hid ho
      have HB : Hid (Below W.heap.size W w2) := Lib.hid ((below_drawn (W := W) d).trans hb)
      cases hl : Cl.lookC Cl.propT nm.data.toList with
      | none =>
        rw [hl] at hc2
        obtain ⟨rfl, rfl⟩ := hc2
        have HR : Hid (R = (none, 0, 70)) := Lib.hid (by rw [HPX.out, hl])
        clear ho hb hl
        go_wp2
        go_ret3
        rw [HR.out]
        exact ⟨.slice none 0 0, [], rfl, rfl, RgOwn.nil, HB.out⟩
      | some x =>
        obtain ⟨b, T⟩ := x
        rw [hl] at hc2
        have HS := Lib.hid (Br.setIs_of hc2)
        obtain rfl : c2 = 0 := hc2.1
        have HR : Hid (R = (some (b != false, T), n + 2, 0)) := Lib.hid (by rw [HPX.out, hl])
        clear ho hb hl hc2
        go_wp2
        go_ret3
        rw [HR.out]
        exact ⟨v, out, rfl, by simpa using HS.out, HO.out, HB.out⟩
    | true =>
      go_enter Tryz.func67, Tryz.ntmps67
      go_wp2_with fail
      refine HP.out.mono ?_
      rintro e w' ⟨rfl, d, rfl⟩
      go_wp2_with fail
      refine (cProp_any _ nm (HE.out.drewN d).spaces).mono ?_
      rintro e w2 ⟨v, out, c2, rfl, hc2, ho, hb⟩
      have HO : Hid (RgOwn w2 W.heap.size v out) := Lib.hid ho
      have HB : Hid (Below W.heap.size W w2) := Lib.hid ((below_drawn (W := W) d).trans hb)
      cases hl : Cl.lookC Cl.propT nm.data.toList with
      | none =>
        rw [hl] at hc2
        obtain ⟨rfl, rfl⟩ := hc2
        have HR : Hid (R = (none, 0, 70)) := Lib.hid (by rw [HPX.out, hl])
        clear ho hb hl
        go_wp2
        go_ret3
        rw [HR.out]
        exact ⟨.slice none 0 0, [], rfl, rfl, RgOwn.nil, HB.out⟩
      | some x =>
        obtain ⟨b, T⟩ := x
        rw [hl] at hc2
        have HS := Lib.hid (Br.setIs_of hc2)
        obtain rfl : c2 = 0 := hc2.1
        have HR : Hid (R = (some (b != true, T), n + 2, 0)) := Lib.hid (by rw [HPX.out, hl])
        clear ho hb hl hc2
        go_wp2_with fail
        refine (not_any _ v out (setIs_row HS.out HO.out)).mono ?_
        rintro e w3 ⟨v3, out3, rfl, hm3, ho3, hb3⟩
        have HS3 := Lib.hid (Br.setIs_not HS.out hm3)
        have HO3 := Lib.hid (ho3.lower HB.out.size)
        have HB3 := Lib.hid (HB.out.trans (hb3.mono HB.out.size))
        clear hm3 ho3 hb3
        go_wp2
        go_ret3
        rw [HR.out]
        exact ⟨v3, out3, rfl, by simpa using HS3.out, HO3.out, HB3.out⟩
  · have hc0 : (code != 0) = true := by simpa using hc
    rw [if_pos hc] at hpx
    have HR := Lib.hid hpx
    clear hpx hcs
    go_enter Tryz.func67, Tryz.ntmps67
    go_wp2_with fail
    refine HP.out.mono ?_
    rintro e w' ⟨rfl, d, rfl⟩
    go_wp2
    go_ret3
    rw [HR.out]
    exact ⟨.slice none 0 0, [], rfl, rfl, RgOwn.nil, below_drawn d⟩
end Go.Proofs.YtmdpchiiamgnnaaGreatDoor
namespace Go.Proofs.YtmdpchiiamgnnaaGreatDoor
open Go.RowKit
set_option linter.unusedVariables false
set_option maxRecDepth 100000 in
set_option maxHeartbeats 4000000 in
theorem bSet_any (W : World) (s : ByteArray) (hs : s.size ≤ 100000) (hE : Ev W) : Calls Tryz.prog 39 #[.string s] W (SetPost (Br.set s) W) := by
  have hp := hasPre1 W s 92 (by decide)
  rw [show (((92 : UInt8).toNat : Nat) : Int) = 92 from rfl] at hp
  have hset : Br.set s = (if (Utf.nums s)[0]?.getD 0 ≠ 92 then (none, 0, 3) else if s.size = 1 then (none, 0, 5) else if (Utf.nums s)[1]?.getD 0 = 80 then Br.propX s true else if (Utf.nums s)[1]?.getD 0 = 112 then Br.propX s false else match Cl.letterX ((Utf.nums s)[1]?.getD 0) with | none => (none, 0, 5) | some x => (some x, 2, 0)) := by
    unfold Br.set
    dsimp only
    rw [Utf.nums_length]
    rfl
  have HE := Lib.hid hE
  obtain ⟨R, hR⟩ : ∃ R, Br.set s = R := ⟨_, rfl⟩
  rw [hR] at hset ⊢
  clear hE hR
  by_cases c0 : ¬ (Utf.nums s)[0]?.getD 0 = 92
  · have HR : Hid (R = (none, 0, 3)) := Lib.hid (by rw [hset, if_pos c0])
    rw [decide_eq_false c0] at hp
    have HP := Lib.hid hp
    clear hset hp c0
    go_enter Tryz.func39, Tryz.ntmps39
    go_wp2_with (go_at_call 22; refine HP.out.mono ?_; rintro e w' ⟨rfl, rfl⟩)
    go_ret3
    rw [HR.out]
    exact ⟨.slice none 0 0, [], rfl, rfl, RgOwn.nil, Below.refl _ _⟩
  have c0' : (Utf.nums s)[0]?.getD 0 = 92 := by omega
  rw [decide_eq_true c0'] at hp
  have HP := Lib.hid hp
  rw [if_neg (by omega)] at hset
  have h0 : 0 < s.size := by
    rcases Nat.lt_or_ge 0 s.size with h | h
    · exact h
    · rw [List.getElem?_eq_none (by rw [Utf.nums_length]; omega)] at c0'; cases c0'
  by_cases c1 : s.size = 1
  · have HR : Hid (R = (none, 0, 5)) := Lib.hid (by rw [hset, if_pos c1])
    have h1 : ((s.size : Int) == 1) = true := by simp [c1]
    clear hset hp c0 c0' c1
    go_enter Tryz.func39, Tryz.ntmps39
    go_wp2_with (go_at_call 22; refine HP.out.mono ?_; rintro e w' ⟨rfl, rfl⟩)
    go_ret3
    rw [HR.out]
    exact ⟨.slice none 0 0, [], rfl, rfl, RgOwn.nil, Below.refl _ _⟩
  have h1 : ((s.size : Int) == 1) = false := by simp; omega
  have h2 : 1 < s.size := by omega
  have h2i : (1 : Int) < (s.size : Int) := by omega
  have hb : s[1].toNat < 256 := UInt8.toNat_lt _
  have hat : (Utf.nums s)[1]?.getD 0 = (s[1].toNat : Int) := Utf.nums_at s 1 h2
  rw [if_neg c1, hat] at hset
  clear hp c0 c0' c1 hat
  by_cases c2 : (s[1].toNat : Int) = 80
  · rw [if_pos c2] at hset
    have HC := Lib.hid (property_any W s hs h2 true HE.out)
    rw [← hset] at HC
    clear hset
    go_enter Tryz.func39, Tryz.ntmps39
    go_wp2_with fail
    refine HP.out.mono ?_
    rintro e w' ⟨rfl, rfl⟩
    go_wp2_with fail
    refine HC.out.mono ?_
    rintro e w' ⟨v, out, rfl, h7, h8, h9⟩
    have H7 := Lib.hid (And.intro h7 (And.intro h8 h9))
    clear h7 h8 h9
    go_wp2
    go_ret3
    exact ⟨v, out, rfl, H7.out⟩
  rw [if_neg c2] at hset
  have c2b : ((s[1].toNat : Int) == 80) = false := by simpa using c2
  by_cases c3 : (s[1].toNat : Int) = 112
  · rw [if_pos c3] at hset
    have HC := Lib.hid (property_any W s hs h2 false HE.out)
    rw [← hset] at HC
    clear hset c2
    go_enter Tryz.func39, Tryz.ntmps39
    go_wp2_with fail
    refine HP.out.mono ?_
    rintro e w' ⟨rfl, rfl⟩
    go_wp2_with fail
    refine HC.out.mono ?_
    rintro e w' ⟨v, out, rfl, h7, h8, h9⟩
    have H7 := Lib.hid (And.intro h7 (And.intro h8 h9))
    clear h7 h8 h9
    go_wp2
    go_ret3
    exact ⟨v, out, rfl, H7.out⟩
  rw [if_neg c3] at hset
  have c3b : ((s[1].toNat : Int) == 112) = false := by simpa using c3
  have HC := Lib.hid (cLetter_any W (s[1].toNat : Int) HE.out.spaces)
  obtain ⟨X, hX⟩ : ∃ X, Cl.letterX (s[1].toNat : Int) = X := ⟨_, rfl⟩
  rw [hX] at HC hset
  cases X with
  | none =>
    have HR : Hid (R = (none, 0, 5)) := Lib.hid hset
    clear hset hX c2 c3
    go_enter Tryz.func39, Tryz.ntmps39
    go_wp2_with fail
    refine HP.out.mono ?_
    rintro e w' ⟨rfl, rfl⟩
    go_wp2_with fail
    refine HC.out.mono ?_
    rintro e w2 ⟨v, out, c9, rfl, hc9, ho, hb9⟩
    obtain ⟨rfl, rfl⟩ := hc9
    have HB := Lib.hid hb9
    clear ho hb9
    go_wp2
    go_ret3
    rw [HR.out]
    exact ⟨.slice none 0 0, [], rfl, rfl, RgOwn.nil, HB.out⟩
  | some x =>
    have HR : Hid (R = (some x, 2, 0)) := Lib.hid hset
    clear hset hX c2 c3
    go_enter Tryz.func39, Tryz.ntmps39
    go_wp2_with fail
    refine HP.out.mono ?_
    rintro e w' ⟨rfl, rfl⟩
    go_wp2_with fail
    refine HC.out.mono ?_
    rintro e w2 ⟨v, out, c9, rfl, hc9, ho, hb9⟩
    have HS := Lib.hid (Br.setIs_of hc9)
    obtain rfl : c9 = 0 := hc9.1
    have HB := Lib.hid hb9
    have HO := Lib.hid ho
    clear ho hb9 hc9
    go_wp2
    go_ret3
    rw [HR.out]
    exact ⟨v, out, rfl, HS.out, HO.out, HB.out⟩
end Go.Proofs.YtmdpchiiamgnnaaGreatDoor
