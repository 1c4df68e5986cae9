/- The landed bracket: propertyName. · The landed bracket: Number. · slices.SortFunc at lists of ranges: the library's contract, laid over this translation. · slices.SortFunc by the ranges' beginnings, on a list that the call owns: a permutation, sorted. · The landed ranges: the contracts of Has and Check. · The landed ranges: sorted. -/
import Derived.Test.YtanffablfgnioaaGreatDoorGp20
import Derived.Test.YtanffablfgnioaaGreatDoorGp4
import Derived.Shelf.SlSortCmp.NoneTotal
import Derived.Test.YtanffablfgnioaaGreatDoorProg
import Derived.Test.YtanffablfgnioaaGreatDoorGp13
namespace Go.Proofs.YtanffablfgnioaaGreatDoor
open Go.RowKit
set_option linter.unusedVariables false
namespace Br
/-- A property's name in front of a text, the length of what it is written in, and the code. -/
def pname (t : ByteArray) : ByteArray × Int × Int :=
  let l := Utf.nums t
  if l.length = 0 then (⟨#[]⟩, 0, 82) else if letB (l[0]?.getD 0) = true then (t.extract 0 1, 1, 0) else if l[0]?.getD 0 ≠ 123 then (⟨#[]⟩, 0, 70)
  else if upTo 125 (l.drop 1) = (l.drop 1).length then (⟨#[]⟩, 0, 82) else ((t.extract 1 t.size).extract 0 (upTo 125 (l.drop 1)), upTo 125 (l.drop 1) + 2, 0)
theorem bytes_inj {s t : ByteArray} (h : Utf.nums s = Utf.nums t) : s = t := by
  apply ByteArray.ext
  apply Array.toList_inj.1
  unfold Utf.nums at h
  exact List.map_inj_right (fun a b e => UInt8.toNat_inj.1 (by exact_mod_cast e)) |>.1 h
theorem ext_tail (s : ByteArray) (a k : Nat) : (s.extract a s.size).extract 0 k = s.extract a (a + k) := by
  apply bytes_inj
  rw [Utf.nums_extract, tail_drop, Utf.nums_extract]
  simp
theorem ext_ext (s : ByteArray) (a b : Nat) : (s.extract a s.size).extract b (s.extract a s.size).size = s.extract (a + b) s.size := by
  apply bytes_inj
  rw [tail_drop, tail_drop, tail_drop, List.drop_drop]
theorem nameX_of (s : ByteArray) (h : 2 ≤ s.size) : nameX s = ((pname (s.extract 2 s.size)).1, (if (pname (s.extract 2 s.size)).2.2 = 0 then (pname (s.extract 2 s.size)).2.1 + 2 else 0), (pname (s.extract 2 s.size)).2.2) := by
  have e0 : (Utf.nums (s.extract 2 s.size))[0]?.getD 0 = (Utf.nums s)[2]?.getD 0 := by rw [tail_drop, List.getElem?_drop]
  have el : (Utf.nums (s.extract 2 s.size)).length = s.size - 2 := by rw [tail_drop, List.length_drop, Utf.nums_length]
  have ed : (Utf.nums (s.extract 2 s.size)).drop 1 = (Utf.nums s).drop 3 := by rw [tail_drop, List.drop_drop]
  have e1 : (s.extract 2 s.size).extract 0 1 = s.extract 2 3 := ext_tail s 2 1
  have e2 : ∀ k, ((s.extract 2 s.size).extract 1 (s.extract 2 s.size).size).extract 0 k = s.extract 3 (3 + k) := fun k => by rw [ext_ext, ext_tail]
  have e3 : ((Utf.nums s).drop 3).length = s.size - 3 := by rw [List.length_drop, Utf.nums_length]
  obtain ⟨t, ht⟩ : ∃ t, s.extract 2 s.size = t := ⟨_, rfl⟩
  rw [ht] at e0 el ed e1 e2 ⊢
  have key : ∀ X : ByteArray × Int × Int, pname t = X → nameX s = (X.1, (if X.2.2 = 0 then X.2.1 + 2 else 0), X.2.2) → nameX s = ((pname t).1, (if (pname t).2.2 = 0 then (pname t).2.1 + 2 else 0), (pname t).2.2) := fun X h1 h2 => by rw [h1]; exact h2
  by_cases c0 : s.size = 2
  · refine key (⟨#[]⟩, 0, 82) ?_ ?_
    · unfold pname; dsimp only; rw [if_pos (by omega)]
    · unfold nameX; dsimp only; rw [if_pos (by rw [Utf.nums_length]; exact c0)]; rfl
  by_cases c1 : letB ((Utf.nums s)[2]?.getD 0) = true
  · refine key (s.extract 2 3, 1, 0) ?_ ?_
    · unfold pname; dsimp only; rw [if_neg (by omega), if_pos (by rw [e0]; exact c1), e1]
    · unfold nameX; dsimp only; rw [if_neg (by rw [Utf.nums_length]; exact c0), if_pos c1]; rfl
  by_cases c2 : (Utf.nums s)[2]?.getD 0 ≠ 123
  · refine key (⟨#[]⟩, 0, 70) ?_ ?_
    · unfold pname; dsimp only; rw [if_neg (by omega), if_neg (by rw [e0]; exact c1), if_pos (by rw [e0]; exact c2)]
    · unfold nameX; dsimp only; rw [if_neg (by rw [Utf.nums_length]; exact c0), if_neg c1, if_pos c2]; rfl
  by_cases c3 : upTo 125 ((Utf.nums s).drop 3) = ((Utf.nums s).drop 3).length
  · refine key (⟨#[]⟩, 0, 82) ?_ ?_
    · unfold pname; dsimp only; rw [if_neg (by omega), if_neg (by rw [e0]; exact c1), if_neg (by rw [e0]; exact c2), if_pos (by rw [ed]; exact c3)]
    · unfold nameX; dsimp only; rw [if_neg (by rw [Utf.nums_length]; exact c0), if_neg c1, if_neg c2, if_pos c3]; rfl
  · refine key (s.extract 3 (3 + upTo 125 ((Utf.nums s).drop 3)), upTo 125 ((Utf.nums s).drop 3) + 2, 0) ?_ ?_
    · unfold pname; dsimp only; rw [if_neg (by omega), if_neg (by rw [e0]; exact c1), if_neg (by rw [e0]; exact c2), if_neg (by rw [ed]; exact c3), ed, e2]
    · unfold nameX; dsimp only; rw [if_neg (by rw [Utf.nums_length]; exact c0), if_neg c1, if_neg c2, if_neg c3, if_pos rfl]
      congr 2
end Br
set_option maxRecDepth 100000 in
set_option maxHeartbeats 4000000 in
theorem pname_any (W : World) (t : ByteArray) (ht : t.size ≤ 100000) (hE : Ev W) : Calls Tryz.prog 103 #[.string t] W fun e w' =>
    e = .returned (.tuple #[.string (Br.pname t).1, .int .i64 (Br.pname t).2.1, .int .i64 (Br.pname t).2.2]) ∧ ∃ d, w' = W.drewN d := by
  have hpn : Br.pname t = (if t.size = 0 then (⟨#[]⟩, 0, 82) else if Br.letB ((Utf.nums t)[0]?.getD 0) = true then (t.extract 0 1, 1, 0) else if (Utf.nums t)[0]?.getD 0 ≠ 123 then (⟨#[]⟩, 0, 70)
      else if Br.upTo 125 ((Utf.nums t).drop 1) = t.size - 1 then (⟨#[]⟩, 0, 82) else ((t.extract 1 t.size).extract 0 (Br.upTo 125 ((Utf.nums t).drop 1)), (Br.upTo 125 ((Utf.nums t).drop 1) : Int) + 2, 0)) := by
    unfold Br.pname
    dsimp only
    rw [List.length_drop, Utf.nums_length]
  obtain ⟨R, hR⟩ : ∃ R, Br.pname t = R := ⟨_, rfl⟩
  rw [hR] at hpn ⊢
  clear hR
  by_cases c0 : t.size = 0
  · have HE : Hid (R = (⟨#[]⟩, 0, 82)) := Lib.hid (by rw [hpn, if_pos c0])
    obtain ⟨hne, hne2⟩ := toList_e c0
    clear hpn
    go_enter Tryz.func103, Tryz.ntmps103
    go_wp2
    go_ret3
    exact ⟨by rw [HE.out]; rfl, 0, rfl⟩
  have h0 : 0 < t.size := by omega
  have h0i : (0 : Int) < (t.size : Int) := by omega
  obtain ⟨hne, hne2⟩ := toList_ne h0
  have hat : (Utf.nums t)[0]?.getD 0 = (t[0].toNat : Int) := Utf.nums_at t 0 h0
  have hb : t[0].toNat < 256 := UInt8.toNat_lt _
  rw [if_neg c0, hat] at hpn
  have HL := Lib.hid (bLetter_any W (t[0].toNat : Int) (by omega) (by omega))
  clear hat
  cases hl : Br.letB (t[0].toNat : Int) with
  | true =>
    have HE : Hid (R = (t.extract 0 1, 1, 0)) := Lib.hid (by rw [hpn, hl, if_pos rfl])
    rw [hl] at HL
    have h1i : (1 : Int) ≤ (t.size : Int) := by omega
    clear hpn hl
    go_enter Tryz.func103, Tryz.ntmps103
    go_wp2_with fail
    refine HL.out.mono ?_
    rintro e w' ⟨rfl, rfl⟩
    go_wp2
    go_ret3
    exact ⟨by rw [HE.out]; rfl, 0, rfl⟩
  | false =>
    rw [hl] at HL
    rw [hl, if_neg (by decide)] at hpn
    clear hl
    by_cases c2 : (t[0].toNat : Int) ≠ 123
    · have HE : Hid (R = (⟨#[]⟩, 0, 70)) := Lib.hid (by rw [hpn, if_pos c2])
      have h4 : ((t[0].toNat : Int) != 123) = true := by simpa using c2
      clear hpn c2
      go_enter Tryz.func103, Tryz.ntmps103
      go_wp2_with fail
      refine HL.out.mono ?_
      rintro e w' ⟨rfl, rfl⟩
      go_wp2
      go_ret3
      exact ⟨by rw [HE.out]; rfl, 0, rfl⟩
    have h4 : ((t[0].toNat : Int) != 123) = false := by simp; omega
    rw [if_neg c2] at hpn
    have h1i : (1 : Int) ≤ (t.size : Int) := by omega
    have hk := Br.upTo_le 125 ((Utf.nums t).drop 1)
    rw [List.length_drop, Utf.nums_length] at hk
    have hsz : (t.extract 1 t.size).size = t.size - 1 := by rw [ByteArray.size_extract]; omega
    have hcut := cut_1 W (t.extract 1 t.size) (by omega) 125 hE
    rw [show (((125 : UInt8).toNat : Nat) : Int) = 125 from rfl, tail_drop] at hcut
    unfold CutPost at hcut
    rw [hsz] at hcut
    obtain ⟨K, hK⟩ : ∃ K, Br.upTo 125 ((Utf.nums t).drop 1) = K := ⟨_, rfl⟩
    rw [hK] at hpn hk hcut
    by_cases c3 : K = t.size - 1
    · have HE : Hid (R = (⟨#[]⟩, 0, 82)) := Lib.hid (by rw [hpn, if_pos c3])
      rw [decide_eq_false (by simpa using c3)] at hcut
      have HC := Lib.hid hcut
      clear hpn hcut hK c2 c3 hk hsz
      go_enter Tryz.func103, Tryz.ntmps103
      go_wp2_with fail
      refine HL.out.mono ?_
      rintro e w' ⟨rfl, rfl⟩
      go_wp2_with fail
      refine HC.out.mono ?_
      rintro e w' ⟨b, rfl, dd, rfl⟩
      go_wp2
      go_ret3
      exact ⟨by rw [HE.out]; rfl, dd, rfl⟩
    · have HE : Hid (R = ((t.extract 1 t.size).extract 0 K, (K : Int) + 2, 0)) := Lib.hid (by rw [hpn, if_neg c3])
      rw [decide_eq_true (by simpa using c3)] at hcut
      have HC := Lib.hid hcut
      obtain ⟨nm, hnm⟩ : ∃ nm, (t.extract 1 t.size).extract 0 K = nm := ⟨_, rfl⟩
      have hnz : nm.size = K := by rw [← hnm, ByteArray.size_extract]; omega
      rw [hnm] at HC HE
      have HNZ := Lib.hid hnz
      have hw1 : IntKind.i64.wrap (1 + (nm.size : Int)) = (K : Int) + 1 := by rw [IntKind.wrap_i64, hnz]; omega
      have hw2 : IntKind.i64.wrap ((K : Int) + 1 + 1) = (K : Int) + 2 := by rw [IntKind.wrap_i64]; omega
      clear hpn hcut hK c2 c3 hk hsz hnm hnz
      go_enter Tryz.func103, Tryz.ntmps103
      go_wp2_with fail
      refine HL.out.mono ?_
      rintro e w' ⟨rfl, rfl⟩
      go_wp2_with fail
      refine HC.out.mono ?_
      rintro e w' ⟨b, rfl, dd, rfl⟩
      go_wp2
      go_ret3
      exact ⟨by rw [HE.out]; rfl, dd, rfl⟩
end Go.Proofs.YtanffablfgnioaaGreatDoor
namespace Go.Proofs.YtanffablfgnioaaGreatDoor
open Go.RowKit
set_option linter.unusedVariables false
set_option maxRecDepth 100000 in
set_option maxHeartbeats 4000000 in
theorem bNumber_any (W : World) (s : ByteArray) (hs : s.size ≤ 140737488351232) : Calls Tryz.prog 56 #[.string s] W fun e w' =>
    e = .returned (.tuple #[.int .i64 (Br.num (Utf.nums s)).1, .int .i64 (Br.num (Utf.nums s)).2.1, .int .i64 (Br.num (Utf.nums s)).2.2]) ∧ W = w' := by
  have hp := hasPre1 W s 92 (by decide)
  rw [show (((92 : UInt8).toNat : Nat) : Int) = 92 from rfl] at hp
  have hnum : Br.num (Utf.nums s) = (if (Utf.nums s)[0]?.getD 0 ≠ 92 then (0, 0, 3) else if s.size = 1 then (0, 0, 82) else if (Utf.nums s)[1]?.getD 0 ≠ 120 then Br.plain ((Utf.nums s)[1]?.getD 0) else if (Utf.nums s)[2]?.getD 0 = 123 then Br.braced (Utf.nums s) else Br.two (Utf.nums s)) := by
    unfold Br.num
    rw [Utf.nums_length]
  obtain ⟨R, hR⟩ : ∃ R, Br.num (Utf.nums s) = R := ⟨_, rfl⟩
  rw [hR] at hnum ⊢
  have HN := Lib.hid hnum
  by_cases c0 : ¬ (Utf.nums s)[0]?.getD 0 = 92
  · have HE : Hid (R = (0, 0, 3)) := Lib.hid (by rw [hnum, if_pos c0])
    rw [decide_eq_false c0] at hp
    have HP := Lib.hid hp
    clear hnum hp c0 hR
    go_enter Tryz.func56, Tryz.ntmps56
    go_wp2_with (go_at_call 16; refine HP.out.mono ?_; rintro e w' ⟨rfl, rfl⟩)
    go_ret3
    exact ⟨by rw [HE.out]; rfl, rfl⟩
  have c0' : (Utf.nums s)[0]?.getD 0 = 92 := by omega
  rw [decide_eq_true c0'] at hp
  have HP := Lib.hid hp
  have h0 : 0 < s.size := by
    rcases Nat.lt_or_ge 0 s.size with h | h
    · exact h
    · rw [List.getElem?_eq_none (by rw [Utf.nums_length]; omega)] at c0'; cases c0'
  by_cases c1 : s.size = 1
  · have HE : Hid (R = (0, 0, 82)) := Lib.hid (by rw [hnum, if_neg (by omega), if_pos c1])
    have h1 : ((s.size : Int) == 1) = true := by simp [c1]
    clear hnum hp c0 c0' hR c1
    go_enter Tryz.func56, Tryz.ntmps56
    go_wp2_with (go_at_call 16; refine HP.out.mono ?_; rintro e w' ⟨rfl, rfl⟩)
    go_ret3
    exact ⟨by rw [HE.out]; rfl, rfl⟩
  have h1 : ((s.size : Int) == 1) = false := by simp; omega
  have h2 : 1 < s.size := by omega
  have h2i : (1 : Int) < (s.size : Int) := by omega
  have hb : s[1].toNat < 256 := UInt8.toNat_lt _
  have hat : (Utf.nums s)[1]?.getD 0 = (s[1].toNat : Int) := Utf.nums_at s 1 h2
  rw [if_neg (by omega), if_neg c1, hat] at hnum
  by_cases c2 : (s[1].toNat : Int) ≠ 120
  · rw [if_pos c2] at hnum
    have HPL := Lib.hid (bPlain_any W (s[1].toNat : Int) (by omega) (by omega))
    rw [← hnum] at HPL
    have h3 : ((s[1].toNat : Int) != 120) = true := by simpa using c2
    clear hnum hp c0 c0' hR c1 c2 hat
    go_enter Tryz.func56, Tryz.ntmps56
    go_wp2_with fail
    refine HP.out.mono ?_
    rintro e w' ⟨rfl, rfl⟩
    go_wp2_with fail
    refine HPL.out.mono ?_
    rintro e w' ⟨rfl, rfl⟩
    go_wp2
    go_ret3
    exact ⟨rfl, rfl⟩
  have h3 : ((s[1].toNat : Int) != 120) = false := by simp; omega
  rw [if_neg c2] at hnum
  have hp2 := hasPre1 W (s.extract 2 s.size) 123 (by decide)
  rw [show (((123 : UInt8).toNat : Nat) : Int) = 123 from rfl, tail_drop, List.getElem?_drop] at hp2
  have h4 : (2 : Int) ≤ (s.size : Int) := by omega
  by_cases c3 : (Utf.nums s)[2]?.getD 0 = 123
  · rw [if_pos c3] at hnum
    rw [decide_eq_true c3] at hp2
    have h5 : 3 ≤ s.size := by
      rcases Nat.lt_or_ge 2 s.size with h | h
      · exact h
      · rw [List.getElem?_eq_none (by rw [Utf.nums_length]; omega)] at c3; cases c3
    have HBR := Lib.hid (bBraced_any W s hs h5)
    rw [← hnum] at HBR
    have HP2 := Lib.hid hp2
    clear hnum hp c0 c0' hR c1 c2 hat hp2 c3
    go_enter Tryz.func56, Tryz.ntmps56
    go_wp2_with fail
    refine HP.out.mono ?_
    rintro e w' ⟨rfl, rfl⟩
    go_wp2_with fail
    refine HP2.out.mono ?_
    rintro e w' ⟨rfl, rfl⟩
    go_wp2_with fail
    refine HBR.out.mono ?_
    rintro e w' ⟨rfl, rfl⟩
    go_wp2
    go_ret3
    exact ⟨rfl, rfl⟩
  rw [if_neg c3] at hnum
  rw [decide_eq_false c3] at hp2
  have HP2 := Lib.hid hp2
  have hD := bDigits_any W (s.extract 2 s.size) 2 (by rw [ByteArray.size_extract]; omega) (by omega)
  rw [tail_drop] at hD
  have htwo : R = (if Br.cnt ((Utf.nums s).drop 2) 2 = 2 then (Br.val ((Utf.nums s).drop 2) 2, 4, 0) else if Br.cnt ((Utf.nums s).drop 2) 2 + 2 = s.size then (0, 0, 82) else (0, 0, 80)) := by
    rw [hnum]
    unfold Br.two
    dsimp only
    rw [Utf.nums_length]
  have hc := Br.cnt_le ((Utf.nums s).drop 2) 2
  rw [List.length_drop, Utf.nums_length] at hc
  have hsz : (s.extract 2 s.size).size = s.size - 2 := by rw [ByteArray.size_extract]; omega
  obtain ⟨K, hK⟩ : ∃ K, Br.cnt ((Utf.nums s).drop 2) 2 = K := ⟨_, rfl⟩
  rw [hK] at hD htwo hc
  have HD := Lib.hid hD
  have HT := Lib.hid htwo
  clear hnum hp c0 c0' hR c1 c2 hat hp2 c3 hD htwo hK
  by_cases k2 : K = 2
  · subst k2
    have HE : Hid (R = (Br.val ((Utf.nums s).drop 2) 2, 4, 0)) := Lib.hid (by rw [HT.out, if_pos rfl])
    go_enter Tryz.func56, Tryz.ntmps56
    go_wp2_with fail
    refine HP.out.mono ?_
    rintro e w' ⟨rfl, rfl⟩
    go_wp2_with fail
    refine HP2.out.mono ?_
    rintro e w' ⟨rfl, rfl⟩
    go_wp2_with fail
    refine HD.out.mono ?_
    rintro e w' ⟨rfl, rfl⟩
    go_wp2
    go_ret3
    exact ⟨by rw [HE.out]; rfl, rfl⟩
  have h5 : ((K : Int) == 2) = false := by simp; omega
  by_cases k3 : K + 2 = s.size
  · have HE : Hid (R = (0, 0, 82)) := Lib.hid (by rw [HT.out, if_neg k2, if_pos k3])
    have h6 : ((K : Int) == ((s.size - 2 : Nat) : Int)) = true := by simp; omega
    clear hsz k2 k3 hc
    go_enter Tryz.func56, Tryz.ntmps56
    go_wp2_with fail
    refine HP.out.mono ?_
    rintro e w' ⟨rfl, rfl⟩
    go_wp2_with fail
    refine HP2.out.mono ?_
    rintro e w' ⟨rfl, rfl⟩
    go_wp2_with fail
    refine HD.out.mono ?_
    rintro e w' ⟨rfl, rfl⟩
    go_wp2
    go_ret3
    exact ⟨by rw [HE.out]; rfl, rfl⟩
  · have HE : Hid (R = (0, 0, 80)) := Lib.hid (by rw [HT.out, if_neg k2, if_neg k3])
    have h6 : ((K : Int) == ((s.size - 2 : Nat) : Int)) = false := by simp; omega
    clear hsz k2 k3 hc
    go_enter Tryz.func56, Tryz.ntmps56
    go_wp2_with fail
    refine HP.out.mono ?_
    rintro e w' ⟨rfl, rfl⟩
    go_wp2_with fail
    refine HP2.out.mono ?_
    rintro e w' ⟨rfl, rfl⟩
    go_wp2_with fail
    refine HD.out.mono ?_
    rintro e w' ⟨rfl, rfl⟩
    go_wp2
    go_ret3
    exact ⟨by rw [HE.out]; rfl, rfl⟩
end Go.Proofs.YtanffablfgnioaaGreatDoor
namespace Go.Proofs
open Go.Shelf
def Tryz.sortRg_ren : Go.Shelf.Ren := ⟨fun | 6 => 144 | 15 => 178 | 14 => 177 | 28 => 204 | 29 => 169 | 20 => 196 | 21 => 197 | 22 => 198 | 23 => 199 | 24 => 200 | 25 => 201 | 26 => 202 | 27 => 203 | 46 => 218 | 47 => 219 | 48 => 220 | 49 => 221 | 50 => 222 | 57 => 228 | n => n, fun | 22 => 23 | 24 => 49 | 25 => 170 | 3 => 3 | 39 => 107 | 0 => 0 | 53 => 191 | 55 => 158 | 4 => 4 | 46 => 217 | 45 => 216 | 50 => 103 | 5 => 5 | 9 => 9 | 66 => 243 | 70 => 247 | 76 => 262 | 77 => 75 | n => n, fun | n => n⟩
theorem Tryz.sortRg : Go.Proofs.SlLaysF0.n6 Tryz.prog Tryz.sortRg_ren := {
  mixed := by kernel_rfl
  f6 := ⟨Tryz.f144.name, by decide, Tryz.func144.trans (congrArg some (by kernel_rfl))⟩
  f14 := ⟨Tryz.f177.name, by decide, Tryz.func177.trans (congrArg some (by kernel_rfl))⟩
  f15 := Tryz.func178.trans (congrArg some (by kernel_rfl))
  f20 := ⟨Tryz.f196.name, by decide, Tryz.func196.trans (congrArg some (by kernel_rfl))⟩
  f21 := ⟨Tryz.f197.name, by decide, Tryz.func197.trans (congrArg some (by kernel_rfl))⟩
  f22 := ⟨Tryz.f198.name, by decide, Tryz.func198.trans (congrArg some (by kernel_rfl))⟩
  f23 := ⟨Tryz.f199.name, by decide, Tryz.func199.trans (congrArg some (by kernel_rfl))⟩
  f24 := ⟨Tryz.f200.name, by decide, Tryz.func200.trans (congrArg some (by kernel_rfl))⟩
  f25 := ⟨Tryz.f201.name, by decide, Tryz.func201.trans (congrArg some (by kernel_rfl))⟩
  f26 := ⟨Tryz.f202.name, by decide, Tryz.func202.trans (congrArg some (by kernel_rfl))⟩
  f27 := ⟨Tryz.f203.name, by decide, Tryz.func203.trans (congrArg some (by kernel_rfl))⟩
  f28 := Tryz.func204.trans (congrArg some (by kernel_rfl))
  f29 := Tryz.func169.trans (congrArg some (by kernel_rfl))
  f46 := ⟨Tryz.f218.name, by decide, Tryz.func218.trans (congrArg some (by kernel_rfl))⟩
  f47 := Tryz.func219.trans (congrArg some (by kernel_rfl))
  f48 := Tryz.func220.trans (congrArg some (by kernel_rfl))
  f49 := ⟨Tryz.f221.name, by decide, Tryz.func221.trans (congrArg some (by kernel_rfl))⟩
  f50 := ⟨Tryz.f222.name, by decide, Tryz.func222.trans (congrArg some (by kernel_rfl))⟩
  f57 := ⟨Tryz.f228.name, by decide, Tryz.func228.trans (congrArg some (by kernel_rfl))⟩
  t0 := Tryz.underlying0
  a0 := Tryz.isAgg0
  z0 := Tryz.sizeOf0
  v0 := Tryz.zeroValue0
  t3 := Tryz.underlying3
  a3 := Tryz.isAgg3
  z3 := Tryz.sizeOf3
  v3 := Tryz.zeroValue3
  t4 := Tryz.underlying4
  a4 := Tryz.isAgg4
  z4 := Tryz.sizeOf4
  v4 := Tryz.zeroValue4
  t5 := Tryz.underlying5
  a5 := Tryz.isAgg5
  z5 := Tryz.sizeOf5
  v5 := Tryz.zeroValue5
  t9 := Tryz.underlying9
  a9 := Tryz.isAgg9
  z9 := Tryz.sizeOf9
  v9 := Tryz.zeroValue9
  t22 := Tryz.underlying23
  a22 := Tryz.isAgg23
  z22 := Tryz.sizeOf23
  v22 := Tryz.zeroValue23
  t25 := Tryz.underlying170
  a25 := Tryz.isAgg170
  z25 := Tryz.sizeOf170
  v25 := Tryz.zeroValue170
  t39 := Tryz.underlying107
  a39 := Tryz.isAgg107
  z39 := Tryz.sizeOf107
  v39 := Tryz.zeroValue107
  t45 := Tryz.underlying216
  a45 := Tryz.isAgg216
  z45 := Tryz.sizeOf216
  v45 := Tryz.zeroValue216
  t46 := Tryz.underlying217
  a46 := Tryz.isAgg217
  z46 := Tryz.sizeOf217
  v46 := Tryz.zeroValue217
  t50 := Tryz.underlying103
  a50 := Tryz.isAgg103
  z50 := Tryz.sizeOf103
  v50 := Tryz.zeroValue103
  t53 := Tryz.underlying191
  a53 := Tryz.isAgg191
  z53 := Tryz.sizeOf191
  v53 := Tryz.zeroValue191
  t55 := Tryz.underlying158
  a55 := Tryz.isAgg158
  z55 := Tryz.sizeOf158
  v55 := Tryz.zeroValue158
  t66 := Tryz.underlying243
  a66 := Tryz.isAgg243
  z66 := Tryz.sizeOf243
  v66 := Tryz.zeroValue243
  t70 := Tryz.underlying247
  a70 := Tryz.isAgg247
  z70 := Tryz.sizeOf247
  v70 := Tryz.zeroValue247
  t76 := Tryz.underlying262
  a76 := Tryz.isAgg262
  z76 := Tryz.sizeOf262
  v76 := Tryz.zeroValue262
  t77 := Tryz.underlying75
  a77 := Tryz.isAgg75
  z77 := Tryz.sizeOf75
  v77 := Tryz.zeroValue75 }
end Go.Proofs
namespace Go.Proofs.YtanffablfgnioaaGreatDoor
open Go.RowKit
set_option linter.unusedVariables false
def encR (x : Int × Int) : List Value := [.int .i64 x.1, .int .i64 x.2]
def cmpI (a b : Int) : Int := if a < b then -1 else if b < a then 1 else 0
def cmpR (x y : Int × Int) : Int := cmpI x.1 y.1
theorem cmpR_lt (x y : Int × Int) : ltOf cmpR x y = decide (x.1 < y.1) := by
  unfold ltOf cmpR cmpI
  by_cases h1 : x.1 < y.1
  · simp [h1]
  · by_cases h2 : y.1 < x.1 <;> simp [h1, h2]
theorem cmpR_swo : Go.Sort.SWO (ltOf cmpR) where
  irrefl x := by rw [cmpR_lt]; simp
  trans x y z h1 h2 := by rw [cmpR_lt] at *; simp at *; omega
  ntrans x y z h1 h2 := by rw [cmpR_lt] at *; simp at *; omega
set_option maxRecDepth 100000 in
set_option maxHeartbeats 1000000 in
theorem cmpInt (a b : Int) (w : World) : Calls Tryz.prog 146 #[.int .i64 a, .int .i64 b] w fun e w' => e = .returned (.int .i64 (cmpI a b)) ∧ w = w' := by
  by_cases h1 : a < b
  · go_enter Tryz.func146, Tryz.ntmps146
    go_wp2
    go_ret
    exact ⟨rg_ret_int (by rw [cmpI, if_pos h1]), rfl⟩
  · by_cases h2 : b < a
    · go_enter Tryz.func146, Tryz.ntmps146
      go_wp2
      go_ret
      exact ⟨rg_ret_int (by rw [cmpI, if_neg (by omega), if_pos h2]), rfl⟩
    · go_enter Tryz.func146, Tryz.ntmps146
      go_wp2
      go_ret
      exact ⟨rg_ret_int (by rw [cmpI, if_neg (by omega), if_neg (by omega)]), rfl⟩
set_option maxRecDepth 100000 in
set_option maxHeartbeats 1000000 in
theorem sortCl (x y : Int × Int) (W : World) : Calls Tryz.prog 145 #[.agg #[.int .i64 x.1, .int .i64 x.2], .agg #[.int .i64 y.1, .int .i64 y.2]] W
    fun e w' => e = .returned (.int .i64 (cmpR x y)) ∧ ∃ q os', w' = Go.Sort.grow (W.drewN q) os' := by
  have hcon := fun W' => cmpInt x.1 y.1 W'
  show Calls _ _ _ _ fun e w' => e = .returned (.int .i64 (cmpI x.1 y.1)) ∧ ∃ q os', w' = Go.Sort.grow (W.drewN q) os'
  generalize cmpI x.1 y.1 = r at hcon ⊢
  go_enter Tryz.func145, Tryz.ntmps145
  go_wp2_with (go_at_call 146; refine (hcon _).mono ?_; rintro e w' ⟨rfl, rfl⟩)
  go_ret
  exact ⟨rfl, 0, _, by rw [Go.Sort.alloc_eq_grow, Go.Sort.alloc_eq_grow, Go.Sort.grow_grow]; rfl⟩
theorem sort_below (w : World) (base g n : Nat) (d : Array (Int × Int)) (os : Array Obj) (hg : g < w.heap.size) (hb : base ≤ g) : Below base w (sortWorldK encR 2 w g 0 n d os) := by
  unfold sortWorldK Go.Sort.grow Go.Sort.putRowK Go.Sort.putRow Go.Sort.mapBlock Go.Sort.ahead
  refine ⟨rfl, rfl, rfl, by simp, fun k hk => ?_⟩
  show (w.heap.modify g _ ++ os)[k]? = _
  rw [Array.getElem?_append, Array.size_modify, if_pos (by omega), Array.getElem?_modify, if_neg (by omega)]
theorem sort_block (w : World) (g n : Nat) (d : Array (Int × Int)) (os : Array Obj) (cs : Array Value) (t : TypeId) (fr : Nat × Nat) (hg : w.heap[g]? = some (.cells cs t fr)) :
    (sortWorldK encR 2 w g 0 n d os).heap[g]? = some (.cells (Go.Sort.putCells id 0 (Go.Sort.flatK encR 2 d) cs) t fr) := by
  have hlt : g < w.heap.size := (Array.getElem?_eq_some_iff.1 hg).1
  unfold sortWorldK Go.Sort.grow Go.Sort.putRowK Go.Sort.putRow Go.Sort.mapBlock Go.Sort.ahead
  show (w.heap.modify g _ ++ os)[g]? = _
  rw [Array.getElem?_append, Array.size_modify, if_pos hlt, Array.getElem?_modify, if_pos rfl, hg]
  rfl
theorem flatK_get (l : List (Int × Int)) (j : Nat) (hj : j < l.length * 2) : (flat2 l)[j]? = some (Go.Sort.flatK encR 2 l.toArray)[j]! := by
  rw [Go.Sort.get_flatK _ _ _ _ (by simpa using hj)]
  have hf := flat2_get l (j / 2) (by omega)
  have e : l.toArray[j / 2]! = l[j / 2]?.getD (0, 0) := by
    rw [getElem!_pos l.toArray (j / 2) (by simp; omega), List.getElem?_eq_getElem (by omega)]; simp
  rw [e]
  rcases Nat.mod_two_eq_zero_or_one j with h0 | h1
  · rw [h0]; rw [show j / 2 * 2 = j by omega] at hf; exact hf.1
  · rw [h1]; rw [show j / 2 * 2 + 1 = j by omega] at hf; exact hf.2
theorem sort_holds (w : World) (base g cap : Nat) (l : List (Int × Int)) (h : RgOwn w base (.slice (some ⟨g, 0, none⟩) l.length cap) l) : Go.Sort.HoldsK encR 2 w g 0 l.toArray := by
  intro j hj
  have hj' : j < l.length * 2 := by simpa using hj
  rw [Nat.zero_add]
  refine ⟨?_, World.ownsRow.frozenAt h j⟩
  rw [World.ownsRow.cellAt h j (by simpa using hj'), flatK_get l j hj']; rfl
theorem putCells_take (cs : Array Value) (s : List (Int × Int)) (h : s.length * 2 ≤ cs.size) : (Go.Sort.putCells id 0 (Go.Sort.flatK encR 2 s.toArray) cs).toList.take (s.length * 2) = flat2 s := by
  apply List.ext_getElem?
  intro j
  rw [List.getElem?_take]
  by_cases hj : j < s.length * 2
  · rw [if_pos hj, flatK_get s j hj]
    unfold Go.Sort.putCells
    rw [Array.getElem?_toList, Array.getElem?_mapIdx, Array.getElem?_eq_getElem (by omega), Option.map_some, if_pos ⟨Nat.zero_le _, by simpa using hj⟩]
    rfl
  · rw [if_neg hj, List.getElem?_eq_none (by rw [flat2_len]; omega)]
theorem sort_own (W : World) (base : Nat) (v : Value) (l : List (Int × Int)) (h : RgOwn W base v l) (hb : base ≤ W.heap.size) (hl : l.length ≤ 8796093022208) :
    Calls Tryz.prog 144 #[v, .func (.func 145) #[] #[]] W
      fun e w' => e = .returned (.tuple #[]) ∧ ∃ s : List (Int × Int), s.Perm l ∧ s.Pairwise (fun a b => a.1 ≤ b.1) ∧ s.length = l.length ∧ RgOwn w' base v s ∧ Below base W w' := by
  rcases Nat.eq_zero_or_pos l.length with h0 | hp
  · have e0 : l = [] := List.eq_nil_of_length_eq_zero h0
    subst e0
    obtain ⟨a, cap, rfl⟩ := h.empty
    have hcon := AnyF.slices_SortFunc_none (P := Tryz.prog) (ρ := Tryz.sortRg_ren) { Tryz.sortRg with } a cap (.func (.func 145) #[] #[]) W
    change Calls Tryz.prog 144 _ _ _ at hcon
    refine hcon.mono ?_
    rintro e w' ⟨rfl, rfl⟩
    exact ⟨rfl, [], List.Perm.refl _, List.Pairwise.nil, rfl, h, Below.refl _ _⟩
  · have hown := h
    rcases hown.2 with ⟨_, hz⟩ | ⟨g, cap, cur, rfl, hbg, hg, hnc, hcm, hcs, _⟩
    · omega
    · have eg : ∀ args w, (callFunc 145 args).run Tryz.prog w = .ok (.enter 145 args) w := enters_of Tryz.func145 (by kernel_rfl) rfl
      have hlt : g < W.heap.size := (Array.getElem?_eq_some_iff.1 hg).1
      have hcon := AnyQ.slices_SortFunc Tryz.sortRg 2 Tryz.isAgg49 Tryz.sizeOf49 encR (fun _ => rfl) (fun x v hv => by simp [encR] at hv; rcases hv with rfl | rfl <;> rfl) cmpR cmpR_swo 145 #[] g 0 cap l.toArray W eg
        (fun _ _ _ _ x y => sortCl x y _) (sort_holds W base g cap l h) hlt (by simp; omega)
      change Calls Tryz.prog 144 _ _ _ at hcon
      rw [List.size_toArray] at hcon
      refine hcon.mono ?_
      rintro e w' ⟨rfl, d', n, os, hperm, hsort, rfl⟩
      obtain ⟨p1, p2, p3⟩ := hperm
      rw [List.size_toArray] at p1
      obtain ⟨s⟩ := d'
      have hs : s.length = l.length := by simpa using p1
      refine ⟨rfl, s, ?_, ?_, hs, ?_, sort_below W base g n _ os hlt hbg⟩
      · rw [← hs] at p3
        simp [hs] at p3
        rwa [List.take_of_length_le (by omega)] at p3
      · rw [List.pairwise_iff_getElem]
        intro i j hi hj hij
        have := hsort i j (Nat.zero_le _) hij (by omega)
        rw [cmpR_lt, getElem!_pos (⟨s⟩ : Array (Int × Int)) j hj, getElem!_pos (⟨s⟩ : Array (Int × Int)) i hi] at this
        have h2 : ¬ (s[j].1 < s[i].1) := by simpa using this
        show s[i].1 ≤ s[j].1
        omega
      · refine ⟨by rw [flat2_len], .inr ⟨g, cap, _, by rw [hs], hbg, sort_block W g n ⟨s⟩ os cur _ _ hg, by rw [hs]; exact hnc, hcm, ?_, ?_⟩⟩
        · simp [Go.Sort.putCells, hcs]
        · exact putCells_take cur s (by rw [hcs, hs]; omega)
end Go.Proofs.YtanffablfgnioaaGreatDoor
namespace Go.Proofs.YtanffablfgnioaaGreatDoor
open Go.RowKit
set_option linter.unusedVariables false






















































end Go.Proofs.YtanffablfgnioaaGreatDoor
namespace Go.Proofs.YtanffablfgnioaaGreatDoor
open Go.RowKit
set_option linter.unusedVariables false
theorem clip_yes {p : Int × Int} {u v : Int} (h1 : max p.1 0 = u) (h2 : min p.2 1114111 = v) (h : u ≤ v) : Rg.clip1 p = some (u, v) := by
  unfold Rg.clip1; rw [h1, h2, if_pos h]
theorem clip_no {p : Int × Int} {u v : Int} (h1 : max p.1 0 = u) (h2 : min p.2 1114111 = v) (h : ¬ u ≤ v) : Rg.clip1 p = none := by
  unfold Rg.clip1; rw [h1, h2, if_neg h]
set_option maxRecDepth 100000 in
set_option maxHeartbeats 8000000 in
theorem sorted_any (W : World) (v : Value) (l : List (Int × Int)) (h : RRow W v l) :
    Calls Tryz.prog 111 #[v] W fun e w' => ∃ v' s, e = .returned v' ∧ Rg.Srt s ∧ Hid (∀ q, Rg.memL s q ↔ Rg.hasB l q = true) ∧ s.length ≤ 8796093022208 ∧ RgOwn w' W.heap.size v' s ∧ Below W.heap.size W w' := by
  obtain ⟨i0, hi, hz0, hz1, hz2⟩ := info_parts Tryz.infoRange
  obtain ⟨a, cap, rfl, hl, hw, hc⟩ := h
  have HC := Lib.hid hc
  obtain ⟨n, hn⟩ : ∃ n, l.length = n := ⟨_, rfl⟩
  have HN := Lib.hid hn
  rw [hn] at hl HC ⊢
  clear hn hc hw
  go_enter Tryz.func111, Tryz.ntmps111
  go_wp2
  go_loopw [3, 8] (fun V i wr => ∃ k : Nat, k ≤ n ∧ i = .int .i64 k ∧ RgOwn wr W.heap.size V (Rg.clipL (l.take k)) ∧ Below W.heap.size W wr) (fun _ i _ => n - (intOf i).toNat)
  case atStart => exact ⟨0, Nat.zero_le _, rfl, RgOwn.nil, Below.refl _ _⟩
  case round =>
    obtain ⟨k, hk, rfl, hO, hB⟩ := hrel
    by_cases hlt : k < n
    · obtain ⟨b, off, rfl, hb, hc1, hc2⟩ := HC.out k hlt
      rw [← hB.cell (p := ⟨b, off + k * 2, none⟩) hb] at hc1
      rw [← hB.cell (p := ⟨b, off + k * 2 + 1, none⟩) hb] at hc2
      have hkl : k < l.length := by rw [HN.out]; exact hlt
      have ht := Rg.clip_take_succ l k hkl
      obtain ⟨p, hp⟩ : ∃ p, l[k]?.getD (0, 0) = p := ⟨_, rfl⟩
      rw [hp] at hc1 hc2 ht
      have hcl := Rg.clip_len (l.take k)
      rw [List.length_take] at hcl
      obtain ⟨m, hm⟩ : ∃ m, (Rg.clipL (l.take k)).length = m := ⟨_, rfl⟩
      have hmk : m ≤ k := by omega
      have HM := Lib.hid hm
      have HT := Lib.hid ht
      have HB := Lib.hid hB
      have HO := Lib.hid hO
      have hsz := hB.size
      clear hp ht hkl hm hcl hB hO
      obtain ⟨x, y⟩ := p
      dsimp only at hc1 hc2
      by_cases hle : max x 0 ≤ min y 1114111
      · have HT' : Hid (Rg.clipL (l.take (k + 1)) = Rg.clipL (l.take k) ++ [(max x 0, min y 1114111)]) := Lib.hid (by rw [HT.out, clip_yes rfl rfl hle]; rfl)
        have hown := HO.out
        unfold RgOwn at hown
        rw [HM.out] at hown
        go_wp2_with (at_builtin; (refine wpList_append_own _ (by rfl) _ _ 23 (by rfl) W.heap.size 49 i0 (.agg #[.int .i64 0, .int .i64 0]) 2 16 Tryz.underlying23 hi hz0 hz1 hz2 rfl (by decide) _ m (flat2 (Rg.clipL (l.take k))) (by rfl) ((hown.alloc _).alloc _) ⟨wr.heap.size + 1, 0, none⟩ 1 1 [.int .i64 (max x 0), .int .i64 (min y 1114111)] (by rfl) rfl ?c1 (by simp [Value.oneCell']) (by unfold maxLen; omega) (by omega) (by simp; omega) ?_))
        case c1 => exact World.news_of_block (cs := #[.int .i64 (max x 0), .int .i64 (min y 1114111)]) (heap_new2 _ _ _)
        intro v1 w1 hown' hgrow _
        have hO2 : RgOwn w1 W.heap.size v1 (Rg.clipL (l.take (k + 1))) := by
          rw [HT'.out]; unfold RgOwn; rw [List.length_append, flat2_snoc, HM.out]; exact hown'
        have hB2 := ((HB.out.alloc hsz _).alloc (by simp; omega) _).grown hgrow (by simp; omega) (fun q hq => (hown.lt q hq).1)
        have HO2 := Lib.hid hO2
        have HB2 := Lib.hid hB2
        clear hO2 hown' hgrow hown hB2 hle
        go_wp2
        go_roundw
        case rel => exact ⟨k + 1, by omega, by go_num, HO2.out, HB2.out⟩
        case measure => simp [intOf]; omega
      · have HT' : Hid (Rg.clipL (l.take (k + 1)) = Rg.clipL (l.take k)) := Lib.hid (by rw [HT.out, clip_no rfl rfl hle]; simp)
        go_wp2
        go_roundw
        case rel => exact ⟨k + 1, by omega, by go_num, by rw [HT'.out]; exact HO.out.alloc _, HB.out.alloc hsz _⟩
        case measure => simp [intOf]; omega
    · obtain rfl : k = n := by omega
      rw [List.take_of_length_le (by rw [HN.out]; exact Nat.le_refl _)] at hO
      have HO := Lib.hid hO
      have HB := Lib.hid hB
      have hsz := hB.size
      have hcl := Rg.clip_len l
      rw [HN.out] at hcl
      clear hO hB
      go_wp2_with fail
      refine (sort_own _ W.heap.size _ _ HO.out hsz (by omega)).mono ?_
      rintro e w1 ⟨rfl, s, hp, hs, hln, ho, hb⟩
      have HP := Lib.hid hp
      have HS := Lib.hid hs
      have HLN := Lib.hid hln
      have HO1 := Lib.hid ho
      have HB1 := Lib.hid hb
      clear hp hs hln ho hb
      go_wp2
      go_ret
      exact ⟨_, s, rfl, ⟨fun p h => Rg.clip_ok l p (HP.out.mem_iff.1 h), HS.out⟩, Lib.hid (fun q => by rw [Rg.memL_perm HP.out, Rg.clip_mem]), by rw [HLN.out]; omega, HO1.out, HB.out.trans HB1.out⟩
end Go.Proofs.YtanffablfgnioaaGreatDoor
