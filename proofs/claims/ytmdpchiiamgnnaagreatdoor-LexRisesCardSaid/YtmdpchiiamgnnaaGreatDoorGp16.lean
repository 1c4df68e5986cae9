/- The landed bracket: braced. · The landed bracket: propertyName. · The landed bracket: Number. -/
import Derived.Test.YtmdpchiiamgnnaaGreatDoorGp15
import Derived.Test.YtmdpchiiamgnnaaGreatDoorGp14
import Derived.Test.YtmdpchiiamgnnaaGreatDoorGp3
namespace Go.Proofs.YtmdpchiiamgnnaaGreatDoor
open Go.RowKit
set_option linter.unusedVariables false
theorem tail_drop (s : ByteArray) (k : Nat) : Utf.nums (s.extract k s.size) = (Utf.nums s).drop k := by
  rw [Utf.nums_extract, List.take_of_length_le]
  rw [List.length_drop, Utf.nums_length]; omega
set_option maxRecDepth 100000 in
set_option maxHeartbeats 4000000 in
theorem bBraced_any (W : World) (s : ByteArray) (hs : s.size ≤ 140737488351232) (h3 : 3 ≤ s.size) : Calls Tryz.prog 118 #[.string s] W fun e w' =>
    e = .returned (.tuple #[.int .i64 (Br.braced (Utf.nums s)).1, .int .i64 (Br.braced (Utf.nums s)).2.1, .int .i64 (Br.braced (Utf.nums s)).2.2]) ∧ W = w' := by
  have hD := bDigits_any W (s.extract 3 s.size) 6 (by rw [ByteArray.size_extract]; omega) (by omega)
  rw [tail_drop] at hD
  have hc := Br.cnt_le ((Utf.nums s).drop 3) 6
  rw [List.length_drop, Utf.nums_length] at hc
  have hv := Br.val_bd ((Utf.nums s).drop 3) 6 _ (Nat.le_refl _)
  have hbr : Br.braced (Utf.nums s) = (if 3 + Br.cnt ((Utf.nums s).drop 3) 6 = s.size then (0, 0, 82) else if (Utf.nums s)[3 + Br.cnt ((Utf.nums s).drop 3) 6]?.getD 0 ≠ 125 ∨ Br.cnt ((Utf.nums s).drop 3) 6 = 0 ∨ 1114111 < Br.val ((Utf.nums s).drop 3) (Br.cnt ((Utf.nums s).drop 3) 6) then (0, 0, 80) else (Br.val ((Utf.nums s).drop 3) (Br.cnt ((Utf.nums s).drop 3) 6), (Br.cnt ((Utf.nums s).drop 3) 6 : Int) + 4, 0)) := by
    unfold Br.braced
    dsimp only
    rw [Utf.nums_length]
  obtain ⟨V, hV⟩ : ∃ V, Br.val ((Utf.nums s).drop 3) (Br.cnt ((Utf.nums s).drop 3) 6) = V := ⟨_, rfl⟩
  rw [hV] at hD hv hbr
  obtain ⟨K, hK⟩ : ∃ K, Br.cnt ((Utf.nums s).drop 3) 6 = K := ⟨_, rfl⟩
  rw [hK] at hD hc hbr
  have hv0 : 0 ≤ V := hv.1
  obtain ⟨e, he⟩ : ∃ e, 3 + K = e := ⟨_, rfl⟩
  rw [he] at hbr
  have hw : IntKind.i64.wrap (3 + (K : Int)) = (e : Int) := by rw [IntKind.wrap_i64]; omega
  have hw2 : IntKind.i64.wrap ((e : Int) + 1) = (K : Int) + 4 := by rw [IntKind.wrap_i64]; omega
  have h3i : (3 : Int) ≤ (s.size : Int) := by omega
  have HD := Lib.hid hD
  obtain ⟨R, hR⟩ : ∃ R, Br.braced (Utf.nums s) = R := ⟨_, rfl⟩
  rw [hR] at hbr ⊢
  have HBR := Lib.hid hbr
  clear hD hv hbr hR hV hK
  by_cases c1 : e = s.size
  · have HE : Hid (R = (0, 0, 82)) := Lib.hid (by rw [HBR.out, if_pos c1])
    have h1 : ((e : Int) == (s.size : Int)) = true := by simp [c1]
    clear he
    go_enter Tryz.func118, Tryz.ntmps118
    go_wp2_with (go_at_call 119; refine HD.out.mono ?_; rintro e w' ⟨rfl, rfl⟩)
    go_ret3
    exact ⟨by rw [HE.out]; rfl, rfl⟩
  have h1 : ((e : Int) == (s.size : Int)) = false := by simp; omega
  have hlt : e < s.size := by omega
  have hli : (e : Int) < (s.size : Int) := by omega
  have hb : s[e].toNat < 256 := UInt8.toNat_lt _
  have hat : (Utf.nums s)[e]?.getD 0 = (s[e].toNat : Int) := Utf.nums_at s e hlt
  have HAT := Lib.hid hat
  clear he hat
  by_cases c2 : (s[e].toNat : Int) = 125
  · by_cases c3 : K = 0
    · have HE : Hid (R = (0, 0, 80)) := Lib.hid (by rw [HBR.out, if_neg c1, if_pos (.inr (.inl c3))])
      have h4 : ((s[e].toNat : Int) != 125) = false := by simp [c2]
      have h5 : ((K : Int) == 0) = true := by simp [c3]
      clear c2 c3
      go_enter Tryz.func118, Tryz.ntmps118
      go_wp2_with (go_at_call 119; refine HD.out.mono ?_; rintro e w' ⟨rfl, rfl⟩)
      go_ret3
      exact ⟨by rw [HE.out]; rfl, rfl⟩
    · have h4 : ((s[e].toNat : Int) != 125) = false := by simp [c2]
      have h5 : ((K : Int) == 0) = false := by simp; omega
      by_cases c4 : 1114111 < V
      · have HE : Hid (R = (0, 0, 80)) := Lib.hid (by rw [HBR.out, if_neg c1, if_pos (.inr (.inr c4))])
        clear c2 c3
        go_enter Tryz.func118, Tryz.ntmps118
        go_wp2_with (go_at_call 119; refine HD.out.mono ?_; rintro e w' ⟨rfl, rfl⟩)
        go_ret3
        exact ⟨by rw [HE.out]; rfl, rfl⟩
      · have HE : Hid (R = (V, (K : Int) + 4, 0)) := Lib.hid (by rw [HBR.out, if_neg c1, if_neg (by rw [HAT.out]; omega)])
        clear c2 c3
        go_enter Tryz.func118, Tryz.ntmps118
        go_wp2_with (go_at_call 119; refine HD.out.mono ?_; rintro e w' ⟨rfl, rfl⟩)
        go_ret3
        exact ⟨by rw [HE.out]; rfl, rfl⟩
  · have HE : Hid (R = (0, 0, 80)) := Lib.hid (by rw [HBR.out, if_neg c1, if_pos (.inl (by rw [HAT.out]; exact c2))])
    have h4 : ((s[e].toNat : Int) != 125) = true := by simpa using c2
    clear c2
    go_enter Tryz.func118, Tryz.ntmps118
    go_wp2_with (go_at_call 119; refine HD.out.mono ?_; rintro e w' ⟨rfl, rfl⟩)
    go_ret3
    exact ⟨by rw [HE.out]; rfl, rfl⟩
end Go.Proofs.YtmdpchiiamgnnaaGreatDoor
namespace Go.Proofs.YtmdpchiiamgnnaaGreatDoor
open Go.RowKit
set_option linter.unusedVariables false
namespace Br
/-- A property's name in front of a text, the length of what it is written in, and the code. -/
def pname (t : ByteArray) : ByteArray × Int × Int :=
  let l := Utf.nums t
  if l.length = 0 then (⟨#[]⟩, 0, 82) else if letB (l[0]?.getD 0) = true then (t.extract 0 1, 1, 0) else if l[0]?.getD 0 ≠ 123 then (⟨#[]⟩, 0, 70)
  else if upTo 125 (l.drop 1) = (l.drop 1).length then (⟨#[]⟩, 0, 82) else ((t.extract 1 t.size).extract 0 (upTo 125 (l.drop 1)), upTo 125 (l.drop 1) + 2, 0)
theorem bytes_inj {s t : ByteArray} (h : Utf.nums s = Utf.nums t) : s = t := by
  apply ByteArray.ext
  apply Array.toList_inj.1
  unfold Utf.nums at h
  exact List.map_inj_right (fun a b e => UInt8.toNat_inj.1 (by exact_mod_cast e)) |>.1 h
theorem ext_tail (s : ByteArray) (a k : Nat) : (s.extract a s.size).extract 0 k = s.extract a (a + k) := by
  apply bytes_inj
  rw [Utf.nums_extract, tail_drop, Utf.nums_extract]
  simp
theorem ext_ext (s : ByteArray) (a b : Nat) : (s.extract a s.size).extract b (s.extract a s.size).size = s.extract (a + b) s.size := by
  apply bytes_inj
  rw [tail_drop, tail_drop, tail_drop, List.drop_drop]
theorem nameX_of (s : ByteArray) (h : 2 ≤ s.size) : nameX s = ((pname (s.extract 2 s.size)).1, (if (pname (s.extract 2 s.size)).2.2 = 0 then (pname (s.extract 2 s.size)).2.1 + 2 else 0), (pname (s.extract 2 s.size)).2.2) := by
  have e0 : (Utf.nums (s.extract 2 s.size))[0]?.getD 0 = (Utf.nums s)[2]?.getD 0 := by rw [tail_drop, List.getElem?_drop]
  have el : (Utf.nums (s.extract 2 s.size)).length = s.size - 2 := by rw [tail_drop, List.length_drop, Utf.nums_length]
  have ed : (Utf.nums (s.extract 2 s.size)).drop 1 = (Utf.nums s).drop 3 := by rw [tail_drop, List.drop_drop]
  have e1 : (s.extract 2 s.size).extract 0 1 = s.extract 2 3 := ext_tail s 2 1
  have e2 : ∀ k, ((s.extract 2 s.size).extract 1 (s.extract 2 s.size).size).extract 0 k = s.extract 3 (3 + k) := fun k => by rw [ext_ext, ext_tail]
  have e3 : ((Utf.nums s).drop 3).length = s.size - 3 := by rw [List.length_drop, Utf.nums_length]
  obtain ⟨t, ht⟩ : ∃ t, s.extract 2 s.size = t := ⟨_, rfl⟩
  rw [ht] at e0 el ed e1 e2 ⊢
  have key : ∀ X : ByteArray × Int × Int, pname t = X → nameX s = (X.1, (if X.2.2 = 0 then X.2.1 + 2 else 0), X.2.2) → nameX s = ((pname t).1, (if (pname t).2.2 = 0 then (pname t).2.1 + 2 else 0), (pname t).2.2) := fun X h1 h2 => by rw [h1]; exact h2
  by_cases c0 : s.size = 2
  · refine key (⟨#[]⟩, 0, 82) ?_ ?_
    · unfold pname; dsimp only; rw [if_pos (by omega)]
    · unfold nameX; dsimp only; rw [if_pos (by rw [Utf.nums_length]; exact c0)]; rfl
  by_cases c1 : letB ((Utf.nums s)[2]?.getD 0) = true
  · refine key (s.extract 2 3, 1, 0) ?_ ?_
    · unfold pname; dsimp only; rw [if_neg (by omega), if_pos (by rw [e0]; exact c1), e1]
    · unfold nameX; dsimp only; rw [if_neg (by rw [Utf.nums_length]; exact c0), if_pos c1]; rfl
  by_cases c2 : (Utf.nums s)[2]?.getD 0 ≠ 123
  · refine key (⟨#[]⟩, 0, 70) ?_ ?_
    · unfold pname; dsimp only; rw [if_neg (by omega), if_neg (by rw [e0]; exact c1), if_pos (by rw [e0]; exact c2)]
    · unfold nameX; dsimp only; rw [if_neg (by rw [Utf.nums_length]; exact c0), if_neg c1, if_pos c2]; rfl
  by_cases c3 : upTo 125 ((Utf.nums s).drop 3) = ((Utf.nums s).drop 3).length
  · refine key (⟨#[]⟩, 0, 82) ?_ ?_
    · unfold pname; dsimp only; rw [if_neg (by omega), if_neg (by rw [e0]; exact c1), if_neg (by rw [e0]; exact c2), if_pos (by rw [ed]; exact c3)]
    · unfold nameX; dsimp only; rw [if_neg (by rw [Utf.nums_length]; exact c0), if_neg c1, if_neg c2, if_pos c3]; rfl
  · refine key (s.extract 3 (3 + upTo 125 ((Utf.nums s).drop 3)), upTo 125 ((Utf.nums s).drop 3) + 2, 0) ?_ ?_
    · unfold pname; dsimp only; rw [if_neg (by omega), if_neg (by rw [e0]; exact c1), if_neg (by rw [e0]; exact c2), if_neg (by rw [ed]; exact c3), ed, e2]
    · unfold nameX; dsimp only; rw [if_neg (by rw [Utf.nums_length]; exact c0), if_neg c1, if_neg c2, if_neg c3, if_pos rfl]
      congr 2
end Br
set_option maxRecDepth 100000 in
set_option maxHeartbeats 4000000 in
theorem pname_any (W : World) (t : ByteArray) (ht : t.size ≤ 100000) (hE : Ev W) : Calls Tryz.prog 104 #[.string t] W fun e w' =>
    e = .returned (.tuple #[.string (Br.pname t).1, .int .i64 (Br.pname t).2.1, .int .i64 (Br.pname t).2.2]) ∧ ∃ d, w' = W.drewN d := by
  have hpn : Br.pname t = (if t.size = 0 then (⟨#[]⟩, 0, 82) else if Br.letB ((Utf.nums t)[0]?.getD 0) = true then (t.extract 0 1, 1, 0) else if (Utf.nums t)[0]?.getD 0 ≠ 123 then (⟨#[]⟩, 0, 70)
      else if Br.upTo 125 ((Utf.nums t).drop 1) = t.size - 1 then (⟨#[]⟩, 0, 82) else ((t.extract 1 t.size).extract 0 (Br.upTo 125 ((Utf.nums t).drop 1)), (Br.upTo 125 ((Utf.nums t).drop 1) : Int) + 2, 0)) := by
    unfold Br.pname
    dsimp only
    rw [List.length_drop, Utf.nums_length]
  obtain ⟨R, hR⟩ : ∃ R, Br.pname t = R := ⟨_, rfl⟩
  rw [hR] at hpn ⊢
  clear hR
  by_cases c0 : t.size = 0
  · have HE : Hid (R = (⟨#[]⟩, 0, 82)) := Lib.hid (by rw [hpn, if_pos c0])
    obtain ⟨hne, hne2⟩ := toList_e c0
    clear hpn
    go_enter Tryz.func104, Tryz.ntmps104
    go_wp2
    go_ret3
    exact ⟨by rw [HE.out]; rfl, 0, rfl⟩
  have h0 : 0 < t.size := by omega
  have h0i : (0 : Int) < (t.size : Int) := by omega
  obtain ⟨hne, hne2⟩ := toList_ne h0
  have hat : (Utf.nums t)[0]?.getD 0 = (t[0].toNat : Int) := Utf.nums_at t 0 h0
  have hb : t[0].toNat < 256 := UInt8.toNat_lt _
  rw [if_neg c0, hat] at hpn
  have HL := Lib.hid (bLetter_any W (t[0].toNat : Int) (by omega) (by omega))
  clear hat
  cases hl : Br.letB (t[0].toNat : Int) with
  | true =>
    have HE : Hid (R = (t.extract 0 1, 1, 0)) := Lib.hid (by rw [hpn, hl, if_pos rfl])
    rw [hl] at HL
    have h1i : (1 : Int) ≤ (t.size : Int) := by omega
    clear hpn hl
    go_enter Tryz.func104, Tryz.ntmps104
    go_wp2_with fail
    refine HL.out.mono ?_
    rintro e w' ⟨rfl, rfl⟩
    go_wp2
    go_ret3
    exact ⟨by rw [HE.out]; rfl, 0, rfl⟩
  | false =>
    rw [hl] at HL
    rw [hl, if_neg (by decide)] at hpn
    clear hl
    by_cases c2 : (t[0].toNat : Int) ≠ 123
    · have HE : Hid (R = (⟨#[]⟩, 0, 70)) := Lib.hid (by rw [hpn, if_pos c2])
      have h4 : ((t[0].toNat : Int) != 123) = true := by simpa using c2
      clear hpn c2
      go_enter Tryz.func104, Tryz.ntmps104
      go_wp2_with fail
      refine HL.out.mono ?_
      rintro e w' ⟨rfl, rfl⟩
      go_wp2
      go_ret3
      exact ⟨by rw [HE.out]; rfl, 0, rfl⟩
    have h4 : ((t[0].toNat : Int) != 123) = false := by simp; omega
    rw [if_neg c2] at hpn
    have h1i : (1 : Int) ≤ (t.size : Int) := by omega
    have hk := Br.upTo_le 125 ((Utf.nums t).drop 1)
    rw [List.length_drop, Utf.nums_length] at hk
    have hsz : (t.extract 1 t.size).size = t.size - 1 := by rw [ByteArray.size_extract]; omega
    have hcut := cut_1 W (t.extract 1 t.size) (by omega) 125 hE
    rw [show (((125 : UInt8).toNat : Nat) : Int) = 125 from rfl, tail_drop] at hcut
    unfold CutPost at hcut
    rw [hsz] at hcut
    obtain ⟨K, hK⟩ : ∃ K, Br.upTo 125 ((Utf.nums t).drop 1) = K := ⟨_, rfl⟩
    rw [hK] at hpn hk hcut
    by_cases c3 : K = t.size - 1
    · have HE : Hid (R = (⟨#[]⟩, 0, 82)) := Lib.hid (by rw [hpn, if_pos c3])
      rw [decide_eq_false (by simpa using c3)] at hcut
      have HC := Lib.hid hcut
      clear hpn hcut hK c2 c3 hk hsz
      go_enter Tryz.func104, Tryz.ntmps104
      go_wp2_with fail
      refine HL.out.mono ?_
      rintro e w' ⟨rfl, rfl⟩
      go_wp2_with fail
      refine HC.out.mono ?_
      rintro e w' ⟨b, rfl, dd, rfl⟩
      go_wp2
      go_ret3
      exact ⟨by rw [HE.out]; rfl, dd, rfl⟩
    · have HE : Hid (R = ((t.extract 1 t.size).extract 0 K, (K : Int) + 2, 0)) := Lib.hid (by rw [hpn, if_neg c3])
      rw [decide_eq_true (by simpa using c3)] at hcut
      have HC := Lib.hid hcut
      obtain ⟨nm, hnm⟩ : ∃ nm, (t.extract 1 t.size).extract 0 K = nm := ⟨_, rfl⟩
      have hnz : nm.size = K := by rw [← hnm, ByteArray.size_extract]; omega
      rw [hnm] at HC HE
      have HNZ := Lib.hid hnz
      have hw1 : IntKind.i64.wrap (1 + (nm.size : Int)) = (K : Int) + 1 := by rw [IntKind.wrap_i64, hnz]; omega
      have hw2 : IntKind.i64.wrap ((K : Int) + 1 + 1) = (K : Int) + 2 := by rw [IntKind.wrap_i64]; omega
      clear hpn hcut hK c2 c3 hk hsz hnm hnz
      go_enter Tryz.func104, Tryz.ntmps104
      go_wp2_with fail
      refine HL.out.mono ?_
      rintro e w' ⟨rfl, rfl⟩
      go_wp2_with fail
      refine HC.out.mono ?_
      rintro e w' ⟨b, rfl, dd, rfl⟩
      go_wp2
      go_ret3
      exact ⟨by rw [HE.out]; rfl, dd, rfl⟩
end Go.Proofs.YtmdpchiiamgnnaaGreatDoor
namespace Go.Proofs.YtmdpchiiamgnnaaGreatDoor
open Go.RowKit
set_option linter.unusedVariables false
set_option maxRecDepth 100000 in
set_option maxHeartbeats 4000000 in
theorem bNumber_any (W : World) (s : ByteArray) (hs : s.size ≤ 140737488351232) : Calls Tryz.prog 93 #[.string s] W fun e w' =>
    e = .returned (.tuple #[.int .i64 (Br.num (Utf.nums s)).1, .int .i64 (Br.num (Utf.nums s)).2.1, .int .i64 (Br.num (Utf.nums s)).2.2]) ∧ W = w' := by
  have hp := hasPre1 W s 92 (by decide)
  rw [show (((92 : UInt8).toNat : Nat) : Int) = 92 from rfl] at hp
  have hnum : Br.num (Utf.nums s) = (if (Utf.nums s)[0]?.getD 0 ≠ 92 then (0, 0, 3) else if s.size = 1 then (0, 0, 82) else if (Utf.nums s)[1]?.getD 0 ≠ 120 then Br.plain ((Utf.nums s)[1]?.getD 0) else if (Utf.nums s)[2]?.getD 0 = 123 then Br.braced (Utf.nums s) else Br.two (Utf.nums s)) := by
    unfold Br.num
    rw [Utf.nums_length]
  obtain ⟨R, hR⟩ : ∃ R, Br.num (Utf.nums s) = R := ⟨_, rfl⟩
  rw [hR] at hnum ⊢
  have HN := Lib.hid hnum
  by_cases c0 : ¬ (Utf.nums s)[0]?.getD 0 = 92
  · have HE : Hid (R = (0, 0, 3)) := Lib.hid (by rw [hnum, if_pos c0])
    rw [decide_eq_false c0] at hp
    have HP := Lib.hid hp
    clear hnum hp c0 hR
    go_enter Tryz.func93, Tryz.ntmps93
    go_wp2_with (go_at_call 22; refine HP.out.mono ?_; rintro e w' ⟨rfl, rfl⟩)
    go_ret3
    exact ⟨by rw [HE.out]; rfl, rfl⟩
  have c0' : (Utf.nums s)[0]?.getD 0 = 92 := by omega
  rw [decide_eq_true c0'] at hp
  have HP := Lib.hid hp
  have h0 : 0 < s.size := by
    rcases Nat.lt_or_ge 0 s.size with h | h
    · exact h
    · rw [List.getElem?_eq_none (by rw [Utf.nums_length]; omega)] at c0'; cases c0'
  by_cases c1 : s.size = 1
  · have HE : Hid (R = (0, 0, 82)) := Lib.hid (by rw [hnum, if_neg (by omega), if_pos c1])
    have h1 : ((s.size : Int) == 1) = true := by simp [c1]
    clear hnum hp c0 c0' hR c1
    go_enter Tryz.func93, Tryz.ntmps93
    go_wp2_with (go_at_call 22; refine HP.out.mono ?_; rintro e w' ⟨rfl, rfl⟩)
    go_ret3
    exact ⟨by rw [HE.out]; rfl, rfl⟩
  have h1 : ((s.size : Int) == 1) = false := by simp; omega
  have h2 : 1 < s.size := by omega
  have h2i : (1 : Int) < (s.size : Int) := by omega
  have hb : s[1].toNat < 256 := UInt8.toNat_lt _
  have hat : (Utf.nums s)[1]?.getD 0 = (s[1].toNat : Int) := Utf.nums_at s 1 h2
  rw [if_neg (by omega), if_neg c1, hat] at hnum
  by_cases c2 : (s[1].toNat : Int) ≠ 120
  · rw [if_pos c2] at hnum
    have HPL := Lib.hid (bPlain_any W (s[1].toNat : Int) (by omega) (by omega))
    rw [← hnum] at HPL
    have h3 : ((s[1].toNat : Int) != 120) = true := by simpa using c2
    clear hnum hp c0 c0' hR c1 c2 hat
    go_enter Tryz.func93, Tryz.ntmps93
    go_wp2_with fail
    refine HP.out.mono ?_
    rintro e w' ⟨rfl, rfl⟩
    go_wp2_with fail
    refine HPL.out.mono ?_
    rintro e w' ⟨rfl, rfl⟩
    go_wp2
    go_ret3
    exact ⟨rfl, rfl⟩
  have h3 : ((s[1].toNat : Int) != 120) = false := by simp; omega
  rw [if_neg c2] at hnum
  have hp2 := hasPre1 W (s.extract 2 s.size) 123 (by decide)
  rw [show (((123 : UInt8).toNat : Nat) : Int) = 123 from rfl, tail_drop, List.getElem?_drop] at hp2
  have h4 : (2 : Int) ≤ (s.size : Int) := by omega
  by_cases c3 : (Utf.nums s)[2]?.getD 0 = 123
  · rw [if_pos c3] at hnum
    rw [decide_eq_true c3] at hp2
    have h5 : 3 ≤ s.size := by
      rcases Nat.lt_or_ge 2 s.size with h | h
      · exact h
      · rw [List.getElem?_eq_none (by rw [Utf.nums_length]; omega)] at c3; cases c3
    have HBR := Lib.hid (bBraced_any W s hs h5)
    rw [← hnum] at HBR
    have HP2 := Lib.hid hp2
    clear hnum hp c0 c0' hR c1 c2 hat hp2 c3
    go_enter Tryz.func93, Tryz.ntmps93
    go_wp2_with fail
    refine HP.out.mono ?_
    rintro e w' ⟨rfl, rfl⟩
    go_wp2_with fail
    refine HP2.out.mono ?_
    rintro e w' ⟨rfl, rfl⟩
    go_wp2_with fail
    refine HBR.out.mono ?_
    rintro e w' ⟨rfl, rfl⟩
    go_wp2
    go_ret3
    exact ⟨rfl, rfl⟩
  rw [if_neg c3] at hnum
  rw [decide_eq_false c3] at hp2
  have HP2 := Lib.hid hp2
  have hD := bDigits_any W (s.extract 2 s.size) 2 (by rw [ByteArray.size_extract]; omega) (by omega)
  rw [tail_drop] at hD
  have htwo : R = (if Br.cnt ((Utf.nums s).drop 2) 2 = 2 then (Br.val ((Utf.nums s).drop 2) 2, 4, 0) else if Br.cnt ((Utf.nums s).drop 2) 2 + 2 = s.size then (0, 0, 82) else (0, 0, 80)) := by
    rw [hnum]
    unfold Br.two
    dsimp only
    rw [Utf.nums_length]
  have hc := Br.cnt_le ((Utf.nums s).drop 2) 2
  rw [List.length_drop, Utf.nums_length] at hc
  have hsz : (s.extract 2 s.size).size = s.size - 2 := by rw [ByteArray.size_extract]; omega
  obtain ⟨K, hK⟩ : ∃ K, Br.cnt ((Utf.nums s).drop 2) 2 = K := ⟨_, rfl⟩
  rw [hK] at hD htwo hc
  have HD := Lib.hid hD
  have HT := Lib.hid htwo
  clear hnum hp c0 c0' hR c1 c2 hat hp2 c3 hD htwo hK
  by_cases k2 : K = 2
  · subst k2
    have HE : Hid (R = (Br.val ((Utf.nums s).drop 2) 2, 4, 0)) := Lib.hid (by rw [HT.out, if_pos rfl])
    go_enter Tryz.func93, Tryz.ntmps93
    go_wp2_with fail
    refine HP.out.mono ?_
    rintro e w' ⟨rfl, rfl⟩
    go_wp2_with fail
    refine HP2.out.mono ?_
    rintro e w' ⟨rfl, rfl⟩
    go_wp2_with fail
    refine HD.out.mono ?_
    rintro e w' ⟨rfl, rfl⟩
    go_wp2
    go_ret3
    exact ⟨by rw [HE.out]; rfl, rfl⟩
  have h5 : ((K : Int) == 2) = false := by simp; omega
  by_cases k3 : K + 2 = s.size
  · have HE : Hid (R = (0, 0, 82)) := Lib.hid (by rw [HT.out, if_neg k2, if_pos k3])
    have h6 : ((K : Int) == ((s.size - 2 : Nat) : Int)) = true := by simp; omega
    clear hsz k2 k3 hc
    go_enter Tryz.func93, Tryz.ntmps93
    go_wp2_with fail
    refine HP.out.mono ?_
    rintro e w' ⟨rfl, rfl⟩
    go_wp2_with fail
    refine HP2.out.mono ?_
    rintro e w' ⟨rfl, rfl⟩
    go_wp2_with fail
    refine HD.out.mono ?_
    rintro e w' ⟨rfl, rfl⟩
    go_wp2
    go_ret3
    exact ⟨by rw [HE.out]; rfl, rfl⟩
  · have HE : Hid (R = (0, 0, 80)) := Lib.hid (by rw [HT.out, if_neg k2, if_neg k3])
    have h6 : ((K : Int) == ((s.size - 2 : Nat) : Int)) = false := by simp; omega
    clear hsz k2 k3 hc
    go_enter Tryz.func93, Tryz.ntmps93
    go_wp2_with fail
    refine HP.out.mono ?_
    rintro e w' ⟨rfl, rfl⟩
    go_wp2_with fail
    refine HP2.out.mono ?_
    rintro e w' ⟨rfl, rfl⟩
    go_wp2_with fail
    refine HD.out.mono ?_
    rintro e w' ⟨rfl, rfl⟩
    go_wp2
    go_ret3
    exact ⟨by rw [HE.out]; rfl, rfl⟩
end Go.Proofs.YtmdpchiiamgnnaaGreatDoor
