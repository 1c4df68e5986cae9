/- The landed tree: isDigit, isLetter, isCount, Name. · The landed lex: the name of a group; flags. -/
import Derived.Test.YtecclhmjmceheaaGreatDoorGp11
import Derived.Test.YtecclhmjmceheaaGreatDoorGp32
namespace Go.Proofs.YtecclhmjmceheaaGreatDoor
open Go.RowKit
set_option linter.unusedVariables false
set_option maxRecDepth 100000 in
set_option maxHeartbeats 2000000 in
theorem isDigit_any (W : World) (c : Int) (h0 : 0 ≤ c) (h1 : c ≤ 255) : Calls Tryz.prog 112 #[.int .u8 c] W fun e w' => e = .returned (.bool (decide (48 ≤ c ∧ c ≤ 57))) ∧ W = w' := by
  by_cases a : 48 ≤ c
  · by_cases b : c ≤ 57
    · rw [decide_eq_true (show 48 ≤ c ∧ c ≤ 57 from ⟨a, b⟩)]
      go_enter Tryz.func112, Tryz.ntmps112
      go_wp2
      go_ret
      exact ⟨rfl, rfl⟩
    · rw [decide_eq_false (show ¬ (48 ≤ c ∧ c ≤ 57) from fun h => b h.2)]
      go_enter Tryz.func112, Tryz.ntmps112
      go_wp2
      go_ret
      exact ⟨rfl, rfl⟩
  · rw [decide_eq_false (show ¬ (48 ≤ c ∧ c ≤ 57) from fun h => a h.1)]
    go_enter Tryz.func112, Tryz.ntmps112
    go_wp2
    go_ret
    exact ⟨rfl, rfl⟩
set_option maxRecDepth 100000 in
set_option maxHeartbeats 2000000 in
theorem isCount_any (W : World) (c : Int) : Calls Tryz.prog 79 #[.int .i64 c] W fun e w' => e = .returned (.bool (decide (0 ≤ c ∧ c ≤ 1000))) ∧ W = w' := by
  by_cases a : 0 ≤ c
  · by_cases b : c ≤ 1000
    · rw [decide_eq_true (show 0 ≤ c ∧ c ≤ 1000 from ⟨a, b⟩)]
      go_enter Tryz.func79, Tryz.ntmps79
      go_wp2
      go_ret
      exact ⟨rfl, rfl⟩
    · rw [decide_eq_false (show ¬ (0 ≤ c ∧ c ≤ 1000) from fun h => b h.2)]
      go_enter Tryz.func79, Tryz.ntmps79
      go_wp2
      go_ret
      exact ⟨rfl, rfl⟩
  · rw [decide_eq_false (show ¬ (0 ≤ c ∧ c ≤ 1000) from fun h => a h.1)]
    go_enter Tryz.func79, Tryz.ntmps79
    go_wp2
    go_ret
    exact ⟨rfl, rfl⟩
set_option maxRecDepth 100000 in
set_option maxHeartbeats 2000000 in
theorem isLetter_any (W : World) (c : Int) (h0 : 0 ≤ c) (h1 : c ≤ 255) : Calls Tryz.prog 113 #[.int .u8 c] W fun e w' => e = .returned (.bool (decide (65 ≤ c ∧ c ≤ 90 ∨ 97 ≤ c ∧ c ≤ 122))) ∧ W = w' := by
  by_cases a : 65 ≤ c
  · by_cases b : c ≤ 90
    · rw [decide_eq_true (show (65 ≤ c ∧ c ≤ 90 ∨ 97 ≤ c ∧ c ≤ 122) from .inl ⟨a, b⟩)]
      go_enter Tryz.func113, Tryz.ntmps113
      go_wp2
      go_ret
      exact ⟨rfl, rfl⟩
    · by_cases d : 97 ≤ c
      · by_cases f : c ≤ 122
        · rw [decide_eq_true (show (65 ≤ c ∧ c ≤ 90 ∨ 97 ≤ c ∧ c ≤ 122) from .inr ⟨d, f⟩)]
          go_enter Tryz.func113, Tryz.ntmps113
          go_wp2
          go_ret
          exact ⟨rfl, rfl⟩
        · rw [decide_eq_false (show ¬ (65 ≤ c ∧ c ≤ 90 ∨ 97 ≤ c ∧ c ≤ 122) by omega)]
          go_enter Tryz.func113, Tryz.ntmps113
          go_wp2
          go_ret
          exact ⟨rfl, rfl⟩
      · rw [decide_eq_false (show ¬ (65 ≤ c ∧ c ≤ 90 ∨ 97 ≤ c ∧ c ≤ 122) by omega)]
        go_enter Tryz.func113, Tryz.ntmps113
        go_wp2
        go_ret
        exact ⟨rfl, rfl⟩
  · have d : ¬ 97 ≤ c := by omega
    rw [decide_eq_false (show ¬ (65 ≤ c ∧ c ≤ 90 ∨ 97 ≤ c ∧ c ≤ 122) by omega)]
    go_enter Tryz.func113, Tryz.ntmps113
    go_wp2
    go_ret
    exact ⟨rfl, rfl⟩
set_option maxRecDepth 100000 in
set_option maxHeartbeats 4000000 in
theorem trName_any (W : World) (s : ByteArray) (hm : s.size ≤ 140737488351232) : Calls Tryz.prog 78 #[.string s] W fun e w' => e = .returned (.bool (Td.nameB s)) ∧ W = w' := by
  by_cases c1 : (s.size : Int) < 1
  · have hE : Hid (Td.nameB s = false) := Lib.hid (by
      unfold Td.nameB
      rw [decide_eq_false (by omega)]
      simp)
    go_enter Tryz.func78, Tryz.ntmps78
    go_wp2
    go_ret
    exact ⟨by rw [hE.out]; rfl, rfl⟩
  by_cases c2 : (32 : Int) < (s.size : Int)
  · have hE : Hid (Td.nameB s = false) := Lib.hid (by
      unfold Td.nameB
      rw [decide_eq_false (by omega)]
      simp)
    go_enter Tryz.func78, Tryz.ntmps78
    go_wp2
    go_ret
    exact ⟨by rw [hE.out]; rfl, rfl⟩
  have c1' : 0 < s.size := by omega
  have c1i : (0 : Int) < (s.size : Int) := by omega
  have hz : (Td.bytes s).getD 0 0 = (s[0].toNat : Int) := by rw [List.getD, Td.bytes_at s 0 c1']; rfl
  have HZ := Lib.hid hz
  have hb0 : s[0].toNat < 256 := UInt8.toNat_lt _
  clear hz
  go_enter Tryz.func78, Tryz.ntmps78
  go_wp2_with fail
  refine (isDigit_any _ _ (by omega) (by omega)).mono ?_
  rintro e w' ⟨rfl, rfl⟩
  by_cases c3 : (48 : Int) ≤ (s[0].toNat : Int) ∧ (s[0].toNat : Int) ≤ 57
  · have hE : Hid (Td.nameB s = false) := Lib.hid (by
      unfold Td.nameB
      rw [HZ.out, decide_eq_false (by omega)]
      simp)
    rw [decide_eq_true c3]
    go_wp2
    go_ret
    exact ⟨by rw [hE.out]; rfl, rfl⟩
  rw [decide_eq_false c3]
  have hE : Hid (Td.nameB s = (Td.bytes s).all Td.letC) := Lib.hid (by
    unfold Td.nameB
    rw [HZ.out, decide_eq_true (by omega)]
    simp)
  clear c3 hb0
  go_wp2
  go_loop [3, 19] (fun jv iv => ∃ k : Nat, k ≤ s.size ∧ iv = .int .i64 (k : Int) ∧ Hid (((Td.bytes s).take k).all Td.letC = true)) (fun _ iv => s.size - (intOf iv).toNat)
  case atStart => exact ⟨0, Nat.zero_le _, rfl, Lib.hid rfl⟩
  case round =>
    obtain ⟨k, hk, rfl, HAA⟩ := hrel
    by_cases hlt : k < s.size
    · have hb : s[k].toNat < 256 := UInt8.toNat_lt _
      have HK := Lib.hid (Td.bytes_at s k hlt)
      have hki : (k : Int) < (s.size : Int) := by omega
      have no : Td.letC (s[k].toNat : Int) = false → Td.nameB s = false := fun hx => by
        rw [hE.out, List.all_eq_false]
        exact ⟨_, List.mem_of_getElem? HK.out, by rw [hx]; decide⟩
      have yes : Td.letC (s[k].toNat : Int) = true → ((Td.bytes s).take (k + 1)).all Td.letC = true := fun hx => by
        obtain ⟨h, h2⟩ := List.getElem?_eq_some_iff.1 HK.out
        rw [List.take_succ_eq_append_getElem h, List.all_append, HAA.out, h2]
        simp [hx]
      have NO := Lib.hid no
      have YES := Lib.hid yes
      clear no yes
      go_wp2_with fail
      refine (isLetter_any _ _ (by omega) (by omega)).mono ?_
      rintro e w' ⟨rfl, rfl⟩
      by_cases l1 : 65 ≤ (s[k].toNat : Int) ∧ (s[k].toNat : Int) ≤ 90 ∨ 97 ≤ (s[k].toNat : Int) ∧ (s[k].toNat : Int) ≤ 122
      · have HT := Lib.hid (YES.out (by unfold Td.letC; exact decide_eq_true (by omega)))
        rw [decide_eq_true l1]
        clear l1
        go_wp2
        go_round
        case rel => exact ⟨k + 1, by omega, by go_num, HT⟩
        case measure => simp [intOf]; omega
      rw [decide_eq_false l1]
      have L1 := Lib.hid l1
      clear l1
      go_wp2_with fail
      refine (isDigit_any _ _ (by omega) (by omega)).mono ?_
      rintro e w' ⟨rfl, rfl⟩
      by_cases l2 : 48 ≤ (s[k].toNat : Int) ∧ (s[k].toNat : Int) ≤ 57
      · have HT := Lib.hid (YES.out (by unfold Td.letC; exact decide_eq_true (by omega)))
        rw [decide_eq_true l2]
        clear l2
        go_wp2
        go_round
        case rel => exact ⟨k + 1, by omega, by go_num, HT⟩
        case measure => simp [intOf]; omega
      rw [decide_eq_false l2]
      have L2 := Lib.hid l2
      clear l2
      by_cases l3 : (s[k].toNat : Int) = 95
      · have HT := Lib.hid (YES.out (by unfold Td.letC; exact decide_eq_true (by omega)))
        go_wp2
        go_round
        case rel => exact ⟨k + 1, by omega, by go_num, HT⟩
        case measure => simp [intOf]; omega
      · have HF := Lib.hid (NO.out (by unfold Td.letC; exact decide_eq_false (by have := L1.out; have := L2.out; omega)))
        go_wp2
        go_ret
        exact ⟨by rw [HF.out]; rfl, rfl⟩
    · obtain rfl : k = s.size := by omega
      have HB := Lib.hid (show Td.nameB s = true by
        have := HAA.out
        rw [List.take_of_length_le (by rw [Td.bytes_len]; exact Nat.le_refl _)] at this
        rw [hE.out, this])
      go_wp2
      go_ret
      exact ⟨by rw [HB.out]; rfl, rfl⟩
end Go.Proofs.YtecclhmjmceheaaGreatDoor
namespace Go.Proofs.YtecclhmjmceheaaGreatDoor
open Go.RowKit
set_option linter.unusedVariables false
theorem pre_iff (s p : ByteArray) : Lib.hasPrefix s.data.toList p.data.toList = decide ((Utf.nums s).take p.size = Utf.nums p) := by
  unfold Lib.hasPrefix Utf.nums
  rw [Bool.eq_iff_iff, List.isPrefixOf_iff_prefix, List.prefix_iff_eq_take, decide_eq_true_iff, ← List.map_take, show p.data.toList.length = p.size from Array.length_toList]
  constructor
  · intro h; rw [← h]
  · intro h
    exact ((List.map_inj_right (f := fun b : UInt8 => (b.toNat : Int)) (fun a b e => UInt8.toNat_inj.1 (by have h9 : (a.toNat : Int) = (b.toNat : Int) := e; omega))).1 h).symm
theorem cutPre_any (W : World) (s p : ByteArray) : Calls Tryz.prog 126 #[.string s, .string p] W fun e w' =>
    e = .returned (.tuple #[.string (if (Utf.nums s).take p.size = Utf.nums p then s.extract p.size s.size else s), .bool (decide ((Utf.nums s).take p.size = Utf.nums p))]) ∧ W = w' := by
  have hcon := Any.strings_CutPrefix (P := Tryz.prog) Tryz.layPrefix s p W
  change Calls Tryz.prog 126 _ _ _ at hcon
  refine hcon.mono ?_
  rintro e w' ⟨rfl, rfl⟩
  refine ⟨?_, rfl⟩
  unfold Lib.trimPrefix
  rw [pre_iff]
  by_cases h : (Utf.nums s).take p.size = Utf.nums p
  · rw [decide_eq_true h, if_pos rfl, if_pos h, show p.data.toList.length = p.size from Array.length_toList, drop_extract']
  · rw [decide_eq_false h, if_neg (by decide), if_neg h]
/-- What groupName hands back. -/
def NamePost (X : Option (ByteArray × Nat)) (W : World) (e : Ending) (w' : World) : Prop :=
  Below W.heap.size W w' ∧ ((X = none ∧ e = .returned (.tuple #[.string ⟨#[]⟩, .int .i64 0])) ∨ ∃ nm n, X = some (nm, n) ∧ e = .returned (.tuple #[.string nm, .int .i64 (n : Nat)]))
set_option maxRecDepth 100000 in
set_option maxHeartbeats 8000000 in
theorem groupName_any (W : World) (s : ByteArray) (hs : s.size ≤ 400) (hE : Ev W) : Calls Tryz.prog 91 #[.string s] W (NamePost (Lx.nameX s) W) := by
  have HE := Lib.hid hE
  clear hE
  obtain ⟨X, hX⟩ : ∃ X, Lx.nameX s = X := ⟨_, rfl⟩
  rw [hX]
  unfold Lx.nameX at hX
  dsimp only at hX
  have H4 := Lib.hid (fun w => cutPre_any w s ⟨#[40, 63, 80, 60]⟩)
  have H3 := Lib.hid (fun w => cutPre_any w s ⟨#[40, 63, 60]⟩)
  rw [show Utf.nums ⟨#[40, 63, 80, 60]⟩ = [40, 63, 80, 60] from rfl, show (ByteArray.mk #[40, 63, 80, 60]).size = 4 from rfl] at H4
  rw [show Utf.nums ⟨#[40, 63, 60]⟩ = [40, 63, 60] from rfl, show (ByteArray.mk #[40, 63, 60]).size = 3 from rfl] at H3
  by_cases c4 : (Utf.nums s).take 4 = [40, 63, 80, 60]
  · have hp : Lx.nameAt (Utf.nums s) = 4 := by unfold Lx.nameAt; rw [if_pos c4]
    rw [hp] at hX
    rw [if_pos c4, decide_eq_true c4] at H4
    have hps : 4 ≤ s.size := by
      have := congrArg List.length c4
      rw [List.length_take, Utf.nums_length] at this
      have h9 : min 4 s.size = 4 := this
      omega
    rw [if_neg (by decide), ← tail_drop s 4, Utf.nums_length] at hX
    obtain ⟨r, hr⟩ : ∃ r, s.extract 4 s.size = r := ⟨_, rfl⟩
    have hzr : r.size = s.size - 4 := by rw [← hr, ByteArray.size_extract]; omega
    have HC := Lib.hid (fun w (hw : Ev w) => cut_1r w r (by omega) 62 hw)
    rw [show (((62 : UInt8).toNat : Nat) : Int) = 62 from rfl] at HC
    have hkl := Br.upTo_le 62 (Utf.nums r)
    rw [Utf.nums_length] at hkl
    rw [hr] at hX H4
    obtain ⟨k, hk⟩ : ∃ k, Br.upTo 62 (Utf.nums r) = k := ⟨_, rfl⟩
    rw [hk] at hX HC hkl
    have hsub : r.extract 0 k = s.extract 4 (4 + k) := by
      rw [← hr, ByteArray.extract_extract]
      congr 1
      omega
    rw [← hsub] at hX
    obtain ⟨nm, hnm⟩ : ∃ nm, r.extract 0 k = nm := ⟨_, rfl⟩
    rw [hnm] at hX HC
    obtain ⟨g, hg⟩ : ∃ g, r.extract (k + 1) r.size = g := ⟨_, rfl⟩
    have hzg : g.size = r.size - (k + 1) := by rw [← hg, ByteArray.size_extract]; omega
    rw [hg] at HC
    have hzn : nm.size ≤ 400 := by rw [← hnm, ByteArray.size_extract]; omega
    have HNM := Lib.hid (fun w => trName_any w nm (by omega))
    clear hr hk hsub hnm hg c4
    by_cases e1 : k = r.size
    · rw [if_pos e1] at hX
      rw [decide_eq_false (by simp [e1])] at HC
      have HX := Lib.hid hX.symm
      clear hX e1
      go_enter Tryz.func91, Tryz.ntmps91
      go_wp2_with fail
      refine (H4.out _).mono ?_
      rintro e w1 ⟨rfl, rfl⟩
      go_wp2_with fail
      refine (HC.out _ HE.out).mono ?_
      rintro e w1 ⟨rfl, n1, rfl⟩
      go_wp2
      go_ret2
      exact ⟨below_drewN (Below.refl _ _) n1, .inl ⟨HX.out, rfl⟩⟩
    rw [if_neg e1] at hX
    rw [decide_eq_true e1] at HC
    cases hb : Td.nameB nm with
    | false =>
      rw [hb] at hX HNM
      rw [if_neg (by decide)] at hX
      have HX := Lib.hid hX.symm
      clear hX e1 hb
      go_enter Tryz.func91, Tryz.ntmps91
      go_wp2_with fail
      refine (H4.out _).mono ?_
      rintro e w1 ⟨rfl, rfl⟩
      go_wp2_with fail
      refine (HC.out _ HE.out).mono ?_
      rintro e w1 ⟨rfl, n1, rfl⟩
      go_wp2_with fail
      refine (HNM.out _).mono ?_
      rintro e w1 ⟨rfl, rfl⟩
      go_wp2
      go_ret2
      exact ⟨below_drewN (Below.refl _ _) n1, .inl ⟨HX.out, rfl⟩⟩
    | true =>
      rw [hb] at hX HNM
      rw [if_pos rfl] at hX
      obtain ⟨n, hn⟩ : ∃ n, 4 + k + 1 = n := ⟨_, rfl⟩
      rw [hn] at hX
      have HX := Lib.hid hX.symm
      have hw : IntKind.i64.wrap ((s.size : Int) - (g.size : Int)) = (n : Int) := by rw [IntKind.wrap_i64]; omega
      clear hX e1 hb hzg hn
      go_enter Tryz.func91, Tryz.ntmps91
      go_wp2_with fail
      refine (H4.out _).mono ?_
      rintro e w1 ⟨rfl, rfl⟩
      go_wp2_with fail
      refine (HC.out _ HE.out).mono ?_
      rintro e w1 ⟨rfl, n1, rfl⟩
      go_wp2_with fail
      refine (HNM.out _).mono ?_
      rintro e w1 ⟨rfl, rfl⟩
      go_wp2
      go_ret2
      exact ⟨below_drewN (Below.refl _ _) n1, .inr ⟨_, _, HX.out, rfl⟩⟩
  rw [if_neg c4, decide_eq_false c4] at H4
  by_cases c3 : (Utf.nums s).take 3 = [40, 63, 60]
  · have hp : Lx.nameAt (Utf.nums s) = 3 := by unfold Lx.nameAt; rw [if_neg c4, if_pos c3]
    rw [hp] at hX
    rw [if_pos c3, decide_eq_true c3] at H3
    have hps : 3 ≤ s.size := by
      have := congrArg List.length c3
      rw [List.length_take, Utf.nums_length] at this
      have h9 : min 3 s.size = 3 := this
      omega
    rw [if_neg (by decide), ← tail_drop s 3, Utf.nums_length] at hX
    obtain ⟨r, hr⟩ : ∃ r, s.extract 3 s.size = r := ⟨_, rfl⟩
    have hzr : r.size = s.size - 3 := by rw [← hr, ByteArray.size_extract]; omega
    have HC := Lib.hid (fun w (hw : Ev w) => cut_1r w r (by omega) 62 hw)
    rw [show (((62 : UInt8).toNat : Nat) : Int) = 62 from rfl] at HC
    have hkl := Br.upTo_le 62 (Utf.nums r)
    rw [Utf.nums_length] at hkl
    rw [hr] at hX H3
    obtain ⟨k, hk⟩ : ∃ k, Br.upTo 62 (Utf.nums r) = k := ⟨_, rfl⟩
    rw [hk] at hX HC hkl
    have hsub : r.extract 0 k = s.extract 3 (3 + k) := by
      rw [← hr, ByteArray.extract_extract]
      congr 1
      omega
    rw [← hsub] at hX
    obtain ⟨nm, hnm⟩ : ∃ nm, r.extract 0 k = nm := ⟨_, rfl⟩
    rw [hnm] at hX HC
    obtain ⟨g, hg⟩ : ∃ g, r.extract (k + 1) r.size = g := ⟨_, rfl⟩
    have hzg : g.size = r.size - (k + 1) := by rw [← hg, ByteArray.size_extract]; omega
    rw [hg] at HC
    have hzn : nm.size ≤ 400 := by rw [← hnm, ByteArray.size_extract]; omega
    have HNM := Lib.hid (fun w => trName_any w nm (by omega))
    clear hr hk hsub hnm hg c4 c3
    by_cases e1 : k = r.size
    · rw [if_pos e1] at hX
      rw [decide_eq_false (by simp [e1])] at HC
      have HX := Lib.hid hX.symm
      clear hX e1
      go_enter Tryz.func91, Tryz.ntmps91
      go_wp2_with fail
      refine (H4.out _).mono ?_
      rintro e w1 ⟨rfl, rfl⟩
      go_wp2_with fail
      refine (H3.out _).mono ?_
      rintro e w1 ⟨rfl, rfl⟩
      go_wp2_with fail
      refine (HC.out _ HE.out).mono ?_
      rintro e w1 ⟨rfl, n1, rfl⟩
      go_wp2
      go_ret2
      exact ⟨below_drewN (Below.refl _ _) n1, .inl ⟨HX.out, rfl⟩⟩
    rw [if_neg e1] at hX
    rw [decide_eq_true e1] at HC
    cases hb : Td.nameB nm with
    | false =>
      rw [hb] at hX HNM
      rw [if_neg (by decide)] at hX
      have HX := Lib.hid hX.symm
      clear hX e1 hb
      go_enter Tryz.func91, Tryz.ntmps91
      go_wp2_with fail
      refine (H4.out _).mono ?_
      rintro e w1 ⟨rfl, rfl⟩
      go_wp2_with fail
      refine (H3.out _).mono ?_
      rintro e w1 ⟨rfl, rfl⟩
      go_wp2_with fail
      refine (HC.out _ HE.out).mono ?_
      rintro e w1 ⟨rfl, n1, rfl⟩
      go_wp2_with fail
      refine (HNM.out _).mono ?_
      rintro e w1 ⟨rfl, rfl⟩
      go_wp2
      go_ret2
      exact ⟨below_drewN (Below.refl _ _) n1, .inl ⟨HX.out, rfl⟩⟩
    | true =>
      rw [hb] at hX HNM
      rw [if_pos rfl] at hX
      obtain ⟨n, hn⟩ : ∃ n, 3 + k + 1 = n := ⟨_, rfl⟩
      rw [hn] at hX
      have HX := Lib.hid hX.symm
      have hw : IntKind.i64.wrap ((s.size : Int) - (g.size : Int)) = (n : Int) := by rw [IntKind.wrap_i64]; omega
      clear hX e1 hb hzg hn
      go_enter Tryz.func91, Tryz.ntmps91
      go_wp2_with fail
      refine (H4.out _).mono ?_
      rintro e w1 ⟨rfl, rfl⟩
      go_wp2_with fail
      refine (H3.out _).mono ?_
      rintro e w1 ⟨rfl, rfl⟩
      go_wp2_with fail
      refine (HC.out _ HE.out).mono ?_
      rintro e w1 ⟨rfl, n1, rfl⟩
      go_wp2_with fail
      refine (HNM.out _).mono ?_
      rintro e w1 ⟨rfl, rfl⟩
      go_wp2
      go_ret2
      exact ⟨below_drewN (Below.refl _ _) n1, .inr ⟨_, _, HX.out, rfl⟩⟩
  rw [if_neg c3, decide_eq_false c3] at H3
  have hp : Lx.nameAt (Utf.nums s) = 0 := by unfold Lx.nameAt; rw [if_neg c4, if_neg c3]
  rw [hp, if_pos rfl] at hX
  have HX := Lib.hid hX.symm
  have HC := Lib.hid (fun w (hw : Ev w) => cut_1r w s (by omega) 62 hw)
  obtain ⟨k, hk⟩ : ∃ k, Br.upTo (((62 : UInt8).toNat : Nat) : Int) (Utf.nums s) = k := ⟨_, rfl⟩
  rw [hk] at HC
  clear hX c3 c4 hp hk
  go_enter Tryz.func91, Tryz.ntmps91
  go_wp2_with fail
  refine (H4.out _).mono ?_
  rintro e w1 ⟨rfl, rfl⟩
  go_wp2_with fail
  refine (H3.out _).mono ?_
  rintro e w1 ⟨rfl, rfl⟩
  go_wp2_with fail
  refine (HC.out _ HE.out).mono ?_
  rintro e w1 ⟨rfl, n1, rfl⟩
  go_wp2
  go_ret2
  exact ⟨below_drewN (Below.refl _ _) n1, .inl ⟨HX.out, rfl⟩⟩
/-- The flags of a text, one letter behind another. -/
theorem flagsOf_step (l : List Int) (i : Nat) (c a : Int) (h : l[i]? = some c) : Lx.flagsOfX (l.drop i) a = if Lx.flagB c = 0 then none else Lx.flagsOfX (l.drop (i + 1)) (bits .or .i64 a (Lx.flagB c)) := by
  obtain ⟨hi, rfl⟩ := List.getElem?_eq_some_iff.1 h
  rw [List.drop_eq_getElem_cons hi]; rfl
end Go.Proofs.YtecclhmjmceheaaGreatDoor
