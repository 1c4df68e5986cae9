/- The reference's class (burinref04): a name without its mark. -/
import Derived.Test.YtimgdooelbhjfaaGreatDoorR4C
namespace Go.Proofs.YtimgdooelbhjfaaGreatDoor
open Go.RowKit
set_option linter.unusedVariables false
namespace Cl
theorem bare_yes (s : ByteArray) (h0 : 0 < s.size) (h : ((s[0].toNat : Int) == 94) = true) : Cl.bare s.toList = ((s.extract 1 s.size).toList, true) := by
  have hs : s[0] = 94 := by
    have : s[0].toNat = 94 := by have := eq_of_beq h; omega
    exact UInt8.toNat_inj.1 this
  have e : s.toList = 94 :: (s.extract 1 s.size).toList := by
    rw [ByteArray.toList_eq, ByteArray.toList_eq, ByteArray.data_extract, Array.toList_extract]
    have hl : 0 < s.data.toList.length := by simpa using h0
    have h1 : s.data.toList[0]'hl = 94 := hs
    have h2 := List.drop_eq_getElem_cons hl
    rw [List.drop_zero, h1] at h2
    have h3 : s.data.toList.extract 1 s.size = s.data.toList.drop 1 := by
      rw [List.extract_eq_take_drop]
      exact List.take_of_length_le (by simp)
    rw [h3]; exact h2
  rw [e]; rfl
theorem bare_no (s : ByteArray) (h : ∀ h0 : 0 < s.size, ((s[0].toNat : Int) == 94) = false) : Cl.bare s.toList = (s.toList, false) := by
  unfold Cl.bare
  split
  · rename_i t he
    exfalso
    have hl : 0 < s.size := by
      have : s.toList.length = s.size := by rw [ByteArray.toList_eq]; simp
      rw [← this, he]; simp
    have h1 := h hl
    have h2 : s[0] = 94 := by
      have e2 : s.data.toList = 94 :: t := by rw [← ByteArray.toList_eq]; exact he
      have h3 : s.data.toList[0]'(by rw [e2]; simp) = 94 := by simp [e2]
      exact h3
    rw [h2] at h1
    exact absurd h1 (by decide)
  · rfl
end Cl
set_option maxRecDepth 100000 in
set_option maxHeartbeats 2000000 in
theorem bare_any (W : World) (s : ByteArray) (hm : s.size ≤ 9223372036854775807) : Calls Tryz.prog 31 #[.string s] W fun e w' => ∃ t : ByteArray, e = .returned (.tuple #[.string t, .bool (Cl.bare s.toList).2]) ∧ t.toList = (Cl.bare s.toList).1 ∧ t.size ≤ 9223372036854775807 ∧ W = w' := by
  by_cases h0 : 0 < s.size
  · have h1 : (0 : Int) < (s.size : Int) := by omega
    have h2 : (1 : Int) ≤ (s.size : Int) := by omega
    have hy := Lib.hid (Cl.bare_yes s h0)
    have hn := Lib.hid (fun (h : ((s[0].toNat : Int) == 94) = false) => Cl.bare_no s (fun _ => h))
    go_enter Tryz.func31, Tryz.ntmps31
    go_wp2
    · have e := hy.out (by assumption)
      go_ret2
      rw [e]
      exact ⟨s.extract 1 s.size, rfl, rfl, by rw [ByteArray.size_extract]; omega, rfl⟩
    · have e := hn.out (by assumption)
      go_ret2
      rw [e]
      exact ⟨s, rfl, rfl, hm, rfl⟩
  · have h1 : ¬ (0 : Int) < (s.size : Int) := by omega
    have e := Lib.hid (Cl.bare_no s (fun h => absurd h h0))
    go_enter Tryz.func31, Tryz.ntmps31
    go_wp2
    go_ret2
    rw [e.out]
    exact ⟨s, rfl, rfl, hm, rfl⟩
end Go.Proofs.YtimgdooelbhjfaaGreatDoor
