/- The walk of burinlaw04.ClassLacks. -/
import Derived.Test.YtimgdooelbhjfaaGreatDoorLaw04LacksOut
import Derived.Test.YtimgdooelbhjfaaGreatDoorLaw04LacksNo
import Derived.Test.YtimgdooelbhjfaaGreatDoorLaw04LacksYes
namespace Go.Proofs.YtimgdooelbhjfaaGreatDoor
open Go.RowKit Go.Shelf
set_option linter.unusedVariables false
theorem hat_col : Cl.noHat Cl.colonT = true := by decide +kernel
theorem hat_prop : Cl.noHat Cl.propT = true := by decide +kernel
theorem first_of_head {s : ByteArray} (h : s.data.toList.head? = some 94) : ∃ h0 : 0 < s.size, (s[0].toNat : Int) = 94 := by
  have hl : s.data.toList.length = s.size := (Lib.size_eq s).symm
  cases hs : s.data.toList with
  | nil => rw [hs] at h; cases h
  | cons b t =>
    have h0 : 0 < s.size := by rw [← hl, hs]; simp
    refine ⟨h0, ?_⟩
    have h1 : s.data.toList[0]? = some s[0] := by simp [h0, ByteArray.getElem_eq_getElem_data]
    rw [hs] at h h1
    simp at h h1
    rw [← h1, h]; rfl
theorem head_of_first {s : ByteArray} (h : s.data.toList.head? ≠ some 94) : ∀ h0 : 0 < s.size, s[0].toNat ≠ 94 := fun h0 e => h (by
  have h1 : s.data.toList[0]? = some s[0] := by simp [h0, ByteArray.getElem_eq_getElem_data]
  rw [List.head?_eq_getElem?, h1]
  exact congrArg some (UInt8.toNat_inj.1 e))
theorem walkClassLacks (W : World) (c : Int) (name : ByteArray) (hn : name.size ≤ 140737488351232) (htab : Spaces W) :
    Calls Tryz.prog 4 #[.int .u8 c, .string name] W fun e w' => e = .returned (.bool true) ∧ Below W.heap.size W w' := by
  by_cases hh : name.data.toList.head? = some 94
  · obtain ⟨hpos, h94⟩ := first_of_head hh
    have HB1 : Cl.lookC Cl.colonT (94 :: name.data.toList) = none := by rw [Cl.lookC_hat, Cl.look_hat hat_col hh]; rfl
    have HB2 : Cl.lookC Cl.propT (94 :: name.data.toList) = none := by rw [Cl.lookC_hat, Cl.look_hat hat_prop hh]; rfl
    by_cases hcz : 97 ≤ c ∧ c ≤ 122
    · rcases Cl.letter_cap hcz.1 hcz.2 with ⟨HL1, HL2⟩ | ⟨T0, HL1, HL2⟩
      · exact lacksNo_hat W c name hn htab hcz.1 hcz.2 HL1 HL2 HB1 HB2 hpos h94
      · exact lacksYes_hat W c name hn htab hcz.1 hcz.2 T0 HL1 HL2 HB1 HB2 hpos h94
    · exact lacksOut_hat W c name hn htab hcz HB1 HB2 hpos h94
  · have h94 := head_of_first hh
    have HA1 := Cl.lookC_plain Cl.colonT hh
    have HA2 := Cl.lookC_plain Cl.propT hh
    have HB1 := Cl.lookC_hat Cl.colonT name.data.toList
    have HB2 := Cl.lookC_hat Cl.propT name.data.toList
    cases h1 : Cl.look Cl.colonT name.data.toList <;> cases h2 : Cl.look Cl.propT name.data.toList <;> rw [h1] at HA1 HB1 <;> rw [h2] at HA2 HB2 <;> simp only [Option.map_none, Option.map_some] at HA1 HA2 HB1 HB2
    · by_cases hcz : 97 ≤ c ∧ c ≤ 122
      · rcases Cl.letter_cap hcz.1 hcz.2 with ⟨HL1, HL2⟩ | ⟨T0, HL1, HL2⟩
        · exact lacksNo_NoneNone W c name hn htab hcz.1 hcz.2 HL1 HL2 HA1 HB1 HA2 HB2 h94
        · exact lacksYes_NoneNone W c name hn htab hcz.1 hcz.2 T0 HL1 HL2 HA1 HB1 HA2 HB2 h94
      · exact lacksOut_NoneNone W c name hn htab hcz HA1 HB1 HA2 HB2 h94
    · by_cases hcz : 97 ≤ c ∧ c ≤ 122
      · rcases Cl.letter_cap hcz.1 hcz.2 with ⟨HL1, HL2⟩ | ⟨T0, HL1, HL2⟩
        · exact lacksNo_NoneSome W c name hn htab hcz.1 hcz.2 HL1 HL2 HA1 HB1 _ HA2 HB2 h94
        · exact lacksYes_NoneSome W c name hn htab hcz.1 hcz.2 T0 HL1 HL2 HA1 HB1 _ HA2 HB2 h94
      · exact lacksOut_NoneSome W c name hn htab hcz HA1 HB1 _ HA2 HB2 h94
    · by_cases hcz : 97 ≤ c ∧ c ≤ 122
      · rcases Cl.letter_cap hcz.1 hcz.2 with ⟨HL1, HL2⟩ | ⟨T0, HL1, HL2⟩
        · exact lacksNo_SomeNone W c name hn htab hcz.1 hcz.2 HL1 HL2 _ HA1 HB1 HA2 HB2 h94
        · exact lacksYes_SomeNone W c name hn htab hcz.1 hcz.2 T0 HL1 HL2 _ HA1 HB1 HA2 HB2 h94
      · exact lacksOut_SomeNone W c name hn htab hcz _ HA1 HB1 HA2 HB2 h94
    · by_cases hcz : 97 ≤ c ∧ c ≤ 122
      · rcases Cl.letter_cap hcz.1 hcz.2 with ⟨HL1, HL2⟩ | ⟨T0, HL1, HL2⟩
        · exact lacksNo_SomeSome W c name hn htab hcz.1 hcz.2 HL1 HL2 _ HA1 HB1 _ HA2 HB2 h94
        · exact lacksYes_SomeSome W c name hn htab hcz.1 hcz.2 T0 HL1 HL2 _ HA1 HB1 _ HA2 HB2 h94
      · exact lacksOut_SomeSome W c name hn htab hcz _ HA1 HB1 _ HA2 HB2 h94
end Go.Proofs.YtimgdooelbhjfaaGreatDoor
