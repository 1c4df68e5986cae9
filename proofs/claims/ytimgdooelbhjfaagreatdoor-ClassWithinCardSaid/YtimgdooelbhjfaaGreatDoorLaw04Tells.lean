/- The walk of burinlaw04.ClassTells. -/
import Derived.Test.YtimgdooelbhjfaaGreatDoorCw
namespace Go.Proofs.YtimgdooelbhjfaaGreatDoor
open Go.RowKit Go.Shelf
set_option linter.unusedVariables false
theorem class_row {X : Option (Bool × List Int)} {out : List (Int × Int)} {code : Int} (hc : Cl.ClassIs X out code) {W : World} {base : Nat} {v : Value} (h : RgOwn W base v out) : RRow W v out := by
  cases X with
  | none => obtain ⟨rfl, _⟩ := hc; exact h.row (by simp) (fun p hp => by cases hp)
  | some p => exact h.normRow hc.2.1
set_option maxRecDepth 100000 in
set_option maxHeartbeats 8000000 in
theorem walkClassTells (W : World) (c : Int) (name prop : ByteArray) (hn : name.size ≤ 9223372036854775807) (hp : prop.size ≤ 9223372036854775807) (htab : Spaces W) :
    Calls Tryz.prog 3 #[.int .u8 c, .string name, .string prop] W fun e w' => e = .returned (.bool true) ∧ Below W.heap.size W w' := by
  have HS := Lib.hid htab
  have HNM := Lib.hid hn
  have HPM := Lib.hid hp
  clear htab hn hp
  go_enter Tryz.func3, Tryz.ntmps3
  go_wp2_with fail
  refine (cLetter_any _ _ HS.out).mono ?_
  rintro e w1 ⟨v1, o1, c1, rfl, hc1, ho, hb⟩
  have C1 := Lib.hid hc1
  have R1 := Lib.hid (class_row hc1 ho)
  have B1 := Lib.hid hb
  clear hc1 ho hb
  go_wp2_with fail
  refine (letter_any _ _).mono ?_
  rintro e w2 ⟨v2, o2, c2, rfl, hc2, ho, hb⟩
  obtain ⟨rfl, rfl⟩ := Cl.classIs_unique hc2 C1.out
  have R2 := Lib.hid (class_row hc2 ho)
  have R1' := Lib.hid (R1.out.below (Nat.le_refl _) hb)
  have B2 := Lib.hid (B1.out.trans (hb.mono B1.out.size))
  clear hc2 ho hb R1 B1 C1
  go_wp2_with fail
  refine (cColon_any _ _ (HS.out.below (Nat.le_refl _) B2.out)).mono ?_
  rintro e w3 ⟨v3, o3, c3, rfl, hc3, ho, hb⟩
  have C3 := Lib.hid hc3
  have R3 := Lib.hid (class_row hc3 ho)
  have R2' := Lib.hid (R2.out.below (Nat.le_refl _) hb)
  have R1 := Lib.hid (R1'.out.below (Nat.le_refl _) hb)
  have B3 := Lib.hid (B2.out.trans (hb.mono B2.out.size))
  clear hc3 ho hb R1' B2 R2
  go_wp2_with fail
  refine (refColon_any _ _ HNM.out).mono ?_
  rintro e w4 ⟨v4, o4, c4, rfl, hc4, ho, hb⟩
  rw [ByteArray.toList_eq] at hc4
  obtain ⟨rfl, rfl⟩ := Cl.classIs_unique hc4 C3.out
  have R4 := Lib.hid (class_row hc4 ho)
  have R3' := Lib.hid (R3.out.below (Nat.le_refl _) hb)
  have R2 := Lib.hid (R2'.out.below (Nat.le_refl _) hb)
  have R1' := Lib.hid (R1.out.below (Nat.le_refl _) hb)
  have B4 := Lib.hid (B3.out.trans (hb.mono B3.out.size))
  clear hc4 ho hb R1 R2' R3 B3 C3
  go_wp2_with fail
  refine (cProp_any _ _ (HS.out.below (Nat.le_refl _) B4.out)).mono ?_
  rintro e w5 ⟨v5, o5, c5, rfl, hc5, ho, hb⟩
  have C5 := Lib.hid hc5
  have R5 := Lib.hid (class_row hc5 ho)
  have R4' := Lib.hid (R4.out.below (Nat.le_refl _) hb)
  have R3 := Lib.hid (R3'.out.below (Nat.le_refl _) hb)
  have R2' := Lib.hid (R2.out.below (Nat.le_refl _) hb)
  have R1 := Lib.hid (R1'.out.below (Nat.le_refl _) hb)
  have B5 := Lib.hid (B4.out.trans (hb.mono B4.out.size))
  clear hc5 ho hb R1' R2 R3' R4 B4
  go_wp2_with fail
  refine (refProp_any _ _ HPM.out).mono ?_
  rintro e w6 ⟨v6, o6, c6, rfl, hc6, ho, hb⟩
  rw [ByteArray.toList_eq] at hc6
  obtain ⟨rfl, rfl⟩ := Cl.classIs_unique hc6 C5.out
  have R6 := Lib.hid (class_row hc6 ho)
  have R5' := Lib.hid (R5.out.below (Nat.le_refl _) hb)
  have R4 := Lib.hid (R4'.out.below (Nat.le_refl _) hb)
  have R3' := Lib.hid (R3.out.below (Nat.le_refl _) hb)
  have R2 := Lib.hid (R2'.out.below (Nat.le_refl _) hb)
  have R1' := Lib.hid (R1.out.below (Nat.le_refl _) hb)
  have B6 := Lib.hid (B5.out.trans (hb.mono B5.out.size))
  clear hc6 ho hb R1 R2' R3 R4' R5 B5 C5
  go_wp2_with fail
  refine (same_rg_b _ _ _ _ _ R1'.out R2.out true (by simp)).mono ?_
  rintro e w7 ⟨rfl, hb⟩
  have R3 := Lib.hid (R3'.out.below (Nat.le_refl _) hb)
  have R4' := Lib.hid (R4.out.below (Nat.le_refl _) hb)
  have R5 := Lib.hid (R5'.out.below (Nat.le_refl _) hb)
  have R6' := Lib.hid (R6.out.below (Nat.le_refl _) hb)
  have B7 := Lib.hid (B6.out.trans (hb.mono B6.out.size))
  clear hb R1' R2 R3' R4 R5' R6 B6
  go_wp2_with fail
  refine (same_rg_b _ _ _ _ _ R3.out R4'.out true (by simp)).mono ?_
  rintro e w8 ⟨rfl, hb⟩
  have R5' := Lib.hid (R5.out.below (Nat.le_refl _) hb)
  have R6 := Lib.hid (R6'.out.below (Nat.le_refl _) hb)
  have B8 := Lib.hid (B7.out.trans (hb.mono B7.out.size))
  clear hb R3 R4' R5 R6' B7
  go_wp2_with fail
  refine (same_rg_b _ _ _ _ _ R5'.out R6.out true (by simp)).mono ?_
  rintro e w9 ⟨rfl, hb⟩
  have B9 := Lib.hid (B8.out.trans (hb.mono B8.out.size))
  clear hb R5' R6 B8
  go_wp2_with fail
  refine (cNames_any _).mono ?_
  rintro e w10 ⟨v10, rfl, ht, hb⟩
  have T10 := Lib.hid ht
  have B10 := Lib.hid (B9.out.trans (hb.mono B9.out.size))
  clear hb ht B9
  go_wp2_with fail
  refine (refNames_any _).mono ?_
  rintro e w11 ⟨v11, rfl, ht, hb⟩
  have T11 := Lib.hid ht
  have T10' := Lib.hid (T10.out.below (Nat.le_refl _) hb)
  have B11 := Lib.hid (B10.out.trans (hb.mono B10.out.size))
  clear hb ht B10 T10
  go_wp2_with fail
  refine (same_txt_eq _ _ _ _ T10'.out T11.out (by decide)).mono ?_
  rintro e w12 ⟨rfl, hb⟩
  have B12 := Lib.hid (B11.out.trans (hb.mono B11.out.size))
  clear hb B11 T10' T11
  go_wp2_with fail
  refine (works_any _ (HS.out.below (Nat.le_refl _) B12.out)).mono ?_
  rintro e w13 ⟨rfl, hb⟩
  have B13 := Lib.hid (B12.out.trans (hb.mono B12.out.size))
  clear hb B12
  go_wp2
  go_ret
  exact ⟨rfl, B13.out⟩
end Go.Proofs.YtimgdooelbhjfaaGreatDoor
