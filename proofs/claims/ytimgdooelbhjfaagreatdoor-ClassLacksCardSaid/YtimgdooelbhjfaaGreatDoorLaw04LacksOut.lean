/- The walk of burinlaw04.ClassLacks, by cases. -/
import Derived.Test.YtimgdooelbhjfaaGreatDoorLaw04LacksM
namespace Go.Proofs.YtimgdooelbhjfaaGreatDoor
open Go.RowKit Go.Shelf
set_option linter.unusedVariables false
set_option maxRecDepth 100000 in
set_option maxHeartbeats 8000000 in
theorem lacksOut_hat (W : World) (c : Int) (name : ByteArray) (hn : name.size ≤ 140737488351232) (htab : Spaces W) (hcz : ¬ (97 ≤ c ∧ c ≤ 122)) (HB1 : Cl.lookC Cl.colonT (94 :: name.data.toList) = none) (HB2 : Cl.lookC Cl.propT (94 :: name.data.toList) = none) (hpos : 0 < name.size) (h94 : (name[0].toNat : Int) = 94) :
    Calls Tryz.prog 4 #[.int .u8 c, .string name] W fun e w' => e = .returned (.bool true) ∧ Below W.heap.size W w' := by
  by_cases h97 : 97 ≤ c
  · have h122 : ¬ c ≤ 122 := fun h => hcz ⟨h97, h⟩
    clear hcz
    have hposz : (0 : Int) < (name.size : Int) := by omega
    replace HB1 := Lib.hid HB1
    replace HB2 := Lib.hid HB2
    have HS := Lib.hid htab
    have hs2 : name.size ≤ 140737488351232 := hn
    clear htab hn
    go_enter Tryz.func4, Tryz.ntmps4
    go_wp2_with fail
    refine (works_any _ HS.out).mono ?_
    rintro e w1 ⟨rfl, hb⟩
    have E1 := Lib.hid hb
    clear hb
    go_wp2_with fail
    refine (cColon_any _ _ (HS.out.below (Nat.le_refl _) E1.out)).mono ?_
    rintro e a1 ⟨vl, ol, e1, rfl, hcl, hol, hb⟩
    have CL := Lib.hid hcl
    have RL := Lib.hid (class_row hcl hol)
    have D1 := Lib.hid (E1.out.trans (hb.mono E1.out.size))
    clear hcl hol hb
    go_wp2_with fail
    refine (cColon_any _ _ (HS.out.below (Nat.le_refl _) D1.out)).mono ?_
    rintro e a2 ⟨vm, om, f1, rfl, hcm, hom, hb⟩
    rw [hat_txt, HB1.out] at hcm
    have CM := Lib.hid hcm
    have OM := Lib.hid hom
    have RL' := Lib.hid (RL.out.below (Nat.le_refl _) hb)
    have D2 := Lib.hid (D1.out.trans (hb.mono D1.out.size))
    clear hcm hom hb RL D1
    go_wp2_with fail
    refine (cProp_any _ _ (HS.out.below (Nat.le_refl _) D2.out)).mono ?_
    rintro e a3 ⟨vp, op, g1, rfl, hcp, hop, hb⟩
    have CP := Lib.hid hcp
    have RP := Lib.hid (class_row hcp hop)
    have RL := Lib.hid (RL'.out.below (Nat.le_refl _) hb)
    have OM' := Lib.hid (OM.out.below hb)
    have D3 := Lib.hid (D2.out.trans (hb.mono D2.out.size))
    clear hcp hop hb RL' OM D2
    go_wp2_with fail
    refine (cProp_any _ _ (HS.out.below (Nat.le_refl _) D3.out)).mono ?_
    rintro e a4 ⟨vq, oq, h1, rfl, hcq, hoq, hb⟩
    rw [hat_txt, HB2.out] at hcq
    have CQ := Lib.hid hcq
    have OQ := Lib.hid hoq
    have RP' := Lib.hid (RP.out.below (Nat.le_refl _) hb)
    have RL' := Lib.hid (RL.out.below (Nat.le_refl _) hb)
    have OM := Lib.hid (OM'.out.below hb)
    have D4 := Lib.hid (D3.out.trans (hb.mono D3.out.size))
    clear hcq hoq hb RL RP OM' D3
    obtain ⟨rfl, rfl⟩ := CM.out
    obtain ⟨rfl, rfl⟩ := CQ.out
    obtain ⟨am, km, rfl⟩ := OM.out.empty
    obtain ⟨aq, kq, rfl⟩ := OQ.out.empty
    go_wp2
    go_ret
    exact ⟨rfl, D4.out⟩
  · clear hcz
    have hposz : (0 : Int) < (name.size : Int) := by omega
    replace HB1 := Lib.hid HB1
    replace HB2 := Lib.hid HB2
    have HS := Lib.hid htab
    have hs2 : name.size ≤ 140737488351232 := hn
    clear htab hn
    go_enter Tryz.func4, Tryz.ntmps4
    go_wp2_with fail
    refine (works_any _ HS.out).mono ?_
    rintro e w1 ⟨rfl, hb⟩
    have E1 := Lib.hid hb
    clear hb
    go_wp2_with fail
    refine (cColon_any _ _ (HS.out.below (Nat.le_refl _) E1.out)).mono ?_
    rintro e a1 ⟨vl, ol, e1, rfl, hcl, hol, hb⟩
    have CL := Lib.hid hcl
    have RL := Lib.hid (class_row hcl hol)
    have D1 := Lib.hid (E1.out.trans (hb.mono E1.out.size))
    clear hcl hol hb
    go_wp2_with fail
    refine (cColon_any _ _ (HS.out.below (Nat.le_refl _) D1.out)).mono ?_
    rintro e a2 ⟨vm, om, f1, rfl, hcm, hom, hb⟩
    rw [hat_txt, HB1.out] at hcm
    have CM := Lib.hid hcm
    have OM := Lib.hid hom
    have RL' := Lib.hid (RL.out.below (Nat.le_refl _) hb)
    have D2 := Lib.hid (D1.out.trans (hb.mono D1.out.size))
    clear hcm hom hb RL D1
    go_wp2_with fail
    refine (cProp_any _ _ (HS.out.below (Nat.le_refl _) D2.out)).mono ?_
    rintro e a3 ⟨vp, op, g1, rfl, hcp, hop, hb⟩
    have CP := Lib.hid hcp
    have RP := Lib.hid (class_row hcp hop)
    have RL := Lib.hid (RL'.out.below (Nat.le_refl _) hb)
    have OM' := Lib.hid (OM.out.below hb)
    have D3 := Lib.hid (D2.out.trans (hb.mono D2.out.size))
    clear hcp hop hb RL' OM D2
    go_wp2_with fail
    refine (cProp_any _ _ (HS.out.below (Nat.le_refl _) D3.out)).mono ?_
    rintro e a4 ⟨vq, oq, h1, rfl, hcq, hoq, hb⟩
    rw [hat_txt, HB2.out] at hcq
    have CQ := Lib.hid hcq
    have OQ := Lib.hid hoq
    have RP' := Lib.hid (RP.out.below (Nat.le_refl _) hb)
    have RL' := Lib.hid (RL.out.below (Nat.le_refl _) hb)
    have OM := Lib.hid (OM'.out.below hb)
    have D4 := Lib.hid (D3.out.trans (hb.mono D3.out.size))
    clear hcq hoq hb RL RP OM' D3
    obtain ⟨rfl, rfl⟩ := CM.out
    obtain ⟨rfl, rfl⟩ := CQ.out
    obtain ⟨am, km, rfl⟩ := OM.out.empty
    obtain ⟨aq, kq, rfl⟩ := OQ.out.empty
    go_wp2
    go_ret
    exact ⟨rfl, D4.out⟩
set_option maxRecDepth 100000 in
set_option maxHeartbeats 8000000 in
theorem lacksOut_NoneNone (W : World) (c : Int) (name : ByteArray) (hn : name.size ≤ 140737488351232) (htab : Spaces W) (hcz : ¬ (97 ≤ c ∧ c ≤ 122)) (HA1 : Cl.lookC Cl.colonT name.data.toList = none) (HB1 : Cl.lookC Cl.colonT (94 :: name.data.toList) = none) (HA2 : Cl.lookC Cl.propT name.data.toList = none) (HB2 : Cl.lookC Cl.propT (94 :: name.data.toList) = none) (h94 : ∀ h0 : 0 < name.size, name[0].toNat ≠ 94) :
    Calls Tryz.prog 4 #[.int .u8 c, .string name] W fun e w' => e = .returned (.bool true) ∧ Below W.heap.size W w' := by
  by_cases hpos : 0 < name.size
  · have hq := hpos
    by_cases h97 : 97 ≤ c
    · have h122 : ¬ c ≤ 122 := fun h => hcz ⟨h97, h⟩
      clear hcz
      have hposz : (0 : Int) < (name.size : Int) := by omega
      have h94' : ¬ ((name[0].toNat : Int) = 94) := by have := h94 hpos; omega
      clear h94
      replace HA1 := Lib.hid HA1
      replace HA2 := Lib.hid HA2
      replace HB1 := Lib.hid HB1
      replace HB2 := Lib.hid HB2
      have HS := Lib.hid htab
      have hs2 : name.size ≤ 140737488351232 := hn
      clear htab hn
      go_enter Tryz.func4, Tryz.ntmps4
      go_wp2_with fail
      refine (works_any _ HS.out).mono ?_
      rintro e w1 ⟨rfl, hb⟩
      have E1 := Lib.hid hb
      clear hb
      go_wp2_with fail
      refine (cColon_any _ _ (HS.out.below (Nat.le_refl _) E1.out)).mono ?_
      rintro e a1 ⟨vl, ol, e1, rfl, hcl, hol, hb⟩
      have CL := Lib.hid hcl
      have RL := Lib.hid (class_row hcl hol)
      have D1 := Lib.hid (E1.out.trans (hb.mono E1.out.size))
      clear hcl hol hb
      go_wp2_with fail
      refine (cColon_any _ _ (HS.out.below (Nat.le_refl _) D1.out)).mono ?_
      rintro e a2 ⟨vm, om, f1, rfl, hcm, hom, hb⟩
      rw [hat_txt, HB1.out] at hcm
      have CM := Lib.hid hcm
      have OM := Lib.hid hom
      have RL' := Lib.hid (RL.out.below (Nat.le_refl _) hb)
      have D2 := Lib.hid (D1.out.trans (hb.mono D1.out.size))
      clear hcm hom hb RL D1
      go_wp2_with fail
      refine (cProp_any _ _ (HS.out.below (Nat.le_refl _) D2.out)).mono ?_
      rintro e a3 ⟨vp, op, g1, rfl, hcp, hop, hb⟩
      have CP := Lib.hid hcp
      have RP := Lib.hid (class_row hcp hop)
      have RL := Lib.hid (RL'.out.below (Nat.le_refl _) hb)
      have OM' := Lib.hid (OM.out.below hb)
      have D3 := Lib.hid (D2.out.trans (hb.mono D2.out.size))
      clear hcp hop hb RL' OM D2
      go_wp2_with fail
      refine (cProp_any _ _ (HS.out.below (Nat.le_refl _) D3.out)).mono ?_
      rintro e a4 ⟨vq, oq, h1, rfl, hcq, hoq, hb⟩
      rw [hat_txt, HB2.out] at hcq
      have CQ := Lib.hid hcq
      have OQ := Lib.hid hoq
      have RP' := Lib.hid (RP.out.below (Nat.le_refl _) hb)
      have RL' := Lib.hid (RL.out.below (Nat.le_refl _) hb)
      have OM := Lib.hid (OM'.out.below hb)
      have D4 := Lib.hid (D3.out.trans (hb.mono D3.out.size))
      clear hcq hoq hb RL RP OM' D3
      rw [HA1.out] at CL
      rw [HA2.out] at CP
      obtain ⟨rfl, rfl⟩ := CL.out
      obtain ⟨rfl, rfl⟩ := CM.out
      obtain ⟨rfl, rfl⟩ := CP.out
      obtain ⟨rfl, rfl⟩ := CQ.out
      have RM := Lib.hid (class_row CM.out OM.out)
      have RQ := Lib.hid (class_row CQ.out OQ.out)
      go_wp2_with fail
      refine (check_class _ _ CL.out RL'.out).mono ?_
      rintro e a5 ⟨rfl, hb⟩
      have D5 := Lib.hid (D4.out.trans (hb.mono D4.out.size))
      have RL := Lib.hid (RL'.out.below (Nat.le_refl _) hb)
      have RP := Lib.hid (RP'.out.below (Nat.le_refl _) hb)
      have RM' := Lib.hid (RM.out.below (Nat.le_refl _) hb)
      have RQ' := Lib.hid (RQ.out.below (Nat.le_refl _) hb)
      clear hb RL' RP' RM RQ D4 OM OQ
      go_wp2_with fail
      refine (check_class _ _ CP.out RP.out).mono ?_
      rintro e a6 ⟨rfl, hb⟩
      have D6 := Lib.hid (D5.out.trans (hb.mono D5.out.size))
      have RL' := Lib.hid (RL.out.below (Nat.le_refl _) hb)
      have RP' := Lib.hid (RP.out.below (Nat.le_refl _) hb)
      have RM := Lib.hid (RM'.out.below (Nat.le_refl _) hb)
      have RQ := Lib.hid (RQ'.out.below (Nat.le_refl _) hb)
      clear hb RL RP RM' RQ' D5
      go_wp2
      go_ret
      exact ⟨rfl, D6.out⟩
    · clear hcz
      have hposz : (0 : Int) < (name.size : Int) := by omega
      have h94' : ¬ ((name[0].toNat : Int) = 94) := by have := h94 hpos; omega
      clear h94
      replace HA1 := Lib.hid HA1
      replace HA2 := Lib.hid HA2
      replace HB1 := Lib.hid HB1
      replace HB2 := Lib.hid HB2
      have HS := Lib.hid htab
      have hs2 : name.size ≤ 140737488351232 := hn
      clear htab hn
      go_enter Tryz.func4, Tryz.ntmps4
      go_wp2_with fail
      refine (works_any _ HS.out).mono ?_
      rintro e w1 ⟨rfl, hb⟩
      have E1 := Lib.hid hb
      clear hb
      go_wp2_with fail
      refine (cColon_any _ _ (HS.out.below (Nat.le_refl _) E1.out)).mono ?_
      rintro e a1 ⟨vl, ol, e1, rfl, hcl, hol, hb⟩
      have CL := Lib.hid hcl
      have RL := Lib.hid (class_row hcl hol)
      have D1 := Lib.hid (E1.out.trans (hb.mono E1.out.size))
      clear hcl hol hb
      go_wp2_with fail
      refine (cColon_any _ _ (HS.out.below (Nat.le_refl _) D1.out)).mono ?_
      rintro e a2 ⟨vm, om, f1, rfl, hcm, hom, hb⟩
      rw [hat_txt, HB1.out] at hcm
      have CM := Lib.hid hcm
      have OM := Lib.hid hom
      have RL' := Lib.hid (RL.out.below (Nat.le_refl _) hb)
      have D2 := Lib.hid (D1.out.trans (hb.mono D1.out.size))
      clear hcm hom hb RL D1
      go_wp2_with fail
      refine (cProp_any _ _ (HS.out.below (Nat.le_refl _) D2.out)).mono ?_
      rintro e a3 ⟨vp, op, g1, rfl, hcp, hop, hb⟩
      have CP := Lib.hid hcp
      have RP := Lib.hid (class_row hcp hop)
      have RL := Lib.hid (RL'.out.below (Nat.le_refl _) hb)
      have OM' := Lib.hid (OM.out.below hb)
      have D3 := Lib.hid (D2.out.trans (hb.mono D2.out.size))
      clear hcp hop hb RL' OM D2
      go_wp2_with fail
      refine (cProp_any _ _ (HS.out.below (Nat.le_refl _) D3.out)).mono ?_
      rintro e a4 ⟨vq, oq, h1, rfl, hcq, hoq, hb⟩
      rw [hat_txt, HB2.out] at hcq
      have CQ := Lib.hid hcq
      have OQ := Lib.hid hoq
      have RP' := Lib.hid (RP.out.below (Nat.le_refl _) hb)
      have RL' := Lib.hid (RL.out.below (Nat.le_refl _) hb)
      have OM := Lib.hid (OM'.out.below hb)
      have D4 := Lib.hid (D3.out.trans (hb.mono D3.out.size))
      clear hcq hoq hb RL RP OM' D3
      rw [HA1.out] at CL
      rw [HA2.out] at CP
      obtain ⟨rfl, rfl⟩ := CL.out
      obtain ⟨rfl, rfl⟩ := CM.out
      obtain ⟨rfl, rfl⟩ := CP.out
      obtain ⟨rfl, rfl⟩ := CQ.out
      have RM := Lib.hid (class_row CM.out OM.out)
      have RQ := Lib.hid (class_row CQ.out OQ.out)
      go_wp2_with fail
      refine (check_class _ _ CL.out RL'.out).mono ?_
      rintro e a5 ⟨rfl, hb⟩
      have D5 := Lib.hid (D4.out.trans (hb.mono D4.out.size))
      have RL := Lib.hid (RL'.out.below (Nat.le_refl _) hb)
      have RP := Lib.hid (RP'.out.below (Nat.le_refl _) hb)
      have RM' := Lib.hid (RM.out.below (Nat.le_refl _) hb)
      have RQ' := Lib.hid (RQ.out.below (Nat.le_refl _) hb)
      clear hb RL' RP' RM RQ D4 OM OQ
      go_wp2_with fail
      refine (check_class _ _ CP.out RP.out).mono ?_
      rintro e a6 ⟨rfl, hb⟩
      have D6 := Lib.hid (D5.out.trans (hb.mono D5.out.size))
      have RL' := Lib.hid (RL.out.below (Nat.le_refl _) hb)
      have RP' := Lib.hid (RP.out.below (Nat.le_refl _) hb)
      have RM := Lib.hid (RM'.out.below (Nat.le_refl _) hb)
      have RQ := Lib.hid (RQ'.out.below (Nat.le_refl _) hb)
      clear hb RL RP RM' RQ' D5
      go_wp2
      go_ret
      exact ⟨rfl, D6.out⟩
  · have hq := hpos
    by_cases h97 : 97 ≤ c
    · have h122 : ¬ c ≤ 122 := fun h => hcz ⟨h97, h⟩
      clear hcz
      have hposz : ¬ (0 : Int) < (name.size : Int) := by omega
      clear h94
      replace HA1 := Lib.hid HA1
      replace HA2 := Lib.hid HA2
      replace HB1 := Lib.hid HB1
      replace HB2 := Lib.hid HB2
      have HS := Lib.hid htab
      have hs2 : name.size ≤ 140737488351232 := hn
      clear htab hn
      go_enter Tryz.func4, Tryz.ntmps4
      go_wp2_with fail
      refine (works_any _ HS.out).mono ?_
      rintro e w1 ⟨rfl, hb⟩
      have E1 := Lib.hid hb
      clear hb
      go_wp2_with fail
      refine (cColon_any _ _ (HS.out.below (Nat.le_refl _) E1.out)).mono ?_
      rintro e a1 ⟨vl, ol, e1, rfl, hcl, hol, hb⟩
      have CL := Lib.hid hcl
      have RL := Lib.hid (class_row hcl hol)
      have D1 := Lib.hid (E1.out.trans (hb.mono E1.out.size))
      clear hcl hol hb
      go_wp2_with fail
      refine (cColon_any _ _ (HS.out.below (Nat.le_refl _) D1.out)).mono ?_
      rintro e a2 ⟨vm, om, f1, rfl, hcm, hom, hb⟩
      rw [hat_txt, HB1.out] at hcm
      have CM := Lib.hid hcm
      have OM := Lib.hid hom
      have RL' := Lib.hid (RL.out.below (Nat.le_refl _) hb)
      have D2 := Lib.hid (D1.out.trans (hb.mono D1.out.size))
      clear hcm hom hb RL D1
      go_wp2_with fail
      refine (cProp_any _ _ (HS.out.below (Nat.le_refl _) D2.out)).mono ?_
      rintro e a3 ⟨vp, op, g1, rfl, hcp, hop, hb⟩
      have CP := Lib.hid hcp
      have RP := Lib.hid (class_row hcp hop)
      have RL := Lib.hid (RL'.out.below (Nat.le_refl _) hb)
      have OM' := Lib.hid (OM.out.below hb)
      have D3 := Lib.hid (D2.out.trans (hb.mono D2.out.size))
      clear hcp hop hb RL' OM D2
      go_wp2_with fail
      refine (cProp_any _ _ (HS.out.below (Nat.le_refl _) D3.out)).mono ?_
      rintro e a4 ⟨vq, oq, h1, rfl, hcq, hoq, hb⟩
      rw [hat_txt, HB2.out] at hcq
      have CQ := Lib.hid hcq
      have OQ := Lib.hid hoq
      have RP' := Lib.hid (RP.out.below (Nat.le_refl _) hb)
      have RL' := Lib.hid (RL.out.below (Nat.le_refl _) hb)
      have OM := Lib.hid (OM'.out.below hb)
      have D4 := Lib.hid (D3.out.trans (hb.mono D3.out.size))
      clear hcq hoq hb RL RP OM' D3
      rw [HA1.out] at CL
      rw [HA2.out] at CP
      obtain ⟨rfl, rfl⟩ := CL.out
      obtain ⟨rfl, rfl⟩ := CM.out
      obtain ⟨rfl, rfl⟩ := CP.out
      obtain ⟨rfl, rfl⟩ := CQ.out
      have RM := Lib.hid (class_row CM.out OM.out)
      have RQ := Lib.hid (class_row CQ.out OQ.out)
      go_wp2_with fail
      refine (check_class _ _ CL.out RL'.out).mono ?_
      rintro e a5 ⟨rfl, hb⟩
      have D5 := Lib.hid (D4.out.trans (hb.mono D4.out.size))
      have RL := Lib.hid (RL'.out.below (Nat.le_refl _) hb)
      have RP := Lib.hid (RP'.out.below (Nat.le_refl _) hb)
      have RM' := Lib.hid (RM.out.below (Nat.le_refl _) hb)
      have RQ' := Lib.hid (RQ.out.below (Nat.le_refl _) hb)
      clear hb RL' RP' RM RQ D4 OM OQ
      go_wp2_with fail
      refine (check_class _ _ CP.out RP.out).mono ?_
      rintro e a6 ⟨rfl, hb⟩
      have D6 := Lib.hid (D5.out.trans (hb.mono D5.out.size))
      have RL' := Lib.hid (RL.out.below (Nat.le_refl _) hb)
      have RP' := Lib.hid (RP.out.below (Nat.le_refl _) hb)
      have RM := Lib.hid (RM'.out.below (Nat.le_refl _) hb)
      have RQ := Lib.hid (RQ'.out.below (Nat.le_refl _) hb)
      clear hb RL RP RM' RQ' D5
      go_wp2
      go_ret
      exact ⟨rfl, D6.out⟩
    · clear hcz
      have hposz : ¬ (0 : Int) < (name.size : Int) := by omega
      clear h94
      replace HA1 := Lib.hid HA1
      replace HA2 := Lib.hid HA2
      replace HB1 := Lib.hid HB1
      replace HB2 := Lib.hid HB2
      have HS := Lib.hid htab
      have hs2 : name.size ≤ 140737488351232 := hn
      clear htab hn
      go_enter Tryz.func4, Tryz.ntmps4
      go_wp2_with fail
      refine (works_any _ HS.out).mono ?_
      rintro e w1 ⟨rfl, hb⟩
      have E1 := Lib.hid hb
      clear hb
      go_wp2_with fail
      refine (cColon_any _ _ (HS.out.below (Nat.le_refl _) E1.out)).mono ?_
      rintro e a1 ⟨vl, ol, e1, rfl, hcl, hol, hb⟩
      have CL := Lib.hid hcl
      have RL := Lib.hid (class_row hcl hol)
      have D1 := Lib.hid (E1.out.trans (hb.mono E1.out.size))
      clear hcl hol hb
      go_wp2_with fail
      refine (cColon_any _ _ (HS.out.below (Nat.le_refl _) D1.out)).mono ?_
      rintro e a2 ⟨vm, om, f1, rfl, hcm, hom, hb⟩
      rw [hat_txt, HB1.out] at hcm
      have CM := Lib.hid hcm
      have OM := Lib.hid hom
      have RL' := Lib.hid (RL.out.below (Nat.le_refl _) hb)
      have D2 := Lib.hid (D1.out.trans (hb.mono D1.out.size))
      clear hcm hom hb RL D1
      go_wp2_with fail
      refine (cProp_any _ _ (HS.out.below (Nat.le_refl _) D2.out)).mono ?_
      rintro e a3 ⟨vp, op, g1, rfl, hcp, hop, hb⟩
      have CP := Lib.hid hcp
      have RP := Lib.hid (class_row hcp hop)
      have RL := Lib.hid (RL'.out.below (Nat.le_refl _) hb)
      have OM' := Lib.hid (OM.out.below hb)
      have D3 := Lib.hid (D2.out.trans (hb.mono D2.out.size))
      clear hcp hop hb RL' OM D2
      go_wp2_with fail
      refine (cProp_any _ _ (HS.out.below (Nat.le_refl _) D3.out)).mono ?_
      rintro e a4 ⟨vq, oq, h1, rfl, hcq, hoq, hb⟩
      rw [hat_txt, HB2.out] at hcq
      have CQ := Lib.hid hcq
      have OQ := Lib.hid hoq
      have RP' := Lib.hid (RP.out.below (Nat.le_refl _) hb)
      have RL' := Lib.hid (RL.out.below (Nat.le_refl _) hb)
      have OM := Lib.hid (OM'.out.below hb)
      have D4 := Lib.hid (D3.out.trans (hb.mono D3.out.size))
      clear hcq hoq hb RL RP OM' D3
      rw [HA1.out] at CL
      rw [HA2.out] at CP
      obtain ⟨rfl, rfl⟩ := CL.out
      obtain ⟨rfl, rfl⟩ := CM.out
      obtain ⟨rfl, rfl⟩ := CP.out
      obtain ⟨rfl, rfl⟩ := CQ.out
      have RM := Lib.hid (class_row CM.out OM.out)
      have RQ := Lib.hid (class_row CQ.out OQ.out)
      go_wp2_with fail
      refine (check_class _ _ CL.out RL'.out).mono ?_
      rintro e a5 ⟨rfl, hb⟩
      have D5 := Lib.hid (D4.out.trans (hb.mono D4.out.size))
      have RL := Lib.hid (RL'.out.below (Nat.le_refl _) hb)
      have RP := Lib.hid (RP'.out.below (Nat.le_refl _) hb)
      have RM' := Lib.hid (RM.out.below (Nat.le_refl _) hb)
      have RQ' := Lib.hid (RQ.out.below (Nat.le_refl _) hb)
      clear hb RL' RP' RM RQ D4 OM OQ
      go_wp2_with fail
      refine (check_class _ _ CP.out RP.out).mono ?_
      rintro e a6 ⟨rfl, hb⟩
      have D6 := Lib.hid (D5.out.trans (hb.mono D5.out.size))
      have RL' := Lib.hid (RL.out.below (Nat.le_refl _) hb)
      have RP' := Lib.hid (RP.out.below (Nat.le_refl _) hb)
      have RM := Lib.hid (RM'.out.below (Nat.le_refl _) hb)
      have RQ := Lib.hid (RQ'.out.below (Nat.le_refl _) hb)
      clear hb RL RP RM' RQ' D5
      go_wp2
      go_ret
      exact ⟨rfl, D6.out⟩
set_option maxRecDepth 100000 in
set_option maxHeartbeats 8000000 in
theorem lacksOut_NoneSome (W : World) (c : Int) (name : ByteArray) (hn : name.size ≤ 140737488351232) (htab : Spaces W) (hcz : ¬ (97 ≤ c ∧ c ≤ 122)) (HA1 : Cl.lookC Cl.colonT name.data.toList = none) (HB1 : Cl.lookC Cl.colonT (94 :: name.data.toList) = none) (T2 : List Int) (HA2 : Cl.lookC Cl.propT name.data.toList = some (false, T2)) (HB2 : Cl.lookC Cl.propT (94 :: name.data.toList) = some (true, T2)) (h94 : ∀ h0 : 0 < name.size, name[0].toNat ≠ 94) :
    Calls Tryz.prog 4 #[.int .u8 c, .string name] W fun e w' => e = .returned (.bool true) ∧ Below W.heap.size W w' := by
  by_cases hpos : 0 < name.size
  · have hq := hpos
    by_cases h97 : 97 ≤ c
    · have h122 : ¬ c ≤ 122 := fun h => hcz ⟨h97, h⟩
      clear hcz
      have hposz : (0 : Int) < (name.size : Int) := by omega
      have h94' : ¬ ((name[0].toNat : Int) = 94) := by have := h94 hpos; omega
      clear h94
      replace HA1 := Lib.hid HA1
      replace HA2 := Lib.hid HA2
      replace HB1 := Lib.hid HB1
      replace HB2 := Lib.hid HB2
      have HS := Lib.hid htab
      have hs2 : name.size ≤ 140737488351232 := hn
      clear htab hn
      go_enter Tryz.func4, Tryz.ntmps4
      go_wp2_with fail
      refine (works_any _ HS.out).mono ?_
      rintro e w1 ⟨rfl, hb⟩
      have E1 := Lib.hid hb
      clear hb
      go_wp2_with fail
      refine (cColon_any _ _ (HS.out.below (Nat.le_refl _) E1.out)).mono ?_
      rintro e a1 ⟨vl, ol, e1, rfl, hcl, hol, hb⟩
      have CL := Lib.hid hcl
      have RL := Lib.hid (class_row hcl hol)
      have D1 := Lib.hid (E1.out.trans (hb.mono E1.out.size))
      clear hcl hol hb
      go_wp2_with fail
      refine (cColon_any _ _ (HS.out.below (Nat.le_refl _) D1.out)).mono ?_
      rintro e a2 ⟨vm, om, f1, rfl, hcm, hom, hb⟩
      rw [hat_txt, HB1.out] at hcm
      have CM := Lib.hid hcm
      have OM := Lib.hid hom
      have RL' := Lib.hid (RL.out.below (Nat.le_refl _) hb)
      have D2 := Lib.hid (D1.out.trans (hb.mono D1.out.size))
      clear hcm hom hb RL D1
      go_wp2_with fail
      refine (cProp_any _ _ (HS.out.below (Nat.le_refl _) D2.out)).mono ?_
      rintro e a3 ⟨vp, op, g1, rfl, hcp, hop, hb⟩
      have CP := Lib.hid hcp
      have RP := Lib.hid (class_row hcp hop)
      have RL := Lib.hid (RL'.out.below (Nat.le_refl _) hb)
      have OM' := Lib.hid (OM.out.below hb)
      have D3 := Lib.hid (D2.out.trans (hb.mono D2.out.size))
      clear hcp hop hb RL' OM D2
      go_wp2_with fail
      refine (cProp_any _ _ (HS.out.below (Nat.le_refl _) D3.out)).mono ?_
      rintro e a4 ⟨vq, oq, h1, rfl, hcq, hoq, hb⟩
      rw [hat_txt, HB2.out] at hcq
      have CQ := Lib.hid hcq
      have OQ := Lib.hid hoq
      have RP' := Lib.hid (RP.out.below (Nat.le_refl _) hb)
      have RL' := Lib.hid (RL.out.below (Nat.le_refl _) hb)
      have OM := Lib.hid (OM'.out.below hb)
      have D4 := Lib.hid (D3.out.trans (hb.mono D3.out.size))
      clear hcq hoq hb RL RP OM' D3
      rw [HA1.out] at CL
      rw [HA2.out] at CP
      obtain ⟨rfl, rfl⟩ := CL.out
      obtain ⟨rfl, rfl⟩ := CM.out
      obtain rfl := CP.out.1
      obtain rfl := CQ.out.1
      have RM := Lib.hid (class_row CM.out OM.out)
      have RQ := Lib.hid (class_row CQ.out OQ.out)
      go_wp2_with fail
      refine (check_class _ _ CL.out RL'.out).mono ?_
      rintro e a5 ⟨rfl, hb⟩
      have D5 := Lib.hid (D4.out.trans (hb.mono D4.out.size))
      have RL := Lib.hid (RL'.out.below (Nat.le_refl _) hb)
      have RP := Lib.hid (RP'.out.below (Nat.le_refl _) hb)
      have RM' := Lib.hid (RM.out.below (Nat.le_refl _) hb)
      have RQ' := Lib.hid (RQ.out.below (Nat.le_refl _) hb)
      clear hb RL' RP' RM RQ D4 OM OQ
      go_wp2_with fail
      refine (check_class _ _ CP.out RP.out).mono ?_
      rintro e a6 ⟨rfl, hb⟩
      have D6 := Lib.hid (D5.out.trans (hb.mono D5.out.size))
      have RL' := Lib.hid (RL.out.below (Nat.le_refl _) hb)
      have RP' := Lib.hid (RP.out.below (Nat.le_refl _) hb)
      have RM := Lib.hid (RM'.out.below (Nat.le_refl _) hb)
      have RQ := Lib.hid (RQ'.out.below (Nat.le_refl _) hb)
      clear hb RL RP RM' RQ' D5
      go_wp2_with fail
      refine (not_any _ _ _ RP'.out).mono ?_
      rintro e a9 ⟨vn2, on2, rfl, hm, ho, hb⟩
      obtain rfl := not_class CP.out CQ.out hm
      have RN := Lib.hid (ho.normRow hm.norm)
      have D9 := Lib.hid (D6.out.trans (hb.mono D6.out.size))
      have RQ' := Lib.hid (RQ.out.below (Nat.le_refl _) hb)
      clear hm ho hb RP' RQ D6
      go_wp2_with fail
      refine (same_rg_b _ _ _ _ _ RN.out RQ'.out true (by simp)).mono ?_
      rintro e b1 ⟨rfl, hb⟩
      have D10 := Lib.hid (D9.out.trans (hb.mono D9.out.size))
      clear hb RN RQ' D9
      go_wp2
      go_ret
      exact ⟨rfl, D10.out⟩
    · clear hcz
      have hposz : (0 : Int) < (name.size : Int) := by omega
      have h94' : ¬ ((name[0].toNat : Int) = 94) := by have := h94 hpos; omega
      clear h94
      replace HA1 := Lib.hid HA1
      replace HA2 := Lib.hid HA2
      replace HB1 := Lib.hid HB1
      replace HB2 := Lib.hid HB2
      have HS := Lib.hid htab
      have hs2 : name.size ≤ 140737488351232 := hn
      clear htab hn
      go_enter Tryz.func4, Tryz.ntmps4
      go_wp2_with fail
      refine (works_any _ HS.out).mono ?_
      rintro e w1 ⟨rfl, hb⟩
      have E1 := Lib.hid hb
      clear hb
      go_wp2_with fail
      refine (cColon_any _ _ (HS.out.below (Nat.le_refl _) E1.out)).mono ?_
      rintro e a1 ⟨vl, ol, e1, rfl, hcl, hol, hb⟩
      have CL := Lib.hid hcl
      have RL := Lib.hid (class_row hcl hol)
      have D1 := Lib.hid (E1.out.trans (hb.mono E1.out.size))
      clear hcl hol hb
      go_wp2_with fail
      refine (cColon_any _ _ (HS.out.below (Nat.le_refl _) D1.out)).mono ?_
      rintro e a2 ⟨vm, om, f1, rfl, hcm, hom, hb⟩
      rw [hat_txt, HB1.out] at hcm
      have CM := Lib.hid hcm
      have OM := Lib.hid hom
      have RL' := Lib.hid (RL.out.below (Nat.le_refl _) hb)
      have D2 := Lib.hid (D1.out.trans (hb.mono D1.out.size))
      clear hcm hom hb RL D1
      go_wp2_with fail
      refine (cProp_any _ _ (HS.out.below (Nat.le_refl _) D2.out)).mono ?_
      rintro e a3 ⟨vp, op, g1, rfl, hcp, hop, hb⟩
      have CP := Lib.hid hcp
      have RP := Lib.hid (class_row hcp hop)
      have RL := Lib.hid (RL'.out.below (Nat.le_refl _) hb)
      have OM' := Lib.hid (OM.out.below hb)
      have D3 := Lib.hid (D2.out.trans (hb.mono D2.out.size))
      clear hcp hop hb RL' OM D2
      go_wp2_with fail
      refine (cProp_any _ _ (HS.out.below (Nat.le_refl _) D3.out)).mono ?_
      rintro e a4 ⟨vq, oq, h1, rfl, hcq, hoq, hb⟩
      rw [hat_txt, HB2.out] at hcq
      have CQ := Lib.hid hcq
      have OQ := Lib.hid hoq
      have RP' := Lib.hid (RP.out.below (Nat.le_refl _) hb)
      have RL' := Lib.hid (RL.out.below (Nat.le_refl _) hb)
      have OM := Lib.hid (OM'.out.below hb)
      have D4 := Lib.hid (D3.out.trans (hb.mono D3.out.size))
      clear hcq hoq hb RL RP OM' D3
      rw [HA1.out] at CL
      rw [HA2.out] at CP
      obtain ⟨rfl, rfl⟩ := CL.out
      obtain ⟨rfl, rfl⟩ := CM.out
      obtain rfl := CP.out.1
      obtain rfl := CQ.out.1
      have RM := Lib.hid (class_row CM.out OM.out)
      have RQ := Lib.hid (class_row CQ.out OQ.out)
      go_wp2_with fail
      refine (check_class _ _ CL.out RL'.out).mono ?_
      rintro e a5 ⟨rfl, hb⟩
      have D5 := Lib.hid (D4.out.trans (hb.mono D4.out.size))
      have RL := Lib.hid (RL'.out.below (Nat.le_refl _) hb)
      have RP := Lib.hid (RP'.out.below (Nat.le_refl _) hb)
      have RM' := Lib.hid (RM.out.below (Nat.le_refl _) hb)
      have RQ' := Lib.hid (RQ.out.below (Nat.le_refl _) hb)
      clear hb RL' RP' RM RQ D4 OM OQ
      go_wp2_with fail
      refine (check_class _ _ CP.out RP.out).mono ?_
      rintro e a6 ⟨rfl, hb⟩
      have D6 := Lib.hid (D5.out.trans (hb.mono D5.out.size))
      have RL' := Lib.hid (RL.out.below (Nat.le_refl _) hb)
      have RP' := Lib.hid (RP.out.below (Nat.le_refl _) hb)
      have RM := Lib.hid (RM'.out.below (Nat.le_refl _) hb)
      have RQ := Lib.hid (RQ'.out.below (Nat.le_refl _) hb)
      clear hb RL RP RM' RQ' D5
      go_wp2_with fail
      refine (not_any _ _ _ RP'.out).mono ?_
      rintro e a9 ⟨vn2, on2, rfl, hm, ho, hb⟩
      obtain rfl := not_class CP.out CQ.out hm
      have RN := Lib.hid (ho.normRow hm.norm)
      have D9 := Lib.hid (D6.out.trans (hb.mono D6.out.size))
      have RQ' := Lib.hid (RQ.out.below (Nat.le_refl _) hb)
      clear hm ho hb RP' RQ D6
      go_wp2_with fail
      refine (same_rg_b _ _ _ _ _ RN.out RQ'.out true (by simp)).mono ?_
      rintro e b1 ⟨rfl, hb⟩
      have D10 := Lib.hid (D9.out.trans (hb.mono D9.out.size))
      clear hb RN RQ' D9
      go_wp2
      go_ret
      exact ⟨rfl, D10.out⟩
  · have hq := hpos
    by_cases h97 : 97 ≤ c
    · have h122 : ¬ c ≤ 122 := fun h => hcz ⟨h97, h⟩
      clear hcz
      have hposz : ¬ (0 : Int) < (name.size : Int) := by omega
      clear h94
      replace HA1 := Lib.hid HA1
      replace HA2 := Lib.hid HA2
      replace HB1 := Lib.hid HB1
      replace HB2 := Lib.hid HB2
      have HS := Lib.hid htab
      have hs2 : name.size ≤ 140737488351232 := hn
      clear htab hn
      go_enter Tryz.func4, Tryz.ntmps4
      go_wp2_with fail
      refine (works_any _ HS.out).mono ?_
      rintro e w1 ⟨rfl, hb⟩
      have E1 := Lib.hid hb
      clear hb
      go_wp2_with fail
      refine (cColon_any _ _ (HS.out.below (Nat.le_refl _) E1.out)).mono ?_
      rintro e a1 ⟨vl, ol, e1, rfl, hcl, hol, hb⟩
      have CL := Lib.hid hcl
      have RL := Lib.hid (class_row hcl hol)
      have D1 := Lib.hid (E1.out.trans (hb.mono E1.out.size))
      clear hcl hol hb
      go_wp2_with fail
      refine (cColon_any _ _ (HS.out.below (Nat.le_refl _) D1.out)).mono ?_
      rintro e a2 ⟨vm, om, f1, rfl, hcm, hom, hb⟩
      rw [hat_txt, HB1.out] at hcm
      have CM := Lib.hid hcm
      have OM := Lib.hid hom
      have RL' := Lib.hid (RL.out.below (Nat.le_refl _) hb)
      have D2 := Lib.hid (D1.out.trans (hb.mono D1.out.size))
      clear hcm hom hb RL D1
      go_wp2_with fail
      refine (cProp_any _ _ (HS.out.below (Nat.le_refl _) D2.out)).mono ?_
      rintro e a3 ⟨vp, op, g1, rfl, hcp, hop, hb⟩
      have CP := Lib.hid hcp
      have RP := Lib.hid (class_row hcp hop)
      have RL := Lib.hid (RL'.out.below (Nat.le_refl _) hb)
      have OM' := Lib.hid (OM.out.below hb)
      have D3 := Lib.hid (D2.out.trans (hb.mono D2.out.size))
      clear hcp hop hb RL' OM D2
      go_wp2_with fail
      refine (cProp_any _ _ (HS.out.below (Nat.le_refl _) D3.out)).mono ?_
      rintro e a4 ⟨vq, oq, h1, rfl, hcq, hoq, hb⟩
      rw [hat_txt, HB2.out] at hcq
      have CQ := Lib.hid hcq
      have OQ := Lib.hid hoq
      have RP' := Lib.hid (RP.out.below (Nat.le_refl _) hb)
      have RL' := Lib.hid (RL.out.below (Nat.le_refl _) hb)
      have OM := Lib.hid (OM'.out.below hb)
      have D4 := Lib.hid (D3.out.trans (hb.mono D3.out.size))
      clear hcq hoq hb RL RP OM' D3
      rw [HA1.out] at CL
      rw [HA2.out] at CP
      obtain ⟨rfl, rfl⟩ := CL.out
      obtain ⟨rfl, rfl⟩ := CM.out
      obtain rfl := CP.out.1
      obtain rfl := CQ.out.1
      have RM := Lib.hid (class_row CM.out OM.out)
      have RQ := Lib.hid (class_row CQ.out OQ.out)
      go_wp2_with fail
      refine (check_class _ _ CL.out RL'.out).mono ?_
      rintro e a5 ⟨rfl, hb⟩
      have D5 := Lib.hid (D4.out.trans (hb.mono D4.out.size))
      have RL := Lib.hid (RL'.out.below (Nat.le_refl _) hb)
      have RP := Lib.hid (RP'.out.below (Nat.le_refl _) hb)
      have RM' := Lib.hid (RM.out.below (Nat.le_refl _) hb)
      have RQ' := Lib.hid (RQ.out.below (Nat.le_refl _) hb)
      clear hb RL' RP' RM RQ D4 OM OQ
      go_wp2_with fail
      refine (check_class _ _ CP.out RP.out).mono ?_
      rintro e a6 ⟨rfl, hb⟩
      have D6 := Lib.hid (D5.out.trans (hb.mono D5.out.size))
      have RL' := Lib.hid (RL.out.below (Nat.le_refl _) hb)
      have RP' := Lib.hid (RP.out.below (Nat.le_refl _) hb)
      have RM := Lib.hid (RM'.out.below (Nat.le_refl _) hb)
      have RQ := Lib.hid (RQ'.out.below (Nat.le_refl _) hb)
      clear hb RL RP RM' RQ' D5
      go_wp2_with fail
      refine (not_any _ _ _ RP'.out).mono ?_
      rintro e a9 ⟨vn2, on2, rfl, hm, ho, hb⟩
      obtain rfl := not_class CP.out CQ.out hm
      have RN := Lib.hid (ho.normRow hm.norm)
      have D9 := Lib.hid (D6.out.trans (hb.mono D6.out.size))
      have RQ' := Lib.hid (RQ.out.below (Nat.le_refl _) hb)
      clear hm ho hb RP' RQ D6
      go_wp2_with fail
      refine (same_rg_b _ _ _ _ _ RN.out RQ'.out true (by simp)).mono ?_
      rintro e b1 ⟨rfl, hb⟩
      have D10 := Lib.hid (D9.out.trans (hb.mono D9.out.size))
      clear hb RN RQ' D9
      go_wp2
      go_ret
      exact ⟨rfl, D10.out⟩
    · clear hcz
      have hposz : ¬ (0 : Int) < (name.size : Int) := by omega
      clear h94
      replace HA1 := Lib.hid HA1
      replace HA2 := Lib.hid HA2
      replace HB1 := Lib.hid HB1
      replace HB2 := Lib.hid HB2
      have HS := Lib.hid htab
      have hs2 : name.size ≤ 140737488351232 := hn
      clear htab hn
      go_enter Tryz.func4, Tryz.ntmps4
      go_wp2_with fail
      refine (works_any _ HS.out).mono ?_
      rintro e w1 ⟨rfl, hb⟩
      have E1 := Lib.hid hb
      clear hb
      go_wp2_with fail
      refine (cColon_any _ _ (HS.out.below (Nat.le_refl _) E1.out)).mono ?_
      rintro e a1 ⟨vl, ol, e1, rfl, hcl, hol, hb⟩
      have CL := Lib.hid hcl
      have RL := Lib.hid (class_row hcl hol)
      have D1 := Lib.hid (E1.out.trans (hb.mono E1.out.size))
      clear hcl hol hb
      go_wp2_with fail
      refine (cColon_any _ _ (HS.out.below (Nat.le_refl _) D1.out)).mono ?_
      rintro e a2 ⟨vm, om, f1, rfl, hcm, hom, hb⟩
      rw [hat_txt, HB1.out] at hcm
      have CM := Lib.hid hcm
      have OM := Lib.hid hom
      have RL' := Lib.hid (RL.out.below (Nat.le_refl _) hb)
      have D2 := Lib.hid (D1.out.trans (hb.mono D1.out.size))
      clear hcm hom hb RL D1
      go_wp2_with fail
      refine (cProp_any _ _ (HS.out.below (Nat.le_refl _) D2.out)).mono ?_
      rintro e a3 ⟨vp, op, g1, rfl, hcp, hop, hb⟩
      have CP := Lib.hid hcp
      have RP := Lib.hid (class_row hcp hop)
      have RL := Lib.hid (RL'.out.below (Nat.le_refl _) hb)
      have OM' := Lib.hid (OM.out.below hb)
      have D3 := Lib.hid (D2.out.trans (hb.mono D2.out.size))
      clear hcp hop hb RL' OM D2
      go_wp2_with fail
      refine (cProp_any _ _ (HS.out.below (Nat.le_refl _) D3.out)).mono ?_
      rintro e a4 ⟨vq, oq, h1, rfl, hcq, hoq, hb⟩
      rw [hat_txt, HB2.out] at hcq
      have CQ := Lib.hid hcq
      have OQ := Lib.hid hoq
      have RP' := Lib.hid (RP.out.below (Nat.le_refl _) hb)
      have RL' := Lib.hid (RL.out.below (Nat.le_refl _) hb)
      have OM := Lib.hid (OM'.out.below hb)
      have D4 := Lib.hid (D3.out.trans (hb.mono D3.out.size))
      clear hcq hoq hb RL RP OM' D3
      rw [HA1.out] at CL
      rw [HA2.out] at CP
      obtain ⟨rfl, rfl⟩ := CL.out
      obtain ⟨rfl, rfl⟩ := CM.out
      obtain rfl := CP.out.1
      obtain rfl := CQ.out.1
      have RM := Lib.hid (class_row CM.out OM.out)
      have RQ := Lib.hid (class_row CQ.out OQ.out)
      go_wp2_with fail
      refine (check_class _ _ CL.out RL'.out).mono ?_
      rintro e a5 ⟨rfl, hb⟩
      have D5 := Lib.hid (D4.out.trans (hb.mono D4.out.size))
      have RL := Lib.hid (RL'.out.below (Nat.le_refl _) hb)
      have RP := Lib.hid (RP'.out.below (Nat.le_refl _) hb)
      have RM' := Lib.hid (RM.out.below (Nat.le_refl _) hb)
      have RQ' := Lib.hid (RQ.out.below (Nat.le_refl _) hb)
      clear hb RL' RP' RM RQ D4 OM OQ
      go_wp2_with fail
      refine (check_class _ _ CP.out RP.out).mono ?_
      rintro e a6 ⟨rfl, hb⟩
      have D6 := Lib.hid (D5.out.trans (hb.mono D5.out.size))
      have RL' := Lib.hid (RL.out.below (Nat.le_refl _) hb)
      have RP' := Lib.hid (RP.out.below (Nat.le_refl _) hb)
      have RM := Lib.hid (RM'.out.below (Nat.le_refl _) hb)
      have RQ := Lib.hid (RQ'.out.below (Nat.le_refl _) hb)
      clear hb RL RP RM' RQ' D5
      go_wp2_with fail
      refine (not_any _ _ _ RP'.out).mono ?_
      rintro e a9 ⟨vn2, on2, rfl, hm, ho, hb⟩
      obtain rfl := not_class CP.out CQ.out hm
      have RN := Lib.hid (ho.normRow hm.norm)
      have D9 := Lib.hid (D6.out.trans (hb.mono D6.out.size))
      have RQ' := Lib.hid (RQ.out.below (Nat.le_refl _) hb)
      clear hm ho hb RP' RQ D6
      go_wp2_with fail
      refine (same_rg_b _ _ _ _ _ RN.out RQ'.out true (by simp)).mono ?_
      rintro e b1 ⟨rfl, hb⟩
      have D10 := Lib.hid (D9.out.trans (hb.mono D9.out.size))
      clear hb RN RQ' D9
      go_wp2
      go_ret
      exact ⟨rfl, D10.out⟩
set_option maxRecDepth 100000 in
set_option maxHeartbeats 8000000 in
theorem lacksOut_SomeNone (W : World) (c : Int) (name : ByteArray) (hn : name.size ≤ 140737488351232) (htab : Spaces W) (hcz : ¬ (97 ≤ c ∧ c ≤ 122)) (T1 : List Int) (HA1 : Cl.lookC Cl.colonT name.data.toList = some (false, T1)) (HB1 : Cl.lookC Cl.colonT (94 :: name.data.toList) = some (true, T1)) (HA2 : Cl.lookC Cl.propT name.data.toList = none) (HB2 : Cl.lookC Cl.propT (94 :: name.data.toList) = none) (h94 : ∀ h0 : 0 < name.size, name[0].toNat ≠ 94) :
    Calls Tryz.prog 4 #[.int .u8 c, .string name] W fun e w' => e = .returned (.bool true) ∧ Below W.heap.size W w' := by
  by_cases hpos : 0 < name.size
  · have hq := hpos
    by_cases h97 : 97 ≤ c
    · have h122 : ¬ c ≤ 122 := fun h => hcz ⟨h97, h⟩
      clear hcz
      have hposz : (0 : Int) < (name.size : Int) := by omega
      have h94' : ¬ ((name[0].toNat : Int) = 94) := by have := h94 hpos; omega
      clear h94
      replace HA1 := Lib.hid HA1
      replace HA2 := Lib.hid HA2
      replace HB1 := Lib.hid HB1
      replace HB2 := Lib.hid HB2
      have HS := Lib.hid htab
      have hs2 : name.size ≤ 140737488351232 := hn
      clear htab hn
      go_enter Tryz.func4, Tryz.ntmps4
      go_wp2_with fail
      refine (works_any _ HS.out).mono ?_
      rintro e w1 ⟨rfl, hb⟩
      have E1 := Lib.hid hb
      clear hb
      go_wp2_with fail
      refine (cColon_any _ _ (HS.out.below (Nat.le_refl _) E1.out)).mono ?_
      rintro e a1 ⟨vl, ol, e1, rfl, hcl, hol, hb⟩
      have CL := Lib.hid hcl
      have RL := Lib.hid (class_row hcl hol)
      have D1 := Lib.hid (E1.out.trans (hb.mono E1.out.size))
      clear hcl hol hb
      go_wp2_with fail
      refine (cColon_any _ _ (HS.out.below (Nat.le_refl _) D1.out)).mono ?_
      rintro e a2 ⟨vm, om, f1, rfl, hcm, hom, hb⟩
      rw [hat_txt, HB1.out] at hcm
      have CM := Lib.hid hcm
      have OM := Lib.hid hom
      have RL' := Lib.hid (RL.out.below (Nat.le_refl _) hb)
      have D2 := Lib.hid (D1.out.trans (hb.mono D1.out.size))
      clear hcm hom hb RL D1
      go_wp2_with fail
      refine (cProp_any _ _ (HS.out.below (Nat.le_refl _) D2.out)).mono ?_
      rintro e a3 ⟨vp, op, g1, rfl, hcp, hop, hb⟩
      have CP := Lib.hid hcp
      have RP := Lib.hid (class_row hcp hop)
      have RL := Lib.hid (RL'.out.below (Nat.le_refl _) hb)
      have OM' := Lib.hid (OM.out.below hb)
      have D3 := Lib.hid (D2.out.trans (hb.mono D2.out.size))
      clear hcp hop hb RL' OM D2
      go_wp2_with fail
      refine (cProp_any _ _ (HS.out.below (Nat.le_refl _) D3.out)).mono ?_
      rintro e a4 ⟨vq, oq, h1, rfl, hcq, hoq, hb⟩
      rw [hat_txt, HB2.out] at hcq
      have CQ := Lib.hid hcq
      have OQ := Lib.hid hoq
      have RP' := Lib.hid (RP.out.below (Nat.le_refl _) hb)
      have RL' := Lib.hid (RL.out.below (Nat.le_refl _) hb)
      have OM := Lib.hid (OM'.out.below hb)
      have D4 := Lib.hid (D3.out.trans (hb.mono D3.out.size))
      clear hcq hoq hb RL RP OM' D3
      rw [HA1.out] at CL
      rw [HA2.out] at CP
      obtain rfl := CL.out.1
      obtain rfl := CM.out.1
      obtain ⟨rfl, rfl⟩ := CP.out
      obtain ⟨rfl, rfl⟩ := CQ.out
      have RM := Lib.hid (class_row CM.out OM.out)
      have RQ := Lib.hid (class_row CQ.out OQ.out)
      go_wp2_with fail
      refine (check_class _ _ CL.out RL'.out).mono ?_
      rintro e a5 ⟨rfl, hb⟩
      have D5 := Lib.hid (D4.out.trans (hb.mono D4.out.size))
      have RL := Lib.hid (RL'.out.below (Nat.le_refl _) hb)
      have RP := Lib.hid (RP'.out.below (Nat.le_refl _) hb)
      have RM' := Lib.hid (RM.out.below (Nat.le_refl _) hb)
      have RQ' := Lib.hid (RQ.out.below (Nat.le_refl _) hb)
      clear hb RL' RP' RM RQ D4 OM OQ
      go_wp2_with fail
      refine (check_class _ _ CP.out RP.out).mono ?_
      rintro e a6 ⟨rfl, hb⟩
      have D6 := Lib.hid (D5.out.trans (hb.mono D5.out.size))
      have RL' := Lib.hid (RL.out.below (Nat.le_refl _) hb)
      have RP' := Lib.hid (RP.out.below (Nat.le_refl _) hb)
      have RM := Lib.hid (RM'.out.below (Nat.le_refl _) hb)
      have RQ := Lib.hid (RQ'.out.below (Nat.le_refl _) hb)
      clear hb RL RP RM' RQ' D5
      go_wp2_with fail
      refine (not_any _ _ _ RL'.out).mono ?_
      rintro e a7 ⟨vn, on, rfl, hm, ho, hb⟩
      obtain rfl := not_class CL.out CM.out hm
      have RN := Lib.hid (ho.normRow hm.norm)
      have D7 := Lib.hid (D6.out.trans (hb.mono D6.out.size))
      have RM' := Lib.hid (RM.out.below (Nat.le_refl _) hb)
      have RP := Lib.hid (RP'.out.below (Nat.le_refl _) hb)
      have RQ' := Lib.hid (RQ.out.below (Nat.le_refl _) hb)
      clear hm ho hb RL' RM RP' RQ D6
      go_wp2_with fail
      refine (same_rg_b _ _ _ _ _ RN.out RM'.out true (by simp)).mono ?_
      rintro e a8 ⟨rfl, hb⟩
      have D8 := Lib.hid (D7.out.trans (hb.mono D7.out.size))
      have RP' := Lib.hid (RP.out.below (Nat.le_refl _) hb)
      have RQ := Lib.hid (RQ'.out.below (Nat.le_refl _) hb)
      clear hb RN RM' RP RQ' D7
      go_wp2
      go_ret
      exact ⟨rfl, D8.out⟩
    · clear hcz
      have hposz : (0 : Int) < (name.size : Int) := by omega
      have h94' : ¬ ((name[0].toNat : Int) = 94) := by have := h94 hpos; omega
      clear h94
      replace HA1 := Lib.hid HA1
      replace HA2 := Lib.hid HA2
      replace HB1 := Lib.hid HB1
      replace HB2 := Lib.hid HB2
      have HS := Lib.hid htab
      have hs2 : name.size ≤ 140737488351232 := hn
      clear htab hn
      go_enter Tryz.func4, Tryz.ntmps4
      go_wp2_with fail
      refine (works_any _ HS.out).mono ?_
      rintro e w1 ⟨rfl, hb⟩
      have E1 := Lib.hid hb
      clear hb
      go_wp2_with fail
      refine (cColon_any _ _ (HS.out.below (Nat.le_refl _) E1.out)).mono ?_
      rintro e a1 ⟨vl, ol, e1, rfl, hcl, hol, hb⟩
      have CL := Lib.hid hcl
      have RL := Lib.hid (class_row hcl hol)
      have D1 := Lib.hid (E1.out.trans (hb.mono E1.out.size))
      clear hcl hol hb
      go_wp2_with fail
      refine (cColon_any _ _ (HS.out.below (Nat.le_refl _) D1.out)).mono ?_
      rintro e a2 ⟨vm, om, f1, rfl, hcm, hom, hb⟩
      rw [hat_txt, HB1.out] at hcm
      have CM := Lib.hid hcm
      have OM := Lib.hid hom
      have RL' := Lib.hid (RL.out.below (Nat.le_refl _) hb)
      have D2 := Lib.hid (D1.out.trans (hb.mono D1.out.size))
      clear hcm hom hb RL D1
      go_wp2_with fail
      refine (cProp_any _ _ (HS.out.below (Nat.le_refl _) D2.out)).mono ?_
      rintro e a3 ⟨vp, op, g1, rfl, hcp, hop, hb⟩
      have CP := Lib.hid hcp
      have RP := Lib.hid (class_row hcp hop)
      have RL := Lib.hid (RL'.out.below (Nat.le_refl _) hb)
      have OM' := Lib.hid (OM.out.below hb)
      have D3 := Lib.hid (D2.out.trans (hb.mono D2.out.size))
      clear hcp hop hb RL' OM D2
      go_wp2_with fail
      refine (cProp_any _ _ (HS.out.below (Nat.le_refl _) D3.out)).mono ?_
      rintro e a4 ⟨vq, oq, h1, rfl, hcq, hoq, hb⟩
      rw [hat_txt, HB2.out] at hcq
      have CQ := Lib.hid hcq
      have OQ := Lib.hid hoq
      have RP' := Lib.hid (RP.out.below (Nat.le_refl _) hb)
      have RL' := Lib.hid (RL.out.below (Nat.le_refl _) hb)
      have OM := Lib.hid (OM'.out.below hb)
      have D4 := Lib.hid (D3.out.trans (hb.mono D3.out.size))
      clear hcq hoq hb RL RP OM' D3
      rw [HA1.out] at CL
      rw [HA2.out] at CP
      obtain rfl := CL.out.1
      obtain rfl := CM.out.1
      obtain ⟨rfl, rfl⟩ := CP.out
      obtain ⟨rfl, rfl⟩ := CQ.out
      have RM := Lib.hid (class_row CM.out OM.out)
      have RQ := Lib.hid (class_row CQ.out OQ.out)
      go_wp2_with fail
      refine (check_class _ _ CL.out RL'.out).mono ?_
      rintro e a5 ⟨rfl, hb⟩
      have D5 := Lib.hid (D4.out.trans (hb.mono D4.out.size))
      have RL := Lib.hid (RL'.out.below (Nat.le_refl _) hb)
      have RP := Lib.hid (RP'.out.below (Nat.le_refl _) hb)
      have RM' := Lib.hid (RM.out.below (Nat.le_refl _) hb)
      have RQ' := Lib.hid (RQ.out.below (Nat.le_refl _) hb)
      clear hb RL' RP' RM RQ D4 OM OQ
      go_wp2_with fail
      refine (check_class _ _ CP.out RP.out).mono ?_
      rintro e a6 ⟨rfl, hb⟩
      have D6 := Lib.hid (D5.out.trans (hb.mono D5.out.size))
      have RL' := Lib.hid (RL.out.below (Nat.le_refl _) hb)
      have RP' := Lib.hid (RP.out.below (Nat.le_refl _) hb)
      have RM := Lib.hid (RM'.out.below (Nat.le_refl _) hb)
      have RQ := Lib.hid (RQ'.out.below (Nat.le_refl _) hb)
      clear hb RL RP RM' RQ' D5
      go_wp2_with fail
      refine (not_any _ _ _ RL'.out).mono ?_
      rintro e a7 ⟨vn, on, rfl, hm, ho, hb⟩
      obtain rfl := not_class CL.out CM.out hm
      have RN := Lib.hid (ho.normRow hm.norm)
      have D7 := Lib.hid (D6.out.trans (hb.mono D6.out.size))
      have RM' := Lib.hid (RM.out.below (Nat.le_refl _) hb)
      have RP := Lib.hid (RP'.out.below (Nat.le_refl _) hb)
      have RQ' := Lib.hid (RQ.out.below (Nat.le_refl _) hb)
      clear hm ho hb RL' RM RP' RQ D6
      go_wp2_with fail
      refine (same_rg_b _ _ _ _ _ RN.out RM'.out true (by simp)).mono ?_
      rintro e a8 ⟨rfl, hb⟩
      have D8 := Lib.hid (D7.out.trans (hb.mono D7.out.size))
      have RP' := Lib.hid (RP.out.below (Nat.le_refl _) hb)
      have RQ := Lib.hid (RQ'.out.below (Nat.le_refl _) hb)
      clear hb RN RM' RP RQ' D7
      go_wp2
      go_ret
      exact ⟨rfl, D8.out⟩
  · have hq := hpos
    by_cases h97 : 97 ≤ c
    · have h122 : ¬ c ≤ 122 := fun h => hcz ⟨h97, h⟩
      clear hcz
      have hposz : ¬ (0 : Int) < (name.size : Int) := by omega
      clear h94
      replace HA1 := Lib.hid HA1
      replace HA2 := Lib.hid HA2
      replace HB1 := Lib.hid HB1
      replace HB2 := Lib.hid HB2
      have HS := Lib.hid htab
      have hs2 : name.size ≤ 140737488351232 := hn
      clear htab hn
      go_enter Tryz.func4, Tryz.ntmps4
      go_wp2_with fail
      refine (works_any _ HS.out).mono ?_
      rintro e w1 ⟨rfl, hb⟩
      have E1 := Lib.hid hb
      clear hb
      go_wp2_with fail
      refine (cColon_any _ _ (HS.out.below (Nat.le_refl _) E1.out)).mono ?_
      rintro e a1 ⟨vl, ol, e1, rfl, hcl, hol, hb⟩
      have CL := Lib.hid hcl
      have RL := Lib.hid (class_row hcl hol)
      have D1 := Lib.hid (E1.out.trans (hb.mono E1.out.size))
      clear hcl hol hb
      go_wp2_with fail
      refine (cColon_any _ _ (HS.out.below (Nat.le_refl _) D1.out)).mono ?_
      rintro e a2 ⟨vm, om, f1, rfl, hcm, hom, hb⟩
      rw [hat_txt, HB1.out] at hcm
      have CM := Lib.hid hcm
      have OM := Lib.hid hom
      have RL' := Lib.hid (RL.out.below (Nat.le_refl _) hb)
      have D2 := Lib.hid (D1.out.trans (hb.mono D1.out.size))
      clear hcm hom hb RL D1
      go_wp2_with fail
      refine (cProp_any _ _ (HS.out.below (Nat.le_refl _) D2.out)).mono ?_
      rintro e a3 ⟨vp, op, g1, rfl, hcp, hop, hb⟩
      have CP := Lib.hid hcp
      have RP := Lib.hid (class_row hcp hop)
      have RL := Lib.hid (RL'.out.below (Nat.le_refl _) hb)
      have OM' := Lib.hid (OM.out.below hb)
      have D3 := Lib.hid (D2.out.trans (hb.mono D2.out.size))
      clear hcp hop hb RL' OM D2
      go_wp2_with fail
      refine (cProp_any _ _ (HS.out.below (Nat.le_refl _) D3.out)).mono ?_
      rintro e a4 ⟨vq, oq, h1, rfl, hcq, hoq, hb⟩
      rw [hat_txt, HB2.out] at hcq
      have CQ := Lib.hid hcq
      have OQ := Lib.hid hoq
      have RP' := Lib.hid (RP.out.below (Nat.le_refl _) hb)
      have RL' := Lib.hid (RL.out.below (Nat.le_refl _) hb)
      have OM := Lib.hid (OM'.out.below hb)
      have D4 := Lib.hid (D3.out.trans (hb.mono D3.out.size))
      clear hcq hoq hb RL RP OM' D3
      rw [HA1.out] at CL
      rw [HA2.out] at CP
      obtain rfl := CL.out.1
      obtain rfl := CM.out.1
      obtain ⟨rfl, rfl⟩ := CP.out
      obtain ⟨rfl, rfl⟩ := CQ.out
      have RM := Lib.hid (class_row CM.out OM.out)
      have RQ := Lib.hid (class_row CQ.out OQ.out)
      go_wp2_with fail
      refine (check_class _ _ CL.out RL'.out).mono ?_
      rintro e a5 ⟨rfl, hb⟩
      have D5 := Lib.hid (D4.out.trans (hb.mono D4.out.size))
      have RL := Lib.hid (RL'.out.below (Nat.le_refl _) hb)
      have RP := Lib.hid (RP'.out.below (Nat.le_refl _) hb)
      have RM' := Lib.hid (RM.out.below (Nat.le_refl _) hb)
      have RQ' := Lib.hid (RQ.out.below (Nat.le_refl _) hb)
      clear hb RL' RP' RM RQ D4 OM OQ
      go_wp2_with fail
      refine (check_class _ _ CP.out RP.out).mono ?_
      rintro e a6 ⟨rfl, hb⟩
      have D6 := Lib.hid (D5.out.trans (hb.mono D5.out.size))
      have RL' := Lib.hid (RL.out.below (Nat.le_refl _) hb)
      have RP' := Lib.hid (RP.out.below (Nat.le_refl _) hb)
      have RM := Lib.hid (RM'.out.below (Nat.le_refl _) hb)
      have RQ := Lib.hid (RQ'.out.below (Nat.le_refl _) hb)
      clear hb RL RP RM' RQ' D5
      go_wp2_with fail
      refine (not_any _ _ _ RL'.out).mono ?_
      rintro e a7 ⟨vn, on, rfl, hm, ho, hb⟩
      obtain rfl := not_class CL.out CM.out hm
      have RN := Lib.hid (ho.normRow hm.norm)
      have D7 := Lib.hid (D6.out.trans (hb.mono D6.out.size))
      have RM' := Lib.hid (RM.out.below (Nat.le_refl _) hb)
      have RP := Lib.hid (RP'.out.below (Nat.le_refl _) hb)
      have RQ' := Lib.hid (RQ.out.below (Nat.le_refl _) hb)
      clear hm ho hb RL' RM RP' RQ D6
      go_wp2_with fail
      refine (same_rg_b _ _ _ _ _ RN.out RM'.out true (by simp)).mono ?_
      rintro e a8 ⟨rfl, hb⟩
      have D8 := Lib.hid (D7.out.trans (hb.mono D7.out.size))
      have RP' := Lib.hid (RP.out.below (Nat.le_refl _) hb)
      have RQ := Lib.hid (RQ'.out.below (Nat.le_refl _) hb)
      clear hb RN RM' RP RQ' D7
      go_wp2
      go_ret
      exact ⟨rfl, D8.out⟩
    · clear hcz
      have hposz : ¬ (0 : Int) < (name.size : Int) := by omega
      clear h94
      replace HA1 := Lib.hid HA1
      replace HA2 := Lib.hid HA2
      replace HB1 := Lib.hid HB1
      replace HB2 := Lib.hid HB2
      have HS := Lib.hid htab
      have hs2 : name.size ≤ 140737488351232 := hn
      clear htab hn
      go_enter Tryz.func4, Tryz.ntmps4
      go_wp2_with fail
      refine (works_any _ HS.out).mono ?_
      rintro e w1 ⟨rfl, hb⟩
      have E1 := Lib.hid hb
      clear hb
      go_wp2_with fail
      refine (cColon_any _ _ (HS.out.below (Nat.le_refl _) E1.out)).mono ?_
      rintro e a1 ⟨vl, ol, e1, rfl, hcl, hol, hb⟩
      have CL := Lib.hid hcl
      have RL := Lib.hid (class_row hcl hol)
      have D1 := Lib.hid (E1.out.trans (hb.mono E1.out.size))
      clear hcl hol hb
      go_wp2_with fail
      refine (cColon_any _ _ (HS.out.below (Nat.le_refl _) D1.out)).mono ?_
      rintro e a2 ⟨vm, om, f1, rfl, hcm, hom, hb⟩
      rw [hat_txt, HB1.out] at hcm
      have CM := Lib.hid hcm
      have OM := Lib.hid hom
      have RL' := Lib.hid (RL.out.below (Nat.le_refl _) hb)
      have D2 := Lib.hid (D1.out.trans (hb.mono D1.out.size))
      clear hcm hom hb RL D1
      go_wp2_with fail
      refine (cProp_any _ _ (HS.out.below (Nat.le_refl _) D2.out)).mono ?_
      rintro e a3 ⟨vp, op, g1, rfl, hcp, hop, hb⟩
      have CP := Lib.hid hcp
      have RP := Lib.hid (class_row hcp hop)
      have RL := Lib.hid (RL'.out.below (Nat.le_refl _) hb)
      have OM' := Lib.hid (OM.out.below hb)
      have D3 := Lib.hid (D2.out.trans (hb.mono D2.out.size))
      clear hcp hop hb RL' OM D2
      go_wp2_with fail
      refine (cProp_any _ _ (HS.out.below (Nat.le_refl _) D3.out)).mono ?_
      rintro e a4 ⟨vq, oq, h1, rfl, hcq, hoq, hb⟩
      rw [hat_txt, HB2.out] at hcq
      have CQ := Lib.hid hcq
      have OQ := Lib.hid hoq
      have RP' := Lib.hid (RP.out.below (Nat.le_refl _) hb)
      have RL' := Lib.hid (RL.out.below (Nat.le_refl _) hb)
      have OM := Lib.hid (OM'.out.below hb)
      have D4 := Lib.hid (D3.out.trans (hb.mono D3.out.size))
      clear hcq hoq hb RL RP OM' D3
      rw [HA1.out] at CL
      rw [HA2.out] at CP
      obtain rfl := CL.out.1
      obtain rfl := CM.out.1
      obtain ⟨rfl, rfl⟩ := CP.out
      obtain ⟨rfl, rfl⟩ := CQ.out
      have RM := Lib.hid (class_row CM.out OM.out)
      have RQ := Lib.hid (class_row CQ.out OQ.out)
      go_wp2_with fail
      refine (check_class _ _ CL.out RL'.out).mono ?_
      rintro e a5 ⟨rfl, hb⟩
      have D5 := Lib.hid (D4.out.trans (hb.mono D4.out.size))
      have RL := Lib.hid (RL'.out.below (Nat.le_refl _) hb)
      have RP := Lib.hid (RP'.out.below (Nat.le_refl _) hb)
      have RM' := Lib.hid (RM.out.below (Nat.le_refl _) hb)
      have RQ' := Lib.hid (RQ.out.below (Nat.le_refl _) hb)
      clear hb RL' RP' RM RQ D4 OM OQ
      go_wp2_with fail
      refine (check_class _ _ CP.out RP.out).mono ?_
      rintro e a6 ⟨rfl, hb⟩
      have D6 := Lib.hid (D5.out.trans (hb.mono D5.out.size))
      have RL' := Lib.hid (RL.out.below (Nat.le_refl _) hb)
      have RP' := Lib.hid (RP.out.below (Nat.le_refl _) hb)
      have RM := Lib.hid (RM'.out.below (Nat.le_refl _) hb)
      have RQ := Lib.hid (RQ'.out.below (Nat.le_refl _) hb)
      clear hb RL RP RM' RQ' D5
      go_wp2_with fail
      refine (not_any _ _ _ RL'.out).mono ?_
      rintro e a7 ⟨vn, on, rfl, hm, ho, hb⟩
      obtain rfl := not_class CL.out CM.out hm
      have RN := Lib.hid (ho.normRow hm.norm)
      have D7 := Lib.hid (D6.out.trans (hb.mono D6.out.size))
      have RM' := Lib.hid (RM.out.below (Nat.le_refl _) hb)
      have RP := Lib.hid (RP'.out.below (Nat.le_refl _) hb)
      have RQ' := Lib.hid (RQ.out.below (Nat.le_refl _) hb)
      clear hm ho hb RL' RM RP' RQ D6
      go_wp2_with fail
      refine (same_rg_b _ _ _ _ _ RN.out RM'.out true (by simp)).mono ?_
      rintro e a8 ⟨rfl, hb⟩
      have D8 := Lib.hid (D7.out.trans (hb.mono D7.out.size))
      have RP' := Lib.hid (RP.out.below (Nat.le_refl _) hb)
      have RQ := Lib.hid (RQ'.out.below (Nat.le_refl _) hb)
      clear hb RN RM' RP RQ' D7
      go_wp2
      go_ret
      exact ⟨rfl, D8.out⟩
set_option maxRecDepth 100000 in
set_option maxHeartbeats 8000000 in
theorem lacksOut_SomeSome (W : World) (c : Int) (name : ByteArray) (hn : name.size ≤ 140737488351232) (htab : Spaces W) (hcz : ¬ (97 ≤ c ∧ c ≤ 122)) (T1 : List Int) (HA1 : Cl.lookC Cl.colonT name.data.toList = some (false, T1)) (HB1 : Cl.lookC Cl.colonT (94 :: name.data.toList) = some (true, T1)) (T2 : List Int) (HA2 : Cl.lookC Cl.propT name.data.toList = some (false, T2)) (HB2 : Cl.lookC Cl.propT (94 :: name.data.toList) = some (true, T2)) (h94 : ∀ h0 : 0 < name.size, name[0].toNat ≠ 94) :
    Calls Tryz.prog 4 #[.int .u8 c, .string name] W fun e w' => e = .returned (.bool true) ∧ Below W.heap.size W w' := by
  by_cases hpos : 0 < name.size
  · have hq := hpos
    by_cases h97 : 97 ≤ c
    · have h122 : ¬ c ≤ 122 := fun h => hcz ⟨h97, h⟩
      clear hcz
      have hposz : (0 : Int) < (name.size : Int) := by omega
      have h94' : ¬ ((name[0].toNat : Int) = 94) := by have := h94 hpos; omega
      clear h94
      replace HA1 := Lib.hid HA1
      replace HA2 := Lib.hid HA2
      replace HB1 := Lib.hid HB1
      replace HB2 := Lib.hid HB2
      have HS := Lib.hid htab
      have hs2 : name.size ≤ 140737488351232 := hn
      clear htab hn
      go_enter Tryz.func4, Tryz.ntmps4
      go_wp2_with fail
      refine (works_any _ HS.out).mono ?_
      rintro e w1 ⟨rfl, hb⟩
      have E1 := Lib.hid hb
      clear hb
      go_wp2_with fail
      refine (cColon_any _ _ (HS.out.below (Nat.le_refl _) E1.out)).mono ?_
      rintro e a1 ⟨vl, ol, e1, rfl, hcl, hol, hb⟩
      have CL := Lib.hid hcl
      have RL := Lib.hid (class_row hcl hol)
      have D1 := Lib.hid (E1.out.trans (hb.mono E1.out.size))
      clear hcl hol hb
      go_wp2_with fail
      refine (cColon_any _ _ (HS.out.below (Nat.le_refl _) D1.out)).mono ?_
      rintro e a2 ⟨vm, om, f1, rfl, hcm, hom, hb⟩
      rw [hat_txt, HB1.out] at hcm
      have CM := Lib.hid hcm
      have OM := Lib.hid hom
      have RL' := Lib.hid (RL.out.below (Nat.le_refl _) hb)
      have D2 := Lib.hid (D1.out.trans (hb.mono D1.out.size))
      clear hcm hom hb RL D1
      go_wp2_with fail
      refine (cProp_any _ _ (HS.out.below (Nat.le_refl _) D2.out)).mono ?_
      rintro e a3 ⟨vp, op, g1, rfl, hcp, hop, hb⟩
      have CP := Lib.hid hcp
      have RP := Lib.hid (class_row hcp hop)
      have RL := Lib.hid (RL'.out.below (Nat.le_refl _) hb)
      have OM' := Lib.hid (OM.out.below hb)
      have D3 := Lib.hid (D2.out.trans (hb.mono D2.out.size))
      clear hcp hop hb RL' OM D2
      go_wp2_with fail
      refine (cProp_any _ _ (HS.out.below (Nat.le_refl _) D3.out)).mono ?_
      rintro e a4 ⟨vq, oq, h1, rfl, hcq, hoq, hb⟩
      rw [hat_txt, HB2.out] at hcq
      have CQ := Lib.hid hcq
      have OQ := Lib.hid hoq
      have RP' := Lib.hid (RP.out.below (Nat.le_refl _) hb)
      have RL' := Lib.hid (RL.out.below (Nat.le_refl _) hb)
      have OM := Lib.hid (OM'.out.below hb)
      have D4 := Lib.hid (D3.out.trans (hb.mono D3.out.size))
      clear hcq hoq hb RL RP OM' D3
      rw [HA1.out] at CL
      rw [HA2.out] at CP
      obtain rfl := CL.out.1
      obtain rfl := CM.out.1
      obtain rfl := CP.out.1
      obtain rfl := CQ.out.1
      have RM := Lib.hid (class_row CM.out OM.out)
      have RQ := Lib.hid (class_row CQ.out OQ.out)
      go_wp2_with fail
      refine (check_class _ _ CL.out RL'.out).mono ?_
      rintro e a5 ⟨rfl, hb⟩
      have D5 := Lib.hid (D4.out.trans (hb.mono D4.out.size))
      have RL := Lib.hid (RL'.out.below (Nat.le_refl _) hb)
      have RP := Lib.hid (RP'.out.below (Nat.le_refl _) hb)
      have RM' := Lib.hid (RM.out.below (Nat.le_refl _) hb)
      have RQ' := Lib.hid (RQ.out.below (Nat.le_refl _) hb)
      clear hb RL' RP' RM RQ D4 OM OQ
      go_wp2_with fail
      refine (check_class _ _ CP.out RP.out).mono ?_
      rintro e a6 ⟨rfl, hb⟩
      have D6 := Lib.hid (D5.out.trans (hb.mono D5.out.size))
      have RL' := Lib.hid (RL.out.below (Nat.le_refl _) hb)
      have RP' := Lib.hid (RP.out.below (Nat.le_refl _) hb)
      have RM := Lib.hid (RM'.out.below (Nat.le_refl _) hb)
      have RQ := Lib.hid (RQ'.out.below (Nat.le_refl _) hb)
      clear hb RL RP RM' RQ' D5
      go_wp2_with fail
      refine (not_any _ _ _ RL'.out).mono ?_
      rintro e a7 ⟨vn, on, rfl, hm, ho, hb⟩
      obtain rfl := not_class CL.out CM.out hm
      have RN := Lib.hid (ho.normRow hm.norm)
      have D7 := Lib.hid (D6.out.trans (hb.mono D6.out.size))
      have RM' := Lib.hid (RM.out.below (Nat.le_refl _) hb)
      have RP := Lib.hid (RP'.out.below (Nat.le_refl _) hb)
      have RQ' := Lib.hid (RQ.out.below (Nat.le_refl _) hb)
      clear hm ho hb RL' RM RP' RQ D6
      go_wp2_with fail
      refine (same_rg_b _ _ _ _ _ RN.out RM'.out true (by simp)).mono ?_
      rintro e a8 ⟨rfl, hb⟩
      have D8 := Lib.hid (D7.out.trans (hb.mono D7.out.size))
      have RP' := Lib.hid (RP.out.below (Nat.le_refl _) hb)
      have RQ := Lib.hid (RQ'.out.below (Nat.le_refl _) hb)
      clear hb RN RM' RP RQ' D7
      go_wp2_with fail
      refine (not_any _ _ _ RP'.out).mono ?_
      rintro e a9 ⟨vn2, on2, rfl, hm, ho, hb⟩
      obtain rfl := not_class CP.out CQ.out hm
      have RN := Lib.hid (ho.normRow hm.norm)
      have D9 := Lib.hid (D8.out.trans (hb.mono D8.out.size))
      have RQ' := Lib.hid (RQ.out.below (Nat.le_refl _) hb)
      clear hm ho hb RP' RQ D8
      go_wp2_with fail
      refine (same_rg_b _ _ _ _ _ RN.out RQ'.out true (by simp)).mono ?_
      rintro e b1 ⟨rfl, hb⟩
      have D10 := Lib.hid (D9.out.trans (hb.mono D9.out.size))
      clear hb RN RQ' D9
      go_wp2
      go_ret
      exact ⟨rfl, D10.out⟩
    · clear hcz
      have hposz : (0 : Int) < (name.size : Int) := by omega
      have h94' : ¬ ((name[0].toNat : Int) = 94) := by have := h94 hpos; omega
      clear h94
      replace HA1 := Lib.hid HA1
      replace HA2 := Lib.hid HA2
      replace HB1 := Lib.hid HB1
      replace HB2 := Lib.hid HB2
      have HS := Lib.hid htab
      have hs2 : name.size ≤ 140737488351232 := hn
      clear htab hn
      go_enter Tryz.func4, Tryz.ntmps4
      go_wp2_with fail
      refine (works_any _ HS.out).mono ?_
      rintro e w1 ⟨rfl, hb⟩
      have E1 := Lib.hid hb
      clear hb
      go_wp2_with fail
      refine (cColon_any _ _ (HS.out.below (Nat.le_refl _) E1.out)).mono ?_
      rintro e a1 ⟨vl, ol, e1, rfl, hcl, hol, hb⟩
      have CL := Lib.hid hcl
      have RL := Lib.hid (class_row hcl hol)
      have D1 := Lib.hid (E1.out.trans (hb.mono E1.out.size))
      clear hcl hol hb
      go_wp2_with fail
      refine (cColon_any _ _ (HS.out.below (Nat.le_refl _) D1.out)).mono ?_
      rintro e a2 ⟨vm, om, f1, rfl, hcm, hom, hb⟩
      rw [hat_txt, HB1.out] at hcm
      have CM := Lib.hid hcm
      have OM := Lib.hid hom
      have RL' := Lib.hid (RL.out.below (Nat.le_refl _) hb)
      have D2 := Lib.hid (D1.out.trans (hb.mono D1.out.size))
      clear hcm hom hb RL D1
      go_wp2_with fail
      refine (cProp_any _ _ (HS.out.below (Nat.le_refl _) D2.out)).mono ?_
      rintro e a3 ⟨vp, op, g1, rfl, hcp, hop, hb⟩
      have CP := Lib.hid hcp
      have RP := Lib.hid (class_row hcp hop)
      have RL := Lib.hid (RL'.out.below (Nat.le_refl _) hb)
      have OM' := Lib.hid (OM.out.below hb)
      have D3 := Lib.hid (D2.out.trans (hb.mono D2.out.size))
      clear hcp hop hb RL' OM D2
      go_wp2_with fail
      refine (cProp_any _ _ (HS.out.below (Nat.le_refl _) D3.out)).mono ?_
      rintro e a4 ⟨vq, oq, h1, rfl, hcq, hoq, hb⟩
      rw [hat_txt, HB2.out] at hcq
      have CQ := Lib.hid hcq
      have OQ := Lib.hid hoq
      have RP' := Lib.hid (RP.out.below (Nat.le_refl _) hb)
      have RL' := Lib.hid (RL.out.below (Nat.le_refl _) hb)
      have OM := Lib.hid (OM'.out.below hb)
      have D4 := Lib.hid (D3.out.trans (hb.mono D3.out.size))
      clear hcq hoq hb RL RP OM' D3
      rw [HA1.out] at CL
      rw [HA2.out] at CP
      obtain rfl := CL.out.1
      obtain rfl := CM.out.1
      obtain rfl := CP.out.1
      obtain rfl := CQ.out.1
      have RM := Lib.hid (class_row CM.out OM.out)
      have RQ := Lib.hid (class_row CQ.out OQ.out)
      go_wp2_with fail
      refine (check_class _ _ CL.out RL'.out).mono ?_
      rintro e a5 ⟨rfl, hb⟩
      have D5 := Lib.hid (D4.out.trans (hb.mono D4.out.size))
      have RL := Lib.hid (RL'.out.below (Nat.le_refl _) hb)
      have RP := Lib.hid (RP'.out.below (Nat.le_refl _) hb)
      have RM' := Lib.hid (RM.out.below (Nat.le_refl _) hb)
      have RQ' := Lib.hid (RQ.out.below (Nat.le_refl _) hb)
      clear hb RL' RP' RM RQ D4 OM OQ
      go_wp2_with fail
      refine (check_class _ _ CP.out RP.out).mono ?_
      rintro e a6 ⟨rfl, hb⟩
      have D6 := Lib.hid (D5.out.trans (hb.mono D5.out.size))
      have RL' := Lib.hid (RL.out.below (Nat.le_refl _) hb)
      have RP' := Lib.hid (RP.out.below (Nat.le_refl _) hb)
      have RM := Lib.hid (RM'.out.below (Nat.le_refl _) hb)
      have RQ := Lib.hid (RQ'.out.below (Nat.le_refl _) hb)
      clear hb RL RP RM' RQ' D5
      go_wp2_with fail
      refine (not_any _ _ _ RL'.out).mono ?_
      rintro e a7 ⟨vn, on, rfl, hm, ho, hb⟩
      obtain rfl := not_class CL.out CM.out hm
      have RN := Lib.hid (ho.normRow hm.norm)
      have D7 := Lib.hid (D6.out.trans (hb.mono D6.out.size))
      have RM' := Lib.hid (RM.out.below (Nat.le_refl _) hb)
      have RP := Lib.hid (RP'.out.below (Nat.le_refl _) hb)
      have RQ' := Lib.hid (RQ.out.below (Nat.le_refl _) hb)
      clear hm ho hb RL' RM RP' RQ D6
      go_wp2_with fail
      refine (same_rg_b _ _ _ _ _ RN.out RM'.out true (by simp)).mono ?_
      rintro e a8 ⟨rfl, hb⟩
      have D8 := Lib.hid (D7.out.trans (hb.mono D7.out.size))
      have RP' := Lib.hid (RP.out.below (Nat.le_refl _) hb)
      have RQ := Lib.hid (RQ'.out.below (Nat.le_refl _) hb)
      clear hb RN RM' RP RQ' D7
      go_wp2_with fail
      refine (not_any _ _ _ RP'.out).mono ?_
      rintro e a9 ⟨vn2, on2, rfl, hm, ho, hb⟩
      obtain rfl := not_class CP.out CQ.out hm
      have RN := Lib.hid (ho.normRow hm.norm)
      have D9 := Lib.hid (D8.out.trans (hb.mono D8.out.size))
      have RQ' := Lib.hid (RQ.out.below (Nat.le_refl _) hb)
      clear hm ho hb RP' RQ D8
      go_wp2_with fail
      refine (same_rg_b _ _ _ _ _ RN.out RQ'.out true (by simp)).mono ?_
      rintro e b1 ⟨rfl, hb⟩
      have D10 := Lib.hid (D9.out.trans (hb.mono D9.out.size))
      clear hb RN RQ' D9
      go_wp2
      go_ret
      exact ⟨rfl, D10.out⟩
  · have hq := hpos
    by_cases h97 : 97 ≤ c
    · have h122 : ¬ c ≤ 122 := fun h => hcz ⟨h97, h⟩
      clear hcz
      have hposz : ¬ (0 : Int) < (name.size : Int) := by omega
      clear h94
      replace HA1 := Lib.hid HA1
      replace HA2 := Lib.hid HA2
      replace HB1 := Lib.hid HB1
      replace HB2 := Lib.hid HB2
      have HS := Lib.hid htab
      have hs2 : name.size ≤ 140737488351232 := hn
      clear htab hn
      go_enter Tryz.func4, Tryz.ntmps4
      go_wp2_with fail
      refine (works_any _ HS.out).mono ?_
      rintro e w1 ⟨rfl, hb⟩
      have E1 := Lib.hid hb
      clear hb
      go_wp2_with fail
      refine (cColon_any _ _ (HS.out.below (Nat.le_refl _) E1.out)).mono ?_
      rintro e a1 ⟨vl, ol, e1, rfl, hcl, hol, hb⟩
      have CL := Lib.hid hcl
      have RL := Lib.hid (class_row hcl hol)
      have D1 := Lib.hid (E1.out.trans (hb.mono E1.out.size))
      clear hcl hol hb
      go_wp2_with fail
      refine (cColon_any _ _ (HS.out.below (Nat.le_refl _) D1.out)).mono ?_
      rintro e a2 ⟨vm, om, f1, rfl, hcm, hom, hb⟩
      rw [hat_txt, HB1.out] at hcm
      have CM := Lib.hid hcm
      have OM := Lib.hid hom
      have RL' := Lib.hid (RL.out.below (Nat.le_refl _) hb)
      have D2 := Lib.hid (D1.out.trans (hb.mono D1.out.size))
      clear hcm hom hb RL D1
      go_wp2_with fail
      refine (cProp_any _ _ (HS.out.below (Nat.le_refl _) D2.out)).mono ?_
      rintro e a3 ⟨vp, op, g1, rfl, hcp, hop, hb⟩
      have CP := Lib.hid hcp
      have RP := Lib.hid (class_row hcp hop)
      have RL := Lib.hid (RL'.out.below (Nat.le_refl _) hb)
      have OM' := Lib.hid (OM.out.below hb)
      have D3 := Lib.hid (D2.out.trans (hb.mono D2.out.size))
      clear hcp hop hb RL' OM D2
      go_wp2_with fail
      refine (cProp_any _ _ (HS.out.below (Nat.le_refl _) D3.out)).mono ?_
      rintro e a4 ⟨vq, oq, h1, rfl, hcq, hoq, hb⟩
      rw [hat_txt, HB2.out] at hcq
      have CQ := Lib.hid hcq
      have OQ := Lib.hid hoq
      have RP' := Lib.hid (RP.out.below (Nat.le_refl _) hb)
      have RL' := Lib.hid (RL.out.below (Nat.le_refl _) hb)
      have OM := Lib.hid (OM'.out.below hb)
      have D4 := Lib.hid (D3.out.trans (hb.mono D3.out.size))
      clear hcq hoq hb RL RP OM' D3
      rw [HA1.out] at CL
      rw [HA2.out] at CP
      obtain rfl := CL.out.1
      obtain rfl := CM.out.1
      obtain rfl := CP.out.1
      obtain rfl := CQ.out.1
      have RM := Lib.hid (class_row CM.out OM.out)
      have RQ := Lib.hid (class_row CQ.out OQ.out)
      go_wp2_with fail
      refine (check_class _ _ CL.out RL'.out).mono ?_
      rintro e a5 ⟨rfl, hb⟩
      have D5 := Lib.hid (D4.out.trans (hb.mono D4.out.size))
      have RL := Lib.hid (RL'.out.below (Nat.le_refl _) hb)
      have RP := Lib.hid (RP'.out.below (Nat.le_refl _) hb)
      have RM' := Lib.hid (RM.out.below (Nat.le_refl _) hb)
      have RQ' := Lib.hid (RQ.out.below (Nat.le_refl _) hb)
      clear hb RL' RP' RM RQ D4 OM OQ
      go_wp2_with fail
      refine (check_class _ _ CP.out RP.out).mono ?_
      rintro e a6 ⟨rfl, hb⟩
      have D6 := Lib.hid (D5.out.trans (hb.mono D5.out.size))
      have RL' := Lib.hid (RL.out.below (Nat.le_refl _) hb)
      have RP' := Lib.hid (RP.out.below (Nat.le_refl _) hb)
      have RM := Lib.hid (RM'.out.below (Nat.le_refl _) hb)
      have RQ := Lib.hid (RQ'.out.below (Nat.le_refl _) hb)
      clear hb RL RP RM' RQ' D5
      go_wp2_with fail
      refine (not_any _ _ _ RL'.out).mono ?_
      rintro e a7 ⟨vn, on, rfl, hm, ho, hb⟩
      obtain rfl := not_class CL.out CM.out hm
      have RN := Lib.hid (ho.normRow hm.norm)
      have D7 := Lib.hid (D6.out.trans (hb.mono D6.out.size))
      have RM' := Lib.hid (RM.out.below (Nat.le_refl _) hb)
      have RP := Lib.hid (RP'.out.below (Nat.le_refl _) hb)
      have RQ' := Lib.hid (RQ.out.below (Nat.le_refl _) hb)
      clear hm ho hb RL' RM RP' RQ D6
      go_wp2_with fail
      refine (same_rg_b _ _ _ _ _ RN.out RM'.out true (by simp)).mono ?_
      rintro e a8 ⟨rfl, hb⟩
      have D8 := Lib.hid (D7.out.trans (hb.mono D7.out.size))
      have RP' := Lib.hid (RP.out.below (Nat.le_refl _) hb)
      have RQ := Lib.hid (RQ'.out.below (Nat.le_refl _) hb)
      clear hb RN RM' RP RQ' D7
      go_wp2_with fail
      refine (not_any _ _ _ RP'.out).mono ?_
      rintro e a9 ⟨vn2, on2, rfl, hm, ho, hb⟩
      obtain rfl := not_class CP.out CQ.out hm
      have RN := Lib.hid (ho.normRow hm.norm)
      have D9 := Lib.hid (D8.out.trans (hb.mono D8.out.size))
      have RQ' := Lib.hid (RQ.out.below (Nat.le_refl _) hb)
      clear hm ho hb RP' RQ D8
      go_wp2_with fail
      refine (same_rg_b _ _ _ _ _ RN.out RQ'.out true (by simp)).mono ?_
      rintro e b1 ⟨rfl, hb⟩
      have D10 := Lib.hid (D9.out.trans (hb.mono D9.out.size))
      clear hb RN RQ' D9
      go_wp2
      go_ret
      exact ⟨rfl, D10.out⟩
    · clear hcz
      have hposz : ¬ (0 : Int) < (name.size : Int) := by omega
      clear h94
      replace HA1 := Lib.hid HA1
      replace HA2 := Lib.hid HA2
      replace HB1 := Lib.hid HB1
      replace HB2 := Lib.hid HB2
      have HS := Lib.hid htab
      have hs2 : name.size ≤ 140737488351232 := hn
      clear htab hn
      go_enter Tryz.func4, Tryz.ntmps4
      go_wp2_with fail
      refine (works_any _ HS.out).mono ?_
      rintro e w1 ⟨rfl, hb⟩
      have E1 := Lib.hid hb
      clear hb
      go_wp2_with fail
      refine (cColon_any _ _ (HS.out.below (Nat.le_refl _) E1.out)).mono ?_
      rintro e a1 ⟨vl, ol, e1, rfl, hcl, hol, hb⟩
      have CL := Lib.hid hcl
      have RL := Lib.hid (class_row hcl hol)
      have D1 := Lib.hid (E1.out.trans (hb.mono E1.out.size))
      clear hcl hol hb
      go_wp2_with fail
      refine (cColon_any _ _ (HS.out.below (Nat.le_refl _) D1.out)).mono ?_
      rintro e a2 ⟨vm, om, f1, rfl, hcm, hom, hb⟩
      rw [hat_txt, HB1.out] at hcm
      have CM := Lib.hid hcm
      have OM := Lib.hid hom
      have RL' := Lib.hid (RL.out.below (Nat.le_refl _) hb)
      have D2 := Lib.hid (D1.out.trans (hb.mono D1.out.size))
      clear hcm hom hb RL D1
      go_wp2_with fail
      refine (cProp_any _ _ (HS.out.below (Nat.le_refl _) D2.out)).mono ?_
      rintro e a3 ⟨vp, op, g1, rfl, hcp, hop, hb⟩
      have CP := Lib.hid hcp
      have RP := Lib.hid (class_row hcp hop)
      have RL := Lib.hid (RL'.out.below (Nat.le_refl _) hb)
      have OM' := Lib.hid (OM.out.below hb)
      have D3 := Lib.hid (D2.out.trans (hb.mono D2.out.size))
      clear hcp hop hb RL' OM D2
      go_wp2_with fail
      refine (cProp_any _ _ (HS.out.below (Nat.le_refl _) D3.out)).mono ?_
      rintro e a4 ⟨vq, oq, h1, rfl, hcq, hoq, hb⟩
      rw [hat_txt, HB2.out] at hcq
      have CQ := Lib.hid hcq
      have OQ := Lib.hid hoq
      have RP' := Lib.hid (RP.out.below (Nat.le_refl _) hb)
      have RL' := Lib.hid (RL.out.below (Nat.le_refl _) hb)
      have OM := Lib.hid (OM'.out.below hb)
      have D4 := Lib.hid (D3.out.trans (hb.mono D3.out.size))
      clear hcq hoq hb RL RP OM' D3
      rw [HA1.out] at CL
      rw [HA2.out] at CP
      obtain rfl := CL.out.1
      obtain rfl := CM.out.1
      obtain rfl := CP.out.1
      obtain rfl := CQ.out.1
      have RM := Lib.hid (class_row CM.out OM.out)
      have RQ := Lib.hid (class_row CQ.out OQ.out)
      go_wp2_with fail
      refine (check_class _ _ CL.out RL'.out).mono ?_
      rintro e a5 ⟨rfl, hb⟩
      have D5 := Lib.hid (D4.out.trans (hb.mono D4.out.size))
      have RL := Lib.hid (RL'.out.below (Nat.le_refl _) hb)
      have RP := Lib.hid (RP'.out.below (Nat.le_refl _) hb)
      have RM' := Lib.hid (RM.out.below (Nat.le_refl _) hb)
      have RQ' := Lib.hid (RQ.out.below (Nat.le_refl _) hb)
      clear hb RL' RP' RM RQ D4 OM OQ
      go_wp2_with fail
      refine (check_class _ _ CP.out RP.out).mono ?_
      rintro e a6 ⟨rfl, hb⟩
      have D6 := Lib.hid (D5.out.trans (hb.mono D5.out.size))
      have RL' := Lib.hid (RL.out.below (Nat.le_refl _) hb)
      have RP' := Lib.hid (RP.out.below (Nat.le_refl _) hb)
      have RM := Lib.hid (RM'.out.below (Nat.le_refl _) hb)
      have RQ := Lib.hid (RQ'.out.below (Nat.le_refl _) hb)
      clear hb RL RP RM' RQ' D5
      go_wp2_with fail
      refine (not_any _ _ _ RL'.out).mono ?_
      rintro e a7 ⟨vn, on, rfl, hm, ho, hb⟩
      obtain rfl := not_class CL.out CM.out hm
      have RN := Lib.hid (ho.normRow hm.norm)
      have D7 := Lib.hid (D6.out.trans (hb.mono D6.out.size))
      have RM' := Lib.hid (RM.out.below (Nat.le_refl _) hb)
      have RP := Lib.hid (RP'.out.below (Nat.le_refl _) hb)
      have RQ' := Lib.hid (RQ.out.below (Nat.le_refl _) hb)
      clear hm ho hb RL' RM RP' RQ D6
      go_wp2_with fail
      refine (same_rg_b _ _ _ _ _ RN.out RM'.out true (by simp)).mono ?_
      rintro e a8 ⟨rfl, hb⟩
      have D8 := Lib.hid (D7.out.trans (hb.mono D7.out.size))
      have RP' := Lib.hid (RP.out.below (Nat.le_refl _) hb)
      have RQ := Lib.hid (RQ'.out.below (Nat.le_refl _) hb)
      clear hb RN RM' RP RQ' D7
      go_wp2_with fail
      refine (not_any _ _ _ RP'.out).mono ?_
      rintro e a9 ⟨vn2, on2, rfl, hm, ho, hb⟩
      obtain rfl := not_class CP.out CQ.out hm
      have RN := Lib.hid (ho.normRow hm.norm)
      have D9 := Lib.hid (D8.out.trans (hb.mono D8.out.size))
      have RQ' := Lib.hid (RQ.out.below (Nat.le_refl _) hb)
      clear hm ho hb RP' RQ D8
      go_wp2_with fail
      refine (same_rg_b _ _ _ _ _ RN.out RQ'.out true (by simp)).mono ?_
      rintro e b1 ⟨rfl, hb⟩
      have D10 := Lib.hid (D9.out.trans (hb.mono D9.out.size))
      clear hb RN RQ' D9
      go_wp2
      go_ret
      exact ⟨rfl, D10.out⟩
end Go.Proofs.YtimgdooelbhjfaaGreatDoor
