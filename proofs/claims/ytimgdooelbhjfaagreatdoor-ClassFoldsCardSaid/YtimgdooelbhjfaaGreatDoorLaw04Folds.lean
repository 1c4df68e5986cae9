/- The walk of burinlaw04.ClassFolds. -/
import Derived.Test.YtimgdooelbhjfaaGreatDoorCw
import Derived.Test.YtimgdooelbhjfaaGreatDoorFnF
namespace Go.Proofs.YtimgdooelbhjfaaGreatDoor
open Go.RowKit Go.Shelf
set_option linter.unusedVariables false
namespace Cl
open Go.Proofs.YtimgdooelbhjfaaGreatDoor.Rg
def upB (x : Int) : Bool := decide (65 ≤ x) && decide (x ≤ 90)
def loB (x : Int) : Bool := decide (97 ≤ x) && decide (x ≤ 122)
def expB (x : Int) : Bool := upB x || loB x || decide (x = 8490) || decide (x = 383)
theorem fam_row {r : Int} (h : r ∈ Fd.members) : ∃ F ∈ Fd.famsT, r ∈ F ∧ Fd.fam r = F := by
  have h1 := List.all_eq_true.1 Fd.members_in r (by rw [Fd.membersE_eq]; exact h)
  rw [List.any_eq_true] at h1
  obtain ⟨F, hF, hr⟩ := h1
  have hr := (Fd.joinB_iff F r).1 hr
  refine ⟨F, hF, hr, ?_⟩
  have hok := List.all_eq_true.1 Fd.fams_ok F hF
  simp only [Fd.okF, Bool.and_eq_true] at hok
  have := List.all_eq_true.1 hok.2 r hr
  rw [← Fd.famF_eq]
  exact Fd.sameL_eq _ _ this
theorem fams_exp : (Fd.famsT.all fun F => F.all fun x => (F.any upB == expB x) && (F.any loB == expB x)) = true := by decide +kernel
theorem exp_mem {r : Int} (h : expB r = true) : r ∈ Fd.members := by
  rw [← Fd.membersE_eq]
  have a1 : ((List.range 26).all fun k => Fd.membersE.contains (65 + (k : Int)) && Fd.membersE.contains (97 + (k : Int))) = true := by decide +kernel
  have a2 : (8490 : Int) ∈ Fd.membersE := by decide +kernel
  have a3 : (383 : Int) ∈ Fd.membersE := by decide +kernel
  have key : ∀ k : Nat, k < 26 → (65 + (k : Int)) ∈ Fd.membersE ∧ (97 + (k : Int)) ∈ Fd.membersE := fun k hk => by
    have := List.all_eq_true.1 a1 k (List.mem_range.2 hk)
    simpa [List.contains_iff_mem] using this
  simp only [expB, upB, loB, Bool.or_eq_true, Bool.and_eq_true, decide_eq_true_eq] at h
  rcases h with ((h | h) | rfl) | rfl
  · have := (key (r - 65).toNat (by omega)).1
    rwa [show (65 : Int) + ((r - 65).toNat : Int) = r by omega] at this
  · have := (key (r - 97).toNat (by omega)).2
    rwa [show (97 : Int) + ((r - 97).toNat : Int) = r by omega] at this
  · exact a2
  · exact a3
theorem any_up (r : Int) : (Fd.fam r).any upB = expB r ∧ (Fd.fam r).any loB = expB r := by
  rcases Fd.fam_cases r with ⟨hm, hf⟩ | ⟨hm, _, _⟩
  · have he : expB r = false := by
      cases h : expB r with
      | false => rfl
      | true => exact absurd (exp_mem h) hm
    rw [hf, he]
    simp only [expB, Bool.or_eq_false_iff] at he
    simp [he.1.1.1, he.1.1.2]
  · obtain ⟨F, hF, hr, he⟩ := fam_row hm
    have := List.all_eq_true.1 (List.all_eq_true.1 fams_exp F hF) r hr
    simp only [Bool.and_eq_true, beq_iff_eq] at this
    rw [he]; exact this
theorem exp_range {q : Int} (h : expB q = true) : 0 ≤ q ∧ q ≤ 1114111 := by
  simp only [expB, upB, loB, Bool.or_eq_true, Bool.and_eq_true, decide_eq_true_eq] at h
  omega
theorem has_up : hasB (pairsOf [65, 90]) = upB := by
  funext q
  rw [Bool.eq_iff_iff]
  simp [hasB, pairsOf, upB]
  omega
theorem has_lo : hasB (pairsOf [97, 122]) = loB := by
  funext q
  rw [Bool.eq_iff_iff]
  simp [hasB, pairsOf, loB]
  omega
theorem close_up {l out : List (Int × Int)} (hc : ClassIs (some (false, [65, 90])) l 0) (h : ∀ q, hasB out q = Fd.clB l q) (q : Int) : hasB out q = expB q := by
  have e : hasB l = upB := by funext x; rw [class_has hc, has_up]
  rw [h, Fd.clB, e, (any_up q).1]
  cases he : expB q with
  | false => simp
  | true => have := exp_range he; simp [this]
theorem close_lo {l out : List (Int × Int)} (hc : ClassIs (some (false, [97, 122])) l 0) (h : ∀ q, hasB out q = Fd.clB l q) (q : Int) : hasB out q = expB q := by
  have e : hasB l = loB := by funext x; rw [class_has hc, has_lo]
  rw [h, Fd.clB, e, (any_up q).2]
  cases he : expB q with
  | false => simp
  | true => have := exp_range he; simp [this]
theorem has_alpha {l : List (Int × Int)} (hc : ClassIs (some (false, [65, 90, 97, 122])) l 0) (q : Int) : hasB l q = (upB q || loB q) := by
  rw [class_has hc, Bool.eq_iff_iff]
  simp [hasB, pairsOf, upB, loB]
  omega
theorem exp_of {q : Int} {B : Bool} (h : (upB q || loB q) = B) : expB q = (B || decide (q = 8490) || decide (q = 383)) := by unfold expB; rw [h]
end Cl
set_option maxRecDepth 100000 in
set_option maxHeartbeats 8000000 in
theorem walkClassFolds (W : World) (r : Int) (htab : Spaces W) :
    Calls Tryz.prog 6 #[.int .i64 r] W fun e w' => e = .returned (.bool true) ∧ Below W.heap.size W w' := by
  have HS := Lib.hid htab
  clear htab
  obtain ⟨B2, hB2⟩ : ∃ B2, (Cl.upB r || Cl.loB r) = B2 := ⟨_, rfl⟩
  obtain ⟨B1, hB1⟩ : ∃ B1, Cl.expB r = B1 := ⟨_, rfl⟩
  have HX : Hid (B1 = (B2 || decide (r = 8490) || decide (r = 383))) := Lib.hid (by rw [← hB1]; exact Cl.exp_of hB2)
  have HB2 := Lib.hid hB2
  have HB1 := Lib.hid hB1
  clear hB1 hB2
  go_enter Tryz.func6, Tryz.ntmps6
  go_wp2_with fail
  refine (works_any _ HS.out).mono ?_
  rintro e w1 ⟨rfl, hb⟩
  have E2 := Lib.hid hb
  clear hb
  go_wp2_with fail
  refine (set_any _ ⟨#[117, 112, 112, 101, 114]⟩ _ (by decide +kernel : setX (⟨#[117, 112, 112, 101, 114]⟩ : ByteArray).data.toList = some (false, [65, 90])) (HS.out.below (Nat.le_refl _) E2.out)).mono ?_
  rintro e a1 ⟨v1, o1, rfl, hc, ho, hb⟩
  have C1 := Lib.hid hc
  have R1 := Lib.hid (class_row hc ho)
  have E3 := Lib.hid (E2.out.trans (hb.mono E2.out.size))
  clear hc ho hb E2
  go_wp2_with fail
  refine (close_any _ _ _ R1.out).mono ?_
  rintro e a2 ⟨v2, o2, rfl, hn, hh, ho, hb⟩
  have N2 := Lib.hid hn
  have H2 := Lib.hid (Cl.close_up C1.out hh)
  have R2 := Lib.hid (ho.normRow hn)
  have E4 := Lib.hid (E3.out.trans (hb.mono E3.out.size))
  clear hn hh ho hb E3 R1 C1
  go_wp2_with fail
  refine (set_any _ ⟨#[108, 111, 119, 101, 114]⟩ _ (by decide +kernel : setX (⟨#[108, 111, 119, 101, 114]⟩ : ByteArray).data.toList = some (false, [97, 122])) (HS.out.below (Nat.le_refl _) E4.out)).mono ?_
  rintro e a3 ⟨v3, o3, rfl, hc, ho, hb⟩
  have C3 := Lib.hid hc
  have R3 := Lib.hid (class_row hc ho)
  have R2' := Lib.hid (R2.out.below (Nat.le_refl _) hb)
  have E5 := Lib.hid (E4.out.trans (hb.mono E4.out.size))
  clear hc ho hb E4 R2
  go_wp2_with fail
  refine (close_any _ _ _ R3.out).mono ?_
  rintro e a4 ⟨v4, o4, rfl, hn, hh, ho, hb⟩
  have he : o2 = o4 := Rg.norm_ext N2.out hn (fun q _ _ => by rw [H2.out q, Cl.close_lo C3.out hh q])
  have R4 := Lib.hid (ho.normRow hn)
  have R2 := Lib.hid (R2'.out.below (Nat.le_refl _) hb)
  have E6 := Lib.hid (E5.out.trans (hb.mono E5.out.size))
  have HE := Lib.hid he
  clear hn hh ho hb E5 R3 C3 R2' he
  go_wp2_with fail
  refine (same_rg_b _ _ _ _ _ R2.out R4.out true (decide_eq_true HE.out)).mono ?_
  rintro e a5 ⟨rfl, hb⟩
  have R2' := Lib.hid (R2.out.below (Nat.le_refl _) hb)
  have E7 := Lib.hid (E6.out.trans (hb.mono E6.out.size))
  clear hb E6 R2 R4
  go_wp2_with fail
  refine (has_rg _ _ _ _ B1 ((H2.out r).trans HB1.out) R2'.out).mono ?_
  rintro e a6 ⟨rfl, hb⟩
  have E8 := Lib.hid (E7.out.trans (hb.mono E7.out.size))
  clear hb E7 R2' HB1 H2
  go_wp2_with fail
  refine (set_any _ ⟨#[97, 108, 112, 104, 97]⟩ _ (by decide +kernel : setX (⟨#[97, 108, 112, 104, 97]⟩ : ByteArray).data.toList = some (false, [65, 90, 97, 122])) (HS.out.below (Nat.le_refl _) E8.out)).mono ?_
  rintro e a7 ⟨v7, o7, rfl, hc, ho, hb⟩
  have R7 := Lib.hid (class_row hc ho)
  have H7 := Lib.hid ((Cl.has_alpha hc r).trans HB2.out)
  have E9 := Lib.hid (E8.out.trans (hb.mono E8.out.size))
  clear hc ho hb E8 HB2
  go_wp2_with fail
  refine (has_rg _ _ _ _ B2 H7.out R7.out).mono ?_
  rintro e a8 ⟨rfl, hb⟩
  have E10 := Lib.hid (E9.out.trans (hb.mono E9.out.size))
  clear hb E9 R7 H7
  by_cases h1 : r = 8490
  · have hx := HX.out
    rw [decide_eq_true h1] at hx
    cases B2 <;> simp at hx <;> subst hx <;> clear HX <;> go_wp2 <;> go_ret <;> exact ⟨rfl, E10.out⟩
  · by_cases h2 : r = 383
    · have hx := HX.out
      rw [decide_eq_true h2] at hx
      cases B2 <;> simp at hx <;> subst hx <;> clear HX <;> go_wp2 <;> go_ret <;> exact ⟨rfl, E10.out⟩
    · have hx := HX.out
      rw [decide_eq_false h1, decide_eq_false h2] at hx
      have d1 : (r == 8490) = false := beq_eq_false_iff_ne.2 h1
      have d2 : (r == 383) = false := beq_eq_false_iff_ne.2 h2
      have d3 : decide (r = 8490) = false := decide_eq_false h1
      have d4 : decide (r = 383) = false := decide_eq_false h2
      cases B2 <;> simp at hx <;> subst hx <;> clear HX <;> go_wp2 <;> go_ret
      all_goals
        refine ⟨?_, E10.out⟩
        first | rfl | simp [h1, h2]
end Go.Proofs.YtimgdooelbhjfaaGreatDoor
