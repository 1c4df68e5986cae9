/- burinlaw09.ParseDeep: so many brackets around a letter are read as that letter; with five groups among them the tree is as deep as these, and the letter (of 900 to 1015 brackets). For every int of the machine. -/
import Derived.Test.YtdcielcniboloaaGreatDoorParseDeepCardOwn
import Derived.Test.YtdcielcniboloaaGreatDoorGp40
import Derived.Test.YtdcielcniboloaaGreatDoorCards
import Derived.Test.YtdcielcniboloaaGreatDoorTie
import Derived.WalkKit
import Derived.ProofKit
import Derived.OpenShut
import Derived.ShutString
import Derived.ChangeOld
import Derived.Below
import Derived.SizedLaws
import Derived.Carry
import Derived.SevenTiedAt
namespace Go.Proofs.YtdcielcniboloaaGreatDoor.parseDeep
open Go.ChangeShapes Go.WideShapes Go.ChangeAt Go.RowKit
open Go.ChangeMaps (open_string shut_string)
set_option linter.unusedVariables false
set_option maxRecDepth 100000 in
theorem lifted (os : Os) (started : os.Started) (H : Type) (enc : TypeId × Value → H) :
    ReturnsInHanded {} Tryz.checked os 7 .any (fun w args => (Rows.parseDeepSpec.pre enc Tryz.prog Tryz.f7 [] false w args ∧ laidMetH Tryz.prog laid8 w) ∧ sizedMet enc Tryz.prog Tryz.f7 (OpenSpec.ofChange Rows.parseDeepSpec) false w args)
      (Rows.parseDeepSpec.post enc Tryz.prog Tryz.f7 false true false false) := by
  refine returnsInHanded_of_change_and_shaped (C := Tryz.checked) (X := fun w _ => laidMetH Tryz.prog laid8 w) (fun _ _ _ hh h => h.of_heap hh) own8 started (by kernel_rfl) Tryz.func7
    (ChangeSpec.witness_shaped (enc := enc) (C := Tryz.checked) (os := os) (X := fun w _ => laidMetH Tryz.prog laid8 w) false (pinW (World.doorLaid Tryz.prog 96 os)) #[.int .i64 0] 8 rfl (World.shaped_of_RefB (by kernel_rfl) (by kernel_rfl)) (by kernel_rfl) (by kernel_rfl) (by kernel_rfl) (door8 os _)) ?_
  intro W base args ds gs before hval0 hW hcnd hsz0 hL hsh _
  have htab := ev_of hL hsh
  have hval : ∀ (j : Nat) t v, Tryz.f7.params[j]? = some t → args[j]? = some v → Value.okWide Tryz.prog W .any base t v := hval0
  have hsz : (DataW.weightsEach Tryz.prog (Tryz.f7.params.toList ++ Rows.parseDeepSpec.plain.varTypes Tryz.prog) (ds ++ gs)).all (· ≤ reachBytes) = true := hsz0
  have hW' := hW
  obtain ⟨p, q, hA0, hV, rfl, hfz, hnd⟩ := hW
  have hA : DataW.TrodAll enc Tryz.prog W 0 (fun _ => true) true Tryz.f7.params.toList args.toList ds p := hA0
  rw [Tryz.params7] at hA hval hsz
  obtain ⟨v0, vs0, d0, ds0, p0, q0, hargs, rfl, rfl, h0, r0⟩ := trodAll_cons hA
  obtain ⟨rfl, rfl, rfl⟩ := trodAll_nil r0
  obtain rfl : args = #[v0] := by cases args; simp_all
  obtain ⟨rfl, rfl⟩ := trodVars_none hV
  simp only [List.append_nil] at hW'
  obtain ⟨a0, rfl, rfl, rfl, w0⟩ := open_int Tryz.underlying3 (hval 0 3 v0 rfl rfl) h0
  clear hA0 hval0 hsz0
  refine (walkParseDeep W a0 w0 htab).mono fun e W' ⟨he, bel⟩ => ?_
  subst he
  exact ⟨_, rfl, _, _, _, [], _, [], hW', trodAll_mk1 (shut_bool Tryz.underlying4 _), (trodAll_cons_mk (shut_int Tryz.underlying3 w0) trodAll_mk0), rfl, bel.frame _, fun h => by cases h⟩
theorem j1 : j1B Tryz.prog 7 Tryz.f7 Rows.parseDeepSpec Rows.parseDeepRow = true := by kernel_rfl
theorem j2 : j2B Tryz.prog 7 Tryz.f7 Rows.parseDeepSpec Rows.parseDeepRow = true := by kernel_rfl
theorem j3 : j3B Tryz.prog 7 Tryz.f7 Rows.parseDeepSpec Rows.parseDeepRow = true := by kernel_rfl
theorem j4 : j4B Tryz.prog 7 Tryz.f7 Rows.parseDeepSpec Rows.parseDeepRow = true := by kernel_rfl
theorem j5 : j5B Tryz.prog 7 Tryz.f7 Rows.parseDeepSpec Rows.parseDeepRow = true := by kernel_rfl
theorem j6 : j6B Tryz.prog 7 Tryz.f7 Rows.parseDeepSpec Rows.parseDeepRow = true := by kernel_rfl
theorem j7 : j7B Tryz.prog 7 Tryz.f7 Rows.parseDeepSpec Rows.parseDeepRow = true := by kernel_rfl
theorem j8 : j8B Tryz.prog 7 Tryz.f7 Rows.parseDeepSpec Rows.parseDeepRow = true := by kernel_rfl
theorem j9 : j9B Tryz.prog 7 Tryz.f7 Rows.parseDeepSpec Rows.parseDeepRow = true := by kernel_rfl
theorem j10 : j10B Tryz.prog 7 Tryz.f7 Rows.parseDeepSpec Rows.parseDeepRow = true := by kernel_rfl
theorem j11 : j11B Tryz.prog 7 Tryz.f7 Rows.parseDeepSpec Rows.parseDeepRow = true := by kernel_rfl
theorem j0 : Tryz.pinned.checked.prog.funcNamed Rows.parseDeepRow.func = some 7 := by kernel_rfl
theorem closed : joinedFacts Tryz.prog 7 Tryz.f7 Rows.parseDeepSpec Rows.parseDeepRow = true := joined_of _ _ _ _ _ j1 j2 j3 j4 j5 j6 j7 j8 j9 j10 j11
theorem over : Rows.parseDeepRow.holds Tryz.pinned (OpenSpec.ofChange Rows.parseDeepSpec) :=
  OpenClaim.holds_of_wide 7 Tryz.f7 rfl rfl rfl rfl rfl rfl rfl ⟨rfl, rfl, rfl, rfl, rfl⟩ rfl rfl rfl rfl rfl j0 Tryz.func7 closed
    (of_decide_eq_true (by kernel_rfl)) (by unfold Func.isWrapper; first | (rw [if_pos (by decide +kernel)]; kernel_rfl) | (rw [if_neg (by decide +kernel)]; exact ⟨rfl, rfl⟩))
    (fun os started H enc _ => lifted os started H enc)
theorem card_over : Rows.ParseDeepCardSaid :=
  Claim7.holds_tied_plain_at .later [] [.data, .data, .data, .data, .sentinel, .sentinel, .listed, .data, .pinned] true _ true
    over (fun _ h => by cases h) (by kernel_rfl) (fun _ h => by cases h) parseDeep_row_tie rfl ⟨rfl, rfl⟩ (by kernel_rfl) rfl
    (fun f fn hf hfn => by
      obtain rfl : f = 7 := Option.some.inj ((show Tryz.prog.funcNamed "burin/burinlaw09.ParseDeep" = some 7 by kernel_rfl).symm.trans hf) |>.symm
      obtain rfl : fn = Tryz.f7 := (Option.some.inj (Tryz.func7.symm.trans hfn)).symm
      exact ⟨by kernel_rfl, fun j t ht => by
        rw [Tryz.params7] at ht
        have hm : t ∈ [3] := by simpa using Array.mem_of_getElem? ht
        have hall : ([3].all fun u => !Tryz.prog.wantsStandIn u) = true := by kernel_rfl
        exact (show Tryz.prog.wantsStandIn t = false by simpa using List.all_eq_true.1 hall t hm)⟩)
    (by kernel_rfl)
end Go.Proofs.YtdcielcniboloaaGreatDoor.parseDeep
namespace Go.Proofs.YtdcielcniboloaaGreatDoor
theorem parseDeep_holds : Rows.ParseDeepCardSaid := parseDeep.card_over
#print axioms parseDeep_holds
end Go.Proofs.YtdcielcniboloaaGreatDoor
