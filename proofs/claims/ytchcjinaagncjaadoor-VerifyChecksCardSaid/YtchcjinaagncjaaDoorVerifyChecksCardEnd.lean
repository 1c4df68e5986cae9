/- burinlaw16.VerifyChecks: the row and its tied card. -/
import Derived.Test.YtchcjinaagncjaaDoorGp32
import Derived.Test.YtchcjinaagncjaaDoorGp34
import Derived.Test.YtchcjinaagncjaaDoorCards
import Derived.Test.YtchcjinaagncjaaDoorTie
import Derived.WalkKit
import Derived.ProofKit
import Derived.OpenShut
import Derived.ShutString
import Derived.ChangeOld
import Derived.Below
import Derived.SizedLaws
import Derived.Carry
import Derived.SevenTiedAt
namespace Go.Proofs.YtchcjinaagncjaaDoor.verifyChecks
open Go.ChangeShapes Go.WideShapes Go.ChangeAt Go.RowKit
open Go.ChangeMaps (open_string shut_string)
open Pgm
set_option linter.unusedVariables false
set_option maxRecDepth 100000 in
theorem lifted (os : Os) (started : os.Started) (H : Type) (enc : TypeId × Value → H) :
    ReturnsInHanded {} Tryd.checked os 5 .any (fun w args => (Rows.verifyChecksSpec.pre enc Tryd.prog Tryd.f5 [] false w args ∧ laidMetH Tryd.prog laid16 w) ∧ sizedMet enc Tryd.prog Tryd.f5 (OpenSpec.ofChange Rows.verifyChecksSpec) false w args)
      (Rows.verifyChecksSpec.post enc Tryd.prog Tryd.f5 false true false false) := by
  refine returnsInHanded_of_change_and_shaped (C := Tryd.checked) (X := fun w _ => laidMetH Tryd.prog laid16 w) (fun _ _ _ hh h => h.of_heap hh) own16 started (by kernel_rfl) Tryd.func5
    (ChangeSpec.witness_shaped (enc := enc) (C := Tryd.checked) (os := os) (X := fun w _ => laidMetH Tryd.prog laid16 w) false (World.doorLaid Tryd.prog 52 os) #[.agg #[.slice none 0 0, .int .i64 0, .int .i64 0], .int .i64 0] 8 rfl (World.shaped_of_RefB (by kernel_rfl) (by kernel_rfl)) (by kernel_rfl) (by kernel_rfl) (by kernel_rfl) (door16 os _)) ?_
  intro W base args ds gs before hval0 hW hcnd hsz0 hL hsh _
  have htab := ev16_of hL hsh
  have hval : ∀ (j : Nat) t v, Tryd.f5.params[j]? = some t → args[j]? = some v → Value.okWide Tryd.prog W .any base t v := hval0
  have hsz : (DataW.weightsEach Tryd.prog (Tryd.f5.params.toList ++ Rows.verifyChecksSpec.plain.varTypes Tryd.prog) (ds ++ gs)).all (· ≤ reachBytes) = true := hsz0
  have hW' := hW
  obtain ⟨p, q, hA0, hV, rfl, hfz, hnd⟩ := hW
  have hA : DataW.TrodAll enc Tryd.prog W 0 (fun _ => true) true Tryd.f5.params.toList args.toList ds p := hA0
  rw [Tryd.params5] at hA hval hsz
  obtain ⟨v0, vs0, d0, ds0, p0, q0, hargs, rfl, rfl, h0, r0⟩ := trodAll_cons hA
  obtain ⟨v1, vs1, d1, ds1, p1, q1, rfl, rfl, rfl, h1, r1⟩ := trodAll_cons r0
  obtain ⟨rfl, rfl, rfl⟩ := trodAll_nil r1
  obtain rfl : args = #[v0, v1] := by cases args; simp_all
  obtain ⟨rfl, rfl⟩ := trodVars_none hV
  simp only [List.append_nil] at hW'
  have lt0 : ∀ y ∈ p0, y.block < W.heap.size := fun y hy => by simpa using hW'.lt y (by simp [hy])
  obtain ⟨u0, a0, st0, sl0, rfl, w0, ws0, wl0⟩ := open_prog (hval 0 46 v0 rfl rfl) h0 (fun n hn => by have := List.all_eq_true.1 hsz _ (DataW.weights_mem_each (j := 0) (t := 46) rfl rfl n hn); simpa using this)
  obtain ⟨a1, rfl, rfl, rfl, w1⟩ := open_int Tryd.underlying3 (hval 1 3 v1 rfl rfl) h1
  clear hA0 hval0 hsz0
  refine (walkVerifyChecks W u0 a0 st0 sl0 a1 w0 ws0 wl0 w1 htab).mono fun e W' ⟨he, bel⟩ => ?_
  subst he
  exact ⟨_, rfl, _, _, _, [], _, [], hW', trodAll_mk1 (shut_bool Tryd.underlying4 _), (trodAll_cons_mk (Below.trod laidOut (by kernel_rfl) (of_decide_eq_true (by kernel_rfl)) h0 bel lt0) (trodAll_cons_mk (shut_int Tryd.underlying3 w1) trodAll_mk0)), rfl, bel.frame _, fun h => by cases h⟩
theorem j1 : j1B Tryd.prog 5 Tryd.f5 Rows.verifyChecksSpec Rows.verifyChecksRow = true := by kernel_rfl
theorem j2 : j2B Tryd.prog 5 Tryd.f5 Rows.verifyChecksSpec Rows.verifyChecksRow = true := by kernel_rfl
theorem j3 : j3B Tryd.prog 5 Tryd.f5 Rows.verifyChecksSpec Rows.verifyChecksRow = true := by kernel_rfl
theorem j4 : j4B Tryd.prog 5 Tryd.f5 Rows.verifyChecksSpec Rows.verifyChecksRow = true := by kernel_rfl
theorem j5 : j5B Tryd.prog 5 Tryd.f5 Rows.verifyChecksSpec Rows.verifyChecksRow = true := by kernel_rfl
theorem j6 : j6B Tryd.prog 5 Tryd.f5 Rows.verifyChecksSpec Rows.verifyChecksRow = true := by kernel_rfl
theorem j7 : j7B Tryd.prog 5 Tryd.f5 Rows.verifyChecksSpec Rows.verifyChecksRow = true := by kernel_rfl
theorem j8 : j8B Tryd.prog 5 Tryd.f5 Rows.verifyChecksSpec Rows.verifyChecksRow = true := by kernel_rfl
theorem j9 : j9B Tryd.prog 5 Tryd.f5 Rows.verifyChecksSpec Rows.verifyChecksRow = true := by kernel_rfl
theorem j10 : j10B Tryd.prog 5 Tryd.f5 Rows.verifyChecksSpec Rows.verifyChecksRow = true := by kernel_rfl
theorem j11 : j11B Tryd.prog 5 Tryd.f5 Rows.verifyChecksSpec Rows.verifyChecksRow = true := by kernel_rfl
theorem j0 : Tryd.pinned.checked.prog.funcNamed Rows.verifyChecksRow.func = some 5 := by kernel_rfl
theorem closed : joinedFacts Tryd.prog 5 Tryd.f5 Rows.verifyChecksSpec Rows.verifyChecksRow = true := joined_of _ _ _ _ _ j1 j2 j3 j4 j5 j6 j7 j8 j9 j10 j11
theorem over : Rows.verifyChecksRow.holds Tryd.pinned (OpenSpec.ofChange Rows.verifyChecksSpec) :=
  OpenClaim.holds_of_wide 5 Tryd.f5 rfl rfl rfl rfl rfl rfl rfl ⟨rfl, rfl, rfl, rfl, rfl⟩ rfl rfl rfl rfl rfl j0 Tryd.func5 closed
    (of_decide_eq_true (by kernel_rfl)) (by unfold Func.isWrapper; first | (rw [if_pos (by decide +kernel)]; kernel_rfl) | (rw [if_neg (by decide +kernel)]; exact ⟨rfl, rfl⟩))
    (fun os started H enc _ => lifted os started H enc)
theorem card_over : Rows.VerifyChecksCardSaid :=
  Claim7.holds_tied_plain_at .later [] [.data, .wider] true _ false
    over (fun _ h => by cases h) (by kernel_rfl) (fun _ h => by cases h) verifyChecks_row_tie rfl ⟨rfl, rfl⟩ (by kernel_rfl) rfl
    (fun f fn hf hfn => by
      obtain rfl : f = 5 := Option.some.inj ((show Tryd.prog.funcNamed "burin/burinlaw16.VerifyChecks" = some 5 by kernel_rfl).symm.trans hf) |>.symm
      obtain rfl : fn = Tryd.f5 := (Option.some.inj (Tryd.func5.symm.trans hfn)).symm
      exact ⟨by kernel_rfl, fun j t ht => by
        rw [Tryd.params5] at ht
        have hm : t ∈ [46, 3] := by simpa using Array.mem_of_getElem? ht
        have hall : ([46, 3].all fun u => !Tryd.prog.wantsStandIn u) = true := by kernel_rfl
        exact (show Tryd.prog.wantsStandIn t = false by simpa using List.all_eq_true.1 hall t hm)⟩)
    (by kernel_rfl)
end Go.Proofs.YtchcjinaagncjaaDoor.verifyChecks
namespace Go.Proofs.YtchcjinaagncjaaDoor
theorem verifyChecks_holds : Rows.VerifyChecksCardSaid := verifyChecks.card_over
#print axioms verifyChecks_holds
end Go.Proofs.YtchcjinaagncjaaDoor
