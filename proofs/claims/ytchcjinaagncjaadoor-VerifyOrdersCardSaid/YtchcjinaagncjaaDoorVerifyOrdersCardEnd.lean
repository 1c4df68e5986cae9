/- burinlaw16.VerifyOrders: the row and its tied card. -/
import Derived.Test.YtchcjinaagncjaaDoorVerifyOrdersCardOwn
import Derived.Test.YtchcjinaagncjaaDoorGp29
import Derived.Test.YtchcjinaagncjaaDoorGp30
import Derived.Test.YtchcjinaagncjaaDoorCards
import Derived.Test.YtchcjinaagncjaaDoorTie
import Derived.WalkKit
import Derived.ProofKit
import Derived.OpenShut
import Derived.ShutString
import Derived.ChangeOld
import Derived.Below
import Derived.SizedLaws
import Derived.Carry
import Derived.SevenTiedAt
namespace Go.Proofs.YtchcjinaagncjaaDoor.verifyOrders
open Go.ChangeShapes Go.WideShapes Go.ChangeAt Go.RowKit
open Go.ChangeMaps (open_string shut_string)
open Pgm
set_option linter.unusedVariables false
set_option maxRecDepth 100000 in
theorem lifted (os : Os) (started : os.Started) (H : Type) (enc : TypeId × Value → H) :
    ReturnsInHanded {} Tryd.checked os 6 .any (fun w args => (Rows.verifyOrdersSpec.pre enc Tryd.prog Tryd.f6 [] false w args ∧ laidMetH Tryd.prog laid16 w) ∧ sizedMet enc Tryd.prog Tryd.f6 (OpenSpec.ofChange Rows.verifyOrdersSpec) false w args)
      (Rows.verifyOrdersSpec.post enc Tryd.prog Tryd.f6 false true false false) := by
  refine returnsInHanded_of_change_and_shaped (C := Tryd.checked) (X := fun w _ => laidMetH Tryd.prog laid16 w) (fun _ _ _ hh h => h.of_heap hh) own16 started (by kernel_rfl) Tryd.func6
    (ChangeSpec.witness_shaped (enc := enc) (C := Tryd.checked) (os := os) (X := fun w _ => laidMetH Tryd.prog laid16 w) false (World.doorLaid Tryd.prog 52 os) #[.agg #[.slice none 0 0, .int .i64 0, .int .i64 0]] 8 rfl (World.shaped_of_RefB (by kernel_rfl) (by kernel_rfl)) (by kernel_rfl) (by kernel_rfl) (by kernel_rfl) (door16 os _)) ?_
  intro W base args ds gs before hval0 hW hcnd hsz0 hL hsh _
  have htab := ev16_of hL hsh
  have hval : ∀ (j : Nat) t v, Tryd.f6.params[j]? = some t → args[j]? = some v → Value.okWide Tryd.prog W .any base t v := hval0
  have hsz : (DataW.weightsEach Tryd.prog (Tryd.f6.params.toList ++ Rows.verifyOrdersSpec.plain.varTypes Tryd.prog) (ds ++ gs)).all (· ≤ reachBytes) = true := hsz0
  have hW' := hW
  obtain ⟨p, q, hA0, hV, rfl, hfz, hnd⟩ := hW
  have hA : DataW.TrodAll enc Tryd.prog W 0 (fun _ => true) true Tryd.f6.params.toList args.toList ds p := hA0
  rw [Tryd.params6] at hA hval hsz
  obtain ⟨v0, vs0, d0, ds0, p0, q0, hargs, rfl, rfl, h0, r0⟩ := trodAll_cons hA
  obtain ⟨rfl, rfl, rfl⟩ := trodAll_nil r0
  obtain rfl : args = #[v0] := by cases args; simp_all
  obtain ⟨rfl, rfl⟩ := trodVars_none hV
  simp only [List.append_nil] at hW'
  have lt0 : ∀ y ∈ p0, y.block < W.heap.size := fun y hy => by simpa using hW'.lt y (by simp [hy])
  obtain ⟨u0, a0, st0, sl0, rfl, w0, ws0, wl0⟩ := open_prog (hval 0 46 v0 rfl rfl) h0 (fun n hn => by have := List.all_eq_true.1 hsz _ (DataW.weights_mem_each (j := 0) (t := 46) rfl rfl n hn); simpa using this)
  clear hA0 hval0 hsz0
  refine (walkVerifyOrders W u0 a0 st0 sl0 w0 ws0 wl0 htab).mono fun e W' ⟨he, bel⟩ => ?_
  subst he
  exact ⟨_, rfl, _, _, _, [], _, [], hW', trodAll_mk1 (shut_bool Tryd.underlying4 _), (trodAll_cons_mk (Below.trod laidOut (by kernel_rfl) (of_decide_eq_true (by kernel_rfl)) h0 bel lt0) trodAll_mk0), rfl, bel.frame _, fun h => by cases h⟩
theorem j1 : j1B Tryd.prog 6 Tryd.f6 Rows.verifyOrdersSpec Rows.verifyOrdersRow = true := by kernel_rfl
theorem j2 : j2B Tryd.prog 6 Tryd.f6 Rows.verifyOrdersSpec Rows.verifyOrdersRow = true := by kernel_rfl
theorem j3 : j3B Tryd.prog 6 Tryd.f6 Rows.verifyOrdersSpec Rows.verifyOrdersRow = true := by kernel_rfl
theorem j4 : j4B Tryd.prog 6 Tryd.f6 Rows.verifyOrdersSpec Rows.verifyOrdersRow = true := by kernel_rfl
theorem j5 : j5B Tryd.prog 6 Tryd.f6 Rows.verifyOrdersSpec Rows.verifyOrdersRow = true := by kernel_rfl
theorem j6 : j6B Tryd.prog 6 Tryd.f6 Rows.verifyOrdersSpec Rows.verifyOrdersRow = true := by kernel_rfl
theorem j7 : j7B Tryd.prog 6 Tryd.f6 Rows.verifyOrdersSpec Rows.verifyOrdersRow = true := by kernel_rfl
theorem j8 : j8B Tryd.prog 6 Tryd.f6 Rows.verifyOrdersSpec Rows.verifyOrdersRow = true := by kernel_rfl
theorem j9 : j9B Tryd.prog 6 Tryd.f6 Rows.verifyOrdersSpec Rows.verifyOrdersRow = true := by kernel_rfl
theorem j10 : j10B Tryd.prog 6 Tryd.f6 Rows.verifyOrdersSpec Rows.verifyOrdersRow = true := by kernel_rfl
theorem j11 : j11B Tryd.prog 6 Tryd.f6 Rows.verifyOrdersSpec Rows.verifyOrdersRow = true := by kernel_rfl
theorem j0 : Tryd.pinned.checked.prog.funcNamed Rows.verifyOrdersRow.func = some 6 := by kernel_rfl
theorem closed : joinedFacts Tryd.prog 6 Tryd.f6 Rows.verifyOrdersSpec Rows.verifyOrdersRow = true := joined_of _ _ _ _ _ j1 j2 j3 j4 j5 j6 j7 j8 j9 j10 j11
theorem over : Rows.verifyOrdersRow.holds Tryd.pinned (OpenSpec.ofChange Rows.verifyOrdersSpec) :=
  OpenClaim.holds_of_wide 6 Tryd.f6 rfl rfl rfl rfl rfl rfl rfl ⟨rfl, rfl, rfl, rfl, rfl⟩ rfl rfl rfl rfl rfl j0 Tryd.func6 closed
    (of_decide_eq_true (by kernel_rfl)) (by unfold Func.isWrapper; first | (rw [if_pos (by decide +kernel)]; kernel_rfl) | (rw [if_neg (by decide +kernel)]; exact ⟨rfl, rfl⟩))
    (fun os started H enc _ => lifted os started H enc)
theorem card_over : Rows.VerifyOrdersCardSaid :=
  Claim7.holds_tied_plain_at .later [] [.data, .wider] true _ false
    over (fun _ h => by cases h) (by kernel_rfl) (fun _ h => by cases h) verifyOrders_row_tie rfl ⟨rfl, rfl⟩ (by kernel_rfl) rfl
    (fun f fn hf hfn => by
      obtain rfl : f = 6 := Option.some.inj ((show Tryd.prog.funcNamed "burin/burinlaw16.VerifyOrders" = some 6 by kernel_rfl).symm.trans hf) |>.symm
      obtain rfl : fn = Tryd.f6 := (Option.some.inj (Tryd.func6.symm.trans hfn)).symm
      exact ⟨by kernel_rfl, fun j t ht => by
        rw [Tryd.params6] at ht
        have hm : t ∈ [46] := by simpa using Array.mem_of_getElem? ht
        have hall : ([46].all fun u => !Tryd.prog.wantsStandIn u) = true := by kernel_rfl
        exact (show Tryd.prog.wantsStandIn t = false by simpa using List.all_eq_true.1 hall t hm)⟩)
    (by kernel_rfl)
end Go.Proofs.YtchcjinaagncjaaDoor.verifyOrders
namespace Go.Proofs.YtchcjinaagncjaaDoor
theorem verifyOrders_holds : Rows.VerifyOrdersCardSaid := verifyOrders.card_over
#print axioms verifyOrders_holds
end Go.Proofs.YtchcjinaagncjaaDoor
