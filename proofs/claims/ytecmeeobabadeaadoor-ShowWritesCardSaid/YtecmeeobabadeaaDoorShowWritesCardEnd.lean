/- burinlaw10.ShowWrites: any tree as a pattern, or why it is none, is as the document has it (of at most 600 nodes, and no more than 40 deep). For every tree of the machine. -/
import Derived.Test.YtecmeeobabadeaaDoorGp30
import Derived.Test.YtecmeeobabadeaaDoorCards
import Derived.Test.YtecmeeobabadeaaDoorTie
import Derived.WalkKit
import Derived.ProofKit
import Derived.OpenShut
import Derived.ShutString
import Derived.ChangeOld
import Derived.Below
import Derived.SizedLaws
import Derived.Carry
import Derived.SevenTiedAt
namespace Go.Proofs.YtecmeeobabadeaaDoor.showWrites
open Go.ChangeShapes Go.WideShapes Go.ChangeAt Go.RowKit
open Go.ChangeMaps (open_string shut_string)
set_option linter.unusedVariables false
set_option maxRecDepth 100000 in
theorem lifted (os : Os) (started : os.Started) (H : Type) (enc : TypeId × Value → H) :
    ReturnsInHanded {} Tryd.checked os 3 .any (fun w args => (Rows.showWritesSpec.pre enc Tryd.prog Tryd.f3 [] false w args ∧ laidMetH Tryd.prog laid10 w) ∧ sizedMet enc Tryd.prog Tryd.f3 (OpenSpec.ofChange Rows.showWritesSpec) false w args)
      (Rows.showWritesSpec.post enc Tryd.prog Tryd.f3 false true false false) := by
  refine returnsInHanded_of_change_and (C := Tryd.checked) (X := fun w _ => laidMetH Tryd.prog laid10 w) (fun _ _ _ hh h => h.of_heap hh) own10 started (by kernel_rfl) Tryd.func3
    (ChangeSpec.witness_shaped (enc := enc) (C := Tryd.checked) (os := os) (X := fun w _ => laidMetH Tryd.prog laid10 w) false (World.doorLaid Tryd.prog 24 os) #[.agg #[.int .i64 0, .slice none 0 0, .int .i64 0, .string ByteArray.empty, .int .i64 0, .int .i64 0, .bool false, .slice none 0 0]] 8 rfl (World.shaped_of_RefB (by kernel_rfl) (by kernel_rfl)) (by kernel_rfl) (by kernel_rfl) (by kernel_rfl) (door10 os _)) ?_
  intro W base args ds gs before hval0 hW hcnd hsz0 hL _
  have htab := evs_of hL
  have hval : ∀ (j : Nat) t v, Tryd.f3.params[j]? = some t → args[j]? = some v → Value.okWide Tryd.prog W .any base t v := hval0
  have hsz : (DataW.weightsEach Tryd.prog (Tryd.f3.params.toList ++ Rows.showWritesSpec.plain.varTypes Tryd.prog) (ds ++ gs)).all (· ≤ reachBytes) = true := hsz0
  have hW' := hW
  obtain ⟨p, q, hA0, hV, rfl, hfz, hnd⟩ := hW
  have hA : DataW.TrodAll enc Tryd.prog W 0 (fun _ => true) true Tryd.f3.params.toList args.toList ds p := hA0
  rw [Tryd.params3] at hA hval hsz
  obtain ⟨v0, vs0, d0, ds0, p0, q0, hargs, rfl, rfl, h0, r0⟩ := trodAll_cons hA
  obtain ⟨rfl, rfl, rfl⟩ := trodAll_nil r0
  obtain rfl : args = #[v0] := by cases args; simp_all
  obtain ⟨rfl, rfl⟩ := trodVars_none hV
  simp only [List.append_nil] at hW'
  have lt0 : ∀ y ∈ p0, y.block < W.heap.size := fun y hy => by simpa using hW'.lt y (by simp [hy])
  obtain ⟨cs0, a0, rfl, w0⟩ := open_node (hval 0 25 v0 rfl rfl) h0 (fun n hn => by have := List.all_eq_true.1 hsz _ (DataW.weights_mem_each (j := 0) (t := 25) rfl rfl n hn); simpa using this)
  clear hA0 hval0 hsz0
  refine (walkShowWrites W cs0 a0 w0 htab).mono fun e W' ⟨he, bel⟩ => ?_
  subst he
  exact ⟨_, rfl, _, _, _, [], _, [], hW', trodAll_mk1 (shut_bool Tryd.underlying4 _), (trodAll_cons_mk (Below.trod laidOut (by kernel_rfl) (of_decide_eq_true (by kernel_rfl)) h0 bel lt0) trodAll_mk0), rfl, bel.frame _, fun h => by cases h⟩
theorem j1 : j1B Tryd.prog 3 Tryd.f3 Rows.showWritesSpec Rows.showWritesRow = true := by kernel_rfl
theorem j2 : j2B Tryd.prog 3 Tryd.f3 Rows.showWritesSpec Rows.showWritesRow = true := by kernel_rfl
theorem j3 : j3B Tryd.prog 3 Tryd.f3 Rows.showWritesSpec Rows.showWritesRow = true := by kernel_rfl
theorem j4 : j4B Tryd.prog 3 Tryd.f3 Rows.showWritesSpec Rows.showWritesRow = true := by kernel_rfl
theorem j5 : j5B Tryd.prog 3 Tryd.f3 Rows.showWritesSpec Rows.showWritesRow = true := by kernel_rfl
theorem j6 : j6B Tryd.prog 3 Tryd.f3 Rows.showWritesSpec Rows.showWritesRow = true := by kernel_rfl
theorem j7 : j7B Tryd.prog 3 Tryd.f3 Rows.showWritesSpec Rows.showWritesRow = true := by kernel_rfl
theorem j8 : j8B Tryd.prog 3 Tryd.f3 Rows.showWritesSpec Rows.showWritesRow = true := by kernel_rfl
theorem j9 : j9B Tryd.prog 3 Tryd.f3 Rows.showWritesSpec Rows.showWritesRow = true := by kernel_rfl
theorem j10 : j10B Tryd.prog 3 Tryd.f3 Rows.showWritesSpec Rows.showWritesRow = true := by kernel_rfl
theorem j11 : j11B Tryd.prog 3 Tryd.f3 Rows.showWritesSpec Rows.showWritesRow = true := by kernel_rfl
theorem j0 : Tryd.pinned.checked.prog.funcNamed Rows.showWritesRow.func = some 3 := by kernel_rfl
theorem closed : joinedFacts Tryd.prog 3 Tryd.f3 Rows.showWritesSpec Rows.showWritesRow = true := joined_of _ _ _ _ _ j1 j2 j3 j4 j5 j6 j7 j8 j9 j10 j11
theorem over : Rows.showWritesRow.holds Tryd.pinned (OpenSpec.ofChange Rows.showWritesSpec) :=
  OpenClaim.holds_of_wide 3 Tryd.f3 rfl rfl rfl rfl rfl rfl rfl ⟨rfl, rfl, rfl, rfl, rfl⟩ rfl rfl rfl rfl rfl j0 Tryd.func3 closed
    (of_decide_eq_true (by kernel_rfl)) (by unfold Func.isWrapper; first | (rw [if_pos (by decide +kernel)]; kernel_rfl) | (rw [if_neg (by decide +kernel)]; exact ⟨rfl, rfl⟩))
    (fun os started H enc _ => lifted os started H enc)
theorem card_over : Rows.ShowWritesCardSaid :=
  Claim7.holds_tied_plain_at .later [] [.data, .data, .data] true _ true
    over (fun _ h => by cases h) (by kernel_rfl) (fun _ h => by cases h) showWrites_row_tie rfl ⟨rfl, rfl⟩ (by kernel_rfl) rfl
    (fun f fn hf hfn => by
      obtain rfl : f = 3 := Option.some.inj ((show Tryd.prog.funcNamed "burin/burinlaw10.ShowWrites" = some 3 by kernel_rfl).symm.trans hf) |>.symm
      obtain rfl : fn = Tryd.f3 := (Option.some.inj (Tryd.func3.symm.trans hfn)).symm
      exact ⟨by kernel_rfl, fun j t ht => by
        rw [Tryd.params3] at ht
        have hm : t ∈ [25] := by simpa using Array.mem_of_getElem? ht
        have hall : ([25].all fun u => !Tryd.prog.wantsStandIn u) = true := by kernel_rfl
        exact (show Tryd.prog.wantsStandIn t = false by simpa using List.all_eq_true.1 hall t hm)⟩)
    (by kernel_rfl)
end Go.Proofs.YtecmeeobabadeaaDoor.showWrites
namespace Go.Proofs.YtecmeeobabadeaaDoor
theorem showWrites_holds : Rows.ShowWritesCardSaid := showWrites.card_over
#print axioms showWrites_holds
end Go.Proofs.YtecmeeobabadeaaDoor
