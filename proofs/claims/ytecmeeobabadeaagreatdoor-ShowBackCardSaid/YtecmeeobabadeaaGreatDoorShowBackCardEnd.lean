/- burinlaw10.ShowBack: a tree that is right, and whose pattern is not too long, is read from its pattern as just that tree (of at most 600 nodes, and no more than 40 deep). For every tree of the machine. -/
import Derived.Test.YtecmeeobabadeaaGreatDoorGp43
import Derived.Test.YtecmeeobabadeaaGreatDoorShowBackCardOwn
import Derived.Test.YtecmeeobabadeaaGreatDoorGp44
import Derived.Test.YtecmeeobabadeaaGreatDoorCards
import Derived.Test.YtecmeeobabadeaaGreatDoorTie
import Derived.WalkKit
import Derived.ProofKit
import Derived.OpenShut
import Derived.ShutString
import Derived.ChangeOld
import Derived.Below
import Derived.SizedLaws
import Derived.Carry
import Derived.SevenTiedAt
namespace Go.Proofs.YtecmeeobabadeaaGreatDoor.showBack
open Go.ChangeShapes Go.WideShapes Go.ChangeAt Go.RowKit
open Go.ChangeMaps (open_string shut_string)
set_option linter.unusedVariables false
set_option maxRecDepth 100000 in
theorem lifted (os : Os) (started : os.Started) (H : Type) (enc : TypeId × Value → H) :
    ReturnsInHanded {} Tryz.checked os 4 .any (fun w args => (Rows.showBackSpec.pre enc Tryz.prog Tryz.f4 [] false w args ∧ laidMetH Tryz.prog laid8 w) ∧ sizedMet enc Tryz.prog Tryz.f4 (OpenSpec.ofChange Rows.showBackSpec) false w args)
      (Rows.showBackSpec.post enc Tryz.prog Tryz.f4 false true false false) := by
  refine returnsInHanded_of_change_and_shaped (C := Tryz.checked) (X := fun w _ => laidMetH Tryz.prog laid8 w) (fun _ _ _ hh h => h.of_heap hh) own8 started (by kernel_rfl) Tryz.func4
    (ChangeSpec.witness_shaped (enc := enc) (C := Tryz.checked) (os := os) (X := fun w _ => laidMetH Tryz.prog laid8 w) false (pinW (World.doorLaid Tryz.prog 96 os)) #[.agg #[.int .i64 0, .slice none 0 0, .int .i64 0, .string ByteArray.empty, .int .i64 0, .int .i64 0, .bool false, .slice none 0 0]] 8 rfl (World.shaped_of_RefB (by kernel_rfl) (by kernel_rfl)) (by kernel_rfl) (by kernel_rfl) (by kernel_rfl) (door8 os _)) ?_
  intro W base args ds gs before hval0 hW hcnd hsz0 hL hsh _
  have htab := ev_of hL hsh
  have htab2 := evs_of8 hL
  have hval : ∀ (j : Nat) t v, Tryz.f4.params[j]? = some t → args[j]? = some v → Value.okWide Tryz.prog W .any base t v := hval0
  have hsz : (DataW.weightsEach Tryz.prog (Tryz.f4.params.toList ++ Rows.showBackSpec.plain.varTypes Tryz.prog) (ds ++ gs)).all (· ≤ reachBytes) = true := hsz0
  have hW' := hW
  obtain ⟨p, q, hA0, hV, rfl, hfz, hnd⟩ := hW
  have hA : DataW.TrodAll enc Tryz.prog W 0 (fun _ => true) true Tryz.f4.params.toList args.toList ds p := hA0
  rw [Tryz.params4] at hA hval hsz
  obtain ⟨v0, vs0, d0, ds0, p0, q0, hargs, rfl, rfl, h0, r0⟩ := trodAll_cons hA
  obtain ⟨rfl, rfl, rfl⟩ := trodAll_nil r0
  obtain rfl : args = #[v0] := by cases args; simp_all
  obtain ⟨rfl, rfl⟩ := trodVars_none hV
  simp only [List.append_nil] at hW'
  have lt0 : ∀ y ∈ p0, y.block < W.heap.size := fun y hy => by simpa using hW'.lt y (by simp [hy])
  obtain ⟨cs0, a0, rfl, w0⟩ := open_node (hval 0 26 v0 rfl rfl) h0 (fun n hn => by have := List.all_eq_true.1 hsz _ (DataW.weights_mem_each (j := 0) (t := 26) rfl rfl n hn); simpa using this)
  clear hA0 hval0 hsz0
  refine (walkShowBack W cs0 a0 w0 htab htab2).mono fun e W' ⟨he, bel⟩ => ?_
  subst he
  exact ⟨_, rfl, _, _, _, [], _, [], hW', trodAll_mk1 (shut_bool Tryz.underlying4 _), (trodAll_cons_mk (Below.trod laidOut (by kernel_rfl) (of_decide_eq_true (by kernel_rfl)) h0 bel lt0) trodAll_mk0), rfl, bel.frame _, fun h => by cases h⟩
theorem j1 : j1B Tryz.prog 4 Tryz.f4 Rows.showBackSpec Rows.showBackRow = true := by kernel_rfl
theorem j2 : j2B Tryz.prog 4 Tryz.f4 Rows.showBackSpec Rows.showBackRow = true := by kernel_rfl
theorem j3 : j3B Tryz.prog 4 Tryz.f4 Rows.showBackSpec Rows.showBackRow = true := by kernel_rfl
theorem j4 : j4B Tryz.prog 4 Tryz.f4 Rows.showBackSpec Rows.showBackRow = true := by kernel_rfl
theorem j5 : j5B Tryz.prog 4 Tryz.f4 Rows.showBackSpec Rows.showBackRow = true := by kernel_rfl
theorem j6 : j6B Tryz.prog 4 Tryz.f4 Rows.showBackSpec Rows.showBackRow = true := by kernel_rfl
theorem j7 : j7B Tryz.prog 4 Tryz.f4 Rows.showBackSpec Rows.showBackRow = true := by kernel_rfl
theorem j8 : j8B Tryz.prog 4 Tryz.f4 Rows.showBackSpec Rows.showBackRow = true := by kernel_rfl
theorem j9 : j9B Tryz.prog 4 Tryz.f4 Rows.showBackSpec Rows.showBackRow = true := by kernel_rfl
theorem j10 : j10B Tryz.prog 4 Tryz.f4 Rows.showBackSpec Rows.showBackRow = true := by kernel_rfl
theorem j11 : j11B Tryz.prog 4 Tryz.f4 Rows.showBackSpec Rows.showBackRow = true := by kernel_rfl
theorem j0 : Tryz.pinned.checked.prog.funcNamed Rows.showBackRow.func = some 4 := by kernel_rfl
theorem closed : joinedFacts Tryz.prog 4 Tryz.f4 Rows.showBackSpec Rows.showBackRow = true := joined_of _ _ _ _ _ j1 j2 j3 j4 j5 j6 j7 j8 j9 j10 j11
theorem over : Rows.showBackRow.holds Tryz.pinned (OpenSpec.ofChange Rows.showBackSpec) :=
  OpenClaim.holds_of_wide 4 Tryz.f4 rfl rfl rfl rfl rfl rfl rfl ⟨rfl, rfl, rfl, rfl, rfl⟩ rfl rfl rfl rfl rfl j0 Tryz.func4 closed
    (of_decide_eq_true (by kernel_rfl)) (by unfold Func.isWrapper; first | (rw [if_pos (by decide +kernel)]; kernel_rfl) | (rw [if_neg (by decide +kernel)]; exact ⟨rfl, rfl⟩))
    (fun os started H enc _ => lifted os started H enc)
theorem card_over : Rows.ShowBackCardSaid :=
  Claim7.holds_tied_plain_at .later [] [.data, .data, .data, .data, .sentinel, .sentinel, .listed, .data, .pinned] true _ true
    over (fun _ h => by cases h) (by kernel_rfl) (fun _ h => by cases h) showBack_row_tie rfl ⟨rfl, rfl⟩ (by kernel_rfl) rfl
    (fun f fn hf hfn => by
      obtain rfl : f = 4 := Option.some.inj ((show Tryz.prog.funcNamed "burin/burinlaw10.ShowBack" = some 4 by kernel_rfl).symm.trans hf) |>.symm
      obtain rfl : fn = Tryz.f4 := (Option.some.inj (Tryz.func4.symm.trans hfn)).symm
      exact ⟨by kernel_rfl, fun j t ht => by
        rw [Tryz.params4] at ht
        have hm : t ∈ [26] := by simpa using Array.mem_of_getElem? ht
        have hall : ([26].all fun u => !Tryz.prog.wantsStandIn u) = true := by kernel_rfl
        exact (show Tryz.prog.wantsStandIn t = false by simpa using List.all_eq_true.1 hall t hm)⟩)
    (by kernel_rfl)
end Go.Proofs.YtecmeeobabadeaaGreatDoor.showBack
namespace Go.Proofs.YtecmeeobabadeaaGreatDoor
theorem showBack_holds : Rows.ShowBackCardSaid := showBack.card_over
#print axioms showBack_holds
end Go.Proofs.YtecmeeobabadeaaGreatDoor
