/- burinlaw10.ShowAgain: the tree of a pattern, shown, is read as the same tree and shown the same again, unless it is too long (of at most 200 bytes). For every string and every int of the machine. -/
import Derived.Test.YtanffablfgnioaaGreatDoorGp44
import Derived.Test.YtanffablfgnioaaGreatDoorCards
import Derived.Test.YtanffablfgnioaaGreatDoorTie
import Derived.WalkKit
import Derived.ProofKit
import Derived.OpenShut
import Derived.ShutString
import Derived.ChangeOld
import Derived.Below
import Derived.SizedLaws
import Derived.Carry
import Derived.SevenTiedAt
namespace Go.Proofs.YtanffablfgnioaaGreatDoor.showAgain
open Go.ChangeShapes Go.WideShapes Go.ChangeAt Go.RowKit
open Go.ChangeMaps (open_string shut_string)
set_option linter.unusedVariables false
set_option maxRecDepth 100000 in
theorem lifted (os : Os) (started : os.Started) (H : Type) (enc : TypeId × Value → H) :
    ReturnsInHanded {} Tryz.checked os 3 .any (fun w args => (Rows.showAgainSpec.pre enc Tryz.prog Tryz.f3 [] false w args ∧ laidMetH Tryz.prog laid8 w) ∧ sizedMet enc Tryz.prog Tryz.f3 (OpenSpec.ofChange Rows.showAgainSpec) false w args)
      (Rows.showAgainSpec.post enc Tryz.prog Tryz.f3 false true false false) := by
  refine returnsInHanded_of_change_and_shaped (C := Tryz.checked) (X := fun w _ => laidMetH Tryz.prog laid8 w) (fun _ _ _ hh h => h.of_heap hh) own8 started (by kernel_rfl) Tryz.func3
    (ChangeSpec.witness_shaped (enc := enc) (C := Tryz.checked) (os := os) (X := fun w _ => laidMetH Tryz.prog laid8 w) false (pinW (World.doorLaid Tryz.prog 96 os)) #[.string ByteArray.empty, .int .i64 0] 8 rfl (World.shaped_of_RefB (by kernel_rfl) (by kernel_rfl)) (by kernel_rfl) (by kernel_rfl) (by kernel_rfl) (door8 os _)) ?_
  intro W base args ds gs before hval0 hW hcnd hsz0 hL hsh _
  have htab := ev_of hL hsh
  have htab2 := evs_of8 hL
  have hval : ∀ (j : Nat) t v, Tryz.f3.params[j]? = some t → args[j]? = some v → Value.okWide Tryz.prog W .any base t v := hval0
  have hsz : (DataW.weightsEach Tryz.prog (Tryz.f3.params.toList ++ Rows.showAgainSpec.plain.varTypes Tryz.prog) (ds ++ gs)).all (· ≤ reachBytes) = true := hsz0
  have hW' := hW
  obtain ⟨p, q, hA0, hV, rfl, hfz, hnd⟩ := hW
  have hA : DataW.TrodAll enc Tryz.prog W 0 (fun _ => true) true Tryz.f3.params.toList args.toList ds p := hA0
  rw [Tryz.params3] at hA hval hsz
  obtain ⟨v0, vs0, d0, ds0, p0, q0, hargs, rfl, rfl, h0, r0⟩ := trodAll_cons hA
  obtain ⟨v1, vs1, d1, ds1, p1, q1, rfl, rfl, rfl, h1, r1⟩ := trodAll_cons r0
  obtain ⟨rfl, rfl, rfl⟩ := trodAll_nil r1
  obtain rfl : args = #[v0, v1] := by cases args; simp_all
  obtain ⟨rfl, rfl⟩ := trodVars_none hV
  simp only [List.append_nil] at hW'
  obtain ⟨a0, rfl, rfl, rfl, w0⟩ := open_string Tryz.underlying9 (hval 0 9 v0 rfl rfl) h0
  have b0 := sized_string hsz (j := 0) (t := 9) rfl rfl
  have c0 : a0.size ≤ 140737488351232 := by simp only [reachBytes, Array.length_toList] at b0; exact b0
  obtain ⟨a1, rfl, rfl, rfl, w1⟩ := open_int Tryz.underlying3 (hval 1 3 v1 rfl rfl) h1
  clear hA0 hval0 hsz0
  refine (walkShowAgain W a0 a1 c0 w1 htab htab2).mono fun e W' ⟨he, bel⟩ => ?_
  subst he
  exact ⟨_, rfl, _, _, _, [], _, [], hW', trodAll_mk1 (shut_bool Tryz.underlying4 _), (trodAll_cons_mk (shut_string Tryz.underlying9 w0) (trodAll_cons_mk (shut_int Tryz.underlying3 w1) trodAll_mk0)), rfl, bel.frame _, fun h => by cases h⟩
theorem j1 : j1B Tryz.prog 3 Tryz.f3 Rows.showAgainSpec Rows.showAgainRow = true := by kernel_rfl
theorem j2 : j2B Tryz.prog 3 Tryz.f3 Rows.showAgainSpec Rows.showAgainRow = true := by kernel_rfl
theorem j3 : j3B Tryz.prog 3 Tryz.f3 Rows.showAgainSpec Rows.showAgainRow = true := by kernel_rfl
theorem j4 : j4B Tryz.prog 3 Tryz.f3 Rows.showAgainSpec Rows.showAgainRow = true := by kernel_rfl
theorem j5 : j5B Tryz.prog 3 Tryz.f3 Rows.showAgainSpec Rows.showAgainRow = true := by kernel_rfl
theorem j6 : j6B Tryz.prog 3 Tryz.f3 Rows.showAgainSpec Rows.showAgainRow = true := by kernel_rfl
theorem j7 : j7B Tryz.prog 3 Tryz.f3 Rows.showAgainSpec Rows.showAgainRow = true := by kernel_rfl
theorem j8 : j8B Tryz.prog 3 Tryz.f3 Rows.showAgainSpec Rows.showAgainRow = true := by kernel_rfl
theorem j9 : j9B Tryz.prog 3 Tryz.f3 Rows.showAgainSpec Rows.showAgainRow = true := by kernel_rfl
theorem j10 : j10B Tryz.prog 3 Tryz.f3 Rows.showAgainSpec Rows.showAgainRow = true := by kernel_rfl
theorem j11 : j11B Tryz.prog 3 Tryz.f3 Rows.showAgainSpec Rows.showAgainRow = true := by kernel_rfl
theorem j0 : Tryz.pinned.checked.prog.funcNamed Rows.showAgainRow.func = some 3 := by kernel_rfl
theorem closed : joinedFacts Tryz.prog 3 Tryz.f3 Rows.showAgainSpec Rows.showAgainRow = true := joined_of _ _ _ _ _ j1 j2 j3 j4 j5 j6 j7 j8 j9 j10 j11
theorem over : Rows.showAgainRow.holds Tryz.pinned (OpenSpec.ofChange Rows.showAgainSpec) :=
  OpenClaim.holds_of_wide 3 Tryz.f3 rfl rfl rfl rfl rfl rfl rfl ⟨rfl, rfl, rfl, rfl, rfl⟩ rfl rfl rfl rfl rfl j0 Tryz.func3 closed
    (of_decide_eq_true (by kernel_rfl)) (by unfold Func.isWrapper; first | (rw [if_pos (by decide +kernel)]; kernel_rfl) | (rw [if_neg (by decide +kernel)]; exact ⟨rfl, rfl⟩))
    (fun os started H enc _ => lifted os started H enc)
theorem card_over : Rows.ShowAgainCardSaid :=
  Claim7.holds_tied_plain_at .later [] [.data, .data, .data, .data, .sentinel, .sentinel, .listed, .data, .pinned] true _ true
    over (fun _ h => by cases h) (by kernel_rfl) (fun _ h => by cases h) showAgain_row_tie rfl ⟨rfl, rfl⟩ (by kernel_rfl) rfl
    (fun f fn hf hfn => by
      obtain rfl : f = 3 := Option.some.inj ((show Tryz.prog.funcNamed "burin/burinlaw10.ShowAgain" = some 3 by kernel_rfl).symm.trans hf) |>.symm
      obtain rfl : fn = Tryz.f3 := (Option.some.inj (Tryz.func3.symm.trans hfn)).symm
      exact ⟨by kernel_rfl, fun j t ht => by
        rw [Tryz.params3] at ht
        have hm : t ∈ [9, 3] := by simpa using Array.mem_of_getElem? ht
        have hall : ([9, 3].all fun u => !Tryz.prog.wantsStandIn u) = true := by kernel_rfl
        exact (show Tryz.prog.wantsStandIn t = false by simpa using List.all_eq_true.1 hall t hm)⟩)
    (by kernel_rfl)
end Go.Proofs.YtanffablfgnioaaGreatDoor.showAgain
namespace Go.Proofs.YtanffablfgnioaaGreatDoor
theorem showAgain_holds : Rows.ShowAgainCardSaid := showAgain.card_over
#print axioms showAgain_holds
end Go.Proofs.YtanffablfgnioaaGreatDoor
