/- burinlaw07.BracketReads, walked. · What the rows' listed variables give the walks: a start that meets the list. · What the rows' listed variables, and the world's shape, give the walks. -/
import Derived.Test.YtmdpchiiamgnnaaGreatDoorGp22
import Derived.Test.YtmdpchiiamgnnaaGreatDoorGp33
import Derived.Test.YtmdpchiiamgnnaaGreatDoorGp5
import Derived.LaidMore
import Derived.Stop.Joined
import Derived.Stop.LaidErr
import Derived.Lib.LaidTab
import Derived.ProofKit
import Derived.HandedShaped
import Derived.Handed
namespace Go.Proofs.YtmdpchiiamgnnaaGreatDoor
open Go.RowKit
set_option linter.unusedVariables false
theorem brIs_norm {Xs : List Br.It} {fold neg : Bool} {out : List (Int × Int)} (h : Br.BrIs Xs fold neg out) : Rg.NormL out := by
  obtain ⟨_, _, _, _, hn, _⟩ := h
  exact hn
theorem row_nil (W : World) : RRow W (.slice none 0 0) [] := (RgOwn.nil (W := W) (base := 0)).row (by simp) (fun p hp => by cases hp)
set_option maxRecDepth 100000 in
set_option maxHeartbeats 8000000 in
theorem walkBracketReads (W : World) (s : ByteArray) (fl : Int) (hs : s.size ≤ 140737488351232) (hf : (Lit.int .i64 fl).wf = true) (hE : Ev W) : Calls Tryz.prog 3 #[.string s, .int .i64 fl] W fun e w' => e = .returned (.bool true) ∧ Below W.heap.size W w' := by
  have HE := Lib.hid hE
  clear hE
  by_cases h3 : 100 < s.size
  · have h3i : (100 : Int) < (s.size : Int) := by omega
    go_enter Tryz.func3, Tryz.ntmps3
    go_wp2_with fail
    refine (works7_any _ HE.out).mono ?_
    rintro e w1 ⟨rfl, hb⟩
    have HB := Lib.hid hb
    clear hb
    go_wp2
    go_ret
    exact ⟨rfl, HB.out⟩
  have h3i : ¬ (100 : Int) < (s.size : Int) := by omega
  obtain ⟨fo, hfo⟩ : ∃ fo, (bits .and .i64 fl 1 != 0) = fo := ⟨_, rfl⟩
  have HFO := Lib.hid hfo
  have HS4 : Hid (s.size ≤ 400) := Lib.hid (by omega)
  clear hfo h3
  go_enter Tryz.func3, Tryz.ntmps3
  go_wp2_with fail
  refine (brk_any _ s HS4.out fl fo HFO.out HE.out).mono ?_
  intro e w1 hp1
  rcases hp1 with ⟨hb1, ⟨o, c, hx, rfl⟩ | ⟨Xs, at_, v1, out1, hx, rfl, hi1, ho1⟩⟩
  · have HB1 := Lib.hid hb1
    have HX := Lib.hid hx
    clear hb1 hx
    go_wp2_with fail
    refine (refBrk_any _ s HS4.out fl fo HFO.out).mono ?_
    intro e w2 hp2
    rcases hp2 with ⟨hb2, ⟨o2, c2, hx2, rfl⟩ | ⟨Xs2, at2, v2, out2, hx2, rfl, hi2, ho2⟩⟩
    · have hoc : o2 = o ∧ c2 = c := by
        have := HX.out
        rw [hx2] at this
        injection this with h1 h2
        exact ⟨h1, h2⟩
      obtain ⟨rfl, rfl⟩ := hoc
      have HB2 := Lib.hid (HB1.out.trans (hb2.mono HB1.out.size))
      clear hb2 hx2
      go_wp2_with fail
      refine (same_refl_row _ _ _ [] [] (row_nil _) (row_nil _) rfl).mono ?_
      rintro e w3 ⟨rfl, hb3⟩
      have HB3 := Lib.hid (HB2.out.trans (hb3.mono HB2.out.size))
      clear hb3
      go_wp2_with fail
      refine (spoil_own _ W.heap.size _ [] RgOwn.nil HB3.out.size).mono ?_
      rintro e w4 ⟨rfl, hb4⟩
      have HB4 := Lib.hid (HB3.out.trans hb4)
      clear hb4
      go_wp2_with fail
      refine (works7_any _ (HE.out.below (Nat.le_refl _) HB4.out)).mono ?_
      rintro e w5 ⟨rfl, hb5⟩
      have HB5 := Lib.hid (HB4.out.trans (hb5.mono HB4.out.size))
      clear hb5
      go_wp2
      go_ret
      exact ⟨rfl, HB5.out⟩
    · exact absurd (HX.out.symm.trans hx2) (by intro h; cases h)
  · have HB1 := Lib.hid hb1
    have HX := Lib.hid hx
    have HI1 := Lib.hid hi1
    have HO1 := Lib.hid ho1
    clear hb1 hx hi1 ho1
    go_wp2_with fail
    refine (refBrk_any _ s HS4.out fl fo HFO.out).mono ?_
    intro e w2 hp2
    rcases hp2 with ⟨hb2, ⟨o2, c2, hx2, rfl⟩ | ⟨Xs2, at2, v2, out2, hx2, rfl, hi2, ho2⟩⟩
    · exact absurd (HX.out.symm.trans hx2) (by intro h; cases h)
    · have hoc : Xs2 = Xs ∧ at2 = at_ := by
        have := HX.out
        rw [hx2] at this
        injection this with h1 h2
        exact ⟨h1, h2⟩
      obtain ⟨rfl, rfl⟩ := hoc
      have HO12 := HO1.out.below hb2
      have HEQ := Lib.hid (Br.brIs_unique HI1.out hi2)
      have HR1 := Lib.hid (HO12.normRow (brIs_norm HI1.out))
      have HR2 := Lib.hid (ho2.normRow (brIs_norm hi2))
      have HB2 := Lib.hid (HB1.out.trans (hb2.mono HB1.out.size))
      have HOW := Lib.hid HO12
      clear hb2 hx2 hi2 ho2 HO12
      go_wp2_with fail
      refine (same_refl_row _ _ _ _ _ HR1.out HR2.out HEQ.out).mono ?_
      rintro e w3 ⟨rfl, hb3⟩
      have HB3 := Lib.hid (HB2.out.trans (hb3.mono HB2.out.size))
      have HOW3 := Lib.hid (HOW.out.below hb3)
      clear hb3
      go_wp2_with fail
      refine (spoil_own _ W.heap.size _ _ HOW3.out HB3.out.size).mono ?_
      rintro e w4 ⟨rfl, hb4⟩
      have HB4 := Lib.hid (HB3.out.trans hb4)
      clear hb4
      go_wp2_with fail
      refine (works7_any _ (HE.out.below (Nat.le_refl _) HB4.out)).mono ?_
      rintro e w5 ⟨rfl, hb5⟩
      have HB5 := Lib.hid (HB4.out.trans (hb5.mono HB4.out.size))
      clear hb5
      go_wp2
      go_ret
      exact ⟨rfl, HB5.out⟩
end Go.Proofs.YtmdpchiiamgnnaaGreatDoor
namespace Go.Proofs.YtmdpchiiamgnnaaGreatDoor
open Go.RowKit
set_option linter.unusedVariables false
theorem own7 : ownKnob Tryz.prog.godebug = none := by kernel_rfl
def laid7 : List (String × DataW Unit) := Rows.bracketReadsRow.laid
theorem door7 (os : Os) (args : Array Value) : laidMetH Tryz.prog laid7 ((World.doorLaid Tryz.prog 96 os).forCall (fun _ _ => 0) ⟨#[], args, []⟩).memory := by
  rw [MakeChecks.laidMetH_plain _ _ _ (by kernel_rfl)]
  exact laidMet_of_run' 257 (by kernel_rfl) (by kernel_rfl)
end Go.Proofs.YtmdpchiiamgnnaaGreatDoor
namespace Go.Proofs.YtmdpchiiamgnnaaGreatDoor
open Go.RowKit
set_option linter.unusedVariables false
theorem laid_tab7 : (Rows.laid_strings_asciiSpace : DataW Unit) = Lib.tabData .u8 Lib.asciiSpaceTab := by kernel_rfl
theorem spaces_of7 {W : World} (h : laidMetH Tryz.prog laid7 W) : Spaces W := by
  rw [MakeChecks.laidMetH_plain _ _ _ (by kernel_rfl)] at h
  have h' : laidMet Tryz.prog [("strings.asciiSpace", Rows.laid_strings_asciiSpace)] W := h.tail.tail.tail.tail.tail.tail
  rw [laid_tab7] at h'
  exact Lib.tabIs_of_head (g := 1) (by kernel_rfl) (by kernel_rfl) (t := 187) (n := 256) Tryz.underlying187 Tryz.underlying5 (by kernel_rfl) (by kernel_rfl) h'
theorem ev_of {W : World} (h : laidMetH Tryz.prog laid7 W) (hs : W.ShapedOpen Tryz.prog) : Ev W := by
  have hm : ∃ m, W.cell? ⟨0, 0, none⟩ = some (.int .i64 m) :=
    cell_of_shapedOpen_int (zero := #[.int .i64 0]) (t := 3) hs (of_decide_eq_true (by kernel_rfl)) (by kernel_rfl) rfl (by kernel_rfl) (by kernel_rfl) Tryz.underlying3
  refine ⟨spaces_of7 h, ?_, hm⟩
  obtain ⟨m, hm⟩ := hm
  rcases Nat.lt_or_ge 0 W.heap.size with h9 | h9
  · exact h9
  · simp [World.cell?, Array.getElem?_eq_none h9] at hm
section
variable {H : Type} {enc : TypeId × Value → H}
/-- The kit's law for rows that ask something of the world, the world's shape told, too. -/
theorem returnsInHanded_of_change_and_shaped {a : Assume} {C : Checked} {os : Os} {f : FuncId} {fn : Func} {s : ChangeSpec} {conds : List PathCond} {apart fresh handsOn again : Bool} {X : World → Array Value → Prop}
    (hX : ∀ (w w' : World) (args : Array Value), w.heap = w'.heap → X w args → X w' args)
    (own : ownKnob C.prog.godebug = none) (started : os.Started) (noInit : C.prog.inits.idxOf? f = none) (hfn : C.prog.funcs[f]? = some fn)
    (witness : ∃ (w : World) (tape : Tape) (i : Input), w.os = os ∧ (w.forCall tape i).Shaped C.prog ∧ i.vars = [] ∧ Input.okWide C.prog (w.forCall tape i) .any w.heap.size f i ∧
      ((s.pre enc C.prog fn conds apart (w.forCall tape i).memory i.args ∧ X (w.forCall tape i).memory i.args) ∧ sizedMet enc C.prog fn (OpenSpec.ofChange s) apart (w.forCall tape i).memory i.args) ∧ a.holds C.prog (lone (Frame.enter C.prog f i.args .normal) [] (w.forCall tape i)))
    (contract : ∀ (W : World) (base : Nat) (args : Array Value) (ds gs : List (DataW H)) (before : List MemPlace),
      (∀ (j : Nat) t v, fn.params[j]? = some t → args[j]? = some v → Value.okWide C.prog W .any base t v) →
      DataW.Whole enc C.prog fn.params.toList s.vars apart W args.toList ds gs before →
      conds.all (PathCond.test C.prog ⟨fn.params.toList, ds, s.plain.varTypes C.prog, gs⟩) = true →
      (DataW.weightsEach C.prog (fn.params.toList ++ s.plain.varTypes C.prog) (ds ++ gs)).all (· ≤ reachBytes) = true → X W args →
      W.ShapedOpen C.prog →
      a.holds C.prog (lone (Frame.enter C.prog f args .normal) [] W) →
      Calls C.prog f args W fun e W' => ∃ v, e = .returned v ∧ s.post enc C.prog fn apart fresh handsOn again W args v W') :
    ReturnsInHanded a C os f .any (fun w args => (s.pre enc C.prog fn conds apart w args ∧ X w args) ∧ sizedMet enc C.prog fn (OpenSpec.ofChange s) apart w args) (s.post enc C.prog fn apart fresh handsOn again) := by
  refine returnsInHanded_of_calls own started noInit witness ?_
  intro w tape i _ hsh _ hok hpre hholds
  obtain ⟨_, _, _, fn', hfn', _, _, _, _, hval⟩ := hok
  have e : fn' = fn := Option.some.inj (hfn'.symm.trans hfn)
  subst e
  obtain ⟨⟨⟨ds, gs, before, hw, hc⟩, hx⟩, hz⟩ := hpre
  have hw' := DataW.Whole.of_heap (w' := w.forCall tape i) (by rfl) hw
  refine (contract (w.forCall tape i) w.heap.size i.args ds gs before hval hw' hc (hz.weights hw) (hX _ _ _ (by rfl) hx) hsh hholds).mono fun e W' ⟨v, he, hp⟩ => ?_
  subst he
  exact ChangeSpec.post_blind hp
end
end Go.Proofs.YtmdpchiiamgnnaaGreatDoor
