/- Edge: bits of assertions; the landed Holds; the laws' has and works. · What the rows' listed variable gives the walks of edge: a start that meets the list. -/
import Derived.Test.YtanffablfgnioaaDoorGp2
import Derived.LaidMore
import Derived.Stop.Joined
import Derived.Stop.LaidErr
import Derived.Lib.LaidTab
import Derived.ProofKit
namespace Go.Proofs.YtanffablfgnioaaDoor
open Go.RowKit
set_option linter.unusedVariables false
namespace Eg
/-- Is an assertion's bit set? -/
def bitB (x : Int) (k : Int) : Bool := x / 2 ^ k.toNat % 2 == 1
def vals : List Int := 0 :: tabL
theorem tabN_mem : ∀ i, i < 4 → ∀ j, j < 4 → tabN i j ∈ vals := by decide +kernel
theorem betN_mem (a b : Int) : betN a b ∈ vals := tabN_mem _ (side_lt a) _ (side_lt b)
theorem atL_mem (z : List Int) (i : Int) : atL z i ∈ vals := by
  unfold atL
  split
  · simp [vals]
  · exact betN_mem _ _
theorem bits_holds : ∀ x ∈ vals, ∀ k : Nat, k < 7 → 1 ≤ k → (bits .and .i64 x (wrap64 (2 ^ k)) != 0) = bitB x (k : Int) := by decide +kernel
theorem bits_has : ∀ x ∈ vals, ∀ k : Nat, k < 7 → 1 ≤ k → (bits .and .i64 (x / 2 ^ k) 1 == 1) = bitB x (k : Int) := by decide +kernel
def holdL (k : Int) (z : List Int) (i : Int) : Bool := decide (1 ≤ k ∧ k ≤ 6) && bitB (atL z i) k
theorem vals_bd : ∀ x ∈ vals, 0 ≤ x ∧ x ≤ 127 := by decide +kernel
end Eg
theorem below_drewE {B : Nat} {w w' : World} (h : Below B w w') (d : Nat) : Below B w (w'.drewN d) := ⟨h.os, h.tape, h.output, h.size, h.block⟩
set_option maxHeartbeats 1000000 in
theorem holdsE_any (k : Int) (s : ByteArray) (hs : s.size ≤ 140737488351232) (i : Int) (W : World) (h : EvE W) : Calls Tryd.prog 13 #[.int .i64 k, .string s, .int .i64 i] W fun e w' => e = .returned (.bool (Eg.holdL k (Utf.nums s) i)) ∧ ∃ n, w' = W.drewN n := by
  have HA := Lib.hid (fun n => atE_any s hs i (W.drewN n) (h.drew n))
  have hm := Eg.atL_mem (Utf.nums s) i
  unfold Eg.holdL
  obtain ⟨X, hX⟩ : ∃ X, Eg.atL (Utf.nums s) i = X := ⟨_, rfl⟩
  rw [hX] at HA hm ⊢
  clear hX h
  by_cases h1 : k < 1
  · have e : decide (1 ≤ k ∧ k ≤ 6) = false := by rw [decide_eq_false_iff_not]; omega
    rw [e, Bool.false_and]
    have d1 : decide ((1 : Int) ≤ k) = false := by rw [decide_eq_false_iff_not]; omega
    clear e hm
    go_enter Tryd.func13, Tryd.ntmps13
    go_wp2
    go_quiet ((go_at_call 11; exact Calls.quiet_of (HA.out _)))
    go_wp2
    go_ret
    exact ⟨rfl, _, rfl⟩
  by_cases h6 : 6 < k
  · have e : decide (1 ≤ k ∧ k ≤ 6) = false := by rw [decide_eq_false_iff_not]; omega
    rw [e, Bool.false_and]
    have d1 : decide ((1 : Int) ≤ k) = true := by rw [decide_eq_true_eq]; omega
    have d2 : decide (k ≤ (6 : Int)) = false := by rw [decide_eq_false_iff_not]; omega
    clear e hm
    go_enter Tryd.func13, Tryd.ntmps13
    go_wp2
    go_quiet ((go_at_call 11; exact Calls.quiet_of (HA.out _)))
    go_wp2
    go_ret
    exact ⟨rfl, _, rfl⟩
  have e : decide (1 ≤ k ∧ k ≤ 6) = true := by rw [decide_eq_true_eq]; omega
  rw [e, Bool.true_and]
  have HB : Hid ((bits .and .i64 X (wrap64 (2 ^ k.toNat)) != 0) = Eg.bitB X k) := Lib.hid (by
    have := Eg.bits_holds X hm k.toNat (by omega) (by omega)
    rwa [show ((k.toNat : Nat) : Int) = k by omega] at this)
  clear e hm
  go_enter Tryd.func13, Tryd.ntmps13
  go_wp2
  go_quiet ((go_at_call 11; exact Calls.quiet_of (HA.out _)))
  go_wp2
  go_ret
  exact ⟨ret_bool HB.out, _, rfl⟩
theorem has_any (x : Int) (hx : x ∈ Eg.vals) (k : Int) (h1 : 1 ≤ k) (h6 : k ≤ 6) (w : World) : Calls Tryd.prog 16 #[.int .i64 x, .int .i64 k] w fun e w' => e = .returned (.bool (Eg.bitB x k)) ∧ w = w' := by
  have hb := Eg.vals_bd x hx
  have HB : Hid ((bits .and .i64 (x / 2 ^ k.toNat) 1 == 1) = Eg.bitB x k) := Lib.hid (by
    have := Eg.bits_has x hx k.toNat (by omega) (by omega)
    rwa [show ((k.toNat : Nat) : Int) = k by omega] at this)
  go_enter Tryd.func16, Tryd.ntmps16
  go_wp2
  go_ret
  exact ⟨ret_bool HB.out, rfl⟩
abbrev abT : ByteArray := ⟨#[97, 98]⟩
set_option maxRecDepth 100000 in
set_option maxHeartbeats 1000000 in
theorem works12_any (W : World) (h : EvE W) : Calls Tryd.prog 15 #[] W fun e w' => e = .returned (.bool true) ∧ ∃ n, w' = W.drewN n := by
  have e1 : Eg.atL (Utf.nums abT) 0 = 42 := by decide +kernel
  have e2 : Eg.holdL 2 (Utf.nums abT) 2 = true := by decide +kernel
  have e3 : Eg.holdL 7 (Utf.nums abT) 2 = false := by decide +kernel
  have e4 : Eg.wordB 95 = true := by decide +kernel
  have e5 : Eg.wordB 45 = false := by decide +kernel
  have hs : abT.size ≤ 140737488351232 := by decide
  have H1 := Lib.hid (fun n => atE_any abT hs 0 (W.drewN n) (h.drew n))
  have H2 := Lib.hid (fun n => holdsE_any 2 abT hs 2 (W.drewN n) (h.drew n))
  have H3 := Lib.hid (fun n => holdsE_any 7 abT hs 2 (W.drewN n) (h.drew n))
  have H4 := Lib.hid (fun w => word_any 95 w)
  have H5 := Lib.hid (fun w => word_any 45 w)
  rw [e1] at H1
  rw [e2] at H2
  rw [e3] at H3
  rw [e4] at H4
  rw [e5] at H5
  clear e1 e2 e3 e4 e5 h
  go_enter Tryd.func15, Tryd.ntmps15
  go_wp2_with fail
  refine (H1.out 0).mono ?_
  rintro e wa ⟨rfl, n1, rfl⟩
  rw [World.drewN_drewN]
  go_wp2_with fail
  refine (H2.out _).mono ?_
  rintro e wa ⟨rfl, n2, rfl⟩
  rw [World.drewN_drewN]
  go_wp2_with fail
  refine (H3.out _).mono ?_
  rintro e wa ⟨rfl, n3, rfl⟩
  rw [World.drewN_drewN]
  go_wp2_with fail
  refine (H4.out _).mono ?_
  rintro e wa ⟨rfl, rfl⟩
  go_wp2_with fail
  refine (H5.out _).mono ?_
  rintro e wa ⟨rfl, rfl⟩
  go_wp2
  go_ret
  exact ⟨rfl, _, rfl⟩
end Go.Proofs.YtanffablfgnioaaDoor
namespace Go.Proofs.YtanffablfgnioaaDoor
open Go.RowKit
set_option linter.unusedVariables false
theorem own12 : ownKnob Tryd.prog.godebug = none := by kernel_rfl
def laid12 : List (String × DataW Unit) := Rows.edgeTellsRow.laid
theorem door12 (os : Os) (args : Array Value) : laidMetH Tryd.prog laid12 ((World.doorLaid Tryd.prog 18 os).forCall (fun _ _ => 0) ⟨#[], args, []⟩).memory := by
  rw [MakeChecks.laidMetH_plain _ _ _ (by kernel_rfl)]
  exact laidMet_of_run' 17 (by kernel_rfl) (by kernel_rfl)
/-- An array of arrays of integers holds its numbers, row by row. -/
theorem cells_of_tab2 {H : Type} {enc : TypeId × Value → H} {P : Program} {w : World} {base : Nat} {sp : Nat → Bool} {held : Bool} {fuel : Nat} {t e u : TypeId} {n m : Nat} {k : IntKind} {cs : List Value} {zss : List (List Int)} {p : List MemPlace}
    (ht : P.underlying t = some (.array n e)) (he : P.underlying e = some (.array m u)) (hu : P.underlying u = some (.int k)) (hcu : P.cellsOf u = 1) (hce : P.cellsOf e = m) (hct : P.cellsOf t = n * m)
    (h : DataW.trod enc P w base sp held fuel t cs = some (.agg (zss.map fun zs => Lib.tabData k zs), p)) : ∀ i, i < n → (cs.drop (i * m)).take m = (zss.getD i []).map fun z => Value.int k z := by
  cases fuel with
  | zero => simp [DataW.trod] at h
  | succ fuel =>
    simp only [DataW.trod, ht, hce, hct] at h
    split at h
    · rename_i hl
      obtain ⟨xs, hm, hx⟩ := Option.map_eq_some_iff.1 h
      have hxs : xs.map (·.1) = zss.map fun zs => (Lib.tabData k zs : DataW H) := by
        have := congrArg Prod.fst hx
        simpa using this
      intro i hi
      obtain ⟨b, hb, hf⟩ := Lib.mapM_at hm i i (by simp [hi])
      have h2 : (xs.map (·.1))[i]? = some b.1 := by simp [hb]
      rw [hxs] at h2
      simp only [List.getElem?_map, Option.map_eq_some_iff] at h2
      obtain ⟨zs, hz, hzb⟩ := h2
      have hf' : DataW.trod enc P w base sp held fuel e ((cs.drop (i * m)).take m) = some (Lib.tabData k zs, b.2) := by rw [hzb]; exact hf
      have := Lib.cells_of_tab he hu hcu hce hf'
      rw [this, List.getD, hz]; rfl
    · cases h
theorem tab2_of_head {P : Program} {W : World} {name : String} {k : IntKind} {zss : List (List Int)} {rest : List (String × DataW Unit)} {g : Nat} {t e u : TypeId} {n m : Nat}
    (hg : P.globalNamed name = some g) (hty : (P.globals[g]?).map (·.type) = some t) (ht : P.underlying t = some (.array n e)) (he : P.underlying e = some (.array m u)) (hu : P.underlying u = some (.int k)) (hcu : P.cellsOf u = 1) (hce : P.cellsOf e = m) (hct : P.cellsOf t = n * m)
    (h : laidMet P ((name, .agg (zss.map fun zs => Lib.tabData k zs)) :: rest) W) : ∃ cs : Array Value, W.var? P name = some cs ∧ ∀ i, i < n → (cs.toList.drop (i * m)).take m = (zss.getD i []).map fun z => Value.int k z := by
  obtain ⟨ps, ⟨g', t', cs, fuel, p, q, hg', ht', hvar, hd, _, _⟩, _⟩ := h
  obtain rfl := Option.some.inj (hg.symm.trans hg')
  obtain rfl := Option.some.inj (hty.symm.trans ht')
  exact ⟨_, hvar, cells_of_tab2 ht he hu hcu hce hct hd⟩
theorem laid_hold : (Rows.laid_burin_edge_holding : DataW Unit) = .agg ([[94, 90, 42, 74], [92, 88, 40, 72], [52, 48, 64, 32], [84, 80, 32, 64]].map fun zs : List Int => Lib.tabData .i64 zs) := rfl
theorem hold_row : ∀ i, i < 4 → ∀ j, j < 4 → ((([[94, 90, 42, 74], [92, 88, 40, 72], [52, 48, 64, 32], [84, 80, 32, 64]] : List (List Int)).getD i [])[j]?) = some (Eg.tabN i j) := by decide +kernel
theorem ev12_of {W : World} (h : laidMetH Tryd.prog laid12 W) : EvE W := by
  rw [MakeChecks.laidMetH_plain _ _ _ (by kernel_rfl)] at h
  have h1 : laidMet Tryd.prog [("burin/edge.holding", Rows.laid_burin_edge_holding)] W := h
  rw [laid_hold] at h1
  obtain ⟨cs, hv, hc⟩ := tab2_of_head (g := 0) (by kernel_rfl) (by kernel_rfl) (t := 33) (e := 32) (u := 3) (n := 4) (m := 4) (by kernel_rfl) (by kernel_rfl) (by kernel_rfl) (by kernel_rfl) (by kernel_rfl) (by kernel_rfl) h1
  intro i j hi hj
  have h2 := World.var?_cell (g := 0) (by kernel_rfl) hv (i * 4 + j)
  rw [h2]
  have h3 := congrArg (·[j]?) (hc i hi)
  simp only [List.getElem?_take_of_lt hj, List.getElem?_drop, List.getElem?_map] at h3
  rw [hold_row i hi j hj] at h3
  simpa using h3
end Go.Proofs.YtanffablfgnioaaDoor
