/- The landed norm: slices.Clone of a set's ranges. · The landed norm: slices.Clone of a node's parts. -/
import Derived.Test.YtanffablfgnioaaGp23
import Derived.Test.YtanffablfgnioaaGp5
namespace Go.Proofs.Ytanffablfgnioaa
open Go.RowKit
set_option linter.unusedVariables false
set_option maxRecDepth 100000 in
set_option maxHeartbeats 4000000 in
theorem cloneRg_nilc (W : World) (n c : Nat) : Calls Try.prog 80 #[.slice none n c] W fun e w' => e = .returned (.slice none 0 0) ∧ w' = W := by
  have qeq : ∀ (w : World) (a : Option Addr) (n c n' c' : Nat), (binOp .eql 22 (.slice a n c) (.slice none n' c')).run Try.prog w = .ok (.bool a.isNone) w := fun w a n c n' c' => Lib.run_eql_slice_nil w _ _ a n c n' c' Try.underRangesC
  go_enter Try.func80, Try.ntmps80
  go_wp2
  go_ret
  exact ⟨rfl, rfl⟩
set_option maxRecDepth 100000 in
set_option maxHeartbeats 4000000 in
theorem cloneNd_nilc (W : World) (n c : Nat) : Calls Try.prog 81 #[.slice none n c] W fun e w' => e = .returned (.slice none 0 0) ∧ w' = W := by
  have qeq : ∀ (w : World) (a : Option Addr) (n c n' c' : Nat), (binOp .eql 23 (.slice a n c) (.slice none n' c')).run Try.prog w = .ok (.bool a.isNone) w := fun w a n c n' c' => Lib.run_eql_slice_nil w _ _ a n c n' c' Try.underNodesR
  go_enter Try.func81, Try.ntmps81
  go_wp2
  go_ret
  exact ⟨rfl, rfl⟩
/-- A set, in new memory. -/
theorem cloneRg_set (W : World) (vs : Value) (l : List (Int × Int)) (h : RRow W vs l) :
    Calls Try.prog 80 #[vs] W fun e w' => ∃ v, e = .returned v ∧ RRowOn (fun b => W.heap.size ≤ b ∧ b < w'.heap.size) w' v l ∧ Below W.heap.size W w' := by
  obtain ⟨a, cap, rfl, hl, hw, hc⟩ := h
  have key : ∀ (w' : World) (v : Value), w'.ownsRow W.heap.size 49 2 v l.length (flat2 l) → RRowOn (fun b => W.heap.size ≤ b ∧ b < w'.heap.size) w' v l := fun w' v ho => by
    have hr : RgOwn w' W.heap.size v l := ho
    exact ⟨hr.row hl hw, fun g off len cap e _ => World.ownsRow.lt ho g (by rw [e]; rfl)⟩
  by_cases h0 : l.length = 0
  · have hle := List.eq_nil_of_length_eq_zero h0
    subst hle
    cases a with
    | none =>
      refine (cloneRg_nilc W _ _).mono ?_
      rintro e w' ⟨rfl, rfl⟩
      exact ⟨_, rfl, RRowOn.nil, Below.refl _ _⟩
    | some ad =>
      refine (cloneRg_zero W ad cap).mono ?_
      rintro e w' ⟨v, rfl, ho, hb⟩
      exact ⟨v, rfl, key w' v ho, hb⟩
  · obtain ⟨b, off, rfl, hb, -, -⟩ := hc 0 (by omega)
    refine (cloneRg_any W b off l.length cap (flat2 l) (flat2_len l) (by omega) hl (flat2_one l) (fun j v hv => ?_) hb).mono ?_
    · have hj : j < l.length * 2 := by
        have := (List.getElem?_eq_some_iff.1 hv).1
        rwa [flat2_len] at this
      obtain ⟨b', off', ha', -, c0, c1⟩ := hc (j / 2) (by omega)
      cases ha'
      have hg := flat2_get l (j / 2) (by omega)
      rcases Nat.mod_two_eq_zero_or_one j with e | e
      · have ej : j / 2 * 2 = j := by omega
        rw [ej] at hg c0
        rw [← hv, hg.1]; exact c0
      · have ej : j / 2 * 2 + 1 = j := by omega
        rw [ej] at hg
        rw [Nat.add_assoc, ej] at c1
        rw [← hv, hg.2]; exact c1
    · rintro e w' ⟨v, rfl, ho, hb'⟩
      exact ⟨v, rfl, key w' v ho, hb'⟩
end Go.Proofs.Ytanffablfgnioaa
namespace Go.Proofs.Ytanffablfgnioaa
open Go.RowKit
set_option linter.unusedVariables false
theorem drop_take8 (Y : List (List Value)) (h8 : ∀ x ∈ Y, x.length = 8) (hl : Y.flatten.length = Y.length * 8) (j : Nat) (x : List Value) (hx : Y[j]? = some x) : (Y.flatten.drop (j * 8)).take 8 = x := by
  have hj : j < Y.length := (List.getElem?_eq_some_iff.1 hx).1
  have hx8 : x.length = 8 := h8 x (List.mem_of_getElem? hx)
  apply List.ext_getElem?
  intro q
  by_cases hq : q < 8
  · rw [List.getElem?_take_of_lt hq, List.getElem?_drop]
    exact flat8_at Y h8 j q x hx hq
  · rw [List.getElem?_eq_none (by rw [List.length_take]; omega), List.getElem?_eq_none (by omega)]
/-- What a clone of a node's row is: nothing, or a row of its own with the same cells. -/
def ClRow (base : Nat) (w : World) (v : Value) (l : List Nd) (Y : List (List Value)) : Prop :=
  (l.length = 0 ∧ ∃ a c, v = .slice a 0 c) ∨ (0 < l.length ∧ ∃ g cap, v = .slice (some ⟨g, 0, none⟩) l.length cap ∧ base ≤ g ∧ l.length ≤ cap ∧ RowC w g l.length (fun j => Y.getD j []))
theorem cloneNd_row {S : Nat → Prop} (W : World) (l : List Nd) (Y : List (List Value)) (a : Option Addr) (cap : Nat) (hY : NdsOn S W l Y) (hl : l.length ≤ 1000000)
    (hr : 0 < l.length → ∃ b off, a = some ⟨b, off, none⟩ ∧ S b ∧ b < W.heap.size ∧ ∀ j u, Y.flatten[j]? = some u → W.cell? ((⟨b, off, none⟩ : Addr).add j) = some u) :
    Calls Try.prog 81 #[.slice a l.length cap] W fun e w' => ∃ v, e = .returned v ∧ ClRow W.heap.size w' v l Y ∧ Below W.heap.size W w' := by
  by_cases h0 : l.length = 0
  · rw [h0]
    cases a with
    | none =>
      refine (cloneNd_nilc W _ _).mono ?_
      rintro e w' ⟨rfl, rfl⟩
      exact ⟨_, rfl, .inl ⟨h0, none, 0, rfl⟩, Below.refl _ _⟩
    | some ad =>
      refine (cloneNd_zero W ad cap).mono ?_
      rintro e w' ⟨v, rfl, ho, hb⟩
      refine ⟨v, rfl, .inl ⟨h0, ?_⟩, hb⟩
      rcases ho.2 with ⟨e, _⟩ | ⟨g, c, cur, e, _⟩
      · exact ⟨none, 0, e⟩
      · exact ⟨_, c, e⟩
  · obtain ⟨b, off, rfl, -, hb, hc⟩ := hr (by omega)
    refine (cloneNd_any W b off l.length cap Y.flatten hY.flatLen (by omega) hl (ndsOn_oneN hY) (fun j v hv => by have := hc j v hv; rw [Addr.add_lit] at this; exact this) hb).mono ?_
    rintro e w' ⟨v, rfl, ho, hb'⟩
    obtain ⟨g, c, rfl, hg, hcap, hR⟩ := rowC_of ho (by omega)
    refine ⟨_, rfl, .inr ⟨by omega, g, c, rfl, hg, hcap, ?_⟩, hb'⟩
    obtain ⟨cur, h1, h2, h3⟩ := hR
    refine ⟨cur, h1, h2, fun j hj q hq => ?_⟩
    rw [h3 j hj q hq]
    obtain ⟨x, hx, -⟩ := hY.2 j hj
    show ((Y.flatten.drop (j * 8)).take 8)[q]? = (Y.getD j [])[q]?
    rw [drop_take8 Y hY.is.len8 (by rw [hY.flatLen, hY.1]) j x hx, List.getD, hx]
    rfl
end Go.Proofs.Ytanffablfgnioaa
