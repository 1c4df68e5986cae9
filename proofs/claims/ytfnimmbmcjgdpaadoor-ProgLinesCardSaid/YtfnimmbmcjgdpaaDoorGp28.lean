/- A region that draws its order, in a round of a range over a function: as outside of it, where nothing is deferred. · A region that draws its order, in a round of a range over a function, where the fence bars nothing: the plain walk that holds a word of the world serves. · Two rows of integers that a call owns, in different blocks: appending to one leaves the other. -/
import Derived.Test.YtfnimmbmcjgdpaaDoorGp17
import Derived.Sort.QuietTacIn
import Derived.RangeFuncCalls
import Derived.Deep.RegionHeld3
import Derived.Test.YtfnimmbmcjgdpaaDoorRows
import Derived.WalkKit
import Derived.OwnWalk
import Derived.Maps.AppendAt
import Derived.Deep.AppendLies
import Derived.RangeFuncWrites
namespace Go.Proofs.YtfnimmbmcjgdpaaDoor
open Go Go.RowKit
set_option linter.unusedVariables false
section
variable {F : Fence} {n : Nat} {P : Program} {ops : Array Oper} {Q : Exit → Act → World → Prop} {md : Region.Mode}
theorem wpIn_round_of {r : Nat} (hro : F.round = none) {o : Oper} (hd : ∀ c, o.op ≠ .defer c) {a : Act} {w : World} {K K' : Act → World → Prop} (hK : ∀ a w, K a w → K' a w) (h : o.wpIn F n P a w K Q) : o.wpIn (F.inRound r) n P a w K' Q := by
  refine Oper.wpIn_mono hK ?_
  unfold Oper.wpIn at h ⊢
  refine ⟨h.1, ?_⟩
  have h2 := h.2
  rw [Oper.semAt_eq _ _ _ hd] at h2 ⊢
  generalize (execOp a.eval o).run P w = x at h2 ⊢
  cases x with
  | ok y w' => cases y <;> exact h2
  | halt y w' => cases y <;> exact h2
theorem wpAnyIn_round {r : Nat} (hro : F.round = none) (hd : ∀ (i : Nat) (o : Oper) c, ops[i]? = some o → o.op ≠ .defer c) : ∀ (fuel : Nat) (listed : Array Bool) (a : Act) (w : World), wpAnyIn F n P md ops Q fuel listed a w → wpAnyIn (F.inRound r) n P md ops Q fuel listed a w
  | 0, listed, a, w, h => h
  | fuel + 1, listed, a, w, h => ⟨h.1, fun i hi => by
    have h2 := h.2 i hi
    unfold wpOpIn at h2 ⊢
    cases ho : ops[i]? with
    | none => rw [ho] at h2; exact wpAnyIn_round hro hd fuel _ a w h2
    | some o =>
      rw [ho] at h2
      dsimp only at h2 ⊢
      by_cases hw : Region.wanted o (yielded ops a.tmps) = true
      · rw [if_pos hw] at h2 ⊢
        exact wpIn_round_of hro (fun c => hd i o c ho) (fun a w h => wpAnyIn_round hro hd fuel _ a w h) h2
      · rw [if_neg hw] at h2 ⊢
        exact ⟨h2.1, wpAnyIn_round hro hd fuel _ _ w h2.2⟩⟩
def noDefer (o : Oper) : Bool := match o.op with | .defer _ => false | _ => true
end
end Go.Proofs.YtfnimmbmcjgdpaaDoor
namespace Go.Proofs.YtfnimmbmcjgdpaaDoor
open Go Go.RowKit
set_option linter.unusedVariables false
section
variable {n : Nat} {P : Program} {ops : Array Oper} {Q : Exit → Act → World → Prop} {md : Region.Mode}
theorem oper_wide {o : Oper} {a : Act} {w : World} {K : Act → World → Prop} (h : o.wp P a w K Q) : o.wpIn Fence.wide n P a w K Q := by
  refine ⟨fun _ _ => trivial, ?_⟩
  unfold Oper.wp at h
  show o.uponIn Fence.wide n P a K Q ((execOp a.eval o).run P w)
  generalize (execOp a.eval o).run P w = x at h ⊢
  cases x with
  | ok y w' =>
    cases y
    case enter f args => exact ⟨fun h => by simp [Fence.wide] at h, (callsIn_wide.2 h).mono (fun e w'' he => by cases e <;> exact he)⟩
    case row row args => exact ⟨fun h => by simp [Fence.wide] at h, fun c cs _ => let ⟨v, w', r, s⟩ := h c cs; ⟨v, w', r, stepsIn_wide.2 s⟩⟩
    all_goals first | exact h | exact (h : False).elim
  | halt y w' => cases y <;> first | exact h | exact (h : False).elim
theorem any_wide (hout : ¬ LetsOut Q) : ∀ (fuel : Nat) (listed : Array Bool) (a : Act) (w : World), wpAny P md ops Q fuel listed a w → wpAnyIn Fence.wide n P md ops Q fuel listed a w
  | 0, listed, a, w, h => h
  | fuel + 1, listed, a, w, h => ⟨h.1, fun i hi => by
    have h2 := h.2 i hi
    unfold wpOp at h2
    unfold wpOpIn
    cases ho : ops[i]? with
    | none => rw [ho] at h2; exact any_wide hout fuel _ a w h2
    | some o =>
      rw [ho] at h2
      dsimp only at h2 ⊢
      by_cases hw : Region.wanted o (yielded ops a.tmps) = true
      · rw [if_pos hw] at h2 ⊢
        rcases h2 with h2 | h2
        · exact Oper.wpIn_mono (fun a w h => any_wide hout fuel _ a w h) (oper_wide h2)
        · exact absurd h2.2 hout
      · rw [if_neg hw] at h2 ⊢
        exact ⟨fun _ _ => trivial, any_wide hout fuel _ _ w h2⟩⟩
theorem region_round_held {r id : Nat} {a : Act} {w : World} {l : List Oper} (S : World → Prop) (hm : P.follows .mixedOrders = true) (hd : l.all noDefer = true) (hout : ¬ LetsOut Q) (hS : S w.drew)
    (h : S w.drew → wpAnyH P .any l.toArray Q S l.toArray.size (Array.replicate l.toArray.size false) a w.drew) : (Code.region id l.toArray true).wpIn (Fence.wide.inRound r) n P Q a w :=
  wpIn_region_any hm (wpAnyIn_round rfl (fun i o c ho => by
    have hm : o ∈ l := by
      have := Array.mem_of_getElem? ho
      simpa using this
    have := List.all_eq_true.1 hd o hm
    intro e
    unfold noDefer at this
    rw [e] at this
    cases this) _ _ _ _ (any_wide hout _ _ _ _ (wpAny_of_held _ _ _ _ (h hS))))
end
/-- At a step of a region that draws its order: an append whose run is known. -/
theorem step_append_known {P : Program} {ops : Array Oper} {o : Oper} {a : Act} {w : World} {K : Act → World → Prop} {Q : Exit → Act → World → Prop} {E : Prop} (hgd : o.guard = none) (s x : Operand) (t : TypeId)
    (ho : o.op = .call { callee := .builtin .append, args := #[s, x], argTypes := #[t, t] }) (vs vx v' : Value) (w' : World) (hs : a.eval s = vs) (hx : a.eval x = vx)
    (hr : (Builtin.append_ #[t, t] o.type #[vs, vx]).run P w = .ok v' w') (h : K (a.put o.dst v') w') : if Region.wanted o (yielded ops a.tmps) = true then Oper.wp P o a w K Q else E := by
  rw [if_pos (by simp [Region.wanted, hgd])]
  unfold Oper.wp execOp
  simp only [ho, resolve, invoke, builtin, Sem.run_bind, Sem.run_pure, Result.andThen_ok, List.map_toArray, List.map_cons, List.map_nil, hs, hx, hr]
  exact h
open Lean Elab Tactic in
/-- The walk itself, from a goal 'wpAnyH ..' on. -/
elab "go_walkH3 " "(" keep:tactic ")" ppSpace "(" tac:tactic ")" : tactic => do
  let m0 ← Core.getAndEmptyMessageLog
  regionWalkH3 keep tac false
  -- its words on what it could not take first are not wanted: that it branches there is meant
  modifyThe Core.State fun s => { s with messages := m0 }
end Go.Proofs.YtfnimmbmcjgdpaaDoor
namespace Go.Proofs.YtfnimmbmcjgdpaaDoor
open Go.RowKit
def TwoRows (W : World) (base : Nat) (v1 : Value) (n1 : Nat) (x1 : List Value) (v2 : Value) (n2 : Nat) (x2 : List Value) : Prop :=
  W.ownsRow base 3 1 v1 n1 x1 ∧ W.ownsRow base 3 1 v2 n2 x2 ∧ ∀ g, v1.ownBlock = some g → v2.ownBlock ≠ some g
theorem TwoRows.nil (W : World) (base : Nat) : TwoRows W base (.slice none 0 0) 0 [] (.slice none 0 0) 0 [] :=
  ⟨World.ownsRow_nil _ _ _ _, World.ownsRow_nil _ _ _ _, fun g h => by cases h⟩
theorem TwoRows.kept {W W' : World} {base : Nat} {v1 v2 : Value} {n1 n2 : Nat} {x1 x2 : List Value} {row : Option Nat} (h : TwoRows W base v1 n1 x1 v2 n2 x2) (hg : W.grownBy W' row)
    (h1 : v1.ownBlock = none ∨ v1.ownBlock ≠ row) (h2 : v2.ownBlock = none ∨ v2.ownBlock ≠ row) : TwoRows W' base v1 n1 x1 v2 n2 x2 :=
  ⟨h.1.kept hg h1, h.2.1.kept hg h2, h.2.2⟩
theorem TwoRows.grew {W W' : World} {base : Nat} {v1 v2 : Value} {n1 n2 : Nat} {x1 x2 : List Value} (h : TwoRows W base v1 n1 x1 v2 n2 x2) (hg : W.grownBy W' none) : TwoRows W' base v1 n1 x1 v2 n2 x2 :=
  h.kept hg (by cases hv : v1.ownBlock <;> simp) (by cases hv : v2.ownBlock <;> simp)
theorem TwoRows.below {W W' : World} {base : Nat} {v1 v2 : Value} {n1 n2 : Nat} {x1 x2 : List Value} (h : TwoRows W base v1 n1 x1 v2 n2 x2) (hb : Below W.heap.size W W') : TwoRows W' base v1 n1 x1 v2 n2 x2 :=
  h.grew ⟨hb.os, hb.tape, hb.output, hb.size, fun k hk _ => hb.block k hk⟩
/-- The first row has been appended to. -/
theorem TwoRows.first {W W' : World} {base H : Nat} {v1 v2 v' : Value} {n1 n1' n2 : Nat} {x1 x1' x2 : List Value} (h : TwoRows W base v1 n1 x1 v2 n2 x2)
    (ho : W'.ownsRow base 3 1 v' n1' x1') (hg : W.grownBy W' v1.ownBlock) {g : Nat} (hv : v'.ownBlock = some g) (hat : v1.ownBlock = some g ∨ g = H) (hH : W.heap.size ≤ H) : TwoRows W' base v' n1' x1' v2 n2 x2 := by
  refine ⟨ho, h.2.1.kept hg ?_, ?_⟩
  · cases hv1 : v1.ownBlock with
    | none => cases hv2 : v2.ownBlock <;> simp
    | some k => exact .inr (h.2.2 k hv1)
  · intro g' hg' he
    rw [hv] at hg'
    cases hg'
    have lt := h.2.1.lt g he
    rcases hat with hat | hat
    · exact h.2.2 g hat he
    · omega

theorem ownsRow_own {W W' : World} {base : Nat} {e : TypeId} {size : Nat} {v : Value} {n : Nat} {xs : List Value} {row : Option Nat} (h : W.ownsRow base e size v n xs) (hg : W.grownBy W' row)
    (hr : ∀ r, row = some r → ∃ o : Obj, W.heap[r]? = some o ∧ o.isCells = false) : W'.ownsRow base e size v n xs := by
  refine h.kept hg ?_
  rcases h.2 with ⟨rfl, _⟩ | ⟨g, cap, cur, rfl, _, hh, _⟩
  · exact .inl rfl
  · right
    intro e'
    obtain ⟨o, ho, hc⟩ := hr g e'.symm
    rw [hh] at ho
    cases ho
    cases hc
theorem TwoRows.own {W W' : World} {base : Nat} {v1 v2 : Value} {n1 n2 : Nat} {x1 x2 : List Value} {row : Option Nat} (h : TwoRows W base v1 n1 x1 v2 n2 x2) (hg : W.grownBy W' row)
    (hr : ∀ r, row = some r → ∃ o : Obj, W.heap[r]? = some o ∧ o.isCells = false) : TwoRows W' base v1 n1 x1 v2 n2 x2 :=
  ⟨ownsRow_own h.1 hg hr, ownsRow_own h.2.1 hg hr, h.2.2⟩
end Go.Proofs.YtfnimmbmcjgdpaaDoor
