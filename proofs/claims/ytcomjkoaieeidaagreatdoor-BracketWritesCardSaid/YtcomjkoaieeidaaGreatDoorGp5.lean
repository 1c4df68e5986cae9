/- Lists of ranges in memory; the contract of the reference's Has (burinref02). · The contract of the reference's Make (burinref02), from edge to edge. -/
import Derived.Test.YtcomjkoaieeidaaGreatDoorRows
import Derived.Test.YtcomjkoaieeidaaGreatDoorGp2
import Derived.WalkKit
import Derived.OwnWalk
import Derived.WalkLawsBesides
import Derived.WalkSpells
import Derived.Lib.Hide
import Derived.Deep.QuietTactic
import Derived.BigQuiet
import Derived.Maps.AppendAt
import Derived.Deep.AppendLies
import Derived.Laws.OwnMore
namespace Go.Proofs.YtcomjkoaieeidaaGreatDoor
open Go.RowKit
set_option linter.unusedVariables false
def RRow (W : World) (v : Value) (l : List (Int × Int)) : Prop :=
  ∃ a cap, v = .slice a l.length cap ∧ l.length ≤ 8796093022208 ∧ (∀ p ∈ l, -9223372036854775808 ≤ p.1 ∧ p.1 ≤ 9223372036854775807 ∧ -9223372036854775808 ≤ p.2 ∧ p.2 ≤ 9223372036854775807) ∧ ∀ j, j < l.length → ∃ b off, a = some ⟨b, off, none⟩ ∧ b < W.heap.size ∧
    W.cell? ⟨b, off + j * 2, none⟩ = some (.int .i64 (l[j]?.getD (0, 0)).1) ∧ W.cell? ⟨b, off + j * 2 + 1, none⟩ = some (.int .i64 (l[j]?.getD (0, 0)).2)
theorem RRow.below {W W' : World} {v : Value} {l : List (Int × Int)} (h : RRow W v l) {B : Nat} (hB : W.heap.size ≤ B) (hb : Below B W W') : RRow W' v l := by
  obtain ⟨a, cap, hv, hl, hw, hc⟩ := h
  refine ⟨a, cap, hv, hl, hw, fun j hj => ?_⟩
  obtain ⟨b, off, ha, hlt, h1, h2⟩ := hc j hj
  exact ⟨b, off, ha, Nat.lt_of_lt_of_le hlt hb.size, (hb.cell (p := ⟨b, off + j * 2, none⟩) (by show b < B; omega)).trans h1, (hb.cell (p := ⟨b, off + j * 2 + 1, none⟩) (by show b < B; omega)).trans h2⟩
theorem any_take_succ (l : List (Int × Int)) (k : Nat) (hk : k < l.length) (f : Int × Int → Bool) : (l.take (k + 1)).any f = ((l.take k).any f || f (l[k]?.getD (0, 0))) := by
  rw [List.take_succ_eq_append_getElem hk, List.any_append]
  simp [hk]
set_option maxRecDepth 100000 in
set_option maxHeartbeats 1000000 in
theorem refHas_walk (W : World) (a : Option Addr) (n cap : Nat) (l : List (Int × Int)) (r : Int) (hn : l.length = n) (hn2 : n ≤ 8796093022208)
    (hc : ∀ j, j < n → ∃ b off, a = some ⟨b, off, none⟩ ∧ b < W.heap.size ∧ W.cell? ⟨b, off + j * 2, none⟩ = some (.int .i64 (l[j]?.getD (0, 0)).1) ∧ W.cell? ⟨b, off + j * 2 + 1, none⟩ = some (.int .i64 (l[j]?.getD (0, 0)).2)) :
    Calls Tryz.prog 68 #[.slice a n cap, .int .i64 r] W fun e w' => e = .returned (.bool (Rg.hasB l r)) ∧ W = w' := by
  have HN := Lib.hid hn
  have HC := Lib.hid hc
  clear hn hc
  by_cases hr : 0 ≤ r ∧ r ≤ 1114111
  · obtain ⟨hr0, hr1⟩ := hr
    go_enter Tryz.func68, Tryz.ntmps68
    go_wp2
    go_loop [4, 5] (fun R i => ∃ k : Nat, k ≤ n ∧ i = .int .i64 k ∧ Hid ((l.take k).any (fun p => decide (p.1 ≤ r ∧ r ≤ p.2)) = false)) (fun _ i => n - (intOf i).toNat)
    case atStart => exact ⟨0, Nat.zero_le _, rfl, Lib.hid rfl⟩
    case round =>
      obtain ⟨k, hk, rfl, HA⟩ := hrel
      by_cases hlt : k < n
      · obtain ⟨b, off, rfl, hb, hc1, hc2⟩ := HC.out k hlt
        have HT := Lib.hid (any_take_succ l k (by rw [HN.out]; exact hlt) (fun p => decide (p.1 ≤ r ∧ r ≤ p.2)))
        obtain ⟨p, hp⟩ : ∃ p, l[k]?.getD (0, 0) = p := ⟨_, rfl⟩
        rw [hp] at hc1 hc2
        have HP := Lib.hid hp
        clear hp
        have HY : Hid (p.1 ≤ r → r ≤ p.2 → Rg.hasB l r = true) := Lib.hid (fun h1 h2 => (Rg.hasB_iff l r).2 ⟨⟨hr0, hr1⟩, p, by
          have := HP.out; rw [List.getElem?_eq_getElem (by rw [HN.out]; exact hlt)] at this; rw [← this]; exact List.getElem_mem _, h1, h2⟩)
        have HX : Hid (¬ (p.1 ≤ r ∧ r ≤ p.2) → (l.take (k + 1)).any (fun p => decide (p.1 ≤ r ∧ r ≤ p.2)) = false) := Lib.hid (fun h => by
          rw [HT.out, HA.out, HP.out]; simp only [Bool.false_or, decide_eq_false_iff_not]; exact h)
        go_wp2
        · go_ret
          exact ⟨by rw [HY.out (by assumption) (by assumption)]; rfl, rfl⟩
        all_goals
          go_round
          case rel => exact ⟨k + 1, by omega, by go_num, Lib.hid (HX.out (by omega))⟩
          case measure => simp [intOf]; omega
      · obtain rfl : k = n := by omega
        have HF : Hid (Rg.hasB l r = false) := Lib.hid (by
          have := HA.out
          rw [List.take_of_length_le (by rw [HN.out]; exact Nat.le_refl _)] at this
          unfold Rg.hasB
          rw [this, Bool.and_false])
        go_wp2
        go_ret
        exact ⟨by rw [HF.out]; rfl, rfl⟩
  · have HF : Hid (Rg.hasB l r = false) := Lib.hid (by unfold Rg.hasB; rw [decide_eq_false hr, Bool.false_and])
    by_cases h0 : 0 ≤ r
    · have h1 : 1114111 < r := by omega
      clear hr
      by_cases hz : 0 < n
      all_goals
        go_enter Tryz.func68, Tryz.ntmps68
        go_wp2
        refine wp_loop_rounds 1 ?_
        rw [rounds_succ]
        go_wp2
        go_ret
        exact ⟨by rw [HF.out]; rfl, rfl⟩
    · have h1 : r < 0 := by omega
      clear hr
      by_cases hz : 0 < n
      all_goals
        go_enter Tryz.func68, Tryz.ntmps68
        go_wp2
        refine wp_loop_rounds 1 ?_
        rw [rounds_succ]
        go_wp2
        go_ret
        exact ⟨by rw [HF.out]; rfl, rfl⟩
theorem refHas_any (W : World) (v : Value) (l : List (Int × Int)) (r : Int) (h : RRow W v l) :
    Calls Tryz.prog 68 #[v, .int .i64 r] W fun e w' => e = .returned (.bool (Rg.hasB l r)) ∧ W = w' := by
  obtain ⟨a, cap, rfl, hl, hw, hc⟩ := h
  exact refHas_walk W a _ cap l r rfl hl hc
theorem fold_take_succ (at_ : Int) (l : List (Int × Int)) (k : Nat) (hk : k < l.length) : (l.take (k + 1)).foldl (Rg.edge1 at_) 1114112 = Rg.edge1 at_ ((l.take k).foldl (Rg.edge1 at_) 1114112) (l[k]?.getD (0, 0)) := by
  rw [List.take_succ_eq_append_getElem hk, List.foldl_append]
  simp [hk]
set_option maxRecDepth 100000 in
set_option maxHeartbeats 1000000 in
theorem refEdge_walk (W : World) (a : Option Addr) (n cap : Nat) (l : List (Int × Int)) (r : Int) (hn : l.length = n) (hn2 : n ≤ 8796093022208)
    (hc : ∀ j, j < n → ∃ b off, a = some ⟨b, off, none⟩ ∧ b < W.heap.size ∧ W.cell? ⟨b, off + j * 2, none⟩ = some (.int .i64 (l[j]?.getD (0, 0)).1) ∧ W.cell? ⟨b, off + j * 2 + 1, none⟩ = some (.int .i64 (l[j]?.getD (0, 0)).2))
    (hw : ∀ p ∈ l, -9223372036854775808 ≤ p.1 ∧ p.1 ≤ 9223372036854775807 ∧ -9223372036854775808 ≤ p.2 ∧ p.2 ≤ 9223372036854775807) (hr0 : 0 ≤ r) (hr1 : r ≤ 1114111) :
    Calls Tryz.prog 91 #[.slice a n cap, .int .i64 r] W fun e w' => e = .returned (.int .i64 (Rg.edgeN l r)) ∧ W = w' := by
  have HN := Lib.hid hn
  have HC := Lib.hid hc
  have HW := Lib.hid hw
  clear hn hc hw
  go_enter Tryz.func91, Tryz.ntmps91
  go_wp2
  go_loop [5, 6] (fun N i => ∃ (k : Nat) (x : Int), k ≤ n ∧ 0 ≤ x ∧ x ≤ 1114112 ∧ i = .int .i64 k ∧ N = .int .i64 x ∧ Hid ((l.take k).foldl (Rg.edge1 r) 1114112 = x)) (fun _ i => n - (intOf i).toNat)
  case atStart => exact ⟨0, 1114112, Nat.zero_le _, by omega, by omega, rfl, rfl, Lib.hid rfl⟩
  case round =>
    obtain ⟨k, x, hk, hx0, hx1, rfl, rfl, HF⟩ := hrel
    by_cases hlt : k < n
    · obtain ⟨b, off, rfl, hb, hc1, hc2⟩ := HC.out k hlt
      have ht := fold_take_succ r l k (by rw [HN.out]; exact hlt)
      rw [HF.out] at ht
      obtain ⟨p, hp⟩ : ∃ p, l[k]?.getD (0, 0) = p := ⟨_, rfl⟩
      have hpm : p ∈ l := by rw [← hp, List.getElem?_eq_getElem (by rw [HN.out]; exact hlt)]; exact List.getElem_mem _
      rw [hp] at hc1 hc2 ht
      obtain ⟨hw1, hw2, hw3, hw4⟩ := HW.out p hpm
      have HT := Lib.hid ht
      have hbd := Rg.edge1_le r x p
      have HBD := Lib.hid hbd
      clear hp ht hbd hpm
      obtain ⟨p1, p2⟩ := p
      dsimp only at hc1 hc2 hw1 hw2 hw3 hw4
      go_wp2
      all_goals
          go_round
          case rel => refine ⟨k + 1, _, by omega, ?_, ?_, by go_num, rfl, Lib.hid (by rw [HT.out]; simp only [Rg.edge1]; repeat (first | rfl | omega | split))⟩ <;> omega
          case measure => simp [intOf]; omega
    · obtain rfl : k = n := by omega
      have HE : Hid (Rg.edgeN l r = x) := Lib.hid (by
        have := HF.out
        rw [List.take_of_length_le (by rw [HN.out]; exact Nat.le_refl _)] at this
        exact this)
      go_wp2
      go_ret
      exact ⟨by rw [HE.out]; rfl, rfl⟩
end Go.Proofs.YtcomjkoaieeidaaGreatDoor
namespace Go.Proofs.YtcomjkoaieeidaaGreatDoor
open Go.RowKit
set_option linter.unusedVariables false
theorem Tryz.infoRange : (Tryz.prog.info? 36).map (fun i => (i.zero, i.size, i.bytes)) = some (some (.agg #[.int .i64 0, .int .i64 0]), 2, 16) := by kernel_rfl
abbrev flat2 (l : List (Int × Int)) : List Value := l.flatMap fun p => [Value.int .i64 p.1, Value.int .i64 p.2]
theorem flat2_snoc (l : List (Int × Int)) (p : Int × Int) : flat2 (l ++ [p]) = flat2 l ++ [Value.int .i64 p.1, Value.int .i64 p.2] := by simp [flat2]
theorem flat2_len (l : List (Int × Int)) : (flat2 l).length = l.length * 2 := by
  induction l with
  | nil => rfl
  | cons p l ih => show ([_, _] ++ flat2 l).length = _; rw [List.length_append, ih]; simp; omega
/-- A list of ranges that a call owns. -/
def RgOwn (W : World) (base : Nat) (v : Value) (l : List (Int × Int)) : Prop := W.ownsRow base 36 2 v l.length (flat2 l)
theorem RgOwn.below {W W' : World} {base : Nat} {v : Value} {l : List (Int × Int)} (h : RgOwn W base v l) (hb : Below W.heap.size W W') : RgOwn W' base v l :=
  h.kept ⟨hb.os, hb.tape, hb.output, hb.size, fun k hk _ => hb.block k hk⟩ (row := none) (by cases hv : v.ownBlock <;> simp)
theorem RgOwn.hi {W : World} {base g cap : Nat} {l : List (Int × Int)} {p : Int × Int} (h : RgOwn W base (.slice (some ⟨g, 0, none⟩) (l.length + 1) cap) (l ++ [p])) :
    W.cell? ⟨g, l.length * 2 + 1, none⟩ = some (.int .i64 p.2) ∧ W.frozen? ⟨g, l.length * 2 + 1, none⟩ = false := by
  have h' : W.ownsRow base 36 2 (.slice (some ⟨g, 0, none⟩) (l.length + 1) cap) (l.length + 1) (flat2 l ++ [Value.int .i64 p.1, Value.int .i64 p.2]) := by
    have := h; unfold RgOwn at this; rw [List.length_append, flat2_snoc] at this; exact this
  refine ⟨?_, h'.frozenAt _⟩
  rw [h'.cellAt _ (by omega), List.getElem?_append_right (by rw [flat2_len]; omega), flat2_len]
  rw [show l.length * 2 + 1 - l.length * 2 = 1 from by omega]; rfl
theorem RgOwn.setHi {W : World} {base g cap : Nat} {l : List (Int × Int)} {p : Int × Int} (h : RgOwn W base (.slice (some ⟨g, 0, none⟩) (l.length + 1) cap) (l ++ [p])) (y : Int) :
    RgOwn (W.setCell ⟨g, l.length * 2 + 1, none⟩ (.int .i64 y)) base (.slice (some ⟨g, 0, none⟩) (l.length + 1) cap) (l ++ [(p.1, y)]) := by
  have h' : W.ownsRow base 36 2 (.slice (some ⟨g, 0, none⟩) (l.length + 1) cap) (l.length + 1) (flat2 l ++ [Value.int .i64 p.1, Value.int .i64 p.2]) := by
    have := h; unfold RgOwn at this; rw [List.length_append, flat2_snoc] at this; exact this
  have hs := (h'.stored (l.length * 2 + 1) (.int .i64 y)).1
  have e : (flat2 l ++ [Value.int .i64 p.1, Value.int .i64 p.2]).set (l.length * 2 + 1) (.int .i64 y) = flat2 (l ++ [(p.1, y)]) := by
    rw [flat2_snoc, List.set_append_right _ _ (by rw [flat2_len]; omega), flat2_len, show l.length * 2 + 1 - l.length * 2 = 1 from by omega]; rfl
  rw [e] at hs
  unfold RgOwn
  rw [List.length_append]
  exact hs
theorem RgOwn.form {W : World} {base : Nat} {v : Value} {l : List (Int × Int)} {p : Int × Int} (h : RgOwn W base v (l ++ [p])) : ∃ g cap, v = .slice (some ⟨g, 0, none⟩) (l.length + 1) cap ∧ base ≤ g ∧ g < W.heap.size := by
  unfold RgOwn at h
  rw [List.length_append] at h
  rcases h.2 with ⟨_, h0⟩ | ⟨g, cap, cur, hv, hb, hg, _⟩
  · simp at h0
  · exact ⟨g, cap, hv, hb, (Array.getElem?_eq_some_iff.1 hg).1⟩
theorem RgOwn.nil {W : World} {base : Nat} : RgOwn W base (.slice none 0 0) [] := World.ownsRow_nil _ _ _ _
theorem RgOwn.empty {W : World} {base : Nat} {v : Value} (h : RgOwn W base v []) : ∃ a cap, v = .slice a 0 cap := by
  rcases h.2 with ⟨hv, _⟩ | ⟨g, cap, cur, hv, _⟩
  · exact ⟨none, 0, hv⟩
  · exact ⟨_, cap, hv⟩

def MakePost (op : Int) (a b : List (Int × Int)) (W : World) (e : Ending) (w' : World) : Prop := ∃ v out, e = .returned v ∧ Rg.Made op a b out ∧ RgOwn w' W.heap.size v out ∧ Below W.heap.size W w'
theorem nil_or_snoc {α : Type} (l : List α) : l = [] ∨ ∃ ini p, l = ini ++ [p] := by
  rcases List.eq_nil_or_concat l with h | ⟨ini, p, h⟩
  · exact .inl h
  · exact .inr ⟨ini, p, by rw [h, List.concat_eq_append]⟩
theorem refEdge_at {W : World} {v : Value} {l : List (Int × Int)} {r E : Int} (h : RRow W v l) (hr0 : 0 ≤ r) (hr1 : r ≤ 1114111) (hE : Rg.edgeN l r = E) :
    Calls Tryz.prog 91 #[v, .int .i64 r] W fun e w' => e = .returned (.int .i64 E) ∧ W = w' := by
  obtain ⟨a, cap, rfl, hl, hw, hc⟩ := h
  rw [← hE]
  exact refEdge_walk W a _ cap l r rfl hl hc hw hr0 hr1
theorem refHas_at {W : World} {v : Value} {l : List (Int × Int)} {r : Int} {X : Bool} (h : RRow W v l) (hX : Rg.hasB l r = X) :
    Calls Tryz.prog 68 #[v, .int .i64 r] W fun e w' => e = .returned (.bool X) ∧ W = w' := by
  rw [← hX]; exact refHas_any W v l r h
theorem RgOwn.slice {W : World} {base : Nat} {v : Value} {l : List (Int × Int)} (h : RgOwn W base v l) : ∃ a cap, v = .slice a l.length cap := by
  rcases h.2 with ⟨hv, h0⟩ | ⟨g, cap, cur, hv, _⟩
  · exact ⟨none, 0, by rw [h0]; exact hv⟩
  · exact ⟨_, cap, hv⟩

end Go.Proofs.YtcomjkoaieeidaaGreatDoor
