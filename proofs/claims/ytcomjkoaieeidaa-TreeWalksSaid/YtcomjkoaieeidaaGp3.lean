/- Lists of ranges in memory; the contract of the reference's Has (burinref02). · The contract of the reference's Make (burinref02), from edge to edge. · The contracts of burinbook.SameRanges and of the reference's Check, Norm, Not and Count (burinref02). · The reference's Make (burinref02) for operation 1: the list of the set made of two. -/
import Derived.Test.YtcomjkoaieeidaaRows
import Derived.Test.YtcomjkoaieeidaaGp2
import Derived.WalkKit
import Derived.OwnWalk
import Derived.WalkLawsBesides
import Derived.WalkSpells
import Derived.Lib.Hide
import Derived.Deep.QuietTactic
import Derived.BigQuiet
import Derived.Maps.AppendAt
import Derived.Deep.AppendLies
import Derived.Laws.OwnMore
import Derived.Laws.StructEq
namespace Go.Proofs.Ytcomjkoaieeidaa
open Go.RowKit
set_option linter.unusedVariables false
def RRow (W : World) (v : Value) (l : List (Int × Int)) : Prop :=
  ∃ a cap, v = .slice a l.length cap ∧ l.length ≤ 8796093022208 ∧ (∀ p ∈ l, -9223372036854775808 ≤ p.1 ∧ p.1 ≤ 9223372036854775807 ∧ -9223372036854775808 ≤ p.2 ∧ p.2 ≤ 9223372036854775807) ∧ ∀ j, j < l.length → ∃ b off, a = some ⟨b, off, none⟩ ∧ b < W.heap.size ∧
    W.cell? ⟨b, off + j * 2, none⟩ = some (.int .i64 (l[j]?.getD (0, 0)).1) ∧ W.cell? ⟨b, off + j * 2 + 1, none⟩ = some (.int .i64 (l[j]?.getD (0, 0)).2)
theorem RRow.below {W W' : World} {v : Value} {l : List (Int × Int)} (h : RRow W v l) {B : Nat} (hB : W.heap.size ≤ B) (hb : Below B W W') : RRow W' v l := by
  obtain ⟨a, cap, hv, hl, hw, hc⟩ := h
  refine ⟨a, cap, hv, hl, hw, fun j hj => ?_⟩
  obtain ⟨b, off, ha, hlt, h1, h2⟩ := hc j hj
  exact ⟨b, off, ha, Nat.lt_of_lt_of_le hlt hb.size, (hb.cell (p := ⟨b, off + j * 2, none⟩) (by show b < B; omega)).trans h1, (hb.cell (p := ⟨b, off + j * 2 + 1, none⟩) (by show b < B; omega)).trans h2⟩
theorem any_take_succ (l : List (Int × Int)) (k : Nat) (hk : k < l.length) (f : Int × Int → Bool) : (l.take (k + 1)).any f = ((l.take k).any f || f (l[k]?.getD (0, 0))) := by
  rw [List.take_succ_eq_append_getElem hk, List.any_append]
  simp [hk]







































































theorem fold_take_succ (at_ : Int) (l : List (Int × Int)) (k : Nat) (hk : k < l.length) : (l.take (k + 1)).foldl (Rg.edge1 at_) 1114112 = Rg.edge1 at_ ((l.take k).foldl (Rg.edge1 at_) 1114112) (l[k]?.getD (0, 0)) := by
  rw [List.take_succ_eq_append_getElem hk, List.foldl_append]
  simp [hk]











































end Go.Proofs.Ytcomjkoaieeidaa
namespace Go.Proofs.Ytcomjkoaieeidaa
open Go.RowKit
set_option linter.unusedVariables false
theorem Try.infoRange : (Try.prog.info? 50).map (fun i => (i.zero, i.size, i.bytes)) = some (some (.agg #[.int .i64 0, .int .i64 0]), 2, 16) := by kernel_rfl
abbrev flat2 (l : List (Int × Int)) : List Value := l.flatMap fun p => [Value.int .i64 p.1, Value.int .i64 p.2]
theorem flat2_snoc (l : List (Int × Int)) (p : Int × Int) : flat2 (l ++ [p]) = flat2 l ++ [Value.int .i64 p.1, Value.int .i64 p.2] := by simp [flat2]
theorem flat2_len (l : List (Int × Int)) : (flat2 l).length = l.length * 2 := by
  induction l with
  | nil => rfl
  | cons p l ih => show ([_, _] ++ flat2 l).length = _; rw [List.length_append, ih]; simp; omega
/-- A list of ranges that a call owns. -/
def RgOwn (W : World) (base : Nat) (v : Value) (l : List (Int × Int)) : Prop := W.ownsRow base 50 2 v l.length (flat2 l)
theorem RgOwn.below {W W' : World} {base : Nat} {v : Value} {l : List (Int × Int)} (h : RgOwn W base v l) (hb : Below W.heap.size W W') : RgOwn W' base v l :=
  h.kept ⟨hb.os, hb.tape, hb.output, hb.size, fun k hk _ => hb.block k hk⟩ (row := none) (by cases hv : v.ownBlock <;> simp)
theorem RgOwn.hi {W : World} {base g cap : Nat} {l : List (Int × Int)} {p : Int × Int} (h : RgOwn W base (.slice (some ⟨g, 0, none⟩) (l.length + 1) cap) (l ++ [p])) :
    W.cell? ⟨g, l.length * 2 + 1, none⟩ = some (.int .i64 p.2) ∧ W.frozen? ⟨g, l.length * 2 + 1, none⟩ = false := by
  have h' : W.ownsRow base 50 2 (.slice (some ⟨g, 0, none⟩) (l.length + 1) cap) (l.length + 1) (flat2 l ++ [Value.int .i64 p.1, Value.int .i64 p.2]) := by
    have := h; unfold RgOwn at this; rw [List.length_append, flat2_snoc] at this; exact this
  refine ⟨?_, h'.frozenAt _⟩
  rw [h'.cellAt _ (by omega), List.getElem?_append_right (by rw [flat2_len]; omega), flat2_len]
  rw [show l.length * 2 + 1 - l.length * 2 = 1 from by omega]; rfl
theorem RgOwn.setHi {W : World} {base g cap : Nat} {l : List (Int × Int)} {p : Int × Int} (h : RgOwn W base (.slice (some ⟨g, 0, none⟩) (l.length + 1) cap) (l ++ [p])) (y : Int) :
    RgOwn (W.setCell ⟨g, l.length * 2 + 1, none⟩ (.int .i64 y)) base (.slice (some ⟨g, 0, none⟩) (l.length + 1) cap) (l ++ [(p.1, y)]) := by
  have h' : W.ownsRow base 50 2 (.slice (some ⟨g, 0, none⟩) (l.length + 1) cap) (l.length + 1) (flat2 l ++ [Value.int .i64 p.1, Value.int .i64 p.2]) := by
    have := h; unfold RgOwn at this; rw [List.length_append, flat2_snoc] at this; exact this
  have hs := (h'.stored (l.length * 2 + 1) (.int .i64 y)).1
  have e : (flat2 l ++ [Value.int .i64 p.1, Value.int .i64 p.2]).set (l.length * 2 + 1) (.int .i64 y) = flat2 (l ++ [(p.1, y)]) := by
    rw [flat2_snoc, List.set_append_right _ _ (by rw [flat2_len]; omega), flat2_len, show l.length * 2 + 1 - l.length * 2 = 1 from by omega]; rfl
  rw [e] at hs
  unfold RgOwn
  rw [List.length_append]
  exact hs
theorem RgOwn.form {W : World} {base : Nat} {v : Value} {l : List (Int × Int)} {p : Int × Int} (h : RgOwn W base v (l ++ [p])) : ∃ g cap, v = .slice (some ⟨g, 0, none⟩) (l.length + 1) cap ∧ base ≤ g ∧ g < W.heap.size := by
  unfold RgOwn at h
  rw [List.length_append] at h
  rcases h.2 with ⟨_, h0⟩ | ⟨g, cap, cur, hv, hb, hg, _⟩
  · simp at h0
  · exact ⟨g, cap, hv, hb, (Array.getElem?_eq_some_iff.1 hg).1⟩
theorem RgOwn.nil {W : World} {base : Nat} : RgOwn W base (.slice none 0 0) [] := World.ownsRow_nil _ _ _ _
theorem RgOwn.empty {W : World} {base : Nat} {v : Value} (h : RgOwn W base v []) : ∃ a cap, v = .slice a 0 cap := by
  rcases h.2 with ⟨hv, _⟩ | ⟨g, cap, cur, hv, _⟩
  · exact ⟨none, 0, hv⟩
  · exact ⟨_, cap, hv⟩

def MakePost (op : Int) (a b : List (Int × Int)) (W : World) (e : Ending) (w' : World) : Prop := ∃ v out, e = .returned v ∧ Rg.Made op a b out ∧ RgOwn w' W.heap.size v out ∧ Below W.heap.size W w'
theorem nil_or_snoc {α : Type} (l : List α) : l = [] ∨ ∃ ini p, l = ini ++ [p] := by
  rcases List.eq_nil_or_concat l with h | ⟨ini, p, h⟩
  · exact .inl h
  · exact .inr ⟨ini, p, by rw [h, List.concat_eq_append]⟩








theorem RgOwn.slice {W : World} {base : Nat} {v : Value} {l : List (Int × Int)} (h : RgOwn W base v l) : ∃ a cap, v = .slice a l.length cap := by
  rcases h.2 with ⟨hv, h0⟩ | ⟨g, cap, cur, hv, _⟩
  · exact ⟨none, 0, by rw [h0]; exact hv⟩
  · exact ⟨_, cap, hv⟩

end Go.Proofs.Ytcomjkoaieeidaa
namespace Go.Proofs.Ytcomjkoaieeidaa
open Go.RowKit
set_option linter.unusedVariables false
theorem take_succ_eq {α : Type} [Inhabited α] {d : α} (l m : List α) (k : Nat) (hl : k < l.length) (hm : k < m.length) :
    l.take (k + 1) = m.take (k + 1) ↔ l.take k = m.take k ∧ l[k]?.getD d = m[k]?.getD d := by
  rw [List.take_add_one, List.take_add_one, List.getElem?_eq_getElem hl, List.getElem?_eq_getElem hm]
  constructor
  · intro h
    have := List.append_inj h (by simp; omega)
    exact ⟨this.1, by simpa using this.2⟩
  · rintro ⟨h1, h2⟩
    rw [h1]
    simp only [Option.getD_some] at h2
    simp [h2]
set_option maxRecDepth 100000 in
set_option maxHeartbeats 2000000 in
theorem same_rg_walk (W : World) (a b : Option Addr) (n p q : Nat) (l m : List (Int × Int)) (hn : n ≤ 8796093022208) (hl : l.length = n) (hm : m.length = n)
    (ha : ∀ j, j < n → ∃ g off, a = some ⟨g, off, none⟩ ∧ g < W.heap.size ∧ W.cell? ⟨g, off + j * 2, none⟩ = some (.int .i64 (l[j]?.getD (0, 0)).1) ∧ W.cell? ⟨g, off + j * 2 + 1, none⟩ = some (.int .i64 (l[j]?.getD (0, 0)).2))
    (hb : ∀ j, j < n → ∃ g off, b = some ⟨g, off, none⟩ ∧ g < W.heap.size ∧ W.cell? ⟨g, off + j * 2, none⟩ = some (.int .i64 (m[j]?.getD (0, 0)).1) ∧ W.cell? ⟨g, off + j * 2 + 1, none⟩ = some (.int .i64 (m[j]?.getD (0, 0)).2)) :
    Calls Try.prog 20 #[.slice a n p, .slice b n q] W fun e W' => e = .returned (.bool (decide (l = m))) ∧ ∃ d, W' = W.drewN d := by
  have HA := Lib.hid ha
  have HB := Lib.hid hb
  have HL := Lib.hid hl
  have HM := Lib.hid hm
  clear ha hb hl hm
  go_enter Try.func20, Try.ntmps20
  go_wp2
  go_loopw [5, 6] (fun s i wr => ∃ (k : Nat) (S : Bool), k ≤ n ∧ i = .int .i64 k ∧ s = .bool S ∧ Hid (S = decide (l.take k = m.take k)) ∧ ∃ d, wr = W.drewN d) (fun s i _ => (n - (intOf i).toNat) + (if s matches .bool true then 1 else 0))
  case atStart => exact ⟨0, true, Nat.zero_le _, rfl, by simp, Lib.hid (by simp), 0, rfl⟩
  case round =>
    obtain ⟨k, S, hk, rfl, rfl, HS, d, rfl⟩ := hrel
    cases S with
    | false =>
      have HF : Hid (decide (l = m) = false) := Lib.hid (by rw [decide_eq_false_iff_not]; intro e; have := HS.out; rw [e] at this; simp at this)
      go_wp2
      go_ret
      exact ⟨by rw [HF.out]; rfl, _, rfl⟩
    | true =>
      by_cases hlt : k < n
      · obtain ⟨g, off, rfl, hg, hc1, hc2⟩ := HA.out k hlt
        obtain ⟨g', off', rfl, hg', hc3, hc4⟩ := HB.out k hlt
        have hkl : k < l.length := by rw [HL.out]; exact hlt
        have hkm : k < m.length := by rw [HM.out]; exact hlt
        by_cases e1 : (l[k]?.getD (0, 0)).1 = (m[k]?.getD (0, 0)).1
        · by_cases e2 : (l[k]?.getD (0, 0)).2 = (m[k]?.getD (0, 0)).2
          · have HT : Hid (true = decide (l.take (k + 1) = m.take (k + 1))) := Lib.hid (by
              have := HS.out
              simp only [Eq.comm (a := true), decide_eq_true_eq] at this ⊢
              exact (take_succ_eq l m k hkl hkm).mpr ⟨this, Prod.ext e1 e2⟩)
            clear hkl hkm
            go_wp2
            go_quiet (fail)
            go_wp2
            go_round
            case rel => exact ⟨k + 1, true, by omega, by go_num, rfl, HT, _, rfl⟩
            case measure => simp [intOf]; omega
          · have HT : Hid (false = decide (l.take (k + 1) = m.take (k + 1))) := Lib.hid (by
              symm; rw [decide_eq_false_iff_not]; intro e
              exact e2 (congrArg Prod.snd ((take_succ_eq l m k hkl hkm).mp e).2))
            clear hkl hkm
            go_wp2
            go_quiet (fail)
            go_wp2
            go_round
            case rel => exact ⟨k + 1, false, by omega, by go_num, rfl, HT, _, rfl⟩
            case measure => simp [intOf]; omega
        · have HT : Hid (false = decide (l.take (k + 1) = m.take (k + 1))) := Lib.hid (by
            symm; rw [decide_eq_false_iff_not]; intro e
            exact e1 (congrArg Prod.fst ((take_succ_eq l m k hkl hkm).mp e).2))
          clear hkl hkm
          go_wp2
          go_quiet (fail)
          go_wp2
          go_round
          case rel => exact ⟨k + 1, false, by omega, by go_num, rfl, HT, _, rfl⟩
          case measure => simp [intOf]; omega
      · obtain rfl : k = n := by omega
        have HE : Hid (decide (l = m) = true) := Lib.hid (by
          have := HS.out
          rw [List.take_of_length_le (by rw [HL.out]; exact Nat.le_refl _), List.take_of_length_le (by rw [HM.out]; exact Nat.le_refl _)] at this
          exact this.symm)
        go_wp2
        go_ret
        exact ⟨by rw [HE.out]; rfl, _, rfl⟩
end Go.Proofs.Ytcomjkoaieeidaa
namespace Go.Proofs.Ytcomjkoaieeidaa
open Go.RowKit
set_option linter.unusedVariables false





































































































































end Go.Proofs.Ytcomjkoaieeidaa
