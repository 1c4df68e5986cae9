/- A row of instructions that is owned. · Programs and their texts: what is read from a program's text is that program. -/
import Derived.Test.YtchcjinaagncjaaDoorGp4
import Derived.Test.YtchcjinaagncjaaDoorGp2
import Derived.Deep.AppendLies
import Derived.Test.YtchcjinaagncjaaDoorGp1
namespace Go.Proofs.YtchcjinaagncjaaDoor
open Go.RowKit
set_option linter.unusedVariables false
namespace Pgm
theorem infoInst : (Tryd.prog.info? 60).map (fun i => (i.zero, i.size, i.bytes)) = some (some (.agg #[.int .i64 0, .int .i64 0, .int .i64 0, .int .i64 0, .int .i64 0]), 5, 40) := by kernel_rfl
theorem underInsts : Tryd.prog.underlying 44 = some (.slice 60) := by kernel_rfl
def InOwn (W : World) (base : Nat) (v : Value) (l : List In) : Prop := W.ownsRow base 60 5 v l.length (l.flatMap In.cs)
theorem InOwn.nil (W : World) (base : Nat) : InOwn W base (.slice none 0 0) [] := World.ownsRow_nil _ _ _ _
theorem flatIn_len (l : List In) : (l.flatMap In.cs).length = l.length * 5 := by
  induction l with
  | nil => rfl
  | cons a L ih => rw [List.flatMap_cons, List.length_append, ih, List.length_cons]; show 5 + _ = _; omega
theorem flatIn_at : ∀ (l : List In) (i : Nat) (x : In) (q : Nat), l[i]? = some x → q < 5 → (l.flatMap In.cs)[i * 5 + q]? = x.cs[q]?
  | [], i, x, q, h, _ => by simp at h
  | y :: l, 0, x, q, h, hq => by
    simp at h; subst h
    rw [List.flatMap_cons, List.getElem?_append_left (by show 0 * 5 + q < 5; omega)]; simp
  | y :: l, i + 1, x, q, h, hq => by
    rw [List.flatMap_cons, List.getElem?_append_right (by show 5 ≤ _; omega)]
    have : (i + 1) * 5 + q - y.cs.length = i * 5 + q := by show (i + 1) * 5 + q - 5 = _; omega
    rw [this]
    exact flatIn_at l i x q (by simpa using h) hq
theorem InOwn.slice {W : World} {base : Nat} {v : Value} {l : List In} (h : InOwn W base v l) : ∃ a cap, v = .slice a l.length cap := by
  rcases h.2 with ⟨e, e0⟩ | ⟨g, cap, cur, e, _⟩
  · exact ⟨none, 0, by rw [e, e0]⟩
  · exact ⟨_, _, e⟩
theorem InOwn.lt {W : World} {base : Nat} {v : Value} {l : List In} (h : InOwn W base v l) : ∀ b, v.ownBlock = some b → base ≤ b ∧ b < W.heap.size := fun b hb => World.ownsRow.lt h b hb
theorem InOwn.below {W W' : World} {base : Nat} {v : Value} {l : List In} (h : InOwn W base v l) {B : Nat} (hb : Below B W W') (hB : W.heap.size ≤ B) : InOwn W' base v l :=
  World.ownsRow.kept h (row := none) ⟨hb.os, hb.tape, hb.output, hb.size, fun k hk _ => hb.block k (Nat.lt_of_lt_of_le hk hB)⟩ (by cases hv : v.ownBlock <;> simp)
theorem InOwn.drewN {W : World} {base : Nat} {v : Value} {l : List In} (h : InOwn W base v l) (n : Nat) : InOwn (W.drewN n) base v l := h.below (below_drewN (Below.refl W.heap.size W) n) (Nat.le_refl _)
theorem InOwn.mono {W : World} {base base' : Nat} {v : Value} {l : List In} (h : InOwn W base v l) (hb : base' ≤ base) : InOwn W base' v l := by
  refine ⟨h.1, ?_⟩
  rcases h.2 with e | ⟨g, cap, cur, e, h1, h2⟩
  · exact .inl e
  · exact .inr ⟨g, cap, cur, e, Nat.le_trans hb h1, h2⟩
theorem InOwn.row {W : World} {base : Nat} {v : Value} {l : List In} (h : InOwn W base v l) (hl : l.length ≤ 1000000) (hb : ∀ i ∈ l, i.bd) : InRow W v l := by
  rcases h.2 with ⟨e, e0⟩ | ⟨g, cap, cur, e, hbg, hg, hnc, hcm, hcs, hz⟩
  · have := List.eq_nil_of_length_eq_zero e0
    subst this
    rw [e]; exact .nil W
  · refine ⟨_, cap, e, by omega, hb, fun j hj => ⟨g, 0, rfl, (Array.getElem?_eq_some_iff.1 hg).1, fun q hq => ?_⟩⟩
    have h9 := World.ownsRow.cellAt (e ▸ h : W.ownsRow base 60 5 (.slice (some ⟨g, 0, none⟩) l.length cap) l.length (l.flatMap In.cs)) (j * 5 + q) (by omega)
    rw [Nat.zero_add]
    exact h9.trans (flatIn_at l j l[j] q (List.getElem?_eq_getElem hj) hq)
theorem cs_one (i : In) : ∀ u ∈ i.cs, u.oneCell' = true := fun u hu => by
  simp only [In.cs, List.mem_cons, List.not_mem_nil, or_false] at hu
  rcases hu with rfl | rfl | rfl | rfl | rfl <;> rfl
/-- One instruction more. -/
theorem append_in (W : World) (base : Nat) (v : Value) (l : List In) (hv : InOwn W base v l) (hb0 : base ≤ W.heap.size) (hl : l.length ≤ 1000000) (i : In) (bt : Nat) (hnews : ∀ j u, i.cs[j]? = some u → W.cell? ((⟨bt, 0, none⟩ : Addr).add j) = some u) (c : Nat) :
    ∃ v' W', (Builtin.append_ #[44, 44] 44 #[v, .slice (some ⟨bt, 0, none⟩) 1 c]).run Tryd.prog W = .ok v' W' ∧ InOwn W' base v' (l ++ [i]) ∧ Below base W W' ∧ W.grownBy W' v.ownBlock := by
  obtain ⟨i0, hi, hz0, hz1, hz2⟩ := info_parts infoInst
  obtain ⟨gg, cap2, W2, hrun, hown, hgrow, hat, hlt2⟩ := run_append_lies (P := Tryd.prog) W 44 44 base 60 i0 _ 5 40 underInsts hi hz0 hz1 hz2 rfl (by omega) v _ _ hv
    ⟨bt, 0, none⟩ 1 c i.cs rfl hnews (cs_one i) (by omega) (by unfold maxLen; omega) (by omega) hb0 _ rfl
  refine ⟨_, _, hrun, ?_, (Below.refl base W).grown hgrow hb0 fun j ej => (World.ownsRow.lt hv j ej).1, hgrow⟩
  unfold InOwn
  rw [List.length_append, List.flatMap_append]
  simpa using hown
end Pgm
end Go.Proofs.YtchcjinaagncjaaDoor
namespace Go.Proofs.YtchcjinaagncjaaDoor.Pgm
set_option linter.unusedVariables false
theorem fit_op {i : In} (h : Fit i) : 1 ≤ i.op ∧ i.op ≤ 6 := by unfold Fit at h; omega
theorem fit_own {i : In} (h : Fit i) : ∀ n ∈ ownL i, 0 ≤ n ∧ n < 4000 := by
  unfold Fit at h
  unfold ownL
  split
  · intro n hn
    simp only [List.mem_cons, List.not_mem_nil, or_false] at hn
    omega
  · split
    · intro n hn
      simp only [List.mem_cons, List.not_mem_nil, or_false] at hn
      omega
    · split
      · intro n hn
        simp only [List.mem_cons, List.not_mem_nil, or_false] at hn
        omega
      · intro n hn; simp at hn
theorem ok_fit {l : List In} {st sl : Int} (h : Ok l st sl) : ∀ i ∈ l, Fit i := fun i hi => (fitB_iff i).1 (List.all_eq_true.1 h.2.2.2.2.2.2 i hi)
end Go.Proofs.YtchcjinaagncjaaDoor.Pgm
