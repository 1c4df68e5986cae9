/- burinlaw16.VerifyChecks: what its walk rests on. -/
import Derived.Test.YtchcjinaagncjaaDoorGp23
import Derived.Test.YtchcjinaagncjaaDoorGp28
import Derived.Test.YtchcjinaagncjaaDoorGp29
import Derived.Test.YtchcjinaagncjaaDoorGp30
import Derived.Test.YtchcjinaagncjaaDoorGp7
import Derived.BigQuiet
namespace Go.Proofs.YtchcjinaagncjaaDoor
open Go.RowKit
set_option linter.unusedVariables false
set_option linter.unusedSimpArgs false
namespace Pgm
theorem in_row {W : World} {base : Nat} {v : Value} {l : List In} (h : InOwn W base v l) (hl : l.length ≤ 3518437208883) (hb : ∀ i ∈ l, i.bd) : InRow W v l := by
  rcases h.2 with ⟨e, e0⟩ | ⟨g, cap, cur, e, hbg, hg, hnc, hcm, hcs, hz⟩
  · have := List.eq_nil_of_length_eq_zero e0
    subst this
    rw [e]; exact .nil W
  · refine ⟨_, cap, e, hl, hb, fun j hj => ⟨g, 0, rfl, (Array.getElem?_eq_some_iff.1 hg).1, fun q hq => ?_⟩⟩
    have h9 := World.ownsRow.cellAt (e ▸ h : W.ownsRow base 60 5 (.slice (some ⟨g, 0, none⟩) l.length cap) l.length (l.flatMap In.cs)) (j * 5 + q) (by omega)
    rw [Nat.zero_add]
    exact h9.trans (flatIn_at l j l[j] q (List.getElem?_eq_getElem hj) hq)
/-- All of a row, appended to an empty one. -/
theorem app_all (l : List In) (vs : Value) (W : World) (hr : InRow W vs l) (h0 : 1 ≤ l.length) :
    ∃ gg cap2 W2, (Builtin.append_ #[44, 44] 44 #[.slice (some ⟨W.heap.size, 0, none⟩) 0 0, vs]).run Tryd.prog (W.alloc (.cells #[] 60)) = .ok (.slice (some ⟨gg, 0, none⟩) l.length cap2) W2 ∧ InOwn W2 W.heap.size (.slice (some ⟨gg, 0, none⟩) l.length cap2) l ∧ Below W.heap.size W W2 := by
  obtain ⟨a, c, rfl, hl, hbd, hcs⟩ := hr
  obtain ⟨N, hNl⟩ : ∃ N, l.length = N := ⟨_, rfl⟩
  obtain ⟨b, off, rfl, hb, -⟩ := hcs 0 (by omega)
  have hc : ∀ j v, (l.flatMap In.cs)[j]? = some v → W.cell? ⟨b, off + j, none⟩ = some v := fun j v hv => by
    have hjl : j < l.length * 5 := by
      have := (List.getElem?_eq_some_iff.1 hv).1
      rwa [flatIn_len] at this
    obtain ⟨b', off', hab, hb', hq⟩ := hcs (j / 5) (by omega)
    injection hab with hab
    injection hab with e1 e2
    subst e1; subst e2
    have h1 := hq (j % 5) (by omega)
    have h2 := flatIn_at l (j / 5) l[j / 5] (j % 5) (List.getElem?_eq_getElem (by omega)) (by omega)
    have e : j / 5 * 5 + j % 5 = j := by omega
    rw [e] at h2
    rw [h2] at hv
    rw [show off + j / 5 * 5 + j % 5 = off + j by omega, hv] at h1
    exact h1
  have hz : (l.flatMap In.cs).length = N * 5 := by rw [flatIn_len, hNl]
  have h1 : ∀ v ∈ l.flatMap In.cs, v.oneCell' = true := fun v hv => by
    obtain ⟨i, _, hi⟩ := List.mem_flatMap.1 hv
    exact cs_one i v hi
  obtain ⟨i0, hi, hz0, hz1, hz2⟩ := info_parts infoInst
  obtain ⟨W1, hW1⟩ : ∃ W1, W.alloc (.cells #[] 60) = W1 := ⟨_, rfl⟩
  have hb1 : Below W.heap.size W W1 := by rw [← hW1]; exact (Below.refl _ _).alloc (Nat.le_refl _) _
  have hs1 : W1.heap.size = W.heap.size + 1 := by rw [← hW1]; simp
  have hown0 : W1.ownsRow W.heap.size 60 5 (.slice (some ⟨W.heap.size, 0, none⟩) 0 0) 0 [] := by
    rw [← hW1]
    have := World.ownsRow_lit (base := W.heap.size) (e := 60) (size := 5) W #[] 0 (Nat.le_refl _) (by unfold maxLen; omega) (by simp)
    simpa using this
  obtain ⟨gg, cap2, W2, hrun, hown, hgrow, hat, hlt2⟩ := run_append_lies (P := Tryd.prog) W1 44 44 W.heap.size 60 i0 _ 5 40 underInsts hi hz0 hz1 hz2 rfl (by omega) _ 0 [] hown0
    ⟨b, off, none⟩ N c (l.flatMap In.cs) hz (fun j u hu => by rw [Addr.add_lit]; exact (hb1.cell (p := ⟨b, off + j, none⟩) hb).trans (hc j u hu)) h1 (by omega) (by unfold maxLen; omega) (by omega) (by omega) _ rfl
  rw [Nat.zero_add, List.nil_append] at hown
  rw [Nat.zero_add] at hrun
  rw [hW1, hNl]
  exact ⟨gg, cap2, W2, hrun, by unfold InOwn; rw [hNl]; exact hown, hb1.trans ((Below.refl W.heap.size W1).grown hgrow (by omega) fun j ej => (World.ownsRow.lt hown0 j ej).1)⟩
end Pgm
end Go.Proofs.YtchcjinaagncjaaDoor
