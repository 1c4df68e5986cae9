/- The landed verify: order: what its memory holds. -/
import Derived.Test.YtchcjinaagncjaaDoorGp12
namespace Go.Proofs.YtchcjinaagncjaaDoor
open Go.RowKit
set_option linter.unusedVariables false
set_option linter.unusedSimpArgs false
namespace Pgm
theorem io_keep {w w' : World} {base : Nat} {v : Value} {T : List Int} (h : IOwn w base v T) (hk : ∀ g, v.ownBlock = some g → w'.heap[g]? = w.heap[g]?) : IOwn w' base v T := by
  refine ⟨h.1, ?_⟩
  rcases h.2 with e | ⟨g, cap, cur, e, h1, h2, h3⟩
  · exact .inl e
  · exact .inr ⟨g, cap, cur, e, h1, (hk g (by rw [e]; rfl)).trans h2, h3⟩
/-- One number more; whose block it is. -/
theorem app_two (w : World) (base : Nat) (v : Value) (T : List Int) (hv : IOwn w base v T) (hb : base ≤ w.heap.size) (N : Nat) (hN : T.length = N) (hT : N ≤ 100000) (c : Int) :
    ∃ g4 d4 W4, (Builtin.append_ #[30, 30] 30 #[v, .slice (some ⟨w.heap.size, 0, none⟩) 1 1]).run Tryd.prog (w.alloc (.cells #[.int .i64 c] 3)) = .ok (.slice (some ⟨g4, 0, none⟩) (N + 1) d4) W4 ∧ IOwn W4 base (.slice (some ⟨g4, 0, none⟩) (N + 1) d4) (T ++ [c]) ∧ Below base w W4 ∧
      (v.ownBlock = some g4 ∨ w.heap.size < g4) ∧ ∀ b, b < w.heap.size → v.ownBlock ≠ some b → W4.heap[b]? = w.heap[b]? := by
  obtain ⟨i0, hi, hz0, hz1, hz2⟩ := info_parts infoIn14
  have hnew : (w.alloc (.cells #[.int .i64 c] 3)).heap[w.heap.size]? = some (.cells #[.int .i64 c] 3 (0, 0)) := heap_alloc_new w _
  have hb4 : Below base w (w.alloc (.cells #[.int .i64 c] 3)) := (Below.refl _ _).alloc hb _
  have hs4 : (w.alloc (.cells #[.int .i64 c] 3)).heap.size = w.heap.size + 1 := by simp
  obtain ⟨gg, cap2, W2, hrun, hown, hgrow, hat, hlt2⟩ := run_append_lies (P := Tryd.prog) (w.alloc (.cells #[.int .i64 c] 3)) 30 30 base 3 i0 _ 1 8 underIn14 hi hz0 hz1 hz2 rfl (by omega) v _ _ (hv.alloc _)
    ⟨w.heap.size, 0, none⟩ 1 1 [.int .i64 c] rfl (World.news_of_block hnew) (by intro u hu; simp at hu; subst hu; rfl) (by omega) (by unfold maxLen; omega) (by omega) (Nat.le_trans hb hb4.size) _ rfl
  rw [hN] at hrun hown
  refine ⟨gg, cap2, W2, hrun, ?_, hb4.trans ((Below.refl base _).grown hgrow (Nat.le_trans hb hb4.size) fun j ej => (World.ownsRow.lt (hv.alloc (.cells #[.int .i64 c] 3)) j ej).1), ?_, fun b hb2 hn => ?_⟩
  · unfold IOwn
    rw [List.length_append, hN]
    simpa [flat1] using hown
  · rcases hat with h | h
    · exact .inl h
    · right; omega
  · exact (hgrow.block b (by omega) (fun e => hn e.symm)).trans (Below.heap_alloc _ _ _ hb2)
/-- What order holds in memory: the numbers ahead, the set, the row of what is taken. -/
structure OW (w0 : World) (A F n : Nat) (f : Nat → Int) (S : Nat → Bool) (V : Value) (T : List Int) (w : World) : Prop where
  nums : Nums w A n f
  set : ∃ L, Wds w F L ∧ Wd L S
  own : IOwn w w0.heap.size V T
  ne : ∀ g, V.ownBlock = some g → g ≠ A ∧ g ≠ F
  bel : Below w0.heap.size w0 w
  lo : w0.heap.size ≤ A ∧ A < F
theorem OW.ltF {w0 w : World} {A F n : Nat} {f : Nat → Int} {S : Nat → Bool} {V : Value} {T : List Int} (h : OW w0 A F n f S V T w) : F < w.heap.size := by
  obtain ⟨L, h1, _⟩ := h.set
  exact (Array.getElem?_eq_some_iff.1 h1).1
theorem OW.ltV {w0 w : World} {A F n : Nat} {f : Nat → Int} {S : Nat → Bool} {V : Value} {T : List Int} (h : OW w0 A F n f S V T w) : ∀ g, V.ownBlock = some g → w0.heap.size ≤ g ∧ g < w.heap.size := fun g e => World.ownsRow.lt h.own g e
theorem OW.below {w0 w w' : World} {A F n m : Nat} {f : Nat → Int} {S : Nat → Bool} {V : Value} {T : List Int} (h : OW w0 A F n f S V T w) (hb : Below m w w') (hm : w.heap.size ≤ m) : OW w0 A F n f S V T w' := by
  have hF := h.ltF
  have hlo := h.lo
  have hs := h.bel.size
  obtain ⟨L, h1, h2⟩ := h.set
  exact ⟨h.nums.below hb (by omega), ⟨L, h1.below hb (by omega), h2⟩, io_keep h.own fun g e => hb.block g (Nat.lt_of_lt_of_le (h.ltV g e).2 hm), h.ne, h.bel.trans (hb.mono (by omega)), hlo⟩
theorem OW.add {w0 w w' : World} {A F n : Nat} {f : Nat → Int} {S S' : Nat → Bool} {V : Value} {T : List Int} (h : OW w0 A F n f S V T w) {L' : List Nat} (h1 : Wds w' F L') (h2 : Wd L' S') (hb : Below F w w') (hk : ∀ b, b ≠ F → w'.heap[b]? = w.heap[b]?) : OW w0 A F n f S' V T w' := by
  have hlo := h.lo
  exact ⟨(hk A (by omega)).trans h.nums, ⟨L', h1, h2⟩, io_keep h.own fun g e => hk g (h.ne g e).2, h.ne, h.bel.trans (hb.mono (by omega)), hlo⟩
theorem OW.num {w0 w : World} {A F n : Nat} {f : Nat → Int} {S : Nat → Bool} {V : Value} {T : List Int} (h : OW w0 A F n f S V T w) (t : Nat) (z : Int) : OW w0 A F n (fun k => if k = t then z else f k) S V T (w.setCell ⟨A, t, none⟩ (.int .i64 z)) := by
  have hlo := h.lo
  have hk : ∀ b, b ≠ A → (w.setCell ⟨A, t, none⟩ (.int .i64 z)).heap[b]? = w.heap[b]? := fun b hb => heap_setCell_other w ⟨A, t, none⟩ b _ hb
  obtain ⟨L, h1, h2⟩ := h.set
  exact ⟨h.nums.set t z, ⟨L, (hk F (by omega)).trans h1, h2⟩, io_keep h.own fun g e => hk g (h.ne g e).1, h.ne, h.bel.trans ((Below.refl w0.heap.size w).setCell (p := ⟨A, t, none⟩) (by show w0.heap.size ≤ A; omega) _), hlo⟩
theorem OW.cong {w0 w : World} {A F n : Nat} {f f' : Nat → Int} {S S' : Nat → Bool} {V : Value} {T : List Int} (h : OW w0 A F n f S V T w) (hf : ∀ s, s < n → f s = f' s) (hS : ∀ j, j < 4032 → S j = S' j) : OW w0 A F n f' S' V T w := by
  obtain ⟨L, h1, h2⟩ := h.set
  exact ⟨h.nums.cong hf, ⟨L, h1, h2.cong hS⟩, h.own, h.ne, h.bel, h.lo⟩
/-- The next one is taken. -/
theorem OW.app {w0 w : World} {A F n : Nat} {f : Nat → Int} {S : Nat → Bool} {V : Value} {T : List Int} (h : OW w0 A F n f S V T w) (N : Nat) (hN : T.length = N) (hT : N ≤ 100000) (c : Int) :
    ∃ g4 d4 W4, (Builtin.append_ #[30, 30] 30 #[V, .slice (some ⟨w.heap.size, 0, none⟩) 1 1]).run Tryd.prog (w.alloc (.cells #[.int .i64 c] 3)) = .ok (.slice (some ⟨g4, 0, none⟩) (N + 1) d4) W4 ∧ OW w0 A F n f S (.slice (some ⟨g4, 0, none⟩) (N + 1) d4) (T ++ [c]) W4 ∧ w.heap.size ≤ W4.heap.size := by
  have hF := h.ltF
  have hlo := h.lo
  obtain ⟨g4, d4, W4, hrun, ho, hb, hat, hk⟩ := app_two w w0.heap.size V T h.own h.bel.size N hN hT c
  obtain ⟨L, h1, h2⟩ := h.set
  have kA : W4.heap[A]? = w.heap[A]? := hk A (by omega) fun e => (h.ne A e).1 rfl
  have kF : W4.heap[F]? = w.heap[F]? := hk F (by omega) fun e => (h.ne F e).2 rfl
  refine ⟨g4, d4, W4, hrun, ⟨kA.trans h.nums, ⟨L, kF.trans h1, h2⟩, ho, fun g e => ?_, h.bel.trans hb, hlo⟩, hb.size⟩
  obtain rfl : g4 = g := by simpa [Value.ownBlock] using e
  rcases hat with h9 | h9
  · exact h.ne _ h9
  · omega
end Pgm
end Go.Proofs.YtchcjinaagncjaaDoor
