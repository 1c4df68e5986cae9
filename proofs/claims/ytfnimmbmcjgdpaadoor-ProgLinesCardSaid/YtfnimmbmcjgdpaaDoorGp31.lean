/- The reference's prog (burinref14): Read: the worlds it goes through. -/
import Derived.Test.YtfnimmbmcjgdpaaDoorGp21
import Derived.Test.YtfnimmbmcjgdpaaDoorGp30
import Derived.Test.YtfnimmbmcjgdpaaDoorGp5
import Derived.Test.YtfnimmbmcjgdpaaDoorGp12
namespace Go.Proofs.YtfnimmbmcjgdpaaDoor
open Go.RowKit
set_option linter.unusedVariables false
namespace Pgm
theorem InOwn.kept14 {W W' : World} {base : Nat} {v : Value} {l : List In} (h : InOwn W base v l) (hk : ∀ g, v.ownBlock = some g → W'.heap[g]? = W.heap[g]?) : InOwn W' base v l := by
  refine ⟨h.1, ?_⟩
  rcases h.2 with e | ⟨g, cap, cur, e, h1, h2, h3⟩
  · exact .inl e
  · exact .inr ⟨g, cap, cur, e, h1, (hk g (by rw [e]; rfl)).trans h2, h3⟩
theorem rd_run {B : Nat} {V : World} {x : In} {v : Value} {l : List In} (hv : InOwn V B v l) (hB : B ≤ V.heap.size) (hl : l.length ≤ 100000) (X : Nat) (V2 : World) (hV2 : V.alloc (.cells #[.int .i64 x.op, .int .i64 x.lo, .int .i64 x.hi, .int .i64 x.x, .int .i64 x.y] 81) = V2) :
    ∃ a' L' c' W5, (Builtin.append_ #[44, 44] 44 #[v, .slice (some ⟨V.heap.size, 0, none⟩) 1 1]).run Tryd.prog V2 = .ok (.slice a' L' c') W5 ∧ InOwn W5 B (.slice a' L' c') (l ++ [x]) ∧ Below B V W5 := by
  have hb2 : Below V.heap.size V V2 := by rw [← hV2]; exact (Below.refl _ _).alloc (Nat.le_refl _) _
  have hnew : V2.heap[V.heap.size]? = some (.cells #[.int .i64 x.op, .int .i64 x.lo, .int .i64 x.hi, .int .i64 x.x, .int .i64 x.y] 81 (0, 0)) := by rw [← hV2]; exact heap_alloc_new V _
  have hv2 : InOwn V2 B v l := hv.below hb2 (Nat.le_refl _)
  obtain ⟨v', W5, hrun, ho, hb, hg⟩ := append_in V2 B v l hv2 (by have := hb2.size; omega) (by omega) x V.heap.size (fun j u hj => by
    rw [Addr.add_lit, Nat.zero_add]
    simp only [World.cell?, hnew]
    simpa [In.cs] using hj) 1
  obtain ⟨a', c', rfl⟩ := ho.slice
  exact ⟨_, _, _, W5, hrun, ho, (hb2.mono hB).trans hb⟩
theorem num_nx {W : World} {C : Nat} {s : ByteArray} {p : Nat} {bad : Bool} {e : Ending} {w' : World} (h : NumPost W C s p bad e w') : ∃ (n : Int) (q : Nat) (b : Bool), e = .returned (.int .i64 n) ∧ CurAt w' C s (q : Int) b ∧ W.grownBy w' (some C) ∧ NX s.data.toList p bad n q b := by
  obtain ⟨n, q, b, h1, h2, h3, h4, h5, h6, h7, h8⟩ := h
  exact ⟨n, q, b, h1, h2, h3, h4, by rw [size_list]; exact h5, h6, h7, h8⟩
/-- Ahead of the lines, and between them. -/
structure RI (W w : World) (R C P : Nat) (s : ByteArray) (p : Nat) (bad : Bool) (v : Value) (a1 a2 : Int) : Prop where
  cur : CurAt w C s (p : Int) bad
  res : w.heap[R]? = some (.cells #[.slice none 0 0, .int .i64 0, .int .i64 0] 46 (0, 0))
  prg : w.heap[P]? = some (.cells #[v, .int .i64 a1, .int .i64 a2] 46 (0, 0))
  bel : Below R W w
  rc : R < C
  cp : C < P
theorem RI.call {W w w' : World} {R C P : Nat} {s : ByteArray} {p q : Nat} {bad b : Bool} {v : Value} {a1 a2 : Int} (h : RI W w R C P s p bad v a1 a2) (hg : w.grownBy w' (some C)) (hc : CurAt w' C s (q : Int) b) : RI W w' R C P s q b v a1 a2 := by
  have h1 := h.rc
  have h2 := h.cp
  have h3 := (Array.getElem?_eq_some_iff.1 h.prg).1
  exact ⟨hc, (hg.block R (by omega) (fun e => by injection e; omega)).trans h.res, (hg.block P h3 (fun e => by injection e; omega)).trans h.prg, h.bel.grown hg (by have := h.cur.lt; omega) (fun j hj => by injection hj; omega), h1, h2⟩
theorem RI.set1 {W w : World} {R C P : Nat} {s : ByteArray} {p : Nat} {bad : Bool} {v : Value} {a1 a2 : Int} (h : RI W w R C P s p bad v a1 a2) (n : Int) : RI W (w.setCell ⟨P, 1, none⟩ (.int .i64 n)) R C P s p bad v n a2 := by
  have h1 := h.rc
  have h2 := h.cp
  refine ⟨(Below.heap_setCell _ _ _ _ (by show C ≠ P; omega)).trans h.cur, (Below.heap_setCell _ _ _ _ (by show R ≠ P; omega)).trans h.res, ?_, h.bel.setCell (p := ⟨P, 1, none⟩) (by show R ≤ P; omega) _, h1, h2⟩
  have := heap_setCell_same w P 1 _ _ (.int .i64 n) h.prg
  simpa using this
theorem RI.set2 {W w : World} {R C P : Nat} {s : ByteArray} {p : Nat} {bad : Bool} {v : Value} {a1 a2 : Int} (h : RI W w R C P s p bad v a1 a2) (n : Int) : RI W (w.setCell ⟨P, 2, none⟩ (.int .i64 n)) R C P s p bad v a1 n := by
  have h1 := h.rc
  have h2 := h.cp
  refine ⟨(Below.heap_setCell _ _ _ _ (by show C ≠ P; omega)).trans h.cur, (Below.heap_setCell _ _ _ _ (by show R ≠ P; omega)).trans h.res, ?_, h.bel.setCell (p := ⟨P, 2, none⟩) (by show R ≤ P; omega) _, h1, h2⟩
  have := heap_setCell_same w P 2 _ _ (.int .i64 n) h.prg
  simpa using this
theorem RI.bad_ {W w : World} {R C P : Nat} {s : ByteArray} {p : Nat} {bad : Bool} {v : Value} {a1 a2 : Int} (h : RI W w R C P s p bad v a1 a2) (b : Bool) : RI W (w.setCell ⟨C, 2, none⟩ (.bool b)) R C P s p b v a1 a2 := by
  have h1 := h.rc
  have h2 := h.cp
  exact ⟨CurAt.bad_ h.cur b, (Below.heap_setCell _ _ _ _ (by show R ≠ C; omega)).trans h.res, (Below.heap_setCell _ _ _ _ (by show P ≠ C; omega)).trans h.prg, h.bel.setCell (p := ⟨C, 2, none⟩) (by show R ≤ C; omega) _, h1, h2⟩
/-- Within a line: i is what stands in the line's box X. -/
structure RX (W wr w : World) (R C X : Nat) (s : ByteArray) (p : Nat) (bad : Bool) (i : In) : Prop where
  cur : CurAt w C s (p : Int) bad
  box : w.heap[X]? = some (.cells #[.int .i64 i.op, .int .i64 i.lo, .int .i64 i.hi, .int .i64 i.x, .int .i64 i.y] 81 (0, 0))
  oth : ∀ j, j < X → j ≠ C → w.heap[j]? = wr.heap[j]?
  bel : Below R W w
  rc : R < C
  cx : C < X
theorem RX.call {W wr w w' : World} {R C X : Nat} {s : ByteArray} {p q : Nat} {bad b : Bool} {i : In} (h : RX W wr w R C X s p bad i) (hg : w.grownBy w' (some C)) (hc : CurAt w' C s (q : Int) b) : RX W wr w' R C X s q b i := by
  have h1 := h.rc
  have h2 := h.cx
  have h3 := (Array.getElem?_eq_some_iff.1 h.box).1
  exact ⟨hc, (hg.block X h3 (fun e => by injection e; omega)).trans h.box, fun j hj hn => (hg.block j (by omega) (fun e => by injection e; omega)).trans (h.oth j hj hn), h.bel.grown hg (by have := h.cur.lt; omega) (fun j hj => by injection hj; omega), h1, h2⟩
theorem RX.bad_ {W wr w : World} {R C X : Nat} {s : ByteArray} {p : Nat} {bad : Bool} {i : In} (h : RX W wr w R C X s p bad i) (b : Bool) : RX W wr (w.setCell ⟨C, 2, none⟩ (.bool b)) R C X s p b i := by
  have h1 := h.rc
  have h2 := h.cx
  exact ⟨CurAt.bad_ h.cur b, (Below.heap_setCell _ _ _ _ (by show X ≠ C; omega)).trans h.box, fun j hj hn => (Below.heap_setCell _ _ _ _ hn).trans (h.oth j hj hn), h.bel.setCell (p := ⟨C, 2, none⟩) (by show R ≤ C; omega) _, h1, h2⟩
theorem RX.set {W wr w : World} {R C X : Nat} {s : ByteArray} {p : Nat} {bad : Bool} {i i' : In} (h : RX W wr w R C X s p bad i) (o : Nat) (n : Int) (hi : (#[.int .i64 i.op, .int .i64 i.lo, .int .i64 i.hi, .int .i64 i.x, .int .i64 i.y] : Array Value).setIfInBounds o (.int .i64 n) = #[.int .i64 i'.op, .int .i64 i'.lo, .int .i64 i'.hi, .int .i64 i'.x, .int .i64 i'.y]) : RX W wr (w.setCell ⟨X, o, none⟩ (.int .i64 n)) R C X s p bad i' := by
  have h1 := h.rc
  have h2 := h.cx
  refine ⟨(Below.heap_setCell _ _ _ _ (by show C ≠ X; omega)).trans h.cur, ?_, fun j hj hn => (Below.heap_setCell _ _ _ _ (by show j ≠ X; omega)).trans (h.oth j hj hn), h.bel.setCell (p := ⟨X, o, none⟩) (by show R ≤ X; omega) _, h1, h2⟩
  have := heap_setCell_same w X o _ _ (.int .i64 n) h.box
  rw [hi] at this
  exact this
end Pgm
end Go.Proofs.YtfnimmbmcjgdpaaDoor
