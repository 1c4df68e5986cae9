/- burinlaw14.ProgFields: the walk. -/
import Derived.Test.YtgonfbfagcajcaaDoorGp24
namespace Go.Proofs.YtgonfbfagcajcaaDoor
open Go.RowKit
set_option linter.unusedVariables false
namespace Pgm
/-- The instruction with a field that its operation lacks set. -/
def setF (a : In) (z : Int) : In := if a.op = 5 ∨ a.op = 6 then ⟨a.op, a.lo, a.hi, z, a.y⟩ else if a.op = 2 then ⟨a.op, z, a.hi, a.x, a.y⟩ else ⟨a.op, a.lo, a.hi, a.x, z⟩
theorem setF_not {a : In} {z : Int} (hf : Fit a) (hz : z ≠ 0) : fitB (setF a z) = false := by
  rw [Bool.eq_false_iff]
  intro h
  rw [fitB_iff] at h
  unfold setF at h
  unfold Fit at hf
  by_cases h5 : a.op = 5 ∨ a.op = 6
  · rw [if_pos h5] at h
    unfold Fit at h
    simp only [] at h
    omega
  · rw [if_neg h5] at h
    by_cases h2 : a.op = 2
    · rw [if_pos h2] at h
      unfold Fit at h
      simp only [] at h
      omega
    · rw [if_neg h2] at h
      unfold Fit at h
      simp only [] at h
      omega
theorem op6_not {a : In} (hf : Fit a) : fitB ⟨a.op + 6, a.lo, a.hi, a.x, a.y⟩ = false := by
  rw [Bool.eq_false_iff]
  intro h
  rw [fitB_iff] at h
  unfold Fit at hf h
  simp only [] at h
  omega
theorem chk_one {a : In} (hf : Fit a) : chk [a] 0 0 = 0 := chk_ok ⟨by simp, by simp, by decide, by decide, by decide, by decide, by simp [(fitB_iff a).2 hf]⟩
theorem chk_two {a b : In} (hb : fitB b = false) : chk [a, b] 0 0 = 130 := chk_not (fun h => by have := h.2.2.2.2.2.2; simp [hb] at this)
theorem InRow.one {W : World} {g : Nat} {a : In} {t : TypeId} (hb : a.bd) (h : W.heap[g]? = some (.cells #[.int .i64 a.op, .int .i64 a.lo, .int .i64 a.hi, .int .i64 a.x, .int .i64 a.y] t (0, 0))) : InRow W (.slice (some ⟨g, 0, none⟩) 1 1) [a] :=
  ⟨_, _, rfl, by simp, fun i hi => by rw [List.mem_singleton] at hi; exact hi ▸ hb, fun j hj => ⟨g, 0, rfl, (Array.getElem?_eq_some_iff.1 h).1, fun q hq => by
    obtain rfl : j = 0 := by simp at hj; omega
    rw [show 0 + 0 * 5 + q = q by omega, blkp h q]
    simp [In.cs]⟩⟩
theorem InRow.two {W : World} {g : Nat} {a b : In} {t : TypeId} (ha : a.bd) (hb : b.bd)
    (h : W.heap[g]? = some (.cells #[.int .i64 a.op, .int .i64 a.lo, .int .i64 a.hi, .int .i64 a.x, .int .i64 a.y, .int .i64 b.op, .int .i64 b.lo, .int .i64 b.hi, .int .i64 b.x, .int .i64 b.y] t (0, 0))) : InRow W (.slice (some ⟨g, 0, none⟩) 2 2) [a, b] :=
  ⟨_, _, rfl, by simp, fun i hi => by
    simp only [List.mem_cons, List.not_mem_nil, or_false] at hi
    rcases hi with rfl | rfl
    · exact ha
    · exact hb, fun j hj => ⟨g, 0, rfl, (Array.getElem?_eq_some_iff.1 h).1, fun q hq => by
    rw [blkp h]
    have hj2 : j < 2 := by simpa using hj
    rcases (by omega : (q = 0 ∨ q = 1 ∨ q = 2 ∨ q = 3 ∨ q = 4)) with rfl | rfl | rfl | rfl | rfl <;> rcases (by omega : (j = 0 ∨ j = 1)) with rfl | rfl <;> simp [In.cs]⟩⟩
set_option maxRecDepth 100000 in
set_option maxHeartbeats 8000000 in
theorem walkProgFields (W : World) (a : In) (z : Int) (ha : a.bd) (hz : (Lit.int .i64 z).wf = true) (hE : EvP W) : Calls Tryd.prog 8 #[a.v, .int .i64 z] W fun e w' => e = .returned (.bool true) ∧ Below W.heap.size W w' := by
  obtain ⟨op, lo, hi, x, y⟩ := a
  obtain ⟨w0, hw0⟩ : ∃ w0, W.alloc (.cells #[.int .i64 op, .int .i64 lo, .int .i64 hi, .int .i64 x, .int .i64 y] 45) = w0 := ⟨_, rfl⟩
  have hb0 : Below W.heap.size W w0 := by rw [← hw0]; exact (Below.refl _ _).alloc (Nat.le_refl _) _
  have hx0 : w0.heap[W.heap.size]? = some (.cells #[.int .i64 op, .int .i64 lo, .int .i64 hi, .int .i64 x, .int .i64 y] 45 (0, 0)) := by rw [← hw0]; exact heap_alloc_new W _
  have hs0 : w0.heap.size = W.heap.size + 1 := by rw [← hw0]; simp
  have HE := Lib.hid hE
  have HWK := Lib.hid (works14_any w0 (hE.below hb0))
  have HF := Lib.hid (fun (i : In) w (he : EvO w) => fits_any i w he)
  have HB0 := Lib.hid hb0
  have HX0 := Lib.hid hx0
  have HS0 := Lib.hid hs0
  have HW0 := Lib.hid hw0
  have HBD := Lib.hid ha
  have HZ := Lib.hid (i64_of_wf hz)
  unfold In.v at HF ⊢
  dsimp only at HF ⊢
  clear hb0 hx0 hs0 hw0 hE hz ha
  go_enter Tryd.func8, Tryd.ntmps8
  go_wp2_with fail
  rw [HW0.out]
  refine HWK.out.mono ?_
  rintro e w1 ⟨rfl, hb1⟩
  have HB1 := Lib.hid (HB0.out.trans (hb1.mono HB0.out.size))
  have hx1 := (hb1.block W.heap.size (by rw [HS0.out]; omega)).trans HX0.out
  have HX1 := Lib.hid hx1
  clear hb1
  have c0 : w1.cell? ⟨W.heap.size, 0, none⟩ = some (.int .i64 op) := blkp hx1 0
  have c1 : w1.cell? ⟨W.heap.size, 1, none⟩ = some (.int .i64 lo) := blkp hx1 1
  have c2 : w1.cell? ⟨W.heap.size, 2, none⟩ = some (.int .i64 hi) := blkp hx1 2
  have c3 : w1.cell? ⟨W.heap.size, 3, none⟩ = some (.int .i64 x) := blkp hx1 3
  have c4 : w1.cell? ⟨W.heap.size, 4, none⟩ = some (.int .i64 y) := blkp hx1 4
  clear hx1
  go_wp2_with fail
  refine (HF.out ⟨op, lo, hi, x, y⟩ w1 (HE.out.below HB1.out).ops).mono ?_
  rintro e w2 ⟨rfl, hb2⟩
  have HB2 := Lib.hid (HB1.out.trans (hb2.mono HB1.out.size))
  have hx2 := (hb2.block W.heap.size (Array.getElem?_eq_some_iff.1 HX1.out).1).trans HX1.out
  have HX2 := Lib.hid hx2
  clear hb2 c0 c1 c2 c3 c4
  by_cases hf : Fit ⟨op, lo, hi, x, y⟩
  case neg =>
    have hfb : fitB ⟨op, lo, hi, x, y⟩ = false := by rw [Bool.eq_false_iff]; exact fun h => hf ((fitB_iff _).1 h)
    rw [hfb]
    clear hf hfb hx2
    go_wp2
    go_ret
    exact ⟨rfl, HB2.out⟩
  rw [(fitB_iff _).2 hf]
  by_cases hz0 : z = 0
  · subst hz0
    clear hf hx2
    go_wp2
    go_ret
    exact ⟨rfl, HB2.out⟩
  have hzb : (z == 0) = false := by rw [beq_eq_false_iff_ne]; exact hz0
  have c0 : w2.cell? ⟨W.heap.size, 0, none⟩ = some (.int .i64 op) := blkp hx2 0
  have c1 : w2.cell? ⟨W.heap.size, 1, none⟩ = some (.int .i64 lo) := blkp hx2 1
  have c2 : w2.cell? ⟨W.heap.size, 2, none⟩ = some (.int .i64 hi) := blkp hx2 2
  have c3 : w2.cell? ⟨W.heap.size, 3, none⟩ = some (.int .i64 x) := blkp hx2 3
  have c4 : w2.cell? ⟨W.heap.size, 4, none⟩ = some (.int .i64 y) := blkp hx2 4
  have HN := Lib.hid (setF_not hf hz0)
  have H6 := Lib.hid (op6_not hf)
  have HC1 := Lib.hid (chk_one hf)
  have HFT := Lib.hid hf
  have hop : 1 ≤ op ∧ op ≤ 6 := fit_op hf
  have hwr : IntKind.i64.wrap (op + 6) = op + 6 := by rw [IntKind.wrap_i64]; omega
  clear hx2 hf
  rcases (by omega : op = 1 ∨ op = 2 ∨ op = 3 ∨ op = 4 ∨ op = 5 ∨ op = 6) with rfl | rfl | rfl | rfl | rfl | rfl
  · clear c0 c1 c2 c3 c4
    have HNB : Hid (fitB ⟨1, lo, hi, x, z⟩ = false) := Lib.hid (by have := HN.out; simpa [setF] using this)
    have HNC : Hid (fitB ⟨7, lo, hi, x, y⟩ = false) := Lib.hid (by have := H6.out; simpa using this)
    obtain ⟨w3, hw3⟩ : ∃ w3, w2.alloc (.cells #[.int .i64 1, .int .i64 lo, .int .i64 hi, .int .i64 x, .int .i64 y] 45) = w3 := ⟨_, rfl⟩
    have a3 : w3.heap[W.heap.size]? = some (.cells #[.int .i64 1, .int .i64 lo, .int .i64 hi, .int .i64 x, .int .i64 y] 45 (0, 0)) := by rw [← hw3]; exact (Below.heap_alloc _ _ _ (Array.getElem?_eq_some_iff.1 HX2.out).1).trans HX2.out
    have b3 : w3.heap[w2.heap.size]? = some (.cells #[.int .i64 1, .int .i64 lo, .int .i64 hi, .int .i64 x, .int .i64 y] 45 (0, 0)) := by rw [← hw3]; exact heap_alloc_new w2 _
    have s3 : w3.heap.size = w2.heap.size + 1 := by rw [← hw3]; simp
    have hne1 : W.heap.size ≠ w2.heap.size := by have := (Array.getElem?_eq_some_iff.1 HX2.out).1; omega
    have B3 : Below W.heap.size W w3 := by rw [← hw3]; exact HB2.out.alloc HB2.out.size _
    obtain ⟨w4, hw4⟩ : ∃ w4, w3.setCell ⟨w2.heap.size, 4, none⟩ (.int .i64 z) = w4 := ⟨_, rfl⟩
    have a4 : w4.heap[W.heap.size]? = some (.cells #[.int .i64 1, .int .i64 lo, .int .i64 hi, .int .i64 x, .int .i64 y] 45 (0, 0)) := by rw [← hw4]; exact (Below.heap_setCell _ _ _ _ hne1).trans a3
    have b4 : w4.heap[w2.heap.size]? = some (.cells #[.int .i64 1, .int .i64 lo, .int .i64 hi, .int .i64 x, .int .i64 z] 45 (0, 0)) := by rw [← hw4]; exact heap_setCell_same w3 _ 4 _ _ _ b3
    have s4 : w4.heap.size = w2.heap.size + 1 := by rw [← hw4, ← s3]; simp
    have B4 : Below W.heap.size W w4 := by rw [← hw4]; exact B3.setCell (p := ⟨w2.heap.size, 4, none⟩) (by have := HB2.out.size; simpa using this) _
    obtain ⟨w5, hw5⟩ : ∃ w5, w4.alloc (.cells #[.int .i64 1, .int .i64 lo, .int .i64 hi, .int .i64 x, .int .i64 y] 45) = w5 := ⟨_, rfl⟩
    have a5 : w5.heap[W.heap.size]? = some (.cells #[.int .i64 1, .int .i64 lo, .int .i64 hi, .int .i64 x, .int .i64 y] 45 (0, 0)) := by rw [← hw5]; exact (Below.heap_alloc _ _ _ (Array.getElem?_eq_some_iff.1 a4).1).trans a4
    have b5 : w5.heap[w2.heap.size]? = some (.cells #[.int .i64 1, .int .i64 lo, .int .i64 hi, .int .i64 x, .int .i64 z] 45 (0, 0)) := by rw [← hw5]; exact (Below.heap_alloc _ _ _ (Array.getElem?_eq_some_iff.1 b4).1).trans b4
    have c5 : w5.heap[w4.heap.size]? = some (.cells #[.int .i64 1, .int .i64 lo, .int .i64 hi, .int .i64 x, .int .i64 y] 45 (0, 0)) := by rw [← hw5]; exact heap_alloc_new w4 _
    have B5 : Below W.heap.size W w5 := by rw [← hw5]; exact B4.alloc B4.size _
    have hne2 : w2.heap.size ≠ w4.heap.size := by omega
    have hne3 : W.heap.size ≠ w4.heap.size := by have := HB2.out.size; omega
    obtain ⟨w6, hw6⟩ : ∃ w6, w5.setCell ⟨w4.heap.size, 0, none⟩ (.int .i64 7) = w6 := ⟨_, rfl⟩
    have a6 : w6.heap[W.heap.size]? = some (.cells #[.int .i64 1, .int .i64 lo, .int .i64 hi, .int .i64 x, .int .i64 y] 45 (0, 0)) := by rw [← hw6]; exact (Below.heap_setCell _ _ _ _ hne3).trans a5
    have b6 : w6.heap[w2.heap.size]? = some (.cells #[.int .i64 1, .int .i64 lo, .int .i64 hi, .int .i64 x, .int .i64 z] 45 (0, 0)) := by rw [← hw6]; exact (Below.heap_setCell _ _ _ _ hne2).trans b5
    have c6 : w6.heap[w4.heap.size]? = some (.cells #[.int .i64 7, .int .i64 lo, .int .i64 hi, .int .i64 x, .int .i64 y] 45 (0, 0)) := by rw [← hw6]; exact heap_setCell_same w5 _ 0 _ _ _ c5
    have B6 : Below W.heap.size W w6 := by rw [← hw6]; exact B5.setCell (p := ⟨w4.heap.size, 0, none⟩) (by have := B4.size; simpa using this) _
    have e0 : w2.cell? ⟨W.heap.size, 0, none⟩ = some (.int .i64 1) := blkp HX2.out 0
    have e1 : w2.cell? ⟨W.heap.size, 1, none⟩ = some (.int .i64 lo) := blkp HX2.out 1
    have e2 : w2.cell? ⟨W.heap.size, 2, none⟩ = some (.int .i64 hi) := blkp HX2.out 2
    have e3 : w2.cell? ⟨W.heap.size, 3, none⟩ = some (.int .i64 x) := blkp HX2.out 3
    have e4 : w2.cell? ⟨W.heap.size, 4, none⟩ = some (.int .i64 y) := blkp HX2.out 4
    have g0 : w3.cell? ⟨W.heap.size, 0, none⟩ = some (.int .i64 1) := blkp a3 0
    have g1 : w3.cell? ⟨w2.heap.size, 4, none⟩ = some (.int .i64 y) := blkp b3 4
    have g2 := frzp b3 4
    have h0 : w4.cell? ⟨W.heap.size, 0, none⟩ = some (.int .i64 1) := blkp a4 0
    have h1 : w4.cell? ⟨W.heap.size, 1, none⟩ = some (.int .i64 lo) := blkp a4 1
    have h2 : w4.cell? ⟨W.heap.size, 2, none⟩ = some (.int .i64 hi) := blkp a4 2
    have h3 : w4.cell? ⟨W.heap.size, 3, none⟩ = some (.int .i64 x) := blkp a4 3
    have h4 : w4.cell? ⟨W.heap.size, 4, none⟩ = some (.int .i64 y) := blkp a4 4
    have j0 : w5.cell? ⟨w4.heap.size, 0, none⟩ = some (.int .i64 1) := blkp c5 0
    have j1 := frzp c5 0
    have k0 : w6.cell? ⟨w2.heap.size, 0, none⟩ = some (.int .i64 1) := blkp b6 0
    have k1 : w6.cell? ⟨w2.heap.size, 1, none⟩ = some (.int .i64 lo) := blkp b6 1
    have k2 : w6.cell? ⟨w2.heap.size, 2, none⟩ = some (.int .i64 hi) := blkp b6 2
    have k3 : w6.cell? ⟨w2.heap.size, 3, none⟩ = some (.int .i64 x) := blkp b6 3
    have k4 : w6.cell? ⟨w2.heap.size, 4, none⟩ = some (.int .i64 z) := blkp b6 4
    have A6 := Lib.hid a6
    have B6' := Lib.hid b6
    have C6 := Lib.hid c6
    have D6 := Lib.hid B6
    clear a3 b3 s3 a4 b4 s4 a5 b5 c5 a6 b6 c6 B3 B4 B5 B6 hne1 hne2 hne3
    go_wp2_with fail
    refine (HF.out ⟨1, lo, hi, x, z⟩ w6 (HE.out.below D6.out).ops).mono ?_
    rintro e w7 ⟨rfl, hb7⟩
    rw [HNB.out]
    have D7 := Lib.hid (D6.out.trans (hb7.mono D6.out.size))
    have A7 := Lib.hid ((hb7.block _ (Array.getElem?_eq_some_iff.1 A6.out).1).trans A6.out)
    have B7 := Lib.hid ((hb7.block _ (Array.getElem?_eq_some_iff.1 B6'.out).1).trans B6'.out)
    have c7 := ((hb7.block _ (Array.getElem?_eq_some_iff.1 C6.out).1).trans C6.out)
    clear hb7 hw3 hw4 hw5 hw6 g2 j1 e0 e1 e2 e3 e4 g0 g1 h0 h1 h2 h3 h4 j0 k0 k1 k2 k3 k4
    have l0 : w7.cell? ⟨w4.heap.size, 0, none⟩ = some (.int .i64 7) := blkp c7 0
    have l1 : w7.cell? ⟨w4.heap.size, 1, none⟩ = some (.int .i64 lo) := blkp c7 1
    have l2 : w7.cell? ⟨w4.heap.size, 2, none⟩ = some (.int .i64 hi) := blkp c7 2
    have l3 : w7.cell? ⟨w4.heap.size, 3, none⟩ = some (.int .i64 x) := blkp c7 3
    have l4 : w7.cell? ⟨w4.heap.size, 4, none⟩ = some (.int .i64 y) := blkp c7 4
    go_wp2_with fail
    refine (HF.out ⟨7, lo, hi, x, y⟩ w7 (HE.out.below D7.out).ops).mono ?_
    rintro e w8 ⟨rfl, hb8⟩
    rw [HNC.out]
    have D8 := Lib.hid (D7.out.trans (hb8.mono D7.out.size))
    have a8 := ((hb8.block _ (Array.getElem?_eq_some_iff.1 A7.out).1).trans A7.out)
    have A8 := Lib.hid a8
    have B8 := Lib.hid ((hb8.block _ (Array.getElem?_eq_some_iff.1 B7.out).1).trans B7.out)
    clear hb8 c7 l0 l1 l2 l3 l4
    have m0 : w8.cell? ⟨W.heap.size, 0, none⟩ = some (.int .i64 1) := blkp a8 0
    have m1 : w8.cell? ⟨W.heap.size, 1, none⟩ = some (.int .i64 lo) := blkp a8 1
    have m2 : w8.cell? ⟨W.heap.size, 2, none⟩ = some (.int .i64 hi) := blkp a8 2
    have m3 : w8.cell? ⟨W.heap.size, 3, none⟩ = some (.int .i64 x) := blkp a8 3
    have m4 : w8.cell? ⟨W.heap.size, 4, none⟩ = some (.int .i64 y) := blkp a8 4
    obtain ⟨w9, hw9⟩ : ∃ w9, w8.alloc (.cells #[.int .i64 1, .int .i64 lo, .int .i64 hi, .int .i64 x, .int .i64 y] 45) = w9 := ⟨_, rfl⟩
    have hb9 : Below w8.heap.size w8 w9 := by rw [← hw9]; exact (Below.refl _ _).alloc (Nat.le_refl _) _
    have n9 : w9.heap[w8.heap.size]? = some (.cells #[.int .i64 1, .int .i64 lo, .int .i64 hi, .int .i64 x, .int .i64 y] 45 (0, 0)) := by rw [← hw9]; exact heap_alloc_new w8 _
    have D9 := Lib.hid (D8.out.trans (hb9.mono D8.out.size))
    have A9 := Lib.hid ((hb9.block _ (Array.getElem?_eq_some_iff.1 A8.out).1).trans A8.out)
    have B9 := Lib.hid ((hb9.block _ (Array.getElem?_eq_some_iff.1 B8.out).1).trans B8.out)
    have CK := Lib.hid (check_any [⟨1, lo, hi, x, y⟩] 0 0 _ w9 (InRow.one (a := ⟨1, lo, hi, x, y⟩) HBD.out n9) (HE.out.below D9.out).ops)
    rw [HC1.out] at CK
    clear a8 hb9 n9
    go_wp2_with fail
    refine CK.out.mono ?_
    rintro e w10 ⟨rfl, hb10⟩
    have D10 := Lib.hid (D9.out.trans (hb10.mono D9.out.size))
    have a10 := ((hb10.block _ (Array.getElem?_eq_some_iff.1 A9.out).1).trans A9.out)
    have b10 := ((hb10.block _ (Array.getElem?_eq_some_iff.1 B9.out).1).trans B9.out)
    clear hb10 hw9 m0 m1 m2 m3 m4
    have o0 : w10.cell? ⟨W.heap.size, 0, none⟩ = some (.int .i64 1) := blkp a10 0
    have o1 : w10.cell? ⟨W.heap.size, 1, none⟩ = some (.int .i64 lo) := blkp a10 1
    have o2 : w10.cell? ⟨W.heap.size, 2, none⟩ = some (.int .i64 hi) := blkp a10 2
    have o3 : w10.cell? ⟨W.heap.size, 3, none⟩ = some (.int .i64 x) := blkp a10 3
    have o4 : w10.cell? ⟨W.heap.size, 4, none⟩ = some (.int .i64 y) := blkp a10 4
    have p0 : w10.cell? ⟨w2.heap.size, 0, none⟩ = some (.int .i64 1) := blkp b10 0
    have p1 : w10.cell? ⟨w2.heap.size, 1, none⟩ = some (.int .i64 lo) := blkp b10 1
    have p2 : w10.cell? ⟨w2.heap.size, 2, none⟩ = some (.int .i64 hi) := blkp b10 2
    have p3 : w10.cell? ⟨w2.heap.size, 3, none⟩ = some (.int .i64 x) := blkp b10 3
    have p4 : w10.cell? ⟨w2.heap.size, 4, none⟩ = some (.int .i64 z) := blkp b10 4
    obtain ⟨w11, hw11⟩ : ∃ w11, w10.alloc (.cells #[.int .i64 1, .int .i64 lo, .int .i64 hi, .int .i64 x, .int .i64 y, .int .i64 1, .int .i64 lo, .int .i64 hi, .int .i64 x, .int .i64 z] 45) = w11 := ⟨_, rfl⟩
    have hb11 : Below w10.heap.size w10 w11 := by rw [← hw11]; exact (Below.refl _ _).alloc (Nat.le_refl _) _
    have n11 : w11.heap[w10.heap.size]? = some (.cells #[.int .i64 1, .int .i64 lo, .int .i64 hi, .int .i64 x, .int .i64 y, .int .i64 1, .int .i64 lo, .int .i64 hi, .int .i64 x, .int .i64 z] 45 (0, 0)) := by rw [← hw11]; exact heap_alloc_new w10 _
    have D11 := Lib.hid (D10.out.trans (hb11.mono D10.out.size))
    have CL := Lib.hid (check_any [⟨1, lo, hi, x, y⟩, ⟨1, lo, hi, x, z⟩] 0 0 _ w11 (InRow.two (a := ⟨1, lo, hi, x, y⟩) (b := ⟨1, lo, hi, x, z⟩) HBD.out ⟨HBD.out.1, HBD.out.2.1, HBD.out.2.2.1, HBD.out.2.2.2.1, HZ.out⟩ n11) (HE.out.below D11.out).ops)
    rw [chk_two HNB.out] at CL
    clear a10 b10 hb11 n11
    go_wp2_with fail
    refine CL.out.mono ?_
    rintro e w12 ⟨rfl, hb12⟩
    have D12 := Lib.hid (D11.out.trans (hb12.mono D11.out.size))
    clear hb12
    go_wp2
    go_ret
    exact ⟨rfl, D12.out⟩
  · clear c0 c1 c2 c3 c4
    have HNB : Hid (fitB ⟨2, z, hi, x, y⟩ = false) := Lib.hid (by have := HN.out; simpa [setF] using this)
    have HNC : Hid (fitB ⟨8, lo, hi, x, y⟩ = false) := Lib.hid (by have := H6.out; simpa using this)
    obtain ⟨w3, hw3⟩ : ∃ w3, w2.alloc (.cells #[.int .i64 2, .int .i64 lo, .int .i64 hi, .int .i64 x, .int .i64 y] 45) = w3 := ⟨_, rfl⟩
    have a3 : w3.heap[W.heap.size]? = some (.cells #[.int .i64 2, .int .i64 lo, .int .i64 hi, .int .i64 x, .int .i64 y] 45 (0, 0)) := by rw [← hw3]; exact (Below.heap_alloc _ _ _ (Array.getElem?_eq_some_iff.1 HX2.out).1).trans HX2.out
    have b3 : w3.heap[w2.heap.size]? = some (.cells #[.int .i64 2, .int .i64 lo, .int .i64 hi, .int .i64 x, .int .i64 y] 45 (0, 0)) := by rw [← hw3]; exact heap_alloc_new w2 _
    have s3 : w3.heap.size = w2.heap.size + 1 := by rw [← hw3]; simp
    have hne1 : W.heap.size ≠ w2.heap.size := by have := (Array.getElem?_eq_some_iff.1 HX2.out).1; omega
    have B3 : Below W.heap.size W w3 := by rw [← hw3]; exact HB2.out.alloc HB2.out.size _
    obtain ⟨w4, hw4⟩ : ∃ w4, w3.setCell ⟨w2.heap.size, 1, none⟩ (.int .i64 z) = w4 := ⟨_, rfl⟩
    have a4 : w4.heap[W.heap.size]? = some (.cells #[.int .i64 2, .int .i64 lo, .int .i64 hi, .int .i64 x, .int .i64 y] 45 (0, 0)) := by rw [← hw4]; exact (Below.heap_setCell _ _ _ _ hne1).trans a3
    have b4 : w4.heap[w2.heap.size]? = some (.cells #[.int .i64 2, .int .i64 z, .int .i64 hi, .int .i64 x, .int .i64 y] 45 (0, 0)) := by rw [← hw4]; exact heap_setCell_same w3 _ 1 _ _ _ b3
    have s4 : w4.heap.size = w2.heap.size + 1 := by rw [← hw4, ← s3]; simp
    have B4 : Below W.heap.size W w4 := by rw [← hw4]; exact B3.setCell (p := ⟨w2.heap.size, 1, none⟩) (by have := HB2.out.size; simpa using this) _
    obtain ⟨w5, hw5⟩ : ∃ w5, w4.alloc (.cells #[.int .i64 2, .int .i64 lo, .int .i64 hi, .int .i64 x, .int .i64 y] 45) = w5 := ⟨_, rfl⟩
    have a5 : w5.heap[W.heap.size]? = some (.cells #[.int .i64 2, .int .i64 lo, .int .i64 hi, .int .i64 x, .int .i64 y] 45 (0, 0)) := by rw [← hw5]; exact (Below.heap_alloc _ _ _ (Array.getElem?_eq_some_iff.1 a4).1).trans a4
    have b5 : w5.heap[w2.heap.size]? = some (.cells #[.int .i64 2, .int .i64 z, .int .i64 hi, .int .i64 x, .int .i64 y] 45 (0, 0)) := by rw [← hw5]; exact (Below.heap_alloc _ _ _ (Array.getElem?_eq_some_iff.1 b4).1).trans b4
    have c5 : w5.heap[w4.heap.size]? = some (.cells #[.int .i64 2, .int .i64 lo, .int .i64 hi, .int .i64 x, .int .i64 y] 45 (0, 0)) := by rw [← hw5]; exact heap_alloc_new w4 _
    have B5 : Below W.heap.size W w5 := by rw [← hw5]; exact B4.alloc B4.size _
    have hne2 : w2.heap.size ≠ w4.heap.size := by omega
    have hne3 : W.heap.size ≠ w4.heap.size := by have := HB2.out.size; omega
    obtain ⟨w6, hw6⟩ : ∃ w6, w5.setCell ⟨w4.heap.size, 0, none⟩ (.int .i64 8) = w6 := ⟨_, rfl⟩
    have a6 : w6.heap[W.heap.size]? = some (.cells #[.int .i64 2, .int .i64 lo, .int .i64 hi, .int .i64 x, .int .i64 y] 45 (0, 0)) := by rw [← hw6]; exact (Below.heap_setCell _ _ _ _ hne3).trans a5
    have b6 : w6.heap[w2.heap.size]? = some (.cells #[.int .i64 2, .int .i64 z, .int .i64 hi, .int .i64 x, .int .i64 y] 45 (0, 0)) := by rw [← hw6]; exact (Below.heap_setCell _ _ _ _ hne2).trans b5
    have c6 : w6.heap[w4.heap.size]? = some (.cells #[.int .i64 8, .int .i64 lo, .int .i64 hi, .int .i64 x, .int .i64 y] 45 (0, 0)) := by rw [← hw6]; exact heap_setCell_same w5 _ 0 _ _ _ c5
    have B6 : Below W.heap.size W w6 := by rw [← hw6]; exact B5.setCell (p := ⟨w4.heap.size, 0, none⟩) (by have := B4.size; simpa using this) _
    have e0 : w2.cell? ⟨W.heap.size, 0, none⟩ = some (.int .i64 2) := blkp HX2.out 0
    have e1 : w2.cell? ⟨W.heap.size, 1, none⟩ = some (.int .i64 lo) := blkp HX2.out 1
    have e2 : w2.cell? ⟨W.heap.size, 2, none⟩ = some (.int .i64 hi) := blkp HX2.out 2
    have e3 : w2.cell? ⟨W.heap.size, 3, none⟩ = some (.int .i64 x) := blkp HX2.out 3
    have e4 : w2.cell? ⟨W.heap.size, 4, none⟩ = some (.int .i64 y) := blkp HX2.out 4
    have g0 : w3.cell? ⟨W.heap.size, 0, none⟩ = some (.int .i64 2) := blkp a3 0
    have g1 : w3.cell? ⟨w2.heap.size, 1, none⟩ = some (.int .i64 lo) := blkp b3 1
    have g2 := frzp b3 1
    have h0 : w4.cell? ⟨W.heap.size, 0, none⟩ = some (.int .i64 2) := blkp a4 0
    have h1 : w4.cell? ⟨W.heap.size, 1, none⟩ = some (.int .i64 lo) := blkp a4 1
    have h2 : w4.cell? ⟨W.heap.size, 2, none⟩ = some (.int .i64 hi) := blkp a4 2
    have h3 : w4.cell? ⟨W.heap.size, 3, none⟩ = some (.int .i64 x) := blkp a4 3
    have h4 : w4.cell? ⟨W.heap.size, 4, none⟩ = some (.int .i64 y) := blkp a4 4
    have j0 : w5.cell? ⟨w4.heap.size, 0, none⟩ = some (.int .i64 2) := blkp c5 0
    have j1 := frzp c5 0
    have k0 : w6.cell? ⟨w2.heap.size, 0, none⟩ = some (.int .i64 2) := blkp b6 0
    have k1 : w6.cell? ⟨w2.heap.size, 1, none⟩ = some (.int .i64 z) := blkp b6 1
    have k2 : w6.cell? ⟨w2.heap.size, 2, none⟩ = some (.int .i64 hi) := blkp b6 2
    have k3 : w6.cell? ⟨w2.heap.size, 3, none⟩ = some (.int .i64 x) := blkp b6 3
    have k4 : w6.cell? ⟨w2.heap.size, 4, none⟩ = some (.int .i64 y) := blkp b6 4
    have A6 := Lib.hid a6
    have B6' := Lib.hid b6
    have C6 := Lib.hid c6
    have D6 := Lib.hid B6
    clear a3 b3 s3 a4 b4 s4 a5 b5 c5 a6 b6 c6 B3 B4 B5 B6 hne1 hne2 hne3
    go_wp2_with fail
    refine (HF.out ⟨2, z, hi, x, y⟩ w6 (HE.out.below D6.out).ops).mono ?_
    rintro e w7 ⟨rfl, hb7⟩
    rw [HNB.out]
    have D7 := Lib.hid (D6.out.trans (hb7.mono D6.out.size))
    have A7 := Lib.hid ((hb7.block _ (Array.getElem?_eq_some_iff.1 A6.out).1).trans A6.out)
    have B7 := Lib.hid ((hb7.block _ (Array.getElem?_eq_some_iff.1 B6'.out).1).trans B6'.out)
    have c7 := ((hb7.block _ (Array.getElem?_eq_some_iff.1 C6.out).1).trans C6.out)
    clear hb7 hw3 hw4 hw5 hw6 g2 j1 e0 e1 e2 e3 e4 g0 g1 h0 h1 h2 h3 h4 j0 k0 k1 k2 k3 k4
    have l0 : w7.cell? ⟨w4.heap.size, 0, none⟩ = some (.int .i64 8) := blkp c7 0
    have l1 : w7.cell? ⟨w4.heap.size, 1, none⟩ = some (.int .i64 lo) := blkp c7 1
    have l2 : w7.cell? ⟨w4.heap.size, 2, none⟩ = some (.int .i64 hi) := blkp c7 2
    have l3 : w7.cell? ⟨w4.heap.size, 3, none⟩ = some (.int .i64 x) := blkp c7 3
    have l4 : w7.cell? ⟨w4.heap.size, 4, none⟩ = some (.int .i64 y) := blkp c7 4
    go_wp2_with fail
    refine (HF.out ⟨8, lo, hi, x, y⟩ w7 (HE.out.below D7.out).ops).mono ?_
    rintro e w8 ⟨rfl, hb8⟩
    rw [HNC.out]
    have D8 := Lib.hid (D7.out.trans (hb8.mono D7.out.size))
    have a8 := ((hb8.block _ (Array.getElem?_eq_some_iff.1 A7.out).1).trans A7.out)
    have A8 := Lib.hid a8
    have B8 := Lib.hid ((hb8.block _ (Array.getElem?_eq_some_iff.1 B7.out).1).trans B7.out)
    clear hb8 c7 l0 l1 l2 l3 l4
    have m0 : w8.cell? ⟨W.heap.size, 0, none⟩ = some (.int .i64 2) := blkp a8 0
    have m1 : w8.cell? ⟨W.heap.size, 1, none⟩ = some (.int .i64 lo) := blkp a8 1
    have m2 : w8.cell? ⟨W.heap.size, 2, none⟩ = some (.int .i64 hi) := blkp a8 2
    have m3 : w8.cell? ⟨W.heap.size, 3, none⟩ = some (.int .i64 x) := blkp a8 3
    have m4 : w8.cell? ⟨W.heap.size, 4, none⟩ = some (.int .i64 y) := blkp a8 4
    obtain ⟨w9, hw9⟩ : ∃ w9, w8.alloc (.cells #[.int .i64 2, .int .i64 lo, .int .i64 hi, .int .i64 x, .int .i64 y] 45) = w9 := ⟨_, rfl⟩
    have hb9 : Below w8.heap.size w8 w9 := by rw [← hw9]; exact (Below.refl _ _).alloc (Nat.le_refl _) _
    have n9 : w9.heap[w8.heap.size]? = some (.cells #[.int .i64 2, .int .i64 lo, .int .i64 hi, .int .i64 x, .int .i64 y] 45 (0, 0)) := by rw [← hw9]; exact heap_alloc_new w8 _
    have D9 := Lib.hid (D8.out.trans (hb9.mono D8.out.size))
    have A9 := Lib.hid ((hb9.block _ (Array.getElem?_eq_some_iff.1 A8.out).1).trans A8.out)
    have B9 := Lib.hid ((hb9.block _ (Array.getElem?_eq_some_iff.1 B8.out).1).trans B8.out)
    have CK := Lib.hid (check_any [⟨2, lo, hi, x, y⟩] 0 0 _ w9 (InRow.one (a := ⟨2, lo, hi, x, y⟩) HBD.out n9) (HE.out.below D9.out).ops)
    rw [HC1.out] at CK
    clear a8 hb9 n9
    go_wp2_with fail
    refine CK.out.mono ?_
    rintro e w10 ⟨rfl, hb10⟩
    have D10 := Lib.hid (D9.out.trans (hb10.mono D9.out.size))
    have a10 := ((hb10.block _ (Array.getElem?_eq_some_iff.1 A9.out).1).trans A9.out)
    have b10 := ((hb10.block _ (Array.getElem?_eq_some_iff.1 B9.out).1).trans B9.out)
    clear hb10 hw9 m0 m1 m2 m3 m4
    have o0 : w10.cell? ⟨W.heap.size, 0, none⟩ = some (.int .i64 2) := blkp a10 0
    have o1 : w10.cell? ⟨W.heap.size, 1, none⟩ = some (.int .i64 lo) := blkp a10 1
    have o2 : w10.cell? ⟨W.heap.size, 2, none⟩ = some (.int .i64 hi) := blkp a10 2
    have o3 : w10.cell? ⟨W.heap.size, 3, none⟩ = some (.int .i64 x) := blkp a10 3
    have o4 : w10.cell? ⟨W.heap.size, 4, none⟩ = some (.int .i64 y) := blkp a10 4
    have p0 : w10.cell? ⟨w2.heap.size, 0, none⟩ = some (.int .i64 2) := blkp b10 0
    have p1 : w10.cell? ⟨w2.heap.size, 1, none⟩ = some (.int .i64 z) := blkp b10 1
    have p2 : w10.cell? ⟨w2.heap.size, 2, none⟩ = some (.int .i64 hi) := blkp b10 2
    have p3 : w10.cell? ⟨w2.heap.size, 3, none⟩ = some (.int .i64 x) := blkp b10 3
    have p4 : w10.cell? ⟨w2.heap.size, 4, none⟩ = some (.int .i64 y) := blkp b10 4
    obtain ⟨w11, hw11⟩ : ∃ w11, w10.alloc (.cells #[.int .i64 2, .int .i64 lo, .int .i64 hi, .int .i64 x, .int .i64 y, .int .i64 2, .int .i64 z, .int .i64 hi, .int .i64 x, .int .i64 y] 45) = w11 := ⟨_, rfl⟩
    have hb11 : Below w10.heap.size w10 w11 := by rw [← hw11]; exact (Below.refl _ _).alloc (Nat.le_refl _) _
    have n11 : w11.heap[w10.heap.size]? = some (.cells #[.int .i64 2, .int .i64 lo, .int .i64 hi, .int .i64 x, .int .i64 y, .int .i64 2, .int .i64 z, .int .i64 hi, .int .i64 x, .int .i64 y] 45 (0, 0)) := by rw [← hw11]; exact heap_alloc_new w10 _
    have D11 := Lib.hid (D10.out.trans (hb11.mono D10.out.size))
    have CL := Lib.hid (check_any [⟨2, lo, hi, x, y⟩, ⟨2, z, hi, x, y⟩] 0 0 _ w11 (InRow.two (a := ⟨2, lo, hi, x, y⟩) (b := ⟨2, z, hi, x, y⟩) HBD.out ⟨HBD.out.1, HZ.out, HBD.out.2.2.1, HBD.out.2.2.2.1, HBD.out.2.2.2.2⟩ n11) (HE.out.below D11.out).ops)
    rw [chk_two HNB.out] at CL
    clear a10 b10 hb11 n11
    go_wp2_with fail
    refine CL.out.mono ?_
    rintro e w12 ⟨rfl, hb12⟩
    have D12 := Lib.hid (D11.out.trans (hb12.mono D11.out.size))
    clear hb12
    go_wp2
    go_ret
    exact ⟨rfl, D12.out⟩
  · clear c0 c1 c2 c3 c4
    have HNB : Hid (fitB ⟨3, lo, hi, x, z⟩ = false) := Lib.hid (by have := HN.out; simpa [setF] using this)
    have HNC : Hid (fitB ⟨9, lo, hi, x, y⟩ = false) := Lib.hid (by have := H6.out; simpa using this)
    obtain ⟨w3, hw3⟩ : ∃ w3, w2.alloc (.cells #[.int .i64 3, .int .i64 lo, .int .i64 hi, .int .i64 x, .int .i64 y] 45) = w3 := ⟨_, rfl⟩
    have a3 : w3.heap[W.heap.size]? = some (.cells #[.int .i64 3, .int .i64 lo, .int .i64 hi, .int .i64 x, .int .i64 y] 45 (0, 0)) := by rw [← hw3]; exact (Below.heap_alloc _ _ _ (Array.getElem?_eq_some_iff.1 HX2.out).1).trans HX2.out
    have b3 : w3.heap[w2.heap.size]? = some (.cells #[.int .i64 3, .int .i64 lo, .int .i64 hi, .int .i64 x, .int .i64 y] 45 (0, 0)) := by rw [← hw3]; exact heap_alloc_new w2 _
    have s3 : w3.heap.size = w2.heap.size + 1 := by rw [← hw3]; simp
    have hne1 : W.heap.size ≠ w2.heap.size := by have := (Array.getElem?_eq_some_iff.1 HX2.out).1; omega
    have B3 : Below W.heap.size W w3 := by rw [← hw3]; exact HB2.out.alloc HB2.out.size _
    obtain ⟨w4, hw4⟩ : ∃ w4, w3.setCell ⟨w2.heap.size, 4, none⟩ (.int .i64 z) = w4 := ⟨_, rfl⟩
    have a4 : w4.heap[W.heap.size]? = some (.cells #[.int .i64 3, .int .i64 lo, .int .i64 hi, .int .i64 x, .int .i64 y] 45 (0, 0)) := by rw [← hw4]; exact (Below.heap_setCell _ _ _ _ hne1).trans a3
    have b4 : w4.heap[w2.heap.size]? = some (.cells #[.int .i64 3, .int .i64 lo, .int .i64 hi, .int .i64 x, .int .i64 z] 45 (0, 0)) := by rw [← hw4]; exact heap_setCell_same w3 _ 4 _ _ _ b3
    have s4 : w4.heap.size = w2.heap.size + 1 := by rw [← hw4, ← s3]; simp
    have B4 : Below W.heap.size W w4 := by rw [← hw4]; exact B3.setCell (p := ⟨w2.heap.size, 4, none⟩) (by have := HB2.out.size; simpa using this) _
    obtain ⟨w5, hw5⟩ : ∃ w5, w4.alloc (.cells #[.int .i64 3, .int .i64 lo, .int .i64 hi, .int .i64 x, .int .i64 y] 45) = w5 := ⟨_, rfl⟩
    have a5 : w5.heap[W.heap.size]? = some (.cells #[.int .i64 3, .int .i64 lo, .int .i64 hi, .int .i64 x, .int .i64 y] 45 (0, 0)) := by rw [← hw5]; exact (Below.heap_alloc _ _ _ (Array.getElem?_eq_some_iff.1 a4).1).trans a4
    have b5 : w5.heap[w2.heap.size]? = some (.cells #[.int .i64 3, .int .i64 lo, .int .i64 hi, .int .i64 x, .int .i64 z] 45 (0, 0)) := by rw [← hw5]; exact (Below.heap_alloc _ _ _ (Array.getElem?_eq_some_iff.1 b4).1).trans b4
    have c5 : w5.heap[w4.heap.size]? = some (.cells #[.int .i64 3, .int .i64 lo, .int .i64 hi, .int .i64 x, .int .i64 y] 45 (0, 0)) := by rw [← hw5]; exact heap_alloc_new w4 _
    have B5 : Below W.heap.size W w5 := by rw [← hw5]; exact B4.alloc B4.size _
    have hne2 : w2.heap.size ≠ w4.heap.size := by omega
    have hne3 : W.heap.size ≠ w4.heap.size := by have := HB2.out.size; omega
    obtain ⟨w6, hw6⟩ : ∃ w6, w5.setCell ⟨w4.heap.size, 0, none⟩ (.int .i64 9) = w6 := ⟨_, rfl⟩
    have a6 : w6.heap[W.heap.size]? = some (.cells #[.int .i64 3, .int .i64 lo, .int .i64 hi, .int .i64 x, .int .i64 y] 45 (0, 0)) := by rw [← hw6]; exact (Below.heap_setCell _ _ _ _ hne3).trans a5
    have b6 : w6.heap[w2.heap.size]? = some (.cells #[.int .i64 3, .int .i64 lo, .int .i64 hi, .int .i64 x, .int .i64 z] 45 (0, 0)) := by rw [← hw6]; exact (Below.heap_setCell _ _ _ _ hne2).trans b5
    have c6 : w6.heap[w4.heap.size]? = some (.cells #[.int .i64 9, .int .i64 lo, .int .i64 hi, .int .i64 x, .int .i64 y] 45 (0, 0)) := by rw [← hw6]; exact heap_setCell_same w5 _ 0 _ _ _ c5
    have B6 : Below W.heap.size W w6 := by rw [← hw6]; exact B5.setCell (p := ⟨w4.heap.size, 0, none⟩) (by have := B4.size; simpa using this) _
    have e0 : w2.cell? ⟨W.heap.size, 0, none⟩ = some (.int .i64 3) := blkp HX2.out 0
    have e1 : w2.cell? ⟨W.heap.size, 1, none⟩ = some (.int .i64 lo) := blkp HX2.out 1
    have e2 : w2.cell? ⟨W.heap.size, 2, none⟩ = some (.int .i64 hi) := blkp HX2.out 2
    have e3 : w2.cell? ⟨W.heap.size, 3, none⟩ = some (.int .i64 x) := blkp HX2.out 3
    have e4 : w2.cell? ⟨W.heap.size, 4, none⟩ = some (.int .i64 y) := blkp HX2.out 4
    have g0 : w3.cell? ⟨W.heap.size, 0, none⟩ = some (.int .i64 3) := blkp a3 0
    have g1 : w3.cell? ⟨w2.heap.size, 4, none⟩ = some (.int .i64 y) := blkp b3 4
    have g2 := frzp b3 4
    have h0 : w4.cell? ⟨W.heap.size, 0, none⟩ = some (.int .i64 3) := blkp a4 0
    have h1 : w4.cell? ⟨W.heap.size, 1, none⟩ = some (.int .i64 lo) := blkp a4 1
    have h2 : w4.cell? ⟨W.heap.size, 2, none⟩ = some (.int .i64 hi) := blkp a4 2
    have h3 : w4.cell? ⟨W.heap.size, 3, none⟩ = some (.int .i64 x) := blkp a4 3
    have h4 : w4.cell? ⟨W.heap.size, 4, none⟩ = some (.int .i64 y) := blkp a4 4
    have j0 : w5.cell? ⟨w4.heap.size, 0, none⟩ = some (.int .i64 3) := blkp c5 0
    have j1 := frzp c5 0
    have k0 : w6.cell? ⟨w2.heap.size, 0, none⟩ = some (.int .i64 3) := blkp b6 0
    have k1 : w6.cell? ⟨w2.heap.size, 1, none⟩ = some (.int .i64 lo) := blkp b6 1
    have k2 : w6.cell? ⟨w2.heap.size, 2, none⟩ = some (.int .i64 hi) := blkp b6 2
    have k3 : w6.cell? ⟨w2.heap.size, 3, none⟩ = some (.int .i64 x) := blkp b6 3
    have k4 : w6.cell? ⟨w2.heap.size, 4, none⟩ = some (.int .i64 z) := blkp b6 4
    have A6 := Lib.hid a6
    have B6' := Lib.hid b6
    have C6 := Lib.hid c6
    have D6 := Lib.hid B6
    clear a3 b3 s3 a4 b4 s4 a5 b5 c5 a6 b6 c6 B3 B4 B5 B6 hne1 hne2 hne3
    go_wp2_with fail
    refine (HF.out ⟨3, lo, hi, x, z⟩ w6 (HE.out.below D6.out).ops).mono ?_
    rintro e w7 ⟨rfl, hb7⟩
    rw [HNB.out]
    have D7 := Lib.hid (D6.out.trans (hb7.mono D6.out.size))
    have A7 := Lib.hid ((hb7.block _ (Array.getElem?_eq_some_iff.1 A6.out).1).trans A6.out)
    have B7 := Lib.hid ((hb7.block _ (Array.getElem?_eq_some_iff.1 B6'.out).1).trans B6'.out)
    have c7 := ((hb7.block _ (Array.getElem?_eq_some_iff.1 C6.out).1).trans C6.out)
    clear hb7 hw3 hw4 hw5 hw6 g2 j1 e0 e1 e2 e3 e4 g0 g1 h0 h1 h2 h3 h4 j0 k0 k1 k2 k3 k4
    have l0 : w7.cell? ⟨w4.heap.size, 0, none⟩ = some (.int .i64 9) := blkp c7 0
    have l1 : w7.cell? ⟨w4.heap.size, 1, none⟩ = some (.int .i64 lo) := blkp c7 1
    have l2 : w7.cell? ⟨w4.heap.size, 2, none⟩ = some (.int .i64 hi) := blkp c7 2
    have l3 : w7.cell? ⟨w4.heap.size, 3, none⟩ = some (.int .i64 x) := blkp c7 3
    have l4 : w7.cell? ⟨w4.heap.size, 4, none⟩ = some (.int .i64 y) := blkp c7 4
    go_wp2_with fail
    refine (HF.out ⟨9, lo, hi, x, y⟩ w7 (HE.out.below D7.out).ops).mono ?_
    rintro e w8 ⟨rfl, hb8⟩
    rw [HNC.out]
    have D8 := Lib.hid (D7.out.trans (hb8.mono D7.out.size))
    have a8 := ((hb8.block _ (Array.getElem?_eq_some_iff.1 A7.out).1).trans A7.out)
    have A8 := Lib.hid a8
    have B8 := Lib.hid ((hb8.block _ (Array.getElem?_eq_some_iff.1 B7.out).1).trans B7.out)
    clear hb8 c7 l0 l1 l2 l3 l4
    have m0 : w8.cell? ⟨W.heap.size, 0, none⟩ = some (.int .i64 3) := blkp a8 0
    have m1 : w8.cell? ⟨W.heap.size, 1, none⟩ = some (.int .i64 lo) := blkp a8 1
    have m2 : w8.cell? ⟨W.heap.size, 2, none⟩ = some (.int .i64 hi) := blkp a8 2
    have m3 : w8.cell? ⟨W.heap.size, 3, none⟩ = some (.int .i64 x) := blkp a8 3
    have m4 : w8.cell? ⟨W.heap.size, 4, none⟩ = some (.int .i64 y) := blkp a8 4
    obtain ⟨w9, hw9⟩ : ∃ w9, w8.alloc (.cells #[.int .i64 3, .int .i64 lo, .int .i64 hi, .int .i64 x, .int .i64 y] 45) = w9 := ⟨_, rfl⟩
    have hb9 : Below w8.heap.size w8 w9 := by rw [← hw9]; exact (Below.refl _ _).alloc (Nat.le_refl _) _
    have n9 : w9.heap[w8.heap.size]? = some (.cells #[.int .i64 3, .int .i64 lo, .int .i64 hi, .int .i64 x, .int .i64 y] 45 (0, 0)) := by rw [← hw9]; exact heap_alloc_new w8 _
    have D9 := Lib.hid (D8.out.trans (hb9.mono D8.out.size))
    have A9 := Lib.hid ((hb9.block _ (Array.getElem?_eq_some_iff.1 A8.out).1).trans A8.out)
    have B9 := Lib.hid ((hb9.block _ (Array.getElem?_eq_some_iff.1 B8.out).1).trans B8.out)
    have CK := Lib.hid (check_any [⟨3, lo, hi, x, y⟩] 0 0 _ w9 (InRow.one (a := ⟨3, lo, hi, x, y⟩) HBD.out n9) (HE.out.below D9.out).ops)
    rw [HC1.out] at CK
    clear a8 hb9 n9
    go_wp2_with fail
    refine CK.out.mono ?_
    rintro e w10 ⟨rfl, hb10⟩
    have D10 := Lib.hid (D9.out.trans (hb10.mono D9.out.size))
    have a10 := ((hb10.block _ (Array.getElem?_eq_some_iff.1 A9.out).1).trans A9.out)
    have b10 := ((hb10.block _ (Array.getElem?_eq_some_iff.1 B9.out).1).trans B9.out)
    clear hb10 hw9 m0 m1 m2 m3 m4
    have o0 : w10.cell? ⟨W.heap.size, 0, none⟩ = some (.int .i64 3) := blkp a10 0
    have o1 : w10.cell? ⟨W.heap.size, 1, none⟩ = some (.int .i64 lo) := blkp a10 1
    have o2 : w10.cell? ⟨W.heap.size, 2, none⟩ = some (.int .i64 hi) := blkp a10 2
    have o3 : w10.cell? ⟨W.heap.size, 3, none⟩ = some (.int .i64 x) := blkp a10 3
    have o4 : w10.cell? ⟨W.heap.size, 4, none⟩ = some (.int .i64 y) := blkp a10 4
    have p0 : w10.cell? ⟨w2.heap.size, 0, none⟩ = some (.int .i64 3) := blkp b10 0
    have p1 : w10.cell? ⟨w2.heap.size, 1, none⟩ = some (.int .i64 lo) := blkp b10 1
    have p2 : w10.cell? ⟨w2.heap.size, 2, none⟩ = some (.int .i64 hi) := blkp b10 2
    have p3 : w10.cell? ⟨w2.heap.size, 3, none⟩ = some (.int .i64 x) := blkp b10 3
    have p4 : w10.cell? ⟨w2.heap.size, 4, none⟩ = some (.int .i64 z) := blkp b10 4
    obtain ⟨w11, hw11⟩ : ∃ w11, w10.alloc (.cells #[.int .i64 3, .int .i64 lo, .int .i64 hi, .int .i64 x, .int .i64 y, .int .i64 3, .int .i64 lo, .int .i64 hi, .int .i64 x, .int .i64 z] 45) = w11 := ⟨_, rfl⟩
    have hb11 : Below w10.heap.size w10 w11 := by rw [← hw11]; exact (Below.refl _ _).alloc (Nat.le_refl _) _
    have n11 : w11.heap[w10.heap.size]? = some (.cells #[.int .i64 3, .int .i64 lo, .int .i64 hi, .int .i64 x, .int .i64 y, .int .i64 3, .int .i64 lo, .int .i64 hi, .int .i64 x, .int .i64 z] 45 (0, 0)) := by rw [← hw11]; exact heap_alloc_new w10 _
    have D11 := Lib.hid (D10.out.trans (hb11.mono D10.out.size))
    have CL := Lib.hid (check_any [⟨3, lo, hi, x, y⟩, ⟨3, lo, hi, x, z⟩] 0 0 _ w11 (InRow.two (a := ⟨3, lo, hi, x, y⟩) (b := ⟨3, lo, hi, x, z⟩) HBD.out ⟨HBD.out.1, HBD.out.2.1, HBD.out.2.2.1, HBD.out.2.2.2.1, HZ.out⟩ n11) (HE.out.below D11.out).ops)
    rw [chk_two HNB.out] at CL
    clear a10 b10 hb11 n11
    go_wp2_with fail
    refine CL.out.mono ?_
    rintro e w12 ⟨rfl, hb12⟩
    have D12 := Lib.hid (D11.out.trans (hb12.mono D11.out.size))
    clear hb12
    go_wp2
    go_ret
    exact ⟨rfl, D12.out⟩
  · clear c0 c1 c2 c3 c4
    have HNB : Hid (fitB ⟨4, lo, hi, x, z⟩ = false) := Lib.hid (by have := HN.out; simpa [setF] using this)
    have HNC : Hid (fitB ⟨10, lo, hi, x, y⟩ = false) := Lib.hid (by have := H6.out; simpa using this)
    obtain ⟨w3, hw3⟩ : ∃ w3, w2.alloc (.cells #[.int .i64 4, .int .i64 lo, .int .i64 hi, .int .i64 x, .int .i64 y] 45) = w3 := ⟨_, rfl⟩
    have a3 : w3.heap[W.heap.size]? = some (.cells #[.int .i64 4, .int .i64 lo, .int .i64 hi, .int .i64 x, .int .i64 y] 45 (0, 0)) := by rw [← hw3]; exact (Below.heap_alloc _ _ _ (Array.getElem?_eq_some_iff.1 HX2.out).1).trans HX2.out
    have b3 : w3.heap[w2.heap.size]? = some (.cells #[.int .i64 4, .int .i64 lo, .int .i64 hi, .int .i64 x, .int .i64 y] 45 (0, 0)) := by rw [← hw3]; exact heap_alloc_new w2 _
    have s3 : w3.heap.size = w2.heap.size + 1 := by rw [← hw3]; simp
    have hne1 : W.heap.size ≠ w2.heap.size := by have := (Array.getElem?_eq_some_iff.1 HX2.out).1; omega
    have B3 : Below W.heap.size W w3 := by rw [← hw3]; exact HB2.out.alloc HB2.out.size _
    obtain ⟨w4, hw4⟩ : ∃ w4, w3.setCell ⟨w2.heap.size, 4, none⟩ (.int .i64 z) = w4 := ⟨_, rfl⟩
    have a4 : w4.heap[W.heap.size]? = some (.cells #[.int .i64 4, .int .i64 lo, .int .i64 hi, .int .i64 x, .int .i64 y] 45 (0, 0)) := by rw [← hw4]; exact (Below.heap_setCell _ _ _ _ hne1).trans a3
    have b4 : w4.heap[w2.heap.size]? = some (.cells #[.int .i64 4, .int .i64 lo, .int .i64 hi, .int .i64 x, .int .i64 z] 45 (0, 0)) := by rw [← hw4]; exact heap_setCell_same w3 _ 4 _ _ _ b3
    have s4 : w4.heap.size = w2.heap.size + 1 := by rw [← hw4, ← s3]; simp
    have B4 : Below W.heap.size W w4 := by rw [← hw4]; exact B3.setCell (p := ⟨w2.heap.size, 4, none⟩) (by have := HB2.out.size; simpa using this) _
    obtain ⟨w5, hw5⟩ : ∃ w5, w4.alloc (.cells #[.int .i64 4, .int .i64 lo, .int .i64 hi, .int .i64 x, .int .i64 y] 45) = w5 := ⟨_, rfl⟩
    have a5 : w5.heap[W.heap.size]? = some (.cells #[.int .i64 4, .int .i64 lo, .int .i64 hi, .int .i64 x, .int .i64 y] 45 (0, 0)) := by rw [← hw5]; exact (Below.heap_alloc _ _ _ (Array.getElem?_eq_some_iff.1 a4).1).trans a4
    have b5 : w5.heap[w2.heap.size]? = some (.cells #[.int .i64 4, .int .i64 lo, .int .i64 hi, .int .i64 x, .int .i64 z] 45 (0, 0)) := by rw [← hw5]; exact (Below.heap_alloc _ _ _ (Array.getElem?_eq_some_iff.1 b4).1).trans b4
    have c5 : w5.heap[w4.heap.size]? = some (.cells #[.int .i64 4, .int .i64 lo, .int .i64 hi, .int .i64 x, .int .i64 y] 45 (0, 0)) := by rw [← hw5]; exact heap_alloc_new w4 _
    have B5 : Below W.heap.size W w5 := by rw [← hw5]; exact B4.alloc B4.size _
    have hne2 : w2.heap.size ≠ w4.heap.size := by omega
    have hne3 : W.heap.size ≠ w4.heap.size := by have := HB2.out.size; omega
    obtain ⟨w6, hw6⟩ : ∃ w6, w5.setCell ⟨w4.heap.size, 0, none⟩ (.int .i64 10) = w6 := ⟨_, rfl⟩
    have a6 : w6.heap[W.heap.size]? = some (.cells #[.int .i64 4, .int .i64 lo, .int .i64 hi, .int .i64 x, .int .i64 y] 45 (0, 0)) := by rw [← hw6]; exact (Below.heap_setCell _ _ _ _ hne3).trans a5
    have b6 : w6.heap[w2.heap.size]? = some (.cells #[.int .i64 4, .int .i64 lo, .int .i64 hi, .int .i64 x, .int .i64 z] 45 (0, 0)) := by rw [← hw6]; exact (Below.heap_setCell _ _ _ _ hne2).trans b5
    have c6 : w6.heap[w4.heap.size]? = some (.cells #[.int .i64 10, .int .i64 lo, .int .i64 hi, .int .i64 x, .int .i64 y] 45 (0, 0)) := by rw [← hw6]; exact heap_setCell_same w5 _ 0 _ _ _ c5
    have B6 : Below W.heap.size W w6 := by rw [← hw6]; exact B5.setCell (p := ⟨w4.heap.size, 0, none⟩) (by have := B4.size; simpa using this) _
    have e0 : w2.cell? ⟨W.heap.size, 0, none⟩ = some (.int .i64 4) := blkp HX2.out 0
    have e1 : w2.cell? ⟨W.heap.size, 1, none⟩ = some (.int .i64 lo) := blkp HX2.out 1
    have e2 : w2.cell? ⟨W.heap.size, 2, none⟩ = some (.int .i64 hi) := blkp HX2.out 2
    have e3 : w2.cell? ⟨W.heap.size, 3, none⟩ = some (.int .i64 x) := blkp HX2.out 3
    have e4 : w2.cell? ⟨W.heap.size, 4, none⟩ = some (.int .i64 y) := blkp HX2.out 4
    have g0 : w3.cell? ⟨W.heap.size, 0, none⟩ = some (.int .i64 4) := blkp a3 0
    have g1 : w3.cell? ⟨w2.heap.size, 4, none⟩ = some (.int .i64 y) := blkp b3 4
    have g2 := frzp b3 4
    have h0 : w4.cell? ⟨W.heap.size, 0, none⟩ = some (.int .i64 4) := blkp a4 0
    have h1 : w4.cell? ⟨W.heap.size, 1, none⟩ = some (.int .i64 lo) := blkp a4 1
    have h2 : w4.cell? ⟨W.heap.size, 2, none⟩ = some (.int .i64 hi) := blkp a4 2
    have h3 : w4.cell? ⟨W.heap.size, 3, none⟩ = some (.int .i64 x) := blkp a4 3
    have h4 : w4.cell? ⟨W.heap.size, 4, none⟩ = some (.int .i64 y) := blkp a4 4
    have j0 : w5.cell? ⟨w4.heap.size, 0, none⟩ = some (.int .i64 4) := blkp c5 0
    have j1 := frzp c5 0
    have k0 : w6.cell? ⟨w2.heap.size, 0, none⟩ = some (.int .i64 4) := blkp b6 0
    have k1 : w6.cell? ⟨w2.heap.size, 1, none⟩ = some (.int .i64 lo) := blkp b6 1
    have k2 : w6.cell? ⟨w2.heap.size, 2, none⟩ = some (.int .i64 hi) := blkp b6 2
    have k3 : w6.cell? ⟨w2.heap.size, 3, none⟩ = some (.int .i64 x) := blkp b6 3
    have k4 : w6.cell? ⟨w2.heap.size, 4, none⟩ = some (.int .i64 z) := blkp b6 4
    have A6 := Lib.hid a6
    have B6' := Lib.hid b6
    have C6 := Lib.hid c6
    have D6 := Lib.hid B6
    clear a3 b3 s3 a4 b4 s4 a5 b5 c5 a6 b6 c6 B3 B4 B5 B6 hne1 hne2 hne3
    go_wp2_with fail
    refine (HF.out ⟨4, lo, hi, x, z⟩ w6 (HE.out.below D6.out).ops).mono ?_
    rintro e w7 ⟨rfl, hb7⟩
    rw [HNB.out]
    have D7 := Lib.hid (D6.out.trans (hb7.mono D6.out.size))
    have A7 := Lib.hid ((hb7.block _ (Array.getElem?_eq_some_iff.1 A6.out).1).trans A6.out)
    have B7 := Lib.hid ((hb7.block _ (Array.getElem?_eq_some_iff.1 B6'.out).1).trans B6'.out)
    have c7 := ((hb7.block _ (Array.getElem?_eq_some_iff.1 C6.out).1).trans C6.out)
    clear hb7 hw3 hw4 hw5 hw6 g2 j1 e0 e1 e2 e3 e4 g0 g1 h0 h1 h2 h3 h4 j0 k0 k1 k2 k3 k4
    have l0 : w7.cell? ⟨w4.heap.size, 0, none⟩ = some (.int .i64 10) := blkp c7 0
    have l1 : w7.cell? ⟨w4.heap.size, 1, none⟩ = some (.int .i64 lo) := blkp c7 1
    have l2 : w7.cell? ⟨w4.heap.size, 2, none⟩ = some (.int .i64 hi) := blkp c7 2
    have l3 : w7.cell? ⟨w4.heap.size, 3, none⟩ = some (.int .i64 x) := blkp c7 3
    have l4 : w7.cell? ⟨w4.heap.size, 4, none⟩ = some (.int .i64 y) := blkp c7 4
    go_wp2_with fail
    refine (HF.out ⟨10, lo, hi, x, y⟩ w7 (HE.out.below D7.out).ops).mono ?_
    rintro e w8 ⟨rfl, hb8⟩
    rw [HNC.out]
    have D8 := Lib.hid (D7.out.trans (hb8.mono D7.out.size))
    have a8 := ((hb8.block _ (Array.getElem?_eq_some_iff.1 A7.out).1).trans A7.out)
    have A8 := Lib.hid a8
    have B8 := Lib.hid ((hb8.block _ (Array.getElem?_eq_some_iff.1 B7.out).1).trans B7.out)
    clear hb8 c7 l0 l1 l2 l3 l4
    have m0 : w8.cell? ⟨W.heap.size, 0, none⟩ = some (.int .i64 4) := blkp a8 0
    have m1 : w8.cell? ⟨W.heap.size, 1, none⟩ = some (.int .i64 lo) := blkp a8 1
    have m2 : w8.cell? ⟨W.heap.size, 2, none⟩ = some (.int .i64 hi) := blkp a8 2
    have m3 : w8.cell? ⟨W.heap.size, 3, none⟩ = some (.int .i64 x) := blkp a8 3
    have m4 : w8.cell? ⟨W.heap.size, 4, none⟩ = some (.int .i64 y) := blkp a8 4
    obtain ⟨w9, hw9⟩ : ∃ w9, w8.alloc (.cells #[.int .i64 4, .int .i64 lo, .int .i64 hi, .int .i64 x, .int .i64 y] 45) = w9 := ⟨_, rfl⟩
    have hb9 : Below w8.heap.size w8 w9 := by rw [← hw9]; exact (Below.refl _ _).alloc (Nat.le_refl _) _
    have n9 : w9.heap[w8.heap.size]? = some (.cells #[.int .i64 4, .int .i64 lo, .int .i64 hi, .int .i64 x, .int .i64 y] 45 (0, 0)) := by rw [← hw9]; exact heap_alloc_new w8 _
    have D9 := Lib.hid (D8.out.trans (hb9.mono D8.out.size))
    have A9 := Lib.hid ((hb9.block _ (Array.getElem?_eq_some_iff.1 A8.out).1).trans A8.out)
    have B9 := Lib.hid ((hb9.block _ (Array.getElem?_eq_some_iff.1 B8.out).1).trans B8.out)
    have CK := Lib.hid (check_any [⟨4, lo, hi, x, y⟩] 0 0 _ w9 (InRow.one (a := ⟨4, lo, hi, x, y⟩) HBD.out n9) (HE.out.below D9.out).ops)
    rw [HC1.out] at CK
    clear a8 hb9 n9
    go_wp2_with fail
    refine CK.out.mono ?_
    rintro e w10 ⟨rfl, hb10⟩
    have D10 := Lib.hid (D9.out.trans (hb10.mono D9.out.size))
    have a10 := ((hb10.block _ (Array.getElem?_eq_some_iff.1 A9.out).1).trans A9.out)
    have b10 := ((hb10.block _ (Array.getElem?_eq_some_iff.1 B9.out).1).trans B9.out)
    clear hb10 hw9 m0 m1 m2 m3 m4
    have o0 : w10.cell? ⟨W.heap.size, 0, none⟩ = some (.int .i64 4) := blkp a10 0
    have o1 : w10.cell? ⟨W.heap.size, 1, none⟩ = some (.int .i64 lo) := blkp a10 1
    have o2 : w10.cell? ⟨W.heap.size, 2, none⟩ = some (.int .i64 hi) := blkp a10 2
    have o3 : w10.cell? ⟨W.heap.size, 3, none⟩ = some (.int .i64 x) := blkp a10 3
    have o4 : w10.cell? ⟨W.heap.size, 4, none⟩ = some (.int .i64 y) := blkp a10 4
    have p0 : w10.cell? ⟨w2.heap.size, 0, none⟩ = some (.int .i64 4) := blkp b10 0
    have p1 : w10.cell? ⟨w2.heap.size, 1, none⟩ = some (.int .i64 lo) := blkp b10 1
    have p2 : w10.cell? ⟨w2.heap.size, 2, none⟩ = some (.int .i64 hi) := blkp b10 2
    have p3 : w10.cell? ⟨w2.heap.size, 3, none⟩ = some (.int .i64 x) := blkp b10 3
    have p4 : w10.cell? ⟨w2.heap.size, 4, none⟩ = some (.int .i64 z) := blkp b10 4
    obtain ⟨w11, hw11⟩ : ∃ w11, w10.alloc (.cells #[.int .i64 4, .int .i64 lo, .int .i64 hi, .int .i64 x, .int .i64 y, .int .i64 4, .int .i64 lo, .int .i64 hi, .int .i64 x, .int .i64 z] 45) = w11 := ⟨_, rfl⟩
    have hb11 : Below w10.heap.size w10 w11 := by rw [← hw11]; exact (Below.refl _ _).alloc (Nat.le_refl _) _
    have n11 : w11.heap[w10.heap.size]? = some (.cells #[.int .i64 4, .int .i64 lo, .int .i64 hi, .int .i64 x, .int .i64 y, .int .i64 4, .int .i64 lo, .int .i64 hi, .int .i64 x, .int .i64 z] 45 (0, 0)) := by rw [← hw11]; exact heap_alloc_new w10 _
    have D11 := Lib.hid (D10.out.trans (hb11.mono D10.out.size))
    have CL := Lib.hid (check_any [⟨4, lo, hi, x, y⟩, ⟨4, lo, hi, x, z⟩] 0 0 _ w11 (InRow.two (a := ⟨4, lo, hi, x, y⟩) (b := ⟨4, lo, hi, x, z⟩) HBD.out ⟨HBD.out.1, HBD.out.2.1, HBD.out.2.2.1, HBD.out.2.2.2.1, HZ.out⟩ n11) (HE.out.below D11.out).ops)
    rw [chk_two HNB.out] at CL
    clear a10 b10 hb11 n11
    go_wp2_with fail
    refine CL.out.mono ?_
    rintro e w12 ⟨rfl, hb12⟩
    have D12 := Lib.hid (D11.out.trans (hb12.mono D11.out.size))
    clear hb12
    go_wp2
    go_ret
    exact ⟨rfl, D12.out⟩
  · clear c0 c1 c2 c3 c4
    have HNB : Hid (fitB ⟨5, lo, hi, z, y⟩ = false) := Lib.hid (by have := HN.out; simpa [setF] using this)
    have HNC : Hid (fitB ⟨11, lo, hi, x, y⟩ = false) := Lib.hid (by have := H6.out; simpa using this)
    obtain ⟨w3, hw3⟩ : ∃ w3, w2.alloc (.cells #[.int .i64 5, .int .i64 lo, .int .i64 hi, .int .i64 x, .int .i64 y] 45) = w3 := ⟨_, rfl⟩
    have a3 : w3.heap[W.heap.size]? = some (.cells #[.int .i64 5, .int .i64 lo, .int .i64 hi, .int .i64 x, .int .i64 y] 45 (0, 0)) := by rw [← hw3]; exact (Below.heap_alloc _ _ _ (Array.getElem?_eq_some_iff.1 HX2.out).1).trans HX2.out
    have b3 : w3.heap[w2.heap.size]? = some (.cells #[.int .i64 5, .int .i64 lo, .int .i64 hi, .int .i64 x, .int .i64 y] 45 (0, 0)) := by rw [← hw3]; exact heap_alloc_new w2 _
    have s3 : w3.heap.size = w2.heap.size + 1 := by rw [← hw3]; simp
    have hne1 : W.heap.size ≠ w2.heap.size := by have := (Array.getElem?_eq_some_iff.1 HX2.out).1; omega
    have B3 : Below W.heap.size W w3 := by rw [← hw3]; exact HB2.out.alloc HB2.out.size _
    obtain ⟨w4, hw4⟩ : ∃ w4, w3.setCell ⟨w2.heap.size, 3, none⟩ (.int .i64 z) = w4 := ⟨_, rfl⟩
    have a4 : w4.heap[W.heap.size]? = some (.cells #[.int .i64 5, .int .i64 lo, .int .i64 hi, .int .i64 x, .int .i64 y] 45 (0, 0)) := by rw [← hw4]; exact (Below.heap_setCell _ _ _ _ hne1).trans a3
    have b4 : w4.heap[w2.heap.size]? = some (.cells #[.int .i64 5, .int .i64 lo, .int .i64 hi, .int .i64 z, .int .i64 y] 45 (0, 0)) := by rw [← hw4]; exact heap_setCell_same w3 _ 3 _ _ _ b3
    have s4 : w4.heap.size = w2.heap.size + 1 := by rw [← hw4, ← s3]; simp
    have B4 : Below W.heap.size W w4 := by rw [← hw4]; exact B3.setCell (p := ⟨w2.heap.size, 3, none⟩) (by have := HB2.out.size; simpa using this) _
    obtain ⟨w5, hw5⟩ : ∃ w5, w4.alloc (.cells #[.int .i64 5, .int .i64 lo, .int .i64 hi, .int .i64 x, .int .i64 y] 45) = w5 := ⟨_, rfl⟩
    have a5 : w5.heap[W.heap.size]? = some (.cells #[.int .i64 5, .int .i64 lo, .int .i64 hi, .int .i64 x, .int .i64 y] 45 (0, 0)) := by rw [← hw5]; exact (Below.heap_alloc _ _ _ (Array.getElem?_eq_some_iff.1 a4).1).trans a4
    have b5 : w5.heap[w2.heap.size]? = some (.cells #[.int .i64 5, .int .i64 lo, .int .i64 hi, .int .i64 z, .int .i64 y] 45 (0, 0)) := by rw [← hw5]; exact (Below.heap_alloc _ _ _ (Array.getElem?_eq_some_iff.1 b4).1).trans b4
    have c5 : w5.heap[w4.heap.size]? = some (.cells #[.int .i64 5, .int .i64 lo, .int .i64 hi, .int .i64 x, .int .i64 y] 45 (0, 0)) := by rw [← hw5]; exact heap_alloc_new w4 _
    have B5 : Below W.heap.size W w5 := by rw [← hw5]; exact B4.alloc B4.size _
    have hne2 : w2.heap.size ≠ w4.heap.size := by omega
    have hne3 : W.heap.size ≠ w4.heap.size := by have := HB2.out.size; omega
    obtain ⟨w6, hw6⟩ : ∃ w6, w5.setCell ⟨w4.heap.size, 0, none⟩ (.int .i64 11) = w6 := ⟨_, rfl⟩
    have a6 : w6.heap[W.heap.size]? = some (.cells #[.int .i64 5, .int .i64 lo, .int .i64 hi, .int .i64 x, .int .i64 y] 45 (0, 0)) := by rw [← hw6]; exact (Below.heap_setCell _ _ _ _ hne3).trans a5
    have b6 : w6.heap[w2.heap.size]? = some (.cells #[.int .i64 5, .int .i64 lo, .int .i64 hi, .int .i64 z, .int .i64 y] 45 (0, 0)) := by rw [← hw6]; exact (Below.heap_setCell _ _ _ _ hne2).trans b5
    have c6 : w6.heap[w4.heap.size]? = some (.cells #[.int .i64 11, .int .i64 lo, .int .i64 hi, .int .i64 x, .int .i64 y] 45 (0, 0)) := by rw [← hw6]; exact heap_setCell_same w5 _ 0 _ _ _ c5
    have B6 : Below W.heap.size W w6 := by rw [← hw6]; exact B5.setCell (p := ⟨w4.heap.size, 0, none⟩) (by have := B4.size; simpa using this) _
    have e0 : w2.cell? ⟨W.heap.size, 0, none⟩ = some (.int .i64 5) := blkp HX2.out 0
    have e1 : w2.cell? ⟨W.heap.size, 1, none⟩ = some (.int .i64 lo) := blkp HX2.out 1
    have e2 : w2.cell? ⟨W.heap.size, 2, none⟩ = some (.int .i64 hi) := blkp HX2.out 2
    have e3 : w2.cell? ⟨W.heap.size, 3, none⟩ = some (.int .i64 x) := blkp HX2.out 3
    have e4 : w2.cell? ⟨W.heap.size, 4, none⟩ = some (.int .i64 y) := blkp HX2.out 4
    have g0 : w3.cell? ⟨W.heap.size, 0, none⟩ = some (.int .i64 5) := blkp a3 0
    have g1 : w3.cell? ⟨w2.heap.size, 3, none⟩ = some (.int .i64 x) := blkp b3 3
    have g2 := frzp b3 3
    have h0 : w4.cell? ⟨W.heap.size, 0, none⟩ = some (.int .i64 5) := blkp a4 0
    have h1 : w4.cell? ⟨W.heap.size, 1, none⟩ = some (.int .i64 lo) := blkp a4 1
    have h2 : w4.cell? ⟨W.heap.size, 2, none⟩ = some (.int .i64 hi) := blkp a4 2
    have h3 : w4.cell? ⟨W.heap.size, 3, none⟩ = some (.int .i64 x) := blkp a4 3
    have h4 : w4.cell? ⟨W.heap.size, 4, none⟩ = some (.int .i64 y) := blkp a4 4
    have j0 : w5.cell? ⟨w4.heap.size, 0, none⟩ = some (.int .i64 5) := blkp c5 0
    have j1 := frzp c5 0
    have k0 : w6.cell? ⟨w2.heap.size, 0, none⟩ = some (.int .i64 5) := blkp b6 0
    have k1 : w6.cell? ⟨w2.heap.size, 1, none⟩ = some (.int .i64 lo) := blkp b6 1
    have k2 : w6.cell? ⟨w2.heap.size, 2, none⟩ = some (.int .i64 hi) := blkp b6 2
    have k3 : w6.cell? ⟨w2.heap.size, 3, none⟩ = some (.int .i64 z) := blkp b6 3
    have k4 : w6.cell? ⟨w2.heap.size, 4, none⟩ = some (.int .i64 y) := blkp b6 4
    have A6 := Lib.hid a6
    have B6' := Lib.hid b6
    have C6 := Lib.hid c6
    have D6 := Lib.hid B6
    clear a3 b3 s3 a4 b4 s4 a5 b5 c5 a6 b6 c6 B3 B4 B5 B6 hne1 hne2 hne3
    go_wp2_with fail
    refine (HF.out ⟨5, lo, hi, z, y⟩ w6 (HE.out.below D6.out).ops).mono ?_
    rintro e w7 ⟨rfl, hb7⟩
    rw [HNB.out]
    have D7 := Lib.hid (D6.out.trans (hb7.mono D6.out.size))
    have A7 := Lib.hid ((hb7.block _ (Array.getElem?_eq_some_iff.1 A6.out).1).trans A6.out)
    have B7 := Lib.hid ((hb7.block _ (Array.getElem?_eq_some_iff.1 B6'.out).1).trans B6'.out)
    have c7 := ((hb7.block _ (Array.getElem?_eq_some_iff.1 C6.out).1).trans C6.out)
    clear hb7 hw3 hw4 hw5 hw6 g2 j1 e0 e1 e2 e3 e4 g0 g1 h0 h1 h2 h3 h4 j0 k0 k1 k2 k3 k4
    have l0 : w7.cell? ⟨w4.heap.size, 0, none⟩ = some (.int .i64 11) := blkp c7 0
    have l1 : w7.cell? ⟨w4.heap.size, 1, none⟩ = some (.int .i64 lo) := blkp c7 1
    have l2 : w7.cell? ⟨w4.heap.size, 2, none⟩ = some (.int .i64 hi) := blkp c7 2
    have l3 : w7.cell? ⟨w4.heap.size, 3, none⟩ = some (.int .i64 x) := blkp c7 3
    have l4 : w7.cell? ⟨w4.heap.size, 4, none⟩ = some (.int .i64 y) := blkp c7 4
    go_wp2_with fail
    refine (HF.out ⟨11, lo, hi, x, y⟩ w7 (HE.out.below D7.out).ops).mono ?_
    rintro e w8 ⟨rfl, hb8⟩
    rw [HNC.out]
    have D8 := Lib.hid (D7.out.trans (hb8.mono D7.out.size))
    have a8 := ((hb8.block _ (Array.getElem?_eq_some_iff.1 A7.out).1).trans A7.out)
    have A8 := Lib.hid a8
    have B8 := Lib.hid ((hb8.block _ (Array.getElem?_eq_some_iff.1 B7.out).1).trans B7.out)
    clear hb8 c7 l0 l1 l2 l3 l4
    have m0 : w8.cell? ⟨W.heap.size, 0, none⟩ = some (.int .i64 5) := blkp a8 0
    have m1 : w8.cell? ⟨W.heap.size, 1, none⟩ = some (.int .i64 lo) := blkp a8 1
    have m2 : w8.cell? ⟨W.heap.size, 2, none⟩ = some (.int .i64 hi) := blkp a8 2
    have m3 : w8.cell? ⟨W.heap.size, 3, none⟩ = some (.int .i64 x) := blkp a8 3
    have m4 : w8.cell? ⟨W.heap.size, 4, none⟩ = some (.int .i64 y) := blkp a8 4
    obtain ⟨w9, hw9⟩ : ∃ w9, w8.alloc (.cells #[.int .i64 5, .int .i64 lo, .int .i64 hi, .int .i64 x, .int .i64 y] 45) = w9 := ⟨_, rfl⟩
    have hb9 : Below w8.heap.size w8 w9 := by rw [← hw9]; exact (Below.refl _ _).alloc (Nat.le_refl _) _
    have n9 : w9.heap[w8.heap.size]? = some (.cells #[.int .i64 5, .int .i64 lo, .int .i64 hi, .int .i64 x, .int .i64 y] 45 (0, 0)) := by rw [← hw9]; exact heap_alloc_new w8 _
    have D9 := Lib.hid (D8.out.trans (hb9.mono D8.out.size))
    have A9 := Lib.hid ((hb9.block _ (Array.getElem?_eq_some_iff.1 A8.out).1).trans A8.out)
    have B9 := Lib.hid ((hb9.block _ (Array.getElem?_eq_some_iff.1 B8.out).1).trans B8.out)
    have CK := Lib.hid (check_any [⟨5, lo, hi, x, y⟩] 0 0 _ w9 (InRow.one (a := ⟨5, lo, hi, x, y⟩) HBD.out n9) (HE.out.below D9.out).ops)
    rw [HC1.out] at CK
    clear a8 hb9 n9
    go_wp2_with fail
    refine CK.out.mono ?_
    rintro e w10 ⟨rfl, hb10⟩
    have D10 := Lib.hid (D9.out.trans (hb10.mono D9.out.size))
    have a10 := ((hb10.block _ (Array.getElem?_eq_some_iff.1 A9.out).1).trans A9.out)
    have b10 := ((hb10.block _ (Array.getElem?_eq_some_iff.1 B9.out).1).trans B9.out)
    clear hb10 hw9 m0 m1 m2 m3 m4
    have o0 : w10.cell? ⟨W.heap.size, 0, none⟩ = some (.int .i64 5) := blkp a10 0
    have o1 : w10.cell? ⟨W.heap.size, 1, none⟩ = some (.int .i64 lo) := blkp a10 1
    have o2 : w10.cell? ⟨W.heap.size, 2, none⟩ = some (.int .i64 hi) := blkp a10 2
    have o3 : w10.cell? ⟨W.heap.size, 3, none⟩ = some (.int .i64 x) := blkp a10 3
    have o4 : w10.cell? ⟨W.heap.size, 4, none⟩ = some (.int .i64 y) := blkp a10 4
    have p0 : w10.cell? ⟨w2.heap.size, 0, none⟩ = some (.int .i64 5) := blkp b10 0
    have p1 : w10.cell? ⟨w2.heap.size, 1, none⟩ = some (.int .i64 lo) := blkp b10 1
    have p2 : w10.cell? ⟨w2.heap.size, 2, none⟩ = some (.int .i64 hi) := blkp b10 2
    have p3 : w10.cell? ⟨w2.heap.size, 3, none⟩ = some (.int .i64 z) := blkp b10 3
    have p4 : w10.cell? ⟨w2.heap.size, 4, none⟩ = some (.int .i64 y) := blkp b10 4
    obtain ⟨w11, hw11⟩ : ∃ w11, w10.alloc (.cells #[.int .i64 5, .int .i64 lo, .int .i64 hi, .int .i64 x, .int .i64 y, .int .i64 5, .int .i64 lo, .int .i64 hi, .int .i64 z, .int .i64 y] 45) = w11 := ⟨_, rfl⟩
    have hb11 : Below w10.heap.size w10 w11 := by rw [← hw11]; exact (Below.refl _ _).alloc (Nat.le_refl _) _
    have n11 : w11.heap[w10.heap.size]? = some (.cells #[.int .i64 5, .int .i64 lo, .int .i64 hi, .int .i64 x, .int .i64 y, .int .i64 5, .int .i64 lo, .int .i64 hi, .int .i64 z, .int .i64 y] 45 (0, 0)) := by rw [← hw11]; exact heap_alloc_new w10 _
    have D11 := Lib.hid (D10.out.trans (hb11.mono D10.out.size))
    have CL := Lib.hid (check_any [⟨5, lo, hi, x, y⟩, ⟨5, lo, hi, z, y⟩] 0 0 _ w11 (InRow.two (a := ⟨5, lo, hi, x, y⟩) (b := ⟨5, lo, hi, z, y⟩) HBD.out ⟨HBD.out.1, HBD.out.2.1, HBD.out.2.2.1, HZ.out, HBD.out.2.2.2.2⟩ n11) (HE.out.below D11.out).ops)
    rw [chk_two HNB.out] at CL
    clear a10 b10 hb11 n11
    go_wp2_with fail
    refine CL.out.mono ?_
    rintro e w12 ⟨rfl, hb12⟩
    have D12 := Lib.hid (D11.out.trans (hb12.mono D11.out.size))
    clear hb12
    go_wp2
    go_ret
    exact ⟨rfl, D12.out⟩
  · clear c0 c1 c2 c3 c4
    have HNB : Hid (fitB ⟨6, lo, hi, z, y⟩ = false) := Lib.hid (by have := HN.out; simpa [setF] using this)
    have HNC : Hid (fitB ⟨12, lo, hi, x, y⟩ = false) := Lib.hid (by have := H6.out; simpa using this)
    obtain ⟨w3, hw3⟩ : ∃ w3, w2.alloc (.cells #[.int .i64 6, .int .i64 lo, .int .i64 hi, .int .i64 x, .int .i64 y] 45) = w3 := ⟨_, rfl⟩
    have a3 : w3.heap[W.heap.size]? = some (.cells #[.int .i64 6, .int .i64 lo, .int .i64 hi, .int .i64 x, .int .i64 y] 45 (0, 0)) := by rw [← hw3]; exact (Below.heap_alloc _ _ _ (Array.getElem?_eq_some_iff.1 HX2.out).1).trans HX2.out
    have b3 : w3.heap[w2.heap.size]? = some (.cells #[.int .i64 6, .int .i64 lo, .int .i64 hi, .int .i64 x, .int .i64 y] 45 (0, 0)) := by rw [← hw3]; exact heap_alloc_new w2 _
    have s3 : w3.heap.size = w2.heap.size + 1 := by rw [← hw3]; simp
    have hne1 : W.heap.size ≠ w2.heap.size := by have := (Array.getElem?_eq_some_iff.1 HX2.out).1; omega
    have B3 : Below W.heap.size W w3 := by rw [← hw3]; exact HB2.out.alloc HB2.out.size _
    obtain ⟨w4, hw4⟩ : ∃ w4, w3.setCell ⟨w2.heap.size, 3, none⟩ (.int .i64 z) = w4 := ⟨_, rfl⟩
    have a4 : w4.heap[W.heap.size]? = some (.cells #[.int .i64 6, .int .i64 lo, .int .i64 hi, .int .i64 x, .int .i64 y] 45 (0, 0)) := by rw [← hw4]; exact (Below.heap_setCell _ _ _ _ hne1).trans a3
    have b4 : w4.heap[w2.heap.size]? = some (.cells #[.int .i64 6, .int .i64 lo, .int .i64 hi, .int .i64 z, .int .i64 y] 45 (0, 0)) := by rw [← hw4]; exact heap_setCell_same w3 _ 3 _ _ _ b3
    have s4 : w4.heap.size = w2.heap.size + 1 := by rw [← hw4, ← s3]; simp
    have B4 : Below W.heap.size W w4 := by rw [← hw4]; exact B3.setCell (p := ⟨w2.heap.size, 3, none⟩) (by have := HB2.out.size; simpa using this) _
    obtain ⟨w5, hw5⟩ : ∃ w5, w4.alloc (.cells #[.int .i64 6, .int .i64 lo, .int .i64 hi, .int .i64 x, .int .i64 y] 45) = w5 := ⟨_, rfl⟩
    have a5 : w5.heap[W.heap.size]? = some (.cells #[.int .i64 6, .int .i64 lo, .int .i64 hi, .int .i64 x, .int .i64 y] 45 (0, 0)) := by rw [← hw5]; exact (Below.heap_alloc _ _ _ (Array.getElem?_eq_some_iff.1 a4).1).trans a4
    have b5 : w5.heap[w2.heap.size]? = some (.cells #[.int .i64 6, .int .i64 lo, .int .i64 hi, .int .i64 z, .int .i64 y] 45 (0, 0)) := by rw [← hw5]; exact (Below.heap_alloc _ _ _ (Array.getElem?_eq_some_iff.1 b4).1).trans b4
    have c5 : w5.heap[w4.heap.size]? = some (.cells #[.int .i64 6, .int .i64 lo, .int .i64 hi, .int .i64 x, .int .i64 y] 45 (0, 0)) := by rw [← hw5]; exact heap_alloc_new w4 _
    have B5 : Below W.heap.size W w5 := by rw [← hw5]; exact B4.alloc B4.size _
    have hne2 : w2.heap.size ≠ w4.heap.size := by omega
    have hne3 : W.heap.size ≠ w4.heap.size := by have := HB2.out.size; omega
    obtain ⟨w6, hw6⟩ : ∃ w6, w5.setCell ⟨w4.heap.size, 0, none⟩ (.int .i64 12) = w6 := ⟨_, rfl⟩
    have a6 : w6.heap[W.heap.size]? = some (.cells #[.int .i64 6, .int .i64 lo, .int .i64 hi, .int .i64 x, .int .i64 y] 45 (0, 0)) := by rw [← hw6]; exact (Below.heap_setCell _ _ _ _ hne3).trans a5
    have b6 : w6.heap[w2.heap.size]? = some (.cells #[.int .i64 6, .int .i64 lo, .int .i64 hi, .int .i64 z, .int .i64 y] 45 (0, 0)) := by rw [← hw6]; exact (Below.heap_setCell _ _ _ _ hne2).trans b5
    have c6 : w6.heap[w4.heap.size]? = some (.cells #[.int .i64 12, .int .i64 lo, .int .i64 hi, .int .i64 x, .int .i64 y] 45 (0, 0)) := by rw [← hw6]; exact heap_setCell_same w5 _ 0 _ _ _ c5
    have B6 : Below W.heap.size W w6 := by rw [← hw6]; exact B5.setCell (p := ⟨w4.heap.size, 0, none⟩) (by have := B4.size; simpa using this) _
    have e0 : w2.cell? ⟨W.heap.size, 0, none⟩ = some (.int .i64 6) := blkp HX2.out 0
    have e1 : w2.cell? ⟨W.heap.size, 1, none⟩ = some (.int .i64 lo) := blkp HX2.out 1
    have e2 : w2.cell? ⟨W.heap.size, 2, none⟩ = some (.int .i64 hi) := blkp HX2.out 2
    have e3 : w2.cell? ⟨W.heap.size, 3, none⟩ = some (.int .i64 x) := blkp HX2.out 3
    have e4 : w2.cell? ⟨W.heap.size, 4, none⟩ = some (.int .i64 y) := blkp HX2.out 4
    have g0 : w3.cell? ⟨W.heap.size, 0, none⟩ = some (.int .i64 6) := blkp a3 0
    have g1 : w3.cell? ⟨w2.heap.size, 3, none⟩ = some (.int .i64 x) := blkp b3 3
    have g2 := frzp b3 3
    have h0 : w4.cell? ⟨W.heap.size, 0, none⟩ = some (.int .i64 6) := blkp a4 0
    have h1 : w4.cell? ⟨W.heap.size, 1, none⟩ = some (.int .i64 lo) := blkp a4 1
    have h2 : w4.cell? ⟨W.heap.size, 2, none⟩ = some (.int .i64 hi) := blkp a4 2
    have h3 : w4.cell? ⟨W.heap.size, 3, none⟩ = some (.int .i64 x) := blkp a4 3
    have h4 : w4.cell? ⟨W.heap.size, 4, none⟩ = some (.int .i64 y) := blkp a4 4
    have j0 : w5.cell? ⟨w4.heap.size, 0, none⟩ = some (.int .i64 6) := blkp c5 0
    have j1 := frzp c5 0
    have k0 : w6.cell? ⟨w2.heap.size, 0, none⟩ = some (.int .i64 6) := blkp b6 0
    have k1 : w6.cell? ⟨w2.heap.size, 1, none⟩ = some (.int .i64 lo) := blkp b6 1
    have k2 : w6.cell? ⟨w2.heap.size, 2, none⟩ = some (.int .i64 hi) := blkp b6 2
    have k3 : w6.cell? ⟨w2.heap.size, 3, none⟩ = some (.int .i64 z) := blkp b6 3
    have k4 : w6.cell? ⟨w2.heap.size, 4, none⟩ = some (.int .i64 y) := blkp b6 4
    have A6 := Lib.hid a6
    have B6' := Lib.hid b6
    have C6 := Lib.hid c6
    have D6 := Lib.hid B6
    clear a3 b3 s3 a4 b4 s4 a5 b5 c5 a6 b6 c6 B3 B4 B5 B6 hne1 hne2 hne3
    go_wp2_with fail
    refine (HF.out ⟨6, lo, hi, z, y⟩ w6 (HE.out.below D6.out).ops).mono ?_
    rintro e w7 ⟨rfl, hb7⟩
    rw [HNB.out]
    have D7 := Lib.hid (D6.out.trans (hb7.mono D6.out.size))
    have A7 := Lib.hid ((hb7.block _ (Array.getElem?_eq_some_iff.1 A6.out).1).trans A6.out)
    have B7 := Lib.hid ((hb7.block _ (Array.getElem?_eq_some_iff.1 B6'.out).1).trans B6'.out)
    have c7 := ((hb7.block _ (Array.getElem?_eq_some_iff.1 C6.out).1).trans C6.out)
    clear hb7 hw3 hw4 hw5 hw6 g2 j1 e0 e1 e2 e3 e4 g0 g1 h0 h1 h2 h3 h4 j0 k0 k1 k2 k3 k4
    have l0 : w7.cell? ⟨w4.heap.size, 0, none⟩ = some (.int .i64 12) := blkp c7 0
    have l1 : w7.cell? ⟨w4.heap.size, 1, none⟩ = some (.int .i64 lo) := blkp c7 1
    have l2 : w7.cell? ⟨w4.heap.size, 2, none⟩ = some (.int .i64 hi) := blkp c7 2
    have l3 : w7.cell? ⟨w4.heap.size, 3, none⟩ = some (.int .i64 x) := blkp c7 3
    have l4 : w7.cell? ⟨w4.heap.size, 4, none⟩ = some (.int .i64 y) := blkp c7 4
    go_wp2_with fail
    refine (HF.out ⟨12, lo, hi, x, y⟩ w7 (HE.out.below D7.out).ops).mono ?_
    rintro e w8 ⟨rfl, hb8⟩
    rw [HNC.out]
    have D8 := Lib.hid (D7.out.trans (hb8.mono D7.out.size))
    have a8 := ((hb8.block _ (Array.getElem?_eq_some_iff.1 A7.out).1).trans A7.out)
    have A8 := Lib.hid a8
    have B8 := Lib.hid ((hb8.block _ (Array.getElem?_eq_some_iff.1 B7.out).1).trans B7.out)
    clear hb8 c7 l0 l1 l2 l3 l4
    have m0 : w8.cell? ⟨W.heap.size, 0, none⟩ = some (.int .i64 6) := blkp a8 0
    have m1 : w8.cell? ⟨W.heap.size, 1, none⟩ = some (.int .i64 lo) := blkp a8 1
    have m2 : w8.cell? ⟨W.heap.size, 2, none⟩ = some (.int .i64 hi) := blkp a8 2
    have m3 : w8.cell? ⟨W.heap.size, 3, none⟩ = some (.int .i64 x) := blkp a8 3
    have m4 : w8.cell? ⟨W.heap.size, 4, none⟩ = some (.int .i64 y) := blkp a8 4
    obtain ⟨w9, hw9⟩ : ∃ w9, w8.alloc (.cells #[.int .i64 6, .int .i64 lo, .int .i64 hi, .int .i64 x, .int .i64 y] 45) = w9 := ⟨_, rfl⟩
    have hb9 : Below w8.heap.size w8 w9 := by rw [← hw9]; exact (Below.refl _ _).alloc (Nat.le_refl _) _
    have n9 : w9.heap[w8.heap.size]? = some (.cells #[.int .i64 6, .int .i64 lo, .int .i64 hi, .int .i64 x, .int .i64 y] 45 (0, 0)) := by rw [← hw9]; exact heap_alloc_new w8 _
    have D9 := Lib.hid (D8.out.trans (hb9.mono D8.out.size))
    have A9 := Lib.hid ((hb9.block _ (Array.getElem?_eq_some_iff.1 A8.out).1).trans A8.out)
    have B9 := Lib.hid ((hb9.block _ (Array.getElem?_eq_some_iff.1 B8.out).1).trans B8.out)
    have CK := Lib.hid (check_any [⟨6, lo, hi, x, y⟩] 0 0 _ w9 (InRow.one (a := ⟨6, lo, hi, x, y⟩) HBD.out n9) (HE.out.below D9.out).ops)
    rw [HC1.out] at CK
    clear a8 hb9 n9
    go_wp2_with fail
    refine CK.out.mono ?_
    rintro e w10 ⟨rfl, hb10⟩
    have D10 := Lib.hid (D9.out.trans (hb10.mono D9.out.size))
    have a10 := ((hb10.block _ (Array.getElem?_eq_some_iff.1 A9.out).1).trans A9.out)
    have b10 := ((hb10.block _ (Array.getElem?_eq_some_iff.1 B9.out).1).trans B9.out)
    clear hb10 hw9 m0 m1 m2 m3 m4
    have o0 : w10.cell? ⟨W.heap.size, 0, none⟩ = some (.int .i64 6) := blkp a10 0
    have o1 : w10.cell? ⟨W.heap.size, 1, none⟩ = some (.int .i64 lo) := blkp a10 1
    have o2 : w10.cell? ⟨W.heap.size, 2, none⟩ = some (.int .i64 hi) := blkp a10 2
    have o3 : w10.cell? ⟨W.heap.size, 3, none⟩ = some (.int .i64 x) := blkp a10 3
    have o4 : w10.cell? ⟨W.heap.size, 4, none⟩ = some (.int .i64 y) := blkp a10 4
    have p0 : w10.cell? ⟨w2.heap.size, 0, none⟩ = some (.int .i64 6) := blkp b10 0
    have p1 : w10.cell? ⟨w2.heap.size, 1, none⟩ = some (.int .i64 lo) := blkp b10 1
    have p2 : w10.cell? ⟨w2.heap.size, 2, none⟩ = some (.int .i64 hi) := blkp b10 2
    have p3 : w10.cell? ⟨w2.heap.size, 3, none⟩ = some (.int .i64 z) := blkp b10 3
    have p4 : w10.cell? ⟨w2.heap.size, 4, none⟩ = some (.int .i64 y) := blkp b10 4
    obtain ⟨w11, hw11⟩ : ∃ w11, w10.alloc (.cells #[.int .i64 6, .int .i64 lo, .int .i64 hi, .int .i64 x, .int .i64 y, .int .i64 6, .int .i64 lo, .int .i64 hi, .int .i64 z, .int .i64 y] 45) = w11 := ⟨_, rfl⟩
    have hb11 : Below w10.heap.size w10 w11 := by rw [← hw11]; exact (Below.refl _ _).alloc (Nat.le_refl _) _
    have n11 : w11.heap[w10.heap.size]? = some (.cells #[.int .i64 6, .int .i64 lo, .int .i64 hi, .int .i64 x, .int .i64 y, .int .i64 6, .int .i64 lo, .int .i64 hi, .int .i64 z, .int .i64 y] 45 (0, 0)) := by rw [← hw11]; exact heap_alloc_new w10 _
    have D11 := Lib.hid (D10.out.trans (hb11.mono D10.out.size))
    have CL := Lib.hid (check_any [⟨6, lo, hi, x, y⟩, ⟨6, lo, hi, z, y⟩] 0 0 _ w11 (InRow.two (a := ⟨6, lo, hi, x, y⟩) (b := ⟨6, lo, hi, z, y⟩) HBD.out ⟨HBD.out.1, HBD.out.2.1, HBD.out.2.2.1, HZ.out, HBD.out.2.2.2.2⟩ n11) (HE.out.below D11.out).ops)
    rw [chk_two HNB.out] at CL
    clear a10 b10 hb11 n11
    go_wp2_with fail
    refine CL.out.mono ?_
    rintro e w12 ⟨rfl, hb12⟩
    have D12 := Lib.hid (D11.out.trans (hb12.mono D11.out.size))
    clear hb12
    go_wp2
    go_ret
    exact ⟨rfl, D12.out⟩
end Pgm
end Go.Proofs.YtgonfbfagcajcaaDoor
