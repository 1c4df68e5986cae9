/- burinlaw15.WireShort: the walk. -/
import Derived.Test.YtfnimmbmcjgdpaaDoorGp26
namespace Go.Proofs.YtfnimmbmcjgdpaaDoor
open Go.RowKit
set_option linter.unusedVariables false
namespace Pgm
set_option maxRecDepth 100000 in
set_option maxHeartbeats 8000000 in
theorem walkWireShort (W : World) (u : Value) (l : List In) (st sl : Int) (hr : InRow W u l) (hst : I64 st) (hsl : I64 sl) (hE : EvO W) :
    Calls Tryd.prog 9 #[.agg #[u, .int .i64 st, .int .i64 sl]] W fun e w' => e = .returned (.bool true) ∧ Below W.heap.size W w' := by
  obtain ⟨A1, k1, e1, hl⟩ := (show ∃ A k, u = .slice A l.length k ∧ l.length ≤ 3518437208883 from by obtain ⟨A, k, e, hl, _⟩ := hr; exact ⟨A, k, e, hl⟩)
  obtain ⟨n, hn⟩ : ∃ n, l.length = n := ⟨_, rfl⟩
  rw [hn] at e1 hl
  subst e1
  obtain ⟨w0, hw0⟩ : ∃ w0, W.alloc (.cells #[.slice A1 n k1, .int .i64 st, .int .i64 sl] 46) = w0 := ⟨_, rfl⟩
  have hb0 : Below W.heap.size W w0 := by rw [← hw0]; exact (Below.refl _ _).alloc (Nat.le_refl _) _
  have hx0 : w0.heap[W.heap.size]? = some (.cells #[.slice A1 n k1, .int .i64 st, .int .i64 sl] 46 (0, 0)) := by rw [← hw0]; exact heap_alloc_new W _
  have HW0 := Lib.hid hw0
  have HB0 := Lib.hid hb0
  have HX0 := Lib.hid hx0
  have HWK := Lib.hid (works15_any w0 (hE.below (Nat.le_refl _) hb0))
  have HEP : Hid (∀ w, Below W.heap.size W w → Calls Tryd.prog 26 #[.agg #[.slice A1 n k1, .int .i64 st, .int .i64 sl]] w fun e w' => e = .returned (.tuple #[.string (encS l st sl), .int .i64 (chk l st sl)]) ∧ Below w.heap.size w w') := Lib.hid (fun w h => encode15 l st sl _ w (hr.below (Nat.le_refl _) h) (hE.below (Nat.le_refl _) h))
  have hch : (∃ T : ByteArray, encS l st sl = T ∧ chk l st sl = 0 ∧ n + 7 ≤ T.size ∧ T.size ≤ 7 * n + 10) ∨ chk l st sl = 130 := by
    by_cases hok : Ok l st sl
    · have h1 := enc_len l st sl
      rw [hn] at h1
      exact .inl ⟨_, enc_ok hok, chk_ok hok, by rw [txB_size]; omega, by rw [txB_size]; omega⟩
    · exact .inr (chk_not hok)
  have HCH := Lib.hid hch
  clear hb0 hx0 hw0 hE hr hst hsl hch
  have n0 : (0 : Int) ≤ (n : Int) := by omega
  by_cases hn5 : (5000 : Int) < (n : Int)
  · go_enter Tryd.func9, Tryd.ntmps9
    go_wp2_with (rw [HW0.out])
    refine HWK.out.mono ?_
    rintro e w1 ⟨rfl, hb1⟩
    have HB1 := Lib.hid (HB0.out.trans (hb1.mono HB0.out.size))
    have c0 : w1.cell? ⟨W.heap.size, 0, none⟩ = some (.slice A1 n k1) := blkp ((hb1.block _ (Array.getElem?_eq_some_iff.1 HX0.out).1).trans HX0.out) 0
    clear hb1
    go_wp2
    go_ret
    exact ⟨rfl, HB1.out⟩
  have hn6 : n ≤ 5000 := by omega
  go_enter Tryd.func9, Tryd.ntmps9
  go_wp2_with (rw [HW0.out])
  refine HWK.out.mono ?_
  rintro e w1 ⟨rfl, hb1⟩
  have HB1 := Lib.hid (HB0.out.trans (hb1.mono HB0.out.size))
  have hx1 := (hb1.block _ (Array.getElem?_eq_some_iff.1 HX0.out).1).trans HX0.out
  have HX1 := Lib.hid hx1
  have c0 : w1.cell? ⟨W.heap.size, 0, none⟩ = some (.slice A1 n k1) := blkp hx1 0
  have c1 : w1.cell? ⟨W.heap.size, 1, none⟩ = some (.int .i64 st) := blkp hx1 1
  have c2 : w1.cell? ⟨W.heap.size, 2, none⟩ = some (.int .i64 sl) := blkp hx1 2
  clear hb1 hx1
  go_wp2_with fail
  rcases HCH.out with ⟨T, h1, h2, h3, h4⟩ | h2
  · have HE1 := Lib.hid (HEP.out w1 HB1.out)
    rw [h1, h2] at HE1
    clear h1 h2
    refine HE1.out.mono ?_
    rintro e w2 ⟨rfl, hb2⟩
    have HB2 := Lib.hid (HB1.out.trans (hb2.mono HB1.out.size))
    have d0 : w2.cell? ⟨W.heap.size, 0, none⟩ = some (.slice A1 n k1) := blkp ((hb2.block _ (Array.getElem?_eq_some_iff.1 HX1.out).1).trans HX1.out) 0
    have m1 : IntKind.i64.wrap (10 * (n : Int)) = 10 * (n : Int) := by rw [IntKind.wrap_i64]; omega
    have m2 : IntKind.i64.wrap (10 * (n : Int) + 10) = 10 * (n : Int) + 10 := by rw [IntKind.wrap_i64]; omega
    have m3 : IntKind.i64.wrap ((n : Int) + 6) = (n : Int) + 6 := by rw [IntKind.wrap_i64]; omega
    have t1 : (T.size : Int) ≤ 10 * (n : Int) + 10 := by omega
    have t2 : (n : Int) + 6 < (T.size : Int) := by omega
    have t3 : n + 6 < T.size := by omega
    have t4 : T.size ≤ 10 * n + 10 := by omega
    clear hb2 c0 c1 c2
    go_wp2
    go_ret
    exact ⟨rfl, HB2.out⟩
  · have HE1 := Lib.hid (HEP.out w1 HB1.out)
    obtain ⟨T, h1⟩ : ∃ T, encS l st sl = T := ⟨_, rfl⟩
    rw [h1, h2] at HE1
    clear h1 h2
    refine HE1.out.mono ?_
    rintro e w2 ⟨rfl, hb2⟩
    have HB2 := Lib.hid (HB1.out.trans (hb2.mono HB1.out.size))
    clear hb2 c0 c1 c2
    go_wp2
    go_ret
    exact ⟨rfl, HB2.out⟩
end Pgm
end Go.Proofs.YtfnimmbmcjgdpaaDoor
