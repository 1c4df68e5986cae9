/- burinlaw15.works. -/
import Derived.Test.YtfnimmbmcjgdpaaDoorGp21
import Derived.Test.YtfnimmbmcjgdpaaDoorGp25
import Derived.Test.YtfnimmbmcjgdpaaDoorGp9
namespace Go.Proofs.YtfnimmbmcjgdpaaDoor
open Go.RowKit
set_option linter.unusedVariables false
namespace Pgm
theorem dec_yes (W : World) (X : ByteArray) (hz : X.size ≤ 700000) (hE : EvO W) {l : List In} {st sl : Int} (hn : decL X.data.toList = some (l, st, sl)) : Calls Tryd.prog 28 #[.string X] W fun e w' => ∃ v, e = .returned (.tuple #[.agg #[v, .int .i64 st, .int .i64 sl], .int .i64 0]) ∧ InOwn w' W.heap.size v l ∧ Below W.heap.size W w' :=
  (decode15 W X hz hE).mono fun e w' ⟨h, hb⟩ => by
    rw [hn] at h
    rcases h with ⟨v, l3, st3, sl3, h1, h2, h3⟩ | ⟨h1, _⟩
    · injection h1 with h1; injection h1 with h1 h4; injection h4 with h4 h5
      subst h1; subst h4; subst h5
      exact ⟨v, h2, h3, hb⟩
    · cases h1
theorem dec_nay (W : World) (X : ByteArray) (hz : X.size ≤ 700000) (hE : EvO W) (hn : decL X.data.toList = none) : Calls Tryd.prog 28 #[.string X] W fun e w' => e = .returned (.tuple #[.agg #[.slice none 0 0, .int .i64 0, .int .i64 0], .int .i64 140]) ∧ Below W.heap.size W w' :=
  (decode15 W X hz hE).mono fun e w' ⟨h, hb⟩ => by
    rw [hn] at h
    rcases h with ⟨v, l3, st3, sl3, h1, h2, h3⟩ | ⟨_, h2⟩
    · cases h1
    · exact ⟨h2, hb⟩
def wk15L : List In := [⟨2, 0, 0, 300, 1⟩, ⟨5, 0, 0, 0, 0⟩]
theorem wk15_ok : Ok wk15L 0 2 := by
  refine ⟨by decide, by decide, by decide, by decide, by decide, by decide, ?_⟩
  rw [List.all_eq_true]
  intro i hi
  simp only [wk15L, List.mem_cons, List.not_mem_nil, or_false] at hi
  rcases hi with rfl | rfl <;> decide
theorem wk15_body : bodyW wk15L 0 2 = [66, 82, 49, 0, 2, 2, 2, 172, 2, 1, 5] := by decide +kernel
theorem wk15_enc : encL wk15L 0 2 = [66, 82, 49, 0, 2, 2, 2, 172, 2, 1, 5] ++ [xorL [66, 82, 49, 0, 2, 2, 2, 172, 2, 1, 5]] := by unfold encL; rw [wk15_body]
theorem wk15_ext : (txB (encL wk15L 0 2)).extract 0 11 = (⟨#[66, 82, 49, 0, 2, 2, 2, 172, 2, 1, 5]⟩ : ByteArray) := by rw [wk15_enc]; decide +kernel
theorem wk15_size : (txB (encL wk15L 0 2)).size = 12 := by rw [wk15_enc]; decide +kernel
theorem wk15_none : decL (⟨#[66, 82, 49]⟩ : ByteArray).data.toList = none := by decide +kernel
set_option maxRecDepth 100000 in
set_option maxHeartbeats 8000000 in
theorem works15_any (W : World) (hE : EvO W) : Calls Tryd.prog 25 #[] W fun e w' => e = .returned (.bool true) ∧ Below W.heap.size W w' := by
  obtain ⟨W1, hW1⟩ : ∃ W1, W.alloc (.cells #[.int .i64 2, .int .i64 0, .int .i64 0, .int .i64 300, .int .i64 1, .int .i64 5, .int .i64 0, .int .i64 0, .int .i64 0, .int .i64 0] 81) = W1 := ⟨_, rfl⟩
  have hx1 : W1.heap[W.heap.size]? = some (.cells #[.int .i64 2, .int .i64 0, .int .i64 0, .int .i64 300, .int .i64 1, .int .i64 5, .int .i64 0, .int .i64 0, .int .i64 0, .int .i64 0] 81 (0, 0)) := by rw [← hW1]; exact heap_alloc_new W _
  have hs1 : W1.heap.size = W.heap.size + 1 := by rw [← hW1]; simp
  have hb1 : Below W.heap.size W W1 := by rw [← hW1]; exact (Below.refl _ _).alloc (Nat.le_refl _) _
  obtain ⟨W2, hW2⟩ : ∃ W2, W1.alloc (.cells #[.slice (some ⟨W.heap.size, 0, none⟩) 2 2, .int .i64 0, .int .i64 2] 46) = W2 := ⟨_, rfl⟩
  have hx2 : W2.heap[W.heap.size]? = some (.cells #[.int .i64 2, .int .i64 0, .int .i64 0, .int .i64 300, .int .i64 1, .int .i64 5, .int .i64 0, .int .i64 0, .int .i64 0, .int .i64 0] 81 (0, 0)) := by rw [← hW2]; exact (Below.heap_alloc _ _ _ (by omega)).trans hx1
  have hy2 : W2.heap[W.heap.size + 1]? = some (.cells #[.slice (some ⟨W.heap.size, 0, none⟩) 2 2, .int .i64 0, .int .i64 2] 46 (0, 0)) := by rw [← hW2, ← hs1]; exact heap_alloc_new W1 _
  have hb2 : Below W.heap.size W W2 := by rw [← hW2]; exact hb1.alloc (by omega) _
  have hr2 : InRow W2 (.slice (some ⟨W.heap.size, 0, none⟩) 2 2) wk15L := by
    have z0 : I64 (0 : Int) := ⟨by decide, by decide⟩
    refine ⟨_, _, rfl, by decide, ?_, fun j hj => ⟨W.heap.size, 0, rfl, (Array.getElem?_eq_some_iff.1 hx2).1, fun q hq => ?_⟩⟩
    · intro i hi
      simp only [wk15L, List.mem_cons, List.not_mem_nil, or_false] at hi
      rcases hi with rfl | rfl <;> exact ⟨⟨by decide, by decide⟩, ⟨by decide, by decide⟩, ⟨by decide, by decide⟩, ⟨by decide, by decide⟩, ⟨by decide, by decide⟩⟩
    · rw [blkp hx2]
      have h2 : j = 0 ∨ j = 1 := by simp [wk15L] at hj; omega
      have h5 : q = 0 ∨ q = 1 ∨ q = 2 ∨ q = 3 ∨ q = 4 := by omega
      rcases h2 with rfl | rfl <;> rcases h5 with rfl | rfl | rfl | rfl | rfl <;> rfl
  have HEN := Lib.hid (encode15 wk15L 0 2 _ W2 hr2 (hE.below (Nat.le_refl _) hb2))
  rw [chk_ok wk15_ok, enc_ok wk15_ok] at HEN
  have HDE := Lib.hid (fun w h => dec_yes w (txB (encL wk15L 0 2)) (by rw [wk15_size]; omega) h (l := wk15L) (st := 0) (sl := 2) (by rw [txB_list]; exact dec_enc wk15_ok))
  have HDN := Lib.hid (fun w h => dec_nay w ⟨#[66, 82, 49]⟩ (by decide) h wk15_none)
  have hsz := wk15_size
  have hext := wk15_ext
  obtain ⟨T, hT⟩ : ∃ T, txB (encL wk15L 0 2) = T := ⟨_, rfl⟩
  rw [hT] at HEN HDE hsz hext
  have HE2 := Lib.hid (hE.below (Nat.le_refl _) hb2)
  have HR2 := Lib.hid hr2
  have HB2 := Lib.hid hb2
  have HY2 := Lib.hid hy2
  have HW2 := Lib.hid hW2
  have HW1 := Lib.hid hW1
  have c0 : W2.cell? ⟨W.heap.size + 1, 0, none⟩ = some (.slice (some ⟨W.heap.size, 0, none⟩) 2 2) := blkp hy2 0
  have c1 : W2.cell? ⟨W.heap.size + 1, 1, none⟩ = some (.int .i64 0) := blkp hy2 1
  have c2 : W2.cell? ⟨W.heap.size + 1, 2, none⟩ = some (.int .i64 2) := blkp hy2 2
  clear hE hx1 hs1 hb1 hx2 hy2 hb2 hr2 hT hW1 hW2
  go_enter Tryd.func25, Tryd.ntmps25
  go_wp2_with fail
  rw [HW1.out, HW2.out]
  refine HEN.out.mono ?_
  rintro e w3 ⟨rfl, hb3⟩
  have HB3 := Lib.hid hb3
  clear hb3 c0 c1 c2
  go_wp2_with fail
  refine (HDE.out w3 (HE2.out.below (Nat.le_refl _) HB3.out)).mono ?_
  rintro e w4 ⟨v, rfl, ho4, hb4⟩
  obtain ⟨a9, c9, e9⟩ := ho4.slice
  have hL2 : wk15L.length = 2 := rfl
  rw [hL2] at e9
  subst e9
  have HB4 := Lib.hid (HB3.out.trans (hb4.mono HB3.out.size))
  have HO4 := Lib.hid ho4
  clear ho4 hb4 hL2
  go_wp2_with fail
  obtain ⟨w5, hw5⟩ : ∃ w5, w4.alloc (.cells #[.slice a9 2 c9, .int .i64 0, .int .i64 2] 46) = w5 := ⟨_, rfl⟩
  have hb5 : Below w4.heap.size w4 w5 := by rw [← hw5]; exact (Below.refl _ _).alloc (Nat.le_refl _) _
  have hx5 : w5.heap[w4.heap.size]? = some (.cells #[.slice a9 2 c9, .int .i64 0, .int .i64 2] 46 (0, 0)) := by rw [← hw5]; exact heap_alloc_new w4 _
  have HB5 := Lib.hid (HB4.out.trans (hb5.mono HB4.out.size))
  have HO5 := Lib.hid (HO4.out.below hb5 (Nat.le_refl _))
  have HX5 := Lib.hid hx5
  rw [hw5]
  clear hw5 hb5 hx5
  refine (HDN.out w5 (HE2.out.below (Nat.le_refl _) HB5.out)).mono ?_
  rintro e w6 ⟨rfl, hb6⟩
  have HB6 := Lib.hid (HB5.out.trans (hb6.mono HB5.out.size))
  have HO6 := Lib.hid (HO5.out.below hb6 (Nat.le_refl _))
  have HX6 := Lib.hid ((hb6.block _ (Array.getElem?_eq_some_iff.1 HX5.out).1).trans HX5.out)
  obtain ⟨w7, hw7⟩ : ∃ w7, w6.alloc (.cells #[.slice none 0 0, .int .i64 0, .int .i64 0] 46) = w7 := ⟨_, rfl⟩
  have hb7 : Below w6.heap.size w6 w7 := by rw [← hw7]; exact (Below.refl _ _).alloc (Nat.le_refl _) _
  have HB7 := Lib.hid (HB6.out.trans (hb7.mono HB6.out.size))
  have ho7 := HO6.out.below hb7 (Nat.le_refl _)
  have hx7 := HX6.out
  have hy7 := (HB6.out.block _ (Array.getElem?_eq_some_iff.1 HY2.out).1).trans HY2.out
  have hl4 := (Array.getElem?_eq_some_iff.1 hx7).1
  have hlW := (Array.getElem?_eq_some_iff.1 hy7).1
  have c0 : w6.cell? ⟨W.heap.size + 1, 0, none⟩ = some (.slice (some ⟨W.heap.size, 0, none⟩) 2 2) := blkp hy7 0
  have c1 : w6.cell? ⟨W.heap.size + 1, 1, none⟩ = some (.int .i64 0) := blkp hy7 1
  have c2 : w6.cell? ⟨W.heap.size + 1, 2, none⟩ = some (.int .i64 2) := blkp hy7 2
  have d0 : w6.cell? ⟨w4.heap.size, 0, none⟩ = some (.slice a9 2 c9) := blkp hx7 0
  have d1 : w6.cell? ⟨w4.heap.size, 1, none⟩ = some (.int .i64 0) := blkp hx7 1
  have d2 : w6.cell? ⟨w4.heap.size, 2, none⟩ = some (.int .i64 2) := blkp hx7 2
  have HSP := Lib.hid (sameProg_any w7 _ _ wk15L wk15L 0 2 0 2 (HR2.out.below (Nat.le_refl _) HB7.out) (ho7.row (by decide) (fun i hi => by
    simp only [wk15L, List.mem_cons, List.not_mem_nil, or_false] at hi
    rcases hi with rfl | rfl <;> exact ⟨⟨by decide, by decide⟩, ⟨by decide, by decide⟩, ⟨by decide, by decide⟩, ⟨by decide, by decide⟩, ⟨by decide, by decide⟩⟩)))
  rw [decide_eq_true (show (0 : Int) = 0 ∧ (2 : Int) = 2 ∧ wk15L = wk15L from ⟨rfl, rfl, rfl⟩)] at HSP
  have hle : (11 : Int) ≤ (T.size : Int) := by omega
  have HW7 := Lib.hid hw7
  clear hb6 hb7 ho7 hx7 hy7 hw7
  go_wp2_with fail
  rw [HW7.out]
  refine HSP.out.mono ?_
  rintro e w8 ⟨rfl, hb8⟩
  have HB8 := Lib.hid (HB2.out.trans ((HB7.out.trans (hb8.mono HB7.out.size)).mono HB2.out.size))
  clear hb8 c0 c1 c2 d0 d1 d2
  go_wp2
  go_ret
  exact ⟨rfl, HB8.out⟩
end Pgm
end Go.Proofs.YtfnimmbmcjgdpaaDoor
