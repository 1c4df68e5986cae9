/- burinlaw16.VerifyChecks: the walk. -/
import Derived.Test.YtchcjinaagncjaaDoorGp31
import Derived.Deep.RegionHeld3
namespace Go.Proofs.YtchcjinaagncjaaDoor
open Go.RowKit
set_option linter.unusedVariables false
set_option linter.unusedSimpArgs false
namespace Pgm
set_option maxRecDepth 100000 in
set_option maxHeartbeats 16000000 in
theorem walkVerifyChecks (W : World) (u : Value) (l : List In) (st sl : Int) (at_ : Int) (hr : InRow W u l) (hst : I64 st) (hsl : I64 sl) (hat : (Lit.int .i64 at_).wf = true) (hE : EvV W) :
    Calls Tryd.prog 5 #[.agg #[u, .int .i64 st, .int .i64 sl], .int .i64 at_] W fun e w' => e = .returned (.bool true) ∧ Below W.heap.size W w' := by
  have HRW : Hid (∀ w, Below W.heap.size W w → InRow w u l) := Lib.hid (fun w h => hr.below (Nat.le_refl _) h)
  have HEV : Hid (∀ w, Below W.heap.size W w → EvV w) := Lib.hid (fun w h => hE.below (Nat.le_refl _) h)
  have HWK : Hid (∀ w, Below W.heap.size W w → Calls Tryd.prog 17 #[] w fun e w' => e = .returned (.bool true) ∧ Below w.heap.size w w') := Lib.hid (fun w h => works16_any w (hE.below (Nat.le_refl _) h))
  obtain ⟨a, cap, e0, hlm, hbd, hcc⟩ := (show ∃ a cap, u = .slice a l.length cap ∧ _ from hr)
  obtain ⟨n, hn⟩ : ∃ n, l.length = n := ⟨_, rfl⟩
  rw [hn] at e0
  subst e0
  obtain ⟨W1, hW1⟩ : ∃ W1, W.alloc (.cells #[.slice a n cap, .int .i64 st, .int .i64 sl] 46) = W1 := ⟨_, rfl⟩
  have hx1 : W1.heap[W.heap.size]? = some (.cells #[.slice a n cap, .int .i64 st, .int .i64 sl] 46 (0, 0)) := by rw [← hW1]; exact heap_alloc_new W _
  have hs1 : W1.heap.size = W.heap.size + 1 := by rw [← hW1]; simp
  have hb1 : Below W.heap.size W W1 := by rw [← hW1]; exact (Below.refl _ _).alloc (Nat.le_refl _) _
  have c0 := blkp hx1 0
  have c1 := blkp hx1 1
  have c2 := blkp hx1 2
  simp only [List.getElem?_toArray, List.getElem?_cons_zero, List.getElem?_cons_succ] at c0 c1 c2
  have HX1 := Lib.hid hx1
  have HB1 := Lib.hid hb1
  have HW1 := Lib.hid hW1
  have HN := Lib.hid hn
  have HSZ : Hid (∀ w, Below W.heap.size W w → W.heap.size ≤ w.heap.size) := Lib.hid (fun w h => h.size)
  have n0 : (0 : Int) ≤ (n : Int) := by omega
  rw [hn] at hlm
  by_cases hmid : 40 < n ∧ n ≤ 4000
  · have g1 : (40 : Int) < (n : Int) := by omega
    have g2 : (n : Int) ≤ 4000 := by omega
    have HK1 := Lib.hid (HWK.out W1 hb1)
    clear hmid hr hE hn hW1 hx1 hb1 hs1 hcc hbd
    go_enter Tryd.func5, Tryd.ntmps5
    go_wp2_with fail
    rw [HW1.out]
    refine HK1.out.mono ?_
    rintro e w2 ⟨rfl, hb2⟩
    have HB2 := Lib.hid (HB1.out.trans (hb2.mono HB1.out.size))
    clear hb2 c0 c1 c2
    go_wp2
    go_ret
    exact ⟨rfl, HB2.out⟩
  obtain ⟨W2, hW2⟩ : ∃ W2, W1.alloc (.cells #[.slice a n cap, .int .i64 st, .int .i64 sl] 46) = W2 := ⟨_, rfl⟩
  have hs2 : W2.heap.size = W.heap.size + 1 + 1 := by rw [← hW2]; simp [hs1]
  have hb2 : Below W1.heap.size W1 W2 := by rw [← hW2]; exact (Below.refl _ _).alloc (Nat.le_refl _) _
  have hx2 := (hb2.block W.heap.size (by omega)).trans hx1
  have hy2 : W2.heap[W.heap.size + 1]? = some (.cells #[.slice a n cap, .int .i64 st, .int .i64 sl] 46 (0, 0)) := by rw [← hW2, ← hs1]; exact heap_alloc_new W1 _
  have hbb2 : Below W.heap.size W W2 := hb1.trans (hb2.mono (by omega))
  have HW2 := Lib.hid hW2
  have own : ∃ gv W4, (Builtin.append_ #[44, 44] 44 #[.slice (some ⟨W.heap.size + 1 + 1, 0, none⟩) 0 0, .slice a n cap]).run Tryd.prog (W2.alloc (.cells #[] 60)) = .ok gv W4 ∧ InOwn W4 (W.heap.size + 1 + 1) gv l ∧ Below (W.heap.size + 1 + 1) W2 W4 := by
    by_cases h1 : 1 ≤ n
    · obtain ⟨gg, cap2, W4, h1, h2, h3⟩ := app_all l _ W2 (HRW.out W2 hbb2) (by omega)
      rw [hs2] at h1 h2 h3
      exact ⟨_, W4, h1, h2, h3⟩
    · obtain rfl : n = 0 := by omega
      have hl0 : l = [] := List.eq_nil_of_length_eq_zero hn
      subst hl0
      obtain ⟨i0, hi, hz0, hz1, hz2⟩ := info_parts infoInst
      have hown0 : (W2.alloc (.cells #[] 60)).ownsRow (W.heap.size + 1 + 1) 60 5 (.slice (some ⟨W.heap.size + 1 + 1, 0, none⟩) 0 0) 0 [] := by
        have := World.ownsRow_lit (base := W.heap.size + 1 + 1) (e := 60) (size := 5) W2 #[] 0 (by omega) (by unfold maxLen; omega) (by simp)
        rw [hs2] at this
        simpa using this
      exact ⟨.slice (some ⟨W.heap.size + 1 + 1, 0, none⟩) 0 0, W2.alloc (.cells #[] 60), run_append_nothing (W.heap.size + 1 + 1) _ _ 60 i0 5 underInsts hi _ 0 [] hown0 a cap, hown0, (Below.refl _ _).alloc (by omega) _⟩
  obtain ⟨gv, W4, hrun, ho4, hb4⟩ := own
  obtain ⟨ga, gc, hgv⟩ := ho4.slice
  rw [hn] at hgv
  subst hgv
  have hx4 := (hb4.block W.heap.size (by omega)).trans hx2
  have hy4 := (hb4.block (W.heap.size + 1) (by omega)).trans hy2
  have f4 : W4.frozen? ⟨W.heap.size + 1, 0, none⟩ = false := by simp [World.frozen?, hy4]
  have y40 := blkp hy4 0
  have y41 := blkp hy4 1
  have y42 := blkp hy4 2
  simp only [List.getElem?_toArray, List.getElem?_cons_zero, List.getElem?_cons_succ] at y40 y41 y42
  have x40 := blkp hx4 0
  simp only [List.getElem?_toArray, List.getElem?_cons_zero] at x40
  obtain ⟨W5, hW5⟩ : ∃ W5, W4.setCell ⟨W.heap.size + 1, 0, none⟩ (.slice ga n gc) = W5 := ⟨_, rfl⟩
  have hk5 : ∀ b, b ≠ W.heap.size + 1 → W5.heap[b]? = W4.heap[b]? := fun b hb => by rw [← hW5]; exact heap_setCell_other W4 ⟨W.heap.size + 1, 0, none⟩ b _ hb
  have hs5 : W5.heap.size = W4.heap.size := by rw [← hW5]; simp
  have hx5 := (hk5 W.heap.size (by omega)).trans hx4
  have hy5 : W5.heap[W.heap.size + 1]? = some (.cells #[.slice ga n gc, .int .i64 st, .int .i64 sl] 46 (0, 0)) := by rw [← hW5]; exact heap_setCell_same W4 (W.heap.size + 1) 0 _ _ _ hy4
  have ho5 : InOwn W5 (W.heap.size + 1 + 1) (.slice ga n gc) l := in_keep ho4 fun g e => hk5 g (by have := (ho4.lt g e).1; omega)
  have hb5 : Below W.heap.size W W5 := by rw [← hW5]; exact (hbb2.trans (hb4.mono (by omega))).setCell (p := ⟨W.heap.size + 1, 0, none⟩) (Nat.le_succ _) _
  have hr5 : InRow W5 (.slice ga n gc) l := in_row ho5 (by omega) hbd
  have HR5 := Lib.hid (fun w (h : Below W5.heap.size W5 w) => hr5.below (Nat.le_refl _) h)
  have HX5 := Lib.hid hx5
  have HY5 := Lib.hid hy5
  have HB5 := Lib.hid hb5
  have HO5 := Lib.hid ho5
  have HW5 := Lib.hid hW5
  have HS5 : Hid (W.heap.size + 1 + 1 ≤ W5.heap.size) := Lib.hid (by have := hb4.size; omega)
  have HRUN := Lib.hid hrun
  have z50 := blkp hy5 0
  have z51 := blkp hy5 1
  have z52 := blkp hy5 2
  simp only [List.getElem?_toArray, List.getElem?_cons_zero, List.getElem?_cons_succ] at z50 z51 z52
  have HNW := Lib.hid (fun h => new_no l st sl _ W5 hr5 (HEV.out W5 hb5) h)
  have HNY := Lib.hid (fun h => new_yes l st sl _ W5 hr5 (HEV.out W5 hb5) h)
  have hcases : ((40 : Int) < (n : Int) ∧ ¬ (n : Int) ≤ 4000 ∧ chkV l st sl ≠ 0) ∨ (¬ (40 : Int) < (n : Int) ∧ chkV l st sl ≠ 0) ∨ (¬ (40 : Int) < (n : Int) ∧ chkV l st sl = 0) := by
    by_cases h1 : 40 < n
    · refine .inl ⟨by omega, by omega, fun h => hmid ⟨h1, ?_⟩⟩
      have := (chkV_ok h).1.2.1
      omega
    · by_cases h2 : chkV l st sl = 0
      · exact .inr (.inr ⟨by omega, h2⟩)
      · exact .inr (.inl ⟨by omega, h2⟩)
  clear hmid hr hE hn hW1 hx1 hb1 hs1 hcc hbd hW2 hs2 hb2 hx2 hy2 hbb2 hrun ho4 hb4 hx4 hy4 hW5 hk5 hx5 hy5 ho5 hb5 hr5 hs5
  rcases hcases with ⟨g1, g2, gz⟩ | ⟨g1, gz⟩ | ⟨g1, gz⟩
  · clear HNY
    obtain ⟨Z, hZ⟩ : ∃ Z, chkV l st sl = Z := ⟨_, rfl⟩
    have HZ := Lib.hid hZ
    have HN2 := Lib.hid (HNW.out gz)
    rw [hZ] at HN2 gz
    have hz0 : (Z != 0) = true := bne_iff_ne.2 gz
    clear HNW gz hZ
    go_enter Tryd.func5, Tryd.ntmps5
    go_wp2_with (at_builtin; (rw [HW1.out, HW2.out]; refine wpList_append_run rfl _ _ 44 rfl _ _ _ W4 rfl rfl HRUN.out ?_))
    rw [HW5.out]
    refine HN2.out.mono ?_
    rintro e w6 ⟨rfl, hb6⟩
    have hx6 := (hb6.block W.heap.size (by have := HS5.out; omega)).trans HX5.out
    have hy6 := (hb6.block (W.heap.size + 1) (by have := HS5.out; omega)).trans HY5.out
    have HBW6 := Lib.hid hb6
    have HB6 := Lib.hid (HB5.out.trans (hb6.mono HB5.out.size))
    have d0 := blkp hx6 0
    have d1 := blkp hx6 1
    have d2 := blkp hx6 2
    simp only [List.getElem?_toArray, List.getElem?_cons_zero, List.getElem?_cons_succ] at d0 d1 d2
    have HX6 := Lib.hid hx6
    have HY6 := Lib.hid hy6
    have HRC := Lib.hid (rcheck_any l st sl _ w6 (HRW.out w6 HB6.out))
    rw [HZ.out] at HRC
    clear hb6 hx6 hy6 c0 c1 c2 z50 z51 z52 x40 y40 y41 y42 f4
    go_wp2_with fail
    refine HRC.out.mono ?_
    rintro e w7 ⟨rfl, hb7⟩
    have h67 := HBW6.out.size
    have hx7 := (hb7.block W.heap.size (by have := HS5.out; omega)).trans HX6.out
    have hy7 := (hb7.block (W.heap.size + 1) (by have := HS5.out; omega)).trans HY6.out
    have HBW7 := Lib.hid (HBW6.out.trans (hb7.mono h67))
    have HB7 := Lib.hid (HB6.out.trans (hb7.mono HB6.out.size))
    have z0 := blkp hy7 0
    have z1 := blkp hy7 1
    have z2 := blkp hy7 2
    simp only [List.getElem?_toArray, List.getElem?_cons_zero, List.getElem?_cons_succ] at z0 z1 z2
    have HX7 := Lib.hid hx7
    have HY7 := Lib.hid hy7
    have HVC := Lib.hid (vcheck_any l st sl _ w7 (HR5.out w7 HBW7.out) (HEV.out w7 HB7.out))
    rw [HZ.out] at HVC
    clear hb7 hx7 hy7 d0 d1 d2 h67
    go_wp2_with fail
    refine HVC.out.mono ?_
    rintro e w8 ⟨rfl, hb8⟩
    have h78 := HBW7.out.size
    have hx8 := (hb8.block W.heap.size (by have := HS5.out; omega)).trans HX7.out
    have hy8 := (hb8.block (W.heap.size + 1) (by have := HS5.out; omega)).trans HY7.out
    have HBW8 := Lib.hid (HBW7.out.trans (hb8.mono h78))
    have HB8 := Lib.hid (HB7.out.trans (hb8.mono HB7.out.size))
    have e0 := blkp hx8 0
    have z0 := blkp hy8 0
    simp only [List.getElem?_toArray, List.getElem?_cons_zero] at e0 z0
    have HSI := Lib.hid (insts_same w8 _ _ l l (HR5.out w8 HBW8.out) (HRW.out w8 HB8.out))
    rw [decide_eq_true rfl] at HSI
    clear hb8 hx8 hy8 h78
    go_wp2_with fail
    refine HSI.out.mono ?_
    rintro e w9 ⟨rfl, d9, hw9⟩
    have HB9 : Hid (Below W.heap.size W w9) := Lib.hid (by rw [hw9]; exact below_drewN HB8.out d9)
    have HK9 := Lib.hid (HWK.out w9 HB9.out)
    clear hw9
    go_wp2_with fail
    refine HK9.out.mono ?_
    rintro e w10 ⟨rfl, hb10⟩
    have HB10 := Lib.hid (HB9.out.trans (hb10.mono HB9.out.size))
    clear hb10
    go_wp2
    go_ret
    exact ⟨rfl, HB10.out⟩
  · clear HNY
    obtain ⟨Z, hZ⟩ : ∃ Z, chkV l st sl = Z := ⟨_, rfl⟩
    have HZ := Lib.hid hZ
    have HN2 := Lib.hid (HNW.out gz)
    rw [hZ] at HN2 gz
    have hz0 : (Z != 0) = true := bne_iff_ne.2 gz
    clear HNW gz hZ
    go_enter Tryd.func5, Tryd.ntmps5
    go_wp2_with (at_builtin; (rw [HW1.out, HW2.out]; refine wpList_append_run rfl _ _ 44 rfl _ _ _ W4 rfl rfl HRUN.out ?_))
    rw [HW5.out]
    refine HN2.out.mono ?_
    rintro e w6 ⟨rfl, hb6⟩
    have hx6 := (hb6.block W.heap.size (by have := HS5.out; omega)).trans HX5.out
    have hy6 := (hb6.block (W.heap.size + 1) (by have := HS5.out; omega)).trans HY5.out
    have HBW6 := Lib.hid hb6
    have HB6 := Lib.hid (HB5.out.trans (hb6.mono HB5.out.size))
    have d0 := blkp hx6 0
    have d1 := blkp hx6 1
    have d2 := blkp hx6 2
    simp only [List.getElem?_toArray, List.getElem?_cons_zero, List.getElem?_cons_succ] at d0 d1 d2
    have HX6 := Lib.hid hx6
    have HY6 := Lib.hid hy6
    have HRC := Lib.hid (rcheck_any l st sl _ w6 (HRW.out w6 HB6.out))
    rw [HZ.out] at HRC
    clear hb6 hx6 hy6 c0 c1 c2 z50 z51 z52 x40 y40 y41 y42 f4
    go_wp2_with fail
    refine HRC.out.mono ?_
    rintro e w7 ⟨rfl, hb7⟩
    have h67 := HBW6.out.size
    have hx7 := (hb7.block W.heap.size (by have := HS5.out; omega)).trans HX6.out
    have hy7 := (hb7.block (W.heap.size + 1) (by have := HS5.out; omega)).trans HY6.out
    have HBW7 := Lib.hid (HBW6.out.trans (hb7.mono h67))
    have HB7 := Lib.hid (HB6.out.trans (hb7.mono HB6.out.size))
    have z0 := blkp hy7 0
    have z1 := blkp hy7 1
    have z2 := blkp hy7 2
    simp only [List.getElem?_toArray, List.getElem?_cons_zero, List.getElem?_cons_succ] at z0 z1 z2
    have HX7 := Lib.hid hx7
    have HY7 := Lib.hid hy7
    have HVC := Lib.hid (vcheck_any l st sl _ w7 (HR5.out w7 HBW7.out) (HEV.out w7 HB7.out))
    rw [HZ.out] at HVC
    clear hb7 hx7 hy7 d0 d1 d2 h67
    go_wp2_with fail
    refine HVC.out.mono ?_
    rintro e w8 ⟨rfl, hb8⟩
    have h78 := HBW7.out.size
    have hx8 := (hb8.block W.heap.size (by have := HS5.out; omega)).trans HX7.out
    have hy8 := (hb8.block (W.heap.size + 1) (by have := HS5.out; omega)).trans HY7.out
    have HBW8 := Lib.hid (HBW7.out.trans (hb8.mono h78))
    have HB8 := Lib.hid (HB7.out.trans (hb8.mono HB7.out.size))
    have e0 := blkp hx8 0
    have z0 := blkp hy8 0
    simp only [List.getElem?_toArray, List.getElem?_cons_zero] at e0 z0
    have HSI := Lib.hid (insts_same w8 _ _ l l (HR5.out w8 HBW8.out) (HRW.out w8 HB8.out))
    rw [decide_eq_true rfl] at HSI
    clear hb8 hx8 hy8 h78
    go_wp2_with fail
    refine HSI.out.mono ?_
    rintro e w9 ⟨rfl, d9, hw9⟩
    have HB9 : Hid (Below W.heap.size W w9) := Lib.hid (by rw [hw9]; exact below_drewN HB8.out d9)
    have HK9 := Lib.hid (HWK.out w9 HB9.out)
    clear hw9
    go_wp2_with fail
    refine HK9.out.mono ?_
    rintro e w10 ⟨rfl, hb10⟩
    have HB10 := Lib.hid (HB9.out.trans (hb10.mono HB9.out.size))
    clear hb10
    go_wp2
    go_ret
    exact ⟨rfl, HB10.out⟩
  · clear HNW
    obtain ⟨hk1, hk2, hk3, hk4⟩ := chkV_ok gz
    obtain ⟨hT, t2, t3⟩ := tg_of hk1 hk2
    have HT := Lib.hid hT
    have hl4 : l.length ≤ 4000 := hk1.2.1
    have HL4 := Lib.hid hl4
    obtain ⟨sn, hsn⟩ : ∃ s : Nat, st = (s : Int) := ⟨st.toNat, by omega⟩
    have hsl : sn < l.length := by omega
    have HSL := Lib.hid hsl
    have HZ := Lib.hid gz
    have HN2 := Lib.hid (HNY.out gz)
    subst hsn
    have hn1 : 1 ≤ n := by have := hk1.1; have := HN.out; omega
    have n4 : n ≤ 4000 := by have := HN.out; omega
    clear HNY gz hT t2 t3 hk1 hk2 hk3 hk4 hsl hl4 hst
    go_enter Tryd.func5, Tryd.ntmps5
    go_wp2_with (at_builtin; (rw [HW1.out, HW2.out]; refine wpList_append_run rfl _ _ 44 rfl _ _ _ W4 rfl rfl HRUN.out ?_))
    rw [HW5.out]
    refine HN2.out.mono ?_
    rintro e w6 ⟨G, v6, rfl, hc6, hb6⟩
    have hx6 := (hb6.block W.heap.size (by have := HS5.out; omega)).trans HX5.out
    have hy6 := (hb6.block (W.heap.size + 1) (by have := HS5.out; omega)).trans HY5.out
    have HC6 := Lib.hid hc6
    have HBW6 := Lib.hid hb6
    have HB6 := Lib.hid (HB5.out.trans (hb6.mono HB5.out.size))
    have d0 := blkp hx6 0
    have d1 := blkp hx6 1
    have d2 := blkp hx6 2
    simp only [List.getElem?_toArray, List.getElem?_cons_zero, List.getElem?_cons_succ] at d0 d1 d2
    have HX6 := Lib.hid hx6
    have HY6 := Lib.hid hy6
    have HRC := Lib.hid (rcheck_any l sn sl _ w6 (HRW.out w6 HB6.out))
    rw [HZ.out] at HRC
    clear hb6 hx6 hy6 hc6 c0 c1 c2 z50 z51 z52 x40 y40 y41 y42 f4
    go_wp2_with fail
    refine HRC.out.mono ?_
    rintro e w7 ⟨rfl, hb7⟩
    have h67 := HBW6.out.size
    have hx7 := (hb7.block W.heap.size (by have := HS5.out; omega)).trans HX6.out
    have hy7 := (hb7.block (W.heap.size + 1) (by have := HS5.out; omega)).trans HY6.out
    have HC7 := Lib.hid (HC6.out.below hb7 (Nat.le_refl _))
    have HBW7 := Lib.hid (HBW6.out.trans (hb7.mono h67))
    have HB7 := Lib.hid (HB6.out.trans (hb7.mono HB6.out.size))
    have z0 := blkp hy7 0
    have z1 := blkp hy7 1
    have z2 := blkp hy7 2
    simp only [List.getElem?_toArray, List.getElem?_cons_zero, List.getElem?_cons_succ] at z0 z1 z2
    have HX7 := Lib.hid hx7
    have HY7 := Lib.hid hy7
    have HVC := Lib.hid (vcheck_any l sn sl _ w7 (HR5.out w7 HBW7.out) (HEV.out w7 HB7.out))
    rw [HZ.out] at HVC
    clear hb7 hx7 hy7 d0 d1 d2 h67
    go_wp2_with fail
    refine HVC.out.mono ?_
    rintro e w8 ⟨rfl, hb8⟩
    have h78 := HBW7.out.size
    have hx8 := (hb8.block W.heap.size (by have := HS5.out; omega)).trans HX7.out
    have hy8 := (hb8.block (W.heap.size + 1) (by have := HS5.out; omega)).trans HY7.out
    have HC8 := Lib.hid (HC7.out.below hb8 (Nat.le_refl _))
    have HBW8 := Lib.hid (HBW7.out.trans (hb8.mono h78))
    have HB8 := Lib.hid (HB7.out.trans (hb8.mono HB7.out.size))
    have e0 := blkp hx8 0
    have z0 := blkp hy8 0
    simp only [List.getElem?_toArray, List.getElem?_cons_zero] at e0 z0
    have HX8 := Lib.hid hx8
    have HY8 := Lib.hid hy8
    have HSI := Lib.hid (insts_same w8 _ _ l l (HR5.out w8 HBW8.out) (HRW.out w8 HB8.out))
    rw [decide_eq_true rfl] at HSI
    clear hb8 hx8 hy8 h78
    go_wp2_with fail
    refine HSI.out.mono ?_
    rintro e w9 ⟨rfl, d9, hw9⟩
    have hh9 : w9.heap = w8.heap := by rw [hw9]; rfl
    have HC9 : Hid (CkOn w9 G v6 l sn sl W5.heap.size) := Lib.hid (HC8.out.keep (by rw [hh9]) (fun _ _ => by rw [hh9]))
    have HBW9 : Hid (Below W5.heap.size W5 w9) := Lib.hid (by rw [hw9]; exact below_drewN HBW8.out d9)
    have HB9 : Hid (Below W.heap.size W w9) := Lib.hid (by rw [hw9]; exact below_drewN HB8.out d9)
    have hx9 : w9.heap[W.heap.size]? = some (.cells #[.slice a n cap, .int .i64 (sn : Int), .int .i64 sl] 46 (0, 0)) := by rw [hh9]; exact HX8.out
    have hy9 : w9.heap[W.heap.size + 1]? = some (.cells #[.slice ga n gc, .int .i64 (sn : Int), .int .i64 sl] 46 (0, 0)) := by rw [hh9]; exact HY8.out
    have ho9 : InOwn w9 (W.heap.size + 1 + 1) (.slice ga n gc) l := in_keep HO5.out fun g e => HBW9.out.block g (HO5.out.lt g e).2
    have HSP := Lib.hid (spoilx_own w9 _ _ l ho9 (Nat.le_trans HS5.out HBW9.out.size))
    have HOG := Lib.hid (HO5.out.lt)
    have HX9 := Lib.hid hx9
    have z0 := blkp hy9 0
    simp only [List.getElem?_toArray, List.getElem?_cons_zero] at z0
    clear hw9 hh9 hx9 hy9 ho9 e0
    go_wp2_with fail
    refine HSP.out.mono ?_
    rintro e w10 ⟨rfl, hb10, hk10⟩
    have hgl := HC9.out.lt
    have hglo := HC9.out.lo
    have HC10 : Hid (CkOn w10 G v6 l sn sl W5.heap.size) := Lib.hid (HC9.out.keep (hk10 G (fun e => by have := (HOG.out G e).2; omega) hgl) fun g e => by
      have h1 := HC9.out.own.lt g e
      exact hk10 g (fun e2 => by have := (HOG.out g e2).2; omega) h1.2)
    have HB10 := Lib.hid (HB9.out.trans (hb10.mono (by omega)))
    have HX10 := Lib.hid ((hb10.block W.heap.size (by omega)).trans HX9.out)
    have HPR := Lib.hid (vprog_any HC10.out)
    clear hb10 hk10 z0 hgl hglo
    go_wp2_with fail
    refine HPR.out.mono ?_
    rintro e w11 ⟨uq, rfl, hu11, hb11⟩
    obtain ⟨qa, qc, hq⟩ := hu11.slice
    rw [HN.out] at hq
    subst hq
    obtain ⟨w12, hw12⟩ : ∃ w12, w11.alloc (.cells #[.slice qa n qc, .int .i64 (sn : Int), .int .i64 sl] 46) = w12 := ⟨_, rfl⟩
    have hb12 : Below w11.heap.size w11 w12 := by rw [← hw12]; exact (Below.refl _ _).alloc (Nat.le_refl _) _
    have hq12 : w12.heap[w11.heap.size]? = some (.cells #[.slice qa n qc, .int .i64 (sn : Int), .int .i64 sl] 46 (0, 0)) := by rw [← hw12]; exact heap_alloc_new w11 _
    have hs11 := hb11.size
    have hs12 := hb12.size
    have hbb : Below w10.heap.size w10 w12 := hb11.trans (hb12.mono hs11)
    have HU12 := Lib.hid (in_keep hu11 fun g e => hb12.block g (hu11.lt g e).2)
    have HC12 := Lib.hid (HC10.out.below hbb (Nat.le_refl _))
    have HB12 := Lib.hid (HB10.out.trans (hbb.mono HB10.out.size))
    have hW10 := HB10.out.size
    have hxl := (Array.getElem?_eq_some_iff.1 HX10.out).1
    have hx12 := (hbb.block W.heap.size hxl).trans HX10.out
    obtain ⟨Q, hQ⟩ : ∃ Q, w11.heap.size = Q := ⟨_, rfl⟩
    have HQ := Lib.hid hQ
    rw [hQ] at hq12
    have HX12 := Lib.hid hx12
    have HQ12 := Lib.hid hq12
    have HW12 := Lib.hid hw12
    have hql := (Array.getElem?_eq_some_iff.1 hq12).1
    have hxl12 := (Array.getElem?_eq_some_iff.1 hx12).1
    have hrow12 : InRow w12 (.slice qa n qc) l := in_row HU12.out (by have := HL4.out; omega) (ok_bd (chkV_ok HZ.out).1)
    have H1 : Hid (∀ p : GrownTo w12, Calls Tryd.prog 24 #[.agg #[.slice qa n qc, .int .i64 (sn : Int), .int .i64 sl], .agg #[.slice a n cap, .int .i64 (sn : Int), .int .i64 sl]] p.W' fun e w' => e = .returned (.bool true) ∧ Below p.W'.heap.size p.W' w') := Lib.hid (fun p => by
      have := sameProg_any p.W' _ _ l l sn sl sn sl (hrow12.below (Nat.le_refl _) p.h) (HRW.out p.W' (HB12.out.trans (p.h.mono HB12.out.size)))
      rw [decide_eq_true ⟨rfl, rfl, rfl⟩] at this
      exact this)
    have H2 : Hid (∀ p : GrownTo w12, Calls Tryd.prog 25 #[.pointer (some ⟨G, 0, none⟩)] p.W' fun e w' => e = .returned (.int .i64 (n : Int)) ∧ Below p.W'.heap.size p.W' w') := Lib.hid (fun p => (vlen_any (HC12.out.below p.h (Nat.le_refl _))).mono fun e w' h => ⟨by rw [h.1, HN.out], by rw [h.2]; exact Below.refl _ _⟩)
    have H3 : Hid (∀ p : GrownTo w12, Calls Tryd.prog 26 #[.pointer (some ⟨G, 0, none⟩)] p.W' fun e w' => e = .returned (.int .i64 (sn : Int)) ∧ Below p.W'.heap.size p.W' w') := Lib.hid (fun p => (vstart_any (HC12.out.below p.h (Nat.le_refl _))).mono fun e w' h => ⟨h.1, by rw [h.2]; exact Below.refl _ _⟩)
    have H4 : Hid (∀ p : GrownTo w12, Calls Tryd.prog 27 #[.pointer (some ⟨G, 0, none⟩)] p.W' fun e w' => e = .returned (.int .i64 sl) ∧ Below p.W'.heap.size p.W' w') := Lib.hid (fun p => (vslots_any (HC12.out.below p.h (Nat.le_refl _))).mono fun e w' h => ⟨h.1, by rw [h.2]; exact Below.refl _ _⟩)
    have q0 : w12.cell? ⟨Q, 0, none⟩ = some (.slice qa n qc) := blkp hq12 0
    have q1 : w12.cell? ⟨Q, 1, none⟩ = some (.int .i64 (sn : Int)) := blkp hq12 1
    have q2 : w12.cell? ⟨Q, 2, none⟩ = some (.int .i64 sl) := blkp hq12 2
    have x0 : w12.cell? ⟨W.heap.size, 0, none⟩ = some (.slice a n cap) := blkp hx12 0
    have x1 : w12.cell? ⟨W.heap.size, 1, none⟩ = some (.int .i64 (sn : Int)) := blkp hx12 1
    have x2 : w12.cell? ⟨W.heap.size, 2, none⟩ = some (.int .i64 sl) := blkp hx12 2
    have fq0 := fun p => cell_grownTo (w := w12) (a := ⟨Q, 0, none⟩) hql q0 p
    have fq1 := fun p => cell_grownTo (w := w12) (a := ⟨Q, 1, none⟩) hql q1 p
    have fq2 := fun p => cell_grownTo (w := w12) (a := ⟨Q, 2, none⟩) hql q2 p
    have fx0 := fun p => cell_grownTo (w := w12) (a := ⟨W.heap.size, 0, none⟩) hxl12 x0 p
    have fx1 := fun p => cell_grownTo (w := w12) (a := ⟨W.heap.size, 1, none⟩) hxl12 x1 p
    have fx2 := fun p => cell_grownTo (w := w12) (a := ⟨W.heap.size, 2, none⟩) hxl12 x2 p
    have mixed : Tryd.prog.follows .mixedOrders = true := by kernel_rfl
    have HGL := Lib.hid (show G < w10.heap.size ∧ (∀ g, v6.ownBlock = some g → g < w10.heap.size) from ⟨HC10.out.lt, fun g e => (HC10.out.own.lt g e).2⟩)
    have HS12 := Lib.hid (show w10.heap.size ≤ w12.heap.size from hbb.size)
    clear hb11 hb12 hbb hu11 hw12 hq12 hx12 hs11 hs12 hQ hxl hql hxl12 hrow12 hW10 q0 q1 q2 x0 x1 x2
    go_wp2
    rw [HW12.out, HQ.out]
    refine wp_region_quiet_below mixed (by kernel_rfl) ?_
    repeat (quiet_step (first
      | (go_at_call 24; exact calls_grownTo (H1.out _))
      | (go_at_call 25; exact calls_grownTo (H2.out _))
      | (go_at_call 26; exact calls_grownTo (H3.out _))
      | (go_at_call 27; exact calls_grownTo (H4.out _))))
    refine wpQuiet_nil ?_
    intro w13 hw'
    obtain ⟨⟨wz, hb13⟩, hw''⟩ := hw'
    subst hw''
    have hq13 := (hb13.block Q (Array.getElem?_eq_some_iff.1 HQ12.out).1).trans HQ12.out
    have hx13 := (hb13.block W.heap.size (Array.getElem?_eq_some_iff.1 HX12.out).1).trans HX12.out
    have HC13 := Lib.hid (HC12.out.below hb13 (Nat.le_refl _))
    have hu13 := in_keep HU12.out fun g e => hb13.block g (HU12.out.lt g e).2
    have HU13 := Lib.hid hu13
    have HB13 := Lib.hid (HB12.out.trans (hb13.mono HB12.out.size))
    have HS13 := Lib.hid (Nat.le_trans HS12.out hb13.size)
    have HSQ := Lib.hid (spoilx_own w13 _ _ l hu13 HS13.out)
    have HX13 := Lib.hid hx13
    have q0 : w13.cell? ⟨Q, 0, none⟩ = some (.slice qa n qc) := blkp hq13 0
    clear hb13 hq13 hx13 hu13 fq0 fq1 fq2 fx0 fx1 fx2
    go_wp2_with fail
    refine HSQ.out.mono ?_
    rintro e w14 ⟨rfl, hb14, hk14⟩
    have HC14 : Hid (CkOn w14 G v6 l sn sl W5.heap.size) := Lib.hid (HC13.out.keep (hb14.block G HGL.out.1) fun g e => hb14.block g (HGL.out.2 g e))
    have HB14 := Lib.hid (HB13.out.trans (hb14.mono HB10.out.size))
    have HX14 := Lib.hid ((hb14.block W.heap.size (Array.getElem?_eq_some_iff.1 HX10.out).1).trans HX13.out)
    have HOD := Lib.hid (vorder_any HC14.out (HEV.out w14 HB14.out))
    clear hb14 hk14 q0
    go_wp2_with fail
    refine HOD.out.mono ?_
    rintro e w15 ⟨vo, rfl, ho15, hb15⟩
    obtain ⟨oa, oc, eo⟩ := IOwn.sl ho15
    rw [List.length_map, (chkV_ok HZ.out).2.2.2, HN.out] at eo
    subst eo
    have HO15 := Lib.hid ho15
    have HC15 := Lib.hid (HC14.out.below hb15 (Nat.le_refl _))
    have HB15 := Lib.hid (HB14.out.trans (hb15.mono HB14.out.size))
    have HX15 := Lib.hid ((hb15.block W.heap.size (Array.getElem?_eq_some_iff.1 HX14.out).1).trans HX14.out)
    have HS15 := Lib.hid hb15.size
    have HRD := Lib.hid (vreached_any HC15.out)
    clear ho15 hb15
    go_wp2_with fail
    refine HRD.out.mono ?_
    rintro e w16 ⟨vr, rfl, hr16, hb16⟩
    obtain ⟨ra, rc, er⟩ := IOwn.sl hr16
    rw [List.length_map, Int.toNat_natCast] at er
    rw [Int.toNat_natCast] at hr16
    obtain ⟨rn, hrn⟩ : ∃ rn, (rchL l sn).length = rn := ⟨_, rfl⟩
    rw [hrn] at er
    subst er
    have HRN := Lib.hid hrn
    have HR16 := Lib.hid hr16
    have HO16 := Lib.hid (io_keep HO15.out fun g e => hb16.block g (World.ownsRow.lt HO15.out g e).2)
    have HC16 := Lib.hid (HC15.out.below hb16 (Nat.le_refl _))
    have HB16 := Lib.hid (HB15.out.trans (hb16.mono HB15.out.size))
    have hx16 := (hb16.block W.heap.size (Array.getElem?_eq_some_iff.1 HX15.out).1).trans HX15.out
    have HX16 := Lib.hid hx16
    have HS16 := Lib.hid hb16.size
    have HRO := Lib.hid (rorder_any l sn sl _ w16 (HRW.out w16 HB16.out) HT.out HL4.out)
    have x0 : w16.cell? ⟨W.heap.size, 0, none⟩ = some (.slice a n cap) := blkp hx16 0
    have x1 : w16.cell? ⟨W.heap.size, 1, none⟩ = some (.int .i64 (sn : Int)) := blkp hx16 1
    have x2 : w16.cell? ⟨W.heap.size, 2, none⟩ = some (.int .i64 sl) := blkp hx16 2
    clear hr16 hb16 hx16 hrn
    go_wp2_with fail
    refine HRO.out.mono ?_
    rintro e w17 ⟨v17, rfl, ho17, hb17⟩
    have hOl : ((ordF l).map Int.ofNat).length ≤ 8796093022208 := by rw [List.length_map, (chkV_ok HZ.out).2.2.2]; have := HL4.out; omega
    have HO17 := Lib.hid (io_keep HO16.out fun g e => hb17.block g (World.ownsRow.lt HO16.out g e).2)
    have HS1 := Lib.hid (same_int w17 _ _ _ _ (IOwn.row HO17.out) (IOwn.row ho17) hOl hOl)
    rw [decide_eq_true rfl] at HS1
    have HR17 := Lib.hid (io_keep HR16.out fun g e => hb17.block g (World.ownsRow.lt HR16.out g e).2)
    have HC17 := Lib.hid (HC16.out.below hb17 (Nat.le_refl _))
    have HB17 := Lib.hid (HB16.out.trans (hb17.mono HB16.out.size))
    have HX17 := Lib.hid ((hb17.block W.heap.size (Array.getElem?_eq_some_iff.1 HX16.out).1).trans HX16.out)
    have HS17 := Lib.hid (Nat.le_trans HS16.out hb17.size)
    clear ho17 hb17 hOl x0 x1 x2
    go_wp2_with fail
    refine HS1.out.mono ?_
    rintro e w18 ⟨rfl, d18, hw18⟩
    have hh18 : w18.heap = w17.heap := by rw [hw18]; rfl
    have HO18 : Hid (IOwn w18 w14.heap.size (.slice oa n oc) ((ordF l).map Int.ofNat)) := Lib.hid (io_keep HO17.out fun g e => by rw [hh18])
    have HR18 : Hid (IOwn w18 w15.heap.size (.slice ra rn rc) ((rchL l sn).map Int.ofNat)) := Lib.hid (io_keep HR17.out fun g e => by rw [hh18])
    have HC18 : Hid (CkOn w18 G v6 l sn sl W5.heap.size) := Lib.hid (HC17.out.keep (by rw [hh18]) fun _ _ => by rw [hh18])
    have HB18 : Hid (Below W.heap.size W w18) := Lib.hid (by rw [hw18]; exact below_drewN HB17.out d18)
    have hx18 : w18.heap[W.heap.size]? = some (.cells #[.slice a n cap, .int .i64 (sn : Int), .int .i64 sl] 46 (0, 0)) := by rw [hh18]; exact HX17.out
    have HX18 := Lib.hid hx18
    have HS18 : Hid (w15.heap.size ≤ w18.heap.size) := Lib.hid (by rw [hh18]; exact HS17.out)
    have HRR := Lib.hid (rreached_any l sn sl _ w18 (HRW.out w18 HB18.out) HT.out HL4.out HSL.out)
    have x0 : w18.cell? ⟨W.heap.size, 0, none⟩ = some (.slice a n cap) := blkp hx18 0
    have x1 : w18.cell? ⟨W.heap.size, 1, none⟩ = some (.int .i64 (sn : Int)) := blkp hx18 1
    have x2 : w18.cell? ⟨W.heap.size, 2, none⟩ = some (.int .i64 sl) := blkp hx18 2
    clear hw18 hh18 hx18
    go_wp2_with fail
    refine HRR.out.mono ?_
    rintro e w19 ⟨v19, rfl, hr19, hb19⟩
    have hRl : ((rchL l sn).map Int.ofNat).length ≤ 8796093022208 := by
      rw [List.length_map]
      have h1 : (rchL l sn).length ≤ l.length := by
        unfold rchL
        have := List.length_filter_le (fun i => @decide (Rch l sn i) (Classical.propDecidable _)) (List.range l.length)
        rwa [List.length_range] at this
      have := HL4.out
      omega
    have HR19 := Lib.hid (io_keep HR18.out fun g e => hb19.block g (World.ownsRow.lt HR18.out g e).2)
    have HS2 := Lib.hid (same_int w19 _ _ _ _ (IOwn.row HR19.out) (IOwn.row hr19) hRl hRl)
    rw [decide_eq_true rfl] at HS2
    have HO19 := Lib.hid (io_keep HO18.out fun g e => hb19.block g (World.ownsRow.lt HO18.out g e).2)
    have HC19 := Lib.hid (HC18.out.below hb19 (Nat.le_refl _))
    have HB19 := Lib.hid (HB18.out.trans (hb19.mono HB18.out.size))
    have HX19 := Lib.hid ((hb19.block W.heap.size (Array.getElem?_eq_some_iff.1 HX18.out).1).trans HX18.out)
    have HS19 := Lib.hid (Nat.le_trans HS18.out hb19.size)
    clear hr19 hb19 hRl x0 x1 x2
    go_wp2_with fail
    refine HS2.out.mono ?_
    rintro e w20 ⟨rfl, d20, hw20⟩
    have hh20 : w20.heap = w19.heap := by rw [hw20]; rfl
    have HO20 : Hid (IOwn w20 w14.heap.size (.slice oa n oc) ((ordF l).map Int.ofNat)) := Lib.hid (io_keep HO19.out fun g e => by rw [hh20])
    have HR20 : Hid (IOwn w20 w15.heap.size (.slice ra rn rc) ((rchL l sn).map Int.ofNat)) := Lib.hid (io_keep HR19.out fun g e => by rw [hh20])
    have HC20 : Hid (CkOn w20 G v6 l sn sl W5.heap.size) := Lib.hid (HC19.out.keep (by rw [hh20]) fun _ _ => by rw [hh20])
    have HB20 : Hid (Below W.heap.size W w20) := Lib.hid (by rw [hw20]; exact below_drewN HB19.out d20)
    have HX20 : Hid (w20.heap[W.heap.size]? = some (.cells #[.slice a n cap, .int .i64 (sn : Int), .int .i64 sl] 46 (0, 0))) := Lib.hid (by rw [hh20]; exact HX19.out)
    have HS20 : Hid (w15.heap.size ≤ w20.heap.size) := Lib.hid (by rw [hh20]; exact HS19.out)
    have HSO := Lib.hid (spoiln_own w20 _ _ _ HO20.out (Nat.le_trans HS15.out HS20.out))
    clear hw20 hh20
    go_wp2_with fail
    refine HSO.out.mono ?_
    rintro e w21 ⟨rfl, hb21, hk21⟩
    have HG14 : Hid (G < w14.heap.size ∧ (∀ g, v6.ownBlock = some g → g < w14.heap.size) ∧ W.heap.size < w14.heap.size) := Lib.hid ⟨HC14.out.lt, fun g e => (HC14.out.own.lt g e).2, (Array.getElem?_eq_some_iff.1 HX14.out).1⟩
    have HC21 : Hid (CkOn w21 G v6 l sn sl W5.heap.size) := Lib.hid (HC20.out.keep (hb21.block G HG14.out.1) fun g e => hb21.block g (HG14.out.2.1 g e))
    have HB21 := Lib.hid (HB20.out.trans (hb21.mono (Nat.le_of_lt HG14.out.2.2)))
    have HX21 := Lib.hid ((hb21.block W.heap.size HG14.out.2.2).trans HX20.out)
    have HOLT : Hid (∀ g, (Value.slice oa n oc).ownBlock = some g → g < w15.heap.size) := Lib.hid (fun g e => (World.ownsRow.lt HO15.out g e).2)
    have HR21 := Lib.hid (io_keep HR20.out fun g e => hk21 g (fun e2 => by
      have h1 := (World.ownsRow.lt HR20.out g e).1
      have h2 := HOLT.out g e2
      omega) (World.ownsRow.lt HR20.out g e).2)
    have HS21 := Lib.hid (Nat.le_trans HS20.out hb21.size)
    have HSR := Lib.hid (spoiln_own w21 _ _ _ HR21.out HS21.out)
    clear hb21 hk21
    go_wp2_with fail
    refine HSR.out.mono ?_
    rintro e w22 ⟨rfl, hb22, hk22⟩
    have HC22 : Hid (CkOn w22 G v6 l sn sl W5.heap.size) := Lib.hid (HC21.out.keep (hb22.block G (Nat.lt_of_lt_of_le HG14.out.1 HS15.out)) fun g e => hb22.block g (Nat.lt_of_lt_of_le (HG14.out.2.1 g e) HS15.out))
    have HB22 := Lib.hid (HB21.out.trans (hb22.mono (by have := HG14.out.2.2; have := HS15.out; omega)))
    have HX22 := Lib.hid ((hb22.block W.heap.size (Nat.lt_of_lt_of_le HG14.out.2.2 HS15.out)).trans HX21.out)
    clear hb22 hk22
    by_cases hat2 : 0 ≤ at_ ∧ at_ < (n : Int)
    · obtain ⟨k, hk⟩ : ∃ k : Nat, at_ = (k : Int) := ⟨at_.toNat, by omega⟩
      subst hk
      have hkn : k < n := by omega
      have hkl : k < l.length := by rw [HN.out]; exact hkn
      obtain ⟨y, hy⟩ : ∃ y, l[k] = y := ⟨_, rfl⟩
      have hyk : l[k]? = some y := by rw [List.getElem?_eq_getElem hkl, hy]
      have HYK := Lib.hid hyk
      have HIN := Lib.hid (vinst_in k HC22.out y hyk)
      clear hy hyk hat hat2
      go_wp2_with fail
      refine HIN.out.mono ?_
      rintro e w23 ⟨rfl, hb23⟩
      obtain ⟨w24, hw24⟩ : ∃ w24, w23.alloc (.cells #[.int .i64 y.op, .int .i64 y.lo, .int .i64 y.hi, .int .i64 y.x, .int .i64 y.y] 60) = w24 := ⟨_, rfl⟩
      have hb24 : Below w23.heap.size w23 w24 := by rw [← hw24]; exact (Below.refl _ _).alloc (Nat.le_refl _) _
      have hnew := inst_block w23 y
      rw [hw24] at hnew
      have hbb := hb23.trans (hb24.mono hb23.size)
      have HC24 := Lib.hid (HC22.out.below hbb (Nat.le_refl _))
      have HB24 := Lib.hid (HB22.out.trans (hbb.mono HB22.out.size))
      have hx24 := (hbb.block W.heap.size (Array.getElem?_eq_some_iff.1 HX22.out).1).trans HX22.out
      have HX24 := Lib.hid hx24
      obtain ⟨a', cap', hvs', hl', hbd', hc'⟩ := HRW.out w24 HB24.out
      obtain ⟨b, off, ha, hbl, hcc⟩ := hc' k hkl
      injection hvs' with e1 e2 e3
      subst e1
      subst ha
      clear e2 e3
      have hly : l[k] = y := by have := HYK.out; rw [List.getElem?_eq_getElem hkl] at this; exact Option.some.inj this
      rw [hly] at hcc
      have q0 := hcc 0 (by omega)
      have q1 := hcc 1 (by omega)
      have q2 := hcc 2 (by omega)
      have q3 := hcc 3 (by omega)
      have q4 := hcc 4 (by omega)
      simp only [In.cs, List.getElem?_cons_zero, List.getElem?_cons_succ, Nat.add_zero] at q0 q1 q2 q3 q4
      have d0 := blkp hnew 0
      have d1 := blkp hnew 1
      have d2 := blkp hnew 2
      have d3 := blkp hnew 3
      have d4 := blkp hnew 4
      simp only [List.getElem?_toArray, List.getElem?_cons_zero, List.getElem?_cons_succ] at d0 d1 d2 d3 d4
      have x0 : w24.cell? ⟨W.heap.size, 0, none⟩ = some (.slice (some ⟨b, off, none⟩) n cap) := blkp hx24 0
      have hx23 := (hb23.block W.heap.size (Array.getElem?_eq_some_iff.1 HX22.out).1).trans HX22.out
      have xa : ∀ o : Obj, (w23.alloc o).cell? ⟨W.heap.size, 0, none⟩ = some (.slice (some ⟨b, off, none⟩) n cap) := fun o => by
        have h9 := (Below.heap_alloc w23 o W.heap.size (Array.getElem?_eq_some_iff.1 hx23).1).trans hx23
        exact blkp h9 0
      have heq := fun w => eq_in y y w
      rw [decide_eq_true rfl] at heq
      have HW24 := Lib.hid hw24
      have k0 : (0 : Int) ≤ (k : Int) := by omega
      have k1 : (k : Int) < (n : Int) := by omega
      clear hbb hb23 hb24 hnew hx24 hc' hbd' hl' hly hcc hkl hw24 hx23
      go_wp2_with fail
      rw [HW24.out]
      go_quiet (fail)
      obtain ⟨w25, hw25⟩ : ∃ w25, w24.drewN nq = w25 := ⟨_, rfl⟩
      have hheap : w25.heap = w24.heap := by rw [← hw25]; rfl
      have HB25 : Hid (Below W.heap.size W w25) := Lib.hid (by rw [← hw25]; exact below_drewN HB24.out nq)
      rw [hw25]
      clear hw25 q0 q1 q2 q3 q4 d0 d1 d2 d3 d4 x0 xa heq
      have hh25 : w25.heap = w24.heap := hheap
      have HC25 : Hid (CkOn w25 G v6 l sn sl W5.heap.size) := Lib.hid (HC24.out.keep (by rw [hh25]) fun _ _ => by rw [hh25])
      have hx25 : w25.heap[W.heap.size]? = some (.cells #[.slice (some ⟨b, off, none⟩) n cap, .int .i64 (sn : Int), .int .i64 sl] 46 (0, 0)) := by rw [hh25]; exact HX24.out
      have HX25 := Lib.hid hx25
      have HQ2 : Hid (∀ w, Below w25.heap.size w25 w → (Below w25.heap.size w25 w ∧ w.cell? ⟨W.heap.size, 0, none⟩ = some (.slice (some ⟨b, off, none⟩) n cap) ∧ w.cell? ⟨W.heap.size, 1, none⟩ = some (.int .i64 (sn : Int)) ∧ w.cell? ⟨W.heap.size, 2, none⟩ = some (.int .i64 sl))) := Lib.hid (fun w hb => by
        have h9 := (hb.block W.heap.size (Array.getElem?_eq_some_iff.1 HX25.out).1).trans HX25.out
        exact ⟨hb, blkp h9 0, blkp h9 1, blkp h9 2⟩)
      have P1 : Hid (∀ w, Below w25.heap.size w25 w → Calls Tryd.prog 23 #[.pointer (some ⟨G, 0, none⟩)] w fun e w' => ∃ uz uc, e = .returned (.agg #[.slice uz n uc, .int .i64 (sn : Int), .int .i64 sl]) ∧ InRow w' (.slice uz n uc) l ∧ Below w25.heap.size w25 w') := Lib.hid (fun w hb => by
        refine (vprog_any (HC25.out.below hb (Nat.le_refl _))).mono ?_
        rintro e w' ⟨uu, rfl, h1, h2⟩
        obtain ⟨ua, uc, hu⟩ := h1.slice
        rw [HN.out] at hu
        subst hu
        exact ⟨ua, uc, rfl, in_row h1 (by have := HL4.out; omega) (ok_bd (chkV_ok HZ.out).1), hb.trans (h2.mono hb.size)⟩)
      have P2 : Hid (∀ w uz uc, InRow w (.slice uz n uc) l → Below w25.heap.size w25 w → Calls Tryd.prog 24 #[.agg #[.slice uz n uc, .int .i64 (sn : Int), .int .i64 sl], .agg #[.slice (some ⟨b, off, none⟩) n cap, .int .i64 (sn : Int), .int .i64 sl]] w fun e w' => e = .returned (.bool true) ∧ Below w25.heap.size w25 w') := Lib.hid (fun w uz uc hu hb => by
        refine (sameProg_any w _ _ l l sn sl sn sl hu (HRW.out w (HB25.out.trans (hb.mono HB25.out.size)))).mono ?_
        rintro e w' ⟨h1, h2⟩
        rw [decide_eq_true ⟨rfl, rfl, rfl⟩] at h1
        exact ⟨h1, hb.trans (h2.mono hb.size)⟩)
      have P3 : Hid (∀ w, Below w25.heap.size w25 w → Calls Tryd.prog 28 #[.pointer (some ⟨G, 0, none⟩)] w fun e w' => ∃ va vc, e = .returned (.slice va n vc) ∧ IRow w' (.slice va n vc) ((ordF l).map Int.ofNat) ∧ Below w25.heap.size w25 w') := Lib.hid (fun w hb => by
        refine (vorder_any (HC25.out.below hb (Nat.le_refl _)) (HEV.out w (HB25.out.trans (hb.mono HB25.out.size)))).mono ?_
        rintro e w' ⟨vv, rfl, h1, h2⟩
        obtain ⟨va, vc, hv⟩ := IOwn.sl h1
        rw [List.length_map, (chkV_ok HZ.out).2.2.2, HN.out] at hv
        subst hv
        exact ⟨va, vc, rfl, IOwn.row h1, hb.trans (h2.mono hb.size)⟩)
      have P4 : Hid (∀ w va vc, IRow w (.slice va n vc) ((ordF l).map Int.ofNat) → Below w25.heap.size w25 w → Calls Tryd.prog 30 #[.agg #[.slice (some ⟨b, off, none⟩) n cap, .int .i64 (sn : Int), .int .i64 sl]] w fun e w' => ∃ ya yc, e = .returned (.slice ya n yc) ∧ IRow w' (.slice va n vc) ((ordF l).map Int.ofNat) ∧ IRow w' (.slice ya n yc) ((ordF l).map Int.ofNat) ∧ Below w25.heap.size w25 w') := Lib.hid (fun w va vc hv hb => by
        refine (rorder_any l sn sl _ w (HRW.out w (HB25.out.trans (hb.mono HB25.out.size))) HT.out HL4.out).mono ?_
        rintro e w' ⟨vv, rfl, h1, h2⟩
        obtain ⟨ya, yc, hy⟩ := IOwn.sl h1
        rw [List.length_map, (chkV_ok HZ.out).2.2.2, HN.out] at hy
        subst hy
        exact ⟨ya, yc, rfl, hv.below (Nat.le_refl _) h2, IOwn.row h1, hb.trans (h2.mono hb.size)⟩)
      have P5 : Hid (∀ w va vc ya yc, IRow w (.slice va n vc) ((ordF l).map Int.ofNat) → IRow w (.slice ya n yc) ((ordF l).map Int.ofNat) → Below w25.heap.size w25 w → Calls Tryd.prog 16 #[.slice va n vc, .slice ya n yc] w fun e w' => e = .returned (.bool true) ∧ Below w25.heap.size w25 w') := Lib.hid (fun w va vc ya yc hv hy hb => by
        have hOl : ((ordF l).map Int.ofNat).length ≤ 8796093022208 := by rw [List.length_map, (chkV_ok HZ.out).2.2.2]; have := HL4.out; omega
        refine (same_int w _ _ _ _ hv hy hOl hOl).mono ?_
        rintro e w' ⟨h1, d, h2⟩
        rw [decide_eq_true rfl] at h1
        exact ⟨h1, by rw [h2]; exact below_drewN hb d⟩)
      have P6 : Hid (∀ w, Below w25.heap.size w25 w → Calls Tryd.prog 17 #[] w fun e w' => e = .returned (.bool true) ∧ Below w25.heap.size w25 w') := Lib.hid (fun w hb => (HWK.out w (HB25.out.trans (hb.mono HB25.out.size))).mono fun e w' h => ⟨h.1, hb.trans (h.2.mono hb.size)⟩)
      clear hh25 hheap hx25
      go_wp2
      have hs0 := HQ2.out w25.drew (Below.refl _ _).drew
      go_region_held3 (fun w' => Below w25.heap.size w25 w' ∧ w'.cell? ⟨W.heap.size, 0, none⟩ = some (.slice (some ⟨b, off, none⟩) n cap) ∧ w'.cell? ⟨W.heap.size, 1, none⟩ = some (.int .i64 (sn : Int)) ∧ w'.cell? ⟨W.heap.size, 2, none⟩ = some (.int .i64 sl))
        (first | assumption | go_keep)
        (first
          | (go_at_call 23; refine (P1.out _ (And.left (by assumption))).mono ?_; rintro e wq ⟨uz, uc, rfl, hu9, hq⟩; have hs8 := HQ2.out wq hq; clear hq)
          | (go_at_call 24; refine (P2.out _ _ _ (by assumption) (And.left (by assumption))).mono ?_; rintro e wq ⟨rfl, hq⟩; have hs8 := HQ2.out wq hq; clear hq)
          | (go_at_call 28; refine (P3.out _ (And.left (by assumption))).mono ?_; rintro e wq ⟨va, vc, rfl, hv9, hq⟩; have hs8 := HQ2.out wq hq; clear hq)
          | (go_at_call 30; refine (P4.out _ _ _ (by assumption) (And.left (by assumption))).mono ?_; rintro e wq ⟨ya, yc, rfl, hv10, hy10, hq⟩; have hs8 := HQ2.out wq hq; clear hq)
          | (go_at_call 16; refine (P5.out _ _ _ _ _ (by assumption) (by assumption) (And.left (by assumption))).mono ?_; rintro e wq ⟨rfl, hq⟩; have hs8 := HQ2.out wq hq; clear hq)
          | (go_at_call 17; refine (P6.out _ (And.left (by assumption))).mono ?_; rintro e wq ⟨rfl, hq⟩; have hs8 := HQ2.out wq hq; clear hq))
      have HBZ := Lib.hid (HB25.out.trans (hs8.1.mono HB25.out.size))
      clear hs0 hs8
      go_wp2
      go_ret
      exact ⟨rfl, HBZ.out⟩
    · have hor : at_ < 0 ∨ (l.length : Int) ≤ at_ := by have := HN.out; omega
      have HIN := Lib.hid (vinst_out at_ HC22.out hor)
      have heq := fun w => eq_in ⟨0, 0, 0, 0, 0⟩ ⟨0, 0, 0, 0, 0⟩ w
      rw [decide_eq_true rfl] at heq
      dsimp only at heq
      have hx22 := HX22.out
      have hor2 : at_ < 0 ∨ ¬ at_ < (n : Int) := by omega
      clear hat hor
      rcases hor2 with hlow | hhigh
      all_goals
        go_wp2_with fail
        refine HIN.out.mono ?_
        rintro e w23 ⟨rfl, hb23⟩
        obtain ⟨w24, hw24⟩ : ∃ w24, w23.alloc (.cells #[.int .i64 0, .int .i64 0, .int .i64 0, .int .i64 0, .int .i64 0] 60) = w24 := ⟨_, rfl⟩
        have hb24 : Below w23.heap.size w23 w24 := by rw [← hw24]; exact (Below.refl _ _).alloc (Nat.le_refl _) _
        have hbb := hb23.trans (hb24.mono hb23.size)
        have HC24 := Lib.hid (HC22.out.below hbb (Nat.le_refl _))
        have HB24 := Lib.hid (HB22.out.trans (hbb.mono HB22.out.size))
        have HX24 := Lib.hid ((hbb.block W.heap.size (Array.getElem?_eq_some_iff.1 HX22.out).1).trans HX22.out)
        have hx23 := (hb23.block W.heap.size (Array.getElem?_eq_some_iff.1 HX22.out).1).trans HX22.out
        have xa : ∀ o : Obj, (w23.alloc o).cell? ⟨W.heap.size, 0, none⟩ = some (.slice a n cap) := fun o => by
          have h9 := (Below.heap_alloc w23 o W.heap.size (Array.getElem?_eq_some_iff.1 hx23).1).trans hx23
          exact blkp h9 0
        have HW24 := Lib.hid hw24
        clear hb23 hb24 hbb hw24 hx23 hx22
        go_wp2_with fail
        rw [HW24.out]
        obtain ⟨w25, hw25⟩ : ∃ w25, w24 = w25 := ⟨_, rfl⟩
        have hheap : w25.heap = w24.heap := by rw [hw25]
        have HB25 : Hid (Below W.heap.size W w25) := Lib.hid (by rw [← hw25]; exact HB24.out)
        rw [hw25]
        clear hw25 xa heq
        have hh25 : w25.heap = w24.heap := hheap
        have HC25 : Hid (CkOn w25 G v6 l sn sl W5.heap.size) := Lib.hid (HC24.out.keep (by rw [hh25]) fun _ _ => by rw [hh25])
        have hx25 : w25.heap[W.heap.size]? = some (.cells #[.slice a n cap, .int .i64 (sn : Int), .int .i64 sl] 46 (0, 0)) := by rw [hh25]; exact HX24.out
        have HX25 := Lib.hid hx25
        have HQ2 : Hid (∀ w, Below w25.heap.size w25 w → (Below w25.heap.size w25 w ∧ w.cell? ⟨W.heap.size, 0, none⟩ = some (.slice a n cap) ∧ w.cell? ⟨W.heap.size, 1, none⟩ = some (.int .i64 (sn : Int)) ∧ w.cell? ⟨W.heap.size, 2, none⟩ = some (.int .i64 sl))) := Lib.hid (fun w hb => by
          have h9 := (hb.block W.heap.size (Array.getElem?_eq_some_iff.1 HX25.out).1).trans HX25.out
          exact ⟨hb, blkp h9 0, blkp h9 1, blkp h9 2⟩)
        have P1 : Hid (∀ w, Below w25.heap.size w25 w → Calls Tryd.prog 23 #[.pointer (some ⟨G, 0, none⟩)] w fun e w' => ∃ uz uc, e = .returned (.agg #[.slice uz n uc, .int .i64 (sn : Int), .int .i64 sl]) ∧ InRow w' (.slice uz n uc) l ∧ Below w25.heap.size w25 w') := Lib.hid (fun w hb => by
          refine (vprog_any (HC25.out.below hb (Nat.le_refl _))).mono ?_
          rintro e w' ⟨uu, rfl, h1, h2⟩
          obtain ⟨ua, uc, hu⟩ := h1.slice
          rw [HN.out] at hu
          subst hu
          exact ⟨ua, uc, rfl, in_row h1 (by have := HL4.out; omega) (ok_bd (chkV_ok HZ.out).1), hb.trans (h2.mono hb.size)⟩)
        have P2 : Hid (∀ w uz uc, InRow w (.slice uz n uc) l → Below w25.heap.size w25 w → Calls Tryd.prog 24 #[.agg #[.slice uz n uc, .int .i64 (sn : Int), .int .i64 sl], .agg #[.slice a n cap, .int .i64 (sn : Int), .int .i64 sl]] w fun e w' => e = .returned (.bool true) ∧ Below w25.heap.size w25 w') := Lib.hid (fun w uz uc hu hb => by
          refine (sameProg_any w _ _ l l sn sl sn sl hu (HRW.out w (HB25.out.trans (hb.mono HB25.out.size)))).mono ?_
          rintro e w' ⟨h1, h2⟩
          rw [decide_eq_true ⟨rfl, rfl, rfl⟩] at h1
          exact ⟨h1, hb.trans (h2.mono hb.size)⟩)
        have P3 : Hid (∀ w, Below w25.heap.size w25 w → Calls Tryd.prog 28 #[.pointer (some ⟨G, 0, none⟩)] w fun e w' => ∃ va vc, e = .returned (.slice va n vc) ∧ IRow w' (.slice va n vc) ((ordF l).map Int.ofNat) ∧ Below w25.heap.size w25 w') := Lib.hid (fun w hb => by
          refine (vorder_any (HC25.out.below hb (Nat.le_refl _)) (HEV.out w (HB25.out.trans (hb.mono HB25.out.size)))).mono ?_
          rintro e w' ⟨vv, rfl, h1, h2⟩
          obtain ⟨va, vc, hv⟩ := IOwn.sl h1
          rw [List.length_map, (chkV_ok HZ.out).2.2.2, HN.out] at hv
          subst hv
          exact ⟨va, vc, rfl, IOwn.row h1, hb.trans (h2.mono hb.size)⟩)
        have P4 : Hid (∀ w va vc, IRow w (.slice va n vc) ((ordF l).map Int.ofNat) → Below w25.heap.size w25 w → Calls Tryd.prog 30 #[.agg #[.slice a n cap, .int .i64 (sn : Int), .int .i64 sl]] w fun e w' => ∃ ya yc, e = .returned (.slice ya n yc) ∧ IRow w' (.slice va n vc) ((ordF l).map Int.ofNat) ∧ IRow w' (.slice ya n yc) ((ordF l).map Int.ofNat) ∧ Below w25.heap.size w25 w') := Lib.hid (fun w va vc hv hb => by
          refine (rorder_any l sn sl _ w (HRW.out w (HB25.out.trans (hb.mono HB25.out.size))) HT.out HL4.out).mono ?_
          rintro e w' ⟨vv, rfl, h1, h2⟩
          obtain ⟨ya, yc, hy⟩ := IOwn.sl h1
          rw [List.length_map, (chkV_ok HZ.out).2.2.2, HN.out] at hy
          subst hy
          exact ⟨ya, yc, rfl, hv.below (Nat.le_refl _) h2, IOwn.row h1, hb.trans (h2.mono hb.size)⟩)
        have P5 : Hid (∀ w va vc ya yc, IRow w (.slice va n vc) ((ordF l).map Int.ofNat) → IRow w (.slice ya n yc) ((ordF l).map Int.ofNat) → Below w25.heap.size w25 w → Calls Tryd.prog 16 #[.slice va n vc, .slice ya n yc] w fun e w' => e = .returned (.bool true) ∧ Below w25.heap.size w25 w') := Lib.hid (fun w va vc ya yc hv hy hb => by
          have hOl : ((ordF l).map Int.ofNat).length ≤ 8796093022208 := by rw [List.length_map, (chkV_ok HZ.out).2.2.2]; have := HL4.out; omega
          refine (same_int w _ _ _ _ hv hy hOl hOl).mono ?_
          rintro e w' ⟨h1, d, h2⟩
          rw [decide_eq_true rfl] at h1
          exact ⟨h1, by rw [h2]; exact below_drewN hb d⟩)
        have P6 : Hid (∀ w, Below w25.heap.size w25 w → Calls Tryd.prog 17 #[] w fun e w' => e = .returned (.bool true) ∧ Below w25.heap.size w25 w') := Lib.hid (fun w hb => (HWK.out w (HB25.out.trans (hb.mono HB25.out.size))).mono fun e w' h => ⟨h.1, hb.trans (h.2.mono hb.size)⟩)
        clear hh25 hheap hx25
        have hs0 := HQ2.out w25.drew (Below.refl _ _).drew
        go_region_held3 (fun w' => Below w25.heap.size w25 w' ∧ w'.cell? ⟨W.heap.size, 0, none⟩ = some (.slice a n cap) ∧ w'.cell? ⟨W.heap.size, 1, none⟩ = some (.int .i64 (sn : Int)) ∧ w'.cell? ⟨W.heap.size, 2, none⟩ = some (.int .i64 sl))
          (first | assumption | go_keep)
          (first
            | (go_at_call 23; refine (P1.out _ (And.left (by assumption))).mono ?_; rintro e wq ⟨uz, uc, rfl, hu9, hq⟩; have hs8 := HQ2.out wq hq; clear hq)
            | (go_at_call 24; refine (P2.out _ _ _ (by assumption) (And.left (by assumption))).mono ?_; rintro e wq ⟨rfl, hq⟩; have hs8 := HQ2.out wq hq; clear hq)
            | (go_at_call 28; refine (P3.out _ (And.left (by assumption))).mono ?_; rintro e wq ⟨va, vc, rfl, hv9, hq⟩; have hs8 := HQ2.out wq hq; clear hq)
            | (go_at_call 30; refine (P4.out _ _ _ (by assumption) (And.left (by assumption))).mono ?_; rintro e wq ⟨ya, yc, rfl, hv10, hy10, hq⟩; have hs8 := HQ2.out wq hq; clear hq)
            | (go_at_call 16; refine (P5.out _ _ _ _ _ (by assumption) (by assumption) (And.left (by assumption))).mono ?_; rintro e wq ⟨rfl, hq⟩; have hs8 := HQ2.out wq hq; clear hq)
            | (go_at_call 17; refine (P6.out _ (And.left (by assumption))).mono ?_; rintro e wq ⟨rfl, hq⟩; have hs8 := HQ2.out wq hq; clear hq))
        have HBZ := Lib.hid (HB25.out.trans (hs8.1.mono HB25.out.size))
        clear hs0 hs8
        go_wp2
        go_ret
        exact ⟨rfl, HBZ.out⟩
end Pgm
end Go.Proofs.YtchcjinaagncjaaDoor
