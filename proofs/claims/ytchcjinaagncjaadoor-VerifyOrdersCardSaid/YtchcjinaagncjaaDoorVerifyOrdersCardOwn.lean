/- burinlaw16.VerifyOrders: the walk. -/
import Derived.Test.YtchcjinaagncjaaDoorGp26
import Derived.Test.YtchcjinaagncjaaDoorGp27
import Derived.BigQuiet
namespace Go.Proofs.YtchcjinaagncjaaDoor
open Go.RowKit
set_option linter.unusedVariables false
set_option linter.unusedSimpArgs false
namespace Pgm
theorem nxL_in {l : List In} (hT : Tg l) {k : Nat} (hk : k < l.length) {q : Nat} (hq : q < (nxL l[k]).length) : ∃ t : Nat, (nxL l[k])[q] = (t : Int) ∧ t < l.length ∧ t ∈ inst l k := by
  have hm := (nxL_mem l[k] _).1 (List.getElem_mem hq)
  have hz2 : (nxL l[k])[q] ∈ tgL l[k] := by
    unfold etL at hm
    split at hm
    · cases hm
    · exact hm
  obtain ⟨h1, h2⟩ := hT _ (List.getElem_mem hk) _ hz2
  refine ⟨(nxL l[k])[q].toNat, by omega, by omega, ?_⟩
  rw [inst_at hk]
  exact List.mem_map.2 ⟨_, hm, rfl⟩
set_option maxRecDepth 100000 in
set_option maxHeartbeats 8000000 in
theorem walkVerifyOrders (W : World) (u : Value) (l : List In) (st sl : Int) (hr : InRow W u l) (hst : I64 st) (hsl : I64 sl) (hE : EvV W) :
    Calls Tryd.prog 6 #[.agg #[u, .int .i64 st, .int .i64 sl]] W fun e w' => e = .returned (.bool true) ∧ Below W.heap.size W w' := by
  have HRW : Hid (∀ w, Below W.heap.size W w → InRow w u l) := Lib.hid (fun w h => hr.below (Nat.le_refl _) h)
  have HEV : Hid (∀ w, Below W.heap.size W w → EvV w) := Lib.hid (fun w h => hE.below (Nat.le_refl _) h)
  have HWK : Hid (∀ w, Below W.heap.size W w → Calls Tryd.prog 17 #[] w fun e w' => e = .returned (.bool true) ∧ Below w.heap.size w w') := Lib.hid (fun w h => works16_any w (hE.below (Nat.le_refl _) h))
  obtain ⟨a, cap, e0, hlm, hbd, hcc⟩ := (show ∃ a cap, u = .slice a l.length cap ∧ _ from hr)
  obtain ⟨n, hn⟩ : ∃ n, l.length = n := ⟨_, rfl⟩
  rw [hn] at e0 hlm
  subst e0
  obtain ⟨B, hB⟩ : ∃ B, W.heap.size = B := ⟨_, rfl⟩
  obtain ⟨W1, hW1⟩ : ∃ W1, W.alloc (.cells #[.slice a n cap, .int .i64 st, .int .i64 sl] 46) = W1 := ⟨_, rfl⟩
  have hx1 : W1.heap[B]? = some (.cells #[.slice a n cap, .int .i64 st, .int .i64 sl] 46 (0, 0)) := by rw [← hW1, ← hB]; exact heap_alloc_new W _
  have hb1 : Below B W W1 := by rw [← hW1, ← hB]; exact (Below.refl _ _).alloc (Nat.le_refl _) _
  rw [hB] at HRW HEV HWK
  have HX1 := Lib.hid hx1
  have HB1 := Lib.hid hb1
  have HW1 := Lib.hid hW1
  have HN := Lib.hid hn
  have HBS := Lib.hid hB
  have HC := Lib.hid hcc
  have HSZ : Hid (∀ w, Below B W w → B ≤ w.heap.size) := Lib.hid (fun w h => by have := h.size; rw [hB] at this; exact this)
  have n0 : (0 : Int) ≤ (n : Int) := by omega
  rw [hB]
  clear hr hE hn hW1 hx1 hb1 hB hcc hbd
  go_enter Tryd.func6, Tryd.ntmps6
  go_wp2_with fail
  rw [HW1.out, HBS.out]
  refine (HWK.out W1 HB1.out).mono ?_
  rintro e w2 ⟨rfl, hb2⟩
  have hx2 := (hb2.block B (Array.getElem?_eq_some_iff.1 HX1.out).1).trans HX1.out
  have HB2 : Hid (Below B W w2) := Lib.hid (HB1.out.trans (hb2.mono (HSZ.out _ HB1.out)))
  have HX2 := Lib.hid hx2
  have c0 := blkp hx2 0
  have c1 := blkp hx2 1
  have c2 := blkp hx2 2
  simp only [List.getElem?_toArray, List.getElem?_cons_zero, List.getElem?_cons_succ] at c0 c1 c2
  clear hb2 hx2
  by_cases h200 : 200 < n
  · have h200' : (200 : Int) < (n : Int) := by omega
    go_wp2
    go_ret
    exact ⟨rfl, HB2.out⟩
  have h200' : ¬ (200 : Int) < (n : Int) := by omega
  by_cases hck : chkV l st sl = 0
  · have HNY := Lib.hid (new_yes l st sl _ w2 (HRW.out _ HB2.out) (HEV.out _ HB2.out) hck)
    obtain ⟨k1, k2, k3, k4⟩ := chkV_ok hck
    obtain ⟨hT, t2, t3⟩ := tg_of k1 k2
    have HT := Lib.hid hT
    have HK4 := Lib.hid k4
    clear hck k1 k2 k3 k4 hT t2 t3
    go_wp2_with fail
    refine HNY.out.mono ?_
    rintro e w3 ⟨G, v, rfl, hck3, hb3⟩
    have HCK := Lib.hid hck3
    have hx3 := (hb3.block B (Array.getElem?_eq_some_iff.1 HX2.out).1).trans HX2.out
    have HB3 : Hid (Below B W w3) := Lib.hid (HB2.out.trans (hb3.mono (HSZ.out _ HB2.out)))
    have HX3 := Lib.hid hx3
    have d0 := blkp hx3 0
    simp only [List.getElem?_toArray, List.getElem?_cons_zero] at d0
    have hmk := make_nums n (by omega) w3
    have hmd := nums_made n w3
    obtain ⟨C, hC⟩ : ∃ C, madeCells (#[.int .i64 0] : Array Value) (n * 1) = C := ⟨_, rfl⟩
    rw [hC] at hmk hmd
    obtain ⟨w4, hw4⟩ : ∃ w4, w3.alloc (.cells C 3) = w4 := ⟨_, rfl⟩
    have hb4 : Below w3.heap.size w3 w4 := by rw [← hw4]; exact (Below.refl _ _).alloc (Nat.le_refl _) _
    rw [hw4] at hmk hmd
    obtain ⟨P, hP⟩ : ∃ P, w3.heap.size = P := ⟨_, rfl⟩
    have HPS := Lib.hid hP
    have HM4 := Lib.hid hmd
    have HB4 : Hid (Below B W w4) := Lib.hid (HB3.out.trans (hb4.mono (HSZ.out _ HB3.out)))
    have hBP : B < P := by rw [← hP]; exact (Array.getElem?_eq_some_iff.1 hx3).1
    have HX4 : Hid (w4.heap[B]? = some (.cells #[.slice a n cap, .int .i64 st, .int .i64 sl] 46 (0, 0))) := Lib.hid ((hb4.block B (by rw [hP]; exact hBP)).trans hx3)
    have HC4 := Lib.hid (hck3.below hb4 (Nat.le_refl _))
    have HOR := Lib.hid (vorder_any HC4.out (HEV.out _ HB4.out))
    clear hck3 hb3 hx3 hb4 hw4 hC hmd hP c0 c1 c2
    go_wp2_with fail
    refine HOR.out.mono ?_
    rintro e w5 ⟨u5, rfl, ho5, hb5⟩
    obtain ⟨a5, d5, e5, hrd5⟩ := io_rd ho5
    rw [List.length_map, HK4.out, HN.out] at e5
    subst e5
    rw [HPS.out]
    have hm4 := HM4.out
    rw [HPS.out] at hm4
    have hPl := hm4.lt
    have HRD := Lib.hid hrd5
    have HM5 : Hid (Nums w5 P n (plc (ordF l) 0)) := Lib.hid ((hm4.below hb5 hPl).cong fun s _ => (plc_zero _ _).symm)
    have HX5 := Lib.hid ((hb5.block B (by omega)).trans HX4.out)
    have HB5 : Hid (Below B W w5) := Lib.hid (HB4.out.trans (hb5.mono (HSZ.out _ HB4.out)))
    have HL5 : Hid (P < w4.heap.size) := Lib.hid hPl
    clear ho5 hrd5 hb5 hm4 hPl hmk d0
    go_wp2
    go_loopw [34] (fun K wr => ∃ k : Nat, k ≤ n ∧ K = .int .i64 (k : Int) ∧ Hid (Nums wr P n (plc (ordF l) k)) ∧ Hid (Nrd wr a5 ((ordF l).map Int.ofNat) w4.heap.size) ∧ Hid (wr.heap[B]? = some (.cells #[.slice a n cap, .int .i64 st, .int .i64 sl] 46 (0, 0))) ∧ Hid (Below B W wr)) (fun K _ => n - (intOf K).toNat)
    case atStart => exact ⟨0, by omega, rfl, HM5, HRD, HX5, HB5⟩
    case round =>
      obtain ⟨k, hk, rfl, HM, HR, HX, HB⟩ := hrel
      by_cases hlt : k < n
      · have hko : k < (ordF l).length := by rw [HK4.out, HN.out]; exact hlt
        obtain ⟨b5, rfl, hlo, hbl, hc5⟩ := HR.out k (by rw [List.length_map]; exact hko)
        rw [List.getElem_map] at hc5
        have HST := Lib.hid (plc_step (ordF_inv l).nd hko)
        have hnw := plc_new (ordF_inv l).nd hko
        have htl := (ordF_inv l).lt _ (List.getElem_mem hko)
        rw [HN.out] at htl
        obtain ⟨t, ht⟩ : ∃ t, (ordF l)[k] = t := ⟨_, rfl⟩
        rw [ht] at hc5 HST hnw htl
        have hc5' : wr.cell? ⟨b5, k, none⟩ = some (.int .i64 (t : Int)) := hc5
        obtain ⟨p1, p2⟩ := HM.out.cell htl
        rw [hnw] at p1
        have HM6 := Lib.hid ((HM.out.set t ((k : Int) + 1)).cong fun s _ => HST.out s)
        have HR6 := Lib.hid (fun z => HR.out.set (k := t) HL5.out z)
        have HX6 := Lib.hid (fun z => (heap_setCell_other wr ⟨P, t, none⟩ B z (by show ¬ B = P; omega)).trans HX.out)
        have HB6 := Lib.hid (fun z => HB.out.setCell (p := ⟨P, t, none⟩) (by show B ≤ P; omega) z)
        have t0 : (0 : Int) ≤ (t : Int) := by omega
        have t1 : (t : Int) < (n : Int) := by omega
        have t2 : ¬ (t : Int) < 0 := by omega
        have t3 : ¬ (n : Int) ≤ (t : Int) := by omega
        have k0 : (0 : Int) ≤ (k : Int) := by omega
        have k1 : (k : Int) < (n : Int) := by omega
        clear hc5 hnw ht
        go_wp2
        go_roundw
        case rel => exact ⟨k + 1, by omega, by go_num, HM6, HR6.out _, HX6.out _, HB6.out _⟩
        case measure => simp [intOf]; omega
      · obtain rfl : k = n := by omega
        have HPA : Hid (∀ t, t < k → plc (ordF l) k t = (pos (ordF l) t : Int) + 1) := Lib.hid (fun t ht => by
          have := plc_all HK4.out (t := t) (by rw [HN.out]; exact ht)
          rw [HN.out] at this
          exact this)
        have HM7 : Hid (Nums wr P k (fun t => (pos (ordF l) t : Int) + 1)) := Lib.hid (HM.out.cong HPA.out)
        have c0 := blkp HX.out 0
        simp only [List.getElem?_toArray, List.getElem?_cons_zero] at c0
        go_wp2
        go_loopw [63] (fun K wq => ∃ i : Nat, i ≤ k ∧ K = .int .i64 (i : Int) ∧ Hid (Nums wq P k (fun t => (pos (ordF l) t : Int) + 1)) ∧ Hid (Below B W wq)) (fun K _ => k - (intOf K).toNat)
        case atStart => exact ⟨0, by omega, rfl, HM7, HB⟩
        case round =>
          obtain ⟨i, hi, rfl, HM, HB⟩ := hrel
          by_cases hlt : i < k
          · have hil : i < l.length := by rw [HN.out]; exact hlt
            obtain ⟨b, off, rfl, hbl, hcc⟩ := HC.out i hil
            obtain ⟨y, hy⟩ : ∃ y, l[i] = y := ⟨_, rfl⟩
            have HIN : Hid (∀ q (hq : q < (nxL y).length), ∃ t : Nat, (nxL y)[q] = (t : Int) ∧ t < k ∧ pos (ordF l) i < pos (ordF l) t) := Lib.hid (fun q hq => by
              subst hy
              obtain ⟨t, h1, h2, h3⟩ := nxL_in HT.out hil hq
              exact ⟨t, h1, by rw [← HN.out]; exact h2, pos_edge HT.out HK4.out hil h3⟩)
            rw [hy] at hcc
            have kc : ∀ q, q < 5 → wr.cell? ⟨b, off + i * 5 + q, none⟩ = y.cs[q]? := fun q hq => (HB.out.cell (p := ⟨b, off + i * 5 + q, none⟩) (by show b < B; rw [← HBS.out]; exact hbl)).trans (hcc q hq)
            have q0 := kc 0 (by omega)
            have q1 := kc 1 (by omega)
            have q2 := kc 2 (by omega)
            have q3 := kc 3 (by omega)
            have q4 := kc 4 (by omega)
            simp only [In.cs, List.getElem?_cons_zero, List.getElem?_cons_succ, Nat.add_zero] at q0 q1 q2 q3 q4
            obtain ⟨p1, p2⟩ := HM.out.cell hlt
            obtain ⟨z, hz⟩ : ∃ z, pos (ordF l) i = z := ⟨_, rfl⟩
            rw [hz] at p1 HIN
            obtain ⟨w6, hw6⟩ : ∃ w6, wr.alloc (.cells #[.int .i64 y.op, .int .i64 y.lo, .int .i64 y.hi, .int .i64 y.x, .int .i64 y.y] 60) = w6 := ⟨_, rfl⟩
            have hb6 : Below wr.heap.size wr w6 := by rw [← hw6]; exact (Below.refl _ _).alloc (Nat.le_refl _) _
            have hnew := inst_block wr y
            rw [hw6] at hnew
            have HNX := Lib.hid (next16_any y w6)
            have hPl := HM.out.lt
            have HM6 := Lib.hid (HM.out.below hb6 hPl)
            have HB6 : Hid (Below B W w6) := Lib.hid (HB.out.trans (hb6.mono (HSZ.out _ HB.out)))
            have hs6 := hb6.size
            have p1' : w6.cell? ⟨P, i, none⟩ = some (.int .i64 ((z : Int) + 1)) := (hb6.cell (p := ⟨P, i, none⟩) hPl).trans p1
            have HW6 := Lib.hid hw6
            have d0 := blkp hnew 0
            have d1 := blkp hnew 1
            have d2 := blkp hnew 2
            have d3 := blkp hnew 3
            have d4 := blkp hnew 4
            simp only [List.getElem?_toArray, List.getElem?_cons_zero, List.getElem?_cons_succ] at d0 d1 d2 d3 d4
            have i0 : (0 : Int) ≤ (i : Int) := by omega
            have i1 : (i : Int) < (k : Int) := by omega
            have z1 : ¬ (z : Int) + 1 = 0 := by omega
            have HZ := Lib.hid hz
            have hzb : z ≤ 4000 := by
              have := pos_lt (ordF_all HK4.out hil)
              rw [HK4.out, HN.out, hz] at this
              omega
            clear kc hcc hy hw6 hnew hb6 hz hil
            go_wp2_with fail
            rw [HW6.out]
            refine HNX.out.mono ?_
            rintro e w7 ⟨v7, rfl, ho7, hb7⟩
            obtain ⟨a7, c7, rfl, hrd7⟩ := io_rd ho7
            have HR7 := Lib.hid hrd7
            have HM7 := Lib.hid (HM6.out.below hb7 (Nat.lt_of_lt_of_le hPl hs6))
            have HB7 : Hid (Below B W w7) := Lib.hid (HB6.out.trans (hb7.mono (HSZ.out _ HB6.out)))
            have hlen := nxL_len y
            obtain ⟨mm, hmm⟩ : ∃ mm, (nxL y).length = mm := ⟨_, rfl⟩
            have HME := Lib.hid hmm
            rw [hmm] at hlen ⊢
            clear ho7 hrd7 hb7 hmm q0 q1 q2 q3 q4 d0 d1 d2 d3 d4 p1 p1' p2
            go_wp2
            go_loopw [76] (fun Q wq => ∃ q : Nat, q ≤ mm ∧ Q = .int .i64 (q : Int) ∧ Hid (Nums wq P k (fun t => (pos (ordF l) t : Int) + 1)) ∧ Hid (Nrd wq a7 (nxL y) w6.heap.size) ∧ Hid (Below B W wq)) (fun Q _ => mm - (intOf Q).toNat)
            case atStart => exact ⟨0, by omega, rfl, HM7, HR7, HB7⟩
            case round =>
              obtain ⟨q, hq, rfl, HM, HR, HB⟩ := hrel
              by_cases hql : q < mm
              · have hqe : q < (nxL y).length := by rw [HME.out]; exact hql
                obtain ⟨t, ht, htk, hpt⟩ := HIN.out q hqe
                obtain ⟨b7, ha7, hlo7, hlt7, hc7⟩ := HR.out q hqe
                rw [ht] at hc7
                subst ha7
                obtain ⟨p1, p2⟩ := HM.out.cell htk
                obtain ⟨r1, r2⟩ := HM.out.cell (s := i) (by omega)
                obtain ⟨x, hx⟩ : ∃ x, pos (ordF l) t = x := ⟨_, rfl⟩
                rw [hx] at p1 hpt
                rw [HZ.out] at r1
                have hle : ¬ (x : Int) + 1 ≤ (z : Int) + 1 := by omega
                have hle2 : (z : Int) + 1 < (x : Int) + 1 := by omega
                have t0 : (0 : Int) ≤ (t : Int) := by omega
                have t1 : (t : Int) < (k : Int) := by omega
                have qq0 : (0 : Int) ≤ (q : Int) := by omega
                have qq1 : (q : Int) < (mm : Int) := by omega
                have hd : decide ((x : Int) + 1 ≤ (z : Int) + 1) = false := decide_eq_false hle
                clear hx p2 r2 hpt
                go_wp2
                go_region
                go_wp2
                go_roundw
                case rel => exact ⟨q + 1, by omega, by go_num, HM, HR, Lib.hid HB.out.drew⟩
                case measure => simp [intOf]; omega
              · obtain rfl : q = mm := by omega
                go_wp2
                go_roundw
                case rel => exact ⟨i + 1, by omega, by go_num, HM, HB⟩
                case measure => simp [intOf]; omega
          · obtain rfl : i = k := by omega
            go_wp2
            go_ret
            exact ⟨rfl, HB.out⟩
  · have HNO := Lib.hid (new_no l st sl _ w2 (HRW.out _ HB2.out) (HEV.out _ HB2.out) hck)
    obtain ⟨Z, hZ⟩ : ∃ Z, chkV l st sl = Z := ⟨_, rfl⟩
    rw [hZ] at HNO hck
    have hz : ¬ Z = 0 := hck
    clear hck hZ
    go_wp2_with fail
    refine HNO.out.mono ?_
    rintro e w3 ⟨rfl, hb3⟩
    have HB3 : Hid (Below B W w3) := Lib.hid (HB2.out.trans (hb3.mono (HSZ.out _ HB2.out)))
    clear hb3 c0 c1 c2
    go_wp2
    go_ret
    exact ⟨rfl, HB3.out⟩
end Pgm
end Go.Proofs.YtchcjinaagncjaaDoor
