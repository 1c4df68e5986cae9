/- burinref16: Check. -/
import Derived.Test.YtchcjinaagncjaaDoorGp25
import Derived.Test.YtchcjinaagncjaaDoorGp16
import Derived.Test.YtchcjinaagncjaaDoorGp18
import Derived.Test.YtchcjinaagncjaaDoorGp27
import Derived.BigQuiet
namespace Go.Proofs.YtchcjinaagncjaaDoor
open Go.RowKit
set_option linter.unusedVariables false
set_option linter.unusedSimpArgs false
namespace Pgm
def tgF (n : Nat) (i : In) : Bool := !((tgL i).any fun t => decide ((n : Int) ≤ t))
theorem tgF_ld (n : Nat) (i : In) : (ldL i).all (fun t => decide (t < (n : Int))) = tgF n i := by
  unfold tgF
  apply Bool.eq_iff_iff.2
  rw [List.all_eq_true, Bool.not_eq_true', List.any_eq_false]
  constructor
  · intro h t ht
    have := h t ((ldL_mem i t).2 ht)
    rw [decide_eq_true_iff] at this
    simp; omega
  · intro h t ht
    have := h t ((ldL_mem i t).1 ht)
    simp at this
    rw [decide_eq_true_iff]; omega
theorem tgB_is (l : List In) (st : Int) (n : Nat) (hn : l.length = n) : tgB l st = (decide (st < n) && l.all (tgF n)) := by
  subst hn
  unfold tgB tgF
  exact Bool.and_comm _ _
set_option maxRecDepth 100000 in
set_option maxHeartbeats 8000000 in
theorem rcheck_any (l : List In) (st sl : Int) (vs : Value) (W : World) (hr : InRow W vs l) :
    Calls Tryd.prog 19 #[.agg #[vs, .int .i64 st, .int .i64 sl]] W fun e w' => e = .returned (.int .i64 (chkV l st sl)) ∧ Below W.heap.size W w' := by
  have HRW : Hid (∀ w, Below W.heap.size W w → InRow w vs l) := Lib.hid (fun w h => hr.below (Nat.le_refl _) h)
  obtain ⟨a, cap, rfl, hlm, hbd, hcc⟩ := hr
  obtain ⟨n, hn⟩ : ∃ n, l.length = n := ⟨_, rfl⟩
  obtain ⟨B, hB⟩ : ∃ B, W.heap.size = B := ⟨_, rfl⟩
  obtain ⟨W1, hW1⟩ : ∃ W1, W.alloc (.cells #[.slice a n cap, .int .i64 st, .int .i64 sl] 46) = W1 := ⟨_, rfl⟩
  have hx1 : W1.heap[B]? = some (.cells #[.slice a n cap, .int .i64 st, .int .i64 sl] 46 (0, 0)) := by rw [← hW1, ← hB]; exact heap_alloc_new W _
  have hb1 : Below B W W1 := by rw [← hW1, ← hB]; exact (Below.refl _ _).alloc (Nat.le_refl _) _
  rw [hB, hn] at HRW
  have HX1 := Lib.hid hx1
  have HB1 := Lib.hid hb1
  have HW1 := Lib.hid hW1
  have HN := Lib.hid hn
  have HBS := Lib.hid hB
  have HC := Lib.hid hcc
  have HCK := Lib.hid (refChk14_any l st sl _ W1 (HRW.out W1 hb1))
  have HSZ : Hid (∀ w, Below B W w → B ≤ w.heap.size) := Lib.hid (fun w h => by have := h.size; rw [hB] at this; exact this)
  have c0 := blkp hx1 0
  have c1 := blkp hx1 1
  have c2 := blkp hx1 2
  simp only [List.getElem?_toArray, List.getElem?_cons_zero, List.getElem?_cons_succ] at c0 c1 c2
  have n0 : (0 : Int) ≤ (n : Int) := by omega
  rw [hn]
  rw [hB]
  by_cases hok : ¬ Ok l st sl
  · rw [chk_not hok] at HCK
    have HVV : Hid (chkV l st sl = 130) := Lib.hid (by unfold chkV; rw [if_neg hok])
    clear hW1 hx1 hb1 hcc hbd hlm hn hB hok
    go_enter Tryd.func19, Tryd.ntmps19
    go_wp2_with fail
    rw [HW1.out, HBS.out]
    refine HCK.out.mono ?_
    rintro e w2 ⟨rfl, hb2⟩
    have HB2 := Lib.hid (HB1.out.trans (hb2.mono (HSZ.out _ HB1.out)))
    clear hb2 c0 c1 c2
    go_wp2
    go_ret
    exact ⟨retv_code HVV.out.symm, HB2.out⟩
  have hok := Decidable.not_not.1 hok
  rw [chk_ok hok] at HCK
  have HOK := Lib.hid hok
  have HV : Hid (chkV l st sl = if tgB l st = true then (if slB l sl = true then (if (ordF l).length < n then 151 else 0) else 152) else 150) := Lib.hid (by unfold chkV; rw [if_pos hok, hn])
  have hl4 : n ≤ 4000 := by have := hok.2.1; omega
  have HTB := Lib.hid (tgB_is l st n hn)
  obtain ⟨R, hR⟩ : ∃ R, chkV l st sl = R := ⟨_, rfl⟩
  rw [hR] at HV ⊢
  clear hW1 hx1 hb1 hcc hbd hlm hn hok hR hB
  go_enter Tryd.func19, Tryd.ntmps19
  go_wp2_with fail
  rw [HW1.out, HBS.out]
  refine HCK.out.mono ?_
  rintro e w2 ⟨rfl, hb2⟩
  have hx2 := (hb2.block B (Array.getElem?_eq_some_iff.1 HX1.out).1).trans HX1.out
  have HB2 : Hid (Below B W w2) := Lib.hid (HB1.out.trans (hb2.mono (HSZ.out _ HB1.out)))
  have HX2 := Lib.hid hx2
  have d0 := blkp hx2 0
  have d1 := blkp hx2 1
  have d2 := blkp hx2 2
  simp only [List.getElem?_toArray, List.getElem?_cons_zero, List.getElem?_cons_succ] at d0 d1 d2
  clear hb2 hx2 c0 c1 c2
  have HX0 : Hid (decide (st < (n : Int)) = (decide (st < (n : Int)) && (l.take 0).all (tgF n))) := Lib.hid (by simp)
  go_wp2
  clear d0 d1 d2
  go_loopw [5, 6] (fun V K wr => ∃ (k : Nat) (X : Bool), k ≤ n ∧ K = .int .i64 (k : Int) ∧ V = .bool X ∧ Hid (X = (decide (st < (n : Int)) && (l.take k).all (tgF n))) ∧ Hid (wr.heap[B]? = some (.cells #[.slice a n cap, .int .i64 st, .int .i64 sl] 46 (0, 0))) ∧ Hid (Below B W wr)) (fun V K _ => n - (intOf K).toNat)
  case atStart => exact ⟨0, _, by omega, rfl, rfl, HX0, HX2, HB2⟩
  case round =>
    obtain ⟨k, X, hk, rfl, rfl, HXX, HX, HB⟩ := hrel
    have c0 := blkp HX.out 0
    have c1 := blkp HX.out 1
    have c2 := blkp HX.out 2
    simp only [List.getElem?_toArray, List.getElem?_cons_zero, List.getElem?_cons_succ] at c0 c1 c2
    by_cases hlt : k < n
    · have hkl : k < l.length := by rw [HN.out]; exact hlt
      obtain ⟨b, off, rfl, hbl, hcc⟩ := HC.out k hkl
      have HS := Lib.hid (all_snoc hkl (tgF n))
      obtain ⟨y, hy⟩ : ∃ y, l[k] = y := ⟨_, rfl⟩
      rw [hy] at hcc HS
      have kc : ∀ q, q < 5 → wr.cell? ⟨b, off + k * 5 + q, none⟩ = y.cs[q]? := fun q hq => (HB.out.cell (p := ⟨b, off + k * 5 + q, none⟩) (by show b < B; rw [← HBS.out]; exact hbl)).trans (hcc q hq)
      have q0 := kc 0 (by omega)
      have q1 := kc 1 (by omega)
      have q2 := kc 2 (by omega)
      have q3 := kc 3 (by omega)
      have q4 := kc 4 (by omega)
      simp only [In.cs, List.getElem?_cons_zero, List.getElem?_cons_succ, Nat.add_zero] at q0 q1 q2 q3 q4
      have HLD := Lib.hid (leads_any y wr)
      have hBl : B < wr.heap.size := (Array.getElem?_eq_some_iff.1 HX.out).1
      have k0 : (0 : Int) ≤ (k : Int) := by omega
      have k1 : (k : Int) < (n : Int) := by omega
      clear kc hcc hy hkl
      go_wp2_with fail
      refine HLD.out.mono ?_
      rintro e w5 ⟨v5, rfl, ho5, hb5⟩
      obtain ⟨a5, c5, rfl, hrd⟩ := io_rd ho5
      have HRD := Lib.hid hrd
      have HX5 := Lib.hid ((hb5.block B hBl).trans HX.out)
      have HB5 := Lib.hid (HB.out.trans (hb5.mono (Nat.le_of_lt hBl)))
      have hlen := ldL_len y
      obtain ⟨mm, hmm⟩ : ∃ mm, (ldL y).length = mm := ⟨_, rfl⟩
      have HME := Lib.hid hmm
      rw [hmm] at hlen ⊢
      have HXI : Hid (X = (X && ((ldL y).take 0).all (fun t => decide (t < (n : Int))))) := Lib.hid (by simp)
      clear ho5 hrd hb5 hmm q0 q1 q2 q3 q4 c0 c1 c2
      go_wp2
      go_loopw [5, 8] (fun V Q wq => ∃ (q : Nat) (Y : Bool), q ≤ mm ∧ Q = .int .i64 (q : Int) ∧ V = .bool Y ∧ Hid (Y = (X && ((ldL y).take q).all (fun t => decide (t < (n : Int))))) ∧ w5 = wq) (fun V Q _ => mm - (intOf Q).toNat)
      case atStart => exact ⟨0, X, by omega, rfl, rfl, HXI, rfl⟩
      case round =>
        obtain ⟨q, Y, hq, rfl, rfl, HY, rfl⟩ := hrel
        by_cases hql : q < mm
        · have hqe : q < (ldL y).length := by rw [HME.out]; exact hql
          have HTS := Lib.hid (all_snoc hqe (fun t => decide (t < (n : Int))))
          obtain ⟨b3, ha3, hlo3, hlt3, hc3⟩ := HRD.out q hqe
          obtain ⟨t, ht⟩ : ∃ t, (ldL y)[q] = t := ⟨_, rfl⟩
          rw [ht] at hc3 HTS
          subst ha3
          have qq0 : (0 : Int) ≤ (q : Int) := by omega
          have qq1 : (q : Int) < (mm : Int) := by omega
          clear ht
          cases Y with
          | true =>
            by_cases htn : t < (n : Int)
            · have HY2 : Hid (true = (X && ((ldL y).take (q + 1)).all (fun t => decide (t < (n : Int))))) := Lib.hid (by
                rw [HTS.out, decide_eq_true htn, Bool.and_true]; exact HY.out)
              go_wp2
              go_roundw
              case rel => first | exact ⟨q + 1, true, by omega, by go_num, rfl, HY2, by first | rfl | trivial⟩ | ((repeat apply Exists.intro); exact ⟨⟨q + 1, true, by omega, by go_num, rfl, HY2, by first | rfl | trivial⟩, rfl⟩)
              case measure => simp [intOf]; omega
            · have HY2 : Hid (false = (X && ((ldL y).take (q + 1)).all (fun t => decide (t < (n : Int))))) := Lib.hid (by
                rw [HTS.out, decide_eq_false htn, Bool.and_false, Bool.and_false])
              have htd : decide (t < (n : Int)) = false := decide_eq_false htn
              go_wp2
              go_roundw
              case rel => first | exact ⟨q + 1, false, by omega, by go_num, rfl, HY2, by first | rfl | trivial⟩ | ((repeat apply Exists.intro); exact ⟨⟨q + 1, false, by omega, by go_num, rfl, HY2, by first | rfl | trivial⟩, rfl⟩)
              case measure => simp [intOf]; omega
          | false =>
            have HY2 : Hid (false = (X && ((ldL y).take (q + 1)).all (fun t => decide (t < (n : Int))))) := Lib.hid (by
              rw [HTS.out, ← Bool.and_assoc, ← HY.out, Bool.false_and])
            go_wp2
            go_roundw
            case rel => first | exact ⟨q + 1, false, by omega, by go_num, rfl, HY2, by first | rfl | trivial⟩ | ((repeat apply Exists.intro); exact ⟨⟨q + 1, false, by omega, by go_num, rfl, HY2, by first | rfl | trivial⟩, rfl⟩)
            case measure => simp [intOf]; omega
        · obtain rfl : q = mm := by omega
          have HX9 : Hid (Y = (decide (st < (n : Int)) && (l.take (k + 1)).all (tgF n))) := Lib.hid (by
            rw [HY.out, List.take_of_length_le (by rw [HME.out]; exact Nat.le_refl _), tgF_ld, HS.out, HXX.out, Bool.and_assoc])
          go_wp2
          go_roundw
          case rel => first | exact ⟨k + 1, Y, by omega, by go_num, rfl, HX9, HX5, HB5⟩ | ((repeat apply Exists.intro); exact ⟨⟨k + 1, Y, by omega, by go_num, rfl, HX9, HX5, HB5⟩, rfl⟩)
          case measure => simp [intOf]; omega
    · obtain rfl : k = n := by omega
      have HXT : Hid (X = tgB l st) := Lib.hid (by
        rw [HXX.out, HTB.out, List.take_of_length_le (by rw [HN.out]; exact Nat.le_refl _)])
      cases X with
      | false =>
        have HVV : Hid (R = 150) := Lib.hid (by rw [HV.out, ← HXT.out, if_neg (by decide)])
        go_wp2
        go_ret
        exact ⟨retv_code HVV.out.symm, HB.out⟩
      | true =>
        have HV2 : Hid (R = if slB l sl = true then (if (ordF l).length < k then 151 else 0) else 152) := Lib.hid (by rw [HV.out, ← HXT.out, if_pos rfl])
        by_cases h2 : sl < 2
        · have HVV : Hid (R = 152) := Lib.hid (by
            rw [HV2.out, if_neg]
            unfold slB
            rw [decide_eq_false (by omega), Bool.false_and, Bool.false_and]; decide)
          go_wp2
          go_ret
          exact ⟨retv_code HVV.out.symm, HB.out⟩
        have h2' : ¬ sl < 2 := h2
        have e1 : sl.tmod 2 = sl % 2 := Int.tmod_eq_emod_of_nonneg (by omega)
        have s0 : 0 ≤ sl := by omega
        by_cases h3 : sl % 2 = 1
        · have HVV : Hid (R = 152) := Lib.hid (by
            rw [HV2.out, if_neg]
            unfold slB
            rw [decide_eq_false (show ¬ sl % 2 = 0 by omega), Bool.and_false, Bool.false_and]; decide)
          go_wp2
          go_ret
          exact ⟨retv_code HVV.out.symm, HB.out⟩
        have h3' : ¬ sl % 2 = 1 := h3
        have HSB : Hid (slB l sl = !(l.any (badS sl))) := Lib.hid (by
          unfold slB
          rw [decide_eq_true (show (2 : Int) ≤ sl by omega), decide_eq_true (show sl % 2 = 0 by omega), Bool.true_and, Bool.true_and])
        have HRO := Lib.hid (fun w (h : Below B W w) => rorder_any l st sl _ w (HRW.out w h) (tg_of HOK.out HXT.out.symm).1 (by rw [HN.out]; exact hl4))
        go_wp2
        clear c0 c1 c2
        go_loopw [9] (fun K wq => ∃ i : Nat, i ≤ k ∧ K = .int .i64 (i : Int) ∧ Hid ((l.take i).any (badS sl) = false) ∧ Hid (wq.heap[B]? = some (.cells #[.slice a k cap, .int .i64 st, .int .i64 sl] 46 (0, 0))) ∧ Hid (Below B W wq)) (fun K _ => k - (intOf K).toNat)
        case atStart => exact ⟨0, by omega, rfl, Lib.hid (by simp), HX, HB⟩
        case round =>
          obtain ⟨i, hi, rfl, HA, HX, HB⟩ := hrel
          have c0 := blkp HX.out 0
          have c1 := blkp HX.out 1
          have c2 := blkp HX.out 2
          simp only [List.getElem?_toArray, List.getElem?_cons_zero, List.getElem?_cons_succ] at c0 c1 c2
          by_cases hil0 : i < k
          · have hkl : i < l.length := by rw [HN.out]; exact hil0
            obtain ⟨b, off, rfl, hbl, hcc⟩ := HC.out i hkl
            have HS := Lib.hid (any_snoc hkl (badS sl))
            have HY := Lib.hid (any_at (f := badS sl) hkl)
            obtain ⟨y, hy⟩ : ∃ y, l[i] = y := ⟨_, rfl⟩
            rw [hy] at hcc HS HY
            have kc : ∀ q, q < 5 → wr.cell? ⟨b, off + i * 5 + q, none⟩ = y.cs[q]? := fun q hq => (HB.out.cell (p := ⟨b, off + i * 5 + q, none⟩) (by show b < B; rw [← HBS.out]; exact hbl)).trans (hcc q hq)
            have q0 := kc 0 (by omega)
            have q1 := kc 1 (by omega)
            simp only [In.cs, List.getElem?_cons_zero, List.getElem?_cons_succ, Nat.add_zero] at q0 q1
            have i0 : (0 : Int) ≤ (i : Int) := by omega
            have i1 : (i : Int) < (k : Int) := by omega
            have HBD : Hid (badS sl y = (decide (y.op = 3) && (decide (y.lo < 2) || decide (sl ≤ y.lo)))) := Lib.hid rfl
            clear kc hcc hy hkl
            by_cases ho : y.op = 3
            · rw [ho] at q0
              rw [decide_eq_true ho, Bool.true_and] at HBD
              clear ho
              by_cases hl2 : y.lo < 2
              · have HVV : Hid (R = 152) := Lib.hid (by
                  rw [HV2.out, if_neg]
                  rw [HSB.out, HY.out (by rw [HBD.out, decide_eq_true hl2]; rfl)]; decide)
                go_wp2_with fail
                have g1 : decide (y.lo < 2) = true := decide_eq_true hl2
                have g3 : y.lo < 2 := hl2
                go_quiet (fail)
                go_wp2
                go_ret
                exact ⟨retv_code HVV.out.symm, below_drewN HB.out nq⟩
              have hl2' : ¬ y.lo < 2 := hl2
              by_cases hl3 : sl ≤ y.lo
              · have HVV : Hid (R = 152) := Lib.hid (by
                  rw [HV2.out, if_neg]
                  rw [HSB.out, HY.out (by rw [HBD.out, decide_eq_true hl3, Bool.or_true])]; decide)
                go_wp2_with fail
                have g1 : decide (y.lo < 2) = false := decide_eq_false (by omega)
                have g3 : ¬ y.lo < 2 := by omega
                have g2 : decide (sl ≤ y.lo) = true := decide_eq_true (by omega)
                go_quiet (fail)
                go_wp2
                go_ret
                exact ⟨retv_code HVV.out.symm, below_drewN HB.out nq⟩
              · have hl3' : ¬ sl ≤ y.lo := hl3
                have HA2 : Hid ((l.take (i + 1)).any (badS sl) = false) := Lib.hid (by rw [HS.out, HA.out, HBD.out, decide_eq_false hl2, decide_eq_false hl3]; rfl)
                go_wp2_with fail
                have g1 : decide (y.lo < 2) = false := decide_eq_false (by omega)
                have g3 : ¬ y.lo < 2 := by omega
                have g2 : decide (sl ≤ y.lo) = false := decide_eq_false (by omega)
                have g4 : ¬ sl ≤ y.lo := by omega
                go_quiet (fail)
                go_wp2
                go_roundw
                case rel => exact ⟨i + 1, by omega, by go_num, HA2, HX, Lib.hid (below_drewN HB.out nq)⟩
                case measure => simp [intOf]; omega
            · have ho' : ¬ y.op = 3 := ho
              have HA2 : Hid ((l.take (i + 1)).any (badS sl) = false) := Lib.hid (by rw [HS.out, HA.out, HBD.out, decide_eq_false ho]; rfl)
              go_wp2_with fail
              have g1 : decide (y.op = 3) = false := decide_eq_false ho
              have g2 : (y.op == 3) = false := beq_eq_false_iff_ne.2 ho
              have g3 : ¬ y.op = 3 := ho
              go_quiet (fail)
              go_wp2
              go_roundw
              case rel => exact ⟨i + 1, by omega, by go_num, HA2, HX, Lib.hid (below_drewN HB.out nq)⟩
              case measure => simp [intOf]; omega
          · obtain rfl : i = k := by omega
            have HV3 : Hid (R = if (ordF l).length < i then 151 else 0) := Lib.hid (by
              have := HA.out
              rw [List.take_of_length_le (by rw [HN.out]; exact Nat.le_refl _)] at this
              rw [HV2.out, HSB.out, this, if_pos (show (!false) = true from rfl)])
            have HRO2 := Lib.hid (HRO.out wr HB.out)
            have hbs := HSZ.out _ HB.out
            have hol : (ordF l).length ≤ i := by rw [← HN.out]; exact (ordF_inv l).len
            go_wp2_with fail
            refine HRO2.out.mono ?_
            rintro e w6 ⟨v6, rfl, ho6, hb6⟩
            obtain ⟨a6, c6, e6⟩ := IOwn.sl ho6
            rw [List.length_map] at e6
            subst e6
            have HB6 := Lib.hid (HB.out.trans (hb6.mono hbs))
            obtain ⟨OL, hOL⟩ : ∃ OL, (ordF l).length = OL := ⟨_, rfl⟩
            rw [hOL] at HV3 hol ⊢
            clear ho6 hb6 hOL c0 c1 c2
            by_cases hlt9 : OL < i
            · have HVV : Hid (R = 151) := Lib.hid (by rw [HV3.out, if_pos hlt9])
              have hlt' : (OL : Int) < (i : Int) := by omega
              go_wp2
              go_ret
              exact ⟨retv_code HVV.out.symm, HB6.out⟩
            · have HVV : Hid (R = 0) := Lib.hid (by rw [HV3.out, if_neg hlt9])
              have hlt' : ¬ (OL : Int) < (i : Int) := by omega
              go_wp2
              go_ret
              exact ⟨retv_code HVV.out.symm, HB6.out⟩
end Pgm
end Go.Proofs.YtchcjinaagncjaaDoor
