/- The law RangesSets, walked. -/
import Derived.Test.YtimllajokjebeaaRnX
import Derived.Test.YtimllajokjebeaaRgSets
namespace Go.Proofs.Ytimllajokjebeaa
open Go.RowKit
set_option linter.unusedVariables false
theorem same_refl_row (W : World) (va vb : Value) (l m : List (Int × Int)) (ha : RRow W va l) (hb : RRow W vb m) (e : l = m) :
    Calls Try.prog 11 #[va, vb] W fun e W' => e = .returned (.bool true) ∧ Below W.heap.size W W' := by
  subst e
  refine (same_rg W va vb l l ha hb).mono ?_
  rintro e w' ⟨rfl, d, rfl⟩
  exact ⟨by rw [decide_eq_true rfl], below_drewN (Below.refl _ _) d⟩
set_option maxRecDepth 100000 in
set_option maxHeartbeats 8000000 in
theorem sets_core (W : World) (a b : List (Int × Int)) (sa sb : Option Addr) (n m ca cb : Nat) (hn : n ≤ 60) (hm : m ≤ 60) (ha : RRow W (.slice sa n ca) a) (hb : RRow W (.slice sb m cb) b) :
    Calls Try.prog 7 #[.slice sa n ca, .slice sb m cb] W fun e w' => e = .returned (.bool true) ∧ Below W.heap.size W w' := by
  have D0 := Lib.hid (Below.refl W.heap.size W)
  have HA0 := Lib.hid ha
  have HB0 := Lib.hid hb
  clear ha hb
  go_enter Try.func7, Try.ntmps7
  go_wp2_with fail
  refine (works_any _).mono ?_
  rintro e w1 ⟨rfl, hb⟩
  have HA1 := Lib.hid (HA0.out.below (Nat.le_refl _) hb)
  have HB1 := Lib.hid (HB0.out.below (Nat.le_refl _) hb)
  have D1 := Lib.hid (D0.out.trans (hb.mono D0.out.size))
  clear hb HA0 HB0
  go_wp2_with fail
  refine (union_any _ _ _ a b HA1.out HB1.out).mono ?_
  rintro e w2 ⟨vu, ou, rfl, hm, ho, hb⟩
  have HA2 := Lib.hid (HA1.out.below (Nat.le_refl _) hb)
  have HB2 := Lib.hid (HB1.out.below (Nat.le_refl _) hb)
  have D2 := Lib.hid (D1.out.trans (hb.mono D1.out.size))
  have Mu := Lib.hid hm
  have Ru2 := Lib.hid (ho.normRow hm.norm)
  clear hm ho
  clear hb HA1 HB1
  go_wp2_with fail
  refine (both_any _ _ _ a b HA2.out HB2.out).mono ?_
  rintro e w3 ⟨vv, ov, rfl, hm, ho, hb⟩
  have HA3 := Lib.hid (HA2.out.below (Nat.le_refl _) hb)
  have HB3 := Lib.hid (HB2.out.below (Nat.le_refl _) hb)
  have Ru3 := Lib.hid (Ru2.out.below (Nat.le_refl _) hb)
  have D3 := Lib.hid (D2.out.trans (hb.mono D2.out.size))
  have Mv := Lib.hid hm
  have Rv3 := Lib.hid (ho.normRow hm.norm)
  clear hm ho
  clear hb HA2 HB2 Ru2
  go_wp2_with fail
  refine (not_any _ _ ou Ru3.out).mono ?_
  rintro e w4 ⟨vnu, onu, rfl, hm, ho, hb⟩
  have HA4 := Lib.hid (HA3.out.below (Nat.le_refl _) hb)
  have HB4 := Lib.hid (HB3.out.below (Nat.le_refl _) hb)
  have Ru4 := Lib.hid (Ru3.out.below (Nat.le_refl _) hb)
  have Rv4 := Lib.hid (Rv3.out.below (Nat.le_refl _) hb)
  have D4 := Lib.hid (D3.out.trans (hb.mono D3.out.size))
  have Mnu := Lib.hid hm
  have Rnu4 := Lib.hid (ho.normRow hm.norm)
  clear hm ho
  clear hb HA3 HB3 Ru3 Rv3
  go_wp2_with fail
  refine (not_any _ _ a HA4.out).mono ?_
  rintro e w5 ⟨vna, ona, rfl, hm, ho, hb⟩
  have HA5 := Lib.hid (HA4.out.below (Nat.le_refl _) hb)
  have HB5 := Lib.hid (HB4.out.below (Nat.le_refl _) hb)
  have Ru5 := Lib.hid (Ru4.out.below (Nat.le_refl _) hb)
  have Rv5 := Lib.hid (Rv4.out.below (Nat.le_refl _) hb)
  have Rnu5 := Lib.hid (Rnu4.out.below (Nat.le_refl _) hb)
  have D5 := Lib.hid (D4.out.trans (hb.mono D4.out.size))
  have Mna := Lib.hid hm
  have Rna5 := Lib.hid (ho.normRow hm.norm)
  clear hm ho
  clear hb HA4 HB4 Ru4 Rv4 Rnu4
  go_wp2_with fail
  refine (not_any _ _ b HB5.out).mono ?_
  rintro e w6 ⟨vnb, onb, rfl, hm, ho, hb⟩
  have HA6 := Lib.hid (HA5.out.below (Nat.le_refl _) hb)
  have HB6 := Lib.hid (HB5.out.below (Nat.le_refl _) hb)
  have Ru6 := Lib.hid (Ru5.out.below (Nat.le_refl _) hb)
  have Rv6 := Lib.hid (Rv5.out.below (Nat.le_refl _) hb)
  have Rnu6 := Lib.hid (Rnu5.out.below (Nat.le_refl _) hb)
  have Rna6 := Lib.hid (Rna5.out.below (Nat.le_refl _) hb)
  have D6 := Lib.hid (D5.out.trans (hb.mono D5.out.size))
  have Mnb := Lib.hid hm
  have Rnb6 := Lib.hid (ho.normRow hm.norm)
  clear hm ho
  clear hb HA5 HB5 Ru5 Rv5 Rnu5 Rna5
  go_wp2_with fail
  refine (both_any _ _ _ ona onb Rna6.out Rnb6.out).mono ?_
  rintro e w7 ⟨vx, ox, rfl, hm, ho, hb⟩
  have HA7 := Lib.hid (HA6.out.below (Nat.le_refl _) hb)
  have HB7 := Lib.hid (HB6.out.below (Nat.le_refl _) hb)
  have Ru7 := Lib.hid (Ru6.out.below (Nat.le_refl _) hb)
  have Rv7 := Lib.hid (Rv6.out.below (Nat.le_refl _) hb)
  have Rnu7 := Lib.hid (Rnu6.out.below (Nat.le_refl _) hb)
  have Rna7 := Lib.hid (Rna6.out.below (Nat.le_refl _) hb)
  have Rnb7 := Lib.hid (Rnb6.out.below (Nat.le_refl _) hb)
  have D7 := Lib.hid (D6.out.trans (hb.mono D6.out.size))
  have Mx := Lib.hid hm
  have Rx7 := Lib.hid (ho.normRow hm.norm)
  clear hm ho
  clear hb HA6 HB6 Ru6 Rv6 Rnu6 Rna6 Rnb6
  go_wp2_with fail
  refine (same_refl_row _ _ _ _ _ Rnu7.out Rx7.out (Rg.sets1 Mu.out Mnu.out Mna.out Mnb.out Mx.out)).mono ?_
  rintro e w8 ⟨rfl, hb⟩
  have HA8 := Lib.hid (HA7.out.below (Nat.le_refl _) hb)
  have HB8 := Lib.hid (HB7.out.below (Nat.le_refl _) hb)
  have Ru8 := Lib.hid (Ru7.out.below (Nat.le_refl _) hb)
  have Rv8 := Lib.hid (Rv7.out.below (Nat.le_refl _) hb)
  have Rnu8 := Lib.hid (Rnu7.out.below (Nat.le_refl _) hb)
  have Rna8 := Lib.hid (Rna7.out.below (Nat.le_refl _) hb)
  have Rnb8 := Lib.hid (Rnb7.out.below (Nat.le_refl _) hb)
  have Rx8 := Lib.hid (Rx7.out.below (Nat.le_refl _) hb)
  have D8 := Lib.hid (D7.out.trans (hb.mono D7.out.size))
  clear hb HA7 HB7 Ru7 Rv7 Rnu7 Rna7 Rnb7 Rx7
  go_wp2_with fail
  refine (not_any _ _ a HA8.out).mono ?_
  rintro e w9 ⟨vq, oq, rfl, hm, ho, hb⟩
  have HA9 := Lib.hid (HA8.out.below (Nat.le_refl _) hb)
  have HB9 := Lib.hid (HB8.out.below (Nat.le_refl _) hb)
  have Ru9 := Lib.hid (Ru8.out.below (Nat.le_refl _) hb)
  have Rv9 := Lib.hid (Rv8.out.below (Nat.le_refl _) hb)
  have Rnu9 := Lib.hid (Rnu8.out.below (Nat.le_refl _) hb)
  have Rna9 := Lib.hid (Rna8.out.below (Nat.le_refl _) hb)
  have Rnb9 := Lib.hid (Rnb8.out.below (Nat.le_refl _) hb)
  have Rx9 := Lib.hid (Rx8.out.below (Nat.le_refl _) hb)
  have D9 := Lib.hid (D8.out.trans (hb.mono D8.out.size))
  have Mq := Lib.hid hm
  have Rq9 := Lib.hid (ho.normRow hm.norm)
  clear hm ho
  clear hb HA8 HB8 Ru8 Rv8 Rnu8 Rna8 Rnb8 Rx8
  go_wp2_with fail
  refine (not_any _ _ oq Rq9.out).mono ?_
  rintro e w10 ⟨vqq, oqq, rfl, hm, ho, hb⟩
  have HA10 := Lib.hid (HA9.out.below (Nat.le_refl _) hb)
  have HB10 := Lib.hid (HB9.out.below (Nat.le_refl _) hb)
  have Ru10 := Lib.hid (Ru9.out.below (Nat.le_refl _) hb)
  have Rv10 := Lib.hid (Rv9.out.below (Nat.le_refl _) hb)
  have Rnu10 := Lib.hid (Rnu9.out.below (Nat.le_refl _) hb)
  have Rna10 := Lib.hid (Rna9.out.below (Nat.le_refl _) hb)
  have Rnb10 := Lib.hid (Rnb9.out.below (Nat.le_refl _) hb)
  have Rx10 := Lib.hid (Rx9.out.below (Nat.le_refl _) hb)
  have Rq10 := Lib.hid (Rq9.out.below (Nat.le_refl _) hb)
  have D10 := Lib.hid (D9.out.trans (hb.mono D9.out.size))
  have Mqq := Lib.hid hm
  have Rqq10 := Lib.hid (ho.normRow hm.norm)
  clear hm ho
  clear hb HA9 HB9 Ru9 Rv9 Rnu9 Rna9 Rnb9 Rx9 Rq9
  go_wp2_with fail
  refine (norm_any _ _ a HA10.out).mono ?_
  rintro e w11 ⟨vz, oz, rfl, hm, ho, hb⟩
  have HA11 := Lib.hid (HA10.out.below (Nat.le_refl _) hb)
  have HB11 := Lib.hid (HB10.out.below (Nat.le_refl _) hb)
  have Ru11 := Lib.hid (Ru10.out.below (Nat.le_refl _) hb)
  have Rv11 := Lib.hid (Rv10.out.below (Nat.le_refl _) hb)
  have Rnu11 := Lib.hid (Rnu10.out.below (Nat.le_refl _) hb)
  have Rna11 := Lib.hid (Rna10.out.below (Nat.le_refl _) hb)
  have Rnb11 := Lib.hid (Rnb10.out.below (Nat.le_refl _) hb)
  have Rx11 := Lib.hid (Rx10.out.below (Nat.le_refl _) hb)
  have Rq11 := Lib.hid (Rq10.out.below (Nat.le_refl _) hb)
  have Rqq11 := Lib.hid (Rqq10.out.below (Nat.le_refl _) hb)
  have D11 := Lib.hid (D10.out.trans (hb.mono D10.out.size))
  have Mz := Lib.hid hm
  have Rz11 := Lib.hid (ho.normRow hm.norm)
  clear hm ho
  clear hb HA10 HB10 Ru10 Rv10 Rnu10 Rna10 Rnb10 Rx10 Rq10 Rqq10
  go_wp2_with fail
  refine (same_refl_row _ _ _ _ _ Rqq11.out Rz11.out (Rg.sets2 Mq.out Mqq.out Mz.out)).mono ?_
  rintro e w12 ⟨rfl, hb⟩
  have HA12 := Lib.hid (HA11.out.below (Nat.le_refl _) hb)
  have HB12 := Lib.hid (HB11.out.below (Nat.le_refl _) hb)
  have Ru12 := Lib.hid (Ru11.out.below (Nat.le_refl _) hb)
  have Rv12 := Lib.hid (Rv11.out.below (Nat.le_refl _) hb)
  have Rnu12 := Lib.hid (Rnu11.out.below (Nat.le_refl _) hb)
  have Rna12 := Lib.hid (Rna11.out.below (Nat.le_refl _) hb)
  have Rnb12 := Lib.hid (Rnb11.out.below (Nat.le_refl _) hb)
  have Rx12 := Lib.hid (Rx11.out.below (Nat.le_refl _) hb)
  have Rq12 := Lib.hid (Rq11.out.below (Nat.le_refl _) hb)
  have Rqq12 := Lib.hid (Rqq11.out.below (Nat.le_refl _) hb)
  have Rz12 := Lib.hid (Rz11.out.below (Nat.le_refl _) hb)
  have D12 := Lib.hid (D11.out.trans (hb.mono D11.out.size))
  clear hb HA11 HB11 Ru11 Rv11 Rnu11 Rna11 Rnb11 Rx11 Rq11 Rqq11 Rz11
  go_wp2_with fail
  refine (count_any _ _ _ Ru12.out).mono ?_
  rintro e w13 ⟨lu, hm, rfl, hb⟩
  have HA13 := Lib.hid (HA12.out.below (Nat.le_refl _) hb)
  have HB13 := Lib.hid (HB12.out.below (Nat.le_refl _) hb)
  have Ru13 := Lib.hid (Ru12.out.below (Nat.le_refl _) hb)
  have Rv13 := Lib.hid (Rv12.out.below (Nat.le_refl _) hb)
  have Rnu13 := Lib.hid (Rnu12.out.below (Nat.le_refl _) hb)
  have Rna13 := Lib.hid (Rna12.out.below (Nat.le_refl _) hb)
  have Rnb13 := Lib.hid (Rnb12.out.below (Nat.le_refl _) hb)
  have Rx13 := Lib.hid (Rx12.out.below (Nat.le_refl _) hb)
  have Rq13 := Lib.hid (Rq12.out.below (Nat.le_refl _) hb)
  have Rqq13 := Lib.hid (Rqq12.out.below (Nat.le_refl _) hb)
  have Rz13 := Lib.hid (Rz12.out.below (Nat.le_refl _) hb)
  have D13 := Lib.hid (D12.out.trans (hb.mono D12.out.size))
  have Ku := Lib.hid hm
  have sb := Rg.sumL_bd hm.norm
  obtain ⟨xu, ex⟩ : ∃ x, Rg.sumL lu = x := ⟨_, rfl⟩
  rw [ex] at sb
  rw [ex]
  have Eu := Lib.hid ex
  obtain ⟨su0, su1⟩ := sb
  clear ex hm
  clear hb HA12 HB12 Ru12 Rv12 Rnu12 Rna12 Rnb12 Rx12 Rq12 Rqq12 Rz12
  go_wp2_with fail
  refine (count_any _ _ _ Rv13.out).mono ?_
  rintro e w14 ⟨lv, hm, rfl, hb⟩
  have HA14 := Lib.hid (HA13.out.below (Nat.le_refl _) hb)
  have HB14 := Lib.hid (HB13.out.below (Nat.le_refl _) hb)
  have Ru14 := Lib.hid (Ru13.out.below (Nat.le_refl _) hb)
  have Rv14 := Lib.hid (Rv13.out.below (Nat.le_refl _) hb)
  have Rnu14 := Lib.hid (Rnu13.out.below (Nat.le_refl _) hb)
  have Rna14 := Lib.hid (Rna13.out.below (Nat.le_refl _) hb)
  have Rnb14 := Lib.hid (Rnb13.out.below (Nat.le_refl _) hb)
  have Rx14 := Lib.hid (Rx13.out.below (Nat.le_refl _) hb)
  have Rq14 := Lib.hid (Rq13.out.below (Nat.le_refl _) hb)
  have Rqq14 := Lib.hid (Rqq13.out.below (Nat.le_refl _) hb)
  have Rz14 := Lib.hid (Rz13.out.below (Nat.le_refl _) hb)
  have D14 := Lib.hid (D13.out.trans (hb.mono D13.out.size))
  have Kv := Lib.hid hm
  have sb := Rg.sumL_bd hm.norm
  obtain ⟨xv, ex⟩ : ∃ x, Rg.sumL lv = x := ⟨_, rfl⟩
  rw [ex] at sb
  rw [ex]
  have Ev := Lib.hid ex
  obtain ⟨sv0, sv1⟩ := sb
  clear ex hm
  clear hb HA13 HB13 Ru13 Rv13 Rnu13 Rna13 Rnb13 Rx13 Rq13 Rqq13 Rz13
  go_wp2_with fail
  refine (count_any _ _ _ HA14.out).mono ?_
  rintro e w15 ⟨la, hm, rfl, hb⟩
  have HA15 := Lib.hid (HA14.out.below (Nat.le_refl _) hb)
  have HB15 := Lib.hid (HB14.out.below (Nat.le_refl _) hb)
  have Ru15 := Lib.hid (Ru14.out.below (Nat.le_refl _) hb)
  have Rv15 := Lib.hid (Rv14.out.below (Nat.le_refl _) hb)
  have Rnu15 := Lib.hid (Rnu14.out.below (Nat.le_refl _) hb)
  have Rna15 := Lib.hid (Rna14.out.below (Nat.le_refl _) hb)
  have Rnb15 := Lib.hid (Rnb14.out.below (Nat.le_refl _) hb)
  have Rx15 := Lib.hid (Rx14.out.below (Nat.le_refl _) hb)
  have Rq15 := Lib.hid (Rq14.out.below (Nat.le_refl _) hb)
  have Rqq15 := Lib.hid (Rqq14.out.below (Nat.le_refl _) hb)
  have Rz15 := Lib.hid (Rz14.out.below (Nat.le_refl _) hb)
  have D15 := Lib.hid (D14.out.trans (hb.mono D14.out.size))
  have Ka := Lib.hid hm
  have sb := Rg.sumL_bd hm.norm
  obtain ⟨xa, ex⟩ : ∃ x, Rg.sumL la = x := ⟨_, rfl⟩
  rw [ex] at sb
  rw [ex]
  have Ea := Lib.hid ex
  obtain ⟨sa0, sa1⟩ := sb
  clear ex hm
  clear hb HA14 HB14 Ru14 Rv14 Rnu14 Rna14 Rnb14 Rx14 Rq14 Rqq14 Rz14
  go_wp2_with fail
  refine (count_any _ _ _ HB15.out).mono ?_
  rintro e w16 ⟨lb, hm, rfl, hb⟩
  have HA16 := Lib.hid (HA15.out.below (Nat.le_refl _) hb)
  have HB16 := Lib.hid (HB15.out.below (Nat.le_refl _) hb)
  have Ru16 := Lib.hid (Ru15.out.below (Nat.le_refl _) hb)
  have Rv16 := Lib.hid (Rv15.out.below (Nat.le_refl _) hb)
  have Rnu16 := Lib.hid (Rnu15.out.below (Nat.le_refl _) hb)
  have Rna16 := Lib.hid (Rna15.out.below (Nat.le_refl _) hb)
  have Rnb16 := Lib.hid (Rnb15.out.below (Nat.le_refl _) hb)
  have Rx16 := Lib.hid (Rx15.out.below (Nat.le_refl _) hb)
  have Rq16 := Lib.hid (Rq15.out.below (Nat.le_refl _) hb)
  have Rqq16 := Lib.hid (Rqq15.out.below (Nat.le_refl _) hb)
  have Rz16 := Lib.hid (Rz15.out.below (Nat.le_refl _) hb)
  have D16 := Lib.hid (D15.out.trans (hb.mono D15.out.size))
  have Kb := Lib.hid hm
  have sb := Rg.sumL_bd hm.norm
  obtain ⟨xb, ex⟩ : ∃ x, Rg.sumL lb = x := ⟨_, rfl⟩
  rw [ex] at sb
  rw [ex]
  have Eb := Lib.hid ex
  obtain ⟨sb0, sb1⟩ := sb
  clear ex hm
  clear hb HA15 HB15 Ru15 Rv15 Rnu15 Rna15 Rnb15 Rx15 Rq15 Rqq15 Rz15
  have hsum := Rg.counts Mu.out Mv.out Ku.out Kv.out Ka.out Kb.out
  rw [Eu.out, Ev.out, Ea.out, Eb.out] at hsum
  have hq : (xu + xv == xa + xb) = true := by rw [hsum]; simp
  clear hsum
  go_wp2_with fail
  refine (count_any _ _ _ HA16.out).mono ?_
  rintro e w17 ⟨la2, hm, rfl, hb⟩
  have HA17 := Lib.hid (HA16.out.below (Nat.le_refl _) hb)
  have HB17 := Lib.hid (HB16.out.below (Nat.le_refl _) hb)
  have Ru17 := Lib.hid (Ru16.out.below (Nat.le_refl _) hb)
  have Rv17 := Lib.hid (Rv16.out.below (Nat.le_refl _) hb)
  have Rnu17 := Lib.hid (Rnu16.out.below (Nat.le_refl _) hb)
  have Rna17 := Lib.hid (Rna16.out.below (Nat.le_refl _) hb)
  have Rnb17 := Lib.hid (Rnb16.out.below (Nat.le_refl _) hb)
  have Rx17 := Lib.hid (Rx16.out.below (Nat.le_refl _) hb)
  have Rq17 := Lib.hid (Rq16.out.below (Nat.le_refl _) hb)
  have Rqq17 := Lib.hid (Rqq16.out.below (Nat.le_refl _) hb)
  have Rz17 := Lib.hid (Rz16.out.below (Nat.le_refl _) hb)
  have D17 := Lib.hid (D16.out.trans (hb.mono D16.out.size))
  have Ka2 := Lib.hid hm
  have sb := Rg.sumL_bd hm.norm
  obtain ⟨xa2, ex⟩ : ∃ x, Rg.sumL la2 = x := ⟨_, rfl⟩
  rw [ex] at sb
  rw [ex]
  have Ea2 := Lib.hid ex
  obtain ⟨sa20, sa21⟩ := sb
  clear ex hm
  clear hb HA16 HB16 Ru16 Rv16 Rnu16 Rna16 Rnb16 Rx16 Rq16 Rqq16 Rz16
  go_wp2_with fail
  refine (not_any _ _ a HA17.out).mono ?_
  rintro e w18 ⟨vna2, ona2, rfl, hm, ho, hb⟩
  have HA18 := Lib.hid (HA17.out.below (Nat.le_refl _) hb)
  have HB18 := Lib.hid (HB17.out.below (Nat.le_refl _) hb)
  have Ru18 := Lib.hid (Ru17.out.below (Nat.le_refl _) hb)
  have Rv18 := Lib.hid (Rv17.out.below (Nat.le_refl _) hb)
  have Rnu18 := Lib.hid (Rnu17.out.below (Nat.le_refl _) hb)
  have Rna18 := Lib.hid (Rna17.out.below (Nat.le_refl _) hb)
  have Rnb18 := Lib.hid (Rnb17.out.below (Nat.le_refl _) hb)
  have Rx18 := Lib.hid (Rx17.out.below (Nat.le_refl _) hb)
  have Rq18 := Lib.hid (Rq17.out.below (Nat.le_refl _) hb)
  have Rqq18 := Lib.hid (Rqq17.out.below (Nat.le_refl _) hb)
  have Rz18 := Lib.hid (Rz17.out.below (Nat.le_refl _) hb)
  have D18 := Lib.hid (D17.out.trans (hb.mono D17.out.size))
  have Mna2 := Lib.hid hm
  have Rna218 := Lib.hid (ho.normRow hm.norm)
  clear hm ho
  clear hb HA17 HB17 Ru17 Rv17 Rnu17 Rna17 Rnb17 Rx17 Rq17 Rqq17 Rz17
  go_wp2_with fail
  refine (count_any _ _ _ Rna218.out).mono ?_
  rintro e w19 ⟨ln2, hm, rfl, hb⟩
  have HA19 := Lib.hid (HA18.out.below (Nat.le_refl _) hb)
  have HB19 := Lib.hid (HB18.out.below (Nat.le_refl _) hb)
  have Ru19 := Lib.hid (Ru18.out.below (Nat.le_refl _) hb)
  have Rv19 := Lib.hid (Rv18.out.below (Nat.le_refl _) hb)
  have Rnu19 := Lib.hid (Rnu18.out.below (Nat.le_refl _) hb)
  have Rna19 := Lib.hid (Rna18.out.below (Nat.le_refl _) hb)
  have Rnb19 := Lib.hid (Rnb18.out.below (Nat.le_refl _) hb)
  have Rx19 := Lib.hid (Rx18.out.below (Nat.le_refl _) hb)
  have Rq19 := Lib.hid (Rq18.out.below (Nat.le_refl _) hb)
  have Rqq19 := Lib.hid (Rqq18.out.below (Nat.le_refl _) hb)
  have Rz19 := Lib.hid (Rz18.out.below (Nat.le_refl _) hb)
  have Rna219 := Lib.hid (Rna218.out.below (Nat.le_refl _) hb)
  have D19 := Lib.hid (D18.out.trans (hb.mono D18.out.size))
  have Kn2 := Lib.hid hm
  have sb := Rg.sumL_bd hm.norm
  obtain ⟨xn2, ex⟩ : ∃ x, Rg.sumL ln2 = x := ⟨_, rfl⟩
  rw [ex] at sb
  rw [ex]
  have En2 := Lib.hid ex
  obtain ⟨sn20, sn21⟩ := sb
  clear ex hm
  clear hb HA18 HB18 Ru18 Rv18 Rnu18 Rna18 Rnb18 Rx18 Rq18 Rqq18 Rz18 Rna218
  have hsum2 := Rg.counts2 Mna2.out Ka2.out Kn2.out
  rw [Ea2.out, En2.out] at hsum2
  have hq2 : (xa2 + xn2 == 1114112) = true := by rw [hsum2]; rfl
  clear hsum2
  go_wp2_with fail
  refine (minus_any _ _ _ a b HA19.out HB19.out).mono ?_
  rintro e w20 ⟨vmi, omi, rfl, hm, ho, hb⟩
  have HA20 := Lib.hid (HA19.out.below (Nat.le_refl _) hb)
  have HB20 := Lib.hid (HB19.out.below (Nat.le_refl _) hb)
  have Ru20 := Lib.hid (Ru19.out.below (Nat.le_refl _) hb)
  have Rv20 := Lib.hid (Rv19.out.below (Nat.le_refl _) hb)
  have Rnu20 := Lib.hid (Rnu19.out.below (Nat.le_refl _) hb)
  have Rna20 := Lib.hid (Rna19.out.below (Nat.le_refl _) hb)
  have Rnb20 := Lib.hid (Rnb19.out.below (Nat.le_refl _) hb)
  have Rx20 := Lib.hid (Rx19.out.below (Nat.le_refl _) hb)
  have Rq20 := Lib.hid (Rq19.out.below (Nat.le_refl _) hb)
  have Rqq20 := Lib.hid (Rqq19.out.below (Nat.le_refl _) hb)
  have Rz20 := Lib.hid (Rz19.out.below (Nat.le_refl _) hb)
  have Rna220 := Lib.hid (Rna219.out.below (Nat.le_refl _) hb)
  have D20 := Lib.hid (D19.out.trans (hb.mono D19.out.size))
  have Mmi := Lib.hid hm
  have Rmi20 := Lib.hid (ho.normRow hm.norm)
  clear hm ho
  clear hb HA19 HB19 Ru19 Rv19 Rnu19 Rna19 Rnb19 Rx19 Rq19 Rqq19 Rz19 Rna219
  go_wp2_with fail
  refine (union_any _ _ _ omi ov Rmi20.out Rv20.out).mono ?_
  rintro e w21 ⟨vun, oun, rfl, hm, ho, hb⟩
  have HA21 := Lib.hid (HA20.out.below (Nat.le_refl _) hb)
  have HB21 := Lib.hid (HB20.out.below (Nat.le_refl _) hb)
  have Ru21 := Lib.hid (Ru20.out.below (Nat.le_refl _) hb)
  have Rv21 := Lib.hid (Rv20.out.below (Nat.le_refl _) hb)
  have Rnu21 := Lib.hid (Rnu20.out.below (Nat.le_refl _) hb)
  have Rna21 := Lib.hid (Rna20.out.below (Nat.le_refl _) hb)
  have Rnb21 := Lib.hid (Rnb20.out.below (Nat.le_refl _) hb)
  have Rx21 := Lib.hid (Rx20.out.below (Nat.le_refl _) hb)
  have Rq21 := Lib.hid (Rq20.out.below (Nat.le_refl _) hb)
  have Rqq21 := Lib.hid (Rqq20.out.below (Nat.le_refl _) hb)
  have Rz21 := Lib.hid (Rz20.out.below (Nat.le_refl _) hb)
  have Rna221 := Lib.hid (Rna220.out.below (Nat.le_refl _) hb)
  have Rmi21 := Lib.hid (Rmi20.out.below (Nat.le_refl _) hb)
  have D21 := Lib.hid (D20.out.trans (hb.mono D20.out.size))
  have Mun := Lib.hid hm
  have Run21 := Lib.hid (ho.normRow hm.norm)
  clear hm ho
  clear hb HA20 HB20 Ru20 Rv20 Rnu20 Rna20 Rnb20 Rx20 Rq20 Rqq20 Rz20 Rna220 Rmi20
  go_wp2_with fail
  refine (norm_any _ _ a HA21.out).mono ?_
  rintro e w22 ⟨vzz, ozz, rfl, hm, ho, hb⟩
  have HA22 := Lib.hid (HA21.out.below (Nat.le_refl _) hb)
  have HB22 := Lib.hid (HB21.out.below (Nat.le_refl _) hb)
  have Ru22 := Lib.hid (Ru21.out.below (Nat.le_refl _) hb)
  have Rv22 := Lib.hid (Rv21.out.below (Nat.le_refl _) hb)
  have Rnu22 := Lib.hid (Rnu21.out.below (Nat.le_refl _) hb)
  have Rna22 := Lib.hid (Rna21.out.below (Nat.le_refl _) hb)
  have Rnb22 := Lib.hid (Rnb21.out.below (Nat.le_refl _) hb)
  have Rx22 := Lib.hid (Rx21.out.below (Nat.le_refl _) hb)
  have Rq22 := Lib.hid (Rq21.out.below (Nat.le_refl _) hb)
  have Rqq22 := Lib.hid (Rqq21.out.below (Nat.le_refl _) hb)
  have Rz22 := Lib.hid (Rz21.out.below (Nat.le_refl _) hb)
  have Rna222 := Lib.hid (Rna221.out.below (Nat.le_refl _) hb)
  have Rmi22 := Lib.hid (Rmi21.out.below (Nat.le_refl _) hb)
  have Run22 := Lib.hid (Run21.out.below (Nat.le_refl _) hb)
  have D22 := Lib.hid (D21.out.trans (hb.mono D21.out.size))
  have Mzz := Lib.hid hm
  have Rzz22 := Lib.hid (ho.normRow hm.norm)
  clear hm ho
  clear hb HA21 HB21 Ru21 Rv21 Rnu21 Rna21 Rnb21 Rx21 Rq21 Rqq21 Rz21 Rna221 Rmi21 Run21
  go_wp2_with fail
  refine (same_refl_row _ _ _ _ _ Run22.out Rzz22.out (Rg.sets3 Mmi.out Mv.out Mun.out Mzz.out)).mono ?_
  rintro e w23 ⟨rfl, hb⟩
  have HA23 := Lib.hid (HA22.out.below (Nat.le_refl _) hb)
  have HB23 := Lib.hid (HB22.out.below (Nat.le_refl _) hb)
  have Ru23 := Lib.hid (Ru22.out.below (Nat.le_refl _) hb)
  have Rv23 := Lib.hid (Rv22.out.below (Nat.le_refl _) hb)
  have Rnu23 := Lib.hid (Rnu22.out.below (Nat.le_refl _) hb)
  have Rna23 := Lib.hid (Rna22.out.below (Nat.le_refl _) hb)
  have Rnb23 := Lib.hid (Rnb22.out.below (Nat.le_refl _) hb)
  have Rx23 := Lib.hid (Rx22.out.below (Nat.le_refl _) hb)
  have Rq23 := Lib.hid (Rq22.out.below (Nat.le_refl _) hb)
  have Rqq23 := Lib.hid (Rqq22.out.below (Nat.le_refl _) hb)
  have Rz23 := Lib.hid (Rz22.out.below (Nat.le_refl _) hb)
  have Rna223 := Lib.hid (Rna222.out.below (Nat.le_refl _) hb)
  have Rmi23 := Lib.hid (Rmi22.out.below (Nat.le_refl _) hb)
  have Run23 := Lib.hid (Run22.out.below (Nat.le_refl _) hb)
  have Rzz23 := Lib.hid (Rzz22.out.below (Nat.le_refl _) hb)
  have D23 := Lib.hid (D22.out.trans (hb.mono D22.out.size))
  clear hb HA22 HB22 Ru22 Rv22 Rnu22 Rna22 Rnb22 Rx22 Rq22 Rqq22 Rz22 Rna222 Rmi22 Run22 Rzz22
  go_wp2
  go_ret
  exact ⟨rfl, D23.out⟩
set_option maxRecDepth 100000 in
set_option maxHeartbeats 4000000 in
theorem walkRangesSets (W : World) (v : Value) (l : List (Int × Int)) (v' : Value) (l' : List (Int × Int)) (hr : RRow W v l) (hr' : RRow W v' l') :
    Calls Try.prog 7 #[v, v'] W fun e w' => e = .returned (.bool true) ∧ Below W.heap.size W w' := by
  have HR := Lib.hid hr
  have HR' := Lib.hid hr'
  obtain ⟨a, ca, rfl, hl, _⟩ := hr
  obtain ⟨b, cb, rfl, hl', _⟩ := hr'
  obtain ⟨n, hn⟩ : ∃ n, l.length = n := ⟨_, rfl⟩
  obtain ⟨m, hm⟩ : ∃ m, l'.length = m := ⟨_, rfl⟩
  rw [hn] at HR hl ⊢
  rw [hm] at HR' hl' ⊢
  clear hn hm
  by_cases h1 : 60 < n
  · go_enter Try.func7, Try.ntmps7
    go_wp2_with fail
    refine (works_any _).mono ?_
    rintro e w1 ⟨rfl, hb⟩
    have D1 := Lib.hid hb
    clear hb
    go_wp2
    go_ret
    exact ⟨rfl, D1.out⟩
  · by_cases h2 : 60 < m
    · go_enter Try.func7, Try.ntmps7
      go_wp2_with fail
      refine (works_any _).mono ?_
      rintro e w1 ⟨rfl, hb⟩
      have D1 := Lib.hid hb
      clear hb
      go_wp2
      go_ret
      exact ⟨rfl, D1.out⟩
    · exact sets_core W l l' a b n m ca cb (by omega) (by omega) HR.out HR'.out
end Go.Proofs.Ytimllajokjebeaa
