/- The law RangesMakes, walked. -/
import Derived.Test.YtimllajokjebeaaRgH
import Derived.Test.YtimllajokjebeaaLaw02Sets
import Derived.Test.YtimllajokjebeaaRgM2
namespace Go.Proofs.Ytimllajokjebeaa
open Go.RowKit
set_option linter.unusedVariables false
set_option maxRecDepth 100000 in
set_option maxHeartbeats 8000000 in
theorem makes_core (W : World) (a b : List (Int × Int)) (sa sb : Option Addr) (n m ca cb : Nat) (hn : n ≤ 40) (hm : m ≤ 40) (hla : a.length = n) (hlb : b.length = m) (ha : RRow W (.slice sa n ca) a) (hb : RRow W (.slice sb m cb) b) :
    Calls Try.prog 4 #[.slice sa n ca, .slice sb m cb] W fun e w' => e = .returned (.bool true) ∧ Below W.heap.size W w' := by
  have HA := Lib.hid ha
  have HB := Lib.hid hb
  have HLA := Lib.hid hla
  have HLB := Lib.hid hlb
  clear ha hb hla hlb
  go_enter Try.func4, Try.ntmps4
  go_wp2_with fail
  refine (lend_any _ _ a n HLA.out HA.out).mono ?_
  rintro e w1 ⟨g1, c1, rfl, hL, hb⟩
  have HL1 := Lib.hid hL
  have B1 := Lib.hid hb
  clear hL hb
  go_wp2_with fail
  refine (lend_any _ _ b m HLB.out (HB.out.below (Nat.le_refl _) B1.out)).mono ?_
  rintro e w2 ⟨g2, c2, rfl, hL, hb⟩
  have X2 := Lib.hid (HL1.out.below hb)
  have Y2 := Lib.hid hL
  have B2 := Lib.hid (B1.out.trans (hb.mono B1.out.size))
  have VA2 := Lib.hid (HA.out.below (Nat.le_refl _) B2.out)
  have VB2 := Lib.hid (HB.out.below (Nat.le_refl _) B2.out)
  have D2 := Lib.hid (Below.refl w2.heap.size w2)
  clear hL hb
  go_wp2_with fail
  refine (union_any _ _ _ a b (X2.out.below D2.out).row (Y2.out.below D2.out).row).mono ?_
  rintro e w3 ⟨vu, ou, rfl, hm, ho, hb⟩
  have Mu := Lib.hid hm
  have Cu := Lib.hid ho
  have Ou3 := Lib.hid ho
  have D3 := Lib.hid (D2.out.trans (hb.mono D2.out.size))
  have Zu := hb.size
  clear hm ho hb 
  go_wp2_with fail
  refine (both_any _ _ _ a b (X2.out.below D3.out).row (Y2.out.below D3.out).row).mono ?_
  rintro e w4 ⟨vv, ov, rfl, hm, ho, hb⟩
  have Mv := Lib.hid hm
  have Cv := Lib.hid ho
  have Ov4 := Lib.hid ho
  have Ou4 := Lib.hid (Ou3.out.below hb)
  have D4 := Lib.hid (D3.out.trans (hb.mono D3.out.size))
  have Zv := hb.size
  clear hm ho hb Ou3
  go_wp2_with fail
  refine (minus_any _ _ _ a b (X2.out.below D4.out).row (Y2.out.below D4.out).row).mono ?_
  rintro e w5 ⟨vw, ow, rfl, hm, ho, hb⟩
  have Mw := Lib.hid hm
  have Cw := Lib.hid ho
  have Ow5 := Lib.hid ho
  have Ou5 := Lib.hid (Ou4.out.below hb)
  have Ov5 := Lib.hid (Ov4.out.below hb)
  have D5 := Lib.hid (D4.out.trans (hb.mono D4.out.size))
  have Zw := hb.size
  clear hm ho hb Ou4 Ov4
  go_wp2_with fail
  refine (not_any _ _ a (X2.out.below D5.out).row).mono ?_
  rintro e w6 ⟨vz, oz, rfl, hm, ho, hb⟩
  have Mz := Lib.hid hm
  have Cz := Lib.hid ho
  have Oz6 := Lib.hid ho
  have Ou6 := Lib.hid (Ou5.out.below hb)
  have Ov6 := Lib.hid (Ov5.out.below hb)
  have Ow6 := Lib.hid (Ow5.out.below hb)
  have D6 := Lib.hid (D5.out.trans (hb.mono D5.out.size))
  have Zz := hb.size
  clear hm ho hb Ou5 Ov5 Ow5
  have SZ6 := Lib.hid (Nat.le_refl w6.heap.size)
  go_wp2_with fail
  refine (refMake1 _ _ _ a b (VA2.out.below (Nat.le_refl _) D6.out) (VB2.out.below (Nat.le_refl _) D6.out)).mono ?_
  rintro e w7 ⟨vr, orr, rfl, hm, ho, hb⟩
  obtain rfl := Rg.made_unique Mu.out hm
  have RR := Lib.hid (ho.normRow hm.norm)
  clear hm ho
  have Ou7 := Lib.hid (Ou6.out.below hb)
  have Ov7 := Lib.hid (Ov6.out.below hb)
  have Ow7 := Lib.hid (Ow6.out.below hb)
  have Oz7 := Lib.hid (Oz6.out.below hb)
  have SZ7 := Lib.hid (Nat.le_trans SZ6.out hb.size)
  have D7 := Lib.hid (D6.out.trans (hb.mono D6.out.size))
  clear hb Ou6 Ov6 Ow6 Oz6
  go_wp2_with fail
  refine (same_refl_row _ _ _ _ _ (Ou7.out.normRow Mu.out.norm) RR.out rfl).mono ?_
  rintro e w8 ⟨rfl, hb⟩
  clear RR
  have Ou8 := Lib.hid (Ou7.out.below hb)
  have Ov8 := Lib.hid (Ov7.out.below hb)
  have Ow8 := Lib.hid (Ow7.out.below hb)
  have Oz8 := Lib.hid (Oz7.out.below hb)
  have SZ8 := Lib.hid (Nat.le_trans SZ7.out hb.size)
  have D8 := Lib.hid (D7.out.trans (hb.mono D7.out.size))
  clear hb Ou7 Ov7 Ow7 Oz7
  go_wp2_with fail
  refine (refMake2 _ _ _ a b (VA2.out.below (Nat.le_refl _) D8.out) (VB2.out.below (Nat.le_refl _) D8.out)).mono ?_
  rintro e w9 ⟨vr, orr, rfl, hm, ho, hb⟩
  obtain rfl := Rg.made_unique Mv.out hm
  have RR := Lib.hid (ho.normRow hm.norm)
  clear hm ho
  have Ou9 := Lib.hid (Ou8.out.below hb)
  have Ov9 := Lib.hid (Ov8.out.below hb)
  have Ow9 := Lib.hid (Ow8.out.below hb)
  have Oz9 := Lib.hid (Oz8.out.below hb)
  have SZ9 := Lib.hid (Nat.le_trans SZ8.out hb.size)
  have D9 := Lib.hid (D8.out.trans (hb.mono D8.out.size))
  clear hb Ou8 Ov8 Ow8 Oz8
  go_wp2_with fail
  refine (same_refl_row _ _ _ _ _ (Ov9.out.normRow Mv.out.norm) RR.out rfl).mono ?_
  rintro e w10 ⟨rfl, hb⟩
  clear RR
  have Ou10 := Lib.hid (Ou9.out.below hb)
  have Ov10 := Lib.hid (Ov9.out.below hb)
  have Ow10 := Lib.hid (Ow9.out.below hb)
  have Oz10 := Lib.hid (Oz9.out.below hb)
  have SZ10 := Lib.hid (Nat.le_trans SZ9.out hb.size)
  have D10 := Lib.hid (D9.out.trans (hb.mono D9.out.size))
  clear hb Ou9 Ov9 Ow9 Oz9
  go_wp2_with fail
  refine (refMake3 _ _ _ a b (VA2.out.below (Nat.le_refl _) D10.out) (VB2.out.below (Nat.le_refl _) D10.out)).mono ?_
  rintro e w11 ⟨vr, orr, rfl, hm, ho, hb⟩
  obtain rfl := Rg.made_unique Mw.out hm
  have RR := Lib.hid (ho.normRow hm.norm)
  clear hm ho
  have Ou11 := Lib.hid (Ou10.out.below hb)
  have Ov11 := Lib.hid (Ov10.out.below hb)
  have Ow11 := Lib.hid (Ow10.out.below hb)
  have Oz11 := Lib.hid (Oz10.out.below hb)
  have SZ11 := Lib.hid (Nat.le_trans SZ10.out hb.size)
  have D11 := Lib.hid (D10.out.trans (hb.mono D10.out.size))
  clear hb Ou10 Ov10 Ow10 Oz10
  go_wp2_with fail
  refine (same_refl_row _ _ _ _ _ (Ow11.out.normRow Mw.out.norm) RR.out rfl).mono ?_
  rintro e w12 ⟨rfl, hb⟩
  clear RR
  have Ou12 := Lib.hid (Ou11.out.below hb)
  have Ov12 := Lib.hid (Ov11.out.below hb)
  have Ow12 := Lib.hid (Ow11.out.below hb)
  have Oz12 := Lib.hid (Oz11.out.below hb)
  have SZ12 := Lib.hid (Nat.le_trans SZ11.out hb.size)
  have D12 := Lib.hid (D11.out.trans (hb.mono D11.out.size))
  clear hb Ou11 Ov11 Ow11 Oz11
  go_wp2_with fail
  refine (refNot _ _ a (VA2.out.below (Nat.le_refl _) D12.out)).mono ?_
  rintro e w13 ⟨vr, orr, rfl, hm, ho, hb⟩
  obtain rfl := Rg.made_unique Mz.out hm
  have RR := Lib.hid (ho.normRow hm.norm)
  clear hm ho
  have Ou13 := Lib.hid (Ou12.out.below hb)
  have Ov13 := Lib.hid (Ov12.out.below hb)
  have Ow13 := Lib.hid (Ow12.out.below hb)
  have Oz13 := Lib.hid (Oz12.out.below hb)
  have SZ13 := Lib.hid (Nat.le_trans SZ12.out hb.size)
  have D13 := Lib.hid (D12.out.trans (hb.mono D12.out.size))
  clear hb Ou12 Ov12 Ow12 Oz12
  go_wp2_with fail
  refine (same_refl_row _ _ _ _ _ (Oz13.out.normRow Mz.out.norm) RR.out rfl).mono ?_
  rintro e w14 ⟨rfl, hb⟩
  clear RR
  have Ou14 := Lib.hid (Ou13.out.below hb)
  have Ov14 := Lib.hid (Ov13.out.below hb)
  have Ow14 := Lib.hid (Ow13.out.below hb)
  have Oz14 := Lib.hid (Oz13.out.below hb)
  have SZ14 := Lib.hid (Nat.le_trans SZ13.out hb.size)
  have D14 := Lib.hid (D13.out.trans (hb.mono D13.out.size))
  clear hb Ou13 Ov13 Ow13 Oz13
  have S3 : Hid (w3.heap.size ≤ w14.heap.size) := Lib.hid (by have := SZ14.out; omega)
  have S5 : Hid (w5.heap.size ≤ w14.heap.size) := Lib.hid (by have := SZ14.out; omega)
  go_wp2_with fail
  refine (spoil_only _ w2.heap.size _ ou Ou14.out (by have := D14.out.size; omega)).mono ?_
  rintro e w15 ⟨rfl, hb, hg⟩
  have Ov15 := Lib.hid (own_apart Cu.out (by omega) Ov14.out hg)
  have Oz15 := Lib.hid (own_apart Cu.out (by omega) Oz14.out hg)
  have hsz := hb.size
  have D15 := Lib.hid (D14.out.trans (hb.mono (by omega)))
  have S3 := Lib.hid (show w3.heap.size ≤ w15.heap.size by have := S3.out; omega)
  have S5 := Lib.hid (show w5.heap.size ≤ w15.heap.size by have := S5.out; omega)
  clear hb hg hsz
  go_wp2_with fail
  refine (spoil_only _ w3.heap.size _ ov Ov15.out (by have := S3.out; omega)).mono ?_
  rintro e w16 ⟨rfl, hb, hg⟩
  have Oz16 := Lib.hid (own_apart Cv.out (by omega) Oz15.out hg)
  have hsz := hb.size
  have D16 := Lib.hid (D15.out.trans (hb.mono (by omega)))
  have S3 := Lib.hid (show w3.heap.size ≤ w16.heap.size by have := S3.out; omega)
  have S5 := Lib.hid (show w5.heap.size ≤ w16.heap.size by have := S5.out; omega)
  clear hb hg hsz
  go_wp2_with fail
  refine (spoil_only _ w5.heap.size _ oz Oz16.out (by have := S5.out; omega)).mono ?_
  rintro e w17 ⟨rfl, hb, hg⟩
  have hsz := hb.size
  have D17 := Lib.hid (D16.out.trans (hb.mono (by omega)))
  have S3 := Lib.hid (show w3.heap.size ≤ w17.heap.size by have := S3.out; omega)
  have S5 := Lib.hid (show w5.heap.size ≤ w17.heap.size by have := S5.out; omega)
  clear hb hg hsz
  go_wp2_with fail
  refine (kept_any _ _ g1 n c1 a (X2.out.below D17.out) (VA2.out.below (Nat.le_refl _) D17.out)).mono ?_
  rintro e w18 ⟨rfl, d1, rfl⟩
  have D18 := Lib.hid (below_drewN D17.out d1)
  go_wp2_with fail
  refine (kept_any _ _ g2 m c2 b (Y2.out.below D18.out) (VB2.out.below (Nat.le_refl _) D18.out)).mono ?_
  rintro e w19 ⟨rfl, d2, rfl⟩
  have D19 := Lib.hid (below_drewN D17.out (d1 + d2))
  go_wp2_with fail
  refine (works_any _).mono ?_
  rintro e w20 ⟨rfl, hb⟩
  have D20 := Lib.hid (D19.out.trans (hb.mono D19.out.size))
  clear hb
  go_wp2
  go_ret
  exact ⟨rfl, B2.out.trans (D20.out.mono B2.out.size)⟩
set_option maxRecDepth 100000 in
set_option maxHeartbeats 4000000 in
theorem walkRangesMakes (W : World) (v : Value) (l : List (Int × Int)) (v' : Value) (l' : List (Int × Int)) (hr : RRow W v l) (hr' : RRow W v' l') :
    Calls Try.prog 4 #[v, v'] W fun e w' => e = .returned (.bool true) ∧ Below W.heap.size W w' := by
  have HR := Lib.hid hr
  have HR' := Lib.hid hr'
  obtain ⟨a, ca, rfl, hl, _⟩ := hr
  obtain ⟨b, cb, rfl, hl', _⟩ := hr'
  obtain ⟨n, hn⟩ : ∃ n, l.length = n := ⟨_, rfl⟩
  obtain ⟨m, hm⟩ : ∃ m, l'.length = m := ⟨_, rfl⟩
  rw [hn] at HR hl ⊢
  rw [hm] at HR' hl' ⊢
  have HN := Lib.hid hn
  have HM := Lib.hid hm
  clear hn hm
  by_cases h1 : 40 < n
  · go_enter Try.func4, Try.ntmps4
    go_wp2_with fail
    refine (works_any _).mono ?_
    rintro e w1 ⟨rfl, hb⟩
    have D1 := Lib.hid hb
    clear hb
    go_wp2
    go_ret
    exact ⟨rfl, D1.out⟩
  · by_cases h2 : 40 < m
    · go_enter Try.func4, Try.ntmps4
      go_wp2_with fail
      refine (works_any _).mono ?_
      rintro e w1 ⟨rfl, hb⟩
      have D1 := Lib.hid hb
      clear hb
      go_wp2
      go_ret
      exact ⟨rfl, D1.out⟩
    · exact makes_core W l l' a b n m ca cb (by omega) (by omega) HN.out HM.out HR.out HR'.out
end Go.Proofs.Ytimllajokjebeaa
