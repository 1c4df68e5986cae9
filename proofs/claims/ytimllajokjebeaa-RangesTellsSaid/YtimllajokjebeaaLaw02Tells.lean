/- The law RangesTells, walked. -/
import Derived.Test.YtimllajokjebeaaRgG
namespace Go.Proofs.Ytimllajokjebeaa
open Go.RowKit
set_option linter.unusedVariables false
set_option maxRecDepth 100000 in
set_option maxHeartbeats 4000000 in
theorem walkRangesTells (W : World) (v : Value) (l : List (Int × Int)) (r : Int) (hr : RRow W v l) (wr : (Lit.int .i64 r).wf = true) :
    Calls Try.prog 3 #[v, .int .i64 r] W fun e w' => e = .returned (.bool true) ∧ Below W.heap.size W w' := by
  have HR := Lib.hid hr
  obtain ⟨a, cap, rfl, hl, _⟩ := hr
  obtain ⟨n, hn⟩ : ∃ n, l.length = n := ⟨_, rfl⟩
  rw [hn] at HR hl ⊢
  have HN := Lib.hid hn
  clear hn wr
  by_cases h60 : 60 < n
  · go_enter Try.func3, Try.ntmps3
    go_wp2_with fail
    refine (works_any _).mono ?_
    rintro e w1 ⟨rfl, hb⟩
    have HB := Lib.hid hb
    clear hb
    go_wp2
    go_ret
    exact ⟨rfl, HB.out⟩
  · go_enter Try.func3, Try.ntmps3
    go_wp2_with fail
    refine (lend_any _ _ l n HN.out HR.out).mono ?_
    rintro e w1 ⟨g, c1, rfl, hL, hb⟩
    have HL := Lib.hid hL
    have HV := Lib.hid (HR.out.below (Nat.le_refl _) hb)
    have HB := Lib.hid hb
    clear hL hb
    go_wp2_with fail
    refine (norm_any _ _ l HL.out.row).mono ?_
    rintro e w2 ⟨v2, out, rfl, hm, ho, hb⟩
    have HM := Lib.hid hm
    have HO := Lib.hid ho
    have D2 := Lib.hid hb
    clear hm ho hb
    go_wp2_with fail
    refine (refNorm _ _ l (HV.out.below (Nat.le_refl _) D2.out)).mono ?_
    rintro e w3 ⟨v3, out3, rfl, hm, ho, hb⟩
    obtain rfl := Rg.made_unique HM.out hm
    have HO2 := Lib.hid (HO.out.below hb)
    have HR2 := Lib.hid ((HO.out.below hb).normRow HM.out.norm)
    have HR3 := Lib.hid (ho.normRow hm.norm)
    have D3 := Lib.hid (D2.out.trans (hb.mono D2.out.size))
    clear hm ho hb
    go_wp2_with fail
    refine (same_rg _ _ _ out out HR2.out HR3.out).mono ?_
    rintro e w4 ⟨rfl, d, rfl⟩
    rw [decide_eq_true (rfl : out = out)]
    have D4 := Lib.hid (below_drewN D3.out d)
    go_wp2_with fail
    refine (spoil_own (w3.drewN d) w1.heap.size _ out HO2.out D4.out.size).mono ?_
    rintro e w5 ⟨rfl, hb⟩
    have D5 := Lib.hid (D4.out.trans hb)
    clear hb
    go_wp2_with fail
    refine (check_any _ _ l (HL.out.below D5.out).row).mono ?_
    rintro e w6 ⟨rfl, hb⟩
    have D6 := Lib.hid (D5.out.trans (hb.mono D5.out.size))
    clear hb
    go_wp2_with fail
    refine (refCheck_any _ _ l (HV.out.below (Nat.le_refl _) D6.out)).mono ?_
    rintro e w7 ⟨rfl, d7, rfl⟩
    have D7 := Lib.hid (below_drewN D6.out d7)
    go_wp2_with fail
    refine (has_any _ _ l r (HL.out.below D7.out).row).mono ?_
    rintro e w8 ⟨rfl, hb⟩
    have D8 := Lib.hid (D7.out.trans (hb.mono D7.out.size))
    clear hb
    go_wp2_with fail
    refine (refHas_any _ _ l r (HV.out.below (Nat.le_refl _) D8.out)).mono ?_
    rintro e w9 ⟨rfl, rfl⟩
    go_wp2_with fail
    refine (count_any _ _ l (HL.out.below D8.out).row).mono ?_
    rintro e w10 ⟨out10, hm, rfl, hb⟩
    obtain rfl := Rg.made_unique HM.out hm
    have D10 := Lib.hid (D8.out.trans (hb.mono D8.out.size))
    clear hb hm
    go_wp2_with fail
    refine (refCount _ _ l (HV.out.below (Nat.le_refl _) D10.out)).mono ?_
    rintro e w11 ⟨out11, hm, rfl, hb⟩
    obtain rfl := Rg.made_unique HM.out hm
    have D11 := Lib.hid (D10.out.trans (hb.mono D10.out.size))
    clear hb hm
    go_wp2_with fail
    refine (kept_any _ _ g n c1 l (HL.out.below D11.out) (HV.out.below (Nat.le_refl _) D11.out)).mono ?_
    rintro e w12 ⟨rfl, d12, rfl⟩
    have D12 := Lib.hid (below_drewN D11.out d12)
    go_wp2_with fail
    refine (works_any _).mono ?_
    rintro e w13 ⟨rfl, hb⟩
    have D13 := Lib.hid (D12.out.trans (hb.mono D12.out.size))
    clear hb
    go_wp2
    go_ret
    exact ⟨rfl, HB.out.trans (D13.out.mono HB.out.size)⟩
end Go.Proofs.Ytimllajokjebeaa
