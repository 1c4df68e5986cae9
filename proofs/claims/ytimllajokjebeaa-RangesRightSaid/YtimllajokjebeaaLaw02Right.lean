/- The law RangesRight, walked. -/
import Derived.Test.YtimllajokjebeaaLaw02Sets
namespace Go.Proofs.Ytimllajokjebeaa
open Go.RowKit
set_option linter.unusedVariables false
theorem RRow.form {W : World} {v : Value} {l : List (Int × Int)} (h : RRow W v l) : ∃ a k c, v = .slice a k c := by
  obtain ⟨a, cap, hv, _⟩ := h
  exact ⟨a, _, cap, hv⟩
theorem five_cells {w : World} {t : TypeId} {v0 v1 v2 v3 v4 : Value} {l0 l1 l2 l3 l4 : List (Int × Int)} (h0 : RRow w v0 l0) (h1 : RRow w v1 l1) (h2 : RRow w v2 l2) (h3 : RRow w v3 l3) (h4 : RRow w v4 l4)
    (n0 : Rg.NormL l0) (n1 : Rg.NormL l1) (n2 : Rg.NormL l2) (n3 : Rg.NormL l3) (n4 : Rg.NormL l4) :
    ∀ k, k < 5 → ∃ v l, (w.alloc (.cells #[v0, v1, v2, v3, v4] t)).cell? ⟨w.heap.size, k, none⟩ = some v ∧ RRow (w.alloc (.cells #[v0, v1, v2, v3, v4] t)) v l ∧ Rg.NormL l := by
  have hb := (Below.refl w.heap.size w).alloc (Nat.le_refl _) (.cells #[v0, v1, v2, v3, v4] t)
  intro k hk
  match k, hk with
  | 0, _ => exact ⟨v0, l0, by simp, h0.below (Nat.le_refl _) hb, n0⟩
  | 1, _ => exact ⟨v1, l1, by simp, h1.below (Nat.le_refl _) hb, n1⟩
  | 2, _ => exact ⟨v2, l2, by simp, h2.below (Nat.le_refl _) hb, n2⟩
  | 3, _ => exact ⟨v3, l3, by simp, h3.below (Nat.le_refl _) hb, n3⟩
  | 4, _ => exact ⟨v4, l4, by simp, h4.below (Nat.le_refl _) hb, n4⟩
set_option maxRecDepth 100000 in
set_option maxHeartbeats 8000000 in
theorem right_core (W : World) (a b : List (Int × Int)) (sa sb : Option Addr) (n m ca cb : Nat) (hn : n ≤ 60) (hm : m ≤ 60) (ha : RRow W (.slice sa n ca) a) (hb : RRow W (.slice sb m cb) b) :
    Calls Try.prog 6 #[.slice sa n ca, .slice sb m cb] W fun e w' => e = .returned (.bool true) ∧ Below W.heap.size W w' := by
  have D0 := Lib.hid (Below.refl W.heap.size W)
  have HA0 := Lib.hid ha
  have HB0 := Lib.hid hb
  clear ha hb
  go_enter Try.func6, Try.ntmps6
  go_wp2_with fail
  refine (works_any _).mono ?_
  rintro e w1 ⟨rfl, hb⟩
  have HA1 := Lib.hid (HA0.out.below (Nat.le_refl _) hb)
  have HB1 := Lib.hid (HB0.out.below (Nat.le_refl _) hb)
  have D1 := Lib.hid (D0.out.trans (hb.mono D0.out.size))
  clear hb HA0 HB0
  go_wp2_with fail
  refine (norm_any _ _ a HA1.out).mono ?_
  rintro e w2 ⟨vn, on, rfl, hm, ho, hb⟩
  have HA2 := Lib.hid (HA1.out.below (Nat.le_refl _) hb)
  have HB2 := Lib.hid (HB1.out.below (Nat.le_refl _) hb)
  have D2 := Lib.hid (D1.out.trans (hb.mono D1.out.size))
  have Mn := Lib.hid hm
  have Rn2 := Lib.hid (ho.normRow hm.norm)
  clear hm ho
  clear hb HA1 HB1
  go_wp2_with fail
  refine (union_any _ _ _ a b HA2.out HB2.out).mono ?_
  rintro e w3 ⟨vu, ou, rfl, hm, ho, hb⟩
  have HA3 := Lib.hid (HA2.out.below (Nat.le_refl _) hb)
  have HB3 := Lib.hid (HB2.out.below (Nat.le_refl _) hb)
  have Rn3 := Lib.hid (Rn2.out.below (Nat.le_refl _) hb)
  have D3 := Lib.hid (D2.out.trans (hb.mono D2.out.size))
  have Mu := Lib.hid hm
  have Ru3 := Lib.hid (ho.normRow hm.norm)
  clear hm ho
  clear hb HA2 HB2 Rn2
  go_wp2_with fail
  refine (both_any _ _ _ a b HA3.out HB3.out).mono ?_
  rintro e w4 ⟨vv, ov, rfl, hm, ho, hb⟩
  have HA4 := Lib.hid (HA3.out.below (Nat.le_refl _) hb)
  have HB4 := Lib.hid (HB3.out.below (Nat.le_refl _) hb)
  have Rn4 := Lib.hid (Rn3.out.below (Nat.le_refl _) hb)
  have Ru4 := Lib.hid (Ru3.out.below (Nat.le_refl _) hb)
  have D4 := Lib.hid (D3.out.trans (hb.mono D3.out.size))
  have Mv := Lib.hid hm
  have Rv4 := Lib.hid (ho.normRow hm.norm)
  clear hm ho
  clear hb HA3 HB3 Rn3 Ru3
  go_wp2_with fail
  refine (minus_any _ _ _ a b HA4.out HB4.out).mono ?_
  rintro e w5 ⟨vm, om, rfl, hm, ho, hb⟩
  have HA5 := Lib.hid (HA4.out.below (Nat.le_refl _) hb)
  have HB5 := Lib.hid (HB4.out.below (Nat.le_refl _) hb)
  have Rn5 := Lib.hid (Rn4.out.below (Nat.le_refl _) hb)
  have Ru5 := Lib.hid (Ru4.out.below (Nat.le_refl _) hb)
  have Rv5 := Lib.hid (Rv4.out.below (Nat.le_refl _) hb)
  have D5 := Lib.hid (D4.out.trans (hb.mono D4.out.size))
  have Mm := Lib.hid hm
  have Rm5 := Lib.hid (ho.normRow hm.norm)
  clear hm ho
  clear hb HA4 HB4 Rn4 Ru4 Rv4
  go_wp2_with fail
  refine (not_any _ _ a HA5.out).mono ?_
  rintro e w6 ⟨vz, oz, rfl, hm, ho, hb⟩
  have HA6 := Lib.hid (HA5.out.below (Nat.le_refl _) hb)
  have HB6 := Lib.hid (HB5.out.below (Nat.le_refl _) hb)
  have Rn6 := Lib.hid (Rn5.out.below (Nat.le_refl _) hb)
  have Ru6 := Lib.hid (Ru5.out.below (Nat.le_refl _) hb)
  have Rv6 := Lib.hid (Rv5.out.below (Nat.le_refl _) hb)
  have Rm6 := Lib.hid (Rm5.out.below (Nat.le_refl _) hb)
  have D6 := Lib.hid (D5.out.trans (hb.mono D5.out.size))
  have Mz := Lib.hid hm
  have Rz6 := Lib.hid (ho.normRow hm.norm)
  clear hm ho
  clear hb HA5 HB5 Rn5 Ru5 Rv5 Rm5
  obtain ⟨pn, kn, qn, rfl⟩ := Rn6.out.form
  obtain ⟨pu, ku, qu, rfl⟩ := Ru6.out.form
  obtain ⟨pv, kv, qv, rfl⟩ := Rv6.out.form
  obtain ⟨pm, km, qm, rfl⟩ := Rm6.out.form
  obtain ⟨pz, kz, qz, rfl⟩ := Rz6.out.form
  have H5 := Lib.hid (five_cells (t := 22) Rn6.out Ru6.out Rv6.out Rm6.out Rz6.out Mn.out.norm Mu.out.norm Mv.out.norm Mm.out.norm Mz.out.norm)
  have D7 := Lib.hid (D6.out.alloc D6.out.size (.cells #[.slice pn kn qn, .slice pu ku qu, .slice pv kv qv, .slice pm km qm, .slice pz kz qz] 22))
  have E7 := Lib.hid ((Below.refl w6.heap.size w6).alloc (Nat.le_refl _) (.cells #[.slice pn kn qn, .slice pu ku qu, .slice pv kv qv, .slice pm km qm, .slice pz kz qz] 22))
  have HA7 := Lib.hid (HA6.out.below (Nat.le_refl _) E7.out)
  have Rn7 := Lib.hid (Rn6.out.below (Nat.le_refl _) E7.out)
  go_wp2
  have hz7 : (w6.alloc (.cells #[.slice pn kn qn, .slice pu ku qu, .slice pv kv qv, .slice pm km qm, .slice pz kz qz] 22)).heap.size = w6.heap.size + 1 := by simp
  obtain ⟨w7, hw7⟩ : ∃ w7, w6.alloc (.cells #[.slice pn kn qn, .slice pu ku qu, .slice pv kv qv, .slice pm km qm, .slice pz kz qz] 22) = w7 := ⟨_, rfl⟩
  rw [hw7] at hz7 H5 D7 HA7 Rn7 ⊢
  have hg : w6.heap.size < w7.heap.size := by omega
  clear hw7 hz7 E7
  obtain ⟨g, hgg⟩ : ∃ g, w6.heap.size = g := ⟨_, rfl⟩
  rw [hgg] at hg H5 ⊢
  clear hgg
  go_loopw [7, 34] (fun _ I wr => ∃ k : Nat, k ≤ 5 ∧ I = .int .i64 k ∧ Hid (Below w7.heap.size w7 wr)) (fun _ I _ => 5 - (intOf I).toNat)
  case atStart => exact ⟨0, Nat.zero_le _, rfl, Lib.hid (Below.refl _ _)⟩
  case round =>
    obtain ⟨k, hk, rfl, E⟩ := hrel
    by_cases hlt : k < 5
    · obtain ⟨v, l, hc, hr, hn⟩ := H5.out k hlt
      rw [← E.out.cell (p := ⟨g, k, none⟩) hg] at hc
      have HR := Lib.hid (hr.below (Nat.le_refl _) E.out)
      have HNm := Lib.hid hn
      have HCk := Lib.hid ((Rg.check_norm l).2 hn)
      clear hr hn
      go_wp2_with fail
      refine (check_any _ _ l HR.out).mono ?_
      rintro e w1 ⟨rfl, hb⟩
      rw [HCk.out]
      have HR1 := Lib.hid (HR.out.below (Nat.le_refl _) hb)
      have E1 := Lib.hid (E.out.trans (hb.mono E.out.size))
      clear hb
      go_wp2_with fail
      refine (norm_any _ _ l HR1.out).mono ?_
      rintro e w2 ⟨v2, o2, rfl, hm, ho, hb⟩
      obtain rfl := Rg.listOf_norm HNm.out hm
      have RR := Lib.hid (ho.normRow hm.norm)
      have HR2 := Lib.hid (HR1.out.below (Nat.le_refl _) hb)
      have E2 := Lib.hid (E1.out.trans (hb.mono E1.out.size))
      clear hb hm ho
      go_wp2_with fail
      refine (same_refl_row _ _ _ _ _ RR.out HR2.out rfl).mono ?_
      rintro e w3 ⟨rfl, hb⟩
      have E3 := Lib.hid (E2.out.trans (hb.mono E2.out.size))
      clear hb
      go_wp2
      go_roundw
      case rel => exact ⟨k + 1, by omega, by go_num, E3⟩
      case measure => simp [intOf]; omega
    · obtain rfl : k = 5 := by omega
      have HA8 := Lib.hid (HA7.out.below (Nat.le_refl _) E.out)
      have Rn8 := Lib.hid (Rn7.out.below (Nat.le_refl _) E.out)
      have D8 := Lib.hid (D7.out.trans (E.out.mono D7.out.size))
      by_cases hna : Rg.NormL a
      · have HCk := Lib.hid ((Rg.check_norm a).2 hna)
        have HE := Lib.hid (Rg.listOf_norm hna Mn.out)
        clear hna
        go_wp2_with fail
        refine (check_any _ _ a HA8.out).mono ?_
        rintro e w9 ⟨rfl, hb⟩
        rw [HCk.out]
        have D9 := Lib.hid (D8.out.trans (hb.mono D8.out.size))
        have HA9 := Lib.hid (HA8.out.below (Nat.le_refl _) hb)
        have Rn9 := Lib.hid (Rn8.out.below (Nat.le_refl _) hb)
        clear hb
        go_wp2_with fail
        refine (same_refl_row _ _ _ _ _ Rn9.out HA9.out HE.out).mono ?_
        rintro e w10 ⟨rfl, hb⟩
        have D10 := Lib.hid (D9.out.trans (hb.mono D9.out.size))
        clear hb
        go_wp2
        go_ret
        exact ⟨rfl, D10.out⟩
      · have hck : Rg.checkF none a ≠ 0 := fun e => hna ((Rg.check_norm a).1 e)
        obtain ⟨z, hz⟩ : ∃ z, Rg.checkF none a = z := ⟨_, rfl⟩
        rw [hz] at hck
        have HZ := Lib.hid hz
        have hq : (z != 0) = true := by rw [bne_iff_ne]; exact hck
        clear hz hna hck
        go_wp2_with fail
        refine (check_any _ _ a HA8.out).mono ?_
        rintro e w9 ⟨rfl, hb⟩
        rw [HZ.out]
        have D9 := Lib.hid (D8.out.trans (hb.mono D8.out.size))
        clear hb
        go_wp2
        go_ret
        exact ⟨rfl, D9.out⟩
set_option maxRecDepth 100000 in
set_option maxHeartbeats 4000000 in
theorem walkRangesRight (W : World) (v : Value) (l : List (Int × Int)) (v' : Value) (l' : List (Int × Int)) (hr : RRow W v l) (hr' : RRow W v' l') :
    Calls Try.prog 6 #[v, v'] W fun e w' => e = .returned (.bool true) ∧ Below W.heap.size W w' := by
  have HR := Lib.hid hr
  have HR' := Lib.hid hr'
  obtain ⟨a, ca, rfl, hl, _⟩ := hr
  obtain ⟨b, cb, rfl, hl', _⟩ := hr'
  obtain ⟨n, hn⟩ : ∃ n, l.length = n := ⟨_, rfl⟩
  obtain ⟨m, hm⟩ : ∃ m, l'.length = m := ⟨_, rfl⟩
  rw [hn] at HR hl ⊢
  rw [hm] at HR' hl' ⊢
  clear hn hm
  by_cases h1 : 60 < n
  · go_enter Try.func6, Try.ntmps6
    go_wp2_with fail
    refine (works_any _).mono ?_
    rintro e w1 ⟨rfl, hb⟩
    have D1 := Lib.hid hb
    clear hb
    go_wp2
    go_ret
    exact ⟨rfl, D1.out⟩
  · by_cases h2 : 60 < m
    · go_enter Try.func6, Try.ntmps6
      go_wp2_with fail
      refine (works_any _).mono ?_
      rintro e w1 ⟨rfl, hb⟩
      have D1 := Lib.hid hb
      clear hb
      go_wp2
      go_ret
      exact ⟨rfl, D1.out⟩
    · exact right_core W l l' a b n m ca cb (by omega) (by omega) HR.out HR'.out
end Go.Proofs.Ytimllajokjebeaa
