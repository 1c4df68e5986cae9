/- The landed bands: does a sequence match a prefix; Long. -/
import Derived.Test.YtfopcgbfbedcjaaGp10
import Derived.Test.YtfopcgbfbedcjaaGp4
namespace Go.Proofs.Ytfopcgbfbedcjaa
open Go.RowKit
set_option linter.unusedVariables false
set_option maxRecDepth 100000 in
set_option maxHeartbeats 4000000 in
theorem begins_any (W : World) (v : Value) (q : List (Int × Int)) (s : ByteArray) (hs : s.size ≤ 4611686018427387904) (h : RRow W v q) :
    Calls Try.prog 32 #[.string s, v] W fun e w' => e = .returned (.bool (Bd.fitB q s)) ∧ Below W.heap.size W w' := by
  obtain ⟨ua, uc, rfl, hql, hqw, hqc⟩ := h
  have HQC := Lib.hid hqc
  have hroom : Bd.room q s = (decide (0 < q.length) && decide (q.length ≤ s.size)) := rfl
  have hfit : Bd.fitB q s = (Bd.room q s && Bd.fitK q s q.length) := rfl
  obtain ⟨m, hm⟩ : ∃ m, q.length = m := ⟨_, rfl⟩
  rw [hm] at hql HQC hroom hfit ⊢
  obtain ⟨R, hR⟩ : ∃ R, Bd.fitB q s = R := ⟨_, rfl⟩
  obtain ⟨rm, hrm⟩ : ∃ rm, Bd.room q s = rm := ⟨_, rfl⟩
  rw [hrm] at hroom hfit
  rw [hR] at hfit ⊢
  have HFIT := Lib.hid hfit
  have HM := Lib.hid hm
  have hcase : (rm = true ∧ 0 < m ∧ m ≤ s.size) ∨ (rm = false ∧ m = 0) ∨ (rm = false ∧ 0 < m ∧ ¬ m ≤ s.size) := by
    by_cases h1 : 0 < m
    · by_cases h2 : m ≤ s.size
      · exact .inl ⟨by rw [hroom, decide_eq_true h1, decide_eq_true h2]; rfl, h1, h2⟩
      · exact .inr (.inr ⟨by rw [hroom, decide_eq_false h2]; simp, h1, h2⟩)
    · exact .inr (.inl ⟨by rw [hroom, decide_eq_false h1]; rfl, by omega⟩)
  clear hqc hqw hroom hfit hm hrm hR
  rcases hcase with ⟨rfl, h1, h2⟩ | ⟨rfl, rfl⟩ | ⟨rfl, h1, h2⟩
  · have d1 : ((m : Int) == 0) = false := by rw [beq_eq_false_iff_ne]; omega
    have d2 : decide ((s.size : Int) < (m : Int)) = false := decide_eq_false (by omega)
    have d3 : decide (s.size < m) = false := decide_eq_false (by omega)
    go_enter Try.func32, Try.ntmps32
    go_wp2
    go_loopw [20] (fun K wr => ∃ k : Nat, k ≤ m ∧ K = .int .i64 k ∧ Hid (Bd.fitK q s k = true) ∧ Hid (Below W.heap.size W wr)) (fun K _ => m - (intOf K).toNat)
    case atStart => exact ⟨0, Nat.zero_le _, rfl, Lib.hid rfl, Lib.hid (Below.refl _ _)⟩
    case round =>
      obtain ⟨k, hk, rfl, HK, HB⟩ := hrel
      have hsz := HB.out.size
      by_cases hkm : k < m
      · have hks : k < s.size := by omega
        obtain ⟨b, off2, rfl, hb, hx1, hx2⟩ := HQC.out k hkm
        rw [← HB.out.cell (p := ⟨b, off2 + k * 2, none⟩) hb] at hx1
        rw [← HB.out.cell (p := ⟨b, off2 + k * 2 + 1, none⟩) hb] at hx2
        obtain ⟨p, hp⟩ : ∃ p, q[k]?.getD (0, 0) = p := ⟨_, rfl⟩
        have HFS := Bd.fitSt q s k hks p hp true HK.out
        rw [hp] at hx1 hx2
        clear hp
        obtain ⟨p1, p2⟩ := p
        dsimp only at hx1 hx2 HFS
        have j0 : (0 : Int) ≤ (k : Int) := by omega
        have j1 : (k : Int) < (m : Int) := by omega
        have j2 : (k : Int) < (s.size : Int) := by omega
        have hb8 := s[k].toNat_lt
        have ww : IntKind.i64.wrap (s[k].toNat : Int) = (s[k].toNat : Int) := by rw [IntKind.wrap_i64]; omega
        have HBA := Lib.hid (HB.out.alloc hsz (.cells #[.int .i64 p1, .int .i64 p2] 44))
        by_cases c1 : p1 ≤ (s[k].toNat : Int)
        · have e1 : decide ((s[k].toNat : Int) < p1) = false := decide_eq_false (by omega)
          by_cases c2 : (s[k].toNat : Int) ≤ p2
          · have e2 : decide (p2 < (s[k].toNat : Int)) = false := decide_eq_false (by omega)
            have HY := Lib.hid (HFS.yes c1 c2)
            clear HFS c1 c2
            go_wp2
            go_roundw
            case rel => exact ⟨k + 1, by omega, by go_num, HY, HBA⟩
            case measure => simp [intOf]; omega
          · have e2 : decide (p2 < (s[k].toNat : Int)) = true := decide_eq_true (by omega)
            have HF : Hid (R = false) := Lib.hid (by rw [HFIT.out, Bd.fitK_false q s (k + 1) (HFS.no2 c2) m (by omega)]; rfl)
            clear HFS c1 c2
            go_wp2
            go_ret
            exact ⟨by rw [HF.out]; rfl, HBA.out⟩
        · have e1 : decide ((s[k].toNat : Int) < p1) = true := decide_eq_true (by omega)
          have HF : Hid (R = false) := Lib.hid (by rw [HFIT.out, Bd.fitK_false q s (k + 1) (HFS.no1 c1) m (by omega)]; rfl)
          clear HFS c1
          go_wp2
          go_ret
          exact ⟨by rw [HF.out]; rfl, HBA.out⟩
      · obtain rfl : k = m := by omega
        have HF : Hid (R = true) := Lib.hid (by rw [HFIT.out, HK.out]; rfl)
        go_wp2
        go_ret
        exact ⟨by rw [HF.out]; rfl, HB.out⟩
  · have HF : Hid (R = false) := HFIT
    go_enter Try.func32, Try.ntmps32
    go_wp2
    go_ret
    exact ⟨by rw [HF.out]; rfl, Below.refl _ _⟩
  · have HF : Hid (R = false) := HFIT
    have d1 : ((m : Int) == 0) = false := by rw [beq_eq_false_iff_ne]; omega
    have d2 : decide ((s.size : Int) < (m : Int)) = true := decide_eq_true (by omega)
    have d3 : decide (s.size < m) = true := decide_eq_true (by omega)
    go_enter Try.func32, Try.ntmps32
    go_wp2
    go_ret
    exact ⟨by rw [HF.out]; rfl, Below.refl _ _⟩
set_option maxRecDepth 100000 in
set_option maxHeartbeats 4000000 in
theorem long_any (W : World) (v : Value) (L : List (List (Int × Int))) (s : ByteArray) (hs : s.size ≤ 4611686018427387904) (h : QRow W v L) :
    Calls Try.prog 19 #[v, .string s] W fun e w' => e = .returned (.int .i64 (Bd.longN L s)) ∧ Below W.heap.size W w' := by
  obtain ⟨a, cap, rfl, hl, hc⟩ := h
  have HC := Lib.hid hc
  obtain ⟨n, hn⟩ : ∃ n, L.length = n := ⟨_, rfl⟩
  have HN := Lib.hid hn
  obtain ⟨R, hR⟩ : ∃ R, Bd.longN L s = R := ⟨_, rfl⟩
  have HRR := Lib.hid hR
  have HBG := Lib.hid (fun w' v' q' (h' : RRow w' v' q') => begins_any w' v' q' s hs h')
  rw [hn] at hl HC ⊢
  rw [hR]
  clear hc hn hR
  go_enter Try.func19, Try.ntmps19
  go_wp2
  go_loopw [9] (fun I wr => ∃ i : Nat, i ≤ n ∧ I = .int .i64 i ∧ Hid (R = Bd.longN (L.drop i) s) ∧ Hid (Below W.heap.size W wr)) (fun I _ => n - (intOf I).toNat)
  case atStart => exact ⟨0, Nat.zero_le _, rfl, Lib.hid (by rw [List.drop_zero]; exact HRR.out.symm), Lib.hid (Below.refl _ _)⟩
  case round =>
    obtain ⟨i, hi, rfl, HR, HB⟩ := hrel
    have hsz := HB.out.size
    by_cases hlt : i < n
    · obtain ⟨g, off, u, rfl, hg, hc1, hu⟩ := HC.out i hlt
      obtain ⟨q, eq⟩ : ∃ q, L[i]?.getD [] = q := ⟨_, rfl⟩
      rw [eq] at hu
      have hdr := Bd.longN_drop L s i (by rw [HN.out]; exact hlt) q eq
      rw [← HR.out] at hdr
      have HD1 := Lib.hid hdr.1
      have HD2 := Lib.hid hdr.2
      rw [← HB.out.cell (p := ⟨g, off + i, none⟩) hg] at hc1
      have HU := Lib.hid (hu.below (Nat.le_refl _) HB.out)
      obtain ⟨ua, uc, rfl, hql, hqw, hqc⟩ := hu
      have HCALL := Lib.hid (HBG.out _ _ _ HU.out)
      obtain ⟨F, hF⟩ : ∃ F, Bd.fitB q s = F := ⟨_, rfl⟩
      rw [hF] at HD1 HD2 HCALL
      have k0 : (0 : Int) ≤ (i : Int) := by omega
      have k1 : (i : Int) < (n : Int) := by omega
      clear eq hdr hqc hqw hF HU
      go_wp2_with fail
      refine HCALL.out.mono ?_
      rintro e w1 ⟨rfl, hb1⟩
      have HB1 := Lib.hid (HB.out.trans (hb1.mono hsz))
      clear hb1
      cases F with
      | true =>
        have HE := Lib.hid (HD1.out rfl)
        go_wp2
        go_ret
        exact ⟨by rw [HE.out]; rfl, HB1.out⟩
      | false =>
        have HE := Lib.hid (HD2.out rfl)
        go_wp2
        go_roundw
        case rel => exact ⟨i + 1, by omega, by go_num, HE, HB1⟩
        case measure => simp [intOf]; omega
    · obtain rfl : i = n := by omega
      have hR := HR.out
      rw [List.drop_eq_nil_of_le (by rw [HN.out]; exact Nat.le_refl _)] at hR
      have HE : Hid (R = 0) := Lib.hid hR
      clear hR
      go_wp2
      go_ret
      exact ⟨by rw [HE.out]; rfl, HB.out⟩
end Go.Proofs.Ytfopcgbfbedcjaa
