/- The landed bands: Of and Split. · The landed bands: does a sequence match a prefix; Long. · The plain mathematics of bands: which texts a set's sequences take; no program. -/
import Derived.Test.YtfopcgbfbedcjaaPk10
import Derived.Test.YtfopcgbfbedcjaaPk13
import Derived.Test.YtfopcgbfbedcjaaPk5
import Derived.Test.YtfopcgbfbedcjaaPk2
namespace Go.Proofs.Ytfopcgbfbedcjaa
open Go.RowKit
set_option linter.unusedVariables false
/-- What the landed Of hands back. -/
def OfPostN (l : List (Int × Int)) (W : World) (e : Ending) (w' : World) : Prop := ∃ C, Rg.Made 2 l Bd.runesT C ∧ SeqPost (Bd.ofL C) W e w'
theorem runes_any (W : World) : Calls Try.prog 28 #[] W fun e w' => e = .returned (.slice (some ⟨W.heap.size, 0, none⟩) 2 2) ∧ RRow w' (.slice (some ⟨W.heap.size, 0, none⟩) 2 2) Bd.runesT ∧ Below W.heap.size W w' := by
  go_enter Try.func28, Try.ntmps28
  go_wp2
  go_ret
  refine ⟨rfl, ?_, (Below.refl _ _).alloc (Nat.le_refl _) _⟩
  exact ⟨_, 2, rfl, by decide, (fun p hp => by simp [Bd.runesT] at hp; rcases hp with rfl | rfl <;> decide), fun j hj => by
    have hj2 : j < 2 := hj
    match j, hj2 with
    | 0, _ => exact ⟨W.heap.size, 0, rfl, by simp, by simp [Bd.runesT], by simp [Bd.runesT]⟩
    | 1, _ => exact ⟨W.heap.size, 0, rfl, by simp, by simp [Bd.runesT], by simp [Bd.runesT]⟩⟩
set_option maxRecDepth 100000 in
set_option maxHeartbeats 4000000 in
theorem of_any (W : World) (va : Value) (l : List (Int × Int)) (ha : RRow W va l) : Calls Try.prog 13 #[va] W (OfPostN l W) := by
  obtain ⟨i1, hi1, hy0, hy1, hy2⟩ := info_parts Try.infoSeq
  have HA := Lib.hid ha
  clear ha
  go_enter Try.func13, Try.ntmps13
  go_wp2_with fail
  refine (runes_any _).mono ?_
  rintro e w0 ⟨rfl, hr0, hb0⟩
  have HR0 := Lib.hid hr0
  have HB0 := Lib.hid hb0
  have HA0 := Lib.hid (HA.out.below (Nat.le_refl _) hb0)
  clear hr0 hb0 HA
  go_wp2_with fail
  refine (both_any _ _ _ l Bd.runesT HA0.out HR0.out).mono ?_
  rintro e w1 ⟨vm, C, rfl, hm, ho, hb⟩
  have HM := Lib.hid hm
  have HNB := Lib.hid hm.norm
  have D1 := Lib.hid (HB0.out.trans (hb.mono HB0.out.size))
  have HE2 := Lib.hid (ho.normRow hm.norm)
  have HRU : Hid (∀ k, k < C.length → Bd.Runes (C[k]?.getD (0, 0)).1 (C[k]?.getD (0, 0)).2) := Lib.hid (fun k hk => by
    refine Bd.runes_of_made hm _ ?_
    rw [List.getElem?_eq_getElem hk]; exact List.getElem_mem _)
  have hln := Rg.norm_len C 0 hm.norm (by omega)
  obtain ⟨ba, bc, rfl, hbl, hbw, hbc⟩ := HE2.out
  have HBC := Lib.hid hbc
  obtain ⟨n, hn⟩ : ∃ n, C.length = n := ⟨_, rfl⟩
  have HN := Lib.hid hn
  rw [hn] at hbl HBC hln HRU ⊢
  clear hm hbw hbc ho hb hn HR0 HA0 HB0 HE2
  go_wp2
  go_loopw [3, 10] (fun V I wr => ∃ (k : Nat) (us : List Value), k ≤ n ∧ I = .int .i64 k ∧ Hid (QOwnU wr w1.heap.size V us (Bd.ofL (C.take k))) ∧ Hid (Below w1.heap.size w1 wr)) (fun _ I _ => n - (intOf I).toNat)
  case atStart => exact ⟨0, [], Nat.zero_le _, rfl, Lib.hid (by rw [List.take_zero]; exact QOwnU.nil), Lib.hid (Below.refl _ _)⟩
  case round =>
    obtain ⟨k, us, hk, rfl, HO, HB⟩ := hrel
    obtain ⟨wo, rfl⟩ : ∃ wo : World, wo = wr := ⟨_, rfl⟩
    have hsz := HB.out.size
    by_cases hlt : k < n
    · obtain ⟨g, off, rfl, hg, hc1, hc2⟩ := HBC.out k hlt
      rw [← HB.out.cell (p := ⟨g, off + k * 2, none⟩) hg] at hc1
      rw [← HB.out.cell (p := ⟨g, off + k * 2 + 1, none⟩) hg] at hc2
      have hrn := HRU.out k hlt
      have hgw : g < wo.heap.size := by omega
      obtain ⟨p, hp⟩ : ∃ p, C[k]?.getD (0, 0) = p := ⟨_, rfl⟩
      have hsu := Bd.ofL_succ C k (by rw [HN.out]; exact hlt) p hp
      rw [hp] at hc1 hc2 hrn
      clear hp
      obtain ⟨p1, p2⟩ := p
      dsimp only at hc1 hc2 hrn hsu
      have hlk := Bd.ofL_len C 0 k HNB.out (Int.le_refl 0) (by omega)
      have hls := Bd.splitL_len hrn.lo0 hrn.le hrn.top
      have hpos := Bd.splitL_pos hrn
      have hpt := hrn.top
      have hp0 := hrn.lo0
      have HSP := Lib.hid (fun w' => translate_any w' p1 p2 hrn)
      obtain ⟨L2, hL2⟩ : ∃ L2, Bd.splitL p1 p2 = L2 := ⟨_, rfl⟩
      obtain ⟨L1, hL1⟩ : ∃ L1, Bd.ofL (C.take k) = L1 := ⟨_, rfl⟩
      rw [hL2] at hls HSP hsu hpos
      rw [hL1] at hlk HO hsu
      have HSU := Lib.hid hsu
      clear hL2 hL1 hsu hrn
      have k0 : (0 : Int) ≤ (k : Int) := by omega
      have k1 : (k : Int) < (n : Int) := by omega
      have hn1 := HO.out.1
      have ub : us.length ≤ 1114113 := by omega
      have HHO := Lib.hid (fun b (e : u3.ownBlock = some b) => (HO.out.2.1.lt b e).2)
      have HHI := Lib.hid (fun j (hj : j < us.length) b (e : (us[j]?.getD nilV).ownBlock = some b) => ((HO.out.2.2.1 j hj).lt e).2)
      clear hn1
      go_wp2_with fail
      refine (HSP.out _).mono ?_
      rintro e w6 ⟨v2, us2, rfl, q2, hb2⟩
      have hbo : Below wo.heap.size wo w6 := ((Below.refl wo.heap.size wo).alloc (Nat.le_refl _) _).trans (hb2.mono (by simp))
      have hn2 := q2.1
      obtain ⟨b, c, rfl, hnews, hcells⟩ := q2.news (by rw [hn2]; exact hpos)
      have hq6 := HO.out.below hbo
      have hown := hq6.2.1
      have hz6 := hbo.size
      have hz7 : w1.heap.size ≤ w6.heap.size := Nat.le_trans hsz hz6
      have Q2 := Lib.hid (q2.lower (base' := wo.heap.size) (by simp))
      have HQ6 := Lib.hid hq6
      have HBO := Lib.hid hbo
      rw [hn2]
      clear q2 hq6 hb2 hbo
      go_wp2_with (at_builtin; (refine wpList_append_lies _ (by rfl) _ _ 26 (by rfl) w1.heap.size 22 i1 nilV 1 24 Try.underlying26 hi1 hy0 hy1 hy2 rfl (by decide) u3 us.length us (by rfl) hown ⟨b, 0, none⟩ L2.length c us2 (by rfl) (by omega) hnews hcells (by omega) (by unfold maxLen; omega) (by omega) hz7 w6.heap.size rfl ?_))
      intro gg cap1 wz hown1 hgrow hat hlt1
      rw [← hn2] at hown1
      have hjn := QOwnU.join HQ6.out Q2.out hsz HHO.out HHI.out hown1 hgrow (hat.imp id (fun h => by omega))
      rw [← HSU.out, hn2] at hjn
      have HJN := Lib.hid hjn
      have HDZ := Lib.hid ((HB.out.trans (HBO.out.mono hsz)).grown hgrow hz7 (fun q hq => (hown.lt q hq).1))
      clear hjn hown1 hgrow hat hlt1 hown hnews hcells
      go_wp2
      go_roundw
      case rel => exact ⟨k + 1, _, by omega, by go_num, HJN, HDZ⟩
      case measure => simp [intOf]; omega
    · obtain rfl : k = n := by omega
      have hO := HO.out
      rw [List.take_of_length_le (by rw [HN.out]; exact Nat.le_refl _)] at hO
      have HO2 := Lib.hid (hO.lower D1.out.size)
      have HE := Lib.hid (D1.out.trans (HB.out.mono D1.out.size))
      clear hO
      go_wp2
      go_ret
      exact ⟨C, HM.out, _, us, rfl, HO2.out, HE.out⟩
set_option maxRecDepth 100000 in
theorem split_any (W : World) (lo hi : Int) (h1 : -9223372036854775808 ≤ lo ∧ lo ≤ 9223372036854775807) (h2 : -9223372036854775808 ≤ hi ∧ hi ≤ 9223372036854775807) : Calls Try.prog 11 #[.int .i64 lo, .int .i64 hi] W (SeqPost (Bd.splitL lo hi) W) := by
  have HO := Lib.hid (of_any _ _ _ (rrow_one W lo hi h1 h2 44))
  go_enter Try.func11, Try.ntmps11
  go_wp2_with fail
  refine HO.out.mono ?_
  rintro e w1 ⟨C, hC, v, us, rfl, hq, hb⟩
  have HQ := Lib.hid (hq.lower (base' := W.heap.size) (by simp))
  have HB := Lib.hid (((Below.refl W.heap.size W).alloc (Nat.le_refl _) _).trans (hb.mono (by simp)))
  have HE := Lib.hid (Bd.one_both hC)
  clear hq hb hC
  go_wp2
  go_ret
  rw [HE.out] at HQ
  exact ⟨v, us, rfl, HQ.out, HB.out⟩
end Go.Proofs.Ytfopcgbfbedcjaa
namespace Go.Proofs.Ytfopcgbfbedcjaa
open Go.RowKit
set_option linter.unusedVariables false
set_option maxRecDepth 100000 in
set_option maxHeartbeats 4000000 in
theorem begins_any (W : World) (v : Value) (q : List (Int × Int)) (s : ByteArray) (hs : s.size ≤ 4611686018427387904) (h : RRow W v q) :
    Calls Try.prog 32 #[.string s, v] W fun e w' => e = .returned (.bool (Bd.fitB q s)) ∧ Below W.heap.size W w' := by
  obtain ⟨ua, uc, rfl, hql, hqw, hqc⟩ := h
  have HQC := Lib.hid hqc
  have hroom : Bd.room q s = (decide (0 < q.length) && decide (q.length ≤ s.size)) := rfl
  have hfit : Bd.fitB q s = (Bd.room q s && Bd.fitK q s q.length) := rfl
  obtain ⟨m, hm⟩ : ∃ m, q.length = m := ⟨_, rfl⟩
  rw [hm] at hql HQC hroom hfit ⊢
  obtain ⟨R, hR⟩ : ∃ R, Bd.fitB q s = R := ⟨_, rfl⟩
  obtain ⟨rm, hrm⟩ : ∃ rm, Bd.room q s = rm := ⟨_, rfl⟩
  rw [hrm] at hroom hfit
  rw [hR] at hfit ⊢
  have HFIT := Lib.hid hfit
  have HM := Lib.hid hm
  have hcase : (rm = true ∧ 0 < m ∧ m ≤ s.size) ∨ (rm = false ∧ m = 0) ∨ (rm = false ∧ 0 < m ∧ ¬ m ≤ s.size) := by
    by_cases h1 : 0 < m
    · by_cases h2 : m ≤ s.size
      · exact .inl ⟨by rw [hroom, decide_eq_true h1, decide_eq_true h2]; rfl, h1, h2⟩
      · exact .inr (.inr ⟨by rw [hroom, decide_eq_false h2]; simp, h1, h2⟩)
    · exact .inr (.inl ⟨by rw [hroom, decide_eq_false h1]; rfl, by omega⟩)
  clear hqc hqw hroom hfit hm hrm hR
  rcases hcase with ⟨rfl, h1, h2⟩ | ⟨rfl, rfl⟩ | ⟨rfl, h1, h2⟩
  · have d1 : ((m : Int) == 0) = false := by rw [beq_eq_false_iff_ne]; omega
    have d2 : decide ((s.size : Int) < (m : Int)) = false := decide_eq_false (by omega)
    have d3 : decide (s.size < m) = false := decide_eq_false (by omega)
    go_enter Try.func32, Try.ntmps32
    go_wp2
    go_loopw [20] (fun K wr => ∃ k : Nat, k ≤ m ∧ K = .int .i64 k ∧ Hid (Bd.fitK q s k = true) ∧ Hid (Below W.heap.size W wr)) (fun K _ => m - (intOf K).toNat)
    case atStart => exact ⟨0, Nat.zero_le _, rfl, Lib.hid rfl, Lib.hid (Below.refl _ _)⟩
    case round =>
      obtain ⟨k, hk, rfl, HK, HB⟩ := hrel
      have hsz := HB.out.size
      by_cases hkm : k < m
      · have hks : k < s.size := by omega
        obtain ⟨b, off2, rfl, hb, hx1, hx2⟩ := HQC.out k hkm
        rw [← HB.out.cell (p := ⟨b, off2 + k * 2, none⟩) hb] at hx1
        rw [← HB.out.cell (p := ⟨b, off2 + k * 2 + 1, none⟩) hb] at hx2
        obtain ⟨p, hp⟩ : ∃ p, q[k]?.getD (0, 0) = p := ⟨_, rfl⟩
        have HFS := Bd.fitSt q s k hks p hp true HK.out
        rw [hp] at hx1 hx2
        clear hp
        obtain ⟨p1, p2⟩ := p
        dsimp only at hx1 hx2 HFS
        have j0 : (0 : Int) ≤ (k : Int) := by omega
        have j1 : (k : Int) < (m : Int) := by omega
        have j2 : (k : Int) < (s.size : Int) := by omega
        have hb8 := s[k].toNat_lt
        have ww : IntKind.i64.wrap (s[k].toNat : Int) = (s[k].toNat : Int) := by rw [IntKind.wrap_i64]; omega
        have HBA := Lib.hid (HB.out.alloc hsz (.cells #[.int .i64 p1, .int .i64 p2] 44))
        by_cases c1 : p1 ≤ (s[k].toNat : Int)
        · have e1 : decide ((s[k].toNat : Int) < p1) = false := decide_eq_false (by omega)
          by_cases c2 : (s[k].toNat : Int) ≤ p2
          · have e2 : decide (p2 < (s[k].toNat : Int)) = false := decide_eq_false (by omega)
            have HY := Lib.hid (HFS.yes c1 c2)
            clear HFS c1 c2
            go_wp2
            go_roundw
            case rel => exact ⟨k + 1, by omega, by go_num, HY, HBA⟩
            case measure => simp [intOf]; omega
          · have e2 : decide (p2 < (s[k].toNat : Int)) = true := decide_eq_true (by omega)
            have HF : Hid (R = false) := Lib.hid (by rw [HFIT.out, Bd.fitK_false q s (k + 1) (HFS.no2 c2) m (by omega)]; rfl)
            clear HFS c1 c2
            go_wp2
            go_ret
            exact ⟨by rw [HF.out]; rfl, HBA.out⟩
        · have e1 : decide ((s[k].toNat : Int) < p1) = true := decide_eq_true (by omega)
          have HF : Hid (R = false) := Lib.hid (by rw [HFIT.out, Bd.fitK_false q s (k + 1) (HFS.no1 c1) m (by omega)]; rfl)
          clear HFS c1
          go_wp2
          go_ret
          exact ⟨by rw [HF.out]; rfl, HBA.out⟩
      · obtain rfl : k = m := by omega
        have HF : Hid (R = true) := Lib.hid (by rw [HFIT.out, HK.out]; rfl)
        go_wp2
        go_ret
        exact ⟨by rw [HF.out]; rfl, HB.out⟩
  · have HF : Hid (R = false) := HFIT
    go_enter Try.func32, Try.ntmps32
    go_wp2
    go_ret
    exact ⟨by rw [HF.out]; rfl, Below.refl _ _⟩
  · have HF : Hid (R = false) := HFIT
    have d1 : ((m : Int) == 0) = false := by rw [beq_eq_false_iff_ne]; omega
    have d2 : decide ((s.size : Int) < (m : Int)) = true := decide_eq_true (by omega)
    have d3 : decide (s.size < m) = true := decide_eq_true (by omega)
    go_enter Try.func32, Try.ntmps32
    go_wp2
    go_ret
    exact ⟨by rw [HF.out]; rfl, Below.refl _ _⟩
set_option maxRecDepth 100000 in
set_option maxHeartbeats 4000000 in
theorem long_any (W : World) (v : Value) (L : List (List (Int × Int))) (s : ByteArray) (hs : s.size ≤ 4611686018427387904) (h : QRow W v L) :
    Calls Try.prog 19 #[v, .string s] W fun e w' => e = .returned (.int .i64 (Bd.longN L s)) ∧ Below W.heap.size W w' := by
  obtain ⟨a, cap, rfl, hl, hc⟩ := h
  have HC := Lib.hid hc
  obtain ⟨n, hn⟩ : ∃ n, L.length = n := ⟨_, rfl⟩
  have HN := Lib.hid hn
  obtain ⟨R, hR⟩ : ∃ R, Bd.longN L s = R := ⟨_, rfl⟩
  have HRR := Lib.hid hR
  have HBG := Lib.hid (fun w' v' q' (h' : RRow w' v' q') => begins_any w' v' q' s hs h')
  rw [hn] at hl HC ⊢
  rw [hR]
  clear hc hn hR
  go_enter Try.func19, Try.ntmps19
  go_wp2
  go_loopw [9] (fun I wr => ∃ i : Nat, i ≤ n ∧ I = .int .i64 i ∧ Hid (R = Bd.longN (L.drop i) s) ∧ Hid (Below W.heap.size W wr)) (fun I _ => n - (intOf I).toNat)
  case atStart => exact ⟨0, Nat.zero_le _, rfl, Lib.hid (by rw [List.drop_zero]; exact HRR.out.symm), Lib.hid (Below.refl _ _)⟩
  case round =>
    obtain ⟨i, hi, rfl, HR, HB⟩ := hrel
    have hsz := HB.out.size
    by_cases hlt : i < n
    · obtain ⟨g, off, u, rfl, hg, hc1, hu⟩ := HC.out i hlt
      obtain ⟨q, eq⟩ : ∃ q, L[i]?.getD [] = q := ⟨_, rfl⟩
      rw [eq] at hu
      have hdr := Bd.longN_drop L s i (by rw [HN.out]; exact hlt) q eq
      rw [← HR.out] at hdr
      have HD1 := Lib.hid hdr.1
      have HD2 := Lib.hid hdr.2
      rw [← HB.out.cell (p := ⟨g, off + i, none⟩) hg] at hc1
      have HU := Lib.hid (hu.below (Nat.le_refl _) HB.out)
      obtain ⟨ua, uc, rfl, hql, hqw, hqc⟩ := hu
      have HCALL := Lib.hid (HBG.out _ _ _ HU.out)
      obtain ⟨F, hF⟩ : ∃ F, Bd.fitB q s = F := ⟨_, rfl⟩
      rw [hF] at HD1 HD2 HCALL
      have k0 : (0 : Int) ≤ (i : Int) := by omega
      have k1 : (i : Int) < (n : Int) := by omega
      clear eq hdr hqc hqw hF HU
      go_wp2_with fail
      refine HCALL.out.mono ?_
      rintro e w1 ⟨rfl, hb1⟩
      have HB1 := Lib.hid (HB.out.trans (hb1.mono hsz))
      clear hb1
      cases F with
      | true =>
        have HE := Lib.hid (HD1.out rfl)
        go_wp2
        go_ret
        exact ⟨by rw [HE.out]; rfl, HB1.out⟩
      | false =>
        have HE := Lib.hid (HD2.out rfl)
        go_wp2
        go_roundw
        case rel => exact ⟨i + 1, by omega, by go_num, HE, HB1⟩
        case measure => simp [intOf]; omega
    · obtain rfl : i = n := by omega
      have hR := HR.out
      rw [List.drop_eq_nil_of_le (by rw [HN.out]; exact Nat.le_refl _)] at hR
      have HE : Hid (R = 0) := Lib.hid hR
      clear hR
      go_wp2
      go_ret
      exact ⟨by rw [HE.out]; rfl, HB.out⟩
end Go.Proofs.Ytfopcgbfbedcjaa
namespace Go.Proofs.Ytfopcgbfbedcjaa.Bd
open Go.Proofs.Ytfopcgbfbedcjaa.Rg
set_option linter.unusedVariables false
/-! A number's digits at 64. -/
structure Digs (a a3 a2 a1 a0 : Int) : Prop where
  eq : a = ((a3 * 64 + a2) * 64 + a1) * 64 + a0
  b0 : 0 ≤ a0 ∧ a0 < 64
  b1 : 0 ≤ a1 ∧ a1 < 64
  b2 : 0 ≤ a2 ∧ a2 < 64
theorem digs (a : Int) : Digs a (a / 262144) (a / 4096 % 64) (a / 64 % 64) (a % 64) := ⟨by omega, by omega, by omega, by omega⟩
theorem Digs.m0 {a a3 a2 a1 a0 : Int} (h : Digs a a3 a2 a1 a0) : a % 64 = a0 ∧ a / 64 = (a3 * 64 + a2) * 64 + a1 := by
  obtain ⟨e, b0, b1, b2⟩ := h; omega
theorem Digs.m1 {a a3 a2 a1 a0 : Int} (h : Digs a a3 a2 a1 a0) : a % 4096 = a1 * 64 + a0 ∧ a / 4096 = a3 * 64 + a2 ∧ a / 64 % 64 = a1 := by
  obtain ⟨e, b0, b1, b2⟩ := h; omega
theorem Digs.m2 {a a3 a2 a1 a0 : Int} (h : Digs a a3 a2 a1 a0) : a % 262144 = (a2 * 64 + a1) * 64 + a0 ∧ a / 262144 = a3 ∧ a / 4096 % 64 = a2 := by
  obtain ⟨e, b0, b1, b2⟩ := h; omega
/-! A range that is split nowhere. -/
def NC (a b : Int) (i : Nat) : Prop := a / pw i = b / pw i ∨ (a % pw i = 0 ∧ b % pw i = pw i - 1)
theorem cut_none {a b : Int} {i : Nat} (h : cut a b i = none) : NC a b i := by
  unfold cut at h
  unfold NC
  split at h
  · exact .inl (by assumption)
  · split at h
    · cases h
    · split at h
      · cases h
      · right; constructor <;> omega
theorem cutAll_none {a b : Int} {w : Nat} (hw : Utf.width a = w) (h : cutAll a b = none) (i : Nat) (h1 : 1 ≤ i) (h2 : i < w) : NC a b i := by
  have hw4 : w ≤ 4 := by have := (Utf.width_le a).2; omega
  unfold cutAll at h
  rw [hw, Int.toNat_natCast] at h
  have key : ∀ (f j : Nat), cutFrom a b w j f = none → ∀ i, j ≤ i → i < w → i < j + f → NC a b i := by
    intro f
    induction f with
    | zero => intro j _ i h1 h2 h3; omega
    | succ f ih =>
      intro j hj i h1 h2 h3
      have hjw : j < w := by omega
      rw [cutFrom, if_pos hjw] at hj
      cases hc : cut a b j with
      | some m => rw [hc] at hj; cases hj
      | none =>
        rw [hc] at hj
        by_cases e : i = j
        · subst e; exact cut_none hc
        · exact ih (j + 1) hj i (by omega) h2 (by omega)
  exact key 3 1 h i h1 h2 (by omega)
/-- Bytes between those of the two ends are those of a number between the two ends, and no others. -/
structure Bet (a3 a2 a1 a0 b3 b2 b1 b0 x3 x2 x1 x0 : Int) : Prop where
  h3 : a3 ≤ x3 ∧ x3 ≤ b3
  h2 : a2 ≤ x2 ∧ x2 ≤ b2
  h1 : a1 ≤ x1 ∧ x1 ≤ b1
  h0 : a0 ≤ x0 ∧ x0 ≤ b0
theorem bet2 {a b a1 a0 b1 b0 x1 x0 : Int} (ha : Digs a 0 0 a1 a0) (hb : Digs b 0 0 b1 b0) (h1 : NC a b 1) (hx0 : 0 ≤ x0 ∧ x0 < 64) :
    ((a1 ≤ x1 ∧ x1 ≤ b1) ∧ (a0 ≤ x0 ∧ x0 ≤ b0)) ↔ (a ≤ x1 * 64 + x0 ∧ x1 * 64 + x0 ≤ b) := by
  have e1 := ha.m0; have e2 := hb.m0; have q1 := ha.eq; have q2 := hb.eq
  have p := ha.b0; have q := hb.b0; have r := ha.b1; have s := hb.b1
  unfold NC at h1; simp only [pw] at h1
  rw [e1.1, e1.2, e2.1, e2.2] at h1
  rcases h1 with h1 | h1 <;> constructor <;> intro h <;> omega
theorem bet3 {a b a2 a1 a0 b2 b1 b0 x2 x1 x0 : Int} (ha : Digs a 0 a2 a1 a0) (hb : Digs b 0 b2 b1 b0) (h1 : NC a b 1) (h2 : NC a b 2) (hx0 : 0 ≤ x0 ∧ x0 < 64) (hx1 : 0 ≤ x1 ∧ x1 < 64) :
    ((a2 ≤ x2 ∧ x2 ≤ b2) ∧ (a1 ≤ x1 ∧ x1 ≤ b1) ∧ (a0 ≤ x0 ∧ x0 ≤ b0)) ↔ (a ≤ (x2 * 64 + x1) * 64 + x0 ∧ (x2 * 64 + x1) * 64 + x0 ≤ b) := by
  have e1 := ha.m0; have e2 := hb.m0; have q1 := ha.eq; have q2 := hb.eq
  have f1 := ha.m1; have f2 := hb.m1
  have p := ha.b0; have q := hb.b0; have r := ha.b1; have s := hb.b1; have t := ha.b2; have u := hb.b2
  unfold NC at h1 h2; simp only [pw] at h1 h2
  rw [e1.1, e1.2, e2.1, e2.2] at h1
  rw [f1.1, f1.2.1, f2.1, f2.2.1] at h2
  clear e1 e2 f1 f2
  rcases h1 with h1 | h1 <;> rcases h2 with h2 | h2 <;> constructor <;> intro h <;> omega
theorem bet4 {a b a3 a2 a1 a0 b3 b2 b1 b0 x3 x2 x1 x0 : Int} (ha : Digs a a3 a2 a1 a0) (hb : Digs b b3 b2 b1 b0) (h1 : NC a b 1) (h2 : NC a b 2) (h3 : NC a b 3) (hx0 : 0 ≤ x0 ∧ x0 < 64) (hx1 : 0 ≤ x1 ∧ x1 < 64) (hx2 : 0 ≤ x2 ∧ x2 < 64) :
    ((a3 ≤ x3 ∧ x3 ≤ b3) ∧ (a2 ≤ x2 ∧ x2 ≤ b2) ∧ (a1 ≤ x1 ∧ x1 ≤ b1) ∧ (a0 ≤ x0 ∧ x0 ≤ b0)) ↔ (a ≤ ((x3 * 64 + x2) * 64 + x1) * 64 + x0 ∧ ((x3 * 64 + x2) * 64 + x1) * 64 + x0 ≤ b) := by
  have e1 := ha.m0; have e2 := hb.m0; have q1 := ha.eq; have q2 := hb.eq
  have f1 := ha.m1; have f2 := hb.m1; have g1 := ha.m2; have g2 := hb.m2
  have p := ha.b0; have q := hb.b0; have r := ha.b1; have s := hb.b1; have t := ha.b2; have u := hb.b2
  unfold NC at h1 h2 h3; simp only [pw] at h1 h2 h3
  rw [e1.1, e1.2, e2.1, e2.2] at h1
  rw [f1.1, f1.2.1, f2.1, f2.2.1] at h2
  rw [g1.1, g1.2.1, g2.1, g2.2.1] at h3
  clear e1 e2 f1 f2 g1 g2
  rcases h1 with h1 | h1 <;> rcases h2 with h2 | h2 <;> rcases h3 with h3 | h3 <;> constructor <;> intro h <;> omega
/-! A sequence and the bytes that it takes. -/
def fitL : List R → List Int → Prop
  | [], [] => True
  | p :: q, x :: l => (p.1 ≤ x ∧ x ≤ p.2) ∧ fitL q l
  | _, _ => False
theorem fitL_len : ∀ (q : List R) (l : List Int), fitL q l → q.length = l.length
  | [], [], _ => rfl
  | p :: q, x :: l, h => by rw [List.length_cons, List.length_cons, fitL_len q l h.2]
  | [], _ :: _, h => h.elim
  | _ :: _, [], h => h.elim
theorem fitL_snoc : ∀ (q : List R) (l : List Int) (p : R) (x : Int), q.length = l.length → (fitL (q ++ [p]) (l ++ [x]) ↔ fitL q l ∧ p.1 ≤ x ∧ x ≤ p.2)
  | [], [], p, x, _ => by simp [fitL]
  | p' :: q, y :: l, p, x, h => by
    have ih := fitL_snoc q l p x (by simpa using h)
    simp only [List.cons_append, fitL, ih]
    exact ⟨fun ⟨h1, h2, h3⟩ => ⟨⟨h1, h2⟩, h3⟩, fun ⟨⟨h1, h2⟩, h3⟩ => ⟨h1, h2, h3⟩⟩
  | [], _ :: _, _, _, h => by simp at h
  | _ :: _, [], _, _, h => by simp at h
theorem fitK_iff (q : List R) (s : ByteArray) : ∀ n, n ≤ q.length → n ≤ s.size → (fitK q s n = true ↔ fitL (q.take n) ((Utf.nums s).take n))
  | 0, _, _ => by simp [fitK, fitL]
  | n + 1, h1, h2 => by
    have ih := fitK_iff q s n (by omega) (by omega)
    have hl : n < (Utf.nums s).length := by rw [Utf.nums_length]; omega
    have hs : sb s n = (Utf.nums s)[n] := by
      rw [sb_at s n (by omega), ← Utf.nums_at s n (by omega), List.getElem?_eq_getElem hl]; rfl
    rw [fitK, List.take_succ_eq_append_getElem (show n < q.length by omega), List.take_succ_eq_append_getElem hl, fitL_snoc _ _ _ _ (by rw [List.length_take, List.length_take]; omega), Bool.and_eq_true, Bool.and_eq_true, decide_eq_true_eq, decide_eq_true_eq, ih, hs,
      List.getElem?_eq_getElem (show n < q.length by omega)]
    rfl
theorem fitB_iff (q : List R) (s : ByteArray) : fitB q s = true ↔ 0 < q.length ∧ q.length ≤ s.size ∧ fitL q ((Utf.nums s).take q.length) := by
  unfold fitB room
  rw [Bool.and_eq_true, Bool.and_eq_true, decide_eq_true_eq, decide_eq_true_eq]
  constructor
  · rintro ⟨⟨h1, h2⟩, h3⟩
    have := (fitK_iff q s q.length (Nat.le_refl _) h2).1 h3
    rw [List.take_length] at this
    exact ⟨h1, h2, this⟩
  · rintro ⟨h1, h2, h3⟩
    exact ⟨⟨h1, h2⟩, (fitK_iff q s q.length (Nat.le_refl _) h2).2 (by rw [List.take_length]; exact h3)⟩
theorem zipE_len {w : Nat} {a b : Int} (h : Cls w a b) : (zipE a b).length = w := by
  have h1 := Utf.encN_length a
  have h2 := Utf.encN_length b
  rw [h.width (Int.le_refl _) h.le] at h1
  rw [h.width h.le (Int.le_refl _)] at h2
  unfold zipE; rw [List.length_zip]; omega
theorem dl {c x p q : Int} (h : c + p ≤ x ∧ x ≤ c + q) : p ≤ x - c ∧ x - c ≤ q := by omega
theorem dd {c x p q : Int} (h : c + p ≤ x ∧ x ≤ c + q) (hp : 0 ≤ p ∧ p < 64) (hq : 0 ≤ q ∧ q < 64) : 0 ≤ x - c ∧ x - c < 64 := by omega
/-- A sequence that is split nowhere takes the encodings of its runes and nothing else. -/
theorem take_iff {w : Nat} {a b : Int} (h : Cls w a b) (hc : cutAll a b = none) (l : List Int) : fitL (zipE a b) l ↔ ∃ r, a ≤ r ∧ r ≤ b ∧ l = Utf.encN r := by
  have hwa := h.width (Int.le_refl _) h.le
  have hwb := h.width h.le (Int.le_refl _)
  have hnc := fun i => cutAll_none hwa hc i
  have hwr : ∀ r, a ≤ r → r ≤ b → Utf.width r = w := fun r h1 h2 => h.width h1 h2
  have hle := h.le
  have hz := zipE_len h
  have hlen : fitL (zipE a b) l → l.length = w := fun hf => by rw [← fitL_len _ _ hf, hz]
  have hlen2 : (∃ r, a ≤ r ∧ r ≤ b ∧ l = Utf.encN r) → l.length = w := fun ⟨r, h1, h2, e⟩ => by
    have := Utf.encN_length r; rw [hwr r h1 h2] at this; rw [e]; omega
  by_cases hl' : ¬ l.length = w
  · exact ⟨fun x => absurd (hlen x) hl', fun x => absurd (hlen2 x) hl'⟩
  have hl : l.length = w := Decidable.not_not.1 hl'
  clear hl'
  clear hlen hlen2 hz hc
  unfold zipE
  rcases h.bd with ⟨rfl, b1, b2⟩ | ⟨rfl, b1, b2⟩ | h3 | h3 | ⟨rfl, b1, b2⟩
  · rw [enc1 hwa, enc1 hwb]
    match l, hl with
    | [x], _ =>
      simp only [List.zip_cons_cons, List.zip_nil_right, fitL, and_true]
      constructor
      · rintro ⟨h1, h2⟩; exact ⟨x, h1, h2, by rw [enc1 (hwr x h1 h2)]⟩
      · rintro ⟨r, h1, h2, e⟩; rw [enc1 (hwr r h1 h2)] at e; injection e with e; omega
  · rw [enc2 hwa, enc2 hwb]
    match l, hl with
    | [x, y], _ =>
      have da := digs a; have db := digs b
      rw [show a / 262144 = 0 by omega, show a / 4096 % 64 = 0 by omega] at da
      rw [show b / 262144 = 0 by omega, show b / 4096 % 64 = 0 by omega] at db
      simp only [List.zip_cons_cons, List.zip_nil_right, fitL, and_true]
      have n1 := hnc 1 (by omega) (by omega)
      clear hnc
      constructor
      · rintro ⟨h1, h2⟩
        have hb := (bet2 (x1 := x - 192) (x0 := y - 128) da db n1 (by omega)).1 ⟨by omega, by omega⟩
        refine ⟨(x - 192) * 64 + (y - 128), hb.1, hb.2, ?_⟩
        rw [enc2 (hwr _ hb.1 hb.2)]
        clear hwr hb n1 da db hwa hwb
        congr 1
        · omega
        · congr 1; omega
      · rintro ⟨r, h1, h2, e⟩
        rw [enc2 (hwr r h1 h2)] at e
        injection e with e1 e; injection e with e2 _
        have hb := (bet2 (x1 := r / 64) (x0 := r % 64) da db n1 (by omega)).2 (by omega)
        omega
  · have hw3 := h3.1
    subst hw3
    have hb3 : 2048 ≤ a ∧ b ≤ 65535 := by omega
    clear h3
    rw [enc3 hwa, enc3 hwb]
    match l, hl with
    | [x, y, z], _ =>
      have da := digs a; have db := digs b
      rw [show a / 262144 = 0 by omega, show a / 4096 % 64 = a / 4096 by omega] at da
      rw [show b / 262144 = 0 by omega, show b / 4096 % 64 = b / 4096 by omega] at db
      simp only [List.zip_cons_cons, List.zip_nil_right, fitL, and_true]
      have n1 := hnc 1 (by omega) (by omega)
      have n2 := hnc 2 (by omega) (by omega)
      clear hnc
      constructor
      · rintro ⟨h1, h2, h3⟩
        have hb := (bet3 (x2 := x - 224) (x1 := y - 128) (x0 := z - 128) da db n1 n2 (by omega) (by omega)).1 ⟨by omega, by omega, by omega⟩
        refine ⟨((x - 224) * 64 + (y - 128)) * 64 + (z - 128), hb.1, hb.2, ?_⟩
        rw [enc3 (hwr _ hb.1 hb.2)]
        clear hwr hb n1 n2 da db hwa hwb
        congr 1
        · omega
        · congr 1
          · omega
          · congr 1; omega
      · rintro ⟨r, h1, h2, e⟩
        rw [enc3 (hwr r h1 h2)] at e
        injection e with e1 e; injection e with e2 e; injection e with e3 _
        have hb := (bet3 (x2 := r / 4096) (x1 := r / 64 % 64) (x0 := r % 64) da db n1 n2 (by omega) (by omega)).2 (by omega)
        omega
  · have hw3 := h3.1
    subst hw3
    have hb3 : 2048 ≤ a ∧ b ≤ 65535 := by omega
    clear h3
    rw [enc3 hwa, enc3 hwb]
    match l, hl with
    | [x, y, z], _ =>
      have da := digs a; have db := digs b
      rw [show a / 262144 = 0 by omega, show a / 4096 % 64 = a / 4096 by omega] at da
      rw [show b / 262144 = 0 by omega, show b / 4096 % 64 = b / 4096 by omega] at db
      simp only [List.zip_cons_cons, List.zip_nil_right, fitL, and_true]
      have n1 := hnc 1 (by omega) (by omega)
      have n2 := hnc 2 (by omega) (by omega)
      clear hnc
      constructor
      · rintro ⟨h1, h2, h3⟩
        have hb := (bet3 (x2 := x - 224) (x1 := y - 128) (x0 := z - 128) da db n1 n2 (by omega) (by omega)).1 ⟨by omega, by omega, by omega⟩
        refine ⟨((x - 224) * 64 + (y - 128)) * 64 + (z - 128), hb.1, hb.2, ?_⟩
        rw [enc3 (hwr _ hb.1 hb.2)]
        clear hwr hb n1 n2 da db hwa hwb
        congr 1
        · omega
        · congr 1
          · omega
          · congr 1; omega
      · rintro ⟨r, h1, h2, e⟩
        rw [enc3 (hwr r h1 h2)] at e
        injection e with e1 e; injection e with e2 e; injection e with e3 _
        have hb := (bet3 (x2 := r / 4096) (x1 := r / 64 % 64) (x0 := r % 64) da db n1 n2 (by omega) (by omega)).2 (by omega)
        omega
  · rw [enc4 hwa, enc4 hwb]
    match l, hl with
    | [x, y, z, u], _ =>
      have da := digs a; have db := digs b
      simp only [List.zip_cons_cons, List.zip_nil_right, fitL, and_true]
      have n1 := hnc 1 (by omega) (by omega)
      have n2 := hnc 2 (by omega) (by omega)
      have n3 := hnc 3 (by omega) (by omega)
      clear hnc
      constructor
      · rintro ⟨h1, h2, h3, h4⟩
        have hb := (bet4 (x3 := x - 240) (x2 := y - 128) (x1 := z - 128) (x0 := u - 128) da db n1 n2 n3 (dd h4 da.b0 db.b0) (dd h3 da.b1 db.b1) (dd h2 da.b2 db.b2)).1 ⟨dl h1, dl h2, dl h3, dl h4⟩
        refine ⟨(((x - 240) * 64 + (y - 128)) * 64 + (z - 128)) * 64 + (u - 128), hb.1, hb.2, ?_⟩
        have dX : Digs ((((x - 240) * 64 + (y - 128)) * 64 + (z - 128)) * 64 + (u - 128)) (x - 240) (y - 128) (z - 128) (u - 128) := ⟨rfl, dd h4 da.b0 db.b0, dd h3 da.b1 db.b1, dd h2 da.b2 db.b2⟩
        rw [enc4 (hwr _ hb.1 hb.2), dX.m2.2.1, dX.m2.2.2, dX.m1.2.2, dX.m0.1]
        clear h1 h2 h3 h4 hwr hb n1 n2 n3 da db hwa hwb dX
        rw [show 240 + (x - 240) = x by omega, show 128 + (y - 128) = y by omega, show 128 + (z - 128) = z by omega, show 128 + (u - 128) = u by omega]
      · rintro ⟨r, h1, h2, e⟩
        rw [enc4 (hwr r h1 h2)] at e
        injection e with e1 e; injection e with e2 e; injection e with e3 e; injection e with e4 _
        have dr := digs r
        have hb := (bet4 (x3 := r / 262144) (x2 := r / 4096 % 64) (x1 := r / 64 % 64) (x0 := r % 64) da db n1 n2 n3 dr.b0 dr.b1 dr.b2).2 (by rw [← dr.eq]; exact ⟨h1, h2⟩)
        obtain ⟨⟨p1, p2⟩, ⟨p3, p4⟩, ⟨p5, p6⟩, ⟨p7, p8⟩⟩ := hb
        subst e1; subst e2; subst e3; subst e4
        exact ⟨⟨Int.add_le_add_left p1 240, Int.add_le_add_left p2 240⟩, ⟨Int.add_le_add_left p3 128, Int.add_le_add_left p4 128⟩, ⟨Int.add_le_add_left p5 128, Int.add_le_add_left p6 128⟩, ⟨Int.add_le_add_left p7 128, Int.add_le_add_left p8 128⟩⟩
end Go.Proofs.Ytfopcgbfbedcjaa.Bd
