/- The landed ranges: Check. · burinlaw07.BracketBehind, walked. -/
import Derived.Test.YtcomjkoaieeidaaGreatDoorGp15
import Derived.Test.YtcomjkoaieeidaaGreatDoorGp21
import Derived.IntWalk
import Derived.Test.YtcomjkoaieeidaaGreatDoorGp33
import Derived.Test.YtcomjkoaieeidaaGreatDoorGp34
import Derived.Test.YtcomjkoaieeidaaGreatDoorGp22
namespace Go.Proofs.YtcomjkoaieeidaaGreatDoor
open Go.RowKit
set_option linter.unusedVariables false
set_option maxRecDepth 100000 in
set_option maxHeartbeats 4000000 in
theorem check_walk (W : World) (a : Option Addr) (n cap : Nat) (l : List (Int × Int)) (hn : l.length = n) (hn2 : n ≤ 8796093022208)
    (hc : ∀ j, j < n → ∃ b off, a = some ⟨b, off, none⟩ ∧ b < W.heap.size ∧ W.cell? ⟨b, off + j * 2, none⟩ = some (.int .i64 (l[j]?.getD (0, 0)).1) ∧ W.cell? ⟨b, off + j * 2 + 1, none⟩ = some (.int .i64 (l[j]?.getD (0, 0)).2)) :
    Calls Tryz.prog 21 #[.slice a n cap] W fun e w' => e = .returned (.int .i64 (Rg.checkF none l)) ∧ Below W.heap.size W w' := by
  have HN := Lib.hid hn
  have HC := Lib.hid hc
  clear hn hc
  go_enter Tryz.func21, Tryz.ntmps21
  go_wp2
  go_loopw [2, 7] (fun R i wr => ∃ k : Nat, k ≤ n ∧ i = .int .i64 k ∧ Hid (Rg.checkF none l = Rg.checkF (Rg.prevAt l k) (l.drop k)) ∧ Hid (∀ j, j < k → 0 ≤ (l[j]?.getD (0, 0)).2 ∧ (l[j]?.getD (0, 0)).2 ≤ 1114111) ∧ Hid (Below W.heap.size W wr)) (fun _ i _ => n - (intOf i).toNat)
  case atStart => exact ⟨0, Nat.zero_le _, rfl, Lib.hid rfl, Lib.hid (fun j hj => absurd hj (Nat.not_lt_zero _)), Lib.hid (Below.refl _ _)⟩
  case round =>
    obtain ⟨k, hk, rfl, HF, HP, HB⟩ := hrel
    by_cases hlt : k < n
    · have HS := Lib.hid (Rg.checkF_step l k (by rw [HN.out]; exact hlt))
      obtain ⟨b, off, rfl, hb, hc1, hc2⟩ := HC.out k hlt
      rw [← HB.out.cell (p := ⟨b, off + k * 2, none⟩) hb] at hc1
      rw [← HB.out.cell (p := ⟨b, off + k * 2 + 1, none⟩) hb] at hc2
      obtain ⟨p, hp⟩ : ∃ p, l[k]?.getD (0, 0) = p := ⟨_, rfl⟩
      have HP2 : Hid (0 ≤ p.2 ∧ p.2 ≤ 1114111 → ∀ j, j < k + 1 → 0 ≤ (l[j]?.getD (0, 0)).2 ∧ (l[j]?.getD (0, 0)).2 ≤ 1114111) := Lib.hid (fun h j hj => by
        by_cases e : j = k
        · rw [e, hp]; exact h
        · exact HP.out j (by omega))
      rw [hp] at hc1 hc2
      rw [hp] at HS
      have hsz := HB.out.size
      clear hp
      obtain ⟨p1, p2⟩ := p
      dsimp only at hc1 hc2
      have HB1 := Lib.hid (HB.out.alloc hsz (.cells #[.int .i64 p1, .int .i64 p2] 36))
      by_cases a1 : p1 < 0 ∨ p2 < 0 ∨ p1 > 1114111 ∨ p2 > 1114111
      · have HE : Hid (Rg.checkF none l = 1) := Lib.hid (by rw [HF.out, HS.out, show Rg.check1 (Rg.prevAt l k) (p1, p2) = 1 from if_pos a1, if_neg (by decide)])
        have HA := Lib.hid a1
        clear a1
        by_cases i1 : 0 ≤ p1 ∧ p1 ≤ 1114111
        · have i2 : ¬ (0 ≤ p2 ∧ p2 ≤ 1114111) := by have := HA.out; omega
          have HI := Lib.hid i2
          obtain ⟨q1, q2⟩ := i1
          clear i2
          go_wp2_with fail
          refine (inside_yes p1 _ q1 q2).mono ?_
          rintro e w1 ⟨rfl, rfl⟩
          go_wp2_with fail
          refine (inside_no p2 _ HI.out).mono ?_
          rintro e w1 ⟨rfl, rfl⟩
          go_wp2
          go_ret
          exact ⟨by rw [HE.out]; rfl, HB1.out⟩
        · have HI := Lib.hid i1
          clear i1
          go_wp2_with fail
          refine (inside_no p1 _ HI.out).mono ?_
          rintro e w1 ⟨rfl, rfl⟩
          go_wp2
          go_ret
          exact ⟨by rw [HE.out]; rfl, HB1.out⟩
      · obtain ⟨q1, q2, q3, q4⟩ : 0 ≤ p1 ∧ 0 ≤ p2 ∧ p1 ≤ 1114111 ∧ p2 ≤ 1114111 := by omega
        have HP3 := Lib.hid (HP2.out ⟨q2, q4⟩)
        by_cases a2 : p1 > p2
        · have HE : Hid (Rg.checkF none l = 4) := Lib.hid (by rw [HF.out, HS.out, show Rg.check1 (Rg.prevAt l k) (p1, p2) = 4 from (if_neg a1).trans (if_pos (.inl a2)), if_neg (by decide)])
          clear a1
          go_wp2_with fail
          refine (inside_yes p1 _ q1 q3).mono ?_
          rintro e w1 ⟨rfl, rfl⟩
          go_wp2_with fail
          refine (inside_yes p2 _ q2 q4).mono ?_
          rintro e w1 ⟨rfl, rfl⟩
          go_wp2
          go_quiet (fail)
          go_wp2
          go_ret
          exact ⟨by rw [HE.out]; rfl, below_drewN HB1.out _⟩
        · by_cases hkp : 0 < k; rotate_left
          · have hz : Rg.check1 (Rg.prevAt l k) (p1, p2) = 0 := (if_neg a1).trans (if_neg (by rintro (h | ⟨h, h1, h2⟩); exact a2 h; exact absurd h1 (by simp [Rg.prevAt, show k = 0 by omega])))
            have HE : Hid (Rg.checkF none l = Rg.checkF (Rg.prevAt l (k + 1)) (l.drop (k + 1))) := Lib.hid (by rw [HF.out, HS.out, hz, if_pos rfl])
            clear a1 hz
            go_wp2_with fail
            refine (inside_yes p1 _ q1 q3).mono ?_
            rintro e w1 ⟨rfl, rfl⟩
            go_wp2_with fail
            refine (inside_yes p2 _ q2 q4).mono ?_
            rintro e w1 ⟨rfl, rfl⟩
            go_wp2
            have a2' : ¬ p2 < p1 := by omega
            have hkz : ¬ (0 : Int) < (k : Int) := by omega
            go_quiet (fail)
            go_wp2
            go_roundw
            case rel => exact ⟨k + 1, by omega, by go_num, HE, HP3, Lib.hid (below_drewN HB1.out _)⟩
            case measure => simp [intOf]; omega
          · obtain ⟨j, rfl⟩ : ∃ j, k = j + 1 := ⟨k - 1, by omega⟩
            obtain ⟨b', off', hbb, hb', _, hc4⟩ := HC.out j (by omega)
            injection hbb with hbb; injection hbb with hb1 hb2; subst hb1; subst hb2
            rw [← HB.out.cell (p := ⟨b, off + j * 2 + 1, none⟩) hb] at hc4
            obtain ⟨g1, g2⟩ := HP.out j (by omega)
            obtain ⟨h, hh⟩ : ∃ h, (l[j]?.getD (0, 0)).2 = h := ⟨_, rfl⟩
            have hprev : Rg.prevAt l (j + 1) = some h := by simp only [Rg.prevAt, Nat.add_one_ne_zero, if_false, Nat.add_sub_cancel]; rw [hh]
            rw [hh] at hc4 g1 g2
            rw [hprev] at HS
            clear hh
            by_cases a3 : p1 ≤ h + 1
            · have HE : Hid (Rg.checkF none l = 4) := Lib.hid (by rw [HF.out, hprev, HS.out, show Rg.check1 (some h) (p1, p2) = 4 from (if_neg a1).trans (if_pos (.inr ⟨h, rfl, by show p1 - 1 ≤ h; omega⟩)), if_neg (by decide)])
              clear a1 hprev
              go_wp2_with fail
              refine (inside_yes p1 _ q1 q3).mono ?_
              rintro e w1 ⟨rfl, rfl⟩
              go_wp2_with fail
              refine (inside_yes p2 _ q2 q4).mono ?_
              rintro e w1 ⟨rfl, rfl⟩
              go_wp2
              have a2' : ¬ p2 < p1 := by omega
              have hkz : (0 : Int) < ((j + 1 : Nat) : Int) := by omega
              have hbw : b < wr.heap.size := by omega
              have hj0 : (0 : Int) ≤ (j : Int) := by omega
              have hjn : (j : Int) < (n : Int) := by omega
              have hjN : j < n := by omega
              have hwj : IntKind.i64.wrap (j : Int) = (j : Int) := IntWalk.i64_in _ (by omega)
              have hwh : IntKind.i64.wrap (h + 1) = h + 1 := IntWalk.i64_in _ (by omega)
              go_quiet (fail)
              clear hwj hwh
              go_wp2
              go_ret
              exact ⟨by rw [HE.out]; rfl, below_drewN HB1.out _⟩
            · have hz : Rg.check1 (some h) (p1, p2) = 0 := (if_neg a1).trans (if_neg (by rintro (h | ⟨h, h1, h2⟩); exact a2 h; injection h1 with h1; subst h1; exact a3 (by simp only at h2; omega)))
              have HE : Hid (Rg.checkF none l = Rg.checkF (Rg.prevAt l (j + 1 + 1)) (l.drop (j + 1 + 1))) := Lib.hid (by rw [HF.out, hprev, HS.out, hz, if_pos rfl])
              clear a1 hz hprev
              go_wp2_with fail
              refine (inside_yes p1 _ q1 q3).mono ?_
              rintro e w1 ⟨rfl, rfl⟩
              go_wp2_with fail
              refine (inside_yes p2 _ q2 q4).mono ?_
              rintro e w1 ⟨rfl, rfl⟩
              go_wp2
              have a2' : ¬ p2 < p1 := by omega
              have hkz : (0 : Int) < ((j + 1 : Nat) : Int) := by omega
              have a3' : ¬ p1 ≤ h + 1 := by omega
              have hbw : b < wr.heap.size := by omega
              have hj0 : (0 : Int) ≤ (j : Int) := by omega
              have hjn : (j : Int) < (n : Int) := by omega
              have hjN : j < n := by omega
              have hwj : IntKind.i64.wrap (j : Int) = (j : Int) := IntWalk.i64_in _ (by omega)
              have hwh : IntKind.i64.wrap (h + 1) = h + 1 := IntWalk.i64_in _ (by omega)
              go_quiet (fail)
              clear hwj hwh
              go_wp2
              go_roundw
              case rel => exact ⟨j + 1 + 1, by omega, by go_num, HE, HP3, Lib.hid (below_drewN HB1.out _)⟩
              case measure => simp [intOf]; omega
    · obtain rfl : k = n := by omega
      have HE : Hid (Rg.checkF none l = 0) := Lib.hid (by rw [HF.out, List.drop_eq_nil_of_le (by rw [HN.out]; exact Nat.le_refl _)]; rfl)
      go_wp2
      go_ret
      exact ⟨by rw [HE.out]; rfl, HB.out⟩
theorem check_any (W : World) (v : Value) (l : List (Int × Int)) (h : RRow W v l) :
    Calls Tryz.prog 21 #[v] W fun e w' => e = .returned (.int .i64 (Rg.checkF none l)) ∧ Below W.heap.size W w' := by
  obtain ⟨a, cap, rfl, hl, hw, hc⟩ := h
  exact check_walk W a _ cap l rfl hl hc
end Go.Proofs.YtcomjkoaieeidaaGreatDoor
namespace Go.Proofs.YtcomjkoaieeidaaGreatDoor
open Go.RowKit
set_option linter.unusedVariables false
theorem app_ag (s t : ByteArray) (n : Nat) (hn : n ≤ s.size) : Br.Ag n (Utf.nums s) (Utf.nums (s.extract 0 n ++ t)) := by
  have e : Utf.nums (s.extract 0 n ++ t) = (Utf.nums s).take n ++ Utf.nums t := by rw [Br.nums_append', Utf.nums_extract]; simp
  rw [e]
  have hl : ((Utf.nums s).take n).length = n := by rw [List.length_take, Utf.nums_length]; omega
  refine ⟨by rw [Utf.nums_length]; exact hn, by rw [List.length_append, hl]; omega, fun k hk => ?_⟩
  rw [List.getElem?_append_left (by omega), List.getElem?_take, if_pos hk]
set_option maxRecDepth 100000 in
set_option maxHeartbeats 8000000 in
theorem walkBracketBehind (W : World) (s t : ByteArray) (fl : Int) (hs : s.size ≤ 140737488351232) (ht : t.size ≤ 140737488351232) (hf : (Lit.int .i64 fl).wf = true) (hE : Ev W) : Calls Tryz.prog 6 #[.string s, .string t, .int .i64 fl] W fun e w' => e = .returned (.bool true) ∧ Below W.heap.size W w' := by
  have HE := Lib.hid hE
  clear hE
  by_cases h3 : 100 < s.size
  · have h3i : (100 : Int) < (s.size : Int) := by omega
    go_enter Tryz.func6, Tryz.ntmps6
    go_wp2_with fail
    refine (works7_any _ HE.out).mono ?_
    rintro e w1 ⟨rfl, hb⟩
    have HB := Lib.hid hb
    clear hb
    go_wp2
    go_ret
    exact ⟨rfl, HB.out⟩
  have h3i : ¬ (100 : Int) < (s.size : Int) := by omega
  by_cases h4 : 100 < t.size
  · have h4i : (100 : Int) < (t.size : Int) := by omega
    go_enter Tryz.func6, Tryz.ntmps6
    go_wp2_with fail
    refine (works7_any _ HE.out).mono ?_
    rintro e w1 ⟨rfl, hb⟩
    have HB := Lib.hid hb
    clear hb
    go_wp2
    go_ret
    exact ⟨rfl, HB.out⟩
  have h4i : ¬ (100 : Int) < (t.size : Int) := by omega
  obtain ⟨fo, hfo⟩ : ∃ fo, (bits .and .i64 fl 1 != 0) = fo := ⟨_, rfl⟩
  have HFO := Lib.hid hfo
  have HS4 : Hid (s.size ≤ 100 ∧ t.size ≤ 100) := Lib.hid (by omega)
  clear hfo h3 h4
  go_enter Tryz.func6, Tryz.ntmps6
  go_wp2_with fail
  refine (works7_any _ HE.out).mono ?_
  rintro e w1 ⟨rfl, hb1⟩
  have HB1 := Lib.hid hb1
  clear hb1
  go_wp2_with fail
  refine (brk_any _ s (by have := HS4.out; omega) fl fo HFO.out (HE.out.below (Nat.le_refl _) HB1.out)).mono ?_
  intro e w2 hpost
  have HN := Lib.hid (fun w => bNumber_any w s hs)
  have hnc := Br.num_cases (Utf.nums s)
  obtain ⟨⟨r0, n0, c0⟩, hp⟩ : ∃ p, Br.num (Utf.nums s) = p := ⟨_, rfl⟩
  rw [hp] at HN hnc
  dsimp only at HN hnc
  rcases hpost with ⟨hb2, ⟨o, c, hx, rfl⟩ | ⟨Xs, at_, v, out, hx, rfl, hi, ho⟩⟩
  · have HB2 := Lib.hid (HB1.out.trans (hb2.mono HB1.out.size))
    obtain ⟨ho0, ho1, hc0⟩ := Br.brack_bad hx
    have hcc : (c == 0) = false := by simpa using hc0
    have hon : ¬ o < 0 := by omega
    have hos : ¬ (s.size : Int) < o := by omega
    clear hx hb2 hc0
    by_cases cz : c0 = 0
    · subst cz
      obtain ⟨hr0, hr1, hn2, hn3, _⟩ := hnc.resolve_left (by rintro ⟨_, _, h | h | h⟩ <;> omega)
      obtain ⟨k, rfl⟩ : ∃ k : Nat, n0 = k := ⟨n0.toNat, by omega⟩
      rw [Utf.nums_length] at hn3
      have hks : k ≤ s.size := by omega
      have hki : (k : Int) ≤ (s.size : Int) := by omega
      have hk2 : ¬ (k : Int) < 2 := by omega
      have hk3 : ¬ (s.size : Int) < (k : Int) := by omega
      have hl := Br.num_local (app_ag s t k hks) (by rw [hp]) (by rw [hp]; exact Int.le_refl _)
      have HM := Lib.hid (fun w => bNumber_any w (s.extract 0 k ++ t) (by rw [ByteArray.size_append, ByteArray.size_extract]; have := HS4.out; omega))
      rw [hl, hp] at HM
      have hr3 : (0 : Int) ≤ r0 := hr0
      clear hl hp hnc
      go_wp2_with fail
      refine (HN.out _).mono ?_
      rintro e w' ⟨rfl, rfl⟩
      go_wp2_with fail
      refine (HM.out _).mono ?_
      rintro e w' ⟨rfl, rfl⟩
      go_wp2
      go_ret
      exact ⟨rfl, HB2.out⟩
    · obtain ⟨rfl, rfl, _⟩ := hnc.resolve_right (by rintro ⟨_, _, _, _, h⟩; exact cz h)
      have hcb : (c0 != 0) = true := by simpa using cz
      clear hp hnc cz
      go_wp2_with fail
      refine (HN.out _).mono ?_
      rintro e w' ⟨rfl, rfl⟩
      go_wp2
      go_ret
      exact ⟨rfl, HB2.out⟩
  · have HB2 := Lib.hid (HB1.out.trans (hb2.mono HB1.out.size))
    have hcl := Br.brack_close hx
    obtain ⟨n1, hn1⟩ : ∃ n1, at_ + 1 = n1 := ⟨_, rfl⟩
    have hns : n1 ≤ s.size := by omega
    have hnsi : (n1 : Int) ≤ (s.size : Int) := by omega
    have hn3 : ¬ (n1 : Int) < 3 := by omega
    have hns2 : ¬ (s.size : Int) < (n1 : Int) := by omega
    have hw1 : IntKind.i64.wrap ((n1 : Int) - 1) = (at_ : Int) := by rw [IntKind.wrap_i64]; omega
    have hal : at_ < s.size := by omega
    have hali : (at_ : Int) < (s.size : Int) := by omega
    have h93 : ((s[at_].toNat : Int) != 93) = false := by
      have := hcl.2.2.1
      rw [Utf.nums_at s at_ hal] at this
      rw [this]; rfl
    have hag := app_ag s t n1 hns
    have hloc := Br.brack_local hx (by rw [hn1]; exact hag)
    have hfst : Br.first (Utf.nums (s.extract 0 n1 ++ t)) = Br.first (Utf.nums s) := by unfold Br.first; rw [hag.getD (k := 1) (by omega)]
    have hnl : Rg.NormL out := by obtain ⟨_, _, _, _, h, _⟩ := hi; exact h
    have HCK := Lib.hid (check_any w2 v out (ho.normRow hnl))
    rw [(Rg.check_norm out).2 hnl] at HCK
    have HBK := Lib.hid (fun w hw => brk_any w (s.extract 0 n1 ++ t) (by rw [ByteArray.size_append, ByteArray.size_extract]; have := HS4.out; omega) fl fo HFO.out hw)
    have HLOC := Lib.hid hloc
    have HFST := Lib.hid hfst
    have HI := Lib.hid hi
    have HO := Lib.hid ho
    have HNL := Lib.hid hnl
    have HN1 : Hid (((at_ + 1 : Nat) : Int) = (n1 : Int)) := Lib.hid (by omega)
    rw [hn1]
    clear hx hb2 hcl hag hloc hfst hnl hi ho hn1
    go_wp2_with fail
    refine HCK.out.mono ?_
    rintro e w3 ⟨rfl, hb3⟩
    have HB3 := Lib.hid (HB2.out.trans (hb3.mono HB2.out.size))
    have HO3 := Lib.hid (HO.out.below hb3)
    clear hb3
    go_wp2_with fail
    refine (HBK.out _ (HE.out.below (Nat.le_refl _) HB3.out)).mono ?_
    intro e w4 hpost
    rcases hpost with ⟨hb4, ⟨o, c, hx, _⟩ | ⟨Ys, at2, v2, out2, hx, rfl, hi2, ho2⟩⟩
    · rw [HLOC.out] at hx; cases hx
    rw [HLOC.out] at hx
    obtain ⟨hXs, hat⟩ : Xs = Ys ∧ at_ = at2 := by cases hx; exact ⟨rfl, rfl⟩
    subst hXs
    subst hat
    rw [HFST.out] at hi2
    have HEQ := Lib.hid (Br.brIs_unique HI.out hi2)
    have HR1 := Lib.hid ((HO3.out.below hb4).normRow HNL.out)
    have HR2 := Lib.hid (ho2.normRow (by obtain ⟨_, _, _, _, h, _⟩ := hi2; exact h))
    have HB4 := Lib.hid (HB3.out.trans (hb4.mono HB3.out.size))
    rw [HN1.out]
    clear hx hb4 hi2 ho2
    go_wp2_with fail
    refine (same_refl_row _ _ _ _ _ HR1.out HR2.out HEQ.out).mono ?_
    rintro e w5 ⟨rfl, hb5⟩
    have HB5 := Lib.hid (HB4.out.trans (hb5.mono HB4.out.size))
    clear hb5
    by_cases cz : c0 = 0
    · subst cz
      obtain ⟨hr0, hr1, hn2, hn3, _⟩ := hnc.resolve_left (by rintro ⟨_, _, h | h | h⟩ <;> omega)
      obtain ⟨k, rfl⟩ : ∃ k : Nat, n0 = k := ⟨n0.toNat, by omega⟩
      rw [Utf.nums_length] at hn3
      have hks : k ≤ s.size := by omega
      have hki : (k : Int) ≤ (s.size : Int) := by omega
      have hk2 : ¬ (k : Int) < 2 := by omega
      have hk3 : ¬ (s.size : Int) < (k : Int) := by omega
      have hl := Br.num_local (app_ag s t k hks) (by rw [hp]) (by rw [hp]; exact Int.le_refl _)
      have HM := Lib.hid (fun w => bNumber_any w (s.extract 0 k ++ t) (by rw [ByteArray.size_append, ByteArray.size_extract]; have := HS4.out; omega))
      rw [hl, hp] at HM
      have hr3 : (0 : Int) ≤ r0 := hr0
      clear hl hp hnc
      go_wp2_with fail
      refine (HN.out _).mono ?_
      rintro e w' ⟨rfl, rfl⟩
      go_wp2_with fail
      refine (HM.out _).mono ?_
      rintro e w' ⟨rfl, rfl⟩
      go_wp2
      go_ret
      exact ⟨rfl, HB5.out⟩
    · obtain ⟨rfl, rfl, _⟩ := hnc.resolve_right (by rintro ⟨_, _, _, _, h⟩; exact cz h)
      have hcb : (c0 != 0) = true := by simpa using cz
      clear hp hnc cz
      go_wp2_with fail
      refine (HN.out _).mono ?_
      rintro e w' ⟨rfl, rfl⟩
      go_wp2
      go_ret
      exact ⟨rfl, HB5.out⟩
end Go.Proofs.YtcomjkoaieeidaaGreatDoor
