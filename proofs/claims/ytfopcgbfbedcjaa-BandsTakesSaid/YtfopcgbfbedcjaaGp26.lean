/- The landed ranges: combine, for whatever is kept. · The landed ranges: Both. · The landed bands: Of and Split. -/
import Derived.Test.YtfopcgbfbedcjaaGp25
import Derived.Test.YtfopcgbfbedcjaaGp19
import Derived.Test.YtfopcgbfbedcjaaGp20
namespace Go.Proofs.Ytfopcgbfbedcjaa
open Go.RowKit
set_option linter.unusedVariables false
theorem turns_ok {l out : List (Int × Int)} (h : Rg.ListOf l out) : (Rg.turnsN out).Pairwise (· < ·) ∧ (∀ t ∈ Rg.turnsN out, 0 ≤ t ∧ t ≤ 1114112) ∧ (Rg.turnsN out).length ≤ 2228226 ∧ (Rg.turnsN out).length % 2 = 0 := by
  have h1 := Rg.norm_len out 0 h.norm (by omega)
  have h2 := Rg.turns_len out
  exact ⟨Rg.turns_asc out 0 h.norm, Rg.turns_bd out 0 h.norm, by omega, by omega⟩
theorem odd_even {n : Nat} (h : n % 2 = 0) : Rg.odd n = false := by unfold Rg.odd; rw [h]; rfl
theorem even_odd {n : Nat} (h : Rg.odd n = false) : n % 2 = 0 := by
  unfold Rg.odd at h
  rcases Nat.mod_two_eq_zero_or_one n with h' | h'
  · exact h'
  · rw [h'] at h; cases h
set_option maxRecDepth 100000 in
set_option maxHeartbeats 2000000 in
theorem combine_any (W : World) (va vb : Value) (a b : List (Int × Int)) (g : Nat) (K : Bool → Bool → Bool) (op : Int) (hk : KeepOk g K) (hK0 : K false false = false) (hK : ∀ x y, K x y = Rg.opB op x y) (ha : RRow W va a) (hb : RRow W vb b) :
    Calls Try.prog 43 #[va, vb, .func (.func g) #[] #[]] W (MakePost op a b W) := by
  have HA := Lib.hid ha
  have HB := Lib.hid hb
  have HKK := Lib.hid hk
  have HK := Lib.hid hK
  have HK0 := Lib.hid hK0
  clear ha hb hk hK hK0
  go_enter Try.func43, Try.ntmps43
  go_wp2_with fail
  refine (turns_any _ _ a HA.out).mono ?_
  rintro e w1 ⟨v1, na, rfl, hna, ho1, hb1⟩
  have HNA := Lib.hid hna
  have HO1 := Lib.hid ho1
  have HB1 := Lib.hid hb1
  have HBr := Lib.hid (HB.out.below (Nat.le_refl _) hb1)
  clear hna ho1 hb1
  go_wp2_with fail
  refine (turns_any _ _ b HBr.out).mono ?_
  rintro e w2 ⟨v2, nb, rfl, hnb, ho2, hb2⟩
  have HNB := Lib.hid hnb
  have HR1 := Lib.hid (HO1.out.row.below (Nat.le_refl _) hb2)
  have HR2 := Lib.hid ho2.row
  have HB2 := Lib.hid (HB1.out.trans (hb2.mono HB1.out.size))
  clear hnb ho2 hb2
  have hta := turns_ok HNA.out
  have htb := turns_ok HNB.out
  have HTA := Lib.hid hta
  have HTB := Lib.hid htb
  clear hta htb
  go_wp2_with fail
  refine (walk_any _ _ _ (Rg.turnsN na) (Rg.turnsN nb) g K HKK.out HK0.out HR1.out HR2.out HTA.out.1 HTB.out.1 HTA.out.2.1 HTB.out.2.1 HTA.out.2.2.1 HTB.out.2.2.1).mono ?_
  rintro e w3 ⟨v3, out, rfl, hw, hl, ho3, hb3⟩
  have hev : out.length % 2 = 0 := even_odd (by rw [hw.odd, odd_even HTA.out.2.2.2, odd_even HTB.out.2.2.2]; exact HK0.out)
  have HMD := Lib.hid (Rg.made_walk HK.out HNA.out HNB.out hw hev)
  have HEV := Lib.hid hev
  have HBD := Lib.hid hw.bd
  have HR3 := Lib.hid ho3.row
  have HL : Hid (out.length ≤ 8796093022208) := Lib.hid (by have := HTA.out.2.2.1; have := HTB.out.2.2.1; omega)
  have HB3 := Lib.hid (HB2.out.trans (hb3.mono HB2.out.size))
  clear hev hw hl ho3 hb3
  go_wp2_with fail
  refine (between_any _ _ out HR3.out HBD.out HEV.out HL.out).mono ?_
  rintro e w4 ⟨v4, rfl, ho4, hb4⟩
  have HO4 := Lib.hid (ho4.lower HB3.out.size)
  have HB4 := Lib.hid (HB3.out.trans (hb4.mono HB3.out.size))
  clear ho4 hb4
  go_wp2
  go_ret
  exact ⟨_, _, rfl, HMD.out, HO4.out, HB4.out⟩
theorem rrow_one (W : World) (x y : Int) (hx : -9223372036854775808 ≤ x ∧ x ≤ 9223372036854775807) (hy : -9223372036854775808 ≤ y ∧ y ≤ 9223372036854775807) (t : TypeId) :
    RRow (W.alloc (.cells #[.int .i64 x, .int .i64 y] t)) (.slice (some ⟨W.heap.size, 0, none⟩) 1 1) [(x, y)] :=
  ⟨_, 1, rfl, by simp, (fun p hp => by simp at hp; subst hp; exact ⟨hx.1, hx.2, hy.1, hy.2⟩), fun j hj => by
    obtain rfl : j = 0 := by simpa using hj
    exact ⟨W.heap.size, 0, rfl, by simp, by simp, by simp⟩⟩
end Go.Proofs.Ytfopcgbfbedcjaa
namespace Go.Proofs.Ytfopcgbfbedcjaa
open Go.RowKit
set_option linter.unusedVariables false
set_option maxRecDepth 100000 in
set_option maxHeartbeats 1000000 in
theorem keep_both : KeepOk 44 (fun x y => x && y) := by
  refine ⟨enters_of Try.func44 (by kernel_rfl) rfl, fun x y w => ?_⟩
  cases x <;> cases y
  all_goals
    go_enter Try.func44, Try.ntmps44
    go_wp2
    go_ret
    exact ⟨rfl, rfl⟩
set_option maxRecDepth 100000 in
set_option maxHeartbeats 1000000 in
theorem both_any (W : World) (va vb : Value) (a b : List (Int × Int)) (ha : RRow W va a) (hb : RRow W vb b) : Calls Try.prog 27 #[va, vb] W (MakePost 2 a b W) := by
  have HC := Lib.hid (combine_any W va vb a b _ _ 2 keep_both rfl (fun x y => by cases x <;> cases y <;> rfl) ha hb)
  clear ha hb
  go_enter Try.func27, Try.ntmps27
  go_wp2_with fail
  refine HC.out.mono ?_
  rintro e w1 ⟨v, out, rfl, hm, ho, hb⟩
  have HM := Lib.hid (And.intro hm (And.intro ho hb))
  clear hm ho hb
  go_wp2
  go_ret
  exact ⟨v, out, rfl, HM.out⟩
end Go.Proofs.Ytfopcgbfbedcjaa
namespace Go.Proofs.Ytfopcgbfbedcjaa
open Go.RowKit
set_option linter.unusedVariables false
/-- What the landed Of hands back. -/
def OfPostN (l : List (Int × Int)) (W : World) (e : Ending) (w' : World) : Prop := ∃ C, Rg.Made 2 l Bd.runesT C ∧ SeqPost (Bd.ofL C) W e w'
theorem runes_any (W : World) : Calls Try.prog 28 #[] W fun e w' => e = .returned (.slice (some ⟨W.heap.size, 0, none⟩) 2 2) ∧ RRow w' (.slice (some ⟨W.heap.size, 0, none⟩) 2 2) Bd.runesT ∧ Below W.heap.size W w' := by
  go_enter Try.func28, Try.ntmps28
  go_wp2
  go_ret
  refine ⟨rfl, ?_, (Below.refl _ _).alloc (Nat.le_refl _) _⟩
  exact ⟨_, 2, rfl, by decide, (fun p hp => by simp [Bd.runesT] at hp; rcases hp with rfl | rfl <;> decide), fun j hj => by
    have hj2 : j < 2 := hj
    match j, hj2 with
    | 0, _ => exact ⟨W.heap.size, 0, rfl, by simp, by simp [Bd.runesT], by simp [Bd.runesT]⟩
    | 1, _ => exact ⟨W.heap.size, 0, rfl, by simp, by simp [Bd.runesT], by simp [Bd.runesT]⟩⟩
set_option maxRecDepth 100000 in
set_option maxHeartbeats 4000000 in
theorem of_any (W : World) (va : Value) (l : List (Int × Int)) (ha : RRow W va l) : Calls Try.prog 13 #[va] W (OfPostN l W) := by
  obtain ⟨i1, hi1, hy0, hy1, hy2⟩ := info_parts Try.infoSeq
  have HA := Lib.hid ha
  clear ha
  go_enter Try.func13, Try.ntmps13
  go_wp2_with fail
  refine (runes_any _).mono ?_
  rintro e w0 ⟨rfl, hr0, hb0⟩
  have HR0 := Lib.hid hr0
  have HB0 := Lib.hid hb0
  have HA0 := Lib.hid (HA.out.below (Nat.le_refl _) hb0)
  clear hr0 hb0 HA
  go_wp2_with fail
  refine (both_any _ _ _ l Bd.runesT HA0.out HR0.out).mono ?_
  rintro e w1 ⟨vm, C, rfl, hm, ho, hb⟩
  have HM := Lib.hid hm
  have HNB := Lib.hid hm.norm
  have D1 := Lib.hid (HB0.out.trans (hb.mono HB0.out.size))
  have HE2 := Lib.hid (ho.normRow hm.norm)
  have HRU : Hid (∀ k, k < C.length → Bd.Runes (C[k]?.getD (0, 0)).1 (C[k]?.getD (0, 0)).2) := Lib.hid (fun k hk => by
    refine Bd.runes_of_made hm _ ?_
    rw [List.getElem?_eq_getElem hk]; exact List.getElem_mem _)
  have hln := Rg.norm_len C 0 hm.norm (by omega)
  obtain ⟨ba, bc, rfl, hbl, hbw, hbc⟩ := HE2.out
  have HBC := Lib.hid hbc
  obtain ⟨n, hn⟩ : ∃ n, C.length = n := ⟨_, rfl⟩
  have HN := Lib.hid hn
  rw [hn] at hbl HBC hln HRU ⊢
  clear hm hbw hbc ho hb hn HR0 HA0 HB0 HE2
  go_wp2
  go_loopw [3, 10] (fun V I wr => ∃ (k : Nat) (us : List Value), k ≤ n ∧ I = .int .i64 k ∧ Hid (QOwnU wr w1.heap.size V us (Bd.ofL (C.take k))) ∧ Hid (Below w1.heap.size w1 wr)) (fun _ I _ => n - (intOf I).toNat)
  case atStart => exact ⟨0, [], Nat.zero_le _, rfl, Lib.hid (by rw [List.take_zero]; exact QOwnU.nil), Lib.hid (Below.refl _ _)⟩
  case round =>
    obtain ⟨k, us, hk, rfl, HO, HB⟩ := hrel
    obtain ⟨wo, rfl⟩ : ∃ wo : World, wo = wr := ⟨_, rfl⟩
    have hsz := HB.out.size
    by_cases hlt : k < n
    · obtain ⟨g, off, rfl, hg, hc1, hc2⟩ := HBC.out k hlt
      rw [← HB.out.cell (p := ⟨g, off + k * 2, none⟩) hg] at hc1
      rw [← HB.out.cell (p := ⟨g, off + k * 2 + 1, none⟩) hg] at hc2
      have hrn := HRU.out k hlt
      have hgw : g < wo.heap.size := by omega
      obtain ⟨p, hp⟩ : ∃ p, C[k]?.getD (0, 0) = p := ⟨_, rfl⟩
      have hsu := Bd.ofL_succ C k (by rw [HN.out]; exact hlt) p hp
      rw [hp] at hc1 hc2 hrn
      clear hp
      obtain ⟨p1, p2⟩ := p
      dsimp only at hc1 hc2 hrn hsu
      have hlk := Bd.ofL_len C 0 k HNB.out (Int.le_refl 0) (by omega)
      have hls := Bd.splitL_len hrn.lo0 hrn.le hrn.top
      have hpos := Bd.splitL_pos hrn
      have hpt := hrn.top
      have hp0 := hrn.lo0
      have HSP := Lib.hid (fun w' => translate_any w' p1 p2 hrn)
      obtain ⟨L2, hL2⟩ : ∃ L2, Bd.splitL p1 p2 = L2 := ⟨_, rfl⟩
      obtain ⟨L1, hL1⟩ : ∃ L1, Bd.ofL (C.take k) = L1 := ⟨_, rfl⟩
      rw [hL2] at hls HSP hsu hpos
      rw [hL1] at hlk HO hsu
      have HSU := Lib.hid hsu
      clear hL2 hL1 hsu hrn
      have k0 : (0 : Int) ≤ (k : Int) := by omega
      have k1 : (k : Int) < (n : Int) := by omega
      have hn1 := HO.out.1
      have ub : us.length ≤ 1114113 := by omega
      have HHO := Lib.hid (fun b (e : u3.ownBlock = some b) => (HO.out.2.1.lt b e).2)
      have HHI := Lib.hid (fun j (hj : j < us.length) b (e : (us[j]?.getD nilV).ownBlock = some b) => ((HO.out.2.2.1 j hj).lt e).2)
      clear hn1
      go_wp2_with fail
      refine (HSP.out _).mono ?_
      rintro e w6 ⟨v2, us2, rfl, q2, hb2⟩
      have hbo : Below wo.heap.size wo w6 := ((Below.refl wo.heap.size wo).alloc (Nat.le_refl _) _).trans (hb2.mono (by simp))
      have hn2 := q2.1
      obtain ⟨b, c, rfl, hnews, hcells⟩ := q2.news (by rw [hn2]; exact hpos)
      have hq6 := HO.out.below hbo
      have hown := hq6.2.1
      have hz6 := hbo.size
      have hz7 : w1.heap.size ≤ w6.heap.size := Nat.le_trans hsz hz6
      have Q2 := Lib.hid (q2.lower (base' := wo.heap.size) (by simp))
      have HQ6 := Lib.hid hq6
      have HBO := Lib.hid hbo
      rw [hn2]
      clear q2 hq6 hb2 hbo
      go_wp2_with (at_builtin; (refine wpList_append_lies _ (by rfl) _ _ 26 (by rfl) w1.heap.size 22 i1 nilV 1 24 Try.underlying26 hi1 hy0 hy1 hy2 rfl (by decide) u3 us.length us (by rfl) hown ⟨b, 0, none⟩ L2.length c us2 (by rfl) (by omega) hnews hcells (by omega) (by unfold maxLen; omega) (by omega) hz7 w6.heap.size rfl ?_))
      intro gg cap1 wz hown1 hgrow hat hlt1
      rw [← hn2] at hown1
      have hjn := QOwnU.join HQ6.out Q2.out hsz HHO.out HHI.out hown1 hgrow (hat.imp id (fun h => by omega))
      rw [← HSU.out, hn2] at hjn
      have HJN := Lib.hid hjn
      have HDZ := Lib.hid ((HB.out.trans (HBO.out.mono hsz)).grown hgrow hz7 (fun q hq => (hown.lt q hq).1))
      clear hjn hown1 hgrow hat hlt1 hown hnews hcells
      go_wp2
      go_roundw
      case rel => exact ⟨k + 1, _, by omega, by go_num, HJN, HDZ⟩
      case measure => simp [intOf]; omega
    · obtain rfl : k = n := by omega
      have hO := HO.out
      rw [List.take_of_length_le (by rw [HN.out]; exact Nat.le_refl _)] at hO
      have HO2 := Lib.hid (hO.lower D1.out.size)
      have HE := Lib.hid (D1.out.trans (HB.out.mono D1.out.size))
      clear hO
      go_wp2
      go_ret
      exact ⟨C, HM.out, _, us, rfl, HO2.out, HE.out⟩
set_option maxRecDepth 100000 in
theorem split_any (W : World) (lo hi : Int) (h1 : -9223372036854775808 ≤ lo ∧ lo ≤ 9223372036854775807) (h2 : -9223372036854775808 ≤ hi ∧ hi ≤ 9223372036854775807) : Calls Try.prog 11 #[.int .i64 lo, .int .i64 hi] W (SeqPost (Bd.splitL lo hi) W) := by
  have HO := Lib.hid (of_any _ _ _ (rrow_one W lo hi h1 h2 44))
  go_enter Try.func11, Try.ntmps11
  go_wp2_with fail
  refine HO.out.mono ?_
  rintro e w1 ⟨C, hC, v, us, rfl, hq, hb⟩
  have HQ := Lib.hid (hq.lower (base' := W.heap.size) (by simp))
  have HB := Lib.hid (((Below.refl W.heap.size W).alloc (Nat.le_refl _) _).trans (hb.mono (by simp)))
  have HE := Lib.hid (Bd.one_both hC)
  clear hq hb hC
  go_wp2
  go_ret
  rw [HE.out] at HQ
  exact ⟨v, us, rfl, HQ.out, HB.out⟩
end Go.Proofs.Ytfopcgbfbedcjaa
