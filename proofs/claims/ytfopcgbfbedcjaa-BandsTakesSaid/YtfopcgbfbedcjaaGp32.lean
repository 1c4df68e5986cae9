/- The reference's bands (burinref05): the contract of Turn. -/
import Derived.Test.YtfopcgbfbedcjaaGp11
import Derived.Test.YtfopcgbfbedcjaaGp4
namespace Go.Proofs.Ytfopcgbfbedcjaa
open Go.RowKit
set_option linter.unusedVariables false
theorem turn_succ (L : List (List (Int × Int))) (i : Nat) (hi : i < L.length) (q : List (Int × Int)) (hq : L[i]?.getD [] = q) : Bd.turnL (L.take (i + 1)) = Bd.turnL (L.take i) ++ [q.reverse] := by
  unfold Bd.turnL
  rw [List.take_succ_eq_append_getElem hi, List.map_append]
  rw [List.getElem?_eq_getElem hi] at hq
  rw [← hq]; rfl
theorem rev_succ (q : List (Int × Int)) (k : Nat) (hk : k < q.length) (p : Int × Int) (hp : q[k]?.getD (0, 0) = p) : (q.drop k).reverse = (q.drop (k + 1)).reverse ++ [p] := by
  rw [List.drop_eq_getElem_cons hk, List.reverse_cons]
  rw [List.getElem?_eq_getElem hk] at hp
  rw [← hp]; rfl
set_option maxRecDepth 100000 in
set_option maxHeartbeats 4000000 in
theorem refTurn_any (W : World) (v : Value) (L : List (List (Int × Int))) (h : QRow W v L) (hL : L.length ≤ 1000000) (hq : ∀ q ∈ L, q.length ≤ 1000000) :
    Calls Try.prog 18 #[v] W fun e w' => ∃ v', e = .returned v' ∧ QOwn w' W.heap.size v' (Bd.turnL L) ∧ Below W.heap.size W w' := by
  obtain ⟨i0, hi0, hz0, hz1, hz2⟩ := info_parts Try.infoRange
  obtain ⟨i1, hi1, hy0, hy1, hy2⟩ := info_parts Try.infoSeq
  have HQ := Lib.hid h
  obtain ⟨a, cap, rfl, hl, hc⟩ := h
  have HC := Lib.hid hc
  have HLQ := Lib.hid hq
  obtain ⟨n, hn⟩ : ∃ n, L.length = n := ⟨_, rfl⟩
  have HN := Lib.hid hn
  rw [hn] at hl HC hL HQ ⊢
  clear hc hn hq
  go_enter Try.func18, Try.ntmps18
  go_wp2
  go_loopw [3, 4] (fun V I wr => ∃ (i : Nat) (us : List Value), i ≤ n ∧ I = .int .i64 i ∧ Hid (QOwnU wr W.heap.size V us (Bd.turnL (L.take i))) ∧ us.length = i ∧ Hid (Below W.heap.size W wr)) (fun _ I _ => n - (intOf I).toNat)
  case atStart => exact ⟨0, [], Nat.zero_le _, rfl, Lib.hid QOwnU.nil, rfl, Lib.hid (Below.refl _ _)⟩
  case round =>
    obtain ⟨i, us, hi, rfl, HO, hul, HB⟩ := hrel
    obtain ⟨wo, rfl⟩ : ∃ wo : World, wo = wr := ⟨_, rfl⟩
    have hsz := HB.out.size
    by_cases hlt : i < n
    · obtain ⟨g, off, u, rfl, hg, hc1, hu⟩ := HC.out i hlt
      obtain ⟨q, eq⟩ : ∃ q, L[i]?.getD [] = q := ⟨_, rfl⟩
      rw [eq] at hu
      have hqm : q.length ≤ 1000000 := by
        refine HLQ.out q ?_
        rw [← eq, List.getElem?_eq_getElem (by rw [HN.out]; exact hlt)]; exact List.getElem_mem _
      have HTS := Lib.hid (turn_succ L i (by rw [HN.out]; exact hlt) q eq)
      obtain ⟨ua, uc, rfl, hql, hqw, hqc⟩ := hu
      have HQC := Lib.hid hqc
      obtain ⟨m, hm⟩ : ∃ m, q.length = m := ⟨_, rfl⟩
      have HM := Lib.hid hm
      rw [hm] at hql HQC hqm hc1
      rw [← HB.out.cell (p := ⟨g, off + i, none⟩) hg] at hc1
      have HCI := Lib.hid hc1
      have k0 : (0 : Int) ≤ (i : Int) := by omega
      have k1 : (i : Int) < (n : Int) := by omega
      clear eq hqc hm hqw
      go_wp2
      go_loopw [5, 6] (fun S K wr => ∃ k : Nat, k ≤ m ∧ K = .int .i64 ((k : Int) - 1) ∧ Hid (RgOwn wr wo.heap.size S (q.drop k).reverse) ∧ Hid (Below wo.heap.size wo wr)) (fun _ K _ => (intOf K + 1).toNat)
      case atStart => exact ⟨m, Nat.le_refl _, rfl, Lib.hid (by rw [List.drop_eq_nil_of_le (by rw [HM.out]; exact Nat.le_refl _)]; exact RgOwn.nil), Lib.hid (Below.refl _ _)⟩
      case round =>
        obtain ⟨k, hk, rfl, HS, HE⟩ := hrel
        obtain ⟨wq, rfl⟩ : ∃ wq : World, wq = wr := ⟨_, rfl⟩
        have hsq := HE.out.size
        have hown := HS.out
        have hdl : (q.drop k).reverse.length = m - k := by rw [List.length_reverse, List.length_drop, HM.out]
        rcases Nat.eq_zero_or_pos k with rfl | hkp
        · rw [List.drop_zero] at hown
          rw [List.drop_zero, Nat.sub_zero] at hdl
          obtain ⟨sa, sc, rfl⟩ := hown.slice
          have c0 : ¬ (0 : Int) ≤ ((0 : Nat) : Int) - 1 := by omega
          have hq1 := HO.out
          have hlt3 : ∀ b, (Value.slice sa q.reverse.length sc).ownBlock = some b → wo.heap.size ≤ b := fun b hb => (hown.lt hb).1
          have hua : ∀ x, x < us.length → ∀ b, (us[x]?.getD nilV).ownBlock = some b → (Value.slice sa q.reverse.length sc).ownBlock ≠ some b := fun x hx b hb e => by
            have h1 := (hq1.2.2.1 x hx).lt hb
            have h2 := hlt3 b e
            omega
          have huv : ∀ b, (Value.slice sa q.reverse.length sc).ownBlock = some b → u3.ownBlock ≠ some b := fun b hb e => by
            have h1 := hq1.2.1.lt b e
            have h2 := hlt3 b hb
            omega
          have hqq := hq1.below HE.out
          have hou := hqq.2.1
          rw [hul] at hou
          rw [hdl] at hown hua huv hlt3 ⊢
          have HUA := Lib.hid hua
          have HUV := Lib.hid huv
          have HW := Lib.hid hown
          have HQQ := Lib.hid hqq
          have HDL := Lib.hid hdl
          clear hua huv hqq hq1 hlt3 hown hdl
          go_wp2_with (at_builtin; (refine wpList_append_lies _ (by rfl) _ _ 26 (by rfl) W.heap.size 22 i1 nilV 1 24 Try.underlying26 hi1 hy0 hy1 hy2 rfl (by decide) _ i us (by rfl) (hou.alloc _) ⟨wq.heap.size, 0, none⟩ 1 1 [.slice sa m sc] (by rfl) rfl (World.news_of_block (cs := #[.slice sa m sc]) (heap_alloc_new wq _)) (by simp [Value.oneCell']) (by omega) (by unfold maxLen; omega) (by omega) (by simp; omega) (wq.heap.size + 1) (by simp) ?_))
          intro gg cap1 wz hown1 hgrow hat hlt1
          have hO5 := QOwnU.snoc (u := .slice sa m sc) (q := q.reverse) (HQQ.out.alloc (.cells #[.slice sa m sc] 22)) (by
              have := (HW.out.lower (base' := W.heap.size) hsz).alloc (.cells #[.slice sa m sc] 22)
              exact this) HUA.out HUV.out (by rw [hul]; exact hown1) hgrow (hat.imp id (fun h => by rw [h]; simp))
          have hB5 := ((HB.out.trans (HE.out.mono hsz)).alloc (by omega) _).grown hgrow (by simp; omega) (fun q hq => (hou.lt q hq).1)
          rw [← HTS.out, hul] at hO5
          have HO5 := Lib.hid hO5
          have HB5 := Lib.hid hB5
          clear hO5 hB5 hown1 hgrow hat hlt1 hou
          go_wp2
          go_roundw
          case rel => exact ⟨i + 1, us ++ [.slice sa m sc], by omega, by go_num, HO5, by simp [hul], HB5⟩
          case measure => (simp [intOf]; try omega)
        · obtain ⟨j, rfl⟩ : ∃ j, k = j + 1 := ⟨k - 1, by omega⟩
          obtain ⟨b, off2, rfl, hb, hx1, hx2⟩ := HQC.out j (by omega)
          obtain ⟨p, hp⟩ : ∃ p, q[j]?.getD (0, 0) = p := ⟨_, rfl⟩
          have HRS := Lib.hid (rev_succ q j (by rw [HM.out]; omega) p hp)
          rw [hp] at hx1 hx2
          clear hp
          have hbo : b < wo.heap.size := by omega
          rw [← HB.out.cell (p := ⟨b, off2 + j * 2, none⟩) hb, ← HE.out.cell (p := ⟨b, off2 + j * 2, none⟩) hbo] at hx1
          rw [← HB.out.cell (p := ⟨b, off2 + j * 2 + 1, none⟩) hb, ← HE.out.cell (p := ⟨b, off2 + j * 2 + 1, none⟩) hbo] at hx2
          have hcg := HCI.out
          have hgo : g < wo.heap.size := by omega
          rw [← HE.out.cell (p := ⟨g, off + i, none⟩) hgo] at hcg
          obtain ⟨p1, p2⟩ := p
          dsimp only at hx1 hx2
          unfold RgOwn at hown
          rw [hdl] at hown
          obtain ⟨M, hM⟩ : ∃ M, (q.drop (j + 1)).reverse = M := ⟨_, rfl⟩
          rw [hM] at hown HRS hdl
          have HDL := Lib.hid hdl
          have e1 : ((j + 1 : Nat) : Int) - 1 = (j : Int) := by omega
          rw [e1]
          have j0 : (0 : Int) ≤ (j : Int) := by omega
          have j1 : (j : Int) < (m : Int) := by omega
          have hbq : b < wq.heap.size := by omega
          clear hM e1 hdl
          go_wp2_with (at_builtin; (refine wpList_append_own _ (by rfl) _ _ 22 (by rfl) wo.heap.size 44 i0 (.agg #[.int .i64 0, .int .i64 0]) 2 16 Try.underlying22 hi0 hz0 hz1 hz2 rfl (by decide) _ (m - (j + 1)) (flat2 M) (by rfl) (hown.alloc _) ⟨wq.heap.size, 0, none⟩ 1 1 [.int .i64 p1, .int .i64 p2] (by rfl) rfl (World.news_of_block (cs := #[.int .i64 p1, .int .i64 p2]) (heap_alloc_new wq _)) (by simp [Value.oneCell']) (by unfold maxLen; omega) (by omega) (by simp; omega) ?_))
          intro v1 w1 hown1 hgrow _
          have hO2 : RgOwn w1 wo.heap.size v1 (q.drop j).reverse := by
            rw [HRS.out]; unfold RgOwn; rw [List.length_append, HDL.out, flat2_snoc]; exact hown1
          have hB2 := (HE.out.alloc hsq _).grown hgrow (by simp; omega) (fun q hq => (hown.lt q hq).1)
          have HO2 := Lib.hid hO2
          have HB2 := Lib.hid hB2
          clear hO2 hown1 hgrow hown hB2
          go_wp2
          go_roundw
          case rel => exact ⟨j, by omega, by go_num, HO2, HB2⟩
          case measure => (simp [intOf]; try omega)
    · obtain rfl : i = n := by omega
      have hO := HO.out
      rw [List.take_of_length_le (by rw [HN.out]; exact Nat.le_refl _)] at hO
      have HO2 := Lib.hid hO
      clear hO
      go_wp2
      go_ret
      exact ⟨_, rfl, ⟨us, HO2.out⟩, HB.out⟩
end Go.Proofs.Ytfopcgbfbedcjaa
