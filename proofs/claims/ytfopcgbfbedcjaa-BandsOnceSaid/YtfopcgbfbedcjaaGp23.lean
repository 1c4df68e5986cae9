/- The landed ranges: sorted. · The landed ranges: Norm. -/
import Derived.Test.YtfopcgbfbedcjaaGp22
import Derived.RegionTactic
import Derived.ChangeAlike
namespace Go.Proofs.Ytfopcgbfbedcjaa
open Go.RowKit
set_option linter.unusedVariables false
theorem clip_yes {p : Int × Int} {u v : Int} (h1 : max p.1 0 = u) (h2 : min p.2 1114111 = v) (h : u ≤ v) : Rg.clip1 p = some (u, v) := by
  unfold Rg.clip1; rw [h1, h2, if_pos h]
theorem clip_no {p : Int × Int} {u v : Int} (h1 : max p.1 0 = u) (h2 : min p.2 1114111 = v) (h : ¬ u ≤ v) : Rg.clip1 p = none := by
  unfold Rg.clip1; rw [h1, h2, if_neg h]
set_option maxRecDepth 100000 in
set_option maxHeartbeats 8000000 in
theorem sorted_any (W : World) (v : Value) (l : List (Int × Int)) (h : RRow W v l) :
    Calls Try.prog 63 #[v] W fun e w' => ∃ v' s, e = .returned v' ∧ Rg.Srt s ∧ Hid (∀ q, Rg.memL s q ↔ Rg.hasB l q = true) ∧ s.length ≤ 8796093022208 ∧ RgOwn w' W.heap.size v' s ∧ Below W.heap.size W w' := by
  obtain ⟨i0, hi, hz0, hz1, hz2⟩ := info_parts Try.infoRange
  obtain ⟨a, cap, rfl, hl, hw, hc⟩ := h
  have HC := Lib.hid hc
  obtain ⟨n, hn⟩ : ∃ n, l.length = n := ⟨_, rfl⟩
  have HN := Lib.hid hn
  rw [hn] at hl HC ⊢
  clear hn hc hw
  go_enter Try.func63, Try.ntmps63
  go_wp2
  go_loopw [3, 8] (fun V i wr => ∃ k : Nat, k ≤ n ∧ i = .int .i64 k ∧ RgOwn wr W.heap.size V (Rg.clipL (l.take k)) ∧ Below W.heap.size W wr) (fun _ i _ => n - (intOf i).toNat)
  case atStart => exact ⟨0, Nat.zero_le _, rfl, RgOwn.nil, Below.refl _ _⟩
  case round =>
    obtain ⟨k, hk, rfl, hO, hB⟩ := hrel
    by_cases hlt : k < n
    · obtain ⟨b, off, rfl, hb, hc1, hc2⟩ := HC.out k hlt
      rw [← hB.cell (p := ⟨b, off + k * 2, none⟩) hb] at hc1
      rw [← hB.cell (p := ⟨b, off + k * 2 + 1, none⟩) hb] at hc2
      have hkl : k < l.length := by rw [HN.out]; exact hlt
      have ht := Rg.clip_take_succ l k hkl
      obtain ⟨p, hp⟩ : ∃ p, l[k]?.getD (0, 0) = p := ⟨_, rfl⟩
      rw [hp] at hc1 hc2 ht
      have hcl := Rg.clip_len (l.take k)
      rw [List.length_take] at hcl
      obtain ⟨m, hm⟩ : ∃ m, (Rg.clipL (l.take k)).length = m := ⟨_, rfl⟩
      have hmk : m ≤ k := by omega
      have HM := Lib.hid hm
      have HT := Lib.hid ht
      have HB := Lib.hid hB
      have HO := Lib.hid hO
      have hsz := hB.size
      clear hp ht hkl hm hcl hB hO
      obtain ⟨x, y⟩ := p
      dsimp only at hc1 hc2
      by_cases hle : max x 0 ≤ min y 1114111
      · have HT' : Hid (Rg.clipL (l.take (k + 1)) = Rg.clipL (l.take k) ++ [(max x 0, min y 1114111)]) := Lib.hid (by rw [HT.out, clip_yes rfl rfl hle]; rfl)
        have hown := HO.out
        unfold RgOwn at hown
        rw [HM.out] at hown
        go_wp2_with (at_builtin; (refine wpList_append_own _ (by rfl) _ _ 22 (by rfl) W.heap.size 44 i0 (.agg #[.int .i64 0, .int .i64 0]) 2 16 Try.underlying22 hi hz0 hz1 hz2 rfl (by decide) _ m (flat2 (Rg.clipL (l.take k))) (by rfl) ((hown.alloc _).alloc _) ⟨wr.heap.size + 1, 0, none⟩ 1 1 [.int .i64 (max x 0), .int .i64 (min y 1114111)] (by rfl) rfl ?c1 (by simp [Value.oneCell']) (by unfold maxLen; omega) (by omega) (by simp; omega) ?_))
        case c1 => exact World.news_of_block (cs := #[.int .i64 (max x 0), .int .i64 (min y 1114111)]) (heap_new2 _ _ _)
        intro v1 w1 hown' hgrow _
        have hO2 : RgOwn w1 W.heap.size v1 (Rg.clipL (l.take (k + 1))) := by
          rw [HT'.out]; unfold RgOwn; rw [List.length_append, flat2_snoc, HM.out]; exact hown'
        have hB2 := ((HB.out.alloc hsz _).alloc (by simp; omega) _).grown hgrow (by simp; omega) (fun q hq => (hown.lt q hq).1)
        have HO2 := Lib.hid hO2
        have HB2 := Lib.hid hB2
        clear hO2 hown' hgrow hown hB2 hle
        go_wp2
        go_roundw
        case rel => exact ⟨k + 1, by omega, by go_num, HO2.out, HB2.out⟩
        case measure => simp [intOf]; omega
      · have HT' : Hid (Rg.clipL (l.take (k + 1)) = Rg.clipL (l.take k)) := Lib.hid (by rw [HT.out, clip_no rfl rfl hle]; simp)
        go_wp2
        go_roundw
        case rel => exact ⟨k + 1, by omega, by go_num, by rw [HT'.out]; exact HO.out.alloc _, HB.out.alloc hsz _⟩
        case measure => simp [intOf]; omega
    · obtain rfl : k = n := by omega
      rw [List.take_of_length_le (by rw [HN.out]; exact Nat.le_refl _)] at hO
      have HO := Lib.hid hO
      have HB := Lib.hid hB
      have hsz := hB.size
      have hcl := Rg.clip_len l
      rw [HN.out] at hcl
      clear hO hB
      go_wp2_with fail
      refine (sort_own _ W.heap.size _ _ HO.out hsz (by omega)).mono ?_
      rintro e w1 ⟨rfl, s, hp, hs, hln, ho, hb⟩
      have HP := Lib.hid hp
      have HS := Lib.hid hs
      have HLN := Lib.hid hln
      have HO1 := Lib.hid ho
      have HB1 := Lib.hid hb
      clear hp hs hln ho hb
      go_wp2
      go_ret
      exact ⟨_, s, rfl, ⟨fun p h => Rg.clip_ok l p (HP.out.mem_iff.1 h), HS.out⟩, Lib.hid (fun q => by rw [Rg.memL_perm HP.out, Rg.clip_mem]), by rw [HLN.out]; omega, HO1.out, HB.out.trans HB1.out⟩
end Go.Proofs.Ytfopcgbfbedcjaa
namespace Go.Proofs.Ytfopcgbfbedcjaa
open Go.RowKit
set_option linter.unusedVariables false
theorem RgOwn.setHi2 {W : World} {base g m cap : Nat} {l : List (Int × Int)} {p : Int × Int} (h : RgOwn W base (.slice (some ⟨g, 0, none⟩) (l.length + 1) cap) (l ++ [p])) (hm : l.length = m) (o : Obj) (d : Nat) (y : Int) :
    RgOwn (((W.alloc o).drewN d).setCell ⟨g, m * 2 + 1, none⟩ (.int .i64 y)) base (.slice (some ⟨g, 0, none⟩) (m + 1) cap) (l ++ [(p.1, y)]) := by
  subst hm
  exact RgOwn.setHi (W := (W.alloc o).drewN d) (h.alloc o) y
def NormPost (l : List (Int × Int)) (W : World) (e : Ending) (w' : World) : Prop := ∃ v out, e = .returned v ∧ Rg.ListOf l out ∧ RgOwn w' W.heap.size v out ∧ Below W.heap.size W w'
set_option maxRecDepth 100000 in
set_option maxHeartbeats 8000000 in
theorem norm_any (W : World) (v : Value) (l : List (Int × Int)) (h : RRow W v l) : Calls Try.prog 62 #[v] W (NormPost l W) := by
  obtain ⟨i0, hi, hz0, hz1, hz2⟩ := info_parts Try.infoRange
  have HR := Lib.hid h
  clear h
  go_enter Try.func62, Try.ntmps62
  go_wp2_with fail
  refine (sorted_any W v l HR.out).mono ?_
  rintro e wa ⟨vs, s, rfl, hs, hm, hln, ho, hba⟩
  obtain ⟨sa, caps, rfl, hl, hw, hc⟩ := ho.row hln (fun p hp => by have := hs.ok p hp; omega)
  have HS := Lib.hid hs
  have HB := Lib.hid hba
  have HC := Lib.hid hc
  obtain ⟨n, hn⟩ : ∃ n, s.length = n := ⟨_, rfl⟩
  have HN := Lib.hid hn
  rw [hn] at hl HC hln ⊢
  have hsa := hba.size
  clear hs ho hba hc hw hn
  go_wp2
  go_loopw [3, 10] (fun V i wr => ∃ (k : Nat) (out : List (Int × Int)), k ≤ n ∧ i = .int .i64 k ∧ Hid (Rg.NInv s k out) ∧ RgOwn wr wa.heap.size V out ∧ Below wa.heap.size wa wr) (fun _ i _ => n - (intOf i).toNat)
  case atStart => exact ⟨0, [], Nat.zero_le _, rfl, Lib.hid (Rg.NInv.start s), RgOwn.nil, Below.refl _ _⟩
  case round =>
    obtain ⟨k, out, hk, rfl, HI, hO, hBa⟩ := hrel
    by_cases hlt : k < n
    · obtain ⟨b, off, rfl, hb, hc1, hc2⟩ := HC.out k hlt
      rw [← hBa.cell (p := ⟨b, off + k * 2, none⟩) hb] at hc1
      rw [← hBa.cell (p := ⟨b, off + k * 2 + 1, none⟩) hb] at hc2
      obtain ⟨x, hx⟩ : ∃ x, s[k]?.getD (0, 0) = x := ⟨_, rfl⟩
      have hok := HS.out.at_ (k := k) (by rw [HN.out]; exact hlt)
      rw [hx] at hc1 hc2 hok
      have HX := Lib.hid hx
      have HO := Lib.hid hO
      have HBa := Lib.hid hBa
      have hsz := hBa.size
      have hlen := HI.out.len
      obtain ⟨ok1, ok2, ok3⟩ := hok
      clear hx hO hBa
      rcases nil_or_snoc out with rfl | ⟨ini, p, rfl⟩
      · obtain ⟨a', cap', rfl⟩ := HO.out.empty
        obtain ⟨x1, x2⟩ := x
        dsimp only at hc1 hc2 ok1 ok2 ok3
        have HI' := Lib.hid (HI.out.add HS.out (by rw [HN.out]; exact hlt) HX.out (fun p hp => by cases hp))
        have hown := HO.out
        unfold RgOwn at hown
        go_wp2
        go_quiet (fail)
        go_wp2_with (at_builtin; (refine wpList_append_own _ (by rfl) _ _ 22 (by rfl) wa.heap.size 44 i0 (.agg #[.int .i64 0, .int .i64 0]) 2 16 Try.underlying22 hi hz0 hz1 hz2 rfl (by decide) _ 0 [] (by rfl) ((hown.alloc _).alloc _) ⟨wr.heap.size + 1, 0, none⟩ 1 1 [.int .i64 x1, .int .i64 x2] (by rfl) rfl ?c1 (by simp [Value.oneCell']) (by unfold maxLen; omega) (by omega) (by simp; omega) ?_))
        case c1 => exact World.news_of_block (cs := #[.int .i64 x1, .int .i64 x2]) (heap_new2 _ _ _)
        intro v1 w1 hown' hgrow _
        have hO2 : RgOwn w1 wa.heap.size v1 ([] ++ [(x1, x2)]) := by unfold RgOwn; rw [List.length_append, flat2_snoc]; exact hown'
        have hB2 := ((below_drewN (HBa.out.alloc hsz _) _).alloc (by simp; omega) _).grown hgrow (by simp; omega) (fun q hq => (hown.lt q hq).1)
        have HO2 := Lib.hid hO2
        have HB2 := Lib.hid hB2
        clear hO2 hown' hgrow hown hB2
        go_wp2
        go_roundw
        case rel => exact ⟨k + 1, _, by omega, by go_num, HI', HO2.out, HB2.out⟩
        case measure => simp [intOf]; omega
      · obtain ⟨g, cap', rfl, hgb, hgs⟩ := HO.out.form
        have hcell := HO.out.hi
        obtain ⟨hd1, hd2⟩ := hcell
        obtain ⟨m, hm⟩ : ∃ m, ini.length = m := ⟨_, rfl⟩
        rw [hm] at hd1 hd2
        have hmk : m + 1 ≤ k := by rw [List.length_append] at hlen; simp at hlen; omega
        have hnn := Rg.norm_unsnoc ini 0 p HI.out.norm
        obtain ⟨_, _, hp1, hp2, hp3⟩ := hnn
        have HM := Lib.hid hm
        rw [hm]
        clear hm hlen
        obtain ⟨x1, x2⟩ := x
        dsimp only at hc1 hc2 ok1 ok2 ok3
        by_cases hj : x1 ≤ p.2 + 1
        · have HI' := Lib.hid (HI.out.join HS.out (by rw [HN.out]; exact hlt) HX.out hj)
          go_wp2
          go_quiet (fail)
          go_wp2
          go_region
          go_wp2
          go_roundw
          case rel => exact ⟨k + 1, _, by omega, by go_num, HI', HO.out.setHi2 HM.out _ _ _, (below_drewN (HBa.out.alloc hsz _) _).setCell (p := ⟨g, m * 2 + 1, none⟩) hgb _⟩
          case measure => simp [intOf]; omega
        · have HI' := Lib.hid (HI.out.add HS.out (by rw [HN.out]; exact hlt) HX.out (HI.out.last hj))
          have hown := HO.out
          unfold RgOwn at hown
          rw [List.length_append, HM.out] at hown
          go_wp2
          have hj' : ¬ x1 ≤ p.2 + 1 := by omega
          go_quiet (fail)
          clear hj'
          go_wp2_with (at_builtin; (refine wpList_append_own _ (by rfl) _ _ 22 (by rfl) wa.heap.size 44 i0 (.agg #[.int .i64 0, .int .i64 0]) 2 16 Try.underlying22 hi hz0 hz1 hz2 rfl (by decide) _ (m + 1) (flat2 (ini ++ [p])) (by rfl) ((hown.alloc _).alloc _) ⟨wr.heap.size + 1, 0, none⟩ 1 1 [.int .i64 x1, .int .i64 x2] (by rfl) rfl ?c1 (by simp [Value.oneCell']) (by unfold maxLen; omega) (by omega) (by simp; omega) ?_))
          case c1 => exact World.news_of_block (cs := #[.int .i64 x1, .int .i64 x2]) (heap_new2 _ _ _)
          intro v1 w1 hown' hgrow _
          have hO2 : RgOwn w1 wa.heap.size v1 ((ini ++ [p]) ++ [(x1, x2)]) := by unfold RgOwn; rw [List.length_append, List.length_append, flat2_snoc, HM.out]; simpa [flat2] using hown'
          have hB2 := ((below_drewN (HBa.out.alloc hsz _) _).alloc (by simp; omega) _).grown hgrow (by simp; omega) (fun q hq => (hown.lt q hq).1)
          have HO2 := Lib.hid hO2
          have HB2 := Lib.hid hB2
          clear hO2 hown' hgrow hown hB2
          go_wp2
          go_roundw
          case rel => exact ⟨k + 1, _, by omega, by go_num, HI', HO2.out, HB2.out⟩
          case measure => simp [intOf]; omega
    · obtain rfl : k = n := by omega
      have HO := Lib.hid hO
      have HBa := Lib.hid hBa
      have hNI := HI.out
      rw [← HN.out] at hNI
      have HL := Lib.hid (hNI.made hm.out)
      clear hO hBa hNI
      go_wp2
      go_ret
      exact ⟨_, out, rfl, HL.out, HO.out.lower hsa, HB.out.trans (HBa.out.mono hsa)⟩
end Go.Proofs.Ytfopcgbfbedcjaa
