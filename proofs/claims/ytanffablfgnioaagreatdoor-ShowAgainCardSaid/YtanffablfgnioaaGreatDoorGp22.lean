/- The landed ranges: Norm. · The landed ranges: lists of turns in memory; nearest, turns, between. · The landed ranges: between. -/
import Derived.Test.YtanffablfgnioaaGreatDoorGp21
import Derived.RegionTactic
import Derived.ChangeAlike
import Derived.IntWalk
import Derived.Deep.RegionHeld3
import Derived.Deep.AppendLies
namespace Go.Proofs.YtanffablfgnioaaGreatDoor
open Go.RowKit
set_option linter.unusedVariables false
theorem RgOwn.setHi2 {W : World} {base g m cap : Nat} {l : List (Int × Int)} {p : Int × Int} (h : RgOwn W base (.slice (some ⟨g, 0, none⟩) (l.length + 1) cap) (l ++ [p])) (hm : l.length = m) (o : Obj) (d : Nat) (y : Int) :
    RgOwn (((W.alloc o).drewN d).setCell ⟨g, m * 2 + 1, none⟩ (.int .i64 y)) base (.slice (some ⟨g, 0, none⟩) (m + 1) cap) (l ++ [(p.1, y)]) := by
  subst hm
  exact RgOwn.setHi (W := (W.alloc o).drewN d) (h.alloc o) y
def NormPost (l : List (Int × Int)) (W : World) (e : Ending) (w' : World) : Prop := ∃ v out, e = .returned v ∧ Rg.ListOf l out ∧ RgOwn w' W.heap.size v out ∧ Below W.heap.size W w'
set_option maxRecDepth 100000 in
set_option maxHeartbeats 8000000 in
theorem norm_any (W : World) (v : Value) (l : List (Int × Int)) (h : RRow W v l) : Calls Tryz.prog 84 #[v] W (NormPost l W) := by
  obtain ⟨i0, hi, hz0, hz1, hz2⟩ := info_parts Tryz.infoRange
  have HR := Lib.hid h
  clear h
  go_enter Tryz.func84, Tryz.ntmps84
  go_wp2_with fail
  refine (sorted_any W v l HR.out).mono ?_
  rintro e wa ⟨vs, s, rfl, hs, hm, hln, ho, hba⟩
  obtain ⟨sa, caps, rfl, hl, hw, hc⟩ := ho.row hln (fun p hp => by have := hs.ok p hp; omega)
  have HS := Lib.hid hs
  have HB := Lib.hid hba
  have HC := Lib.hid hc
  obtain ⟨n, hn⟩ : ∃ n, s.length = n := ⟨_, rfl⟩
  have HN := Lib.hid hn
  rw [hn] at hl HC hln ⊢
  have hsa := hba.size
  clear hs ho hba hc hw hn
  go_wp2
  go_loopw [3, 10] (fun V i wr => ∃ (k : Nat) (out : List (Int × Int)), k ≤ n ∧ i = .int .i64 k ∧ Hid (Rg.NInv s k out) ∧ RgOwn wr wa.heap.size V out ∧ Below wa.heap.size wa wr) (fun _ i _ => n - (intOf i).toNat)
  case atStart => exact ⟨0, [], Nat.zero_le _, rfl, Lib.hid (Rg.NInv.start s), RgOwn.nil, Below.refl _ _⟩
  case round =>
    obtain ⟨k, out, hk, rfl, HI, hO, hBa⟩ := hrel
    by_cases hlt : k < n
    · obtain ⟨b, off, rfl, hb, hc1, hc2⟩ := HC.out k hlt
      rw [← hBa.cell (p := ⟨b, off + k * 2, none⟩) hb] at hc1
      rw [← hBa.cell (p := ⟨b, off + k * 2 + 1, none⟩) hb] at hc2
      obtain ⟨x, hx⟩ : ∃ x, s[k]?.getD (0, 0) = x := ⟨_, rfl⟩
      have hok := HS.out.at_ (k := k) (by rw [HN.out]; exact hlt)
      rw [hx] at hc1 hc2 hok
      have HX := Lib.hid hx
      have HO := Lib.hid hO
      have HBa := Lib.hid hBa
      have hsz := hBa.size
      have hlen := HI.out.len
      obtain ⟨ok1, ok2, ok3⟩ := hok
      clear hx hO hBa
      rcases nil_or_snoc out with rfl | ⟨ini, p, rfl⟩
      · obtain ⟨a', cap', rfl⟩ := HO.out.empty
        obtain ⟨x1, x2⟩ := x
        dsimp only at hc1 hc2 ok1 ok2 ok3
        have HI' := Lib.hid (HI.out.add HS.out (by rw [HN.out]; exact hlt) HX.out (fun p hp => by cases hp))
        have hown := HO.out
        unfold RgOwn at hown
        go_wp2
        go_quiet (fail)
        go_wp2_with (at_builtin; (refine wpList_append_own _ (by rfl) _ _ 23 (by rfl) wa.heap.size 49 i0 (.agg #[.int .i64 0, .int .i64 0]) 2 16 Tryz.underlying23 hi hz0 hz1 hz2 rfl (by decide) _ 0 [] (by rfl) ((hown.alloc _).alloc _) ⟨wr.heap.size + 1, 0, none⟩ 1 1 [.int .i64 x1, .int .i64 x2] (by rfl) rfl ?c1 (by simp [Value.oneCell']) (by unfold maxLen; omega) (by omega) (by simp; omega) ?_))
        case c1 => exact World.news_of_block (cs := #[.int .i64 x1, .int .i64 x2]) (heap_new2 _ _ _)
        intro v1 w1 hown' hgrow _
        have hO2 : RgOwn w1 wa.heap.size v1 ([] ++ [(x1, x2)]) := by unfold RgOwn; rw [List.length_append, flat2_snoc]; exact hown'
        have hB2 := ((below_drewNr (HBa.out.alloc hsz _) _).alloc (by simp; omega) _).grown hgrow (by simp; omega) (fun q hq => (hown.lt q hq).1)
        have HO2 := Lib.hid hO2
        have HB2 := Lib.hid hB2
        clear hO2 hown' hgrow hown hB2
        go_wp2
        go_roundw
        case rel => exact ⟨k + 1, _, by omega, by go_num, HI', HO2.out, HB2.out⟩
        case measure => simp [intOf]; omega
      · obtain ⟨g, cap', rfl, hgb, hgs⟩ := HO.out.form
        have hcell := HO.out.hi
        obtain ⟨hd1, hd2⟩ := hcell
        obtain ⟨m, hm⟩ : ∃ m, ini.length = m := ⟨_, rfl⟩
        rw [hm] at hd1 hd2
        have hmk : m + 1 ≤ k := by rw [List.length_append] at hlen; simp at hlen; omega
        have hnn := Rg.norm_unsnoc ini 0 p HI.out.norm
        obtain ⟨_, _, hp1, hp2, hp3⟩ := hnn
        have HM := Lib.hid hm
        rw [hm]
        clear hm hlen
        obtain ⟨x1, x2⟩ := x
        dsimp only at hc1 hc2 ok1 ok2 ok3
        by_cases hj : x1 ≤ p.2 + 1
        · have HI' := Lib.hid (HI.out.join HS.out (by rw [HN.out]; exact hlt) HX.out hj)
          go_wp2
          go_quiet (fail)
          go_wp2
          go_region
          go_wp2
          go_roundw
          case rel => exact ⟨k + 1, _, by omega, by go_num, HI', HO.out.setHi2 HM.out _ _ _, (below_drewNr (HBa.out.alloc hsz _) _).setCell (p := ⟨g, m * 2 + 1, none⟩) hgb _⟩
          case measure => simp [intOf]; omega
        · have HI' := Lib.hid (HI.out.add HS.out (by rw [HN.out]; exact hlt) HX.out (HI.out.last hj))
          have hown := HO.out
          unfold RgOwn at hown
          rw [List.length_append, HM.out] at hown
          go_wp2
          have hj' : ¬ x1 ≤ p.2 + 1 := by omega
          go_quiet (fail)
          clear hj'
          go_wp2_with (at_builtin; (refine wpList_append_own _ (by rfl) _ _ 23 (by rfl) wa.heap.size 49 i0 (.agg #[.int .i64 0, .int .i64 0]) 2 16 Tryz.underlying23 hi hz0 hz1 hz2 rfl (by decide) _ (m + 1) (flat2 (ini ++ [p])) (by rfl) ((hown.alloc _).alloc _) ⟨wr.heap.size + 1, 0, none⟩ 1 1 [.int .i64 x1, .int .i64 x2] (by rfl) rfl ?c1 (by simp [Value.oneCell']) (by unfold maxLen; omega) (by omega) (by simp; omega) ?_))
          case c1 => exact World.news_of_block (cs := #[.int .i64 x1, .int .i64 x2]) (heap_new2 _ _ _)
          intro v1 w1 hown' hgrow _
          have hO2 : RgOwn w1 wa.heap.size v1 ((ini ++ [p]) ++ [(x1, x2)]) := by unfold RgOwn; rw [List.length_append, List.length_append, flat2_snoc, HM.out]; simpa [flat2] using hown'
          have hB2 := ((below_drewNr (HBa.out.alloc hsz _) _).alloc (by simp; omega) _).grown hgrow (by simp; omega) (fun q hq => (hown.lt q hq).1)
          have HO2 := Lib.hid hO2
          have HB2 := Lib.hid hB2
          clear hO2 hown' hgrow hown hB2
          go_wp2
          go_roundw
          case rel => exact ⟨k + 1, _, by omega, by go_num, HI', HO2.out, HB2.out⟩
          case measure => simp [intOf]; omega
    · obtain rfl : k = n := by omega
      have HO := Lib.hid hO
      have HBa := Lib.hid hBa
      have hNI := HI.out
      rw [← HN.out] at hNI
      have HL := Lib.hid (hNI.made hm.out)
      clear hO hBa hNI
      go_wp2
      go_ret
      exact ⟨_, out, rfl, HL.out, HO.out.lower hsa, HB.out.trans (HBa.out.mono hsa)⟩
end Go.Proofs.YtanffablfgnioaaGreatDoor
namespace Go.Proofs.YtanffablfgnioaaGreatDoor
open Go.RowKit
set_option linter.unusedVariables false
def nearI (n m : Nat) (x y : Int) : Int := if m = 0 then x else if n = 0 then y else if x < y then x else y
set_option maxRecDepth 100000 in
set_option maxHeartbeats 2000000 in
theorem nearest_walk (W : World) (a b : Option Addr) (n m p q : Nat) (x y : Int) (hn : n ≤ 8796093022208) (hm : m ≤ 8796093022208)
    (ha : 0 < n → ∃ g off, a = some ⟨g, off, none⟩ ∧ W.cell? ⟨g, off, none⟩ = some (.int .i64 x))
    (hb : 0 < m → ∃ g off, b = some ⟨g, off, none⟩ ∧ W.cell? ⟨g, off, none⟩ = some (.int .i64 y)) (h : 0 < n ∨ 0 < m) :
    Calls Tryz.prog 205 #[.slice a n p, .slice b m q] W fun e w' => e = .returned (.int .i64 (nearI n m x y)) ∧ ∃ d, w' = W.drewN d := by
  by_cases m0 : m = 0
  · subst m0
    have n0 : 0 < n := by omega
    obtain ⟨g, off, rfl, hc⟩ := ha n0
    have HE : Hid (nearI n 0 x y = x) := Lib.hid rfl
    have n1 : (0 : Int) < (n : Int) := by omega
    clear h hb ha
    go_enter Tryz.func205, Tryz.ntmps205
    go_wp2
    go_quiet (fail)
    go_wp2
    go_ret
    exact ⟨rg_ret_int HE.out.symm, _, rfl⟩
  · have m1 : 0 < m := by omega
    obtain ⟨g', off', rfl, hc'⟩ := hb m1
    have m2 : (0 : Int) < (m : Int) := by omega
    have m3 : ((m : Int) == 0) = false := by rw [beq_eq_false_iff_ne]; omega
    by_cases n0 : n = 0
    · subst n0
      have HE : Hid (nearI 0 m x y = y) := Lib.hid (by unfold nearI; rw [if_neg m0, if_pos rfl])
      clear h ha hb
      go_enter Tryz.func205, Tryz.ntmps205
      go_wp2
      go_quiet (fail)
      go_wp2
      go_ret
      exact ⟨rg_ret_int HE.out.symm, _, rfl⟩
    · have n1 : 0 < n := by omega
      obtain ⟨g, off, rfl, hc⟩ := ha n1
      have n2 : (0 : Int) < (n : Int) := by omega
      by_cases hxy : x < y
      · have HE : Hid (nearI n m x y = x) := Lib.hid (by unfold nearI; rw [if_neg m0, if_neg n0, if_pos hxy])
        clear h ha hb
        go_enter Tryz.func205, Tryz.ntmps205
        go_wp2
        go_quiet (fail)
        go_wp2
        go_ret
        exact ⟨rg_ret_int HE.out.symm, _, rfl⟩
      · have HE : Hid (nearI n m x y = y) := Lib.hid (by unfold nearI; rw [if_neg m0, if_neg n0, if_neg hxy])
        clear h ha hb
        go_enter Tryz.func205, Tryz.ntmps205
        go_wp2
        have hxy' : ¬ x < y := by omega
        go_quiet (fail)
        go_wp2
        go_ret
        exact ⟨rg_ret_int HE.out.symm, _, rfl⟩
set_option maxRecDepth 100000 in
set_option maxHeartbeats 4000000 in
theorem turns_any (W : World) (v : Value) (l : List (Int × Int)) (h : RRow W v l) :
    Calls Tryz.prog 182 #[v] W fun e w' => ∃ v' out, e = .returned v' ∧ Rg.ListOf l out ∧ IOwn w' W.heap.size v' (Rg.turnsN out) ∧ Below W.heap.size W w' := by
  obtain ⟨i0, hi, hz0, hz1, hz2⟩ := info_parts Tryz.infoInt
  have HA := Lib.hid h
  clear h
  go_enter Tryz.func182, Tryz.ntmps182
  go_wp2_with fail
  refine (norm_any _ _ _ HA.out).mono ?_
  rintro e wa ⟨v', out, rfl, hm, ho, hba⟩
  have hln := Rg.norm_len out 0 hm.norm (by omega)
  obtain ⟨b, cap, rfl, hl, hw, hc⟩ := ho.normRow hm.norm
  have HM := Lib.hid hm
  have HC := Lib.hid hc
  have HB := Lib.hid hba
  obtain ⟨n, hn⟩ : ∃ n, out.length = n := ⟨_, rfl⟩
  have HN := Lib.hid hn
  rw [hn] at hl HC hln ⊢
  clear hm hc hw ho hba HA hn
  go_wp2
  go_loopw [3, 9] (fun V i wr => ∃ k : Nat, k ≤ n ∧ i = .int .i64 k ∧ Hid (IOwn wr wa.heap.size V (Rg.turnsN (out.take k))) ∧ Hid (Below wa.heap.size wa wr)) (fun _ i _ => n - (intOf i).toNat)
  case atStart => exact ⟨0, Nat.zero_le _, rfl, Lib.hid IOwn.nil, Lib.hid (Below.refl _ _)⟩
  case round =>
    obtain ⟨k, hk, rfl, HO, HBa⟩ := hrel
    by_cases hlt : k < n
    · obtain ⟨g, off, rfl, hg, hc1, hc2⟩ := HC.out k hlt
      rw [← HBa.out.cell (p := ⟨g, off + k * 2, none⟩) hg] at hc1
      rw [← HBa.out.cell (p := ⟨g, off + k * 2 + 1, none⟩) hg] at hc2
      obtain ⟨g1, g2, g3⟩ := Rg.norm_get HM.out.norm k (by rw [HN.out]; exact hlt)
      have hsz := HBa.out.size
      have hts : out.take (k + 1) = out.take k ++ [out[k]?.getD (0, 0)] := by
        rw [List.take_succ_eq_append_getElem (by rw [HN.out]; exact hlt), List.getElem?_eq_getElem (by rw [HN.out]; exact hlt)]; rfl
      have htl : (out.take k).length = k := by rw [List.length_take, HN.out]; omega
      obtain ⟨p, hp⟩ : ∃ p, out[k]?.getD (0, 0) = p := ⟨_, rfl⟩
      rw [hp] at hc1 hc2 g1 g2 g3 hts
      have HT := Lib.hid hts
      have hown := HO.out
      unfold IOwn at hown
      rw [Rg.turns_len, htl] at hown
      have HTL := Lib.hid htl
      clear hp hts htl
      obtain ⟨p1, p2⟩ := p
      dsimp only at hc1 hc2 g1 g2 g3
      go_wp2_with (at_builtin; (refine wpList_append_own _ (by rfl) _ _ 113 (by rfl) wa.heap.size 3 i0 (.int .i64 0) 1 8 Tryz.underlying113 hi hz0 hz1 hz2 rfl (by decide) _ (k * 2) (flat1 (Rg.turnsN (out.take k))) (by rfl) ((hown.alloc _).alloc _) ⟨wr.heap.size + 1, 0, none⟩ 2 2 [.int .i64 p1, .int .i64 (p2 + 1)] (by rfl) rfl ?c1 (by simp [Value.oneCell']) (by unfold maxLen; omega) (by omega) (by simp; omega) ?_))
      case c1 => exact World.news_of_block (cs := #[.int .i64 p1, .int .i64 (p2 + 1)]) (heap_new2 _ _ _)
      intro v1 w1 hown' hgrow _
      have hO2 : IOwn w1 wa.heap.size v1 (Rg.turnsN (out.take (k + 1))) := by
        rw [HT.out]; unfold IOwn; rw [Rg.turns_snoc, List.length_append, Rg.turns_len, HTL.out]; simpa [flat1] using hown'
      have hB2 := ((HBa.out.alloc hsz _).alloc (by simp; omega) _).grown hgrow (by simp; omega) (fun q hq => (hown.lt q hq).1)
      have HO2 := Lib.hid hO2
      have HB2 := Lib.hid hB2
      clear hO2 hown' hgrow hown hB2
      go_wp2
      go_roundw
      case rel => exact ⟨k + 1, by omega, by go_num, HO2, HB2⟩
      case measure => simp [intOf]; omega
    · obtain rfl : k = n := by omega
      have hO := HO.out
      rw [List.take_of_length_le (by rw [HN.out]; exact Nat.le_refl _)] at hO
      have HO' := Lib.hid hO
      clear hO
      go_wp2
      go_ret
      exact ⟨_, out, rfl, HM.out, HO'.out.lower HB.out.size, HB.out.trans (HBa.out.mono HB.out.size)⟩
end Go.Proofs.YtanffablfgnioaaGreatDoor
namespace Go.Proofs.YtanffablfgnioaaGreatDoor
open Go.RowKit
set_option linter.unusedVariables false
set_option maxRecDepth 100000 in
set_option maxHeartbeats 4000000 in
theorem between_any (W : World) (v : Value) (T : List Int) (h : IRow W v T) (hT : ∀ t ∈ T, 0 ≤ t ∧ t ≤ 1114112) (he : T.length % 2 = 0) (hl : T.length ≤ 8796093022208) :
    Calls Tryz.prog 180 #[v] W fun e w' => ∃ v', e = .returned v' ∧ RgOwn w' W.heap.size v' (Rg.rangesOf T) ∧ Below W.heap.size W w' := by
  obtain ⟨i0, hi, hz0, hz1, hz2⟩ := info_parts Tryz.infoRange
  obtain ⟨a, cap, rfl, hnc, hcm, hc⟩ := h
  have HC := Lib.hid hc
  obtain ⟨n, hn⟩ : ∃ n, T.length = n := ⟨_, rfl⟩
  have HN := Lib.hid hn
  rw [hn] at hl HC hnc he ⊢
  obtain ⟨h2, rfl⟩ : ∃ h2, n = h2 * 2 := ⟨n / 2, by omega⟩
  clear hc hn he
  go_enter Tryz.func180, Tryz.ntmps180
  go_wp2
  go_loopw [3, 4] (fun V i wr => ∃ k : Nat, k ≤ h2 ∧ i = .int .i64 ((k * 2 : Nat) : Int) ∧ Hid (RgOwn wr W.heap.size V (Rg.rangesOf (T.take (k * 2)))) ∧ Hid (Below W.heap.size W wr)) (fun _ i _ => h2 * 2 - (intOf i).toNat)
  case atStart => exact ⟨0, Nat.zero_le _, rfl, Lib.hid RgOwn.nil, Lib.hid (Below.refl _ _)⟩
  case round =>
    obtain ⟨k, hk, rfl, HO, HB⟩ := hrel
    by_cases hlt : k < h2
    · obtain ⟨g, rfl, hg, hc1⟩ := HC.out (k * 2) (by omega)
      obtain ⟨g', hgg, _, hc2⟩ := HC.out (k * 2 + 1) (by omega)
      injection hgg with hgg; injection hgg with hgg; subst hgg
      rw [← HB.out.cell (p := ⟨g, k * 2, none⟩) hg] at hc1
      rw [← HB.out.cell (p := ⟨g, k * 2 + 1, none⟩) hg] at hc2
      have hsz := HB.out.size
      have hts := Rg.rangesOf_take T k (by rw [HN.out]; omega)
      have hml : (Rg.rangesOf (T.take (k * 2))).length = k := by
        have := Rg.rangesOf_len (T.take (k * 2)) (by rw [List.length_take, HN.out]; omega)
        rw [List.length_take, HN.out] at this; omega
      have hx := hT (T[k * 2]?.getD 0) (by rw [List.getElem?_eq_getElem (by rw [HN.out]; omega)]; exact List.getElem_mem _)
      have hy := hT (T[k * 2 + 1]?.getD 0) (by rw [List.getElem?_eq_getElem (by rw [HN.out]; omega)]; exact List.getElem_mem _)
      obtain ⟨x, ex⟩ : ∃ x, T[k * 2]?.getD 0 = x := ⟨_, rfl⟩
      obtain ⟨y, ey⟩ : ∃ y, T[k * 2 + 1]?.getD 0 = y := ⟨_, rfl⟩
      rw [ex] at hc1 hx hts
      rw [ey] at hc2 hy hts
      have HT := Lib.hid hts
      have hown := HO.out
      unfold RgOwn at hown
      rw [hml] at hown
      have HML := Lib.hid hml
      obtain ⟨hx0, hx1⟩ := hx
      obtain ⟨hy0, hy1⟩ := hy
      have hgs : g < wr.heap.size := by omega
      clear ex ey hts hml
      have b1 : (0 : Int) ≤ (k : Int) * 2 := by omega
      have b2 : (k : Int) * 2 < (h2 : Int) * 2 := by omega
      have b3 : (0 : Int) ≤ (k : Int) * 2 + 1 := by omega
      have b4 : (k : Int) * 2 + 1 < (h2 : Int) * 2 := by omega
      have hag : u3.ownBlock ≠ some g := fun e => by have := (hown.lt g e).1; omega
      have HAG := Lib.hid hag
      clear hag
      go_wp2
      have w1 : IntKind.i64.wrap ((k : Int) * 2 + 1) = (k : Int) * 2 + 1 := IntWalk.i64_in _ (by omega)
      have w2 : IntKind.i64.wrap (y - 1) = y - 1 := IntWalk.i64_in _ (by omega)
      have w3 : ((k : Int) * 2).toNat = k * 2 := by omega
      have w4 : ((k : Int) * 2 + 1).toNat = k * 2 + 1 := by omega
      go_region_held3 (fun w' => w'.cell? ⟨g, k * 2, none⟩ = some (.int .i64 x) ∧ w'.cell? ⟨g, k * 2 + 1, none⟩ = some (.int .i64 y))
        (first
          | go_keep
          | (go_split_ands
             refine ⟨?_, ?_⟩
             · (rw [hgrow.cell_far _ (by simp; omega) (Ne.symm HAG.out)]; assumption)
             · (rw [hgrow.cell_far _ (by simp; omega) (Ne.symm HAG.out)]; assumption)))
        ((refine step_append_lies _ (by rfl) _ _ 23 (by rfl) W.heap.size 49 i0 (.agg #[.int .i64 0, .int .i64 0]) 2 16 Tryz.underlying23 hi hz0 hz1 hz2 rfl (by omega) _ k (flat2 (Rg.rangesOf (T.take (k * 2)))) (by rfl) ((hown.alloc _).drew)
            ⟨wr.heap.size, 0, none⟩ 1 1 [.int .i64 x, .int .i64 (y - 1)] (by rfl) (by rfl) (World.news_of_block (cs := #[.int .i64 x, .int .i64 (y - 1)]) (t := 49) (fr := (0, 0)) (heap_alloc_new wr _)) (by simp [Value.oneCell'])
            (by omega) (by unfold maxLen; omega) (by omega) (by simp; omega) (wr.heap.size + 1) (by simp) ?_; intro gg cap1 wz hown1 hgrow hat hlt1))
      have hO2 : RgOwn wz W.heap.size (.slice (some ⟨gg, 0, none⟩) (k + 1) cap1) (Rg.rangesOf (T.take (k * 2 + 2))) := by
        rw [HT.out]; unfold RgOwn; rw [List.length_append, flat2_snoc, HML.out]; exact hown1
      have hB2 := (below_drewNr (HB.out.alloc hsz _) 1).grown hgrow (by simp; omega) (fun q hq => (hown.lt q hq).1)
      have HO2 := Lib.hid hO2
      have HB2 := Lib.hid hB2
      clear hO2 hown1 hgrow hown hB2 hat hlt1 w1 w2 w3 w4
      go_wp2
      go_roundw
      case rel => exact ⟨k + 1, by omega, by go_num, by rw [show (k + 1) * 2 = k * 2 + 2 by omega]; exact HO2, HB2⟩
      case measure => simp [intOf]; omega
    · obtain rfl : k = h2 := by omega
      have hO := HO.out
      rw [List.take_of_length_le (by rw [HN.out]; exact Nat.le_refl _)] at hO
      have HO' := Lib.hid hO
      clear hO
      go_wp2
      go_ret
      exact ⟨_, rfl, HO'.out, HB.out⟩
end Go.Proofs.YtanffablfgnioaaGreatDoor
