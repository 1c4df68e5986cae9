/- The landed ranges: between. -/
import Derived.Test.YtimgdooelbhjfaaGreatDoorRnI
import Derived.IntWalk
import Derived.Deep.RegionHeld3
import Derived.Deep.AppendLies
namespace Go.Proofs.YtimgdooelbhjfaaGreatDoor
open Go.RowKit
set_option linter.unusedVariables false
set_option maxRecDepth 100000 in
set_option maxHeartbeats 4000000 in
theorem between_any (W : World) (v : Value) (T : List Int) (h : IRow W v T) (hT : ∀ t ∈ T, 0 ≤ t ∧ t ≤ 1114112) (he : T.length % 2 = 0) (hl : T.length ≤ 8796093022208) :
    Calls Tryz.prog 60 #[v] W fun e w' => ∃ v', e = .returned v' ∧ RgOwn w' W.heap.size v' (Rg.rangesOf T) ∧ Below W.heap.size W w' := by
  obtain ⟨i0, hi, hz0, hz1, hz2⟩ := info_parts Tryz.infoRange
  obtain ⟨a, cap, rfl, hnc, hcm, hc⟩ := h
  have HC := Lib.hid hc
  obtain ⟨n, hn⟩ : ∃ n, T.length = n := ⟨_, rfl⟩
  have HN := Lib.hid hn
  rw [hn] at hl HC hnc he ⊢
  obtain ⟨h2, rfl⟩ : ∃ h2, n = h2 * 2 := ⟨n / 2, by omega⟩
  clear hc hn he
  go_enter Tryz.func60, Tryz.ntmps60
  go_wp2
  go_loopw [3, 4] (fun V i wr => ∃ k : Nat, k ≤ h2 ∧ i = .int .i64 ((k * 2 : Nat) : Int) ∧ Hid (RgOwn wr W.heap.size V (Rg.rangesOf (T.take (k * 2)))) ∧ Hid (Below W.heap.size W wr)) (fun _ i _ => h2 * 2 - (intOf i).toNat)
  case atStart => exact ⟨0, Nat.zero_le _, rfl, Lib.hid RgOwn.nil, Lib.hid (Below.refl _ _)⟩
  case round =>
    obtain ⟨k, hk, rfl, HO, HB⟩ := hrel
    by_cases hlt : k < h2
    · obtain ⟨g, rfl, hg, hc1⟩ := HC.out (k * 2) (by omega)
      obtain ⟨g', hgg, _, hc2⟩ := HC.out (k * 2 + 1) (by omega)
      injection hgg with hgg; injection hgg with hgg; subst hgg
      rw [← HB.out.cell (p := ⟨g, k * 2, none⟩) hg] at hc1
      rw [← HB.out.cell (p := ⟨g, k * 2 + 1, none⟩) hg] at hc2
      have hsz := HB.out.size
      have hts := Rg.rangesOf_take T k (by rw [HN.out]; omega)
      have hml : (Rg.rangesOf (T.take (k * 2))).length = k := by
        have := Rg.rangesOf_len (T.take (k * 2)) (by rw [List.length_take, HN.out]; omega)
        rw [List.length_take, HN.out] at this; omega
      have hx := hT (T[k * 2]?.getD 0) (by rw [List.getElem?_eq_getElem (by rw [HN.out]; omega)]; exact List.getElem_mem _)
      have hy := hT (T[k * 2 + 1]?.getD 0) (by rw [List.getElem?_eq_getElem (by rw [HN.out]; omega)]; exact List.getElem_mem _)
      obtain ⟨x, ex⟩ : ∃ x, T[k * 2]?.getD 0 = x := ⟨_, rfl⟩
      obtain ⟨y, ey⟩ : ∃ y, T[k * 2 + 1]?.getD 0 = y := ⟨_, rfl⟩
      rw [ex] at hc1 hx hts
      rw [ey] at hc2 hy hts
      have HT := Lib.hid hts
      have hown := HO.out
      unfold RgOwn at hown
      rw [hml] at hown
      have HML := Lib.hid hml
      obtain ⟨hx0, hx1⟩ := hx
      obtain ⟨hy0, hy1⟩ := hy
      have hgs : g < wr.heap.size := by omega
      clear ex ey hts hml
      have b1 : (0 : Int) ≤ (k : Int) * 2 := by omega
      have b2 : (k : Int) * 2 < (h2 : Int) * 2 := by omega
      have b3 : (0 : Int) ≤ (k : Int) * 2 + 1 := by omega
      have b4 : (k : Int) * 2 + 1 < (h2 : Int) * 2 := by omega
      have hag : u3.ownBlock ≠ some g := fun e => by have := (hown.lt g e).1; omega
      have HAG := Lib.hid hag
      clear hag
      go_wp2
      have w1 : IntKind.i64.wrap ((k : Int) * 2 + 1) = (k : Int) * 2 + 1 := IntWalk.i64_in _ (by omega)
      have w2 : IntKind.i64.wrap (y - 1) = y - 1 := IntWalk.i64_in _ (by omega)
      have w3 : ((k : Int) * 2).toNat = k * 2 := by omega
      have w4 : ((k : Int) * 2 + 1).toNat = k * 2 + 1 := by omega
      go_region_held3 (fun w' => w'.cell? ⟨g, k * 2, none⟩ = some (.int .i64 x) ∧ w'.cell? ⟨g, k * 2 + 1, none⟩ = some (.int .i64 y))
        (first
          | go_keep
          | (go_split_ands
             refine ⟨?_, ?_⟩
             · (rw [hgrow.cell_far _ (by simp; omega) (Ne.symm HAG.out)]; assumption)
             · (rw [hgrow.cell_far _ (by simp; omega) (Ne.symm HAG.out)]; assumption)))
        ((refine step_append_lies _ (by rfl) _ _ 22 (by rfl) W.heap.size 42 i0 (.agg #[.int .i64 0, .int .i64 0]) 2 16 Tryz.underlying22 hi hz0 hz1 hz2 rfl (by omega) _ k (flat2 (Rg.rangesOf (T.take (k * 2)))) (by rfl) ((hown.alloc _).drew)
            ⟨wr.heap.size, 0, none⟩ 1 1 [.int .i64 x, .int .i64 (y - 1)] (by rfl) (by rfl) (World.news_of_block (cs := #[.int .i64 x, .int .i64 (y - 1)]) (t := 42) (fr := (0, 0)) (heap_alloc_new wr _)) (by simp [Value.oneCell'])
            (by omega) (by unfold maxLen; omega) (by omega) (by simp; omega) (wr.heap.size + 1) (by simp) ?_; intro gg cap1 wz hown1 hgrow hat hlt1))
      have hO2 : RgOwn wz W.heap.size (.slice (some ⟨gg, 0, none⟩) (k + 1) cap1) (Rg.rangesOf (T.take (k * 2 + 2))) := by
        rw [HT.out]; unfold RgOwn; rw [List.length_append, flat2_snoc, HML.out]; exact hown1
      have hB2 := (below_drewN (HB.out.alloc hsz _) 1).grown hgrow (by simp; omega) (fun q hq => (hown.lt q hq).1)
      have HO2 := Lib.hid hO2
      have HB2 := Lib.hid hB2
      clear hO2 hown1 hgrow hown hB2 hat hlt1 w1 w2 w3 w4
      go_wp2
      go_roundw
      case rel => exact ⟨k + 1, by omega, by go_num, by rw [show (k + 1) * 2 = k * 2 + 2 by omega]; exact HO2, HB2⟩
      case measure => simp [intOf]; omega
    · obtain rfl : k = h2 := by omega
      have hO := HO.out
      rw [List.take_of_length_le (by rw [HN.out]; exact Nat.le_refl _)] at hO
      have HO' := Lib.hid hO
      clear hO
      go_wp2
      go_ret
      exact ⟨_, rfl, HO'.out, HB.out⟩
end Go.Proofs.YtimgdooelbhjfaaGreatDoor
