/- The reference's class (burinref04): list, and rows of written numbers. -/
import Derived.Test.YtimgdooelbhjfaaGreatDoorClM
import Derived.Test.YtimgdooelbhjfaaGreatDoorRgI
import Derived.Test.YtimgdooelbhjfaaGreatDoorRgNot
import Derived.IntWalk
import Derived.Deep.RegionHeld3
import Derived.Deep.AppendLies
namespace Go.Proofs.YtimgdooelbhjfaaGreatDoor
open Go.RowKit
set_option linter.unusedVariables false
/-- A block of written numbers reads as their list. -/
theorem irow_lits (W : World) (T : List Int) (n : Nat) (cs : Array Value) (t : TypeId) (hT : T.length = n) (hc : cs = (T.map (Value.int .i64)).toArray) (hn : n ≤ 1000) : IRow (W.alloc (.cells cs t)) (.slice (some ⟨W.heap.size, 0, none⟩) n n) T := by
  subst hc; subst hT
  refine ⟨_, T.length, rfl, Nat.le_refl _, by omega, fun j hj => ⟨W.heap.size, rfl, by simp, ?_⟩⟩
  simp [hj]
set_option maxRecDepth 100000 in
set_option maxHeartbeats 4000000 in
theorem list_any (W : World) (v : Value) (T : List Int) (h : IRow W v T) (hT : ∀ t ∈ T, 0 ≤ t ∧ t ≤ 1114112) (hl : T.length ≤ 1000) :
    Calls Tryz.prog 26 #[v] W fun e w' => ∃ v' out, e = .returned v' ∧ Rg.Made 1 (Cl.pairsOf T) [] out ∧ RgOwn w' W.heap.size v' out ∧ Below W.heap.size W w' := by
  have mixed : Tryz.prog.follows .mixedOrders = true := by kernel_rfl
  obtain ⟨i0, hi, hz0, hz1, hz2⟩ := info_parts Tryz.infoRange
  obtain ⟨a, cap, rfl, hnc, hcm, hc⟩ := h
  have HC := Lib.hid hc
  have HTT := Lib.hid hT
  obtain ⟨n, hn⟩ : ∃ n, T.length = n := ⟨_, rfl⟩
  have HN := Lib.hid hn
  rw [hn] at hl HC hnc ⊢
  obtain ⟨h2, hh⟩ : ∃ h2, n = h2 * 2 ∨ n = h2 * 2 + 1 := ⟨n / 2, by omega⟩
  clear hc hn hT
  go_enter Tryz.func26, Tryz.ntmps26
  go_wp2
  go_loopw [3, 4] (fun V i wr => ∃ k : Nat, k ≤ h2 ∧ i = .int .i64 ((k * 2 : Nat) : Int) ∧ Hid (RgOwn wr W.heap.size V (Cl.pairsOf (T.take (k * 2)))) ∧ Hid (Below W.heap.size W wr)) (fun _ i _ => n + 2 - (intOf i).toNat)
  case atStart => exact ⟨0, Nat.zero_le _, rfl, Lib.hid RgOwn.nil, Lib.hid (Below.refl _ _)⟩
  case round =>
    obtain ⟨k, hk, rfl, HO, HB⟩ := hrel
    by_cases hlt : k < h2
    · obtain ⟨g, rfl, hg, hc1⟩ := HC.out (k * 2) (by omega)
      obtain ⟨g', hgg, _, hc2⟩ := HC.out (k * 2 + 1) (by omega)
      injection hgg with hgg; injection hgg with hgg; subst hgg
      rw [← HB.out.cell (p := ⟨g, k * 2, none⟩) hg] at hc1
      rw [← HB.out.cell (p := ⟨g, k * 2 + 1, none⟩) hg] at hc2
      have hsz := HB.out.size
      have hts := Cl.pairsOf_take T k (by rw [HN.out]; omega)
      have hml : (Cl.pairsOf (T.take (k * 2))).length = k := by
        rw [Cl.pairsOf_len, List.length_take, HN.out]; omega
      obtain ⟨x, ex⟩ : ∃ x, T[k * 2]?.getD 0 = x := ⟨_, rfl⟩
      obtain ⟨y, ey⟩ : ∃ y, T[k * 2 + 1]?.getD 0 = y := ⟨_, rfl⟩
      rw [ex] at hc1 hts
      rw [ey] at hc2 hts
      have HT := Lib.hid hts
      have hown := HO.out
      unfold RgOwn at hown
      rw [hml] at hown
      have HML := Lib.hid hml
      have hgs : g < wr.heap.size := by omega
      clear ex ey hts hml
      have b1 : (0 : Int) ≤ (k : Int) * 2 := by omega
      have b2 : (k : Int) * 2 < (n : Int) := by omega
      have b3 : (0 : Int) ≤ (k : Int) * 2 + 1 := by omega
      have b4 : (k : Int) * 2 + 1 < (n : Int) := by omega
      have b5 : k * 2 < n := by omega
      have b6 : k * 2 + 1 < n := by omega
      have hag : u3.ownBlock ≠ some g := fun e => by have := (hown.lt g e).1; omega
      have HAG := Lib.hid hag
      clear hag hh
      go_wp2
      have w1 : IntKind.i64.wrap ((k : Int) * 2 + 1) = (k : Int) * 2 + 1 := IntWalk.i64_in _ (by omega)
      have w3 : ((k : Int) * 2).toNat = k * 2 := by omega
      have w4 : ((k : Int) * 2 + 1).toNat = k * 2 + 1 := by omega
      go_region_held3 (fun w' => w'.cell? ⟨g, k * 2, none⟩ = some (.int .i64 x) ∧ w'.cell? ⟨g, k * 2 + 1, none⟩ = some (.int .i64 y))
        (first
          | go_keep
          | (go_split_ands
             refine ⟨?_, ?_⟩
             · (rw [hgrow.cell_far _ (by simp; omega) (Ne.symm HAG.out)]; assumption)
             · (rw [hgrow.cell_far _ (by simp; omega) (Ne.symm HAG.out)]; assumption)))
        ((refine step_append_lies _ (by rfl) _ _ 22 (by rfl) W.heap.size 42 i0 (.agg #[.int .i64 0, .int .i64 0]) 2 16 Tryz.underlying22 hi hz0 hz1 hz2 rfl (by omega) _ k (flat2 (Cl.pairsOf (T.take (k * 2)))) (by rfl) ((hown.alloc _).drew)
            ⟨wr.heap.size, 0, none⟩ 1 1 [.int .i64 x, .int .i64 y] (by rfl) (by rfl) (World.news_of_block (cs := #[.int .i64 x, .int .i64 y]) (t := 42) (fr := (0, 0)) (heap_alloc_new wr _)) (by simp [Value.oneCell'])
            (by omega) (by unfold maxLen; omega) (by omega) (by simp; omega) (wr.heap.size + 1) (by simp) ?_; intro gg cap1 wz hown1 hgrow hat hlt1))
      have hO2 : RgOwn wz W.heap.size (.slice (some ⟨gg, 0, none⟩) (k + 1) cap1) (Cl.pairsOf (T.take (k * 2 + 2))) := by
        rw [HT.out]; unfold RgOwn; rw [List.length_append, flat2_snoc, HML.out]; exact hown1
      have hB2 := (below_drewN (HB.out.alloc hsz _) 1).grown hgrow (by simp; omega) (fun q hq => (hown.lt q hq).1)
      have HO2 := Lib.hid hO2
      have HB2 := Lib.hid hB2
      clear hO2 hown1 hgrow hown hB2 hat hlt1 w1 w3 w4
      go_wp2
      go_roundw
      case rel => exact ⟨k + 1, by omega, by go_num, by rw [show (k + 1) * 2 = k * 2 + 2 by omega]; exact HO2, HB2⟩
      case measure => simp [intOf]; omega
    · obtain rfl : k = h2 := by omega
      have hO := HO.out
      rw [Cl.pairsOf_all T k (by rw [HN.out]; exact hh)] at hO
      have hpl := Cl.pairsOf_len T
      rw [HN.out] at hpl
      have HR := Lib.hid (hO.row (by omega) (fun p hp => by
        have hm := Cl.pairsOf_mem T p hp
        have h1 := HTT.out _ hm.1
        have h2 := HTT.out _ hm.2
        omega))
      have c1 : ¬ (k : Int) * 2 + 1 < (n : Int) := by omega
      have c2 : k ≤ 500 := by omega
      clear hO hh
      go_wp2_with fail
      refine (refNorm _ _ _ HR.out).mono ?_
      rintro e w5 ⟨v5, out, rfl, hm5, ho5, hb5⟩
      have HM5 := Lib.hid hm5
      have HO5 := Lib.hid (ho5.lower HB.out.size)
      have HE5 := Lib.hid (HB.out.trans (hb5.mono HB.out.size))
      clear hm5 ho5 hb5
      go_wp2
      go_ret
      exact ⟨v5, out, rfl, HM5.out, HO5.out, HE5.out⟩
end Go.Proofs.YtimgdooelbhjfaaGreatDoor
