/- The laws' own example (burinlaw02.works). -/
import Derived.Test.YtimllajokjebeaaRnU
import Derived.Test.YtimllajokjebeaaRgF
namespace Go.Proofs.Ytimllajokjebeaa
open Go.RowKit
set_option linter.unusedVariables false
theorem listOf_ex {out : List (Int × Int)} (h : Rg.ListOf [(8, 9), (5, 7)] out) : out = [(5, 9)] := by
  refine Rg.made_unique h ⟨⟨by decide, by decide, by decide, trivial⟩, fun q h0 h1 => ?_⟩
  rw [Bool.eq_iff_iff]
  simp [Rg.hasB, Rg.opB]
  omega
theorem listOf_five {out : List (Int × Int)} (h : Rg.ListOf [(5, 9)] out) : out = [(5, 9)] := by
  refine Rg.made_unique h ⟨⟨by decide, by decide, by decide, trivial⟩, fun q h0 h1 => ?_⟩
  rw [Bool.eq_iff_iff]
  simp [Rg.hasB, Rg.opB]
theorem made_ten {out : List (Int × Int)} (h : Rg.Made 3 [(0, 1114111)] [(0, 9)] out) : out = [(10, 1114111)] := by
  refine Rg.made_unique h ⟨⟨by decide, by decide, by decide, trivial⟩, fun q h0 h1 => ?_⟩
  rw [Bool.eq_iff_iff]
  simp [Rg.hasB, Rg.opB]
  omega
theorem RgOwn.one {W : World} {base : Nat} {v : Value} {x y : Int} (h : RgOwn W base v [(x, y)]) : ∃ g cap, v = .slice (some ⟨g, 0, none⟩) 1 cap ∧ base ≤ g ∧ g < W.heap.size ∧ W.cell? ⟨g, 0, none⟩ = some (.int .i64 x) ∧ W.cell? ⟨g, 1, none⟩ = some (.int .i64 y) := by
  obtain ⟨g, cap, rfl, hb, hg⟩ := RgOwn.form (l := []) (p := (x, y)) h
  exact ⟨g, cap, rfl, hb, hg, World.ownsRow.cellAt h 0 (by decide), World.ownsRow.cellAt h 1 (by decide)⟩
theorem rrow_two (W : World) (t : TypeId) : RRow (W.alloc (.cells #[.int .i64 8, .int .i64 9, .int .i64 5, .int .i64 7] t)) (.slice (some ⟨W.heap.size, 0, none⟩) 2 2) [(8, 9), (5, 7)] :=
  ⟨_, 2, rfl, by simp, (fun p hp => by simp at hp; rcases hp with rfl | rfl <;> decide), fun j hj => by
    have hj2 : j < 2 := by simpa using hj
    match j, hj2 with
    | 0, _ => exact ⟨W.heap.size, 0, rfl, by simp, by simp, by simp⟩
    | 1, _ => exact ⟨W.heap.size, 0, rfl, by simp, by simp, by simp⟩⟩
set_option maxRecDepth 100000 in
set_option maxHeartbeats 2000000 in
theorem works_any (W : World) : Calls Try.prog 8 #[] W fun e w' => e = .returned (.bool true) ∧ Below W.heap.size W w' := by
  have HB0 := Lib.hid ((Below.refl W.heap.size W).alloc (Nat.le_refl _) (.cells #[.int .i64 8, .int .i64 9, .int .i64 5, .int .i64 7] 36))
  go_enter Try.func8, Try.ntmps8
  go_wp2_with fail
  refine (norm_any _ _ _ (rrow_two W 36)).mono ?_
  rintro e w1 ⟨v1, out, rfl, hm, ho, hb⟩
  obtain rfl := listOf_ex hm
  have HO1 := Lib.hid ho
  have HB1 := Lib.hid (HB0.out.trans (hb.mono HB0.out.size))
  have hz1 := HB1.out.size
  clear hm ho hb
  have HBa := Lib.hid ((Below.refl w1.heap.size w1).alloc (Nat.le_refl _) (.cells #[.int .i64 0, .int .i64 9] 36))
  go_wp2_with fail
  refine (not_any _ _ _ (rrow_one w1 0 9 (by decide) (by decide) 36)).mono ?_
  rintro e w2 ⟨v2, out, rfl, hm, ho, hb⟩
  obtain rfl := made_ten hm
  have HB2 := Lib.hid (HBa.out.trans (hb.mono HBa.out.size))
  have HO1' := Lib.hid ((HO1.out.below HB2.out).row (by simp) (fun p hp => by simp at hp; subst hp; decide))
  have HO1'' := Lib.hid (HO1.out.below HB2.out)
  obtain ⟨g1, c1, rfl, hg1, hg2, hc1, hc2⟩ := HO1''.out.one
  obtain ⟨g2, c2, rfl, hk1, hk2, hd1, hd2⟩ := ho.one
  have hz2 := HB2.out.size
  have HBB := Lib.hid (HB1.out.trans (HB2.out.mono hz1))
  clear hm hb ho
  go_wp2_with fail
  refine (count_any _ _ _ HO1'.out).mono ?_
  rintro e w3 ⟨out, hm, rfl, hb⟩
  obtain rfl := listOf_five hm
  rw [show Rg.sumL [(5, 9)] = 5 from by decide]
  have HB3 := Lib.hid (HBB.out.trans (hb.mono HBB.out.size))
  have HR3 := Lib.hid (HO1'.out.below (Nat.le_refl _) hb)
  clear hm hb
  go_wp2_with fail
  refine (has_any _ _ _ 7 HR3.out).mono ?_
  rintro e w4 ⟨rfl, hb⟩
  rw [show Rg.hasB [(5, 9)] 7 = true from by decide]
  have HB4 := Lib.hid (HB3.out.trans (hb.mono HB3.out.size))
  clear hb
  go_wp2
  go_ret
  exact ⟨rfl, HB4.out⟩
end Go.Proofs.Ytimllajokjebeaa
