/- The reference's fold (burinref03): the contracts of Pairs and with. -/
import Derived.Test.YtbccaljfofnepaaRf3A
namespace Go.Proofs.Ytbccaljfofnepaa
open Go.RowKit
set_option linter.unusedVariables false
theorem flat2_append (a b : List (Int × Int)) : flat2 (a ++ b) = flat2 a ++ flat2 b := List.flatMap_append
set_option maxRecDepth 100000 in
set_option maxHeartbeats 4000000 in
theorem pairs_any (W : World) : Calls Try.prog 30 #[] W fun e w' => ∃ v, e = .returned v ∧ RRow w' v Fd.pairsL ∧ Below W.heap.size W w' := by
  obtain ⟨i0, hi0, hz0, hz1, hz2⟩ := info_parts Try.infoPair
  go_enter Try.func30, Try.ntmps30
  go_wp2_with fail
  refine (span_any _ 65 90 32 26 (by decide) (by decide) (by decide) (by decide) (by decide) (by decide)).mono ?_
  rintro e w1 ⟨v1, rfl, ho, hb⟩
  have hown : w1.ownsRow W.heap.size 48 2 v1 26 (flat2 (Fd.spanL 65 32 26)) := ho
  have O1 := Lib.hid hown
  have B1 := Lib.hid hb
  clear hown ho hb
  go_wp2_with fail
  refine (span_any _ 192 214 32 23 (by decide) (by decide) (by decide) (by decide) (by decide) (by decide)).mono ?_
  rintro e x1 ⟨s1, rfl, ho, hb⟩
  have hsz1 := B1.out.size
  obtain ⟨g1, c1, rfl, hgb, hgs, hnews⟩ := ho.some (by rw [Fd.spanL_len]; decide)
  rw [Fd.spanL_len]
  have hown : x1.ownsRow W.heap.size 48 2 v1 26 (flat2 (Fd.spanL 65 32 26)) := World.ownsRow.kept O1.out ⟨hb.os, hb.tape, hb.output, hb.size, fun k hk _ => hb.block k hk⟩ (row := none) (by cases hv : (v1).ownBlock <;> simp)
  have hsx := hb.size
  have BX := Lib.hid (B1.out.trans (hb.mono B1.out.size))
  have HN := Lib.hid hnews
  have HO := Lib.hid hown
  clear hnews hown ho hb
  go_wp2_with (at_builtin; (refine wpList_append_own _ (by rfl) _ _ 45 (by rfl) W.heap.size 48 i0 (.agg #[.int .i64 0, .int .i64 0]) 2 16 Try.underlying45 hi0 hz0 hz1 hz2 rfl (by decide) _ 26 (flat2 (Fd.spanL 65 32 26)) (by rfl) HO.out ⟨g1, 0, none⟩ 23 c1 (flat2 (Fd.spanL 192 32 23)) (by rfl) (by rw [flat2_len, Fd.spanL_len]) HN.out (flat2_one _) (by decide) (by decide) (by omega) ?_))
  intro v2 w2 hown1 hgrow _
  rw [← flat2_append] at hown1
  have O2 : Hid (w2.ownsRow W.heap.size 48 2 v2 49 (flat2 (Fd.spanL 65 32 26 ++ Fd.spanL 192 32 23))) := Lib.hid hown1
  have B2 := Lib.hid (BX.out.grown hgrow (by omega) (fun q hq => (HO.out.lt q hq).1))
  clear hown1 hgrow HO HN BX hgb hgs hsx
  go_wp2_with fail
  refine (span_any _ 216 222 32 7 (by decide) (by decide) (by decide) (by decide) (by decide) (by decide)).mono ?_
  rintro e x2 ⟨s2, rfl, ho, hb⟩
  have hsz2 := B2.out.size
  obtain ⟨g2, c2, rfl, hgb, hgs, hnews⟩ := ho.some (by rw [Fd.spanL_len]; decide)
  rw [Fd.spanL_len]
  have hown : x2.ownsRow W.heap.size 48 2 v2 49 (flat2 (Fd.spanL 65 32 26 ++ Fd.spanL 192 32 23)) := World.ownsRow.kept O2.out ⟨hb.os, hb.tape, hb.output, hb.size, fun k hk _ => hb.block k hk⟩ (row := none) (by cases hv : (v2).ownBlock <;> simp)
  have hsx := hb.size
  have BX := Lib.hid (B2.out.trans (hb.mono B2.out.size))
  have HN := Lib.hid hnews
  have HO := Lib.hid hown
  clear hnews hown ho hb
  go_wp2_with (at_builtin; (refine wpList_append_own _ (by rfl) _ _ 45 (by rfl) W.heap.size 48 i0 (.agg #[.int .i64 0, .int .i64 0]) 2 16 Try.underlying45 hi0 hz0 hz1 hz2 rfl (by decide) _ 49 (flat2 (Fd.spanL 65 32 26 ++ Fd.spanL 192 32 23)) (by rfl) HO.out ⟨g2, 0, none⟩ 7 c2 (flat2 (Fd.spanL 216 32 7)) (by rfl) (by rw [flat2_len, Fd.spanL_len]) HN.out (flat2_one _) (by decide) (by decide) (by omega) ?_))
  intro v3 w3 hown1 hgrow _
  rw [← flat2_append] at hown1
  have O3 : Hid (w3.ownsRow W.heap.size 48 2 v3 56 (flat2 (Fd.spanL 65 32 26 ++ Fd.spanL 192 32 23 ++ Fd.spanL 216 32 7))) := Lib.hid hown1
  have B3 := Lib.hid (BX.out.grown hgrow (by omega) (fun q hq => (HO.out.lt q hq).1))
  clear hown1 hgrow HO HN BX hgb hgs hsx
  go_wp2_with fail
  refine (span_any _ 913 929 32 17 (by decide) (by decide) (by decide) (by decide) (by decide) (by decide)).mono ?_
  rintro e x3 ⟨s3, rfl, ho, hb⟩
  have hsz3 := B3.out.size
  obtain ⟨g3, c3, rfl, hgb, hgs, hnews⟩ := ho.some (by rw [Fd.spanL_len]; decide)
  rw [Fd.spanL_len]
  have hown : x3.ownsRow W.heap.size 48 2 v3 56 (flat2 (Fd.spanL 65 32 26 ++ Fd.spanL 192 32 23 ++ Fd.spanL 216 32 7)) := World.ownsRow.kept O3.out ⟨hb.os, hb.tape, hb.output, hb.size, fun k hk _ => hb.block k hk⟩ (row := none) (by cases hv : (v3).ownBlock <;> simp)
  have hsx := hb.size
  have BX := Lib.hid (B3.out.trans (hb.mono B3.out.size))
  have HN := Lib.hid hnews
  have HO := Lib.hid hown
  clear hnews hown ho hb
  go_wp2_with (at_builtin; (refine wpList_append_own _ (by rfl) _ _ 45 (by rfl) W.heap.size 48 i0 (.agg #[.int .i64 0, .int .i64 0]) 2 16 Try.underlying45 hi0 hz0 hz1 hz2 rfl (by decide) _ 56 (flat2 (Fd.spanL 65 32 26 ++ Fd.spanL 192 32 23 ++ Fd.spanL 216 32 7)) (by rfl) HO.out ⟨g3, 0, none⟩ 17 c3 (flat2 (Fd.spanL 913 32 17)) (by rfl) (by rw [flat2_len, Fd.spanL_len]) HN.out (flat2_one _) (by decide) (by decide) (by omega) ?_))
  intro v4 w4 hown1 hgrow _
  rw [← flat2_append] at hown1
  have O4 : Hid (w4.ownsRow W.heap.size 48 2 v4 73 (flat2 (Fd.spanL 65 32 26 ++ Fd.spanL 192 32 23 ++ Fd.spanL 216 32 7 ++ Fd.spanL 913 32 17))) := Lib.hid hown1
  have B4 := Lib.hid (BX.out.grown hgrow (by omega) (fun q hq => (HO.out.lt q hq).1))
  clear hown1 hgrow HO HN BX hgb hgs hsx
  go_wp2_with fail
  refine (span_any _ 931 939 32 9 (by decide) (by decide) (by decide) (by decide) (by decide) (by decide)).mono ?_
  rintro e x4 ⟨s4, rfl, ho, hb⟩
  have hsz4 := B4.out.size
  obtain ⟨g4, c4, rfl, hgb, hgs, hnews⟩ := ho.some (by rw [Fd.spanL_len]; decide)
  rw [Fd.spanL_len]
  have hown : x4.ownsRow W.heap.size 48 2 v4 73 (flat2 (Fd.spanL 65 32 26 ++ Fd.spanL 192 32 23 ++ Fd.spanL 216 32 7 ++ Fd.spanL 913 32 17)) := World.ownsRow.kept O4.out ⟨hb.os, hb.tape, hb.output, hb.size, fun k hk _ => hb.block k hk⟩ (row := none) (by cases hv : (v4).ownBlock <;> simp)
  have hsx := hb.size
  have BX := Lib.hid (B4.out.trans (hb.mono B4.out.size))
  have HN := Lib.hid hnews
  have HO := Lib.hid hown
  clear hnews hown ho hb
  go_wp2_with (at_builtin; (refine wpList_append_own _ (by rfl) _ _ 45 (by rfl) W.heap.size 48 i0 (.agg #[.int .i64 0, .int .i64 0]) 2 16 Try.underlying45 hi0 hz0 hz1 hz2 rfl (by decide) _ 73 (flat2 (Fd.spanL 65 32 26 ++ Fd.spanL 192 32 23 ++ Fd.spanL 216 32 7 ++ Fd.spanL 913 32 17)) (by rfl) HO.out ⟨g4, 0, none⟩ 9 c4 (flat2 (Fd.spanL 931 32 9)) (by rfl) (by rw [flat2_len, Fd.spanL_len]) HN.out (flat2_one _) (by decide) (by decide) (by omega) ?_))
  intro v5 w5 hown1 hgrow _
  rw [← flat2_append] at hown1
  have O5 : Hid (w5.ownsRow W.heap.size 48 2 v5 82 (flat2 (Fd.spanL 65 32 26 ++ Fd.spanL 192 32 23 ++ Fd.spanL 216 32 7 ++ Fd.spanL 913 32 17 ++ Fd.spanL 931 32 9))) := Lib.hid hown1
  have B5 := Lib.hid (BX.out.grown hgrow (by omega) (fun q hq => (HO.out.lt q hq).1))
  clear hown1 hgrow HO HN BX hgb hgs hsx
  go_wp2_with fail
  refine (span_any _ 1040 1071 32 32 (by decide) (by decide) (by decide) (by decide) (by decide) (by decide)).mono ?_
  rintro e x5 ⟨s5, rfl, ho, hb⟩
  have hsz5 := B5.out.size
  obtain ⟨g5, c5, rfl, hgb, hgs, hnews⟩ := ho.some (by rw [Fd.spanL_len]; decide)
  rw [Fd.spanL_len]
  have hown : x5.ownsRow W.heap.size 48 2 v5 82 (flat2 (Fd.spanL 65 32 26 ++ Fd.spanL 192 32 23 ++ Fd.spanL 216 32 7 ++ Fd.spanL 913 32 17 ++ Fd.spanL 931 32 9)) := World.ownsRow.kept O5.out ⟨hb.os, hb.tape, hb.output, hb.size, fun k hk _ => hb.block k hk⟩ (row := none) (by cases hv : (v5).ownBlock <;> simp)
  have hsx := hb.size
  have BX := Lib.hid (B5.out.trans (hb.mono B5.out.size))
  have HN := Lib.hid hnews
  have HO := Lib.hid hown
  clear hnews hown ho hb
  go_wp2_with (at_builtin; (refine wpList_append_own _ (by rfl) _ _ 45 (by rfl) W.heap.size 48 i0 (.agg #[.int .i64 0, .int .i64 0]) 2 16 Try.underlying45 hi0 hz0 hz1 hz2 rfl (by decide) _ 82 (flat2 (Fd.spanL 65 32 26 ++ Fd.spanL 192 32 23 ++ Fd.spanL 216 32 7 ++ Fd.spanL 913 32 17 ++ Fd.spanL 931 32 9)) (by rfl) HO.out ⟨g5, 0, none⟩ 32 c5 (flat2 (Fd.spanL 1040 32 32)) (by rfl) (by rw [flat2_len, Fd.spanL_len]) HN.out (flat2_one _) (by decide) (by decide) (by omega) ?_))
  intro v6 w6 hown1 hgrow _
  rw [← flat2_append] at hown1
  have O6 : Hid (w6.ownsRow W.heap.size 48 2 v6 114 (flat2 (Fd.spanL 65 32 26 ++ Fd.spanL 192 32 23 ++ Fd.spanL 216 32 7 ++ Fd.spanL 913 32 17 ++ Fd.spanL 931 32 9 ++ Fd.spanL 1040 32 32))) := Lib.hid hown1
  have B6 := Lib.hid (BX.out.grown hgrow (by omega) (fun q hq => (HO.out.lt q hq).1))
  clear hown1 hgrow HO HN BX hgb hgs hsx
  go_wp2_with fail
  refine (span_any _ 1024 1039 80 16 (by decide) (by decide) (by decide) (by decide) (by decide) (by decide)).mono ?_
  rintro e x6 ⟨s6, rfl, ho, hb⟩
  have hsz6 := B6.out.size
  obtain ⟨g6, c6, rfl, hgb, hgs, hnews⟩ := ho.some (by rw [Fd.spanL_len]; decide)
  rw [Fd.spanL_len]
  have hown : x6.ownsRow W.heap.size 48 2 v6 114 (flat2 (Fd.spanL 65 32 26 ++ Fd.spanL 192 32 23 ++ Fd.spanL 216 32 7 ++ Fd.spanL 913 32 17 ++ Fd.spanL 931 32 9 ++ Fd.spanL 1040 32 32)) := World.ownsRow.kept O6.out ⟨hb.os, hb.tape, hb.output, hb.size, fun k hk _ => hb.block k hk⟩ (row := none) (by cases hv : (v6).ownBlock <;> simp)
  have hsx := hb.size
  have BX := Lib.hid (B6.out.trans (hb.mono B6.out.size))
  have HN := Lib.hid hnews
  have HO := Lib.hid hown
  clear hnews hown ho hb
  go_wp2_with (at_builtin; (refine wpList_append_own _ (by rfl) _ _ 45 (by rfl) W.heap.size 48 i0 (.agg #[.int .i64 0, .int .i64 0]) 2 16 Try.underlying45 hi0 hz0 hz1 hz2 rfl (by decide) _ 114 (flat2 (Fd.spanL 65 32 26 ++ Fd.spanL 192 32 23 ++ Fd.spanL 216 32 7 ++ Fd.spanL 913 32 17 ++ Fd.spanL 931 32 9 ++ Fd.spanL 1040 32 32)) (by rfl) HO.out ⟨g6, 0, none⟩ 16 c6 (flat2 (Fd.spanL 1024 80 16)) (by rfl) (by rw [flat2_len, Fd.spanL_len]) HN.out (flat2_one _) (by decide) (by decide) (by omega) ?_))
  intro v7 w7 hown1 hgrow _
  rw [← flat2_append] at hown1
  have O7 : Hid (w7.ownsRow W.heap.size 48 2 v7 130 (flat2 (Fd.spanL 65 32 26 ++ Fd.spanL 192 32 23 ++ Fd.spanL 216 32 7 ++ Fd.spanL 913 32 17 ++ Fd.spanL 931 32 9 ++ Fd.spanL 1040 32 32 ++ Fd.spanL 1024 80 16))) := Lib.hid hown1
  have B7 := Lib.hid (BX.out.grown hgrow (by omega) (fun q hq => (HO.out.lt q hq).1))
  clear hown1 hgrow HO HN BX hgb hgs hsx
  have hown := O7.out
  have hsz7 := B7.out.size
  go_wp2_with (at_builtin; (refine wpList_append_own _ (by rfl) _ _ 45 (by rfl) W.heap.size 48 i0 (.agg #[.int .i64 0, .int .i64 0]) 2 16 Try.underlying45 hi0 hz0 hz1 hz2 rfl (by decide) _ 130 (flat2 (Fd.spanL 65 32 26 ++ Fd.spanL 192 32 23 ++ Fd.spanL 216 32 7 ++ Fd.spanL 913 32 17 ++ Fd.spanL 931 32 9 ++ Fd.spanL 1040 32 32 ++ Fd.spanL 1024 80 16)) (by rfl) (hown.alloc _) ⟨w7.heap.size, 0, none⟩ 7 7 (flat2 Fd.lastP) (by rfl) (by decide) (World.news_of_block (cs := #[.int .i64 376, .int .i64 255, .int .i64 924, .int .i64 181, .int .i64 931, .int .i64 962, .int .i64 75, .int .i64 8490, .int .i64 197, .int .i64 8491, .int .i64 83, .int .i64 383, .int .i64 937, .int .i64 8486]) (heap_alloc_new w7 _)) (flat2_one _) (by decide) (by decide) (by simp; omega) ?_))
  intro v8 w8 hown1 hgrow _
  rw [← flat2_append] at hown1
  have hp : POwn w8 W.heap.size v8 Fd.pairsL := by unfold POwn; rw [Fd.pairs_len]; exact hown1
  have hB := (B7.out.alloc hsz7 _).grown hgrow (by simp; omega) (fun q hq => (hown.lt q hq).1)
  have HP := Lib.hid (hp.row (by rw [Fd.pairs_len]; decide) (fun p hp => by have := Fd.pairs_bd p hp; omega))
  have HB := Lib.hid hB
  clear hp hown1 hgrow hB hown
  go_wp2
  go_ret
  exact ⟨_, rfl, HP.out, HB.out⟩
end Go.Proofs.Ytbccaljfofnepaa
