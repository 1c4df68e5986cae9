/- The reference's fold (burinref03): the contracts of Pairs and with. · The reference's fold (burinref03): the contract of with. -/
import Derived.Test.YtmdpchiiamgnnaaGreatDoorGp30
import Derived.Test.YtmdpchiiamgnnaaGreatDoorGp19
namespace Go.Proofs.YtmdpchiiamgnnaaGreatDoor
open Go.RowKit
set_option linter.unusedVariables false
theorem flat2_append (a b : List (Int × Int)) : flat2 (a ++ b) = flat2 a ++ flat2 b := List.flatMap_append
set_option maxRecDepth 100000 in
set_option maxHeartbeats 4000000 in
theorem rpairs_any (W : World) : Calls Tryz.prog 51 #[] W fun e w' => ∃ v, e = .returned v ∧ RRow w' v Fd.pairsL ∧ Below W.heap.size W w' := by
  obtain ⟨i0, hi0, hz0, hz1, hz2⟩ := info_parts Tryz.infoPair
  go_enter Tryz.func51, Tryz.ntmps51
  go_wp2_with fail
  refine (span_any _ 65 90 32 26 (by decide) (by decide) (by decide) (by decide) (by decide) (by decide)).mono ?_
  rintro e w1 ⟨v1, rfl, ho, hb⟩
  have hown : w1.ownsRow W.heap.size 72 2 v1 26 (flat2 (Fd.spanL 65 32 26)) := ho
  have O1 := Lib.hid hown
  have B1 := Lib.hid hb
  clear hown ho hb
  go_wp2_with fail
  refine (span_any _ 192 214 32 23 (by decide) (by decide) (by decide) (by decide) (by decide) (by decide)).mono ?_
  rintro e x1 ⟨s1, rfl, ho, hb⟩
  have hsz1 := B1.out.size
  obtain ⟨g1, c1, rfl, hgb, hgs, hnews⟩ := ho.some (by rw [Fd.spanL_len]; decide)
  rw [Fd.spanL_len]
  have hown : x1.ownsRow W.heap.size 72 2 v1 26 (flat2 (Fd.spanL 65 32 26)) := World.ownsRow.kept O1.out ⟨hb.os, hb.tape, hb.output, hb.size, fun k hk _ => hb.block k hk⟩ (row := none) (by cases hv : (v1).ownBlock <;> simp)
  have hsx := hb.size
  have BX := Lib.hid (B1.out.trans (hb.mono B1.out.size))
  have HN := Lib.hid hnews
  have HO := Lib.hid hown
  clear hnews hown ho hb
  go_wp2_with (at_builtin; (refine wpList_append_own _ (by rfl) _ _ 69 (by rfl) W.heap.size 72 i0 (.agg #[.int .i64 0, .int .i64 0]) 2 16 Tryz.underlying69 hi0 hz0 hz1 hz2 rfl (by decide) _ 26 (flat2 (Fd.spanL 65 32 26)) (by rfl) HO.out ⟨g1, 0, none⟩ 23 c1 (flat2 (Fd.spanL 192 32 23)) (by rfl) (by rw [flat2_len, Fd.spanL_len]) HN.out (flat2_one _) (by decide) (by decide) (by omega) ?_))
  intro v2 w2 hown1 hgrow _
  rw [← flat2_append] at hown1
  have O2 : Hid (w2.ownsRow W.heap.size 72 2 v2 49 (flat2 (Fd.spanL 65 32 26 ++ Fd.spanL 192 32 23))) := Lib.hid hown1
  have B2 := Lib.hid (BX.out.grown hgrow (by omega) (fun q hq => (HO.out.lt q hq).1))
  clear hown1 hgrow HO HN BX hgb hgs hsx
  go_wp2_with fail
  refine (span_any _ 216 222 32 7 (by decide) (by decide) (by decide) (by decide) (by decide) (by decide)).mono ?_
  rintro e x2 ⟨s2, rfl, ho, hb⟩
  have hsz2 := B2.out.size
  obtain ⟨g2, c2, rfl, hgb, hgs, hnews⟩ := ho.some (by rw [Fd.spanL_len]; decide)
  rw [Fd.spanL_len]
  have hown : x2.ownsRow W.heap.size 72 2 v2 49 (flat2 (Fd.spanL 65 32 26 ++ Fd.spanL 192 32 23)) := World.ownsRow.kept O2.out ⟨hb.os, hb.tape, hb.output, hb.size, fun k hk _ => hb.block k hk⟩ (row := none) (by cases hv : (v2).ownBlock <;> simp)
  have hsx := hb.size
  have BX := Lib.hid (B2.out.trans (hb.mono B2.out.size))
  have HN := Lib.hid hnews
  have HO := Lib.hid hown
  clear hnews hown ho hb
  go_wp2_with (at_builtin; (refine wpList_append_own _ (by rfl) _ _ 69 (by rfl) W.heap.size 72 i0 (.agg #[.int .i64 0, .int .i64 0]) 2 16 Tryz.underlying69 hi0 hz0 hz1 hz2 rfl (by decide) _ 49 (flat2 (Fd.spanL 65 32 26 ++ Fd.spanL 192 32 23)) (by rfl) HO.out ⟨g2, 0, none⟩ 7 c2 (flat2 (Fd.spanL 216 32 7)) (by rfl) (by rw [flat2_len, Fd.spanL_len]) HN.out (flat2_one _) (by decide) (by decide) (by omega) ?_))
  intro v3 w3 hown1 hgrow _
  rw [← flat2_append] at hown1
  have O3 : Hid (w3.ownsRow W.heap.size 72 2 v3 56 (flat2 (Fd.spanL 65 32 26 ++ Fd.spanL 192 32 23 ++ Fd.spanL 216 32 7))) := Lib.hid hown1
  have B3 := Lib.hid (BX.out.grown hgrow (by omega) (fun q hq => (HO.out.lt q hq).1))
  clear hown1 hgrow HO HN BX hgb hgs hsx
  go_wp2_with fail
  refine (span_any _ 913 929 32 17 (by decide) (by decide) (by decide) (by decide) (by decide) (by decide)).mono ?_
  rintro e x3 ⟨s3, rfl, ho, hb⟩
  have hsz3 := B3.out.size
  obtain ⟨g3, c3, rfl, hgb, hgs, hnews⟩ := ho.some (by rw [Fd.spanL_len]; decide)
  rw [Fd.spanL_len]
  have hown : x3.ownsRow W.heap.size 72 2 v3 56 (flat2 (Fd.spanL 65 32 26 ++ Fd.spanL 192 32 23 ++ Fd.spanL 216 32 7)) := World.ownsRow.kept O3.out ⟨hb.os, hb.tape, hb.output, hb.size, fun k hk _ => hb.block k hk⟩ (row := none) (by cases hv : (v3).ownBlock <;> simp)
  have hsx := hb.size
  have BX := Lib.hid (B3.out.trans (hb.mono B3.out.size))
  have HN := Lib.hid hnews
  have HO := Lib.hid hown
  clear hnews hown ho hb
  go_wp2_with (at_builtin; (refine wpList_append_own _ (by rfl) _ _ 69 (by rfl) W.heap.size 72 i0 (.agg #[.int .i64 0, .int .i64 0]) 2 16 Tryz.underlying69 hi0 hz0 hz1 hz2 rfl (by decide) _ 56 (flat2 (Fd.spanL 65 32 26 ++ Fd.spanL 192 32 23 ++ Fd.spanL 216 32 7)) (by rfl) HO.out ⟨g3, 0, none⟩ 17 c3 (flat2 (Fd.spanL 913 32 17)) (by rfl) (by rw [flat2_len, Fd.spanL_len]) HN.out (flat2_one _) (by decide) (by decide) (by omega) ?_))
  intro v4 w4 hown1 hgrow _
  rw [← flat2_append] at hown1
  have O4 : Hid (w4.ownsRow W.heap.size 72 2 v4 73 (flat2 (Fd.spanL 65 32 26 ++ Fd.spanL 192 32 23 ++ Fd.spanL 216 32 7 ++ Fd.spanL 913 32 17))) := Lib.hid hown1
  have B4 := Lib.hid (BX.out.grown hgrow (by omega) (fun q hq => (HO.out.lt q hq).1))
  clear hown1 hgrow HO HN BX hgb hgs hsx
  go_wp2_with fail
  refine (span_any _ 931 939 32 9 (by decide) (by decide) (by decide) (by decide) (by decide) (by decide)).mono ?_
  rintro e x4 ⟨s4, rfl, ho, hb⟩
  have hsz4 := B4.out.size
  obtain ⟨g4, c4, rfl, hgb, hgs, hnews⟩ := ho.some (by rw [Fd.spanL_len]; decide)
  rw [Fd.spanL_len]
  have hown : x4.ownsRow W.heap.size 72 2 v4 73 (flat2 (Fd.spanL 65 32 26 ++ Fd.spanL 192 32 23 ++ Fd.spanL 216 32 7 ++ Fd.spanL 913 32 17)) := World.ownsRow.kept O4.out ⟨hb.os, hb.tape, hb.output, hb.size, fun k hk _ => hb.block k hk⟩ (row := none) (by cases hv : (v4).ownBlock <;> simp)
  have hsx := hb.size
  have BX := Lib.hid (B4.out.trans (hb.mono B4.out.size))
  have HN := Lib.hid hnews
  have HO := Lib.hid hown
  clear hnews hown ho hb
  go_wp2_with (at_builtin; (refine wpList_append_own _ (by rfl) _ _ 69 (by rfl) W.heap.size 72 i0 (.agg #[.int .i64 0, .int .i64 0]) 2 16 Tryz.underlying69 hi0 hz0 hz1 hz2 rfl (by decide) _ 73 (flat2 (Fd.spanL 65 32 26 ++ Fd.spanL 192 32 23 ++ Fd.spanL 216 32 7 ++ Fd.spanL 913 32 17)) (by rfl) HO.out ⟨g4, 0, none⟩ 9 c4 (flat2 (Fd.spanL 931 32 9)) (by rfl) (by rw [flat2_len, Fd.spanL_len]) HN.out (flat2_one _) (by decide) (by decide) (by omega) ?_))
  intro v5 w5 hown1 hgrow _
  rw [← flat2_append] at hown1
  have O5 : Hid (w5.ownsRow W.heap.size 72 2 v5 82 (flat2 (Fd.spanL 65 32 26 ++ Fd.spanL 192 32 23 ++ Fd.spanL 216 32 7 ++ Fd.spanL 913 32 17 ++ Fd.spanL 931 32 9))) := Lib.hid hown1
  have B5 := Lib.hid (BX.out.grown hgrow (by omega) (fun q hq => (HO.out.lt q hq).1))
  clear hown1 hgrow HO HN BX hgb hgs hsx
  go_wp2_with fail
  refine (span_any _ 1040 1071 32 32 (by decide) (by decide) (by decide) (by decide) (by decide) (by decide)).mono ?_
  rintro e x5 ⟨s5, rfl, ho, hb⟩
  have hsz5 := B5.out.size
  obtain ⟨g5, c5, rfl, hgb, hgs, hnews⟩ := ho.some (by rw [Fd.spanL_len]; decide)
  rw [Fd.spanL_len]
  have hown : x5.ownsRow W.heap.size 72 2 v5 82 (flat2 (Fd.spanL 65 32 26 ++ Fd.spanL 192 32 23 ++ Fd.spanL 216 32 7 ++ Fd.spanL 913 32 17 ++ Fd.spanL 931 32 9)) := World.ownsRow.kept O5.out ⟨hb.os, hb.tape, hb.output, hb.size, fun k hk _ => hb.block k hk⟩ (row := none) (by cases hv : (v5).ownBlock <;> simp)
  have hsx := hb.size
  have BX := Lib.hid (B5.out.trans (hb.mono B5.out.size))
  have HN := Lib.hid hnews
  have HO := Lib.hid hown
  clear hnews hown ho hb
  go_wp2_with (at_builtin; (refine wpList_append_own _ (by rfl) _ _ 69 (by rfl) W.heap.size 72 i0 (.agg #[.int .i64 0, .int .i64 0]) 2 16 Tryz.underlying69 hi0 hz0 hz1 hz2 rfl (by decide) _ 82 (flat2 (Fd.spanL 65 32 26 ++ Fd.spanL 192 32 23 ++ Fd.spanL 216 32 7 ++ Fd.spanL 913 32 17 ++ Fd.spanL 931 32 9)) (by rfl) HO.out ⟨g5, 0, none⟩ 32 c5 (flat2 (Fd.spanL 1040 32 32)) (by rfl) (by rw [flat2_len, Fd.spanL_len]) HN.out (flat2_one _) (by decide) (by decide) (by omega) ?_))
  intro v6 w6 hown1 hgrow _
  rw [← flat2_append] at hown1
  have O6 : Hid (w6.ownsRow W.heap.size 72 2 v6 114 (flat2 (Fd.spanL 65 32 26 ++ Fd.spanL 192 32 23 ++ Fd.spanL 216 32 7 ++ Fd.spanL 913 32 17 ++ Fd.spanL 931 32 9 ++ Fd.spanL 1040 32 32))) := Lib.hid hown1
  have B6 := Lib.hid (BX.out.grown hgrow (by omega) (fun q hq => (HO.out.lt q hq).1))
  clear hown1 hgrow HO HN BX hgb hgs hsx
  go_wp2_with fail
  refine (span_any _ 1024 1039 80 16 (by decide) (by decide) (by decide) (by decide) (by decide) (by decide)).mono ?_
  rintro e x6 ⟨s6, rfl, ho, hb⟩
  have hsz6 := B6.out.size
  obtain ⟨g6, c6, rfl, hgb, hgs, hnews⟩ := ho.some (by rw [Fd.spanL_len]; decide)
  rw [Fd.spanL_len]
  have hown : x6.ownsRow W.heap.size 72 2 v6 114 (flat2 (Fd.spanL 65 32 26 ++ Fd.spanL 192 32 23 ++ Fd.spanL 216 32 7 ++ Fd.spanL 913 32 17 ++ Fd.spanL 931 32 9 ++ Fd.spanL 1040 32 32)) := World.ownsRow.kept O6.out ⟨hb.os, hb.tape, hb.output, hb.size, fun k hk _ => hb.block k hk⟩ (row := none) (by cases hv : (v6).ownBlock <;> simp)
  have hsx := hb.size
  have BX := Lib.hid (B6.out.trans (hb.mono B6.out.size))
  have HN := Lib.hid hnews
  have HO := Lib.hid hown
  clear hnews hown ho hb
  go_wp2_with (at_builtin; (refine wpList_append_own _ (by rfl) _ _ 69 (by rfl) W.heap.size 72 i0 (.agg #[.int .i64 0, .int .i64 0]) 2 16 Tryz.underlying69 hi0 hz0 hz1 hz2 rfl (by decide) _ 114 (flat2 (Fd.spanL 65 32 26 ++ Fd.spanL 192 32 23 ++ Fd.spanL 216 32 7 ++ Fd.spanL 913 32 17 ++ Fd.spanL 931 32 9 ++ Fd.spanL 1040 32 32)) (by rfl) HO.out ⟨g6, 0, none⟩ 16 c6 (flat2 (Fd.spanL 1024 80 16)) (by rfl) (by rw [flat2_len, Fd.spanL_len]) HN.out (flat2_one _) (by decide) (by decide) (by omega) ?_))
  intro v7 w7 hown1 hgrow _
  rw [← flat2_append] at hown1
  have O7 : Hid (w7.ownsRow W.heap.size 72 2 v7 130 (flat2 (Fd.spanL 65 32 26 ++ Fd.spanL 192 32 23 ++ Fd.spanL 216 32 7 ++ Fd.spanL 913 32 17 ++ Fd.spanL 931 32 9 ++ Fd.spanL 1040 32 32 ++ Fd.spanL 1024 80 16))) := Lib.hid hown1
  have B7 := Lib.hid (BX.out.grown hgrow (by omega) (fun q hq => (HO.out.lt q hq).1))
  clear hown1 hgrow HO HN BX hgb hgs hsx
  have hown := O7.out
  have hsz7 := B7.out.size
  go_wp2_with (at_builtin; (refine wpList_append_own _ (by rfl) _ _ 69 (by rfl) W.heap.size 72 i0 (.agg #[.int .i64 0, .int .i64 0]) 2 16 Tryz.underlying69 hi0 hz0 hz1 hz2 rfl (by decide) _ 130 (flat2 (Fd.spanL 65 32 26 ++ Fd.spanL 192 32 23 ++ Fd.spanL 216 32 7 ++ Fd.spanL 913 32 17 ++ Fd.spanL 931 32 9 ++ Fd.spanL 1040 32 32 ++ Fd.spanL 1024 80 16)) (by rfl) (hown.alloc _) ⟨w7.heap.size, 0, none⟩ 7 7 (flat2 Fd.lastP) (by rfl) (by decide) (World.news_of_block (cs := #[.int .i64 376, .int .i64 255, .int .i64 924, .int .i64 181, .int .i64 931, .int .i64 962, .int .i64 75, .int .i64 8490, .int .i64 197, .int .i64 8491, .int .i64 83, .int .i64 383, .int .i64 937, .int .i64 8486]) (heap_alloc_new w7 _)) (flat2_one _) (by decide) (by decide) (by simp; omega) ?_))
  intro v8 w8 hown1 hgrow _
  rw [← flat2_append] at hown1
  have hp : POwn w8 W.heap.size v8 Fd.pairsL := by unfold POwn; rw [Fd.pairs_len]; exact hown1
  have hB := (B7.out.alloc hsz7 _).grown hgrow (by simp; omega) (fun q hq => (hown.lt q hq).1)
  have HP := Lib.hid (hp.row (by rw [Fd.pairs_len]; decide) (fun p hp => by have := Fd.pairs_bd p hp; omega))
  have HB := Lib.hid hB
  clear hp hown1 hgrow hB hown
  go_wp2
  go_ret
  exact ⟨_, rfl, HP.out, HB.out⟩
end Go.Proofs.YtmdpchiiamgnnaaGreatDoor
namespace Go.Proofs.YtmdpchiiamgnnaaGreatDoor
open Go.RowKit
set_option linter.unusedVariables false
theorem flat1_snoc (l : List Int) (x : Int) : flat1 (l ++ [x]) = flat1 l ++ [Value.int .i64 x] := by simp [flat1]
theorem flat1_one (l : List Int) : ∀ u ∈ flat1 l, u.oneCell' = true := by
  intro u hu
  obtain ⟨x, _, rfl⟩ := List.mem_map.1 hu
  rfl
theorem IRow.news {W : World} {b n k : Nat} {l : List Int} (hl : l.length = n) (hc : ∀ j, j < n → W.cell? ⟨b, j, none⟩ = some (.int .i64 (l[j]?.getD 0))) :
    ∀ j u, (flat1 (l.drop k))[j]? = some u → W.cell? ((⟨b, k, none⟩ : Addr).add j) = some u := by
  intro j u hu
  have hadd : (⟨b, k, none⟩ : Addr).add j = ⟨b, k + j, none⟩ := by unfold Addr.add; split <;> simp_all
  rw [hadd]
  simp only [flat1, List.getElem?_map, List.getElem?_drop] at hu
  cases e : l[k + j]? with
  | none => rw [e] at hu; cases hu
  | some x =>
    rw [e] at hu
    have hlt := (List.getElem?_eq_some_iff.1 e).1
    rw [hc (k + j) (by omega), e]
    simpa using hu
set_option maxRecDepth 100000 in
set_option maxHeartbeats 4000000 in
theorem with_any (W : World) (v : Value) (l : List Int) (r : Int) (hr : IRow W v l) (hlen : l.length ≤ 1000000) :
    Calls Tryz.prog 91 #[v, .int .i64 r] W fun e w' => ∃ v', e = .returned v' ∧ IRow w' v' (Fd.withL l r) ∧ (∀ B, B ≤ W.heap.size → Fresh B v → Fresh B v') ∧ Below W.heap.size W w' := by
  obtain ⟨i0, hi0, hz0, hz1, hz2⟩ := info_parts Tryz.infoInt
  have HR := Lib.hid hr
  cases hj : Fd.joinB l r with
  | true =>
    have HW : Hid (Fd.withL l r = l) := Lib.hid (by unfold Fd.withL; rw [hj]; rfl)
    have HJ := Lib.hid (joined_any W v l r hr)
    rw [hj] at HJ
    clear hr hj
    go_enter Tryz.func91, Tryz.ntmps91
    go_wp2_with fail
    refine HJ.out.mono ?_
    rintro e w1 ⟨rfl, rfl⟩
    go_wp2
    go_ret
    exact ⟨_, rfl, by rw [HW.out]; exact HR.out, fun B _ h => h, Below.refl _ _⟩
  | false =>
    have HW : Hid (Fd.withL l r = Fd.insL l r) := Lib.hid (by unfold Fd.withL; rw [hj]; rfl)
    have HJ := Lib.hid (joined_any W v l r hr)
    rw [hj] at HJ
    obtain ⟨a, cap, rfl, hnc, hcm, hc⟩ := hr
    have HC := Lib.hid hc
    obtain ⟨n, hn⟩ : ∃ n, l.length = n := ⟨_, rfl⟩
    have HN := Lib.hid hn
    rw [hn] at HC HJ hnc hlen ⊢
    clear hj hc hn HR
    go_enter Tryz.func91, Tryz.ntmps91
    go_wp2_with fail
    refine HJ.out.mono ?_
    rintro e w1 ⟨rfl, rfl⟩
    go_wp2
    go_loopw [5, 6] (fun V I wr => ∃ k : Nat, k ≤ n ∧ I = .int .i64 k ∧ Hid (∀ j, j < k → l[j]?.getD 0 < r) ∧ Hid (IOwn wr W.heap.size V (l.take k)) ∧ Hid (Below W.heap.size W wr)) (fun _ I _ => n - (intOf I).toNat)
    case atStart => exact ⟨0, Nat.zero_le _, rfl, Lib.hid (fun j hj => absurd hj (Nat.not_lt_zero _)), Lib.hid IOwn.nil, Lib.hid (Below.refl _ _)⟩
    case round =>
      obtain ⟨k, hk, rfl, HL, HO, HB⟩ := hrel
      have hsz := HB.out.size
      have hown := HO.out
      unfold IOwn at hown
      have htl : (l.take k).length = k := by rw [List.length_take, HN.out]; omega
      rw [htl] at hown
      have HTL := Lib.hid htl
      have HOW := Lib.hid hown
      clear htl hown
      by_cases hlt : k < n
      · obtain ⟨b, rfl, hb, hcell⟩ := HC.out k hlt
        rw [← HB.out.cell (p := ⟨b, k, none⟩) hb] at hcell
        obtain ⟨x, hx⟩ : ∃ x, l[k]?.getD 0 = x := ⟨_, rfl⟩
        rw [hx] at hcell
        have HX := Lib.hid hx
        have hbw : b < wr.heap.size := by omega
        clear hx
        by_cases hxr : x < r
        · have HT := Lib.hid (take_snoc (l := l) (k := k) (by rw [HN.out]; exact hlt) HX.out)
          have HL' : Hid (∀ j, j < k + 1 → l[j]?.getD 0 < r) := Lib.hid (fun j hj => by
            by_cases e : j = k
            · rw [e, HX.out]; exact hxr
            · exact HL.out j (by omega))
          have hown := HOW.out
          go_wp2_with (at_builtin; (refine wpList_append_own _ (by rfl) _ _ 62 (by rfl) W.heap.size 3 i0 (.int .i64 0) 1 8 Tryz.underlying62 hi0 hz0 hz1 hz2 rfl (by decide) _ k (flat1 (l.take k)) (by rfl) (hown.alloc _) ⟨wr.heap.size, 0, none⟩ 1 1 [.int .i64 x] (by rfl) rfl (World.news_of_block (cs := #[.int .i64 x]) (heap_alloc_new wr _)) (by simp [Value.oneCell']) (by unfold maxLen; omega) (by omega) (by simp; omega) ?_))
          intro v1 w1 hown1 hgrow _
          have hO2 : IOwn w1 W.heap.size v1 (l.take (k + 1)) := by rw [HT.out]; unfold IOwn; rw [List.length_append, HTL.out, flat1_snoc]; simpa [flat1] using hown1
          have hB2 := (HB.out.alloc hsz _).grown hgrow (by simp; omega) (fun q hq => (hown.lt q hq).1)
          have HO2 := Lib.hid hO2
          have HB2 := Lib.hid hB2
          clear hO2 hown1 hgrow hown hB2
          go_wp2
          go_roundw
          case rel => exact ⟨k + 1, by omega, by go_num, HL', HO2, HB2⟩
          case measure => simp [intOf]; omega
        · have HI : Hid (Fd.insL l r = l.take k ++ [r] ++ l.drop k) := Lib.hid (Fd.insL_split l k r (by rw [HN.out]; exact hk) HL.out (.inr (by rw [HX.out]; exact hxr)))
          have hcells : ∀ j, j < n → wr.cell? ⟨b, j, none⟩ = some (.int .i64 (l[j]?.getD 0)) := fun j hj => by
            obtain ⟨b', hbb, _, h1⟩ := HC.out j hj
            injection hbb with hbb; injection hbb with hbb; subst hbb
            exact (HB.out.cell (p := ⟨b, j, none⟩) hb).trans h1
          have HCW := Lib.hid hcells
          clear hcells
          have k0 : (0 : Int) ≤ (k : Int) := by omega
          have k1 : (k : Int) ≤ (n : Int) := by omega
          have hown := HOW.out
          go_wp2_with (at_builtin; (refine wpList_append_own _ (by rfl) _ _ 62 (by rfl) W.heap.size 3 i0 (.int .i64 0) 1 8 Tryz.underlying62 hi0 hz0 hz1 hz2 rfl (by decide) _ k (flat1 (l.take k)) (by rfl) (hown.alloc _) ⟨wr.heap.size, 0, none⟩ 1 1 [.int .i64 r] (by rfl) rfl (World.news_of_block (cs := #[.int .i64 r]) (heap_alloc_new wr _)) (by simp [Value.oneCell']) (by unfold maxLen; omega) (by omega) (by simp; omega) ?_))
          intro v1 w1 hown1 hgrow _
          have hB2 := (HB.out.alloc hsz _).grown hgrow (by simp; omega) (fun q hq => (hown.lt q hq).1)
          have HB2 := Lib.hid hB2
          have hown1' : w1.ownsRow W.heap.size 3 1 v1 (k + 1) (flat1 (l.take k) ++ [.int .i64 r]) := by simpa [flat1] using hown1
          have HO2 := Lib.hid hown1'
          clear hown1'
          have hsz2 := hB2.size
          have HN2 : Hid (∀ j u, (flat1 (l.drop k))[j]? = some u → w1.cell? ((⟨b, k, none⟩ : Addr).add j) = some u) := Lib.hid (IRow.news HN.out (fun j hj => by
            have := hB2.cell (p := ⟨b, j, none⟩) hb
            have h0 := HB.out.cell (p := ⟨b, j, none⟩) hb
            rw [this, ← h0]; exact HCW.out j hj))
          clear hown1 hgrow hown hB2
          go_wp2_with (at_builtin; (refine wpList_append_own _ (by rfl) _ _ 62 (by rfl) W.heap.size 3 i0 (.int .i64 0) 1 8 Tryz.underlying62 hi0 hz0 hz1 hz2 rfl (by decide) _ (k + 1) (flat1 (l.take k) ++ [.int .i64 r]) (by rfl) HO2.out ⟨b, k, none⟩ (n - k) (cap - k) (flat1 (l.drop k)) (by rfl) (by simp [flat1, HN.out]) HN2.out (flat1_one _) (by unfold maxLen; omega) (by omega) (by omega) ?_))
          intro v2 w2 hown2 hgrow _
          have hO3 : IOwn w2 W.heap.size v2 (Fd.withL l r) := by
            rw [HW.out, HI.out]; unfold IOwn
            have e1 : (l.take k ++ [r] ++ l.drop k).length = k + 1 + (n - k) := by rw [List.length_append, List.length_append, HTL.out, List.length_drop, HN.out]; rfl
            rw [e1]
            have e2 : flat1 (l.take k ++ [r] ++ l.drop k) = flat1 (l.take k) ++ [Value.int .i64 r] ++ flat1 (l.drop k) := by simp [flat1]
            rw [e2]; simpa [flat1] using hown2
          have hB3 := HB2.out.grown hgrow (by omega) (fun q hq => (HO2.out.lt q hq).1)
          have HO3 := Lib.hid hO3
          have HB3 := Lib.hid hB3
          clear hO3 hown2 hgrow hB3
          go_wp2
          go_ret
          exact ⟨_, rfl, HO3.out.row, fun B hB _ => HO3.out.fresh.lower hB, HB3.out⟩
      · obtain rfl : k = n := by omega
        have HI : Hid (Fd.insL l r = l ++ [r]) := Lib.hid (by
          rw [Fd.insL_split l k r (by rw [HN.out]; exact hk) HL.out (.inl HN.out.symm), List.take_of_length_le (by rw [HN.out]; exact Nat.le_refl _), List.drop_eq_nil_of_le (by rw [HN.out]; exact Nat.le_refl _), List.append_nil])
        have hown := HOW.out
        rw [List.take_of_length_le (by rw [HN.out]; exact Nat.le_refl _)] at hown
        have hcc : k < cap ∨ k = cap := by omega
        rcases hcc with hcc | rfl
        all_goals
          go_wp2_with (at_builtin; (refine wpList_append_own _ (by rfl) _ _ 62 (by rfl) W.heap.size 3 i0 (.int .i64 0) 1 8 Tryz.underlying62 hi0 hz0 hz1 hz2 rfl (by decide) _ k (flat1 l) (by rfl) (hown.alloc _) ⟨wr.heap.size, 0, none⟩ 1 1 [.int .i64 r] (by rfl) rfl (World.news_of_block (cs := #[.int .i64 r]) (heap_alloc_new wr _)) (by simp [Value.oneCell']) (by unfold maxLen; omega) (by omega) (by simp; omega) ?_))
          intro v1 w1 hown1 hgrow _
          have hB2 := (HB.out.alloc hsz _).grown hgrow (by simp; omega) (fun q hq => (hown.lt q hq).1)
          have HB2 := Lib.hid hB2
          have HO2 := Lib.hid hown1
          have hO3 : IOwn w1 W.heap.size v1 (Fd.withL l r) := by
            rw [HW.out, HI.out]; unfold IOwn; rw [List.length_append, HN.out, flat1_snoc]; simpa [flat1] using hown1
          have HO3 := Lib.hid hO3
          have hrun := fun A c => run_append_nothing (P := Tryz.prog) (w := w1) W.heap.size 62 62 3 i0 1 Tryz.underlying62 hi0 _ (k + 1) _ hown1 A c
          have HRUN := Lib.hid hrun
          clear hown1 hgrow hown hB2 hO3 hrun
          go_wp2_with (at_builtin; (refine wpList_append_run (by rfl) _ _ 62 (by rfl) v1 _ v1 w1 (by rfl) (by rfl) (HRUN.out _ _) ?_))
          go_wp2
          go_ret
          exact ⟨_, rfl, HO3.out.row, fun B hB _ => HO3.out.fresh.lower hB, HB2.out⟩
end Go.Proofs.YtmdpchiiamgnnaaGreatDoor
