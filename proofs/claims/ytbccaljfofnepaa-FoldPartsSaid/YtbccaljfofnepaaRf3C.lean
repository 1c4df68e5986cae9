/- The reference's fold (burinref03): the contract of with. -/
import Derived.Test.YtbccaljfofnepaaRf3B
namespace Go.Proofs.Ytbccaljfofnepaa
open Go.RowKit
set_option linter.unusedVariables false
theorem flat1_snoc (l : List Int) (x : Int) : flat1 (l ++ [x]) = flat1 l ++ [Value.int .i64 x] := by simp [flat1]
theorem flat1_one (l : List Int) : ∀ u ∈ flat1 l, u.oneCell' = true := by
  intro u hu
  obtain ⟨x, _, rfl⟩ := List.mem_map.1 hu
  rfl
theorem take_snoc {l : List Int} {k : Nat} {x : Int} (hk : k < l.length) (hx : l[k]?.getD 0 = x) : l.take (k + 1) = l.take k ++ [x] := by
  rw [List.take_succ_eq_append_getElem hk]
  rw [List.getElem?_eq_getElem hk] at hx
  rw [← hx]; rfl
/-- A slice that does not lie below a block. -/
def Fresh (B : Nat) (v : Value) : Prop := ∀ b o s n c, v = .slice (some ⟨b, o, s⟩) n c → B ≤ b
theorem Fresh.lower {B B' : Nat} {v : Value} (h : Fresh B v) (hb : B' ≤ B) : Fresh B' v := fun b o s n c e => Nat.le_trans hb (h b o s n c e)
theorem IOwn.fresh {W : World} {base : Nat} {v : Value} {T : List Int} (h : IOwn W base v T) : Fresh base v := by
  rcases h.2 with ⟨rfl, _⟩ | ⟨g, cap, cur, rfl, hb, _⟩
  · intro b o s n c e; cases e
  · intro b o s n c e; injection e with e _ _; injection e with e; injection e with e _ _; omega
theorem IRow.news {W : World} {b n k : Nat} {l : List Int} (hl : l.length = n) (hc : ∀ j, j < n → W.cell? ⟨b, j, none⟩ = some (.int .i64 (l[j]?.getD 0))) :
    ∀ j u, (flat1 (l.drop k))[j]? = some u → W.cell? ((⟨b, k, none⟩ : Addr).add j) = some u := by
  intro j u hu
  have hadd : (⟨b, k, none⟩ : Addr).add j = ⟨b, k + j, none⟩ := by unfold Addr.add; split <;> simp_all
  rw [hadd]
  simp only [flat1, List.getElem?_map, List.getElem?_drop] at hu
  cases e : l[k + j]? with
  | none => rw [e] at hu; cases hu
  | some x =>
    rw [e] at hu
    have hlt := (List.getElem?_eq_some_iff.1 e).1
    rw [hc (k + j) (by omega), e]
    simpa using hu
set_option maxRecDepth 100000 in
set_option maxHeartbeats 4000000 in
theorem with_any (W : World) (v : Value) (l : List Int) (r : Int) (hr : IRow W v l) (hlen : l.length ≤ 1000000) :
    Calls Try.prog 32 #[v, .int .i64 r] W fun e w' => ∃ v', e = .returned v' ∧ IRow w' v' (Fd.withL l r) ∧ (∀ B, B ≤ W.heap.size → Fresh B v → Fresh B v') ∧ Below W.heap.size W w' := by
  obtain ⟨i0, hi0, hz0, hz1, hz2⟩ := info_parts Try.infoInt
  have HR := Lib.hid hr
  cases hj : Fd.joinB l r with
  | true =>
    have HW : Hid (Fd.withL l r = l) := Lib.hid (by unfold Fd.withL; rw [hj]; rfl)
    have HJ := Lib.hid (joined_any W v l r hr)
    rw [hj] at HJ
    clear hr hj
    go_enter Try.func32, Try.ntmps32
    go_wp2_with fail
    refine HJ.out.mono ?_
    rintro e w1 ⟨rfl, rfl⟩
    go_wp2
    go_ret
    exact ⟨_, rfl, by rw [HW.out]; exact HR.out, fun B _ h => h, Below.refl _ _⟩
  | false =>
    have HW : Hid (Fd.withL l r = Fd.insL l r) := Lib.hid (by unfold Fd.withL; rw [hj]; rfl)
    have HJ := Lib.hid (joined_any W v l r hr)
    rw [hj] at HJ
    obtain ⟨a, cap, rfl, hnc, hcm, hc⟩ := hr
    have HC := Lib.hid hc
    obtain ⟨n, hn⟩ : ∃ n, l.length = n := ⟨_, rfl⟩
    have HN := Lib.hid hn
    rw [hn] at HC HJ hnc hlen ⊢
    clear hj hc hn HR
    go_enter Try.func32, Try.ntmps32
    go_wp2_with fail
    refine HJ.out.mono ?_
    rintro e w1 ⟨rfl, rfl⟩
    go_wp2
    go_loopw [5, 6] (fun V I wr => ∃ k : Nat, k ≤ n ∧ I = .int .i64 k ∧ Hid (∀ j, j < k → l[j]?.getD 0 < r) ∧ Hid (IOwn wr W.heap.size V (l.take k)) ∧ Hid (Below W.heap.size W wr)) (fun _ I _ => n - (intOf I).toNat)
    case atStart => exact ⟨0, Nat.zero_le _, rfl, Lib.hid (fun j hj => absurd hj (Nat.not_lt_zero _)), Lib.hid IOwn.nil, Lib.hid (Below.refl _ _)⟩
    case round =>
      obtain ⟨k, hk, rfl, HL, HO, HB⟩ := hrel
      have hsz := HB.out.size
      have hown := HO.out
      unfold IOwn at hown
      have htl : (l.take k).length = k := by rw [List.length_take, HN.out]; omega
      rw [htl] at hown
      have HTL := Lib.hid htl
      have HOW := Lib.hid hown
      clear htl hown
      by_cases hlt : k < n
      · obtain ⟨b, rfl, hb, hcell⟩ := HC.out k hlt
        rw [← HB.out.cell (p := ⟨b, k, none⟩) hb] at hcell
        obtain ⟨x, hx⟩ : ∃ x, l[k]?.getD 0 = x := ⟨_, rfl⟩
        rw [hx] at hcell
        have HX := Lib.hid hx
        have hbw : b < wr.heap.size := by omega
        clear hx
        by_cases hxr : x < r
        · have HT := Lib.hid (take_snoc (l := l) (k := k) (by rw [HN.out]; exact hlt) HX.out)
          have HL' : Hid (∀ j, j < k + 1 → l[j]?.getD 0 < r) := Lib.hid (fun j hj => by
            by_cases e : j = k
            · rw [e, HX.out]; exact hxr
            · exact HL.out j (by omega))
          have hown := HOW.out
          go_wp2_with (at_builtin; (refine wpList_append_own _ (by rfl) _ _ 22 (by rfl) W.heap.size 3 i0 (.int .i64 0) 1 8 Try.underlying22 hi0 hz0 hz1 hz2 rfl (by decide) _ k (flat1 (l.take k)) (by rfl) (hown.alloc _) ⟨wr.heap.size, 0, none⟩ 1 1 [.int .i64 x] (by rfl) rfl (World.news_of_block (cs := #[.int .i64 x]) (heap_alloc_new wr _)) (by simp [Value.oneCell']) (by unfold maxLen; omega) (by omega) (by simp; omega) ?_))
          intro v1 w1 hown1 hgrow _
          have hO2 : IOwn w1 W.heap.size v1 (l.take (k + 1)) := by rw [HT.out]; unfold IOwn; rw [List.length_append, HTL.out, flat1_snoc]; simpa [flat1] using hown1
          have hB2 := (HB.out.alloc hsz _).grown hgrow (by simp; omega) (fun q hq => (hown.lt q hq).1)
          have HO2 := Lib.hid hO2
          have HB2 := Lib.hid hB2
          clear hO2 hown1 hgrow hown hB2
          go_wp2
          go_roundw
          case rel => exact ⟨k + 1, by omega, by go_num, HL', HO2, HB2⟩
          case measure => simp [intOf]; omega
        · have HI : Hid (Fd.insL l r = l.take k ++ [r] ++ l.drop k) := Lib.hid (Fd.insL_split l k r (by rw [HN.out]; exact hk) HL.out (.inr (by rw [HX.out]; exact hxr)))
          have hcells : ∀ j, j < n → wr.cell? ⟨b, j, none⟩ = some (.int .i64 (l[j]?.getD 0)) := fun j hj => by
            obtain ⟨b', hbb, _, h1⟩ := HC.out j hj
            injection hbb with hbb; injection hbb with hbb; subst hbb
            exact (HB.out.cell (p := ⟨b, j, none⟩) hb).trans h1
          have HCW := Lib.hid hcells
          clear hcells
          have k0 : (0 : Int) ≤ (k : Int) := by omega
          have k1 : (k : Int) ≤ (n : Int) := by omega
          have hown := HOW.out
          go_wp2_with (at_builtin; (refine wpList_append_own _ (by rfl) _ _ 22 (by rfl) W.heap.size 3 i0 (.int .i64 0) 1 8 Try.underlying22 hi0 hz0 hz1 hz2 rfl (by decide) _ k (flat1 (l.take k)) (by rfl) (hown.alloc _) ⟨wr.heap.size, 0, none⟩ 1 1 [.int .i64 r] (by rfl) rfl (World.news_of_block (cs := #[.int .i64 r]) (heap_alloc_new wr _)) (by simp [Value.oneCell']) (by unfold maxLen; omega) (by omega) (by simp; omega) ?_))
          intro v1 w1 hown1 hgrow _
          have hB2 := (HB.out.alloc hsz _).grown hgrow (by simp; omega) (fun q hq => (hown.lt q hq).1)
          have HB2 := Lib.hid hB2
          have hown1' : w1.ownsRow W.heap.size 3 1 v1 (k + 1) (flat1 (l.take k) ++ [.int .i64 r]) := by simpa [flat1] using hown1
          have HO2 := Lib.hid hown1'
          clear hown1'
          have hsz2 := hB2.size
          have HN2 : Hid (∀ j u, (flat1 (l.drop k))[j]? = some u → w1.cell? ((⟨b, k, none⟩ : Addr).add j) = some u) := Lib.hid (IRow.news HN.out (fun j hj => by
            have := hB2.cell (p := ⟨b, j, none⟩) hb
            have h0 := HB.out.cell (p := ⟨b, j, none⟩) hb
            rw [this, ← h0]; exact HCW.out j hj))
          clear hown1 hgrow hown hB2
          go_wp2_with (at_builtin; (refine wpList_append_own _ (by rfl) _ _ 22 (by rfl) W.heap.size 3 i0 (.int .i64 0) 1 8 Try.underlying22 hi0 hz0 hz1 hz2 rfl (by decide) _ (k + 1) (flat1 (l.take k) ++ [.int .i64 r]) (by rfl) HO2.out ⟨b, k, none⟩ (n - k) (cap - k) (flat1 (l.drop k)) (by rfl) (by simp [flat1, HN.out]) HN2.out (flat1_one _) (by unfold maxLen; omega) (by omega) (by omega) ?_))
          intro v2 w2 hown2 hgrow _
          have hO3 : IOwn w2 W.heap.size v2 (Fd.withL l r) := by
            rw [HW.out, HI.out]; unfold IOwn
            have e1 : (l.take k ++ [r] ++ l.drop k).length = k + 1 + (n - k) := by rw [List.length_append, List.length_append, HTL.out, List.length_drop, HN.out]; rfl
            rw [e1]
            have e2 : flat1 (l.take k ++ [r] ++ l.drop k) = flat1 (l.take k) ++ [Value.int .i64 r] ++ flat1 (l.drop k) := by simp [flat1]
            rw [e2]; simpa [flat1] using hown2
          have hB3 := HB2.out.grown hgrow (by omega) (fun q hq => (HO2.out.lt q hq).1)
          have HO3 := Lib.hid hO3
          have HB3 := Lib.hid hB3
          clear hO3 hown2 hgrow hB3
          go_wp2
          go_ret
          exact ⟨_, rfl, HO3.out.row, fun B hB _ => HO3.out.fresh.lower hB, HB3.out⟩
      · obtain rfl : k = n := by omega
        have HI : Hid (Fd.insL l r = l ++ [r]) := Lib.hid (by
          rw [Fd.insL_split l k r (by rw [HN.out]; exact hk) HL.out (.inl HN.out.symm), List.take_of_length_le (by rw [HN.out]; exact Nat.le_refl _), List.drop_eq_nil_of_le (by rw [HN.out]; exact Nat.le_refl _), List.append_nil])
        have hown := HOW.out
        rw [List.take_of_length_le (by rw [HN.out]; exact Nat.le_refl _)] at hown
        have hcc : k < cap ∨ k = cap := by omega
        rcases hcc with hcc | rfl
        all_goals
          go_wp2_with (at_builtin; (refine wpList_append_own _ (by rfl) _ _ 22 (by rfl) W.heap.size 3 i0 (.int .i64 0) 1 8 Try.underlying22 hi0 hz0 hz1 hz2 rfl (by decide) _ k (flat1 l) (by rfl) (hown.alloc _) ⟨wr.heap.size, 0, none⟩ 1 1 [.int .i64 r] (by rfl) rfl (World.news_of_block (cs := #[.int .i64 r]) (heap_alloc_new wr _)) (by simp [Value.oneCell']) (by unfold maxLen; omega) (by omega) (by simp; omega) ?_))
          intro v1 w1 hown1 hgrow _
          have hB2 := (HB.out.alloc hsz _).grown hgrow (by simp; omega) (fun q hq => (hown.lt q hq).1)
          have HB2 := Lib.hid hB2
          have HO2 := Lib.hid hown1
          have hO3 : IOwn w1 W.heap.size v1 (Fd.withL l r) := by
            rw [HW.out, HI.out]; unfold IOwn; rw [List.length_append, HN.out, flat1_snoc]; simpa [flat1] using hown1
          have HO3 := Lib.hid hO3
          have hrun := fun A c => run_append_nothing (P := Try.prog) (w := w1) W.heap.size 22 22 3 i0 1 Try.underlying22 hi0 _ (k + 1) _ hown1 A c
          have HRUN := Lib.hid hrun
          clear hown1 hgrow hown hB2 hO3 hrun
          go_wp2_with (at_builtin; (refine wpList_append_run (by rfl) _ _ 22 (by rfl) v1 _ v1 w1 (by rfl) (by rfl) (HRUN.out _ _) ?_))
          go_wp2
          go_ret
          exact ⟨_, rfl, HO3.out.row, fun B hB _ => HO3.out.fresh.lower hB, HB2.out⟩
end Go.Proofs.Ytbccaljfofnepaa
