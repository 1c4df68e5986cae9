/- The landed fold: the ranges of all numbers that are in a pair. · The landed ranges: Union. · The landed ranges: Both. · What Close hands back. · The landed fold: the contract of Close. -/
import Derived.Test.YtecclhmjmceheaaGreatDoorGp26
import Derived.Test.YtecclhmjmceheaaGreatDoorGp5
import Derived.Test.YtecclhmjmceheaaGreatDoorGp19
import Derived.Test.YtecclhmjmceheaaGreatDoorGp7
import Derived.Test.YtecclhmjmceheaaGreatDoorGp10
import Derived.Deep.AppendLies
namespace Go.Proofs.YtecclhmjmceheaaGreatDoor
open Go.RowKit
set_option linter.unusedVariables false
theorem flat2_two (l : List (Int × Int)) (a b c d : Int) : flat2 (l ++ [(a, b), (c, d)]) = flat2 l ++ [Value.int .i64 a, .int .i64 b, .int .i64 c, .int .i64 d] := by
  rw [show l ++ [(a, b), (c, d)] = (l ++ [(a, b)]) ++ [(c, d)] by simp, flat2_snoc, flat2_snoc]; simp
structure PairSt (i : Nat) (b : Fd.Blk) : Prop where
  eq : Fd.pairedOf (Fd.blocksL.take (i + 1)) = Fd.pairedOf (Fd.blocksL.take i) ++ [(b.1, b.2.1), (b.1 + b.2.2, b.2.1 + b.2.2)]
  len : (Fd.pairedOf (Fd.blocksL.take i)).length = i * 2
theorem pairSt (i : Nat) (hi : i < 14) (b : Fd.Blk) (h : Fd.blocksL[i]?.getD (0, 0, 0) = b) : PairSt i b := by
  subst h
  exact ⟨Fd.pairedOf_succ i hi, by rw [Fd.pairedOf_len, List.length_take, Fd.blocks_len]; omega⟩
def pairT (i : Nat) : List (Int × Int) := Fd.pairedOf (Fd.blocksL.take i)
set_option maxRecDepth 100000 in
set_option maxHeartbeats 4000000 in
theorem paired_any (W : World) :
    Calls Tryz.prog 158 #[] W fun e w' => ∃ v, e = .returned v ∧ RgOwn w' W.heap.size v Fd.pairedL ∧ Below W.heap.size W w' := by
  obtain ⟨i0, hi0, hz0, hz1, hz2⟩ := info_parts Tryz.infoRange
  go_enter Tryz.func158, Tryz.ntmps158
  go_wp2_with fail
  refine (blocks_ok _).mono ?_
  rintro e w1 ⟨A, rfl, HIX, hb⟩
  have HB1 := Lib.hid hb
  clear hb
  go_wp2
  go_loopw [1, 5] (fun O I wr => ∃ i : Nat, i ≤ 14 ∧ I = .int .i64 i ∧ Hid (RgOwn wr W.heap.size O (pairT i)) ∧ Hid (Below W.heap.size W wr)) (fun _ I _ => 14 - (intOf I).toNat)
  case atStart => exact ⟨0, by omega, rfl, Lib.hid RgOwn.nil, HB1⟩
  case round =>
    obtain ⟨i, hi, rfl, HOi, HBi⟩ := hrel
    have hsz := HBi.out.size
    by_cases hlt : i < 14
    · have hbm := blk_idx i hlt
      have hix := HIX.out i hlt
      obtain ⟨b, hbb⟩ : ∃ b, Fd.blocksL[i]?.getD (0, 0, 0) = b := ⟨_, rfl⟩
      have HP := pairSt i hlt b hbb
      rw [hbb] at hbm hix
      have hbd := blk_bd b hbm
      clear hbb hbm
      obtain ⟨p, q, s⟩ := b
      dsimp only at hix hbd
      obtain ⟨a1, a2, a3, a4, a5, a6⟩ := hbd
      have hown := HOi.out
      unfold RgOwn pairT at hown
      rw [HP.len] at hown
      have q1 : (p + s + 9223372036854775808) % 18446744073709551616 - 9223372036854775808 = p + s := by omega
      have q2 : (q + s + 9223372036854775808) % 18446744073709551616 - 9223372036854775808 = q + s := by omega
      go_wp2_with (at_builtin; (refine wpList_append_own _ (by rfl) _ _ 33 (by rfl) W.heap.size 103 i0 (.agg #[.int .i64 0, .int .i64 0]) 2 16 Tryz.underlying33 hi0 hz0 hz1 hz2 rfl (by decide) _ (i * 2) (flat2 (Fd.pairedOf (Fd.blocksL.take i))) (by rfl) ((hown.alloc _).alloc _) ⟨wr.heap.size + 1, 0, none⟩ 2 2 [.int .i64 p, .int .i64 q, .int .i64 (p + s), .int .i64 (q + s)] (by rfl) rfl ?c1 (by simp [Value.oneCell']) (by unfold maxLen; omega) (by omega) (by simp; omega) ?_))
      case c1 => exact World.news_of_block (cs := #[.int .i64 p, .int .i64 q, .int .i64 (p + s), .int .i64 (q + s)]) (heap_new2 _ _ _)
      intro v1 w3 hown1 hgrow _
      have hO2 : RgOwn w3 W.heap.size v1 (pairT (i + 1)) := by
        unfold RgOwn pairT; rw [HP.eq, List.length_append, HP.len, flat2_two]; exact hown1
      have hB2 := ((HBi.out.alloc hsz _).alloc (by simp; omega) _).grown hgrow (by simp; omega) (fun q hq => (hown.lt q hq).1)
      have HO2 := Lib.hid hO2
      have HB2 := Lib.hid hB2
      clear hO2 hown1 hgrow hown hB2 HP
      go_wp2
      go_roundw
      case rel => exact ⟨i + 1, by omega, by go_num, HO2, HB2⟩
      case measure => simp [intOf]; omega
    · obtain rfl : i = 14 := by omega
      have hO := HOi.out
      unfold pairT at hO
      rw [List.take_of_length_le (by rw [Fd.blocks_len]; exact Nat.le_refl _)] at hO
      have HO2 : Hid (RgOwn wr W.heap.size u1 Fd.pairedL) := Lib.hid hO
      clear hO
      go_wp2
      go_ret
      exact ⟨_, rfl, HO2.out, HBi.out⟩
end Go.Proofs.YtecclhmjmceheaaGreatDoor
namespace Go.Proofs.YtecclhmjmceheaaGreatDoor
open Go.RowKit
set_option linter.unusedVariables false
set_option maxRecDepth 100000 in
set_option maxHeartbeats 1000000 in
theorem keep_union : KeepOk 213 (fun x y => x || y) := by
  refine ⟨enters_of Tryz.func213 (by kernel_rfl) rfl, fun x y w => ?_⟩
  cases x <;> cases y
  all_goals
    go_enter Tryz.func213, Tryz.ntmps213
    go_wp2
    go_ret
    exact ⟨rfl, rfl⟩
set_option maxRecDepth 100000 in
set_option maxHeartbeats 1000000 in
theorem union_any (W : World) (va vb : Value) (a b : List (Int × Int)) (ha : RRow W va a) (hb : RRow W vb b) : Calls Tryz.prog 160 #[va, vb] W (MakePost 1 a b W) := by
  have HC := Lib.hid (combine_any W va vb a b _ _ 1 keep_union rfl (fun x y => by cases x <;> cases y <;> rfl) ha hb)
  clear ha hb
  go_enter Tryz.func160, Tryz.ntmps160
  go_wp2_with fail
  refine HC.out.mono ?_
  rintro e w1 ⟨v, out, rfl, hm, ho, hb⟩
  have HM := Lib.hid (And.intro hm (And.intro ho hb))
  clear hm ho hb
  go_wp2
  go_ret
  exact ⟨v, out, rfl, HM.out⟩
end Go.Proofs.YtecclhmjmceheaaGreatDoor
namespace Go.Proofs.YtecclhmjmceheaaGreatDoor
open Go.RowKit
set_option linter.unusedVariables false
set_option maxRecDepth 100000 in
set_option maxHeartbeats 1000000 in
theorem keep_both : KeepOk 208 (fun x y => x && y) := by
  refine ⟨enters_of Tryz.func208 (by kernel_rfl) rfl, fun x y w => ?_⟩
  cases x <;> cases y
  all_goals
    go_enter Tryz.func208, Tryz.ntmps208
    go_wp2
    go_ret
    exact ⟨rfl, rfl⟩
set_option maxRecDepth 100000 in
set_option maxHeartbeats 1000000 in
theorem both_any (W : World) (va vb : Value) (a b : List (Int × Int)) (ha : RRow W va a) (hb : RRow W vb b) : Calls Tryz.prog 157 #[va, vb] W (MakePost 2 a b W) := by
  have HC := Lib.hid (combine_any W va vb a b _ _ 2 keep_both rfl (fun x y => by cases x <;> cases y <;> rfl) ha hb)
  clear ha hb
  go_enter Tryz.func157, Tryz.ntmps157
  go_wp2_with fail
  refine HC.out.mono ?_
  rintro e w1 ⟨v, out, rfl, hm, ho, hb⟩
  have HM := Lib.hid (And.intro hm (And.intro ho hb))
  clear hm ho hb
  go_wp2
  go_ret
  exact ⟨v, out, rfl, HM.out⟩
end Go.Proofs.YtecclhmjmceheaaGreatDoor
namespace Go.Proofs.YtecclhmjmceheaaGreatDoor
open Go.RowKit
set_option linter.unusedVariables false
def ClosePost (l : List (Int × Int)) (W : World) (e : Ending) (w' : World) : Prop :=
  ∃ v out, e = .returned v ∧ Rg.NormL out ∧ (∀ q, Rg.hasB out q = Fd.clB l q) ∧ RgOwn w' W.heap.size v out ∧ Below W.heap.size W w'
theorem own_block_some {W : World} {base : Nat} {v : Value} {l : List (Int × Int)} (h : RgOwn W base v l) {g : Nat} (hg : v.ownBlock = some g) : base ≤ g ∧ g < W.heap.size := World.ownsRow.lt h g hg
/-- A slice that does not lie below a block. -/
def Fresh (B : Nat) (v : Value) : Prop := ∀ b o s n c, v = .slice (some ⟨b, o, s⟩) n c → B ≤ b
theorem Fresh.lower {B B' : Nat} {v : Value} (h : Fresh B v) (hb : B' ≤ B) : Fresh B' v := fun b o s n c e => Nat.le_trans hb (h b o s n c e)
theorem IOwn.fresh {W : World} {base : Nat} {v : Value} {T : List Int} (h : IOwn W base v T) : Fresh base v := by
  rcases h.2 with ⟨rfl, _⟩ | ⟨g, cap, cur, rfl, hb, _⟩
  · intro b o s n c e; cases e
  · intro b o s n c e; injection e with e _ _; injection e with e; injection e with e _ _; omega
theorem take_snoc {l : List Int} {k : Nat} {x : Int} (hk : k < l.length) (hx : l[k]?.getD 0 = x) : l.take (k + 1) = l.take k ++ [x] := by
  rw [List.take_succ_eq_append_getElem hk]
  rw [List.getElem?_eq_getElem hk] at hx
  rw [← hx]; rfl
theorem map_take_succ (l : List Int) (k : Nat) (hk : k < l.length) (x : Int) (hx : l[k]?.getD 0 = x) : (l.take (k + 1)).map Fd.one = (l.take k).map Fd.one ++ [(x, x)] := by
  rw [take_snoc hk hx, List.map_append]; rfl
end Go.Proofs.YtecclhmjmceheaaGreatDoor
namespace Go.Proofs.YtecclhmjmceheaaGreatDoor
open Go.RowKit
set_option linter.unusedVariables false
def m3 (B : List (Int × Int)) (j : Nat) (lo : Int) (k : Nat) : List (Int × Int) := Fd.famsL (B.take j) ++ Fd.famsUp lo k
structure UpSt (B : List (Int × Int)) (j : Nat) (lo : Int) (k : Nat) (F : List Int) : Prop where
  eq : m3 B j lo (k + 1) = m3 B j lo k ++ F.map Fd.one
  len : (m3 B j lo k).length ≤ 7000000
theorem upSt {B : List (Int × Int)} (hB : Rg.NormL B) (j : Nat) (lo c : Int) (k : Nat) (hk : k ≤ 1114112) (F : List Int) (hc : lo + k = c) (hF : Fd.fam c = F) : UpSt B j lo k F := by
  subst hc; subst hF
  refine ⟨by unfold m3; rw [List.append_assoc]; rfl, ?_⟩
  have h1 := Fd.famsL_take hB j
  have h2 := Fd.famsUp_len lo k
  unfold m3; rw [List.length_append]; omega
structure RowSt (B : List (Int × Int)) (j : Nat) (lo : Int) (m : Nat) : Prop where
  eq : Fd.famsL (B.take (j + 1)) = m3 B j lo m
theorem rowSt {B : List (Int × Int)} (j : Nat) (hj : j < B.length) (lo hi : Int) (h : B[j]?.getD (0, 0) = (lo, hi)) : RowSt B j lo (hi - lo + 1).toNat := by
  refine ⟨?_⟩
  rw [Fd.famsL_succ B j hj, h]; rfl
def XCell (w : World) (g : Nat) (lo hi : Int) : Prop := g < w.heap.size ∧ w.cell? ⟨g, 0, none⟩ = some (.int .i64 lo) ∧ w.cell? ⟨g, 1, none⟩ = some (.int .i64 hi)
set_option maxRecDepth 100000 in
set_option maxHeartbeats 8000000 in
theorem close_any (W : World) (va : Value) (l : List (Int × Int)) (ha : RRow W va l) :
    Calls Tryz.prog 124 #[va] W (ClosePost l W) := by
  obtain ⟨i0, hi0, hz0, hz1, hz2⟩ := info_parts Tryz.infoRange
  have HA := Lib.hid ha
  clear ha
  go_enter Tryz.func124, Tryz.ntmps124
  go_wp2_with fail
  refine (paired_any _).mono ?_
  rintro e w1 ⟨vp, rfl, hop, hb1⟩
  have HP1 := Lib.hid (hop.row (by have := Fd.pairedOf_len Fd.blocksL; rw [Fd.blocks_len] at this; unfold Fd.pairedL; omega) (fun p hp => by have := Fd.paired_bd p hp; omega))
  have HA1 := Lib.hid (HA.out.below (Nat.le_refl _) hb1)
  have HB1 := Lib.hid hb1
  clear hop hb1 HA
  go_wp2_with fail
  refine (both_any _ _ _ _ _ HA1.out HP1.out).mono ?_
  rintro e w2 ⟨vb, B, rfl, hm, hob, hb2⟩
  have HM := Lib.hid hm
  have hln := Rg.norm_len B 0 hm.norm (by omega)
  obtain ⟨ba, bc, rfl, hbl, hbw, hbc⟩ := hob.normRow hm.norm
  have HBC := Lib.hid hbc
  have HA2 := Lib.hid (HA1.out.below (Nat.le_refl _) hb2)
  have HB2 := Lib.hid (HB1.out.trans (hb2.mono HB1.out.size))
  have HNB := Lib.hid hm.norm
  obtain ⟨n, hn⟩ : ∃ n, B.length = n := ⟨_, rfl⟩
  have HN := Lib.hid hn
  rw [hn] at hbl HBC hln ⊢
  clear hm hbw hbc hb2 hob hn HP1 HA1 HB1
  go_wp2
  go_loopw [3, 13] (fun O I wr => ∃ j : Nat, j ≤ n ∧ I = .int .i64 j ∧ Hid (RgOwn wr w2.heap.size O (Fd.famsL (B.take j))) ∧ Hid (Below w2.heap.size w2 wr)) (fun _ I _ => n - (intOf I).toNat)
  case atStart => exact ⟨0, Nat.zero_le _, rfl, Lib.hid (by rw [List.take_zero]; exact RgOwn.nil), Lib.hid (Below.refl _ _)⟩
  case round =>
    obtain ⟨j, hj, rfl, HO, HE⟩ := hrel
    obtain ⟨wo, rfl⟩ : ∃ wo : World, wo = wr := ⟨_, rfl⟩
    have hsz := HE.out.size
    by_cases hlt : j < n
    · obtain ⟨g, off, rfl, hg, hc1, hc2⟩ := HBC.out j hlt
      rw [← HE.out.cell (p := ⟨g, off + j * 2, none⟩) hg] at hc1
      rw [← HE.out.cell (p := ⟨g, off + j * 2 + 1, none⟩) hg] at hc2
      obtain ⟨g1, g2, g3⟩ := Rg.norm_get HNB.out j (by rw [HN.out]; exact hlt)
      have HRS0 := Lib.hid (rowSt j (by rw [HN.out]; exact hlt) (B[j]?.getD (0, 0)).1 (B[j]?.getD (0, 0)).2 rfl)
      obtain ⟨p, hp⟩ : ∃ p, B[j]?.getD (0, 0) = p := ⟨_, rfl⟩
      rw [hp] at hc1 hc2 g1 g2 g3 HRS0
      clear hp
      obtain ⟨lo, hi⟩ := p
      dsimp only at hc1 hc2 g1 g2 g3
      obtain ⟨m, hm⟩ : ∃ m, (hi - lo + 1).toNat = m := ⟨_, rfl⟩
      have HRS : RowSt B j lo m := by have := HRS0.out; dsimp only at this; rwa [hm] at this
      have hm2 : (m : Int) = hi - lo + 1 := by omega
      have HO0 : Hid (RgOwn (wo.alloc (.cells #[.int .i64 lo, .int .i64 hi] 103)) w2.heap.size u3 (m3 B j lo 0)) := Lib.hid (by
        unfold m3 Fd.famsUp; rw [List.append_nil]; exact HO.out.alloc _)
      have HX0 : Hid (XCell (wo.alloc (.cells #[.int .i64 lo, .int .i64 hi] 103)) wo.heap.size lo hi) := Lib.hid ⟨by simp, by simp, by simp⟩
      have HG0 : Hid (u3.ownBlock ≠ some wo.heap.size) := Lib.hid (fun e => by have := (own_block_some HO.out e).2; omega)
      have HE0 := Lib.hid (HE.out.alloc hsz (.cells #[.int .i64 lo, .int .i64 hi] 103))
      clear HRS0 hm HO
      go_wp2
      go_loopw [3, 6] (fun O Rv wq => ∃ k : Nat, k ≤ m ∧ Rv = .int .i64 (lo + k) ∧ Hid (RgOwn wq w2.heap.size O (m3 B j lo k)) ∧ Hid (O.ownBlock ≠ some wo.heap.size) ∧ Hid (XCell wq wo.heap.size lo hi) ∧ Hid (Below w2.heap.size w2 wq)) (fun _ Rv _ => (hi + 1 - intOf Rv).toNat)
      case atStart => exact ⟨0, Nat.zero_le _, by simp, HO0, HG0, HX0, HE0⟩
      case round =>
        obtain ⟨k, hk, rfl, HO1, HG1, HX1, HE1⟩ := hrel
        obtain ⟨wq, rfl⟩ : ∃ wq : World, wq = wr := ⟨_, rfl⟩
        obtain ⟨hx0, hx1, hx2⟩ := HX1.out
        by_cases hlk : k < m
        · obtain ⟨c, hc⟩ : ∃ c, lo + (k : Int) = c := ⟨_, rfl⟩
          obtain ⟨F, hF⟩ : ∃ F, Fd.fam c = F := ⟨_, rfl⟩
          have HUS := upSt HNB.out j lo c k (by omega) F hc hF
          have hfa := fam_any wq c
          have hfl := Fd.fam_len c
          rw [hF] at hfa hfl
          have HFA := Lib.hid hfa
          have c1 : c ≤ hi := by omega
          rw [hc]
          have HC := Lib.hid hc
          have c2 : 0 ≤ c := by omega
          have c3 : c ≤ 1114111 := by omega
          clear hc hF hfa
          go_wp2_with fail
          refine HFA.out.mono ?_
          rintro e w3 ⟨vf, rfl, hof, hbf⟩
          have hfr := hof.fresh
          obtain ⟨fa, fc, rfl, hf1, hf2, hfc⟩ := hof.row
          obtain ⟨fb, rfl, hfb, _⟩ := hfc 0 hfl.1
          have hge : wq.heap.size ≤ fb := hfr fb 0 none _ fc rfl
          obtain ⟨nf, hnf⟩ : ∃ nf, F.length = nf := ⟨_, rfl⟩
          rw [hnf] at hfl hf1 hfc ⊢
          have HNF := Lib.hid hnf
          obtain ⟨f1, f3⟩ := hfl
          have HFW : Hid (∀ i, i < nf → w3.cell? ⟨fb, i, none⟩ = some (.int .i64 (F[i]?.getD 0))) := Lib.hid (fun i hi => by
            obtain ⟨b', hbb, _, h1⟩ := hfc i hi
            injection hbb with hbb; injection hbb with hbb; subst hbb
            exact h1)
          have hsq := HE1.out.size
          have HO2 := Lib.hid (HO1.out.below hbf)
          have HF2 : Hid (u3.ownBlock ≠ some fb) := Lib.hid (fun e => by have := (own_block_some HO1.out e).2; omega)
          have HX2 : Hid (XCell w3 wo.heap.size lo hi) := Lib.hid ⟨by have := hbf.size; omega, (hbf.cell (p := ⟨wo.heap.size, 0, none⟩) hx0).trans hx1, (hbf.cell (p := ⟨wo.heap.size, 1, none⟩) hx0).trans hx2⟩
          have HE2 := Lib.hid (HE1.out.trans (hbf.mono hsq))
          clear hof hfr hfc hbf hnf hx1 hx2 hx0
          go_wp2
          go_loopw [3, 28] (fun O T wu => ∃ t : Nat, t ≤ nf ∧ T = .int .i64 t ∧ Hid (RgOwn wu w2.heap.size O (m3 B j lo k ++ (F.take t).map Fd.one)) ∧ Hid (O.ownBlock ≠ some wo.heap.size) ∧ Hid (O.ownBlock ≠ some fb) ∧ Hid (∀ i, i < nf → wu.cell? ⟨fb, i, none⟩ = some (.int .i64 (F[i]?.getD 0))) ∧ fb < wu.heap.size ∧ Hid (XCell wu wo.heap.size lo hi) ∧ Hid (Below w2.heap.size w2 wu)) (fun _ T _ => nf - (intOf T).toNat)
          case atStart => exact ⟨0, Nat.zero_le _, rfl, by rw [List.take_zero, List.map_nil, List.append_nil]; exact HO2, HG1, HF2, HFW, hfb, HX2, HE2⟩
          case round =>
            obtain ⟨t, ht, rfl, HO4, HG4, HF4, HFW4, hfw4, HX4, HE4⟩ := hrel
            obtain ⟨wv, rfl⟩ : ∃ wv : World, wv = wr := ⟨_, rfl⟩
            have hsz4 := HE4.out.size
            by_cases hltk : t < nf
            · have hx4 := HFW4.out t hltk
              have HTM := Lib.hid (map_take_succ F t (by rw [HNF.out]; exact hltk) _ rfl)
              obtain ⟨x, ex⟩ : ∃ x, F[t]?.getD 0 = x := ⟨_, rfl⟩
              rw [ex] at hx4 HTM
              clear ex
              have hml : (m3 B j lo k ++ (F.take t).map Fd.one).length ≤ 7000003 := by
                have := HUS.len; rw [List.length_append, List.length_map, List.length_take]; omega
              have hown := HO4.out
              unfold RgOwn at hown
              obtain ⟨M, hM⟩ : ∃ M, m3 B j lo k ++ (F.take t).map Fd.one = M := ⟨_, rfl⟩
              have hM2 : m3 B j lo k ++ (F.take (t + 1)).map Fd.one = M ++ [(x, x)] := by rw [HTM.out, ← List.append_assoc, hM]
              rw [hM] at hown hml
              obtain ⟨z, hz⟩ : ∃ z, M.length = z := ⟨_, rfl⟩
              rw [hz] at hown hml
              have HM4 := Lib.hid hM2
              have HMM := Lib.hid hz
              have k0 : (0 : Int) ≤ (t : Int) := by omega
              have k1 : (t : Int) < (nf : Int) := by omega
              clear hM hM2 hz
              go_wp2_with (at_builtin; (refine wpList_append_lies _ (by rfl) _ _ 33 (by rfl) w2.heap.size 103 i0 (.agg #[.int .i64 0, .int .i64 0]) 2 16 Tryz.underlying33 hi0 hz0 hz1 hz2 rfl (by decide) _ z (flat2 M) (by rfl) (hown.alloc _) ⟨wv.heap.size, 0, none⟩ 1 1 [.int .i64 x, .int .i64 x] (by rfl) rfl (World.news_of_block (cs := #[.int .i64 x, .int .i64 x]) (heap_alloc_new wv _)) (by simp [Value.oneCell']) (by omega) (by unfold maxLen; omega) (by omega) (by simp; omega) (wv.heap.size + 1) (by simp) ?_))
              intro gg cap1 wz hown1 hgrow hat hlt1
              have hO5 : RgOwn wz w2.heap.size (.slice (some ⟨gg, 0, none⟩) (z + 1) cap1) (m3 B j lo k ++ (F.take (t + 1)).map Fd.one) := by
                rw [HM4.out]; unfold RgOwn; rw [List.length_append, flat2_snoc, HMM.out]; exact hown1
              have hB5 := (HE4.out.alloc hsz4 _).grown hgrow (by simp; omega) (fun q hq => (hown.lt q hq).1)
              have hne : ∀ y, y < wv.heap.size → u3.ownBlock ≠ some y → (Value.slice (some ⟨gg, 0, none⟩) (z + 1) cap1).ownBlock ≠ some y := fun y hy hny e => by
                have e2 : gg = y := by simpa [Value.ownBlock] using e
                rcases hat with h | h
                · exact hny (by rw [h, e2])
                · omega
              have HG5 := Lib.hid (hne _ HX4.out.1 HG4.out)
              have HF5 := Lib.hid (hne _ hfw4 HF4.out)
              have hcl : ∀ (y i : Nat) (v : Value), y < wv.heap.size → u3.ownBlock ≠ some y → wv.cell? ⟨y, i, none⟩ = some v → wz.cell? ⟨y, i, none⟩ = some v := fun y i v hy hny hv => by
                refine hgrow.cell (a := ⟨y, i, none⟩) ?_ (Ne.symm hny)
                exact (World.cell?_alloc_lt wv _ ⟨y, i, none⟩ hy).trans hv
              have HFW5 : Hid (∀ i, i < nf → wz.cell? ⟨fb, i, none⟩ = some (.int .i64 (F[i]?.getD 0))) := Lib.hid (fun i hi => hcl fb i _ hfw4 HF4.out (HFW4.out i hi))
              have hss : wv.heap.size ≤ wz.heap.size := by have := hgrow.size; simp at this; omega
              have HX5 : Hid (XCell wz wo.heap.size lo hi) := Lib.hid ⟨by have := HX4.out.1; omega, hcl _ 0 _ HX4.out.1 HG4.out HX4.out.2.1, hcl _ 1 _ HX4.out.1 HG4.out HX4.out.2.2⟩
              have hfw5 : fb < wz.heap.size := by omega
              have HO5 := Lib.hid hO5
              have HE5 := Lib.hid hB5
              clear hO5 hown1 hgrow hown hB5 hat hlt1 hne hcl
              go_wp2
              go_roundw
              case rel => exact ⟨t + 1, by omega, by go_num, HO5, HG5, HF5, HFW5, hfw5, HX5, HE5⟩
              case measure => simp [intOf]; omega
            · obtain rfl : t = nf := by omega
              have hO5 := HO4.out
              rw [List.take_of_length_le (by rw [HNF.out]; exact Nat.le_refl _), ← HUS.eq] at hO5
              have HO5 := Lib.hid hO5
              clear hO5
              go_wp2
              go_roundw
              case rel => exact ⟨k + 1, by omega, by rw [show lo + ((k + 1 : Nat) : Int) = c + 1 from by have := HC.out; omega], HO5, HG4, HX4, HE4⟩
              case measure => simp [intOf]; omega
        · obtain rfl : k = m := by omega
          have hO5 := HO1.out
          rw [← HRS.eq] at hO5
          have HO5 := Lib.hid hO5
          have c1 : hi < lo + (k : Int) := by omega
          clear hO5
          go_wp2
          go_roundw
          case rel => exact ⟨j + 1, by omega, by go_num, HO5, HE1⟩
          case measure => simp [intOf]; omega
    · obtain rfl : j = n := by omega
      have hO5 := HO.out
      have hfl := Fd.famsL_take HNB.out j
      rw [List.take_of_length_le (by rw [HN.out]; exact Nat.le_refl _)] at hO5 hfl
      have HR := Lib.hid (hO5.row (by omega) (Fd.famsL_wide HNB.out))
      have HAW := Lib.hid (HA2.out.below (Nat.le_refl _) HE.out)
      have hsw := HB2.out.size
      clear hO5 hfl
      go_wp2_with fail
      refine (union_any _ _ _ _ _ HAW.out HR.out).mono ?_
      rintro e w5 ⟨v5, out, rfl, hm5, ho5, hb5⟩
      have HM5 := Lib.hid hm5
      have HO5 := Lib.hid ho5
      have HE5 := Lib.hid ((HB2.out.trans (HE.out.mono hsw)).trans (hb5.mono (by omega)))
      clear hm5 ho5 hb5
      go_wp2
      go_ret
      exact ⟨v5, out, rfl, HM5.out.norm, fun q => Fd.close_ok HM.out HM5.out q, HO5.out.lower (by omega), HE5.out⟩
end Go.Proofs.YtecclhmjmceheaaGreatDoor
