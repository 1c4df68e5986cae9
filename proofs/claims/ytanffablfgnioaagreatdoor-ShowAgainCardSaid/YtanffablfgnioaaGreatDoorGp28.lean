/- The landed fold: the contract of Close. · The landed bracket: Bracket. -/
import Derived.Test.YtanffablfgnioaaGreatDoorGp27
import Derived.Deep.AppendLies
import Derived.Test.YtanffablfgnioaaGreatDoorGp26
import Derived.Test.YtanffablfgnioaaGreatDoorGp22
import Derived.Test.YtanffablfgnioaaGreatDoorGp4
namespace Go.Proofs.YtanffablfgnioaaGreatDoor
open Go.RowKit
set_option linter.unusedVariables false
def m3 (B : List (Int × Int)) (j : Nat) (lo : Int) (k : Nat) : List (Int × Int) := Fd.famsL (B.take j) ++ Fd.famsUp lo k
structure UpSt (B : List (Int × Int)) (j : Nat) (lo : Int) (k : Nat) (F : List Int) : Prop where
  eq : m3 B j lo (k + 1) = m3 B j lo k ++ F.map Fd.one
  len : (m3 B j lo k).length ≤ 7000000
theorem upSt {B : List (Int × Int)} (hB : Rg.NormL B) (j : Nat) (lo c : Int) (k : Nat) (hk : k ≤ 1114112) (F : List Int) (hc : lo + k = c) (hF : Fd.fam c = F) : UpSt B j lo k F := by
  subst hc; subst hF
  refine ⟨by unfold m3; rw [List.append_assoc]; rfl, ?_⟩
  have h1 := Fd.famsL_take hB j
  have h2 := Fd.famsUp_len lo k
  unfold m3; rw [List.length_append]; omega
structure RowSt (B : List (Int × Int)) (j : Nat) (lo : Int) (m : Nat) : Prop where
  eq : Fd.famsL (B.take (j + 1)) = m3 B j lo m
theorem rowSt {B : List (Int × Int)} (j : Nat) (hj : j < B.length) (lo hi : Int) (h : B[j]?.getD (0, 0) = (lo, hi)) : RowSt B j lo (hi - lo + 1).toNat := by
  refine ⟨?_⟩
  rw [Fd.famsL_succ B j hj, h]; rfl
def XCell (w : World) (g : Nat) (lo hi : Int) : Prop := g < w.heap.size ∧ w.cell? ⟨g, 0, none⟩ = some (.int .i64 lo) ∧ w.cell? ⟨g, 1, none⟩ = some (.int .i64 hi)
set_option maxRecDepth 100000 in
set_option maxHeartbeats 8000000 in
theorem close_any (W : World) (va : Value) (l : List (Int × Int)) (ha : RRow W va l) :
    Calls Tryz.prog 85 #[va] W (ClosePost l W) := by
  obtain ⟨i0, hi0, hz0, hz1, hz2⟩ := info_parts Tryz.infoRange
  have HA := Lib.hid ha
  clear ha
  go_enter Tryz.func85, Tryz.ntmps85
  go_wp2_with fail
  refine (paired_any _).mono ?_
  rintro e w1 ⟨vp, rfl, hop, hb1⟩
  have HP1 := Lib.hid (hop.row (by have := Fd.pairedOf_len Fd.blocksL; rw [Fd.blocks_len] at this; unfold Fd.pairedL; omega) (fun p hp => by have := Fd.paired_bd p hp; omega))
  have HA1 := Lib.hid (HA.out.below (Nat.le_refl _) hb1)
  have HB1 := Lib.hid hb1
  clear hop hb1 HA
  go_wp2_with fail
  refine (both_any _ _ _ _ _ HA1.out HP1.out).mono ?_
  rintro e w2 ⟨vb, B, rfl, hm, hob, hb2⟩
  have HM := Lib.hid hm
  have hln := Rg.norm_len B 0 hm.norm (by omega)
  obtain ⟨ba, bc, rfl, hbl, hbw, hbc⟩ := hob.normRow hm.norm
  have HBC := Lib.hid hbc
  have HA2 := Lib.hid (HA1.out.below (Nat.le_refl _) hb2)
  have HB2 := Lib.hid (HB1.out.trans (hb2.mono HB1.out.size))
  have HNB := Lib.hid hm.norm
  obtain ⟨n, hn⟩ : ∃ n, B.length = n := ⟨_, rfl⟩
  have HN := Lib.hid hn
  rw [hn] at hbl HBC hln ⊢
  clear hm hbw hbc hb2 hob hn HP1 HA1 HB1
  go_wp2
  go_loopw [3, 13] (fun O I wr => ∃ j : Nat, j ≤ n ∧ I = .int .i64 j ∧ Hid (RgOwn wr w2.heap.size O (Fd.famsL (B.take j))) ∧ Hid (Below w2.heap.size w2 wr)) (fun _ I _ => n - (intOf I).toNat)
  case atStart => exact ⟨0, Nat.zero_le _, rfl, Lib.hid (by rw [List.take_zero]; exact RgOwn.nil), Lib.hid (Below.refl _ _)⟩
  case round =>
    obtain ⟨j, hj, rfl, HO, HE⟩ := hrel
    obtain ⟨wo, rfl⟩ : ∃ wo : World, wo = wr := ⟨_, rfl⟩
    have hsz := HE.out.size
    by_cases hlt : j < n
    · obtain ⟨g, off, rfl, hg, hc1, hc2⟩ := HBC.out j hlt
      rw [← HE.out.cell (p := ⟨g, off + j * 2, none⟩) hg] at hc1
      rw [← HE.out.cell (p := ⟨g, off + j * 2 + 1, none⟩) hg] at hc2
      obtain ⟨g1, g2, g3⟩ := Rg.norm_get HNB.out j (by rw [HN.out]; exact hlt)
      have HRS0 := Lib.hid (rowSt j (by rw [HN.out]; exact hlt) (B[j]?.getD (0, 0)).1 (B[j]?.getD (0, 0)).2 rfl)
      obtain ⟨p, hp⟩ : ∃ p, B[j]?.getD (0, 0) = p := ⟨_, rfl⟩
      rw [hp] at hc1 hc2 g1 g2 g3 HRS0
      clear hp
      obtain ⟨lo, hi⟩ := p
      dsimp only at hc1 hc2 g1 g2 g3
      obtain ⟨m, hm⟩ : ∃ m, (hi - lo + 1).toNat = m := ⟨_, rfl⟩
      have HRS : RowSt B j lo m := by have := HRS0.out; dsimp only at this; rwa [hm] at this
      have hm2 : (m : Int) = hi - lo + 1 := by omega
      have HO0 : Hid (RgOwn (wo.alloc (.cells #[.int .i64 lo, .int .i64 hi] 49)) w2.heap.size u3 (m3 B j lo 0)) := Lib.hid (by
        unfold m3 Fd.famsUp; rw [List.append_nil]; exact HO.out.alloc _)
      have HX0 : Hid (XCell (wo.alloc (.cells #[.int .i64 lo, .int .i64 hi] 49)) wo.heap.size lo hi) := Lib.hid ⟨by simp, by simp, by simp⟩
      have HG0 : Hid (u3.ownBlock ≠ some wo.heap.size) := Lib.hid (fun e => by have := (own_block_some HO.out e).2; omega)
      have HE0 := Lib.hid (HE.out.alloc hsz (.cells #[.int .i64 lo, .int .i64 hi] 49))
      clear HRS0 hm HO
      go_wp2
      go_loopw [3, 6] (fun O Rv wq => ∃ k : Nat, k ≤ m ∧ Rv = .int .i64 (lo + k) ∧ Hid (RgOwn wq w2.heap.size O (m3 B j lo k)) ∧ Hid (O.ownBlock ≠ some wo.heap.size) ∧ Hid (XCell wq wo.heap.size lo hi) ∧ Hid (Below w2.heap.size w2 wq)) (fun _ Rv _ => (hi + 1 - intOf Rv).toNat)
      case atStart => exact ⟨0, Nat.zero_le _, by simp, HO0, HG0, HX0, HE0⟩
      case round =>
        obtain ⟨k, hk, rfl, HO1, HG1, HX1, HE1⟩ := hrel
        obtain ⟨wq, rfl⟩ : ∃ wq : World, wq = wr := ⟨_, rfl⟩
        obtain ⟨hx0, hx1, hx2⟩ := HX1.out
        by_cases hlk : k < m
        · obtain ⟨c, hc⟩ : ∃ c, lo + (k : Int) = c := ⟨_, rfl⟩
          obtain ⟨F, hF⟩ : ∃ F, Fd.fam c = F := ⟨_, rfl⟩
          have HUS := upSt HNB.out j lo c k (by omega) F hc hF
          have hfa := fam_any wq c
          have hfl := Fd.fam_len c
          rw [hF] at hfa hfl
          have HFA := Lib.hid hfa
          have c1 : c ≤ hi := by omega
          rw [hc]
          have HC := Lib.hid hc
          have c2 : 0 ≤ c := by omega
          have c3 : c ≤ 1114111 := by omega
          clear hc hF hfa
          go_wp2_with fail
          refine HFA.out.mono ?_
          rintro e w3 ⟨vf, rfl, hof, hbf⟩
          have hfr := hof.fresh
          obtain ⟨fa, fc, rfl, hf1, hf2, hfc⟩ := hof.row
          obtain ⟨fb, rfl, hfb, _⟩ := hfc 0 hfl.1
          have hge : wq.heap.size ≤ fb := hfr fb 0 none _ fc rfl
          obtain ⟨nf, hnf⟩ : ∃ nf, F.length = nf := ⟨_, rfl⟩
          rw [hnf] at hfl hf1 hfc ⊢
          have HNF := Lib.hid hnf
          obtain ⟨f1, f3⟩ := hfl
          have HFW : Hid (∀ i, i < nf → w3.cell? ⟨fb, i, none⟩ = some (.int .i64 (F[i]?.getD 0))) := Lib.hid (fun i hi => by
            obtain ⟨b', hbb, _, h1⟩ := hfc i hi
            injection hbb with hbb; injection hbb with hbb; subst hbb
            exact h1)
          have hsq := HE1.out.size
          have HO2 := Lib.hid (HO1.out.below hbf)
          have HF2 : Hid (u3.ownBlock ≠ some fb) := Lib.hid (fun e => by have := (own_block_some HO1.out e).2; omega)
          have HX2 : Hid (XCell w3 wo.heap.size lo hi) := Lib.hid ⟨by have := hbf.size; omega, (hbf.cell (p := ⟨wo.heap.size, 0, none⟩) hx0).trans hx1, (hbf.cell (p := ⟨wo.heap.size, 1, none⟩) hx0).trans hx2⟩
          have HE2 := Lib.hid (HE1.out.trans (hbf.mono hsq))
          clear hof hfr hfc hbf hnf hx1 hx2 hx0
          go_wp2
          go_loopw [3, 28] (fun O T wu => ∃ t : Nat, t ≤ nf ∧ T = .int .i64 t ∧ Hid (RgOwn wu w2.heap.size O (m3 B j lo k ++ (F.take t).map Fd.one)) ∧ Hid (O.ownBlock ≠ some wo.heap.size) ∧ Hid (O.ownBlock ≠ some fb) ∧ Hid (∀ i, i < nf → wu.cell? ⟨fb, i, none⟩ = some (.int .i64 (F[i]?.getD 0))) ∧ fb < wu.heap.size ∧ Hid (XCell wu wo.heap.size lo hi) ∧ Hid (Below w2.heap.size w2 wu)) (fun _ T _ => nf - (intOf T).toNat)
          case atStart => exact ⟨0, Nat.zero_le _, rfl, by rw [List.take_zero, List.map_nil, List.append_nil]; exact HO2, HG1, HF2, HFW, hfb, HX2, HE2⟩
          case round =>
            obtain ⟨t, ht, rfl, HO4, HG4, HF4, HFW4, hfw4, HX4, HE4⟩ := hrel
            obtain ⟨wv, rfl⟩ : ∃ wv : World, wv = wr := ⟨_, rfl⟩
            have hsz4 := HE4.out.size
            by_cases hltk : t < nf
            · have hx4 := HFW4.out t hltk
              have HTM := Lib.hid (map_take_succ F t (by rw [HNF.out]; exact hltk) _ rfl)
              obtain ⟨x, ex⟩ : ∃ x, F[t]?.getD 0 = x := ⟨_, rfl⟩
              rw [ex] at hx4 HTM
              clear ex
              have hml : (m3 B j lo k ++ (F.take t).map Fd.one).length ≤ 7000003 := by
                have := HUS.len; rw [List.length_append, List.length_map, List.length_take]; omega
              have hown := HO4.out
              unfold RgOwn at hown
              obtain ⟨M, hM⟩ : ∃ M, m3 B j lo k ++ (F.take t).map Fd.one = M := ⟨_, rfl⟩
              have hM2 : m3 B j lo k ++ (F.take (t + 1)).map Fd.one = M ++ [(x, x)] := by rw [HTM.out, ← List.append_assoc, hM]
              rw [hM] at hown hml
              obtain ⟨z, hz⟩ : ∃ z, M.length = z := ⟨_, rfl⟩
              rw [hz] at hown hml
              have HM4 := Lib.hid hM2
              have HMM := Lib.hid hz
              have k0 : (0 : Int) ≤ (t : Int) := by omega
              have k1 : (t : Int) < (nf : Int) := by omega
              clear hM hM2 hz
              go_wp2_with (at_builtin; (refine wpList_append_lies _ (by rfl) _ _ 23 (by rfl) w2.heap.size 49 i0 (.agg #[.int .i64 0, .int .i64 0]) 2 16 Tryz.underlying23 hi0 hz0 hz1 hz2 rfl (by decide) _ z (flat2 M) (by rfl) (hown.alloc _) ⟨wv.heap.size, 0, none⟩ 1 1 [.int .i64 x, .int .i64 x] (by rfl) rfl (World.news_of_block (cs := #[.int .i64 x, .int .i64 x]) (heap_alloc_new wv _)) (by simp [Value.oneCell']) (by omega) (by unfold maxLen; omega) (by omega) (by simp; omega) (wv.heap.size + 1) (by simp) ?_))
              intro gg cap1 wz hown1 hgrow hat hlt1
              have hO5 : RgOwn wz w2.heap.size (.slice (some ⟨gg, 0, none⟩) (z + 1) cap1) (m3 B j lo k ++ (F.take (t + 1)).map Fd.one) := by
                rw [HM4.out]; unfold RgOwn; rw [List.length_append, flat2_snoc, HMM.out]; exact hown1
              have hB5 := (HE4.out.alloc hsz4 _).grown hgrow (by simp; omega) (fun q hq => (hown.lt q hq).1)
              have hne : ∀ y, y < wv.heap.size → u3.ownBlock ≠ some y → (Value.slice (some ⟨gg, 0, none⟩) (z + 1) cap1).ownBlock ≠ some y := fun y hy hny e => by
                have e2 : gg = y := by simpa [Value.ownBlock] using e
                rcases hat with h | h
                · exact hny (by rw [h, e2])
                · omega
              have HG5 := Lib.hid (hne _ HX4.out.1 HG4.out)
              have HF5 := Lib.hid (hne _ hfw4 HF4.out)
              have hcl : ∀ (y i : Nat) (v : Value), y < wv.heap.size → u3.ownBlock ≠ some y → wv.cell? ⟨y, i, none⟩ = some v → wz.cell? ⟨y, i, none⟩ = some v := fun y i v hy hny hv => by
                refine hgrow.cell (a := ⟨y, i, none⟩) ?_ (Ne.symm hny)
                exact (World.cell?_alloc_lt wv _ ⟨y, i, none⟩ hy).trans hv
              have HFW5 : Hid (∀ i, i < nf → wz.cell? ⟨fb, i, none⟩ = some (.int .i64 (F[i]?.getD 0))) := Lib.hid (fun i hi => hcl fb i _ hfw4 HF4.out (HFW4.out i hi))
              have hss : wv.heap.size ≤ wz.heap.size := by have := hgrow.size; simp at this; omega
              have HX5 : Hid (XCell wz wo.heap.size lo hi) := Lib.hid ⟨by have := HX4.out.1; omega, hcl _ 0 _ HX4.out.1 HG4.out HX4.out.2.1, hcl _ 1 _ HX4.out.1 HG4.out HX4.out.2.2⟩
              have hfw5 : fb < wz.heap.size := by omega
              have HO5 := Lib.hid hO5
              have HE5 := Lib.hid hB5
              clear hO5 hown1 hgrow hown hB5 hat hlt1 hne hcl
              go_wp2
              go_roundw
              case rel => exact ⟨t + 1, by omega, by go_num, HO5, HG5, HF5, HFW5, hfw5, HX5, HE5⟩
              case measure => simp [intOf]; omega
            · obtain rfl : t = nf := by omega
              have hO5 := HO4.out
              rw [List.take_of_length_le (by rw [HNF.out]; exact Nat.le_refl _), ← HUS.eq] at hO5
              have HO5 := Lib.hid hO5
              clear hO5
              go_wp2
              go_roundw
              case rel => exact ⟨k + 1, by omega, by rw [show lo + ((k + 1 : Nat) : Int) = c + 1 from by have := HC.out; omega], HO5, HG4, HX4, HE4⟩
              case measure => simp [intOf]; omega
        · obtain rfl : k = m := by omega
          have hO5 := HO1.out
          rw [← HRS.eq] at hO5
          have HO5 := Lib.hid hO5
          have c1 : hi < lo + (k : Int) := by omega
          clear hO5
          go_wp2
          go_roundw
          case rel => exact ⟨j + 1, by omega, by go_num, HO5, HE1⟩
          case measure => simp [intOf]; omega
    · obtain rfl : j = n := by omega
      have hO5 := HO.out
      have hfl := Fd.famsL_take HNB.out j
      rw [List.take_of_length_le (by rw [HN.out]; exact Nat.le_refl _)] at hO5 hfl
      have HR := Lib.hid (hO5.row (by omega) (Fd.famsL_wide HNB.out))
      have HAW := Lib.hid (HA2.out.below (Nat.le_refl _) HE.out)
      have hsw := HB2.out.size
      clear hO5 hfl
      go_wp2_with fail
      refine (union_any _ _ _ _ _ HAW.out HR.out).mono ?_
      rintro e w5 ⟨v5, out, rfl, hm5, ho5, hb5⟩
      have HM5 := Lib.hid hm5
      have HO5 := Lib.hid ho5
      have HE5 := Lib.hid ((HB2.out.trans (HE.out.mono hsw)).trans (hb5.mono (by omega)))
      clear hm5 ho5 hb5
      go_wp2
      go_ret
      exact ⟨v5, out, rfl, HM5.out.norm, fun q => Fd.close_ok HM.out HM5.out q, HO5.out.lower (by omega), HE5.out⟩
end Go.Proofs.YtanffablfgnioaaGreatDoor
namespace Go.Proofs.YtanffablfgnioaaGreatDoor
open Go.RowKit
set_option linter.unusedVariables false
/-- What Bracket hands back. -/
def BrkPost (s : ByteArray) (fold : Bool) (W : World) (e : Ending) (w' : World) : Prop :=
  Below W.heap.size W w' ∧ ((∃ o c, Br.brack s = .bad o c ∧ e = .returned (.tuple #[.slice none 0 0, .int .i64 o, .int .i64 c])) ∨
    (∃ Xs at_ v out, Br.brack s = .ok Xs at_ ∧ e = .returned (.tuple #[v, .int .i64 ((at_ + 1 : Nat) : Int), .int .i64 0]) ∧ Br.BrIs Xs fold (decide (Br.first (Utf.nums s) = 2)) out ∧ RgOwn w' W.heap.size v out))
set_option maxRecDepth 100000 in
set_option maxHeartbeats 8000000 in
theorem brk_any (W : World) (s : ByteArray) (hs : s.size ≤ 4096) (flags : Int) (fo : Bool) (hfo : (bits .and .i64 flags 1 != 0) = fo) (hE : Ev W) :
    Calls Tryz.prog 57 #[.string s, .int .i64 flags] W (BrkPost s fo W) := by
  have hp := hasPre1 W s 91 (by decide)
  rw [show (((91 : UInt8).toNat : Nat) : Int) = 91 from rfl] at hp
  by_cases c0 : ¬ (Utf.nums s)[0]?.getD 0 = 91
  · have HR : Hid (Br.brack s = .bad 0 3) := Lib.hid (Br.brack_no c0)
    rw [decide_eq_false c0] at hp
    have HP := Lib.hid hp
    clear hp c0
    go_enter Tryz.func57, Tryz.ntmps57
    go_wp2_with fail
    refine HP.out.mono ?_
    rintro e w' ⟨rfl, rfl⟩
    go_wp2
    go_ret3
    exact ⟨Below.refl _ _, .inl ⟨_, _, HR.out, rfl⟩⟩
  have c0' : (Utf.nums s)[0]?.getD 0 = 91 := by omega
  have h1 : 1 ≤ s.size := by
    have := Br.getD_lt c0' (by decide)
    rw [Utf.nums_length] at this; exact this
  have h1i : (1 : Int) ≤ (s.size : Int) := by omega
  rw [decide_eq_true c0'] at hp
  have hp2 := fun w => hasPre1 w (s.extract 1 s.size) 94 (by decide)
  rw [show (((94 : UInt8).toNat : Nat) : Int) = 94 from rfl, tail_drop, List.getElem?_drop] at hp2
  have HP := Lib.hid hp
  have HP2 := Lib.hid hp2
  clear hp hp2
  go_enter Tryz.func57, Tryz.ntmps57
  go_wp2_with fail
  refine HP.out.mono ?_
  rintro e w' ⟨rfl, rfl⟩
  by_cases c1 : (Utf.nums s)[1]?.getD 0 = 94
  · have HQ1 := HP2.out
    simp only [Nat.add_zero, c1, decide_true] at HQ1
    have HQ2 := Lib.hid HQ1
    clear HQ1
    have HFS : Hid (decide (Br.first (Utf.nums s) = 2) = true) := Lib.hid (by unfold Br.first; rw [if_pos c1]; rfl)
    have HBK0 : Hid (Br.brack s = Br.rest s 2 2 []) := Lib.hid (by rw [Br.brack_yes c0']; unfold Br.first; rw [if_pos c1])
    obtain ⟨RR, hRR⟩ : ∃ RR, Br.rest s 2 2 [] = RR := ⟨_, rfl⟩
    have HBK : Hid (Br.brack s = RR) := Lib.hid (HBK0.out.trans hRR)
    have HRR := Lib.hid hRR
    have hf2 : 2 ≤ s.size := by
      have := Br.getD_lt c1 (by decide); rw [Utf.nums_length] at this; omega
    have HB0 : Hid (Below W.heap.size W (W.alloc (.cells #[.slice none 0 0] 23))) := Lib.hid ((Below.refl _ W).alloc (Nat.le_refl _) _)
    have HST0 : Hid (St W.heap.size W.heap.size [] (W.alloc (.cells #[.slice none 0 0] 23))) := Lib.hid ⟨_, Boxed.new _ _ _, RgOwn.nil⟩
    have HE := Lib.hid hE
    clear c1 c0 c0' hRR hE
    go_wp2_with fail
    refine (HQ2.out _).mono ?_
    rintro e w' ⟨rfl, rfl⟩
    go_wp2
    go_loopw [7, 6] (fun A E wr => ∃ (k : Nat) (L : List (Int × Int)) (Xs : List Br.It), 2 ≤ k ∧ k ≤ s.size ∧ A = .int .i64 (k : Int) ∧ L.length ≤ k * 1114113 ∧ Hid (Br.rest s 2 k Xs = RR) ∧ Hid (Br.ItsIs Xs L) ∧ Hid (Br.Runes L) ∧ Hid (St W.heap.size W.heap.size L wr) ∧ Hid (Below W.heap.size W wr)) (fun A _ _ => s.size - (intOf A).toNat)
    case atStart => exact ⟨2, [], [], Nat.le_refl _, hf2, rfl, Nat.zero_le _, HRR, Lib.hid .nil, Lib.hid (fun p hp => by cases hp), HST0, HB0⟩
    case round =>
      obtain ⟨k, L, Xs, hk1, hk2', rfl, hLl, HRS, HIT, HRN, HST, HBW⟩ := hrel
      have hki : (k : Int) ≤ (s.size : Int) := by omega
      have HP5 := Lib.hid (fun w => hasPre1 w (s.extract k s.size) 93 (by decide))
      rw [show (((93 : UInt8).toNat : Nat) : Int) = 93 from rfl, tail_drop, List.getElem?_drop, Nat.add_zero] at HP5
      obtain ⟨vu, hbx, hu⟩ := HST.out
      have HU := Lib.hid hu
      have hbc := hbx.cell
      have hE1 := HE.out.below (Nat.le_refl _) HBW.out
      have HIA := Lib.hid (bItem_any wr s (by omega) k W.heap.size W.heap.size L hk2' hE1 HBW.out.size (Nat.le_refl _) HST.out (by omega))
      clear hbx hu hE1
      by_cases hend : k = s.size
      · have HRB : Hid (Br.brack s = .bad (k : Nat) 82) := Lib.hid (HBK.out.trans (HRS.out.symm.trans (by rw [hend]; exact Br.rest_end (Nat.le_refl _))))
        have h82 : ((k : Int) == (s.size : Int)) = true := by simp [hend]
        have HND : Hid (decide ((Utf.nums s)[k]?.getD 0 = 93) = false) := Lib.hid (decide_eq_false (by rw [List.getElem?_eq_none (by rw [Utf.nums_length]; omega)]; decide))
        rw [HND.out] at HP5
        by_cases hf : k = 2
        · have hfb : ((k : Int) == 2) = true := by simp [hf]
          clear hend hf HIA
          go_wp2
          go_ret3
          exact ⟨HBW.out, .inl ⟨_, _, HRB.out, rfl⟩⟩
        · have hfb : ((k : Int) == 2) = false := by simp; omega
          clear hend hf HIA
          go_wp2_with fail
          refine (HP5.out _).mono ?_
          rintro e w' ⟨rfl, rfl⟩
          go_wp2
          go_ret3
          exact ⟨HBW.out, .inl ⟨_, _, HRB.out, rfl⟩⟩
      have hk2 : k < s.size := by omega
      have h82 : ((k : Int) == (s.size : Int)) = false := by simp; omega
      by_cases hf : k = 2
      · have hfb : ((k : Int) == 2) = true := by simp [hf]
        have HNC : Hid (¬ ((Utf.nums s)[k]?.getD 0 = 93 ∧ 2 < k)) := Lib.hid (by omega)
        clear hend hf
        go_wp2_with fail
        refine HIA.out.mono ?_
        intro e w1 hpost
        rcases hpost with ⟨hb1, ⟨o, c, hx, rfl⟩ | ⟨x, nx, l, hx, rfl, hi1, hs1⟩⟩
        · have hc0 : (c != 0) = true := by simpa using Br.item_ne s k o c hx
          have HRB : Hid (Br.brack s = .bad o c) := Lib.hid (HBK.out.trans (HRS.out.symm.trans (Br.rest_bad hk2 HNC.out hx)))
          have HB1 := Lib.hid (HBW.out.trans hb1)
          clear hx hb1 hbc
          go_wp2
          go_ret3
          exact ⟨HB1.out, .inl ⟨_, _, HRB.out, rfl⟩⟩
        · have hbd := Br.item_bd s k x nx hx
          have HRS2 : Hid (Br.rest s 2 nx (Xs ++ [x]) = RR) := Lib.hid ((Br.rest_step hk2 HNC.out hx).symm.trans HRS.out)
          have HIT2 := Lib.hid (Br.ItsIs.snoc HIT.out hi1)
          have HRN2 := Lib.hid (Br.runes_app HRN.out (Br.itIs_runes (Br.item_ok s k x nx hx) hi1))
          have HB1 := Lib.hid (HBW.out.trans hb1)
          have HS1 := Lib.hid hs1
          have hln := Br.itIs_len hi1
          have HLN : Hid ((L ++ l).length ≤ nx * 1114113) := Lib.hid (by rw [List.length_append]; omega)
          clear hx hb1 hbc hs1 hi1 hln
          go_wp2
          go_roundw
          case rel => exact ⟨nx, L ++ l, Xs ++ [x], by omega, by omega, rfl, HLN.out, HRS2, HIT2, HRN2, HS1, HB1⟩
          case measure => simp [intOf]; omega

      have hfb : ((k : Int) == 2) = false := by simp; omega
      by_cases h93 : (Utf.nums s)[k]?.getD 0 = 93
      · rw [decide_eq_true h93] at HP5
        have HRO : Hid (Br.brack s = .ok Xs k) := Lib.hid (HBK.out.trans (HRS.out.symm.trans (Br.rest_close hk2 h93 (by omega))))
        obtain ⟨k1, hk1e⟩ : ∃ k1, k + 1 = k1 := ⟨_, rfl⟩
        have hw : IntKind.i64.wrap ((k : Int) + 1) = (k1 : Int) := by rw [IntKind.wrap_i64]; omega
        have HK1 := Lib.hid hk1e
        clear hend hf h93 HIA hk1e
        cases fo with
        | true =>
          go_wp2_with fail
          refine (HP5.out _).mono ?_
          rintro e w' ⟨rfl, rfl⟩
          go_wp2_with fail
          refine (norm_any _ vu L (RgOwn.row HU.out (by omega) (Br.runes_wide HRN.out))).mono ?_
          rintro e w1 ⟨v1, M1, rfl, hm1, ho1, hb1⟩
          have HM1 := Lib.hid hm1
          have HO1 := Lib.hid (ho1.lower HBW.out.size)
          have HB1 := Lib.hid (HBW.out.trans (hb1.mono HBW.out.size))
          clear hm1 ho1 hb1 hbc
          go_wp2_with fail
          refine (close_any _ v1 M1 (RgOwn.normRow HO1.out HM1.out.norm)).mono ?_
          rintro e w2 ⟨v2, o2, rfl, hn2, hc2, ho2, hb2⟩
          have HI2 := Lib.hid (Br.brIs_fold HIT.out HM1.out hn2 hc2)
          have HO2 := Lib.hid (ho2.lower HB1.out.size)
          have HB2 := Lib.hid (HB1.out.trans (hb2.mono HB1.out.size))
          have HN2 := Lib.hid hn2
          clear hn2 hc2 ho2 hb2
          go_wp2_with fail
          refine (not_any _ v2 _ (RgOwn.normRow HO2.out HN2.out)).mono ?_
          rintro e w3 ⟨v3, o3, rfl, hm3, ho3, hb3⟩
          have HI3 := Lib.hid (Br.brIs_not HI2.out hm3)
          have HO3 := Lib.hid (ho3.lower HB2.out.size)
          have HB3 := Lib.hid (HB2.out.trans (hb3.mono HB2.out.size))
          clear hm3 ho3 hb3
          go_wp2
          go_ret3
          refine ⟨HB3.out, .inr ⟨Xs, k, v3, _, HRO.out, by rw [HK1.out]; rfl, ?_, HO3.out⟩⟩
          rw [HFS.out]
          exact HI3.out
        | false =>
          go_wp2_with fail
          refine (HP5.out _).mono ?_
          rintro e w' ⟨rfl, rfl⟩
          go_wp2_with fail
          refine (norm_any _ vu L (RgOwn.row HU.out (by omega) (Br.runes_wide HRN.out))).mono ?_
          rintro e w1 ⟨v1, M1, rfl, hm1, ho1, hb1⟩
          have HM1 := Lib.hid hm1
          have HO1 := Lib.hid (ho1.lower HBW.out.size)
          have HB1 := Lib.hid (HBW.out.trans (hb1.mono HBW.out.size))
          clear hm1 ho1 hb1 hbc
          have HI1 := Lib.hid (Br.brIs_plain HIT.out HM1.out)
          go_wp2_with fail
          refine (not_any _ v1 _ (RgOwn.normRow HO1.out HM1.out.norm)).mono ?_
          rintro e w3 ⟨v3, o3, rfl, hm3, ho3, hb3⟩
          have HI3 := Lib.hid (Br.brIs_not HI1.out hm3)
          have HO3 := Lib.hid (ho3.lower HB1.out.size)
          have HB3 := Lib.hid (HB1.out.trans (hb3.mono HB1.out.size))
          clear hm3 ho3 hb3
          go_wp2
          go_ret3
          refine ⟨HB3.out, .inr ⟨Xs, k, v3, _, HRO.out, by rw [HK1.out]; rfl, ?_, HO3.out⟩⟩
          rw [HFS.out]
          exact HI3.out
      · rw [decide_eq_false h93] at HP5
        have HNC : Hid (¬ ((Utf.nums s)[k]?.getD 0 = 93 ∧ 2 < k)) := Lib.hid (by omega)
        clear hend hf h93
        go_wp2_with fail
        refine (HP5.out _).mono ?_
        rintro e w' ⟨rfl, rfl⟩
        go_wp2_with fail
        refine HIA.out.mono ?_
        intro e w1 hpost
        rcases hpost with ⟨hb1, ⟨o, c, hx, rfl⟩ | ⟨x, nx, l, hx, rfl, hi1, hs1⟩⟩
        · have hc0 : (c != 0) = true := by simpa using Br.item_ne s k o c hx
          have HRB : Hid (Br.brack s = .bad o c) := Lib.hid (HBK.out.trans (HRS.out.symm.trans (Br.rest_bad hk2 HNC.out hx)))
          have HB1 := Lib.hid (HBW.out.trans hb1)
          clear hx hb1 hbc
          go_wp2
          go_ret3
          exact ⟨HB1.out, .inl ⟨_, _, HRB.out, rfl⟩⟩
        · have hbd := Br.item_bd s k x nx hx
          have HRS2 : Hid (Br.rest s 2 nx (Xs ++ [x]) = RR) := Lib.hid ((Br.rest_step hk2 HNC.out hx).symm.trans HRS.out)
          have HIT2 := Lib.hid (Br.ItsIs.snoc HIT.out hi1)
          have HRN2 := Lib.hid (Br.runes_app HRN.out (Br.itIs_runes (Br.item_ok s k x nx hx) hi1))
          have HB1 := Lib.hid (HBW.out.trans hb1)
          have HS1 := Lib.hid hs1
          have hln := Br.itIs_len hi1
          have HLN : Hid ((L ++ l).length ≤ nx * 1114113) := Lib.hid (by rw [List.length_append]; omega)
          clear hx hb1 hbc hs1 hi1 hln
          go_wp2
          go_roundw
          case rel => exact ⟨nx, L ++ l, Xs ++ [x], by omega, by omega, rfl, HLN.out, HRS2, HIT2, HRN2, HS1, HB1⟩
          case measure => simp [intOf]; omega
  · have HQ1 := HP2.out
    simp only [Nat.add_zero, c1, decide_false] at HQ1
    have HQ2 := Lib.hid HQ1
    clear HQ1
    have HFS : Hid (decide (Br.first (Utf.nums s) = 2) = false) := Lib.hid (by unfold Br.first; rw [if_neg c1]; rfl)
    have HBK0 : Hid (Br.brack s = Br.rest s 1 1 []) := Lib.hid (by rw [Br.brack_yes c0']; unfold Br.first; rw [if_neg c1])
    obtain ⟨RR, hRR⟩ : ∃ RR, Br.rest s 1 1 [] = RR := ⟨_, rfl⟩
    have HBK : Hid (Br.brack s = RR) := Lib.hid (HBK0.out.trans hRR)
    have HRR := Lib.hid hRR
    have hf2 : 1 ≤ s.size := by
      omega
    have HB0 : Hid (Below W.heap.size W (W.alloc (.cells #[.slice none 0 0] 23))) := Lib.hid ((Below.refl _ W).alloc (Nat.le_refl _) _)
    have HST0 : Hid (St W.heap.size W.heap.size [] (W.alloc (.cells #[.slice none 0 0] 23))) := Lib.hid ⟨_, Boxed.new _ _ _, RgOwn.nil⟩
    have HE := Lib.hid hE
    clear c1 c0 c0' hRR hE
    go_wp2_with fail
    refine (HQ2.out _).mono ?_
    rintro e w' ⟨rfl, rfl⟩
    go_wp2
    go_loopw [7, 6] (fun A E wr => ∃ (k : Nat) (L : List (Int × Int)) (Xs : List Br.It), 1 ≤ k ∧ k ≤ s.size ∧ A = .int .i64 (k : Int) ∧ L.length ≤ k * 1114113 ∧ Hid (Br.rest s 1 k Xs = RR) ∧ Hid (Br.ItsIs Xs L) ∧ Hid (Br.Runes L) ∧ Hid (St W.heap.size W.heap.size L wr) ∧ Hid (Below W.heap.size W wr)) (fun A _ _ => s.size - (intOf A).toNat)
    case atStart => exact ⟨1, [], [], Nat.le_refl _, hf2, rfl, Nat.zero_le _, HRR, Lib.hid .nil, Lib.hid (fun p hp => by cases hp), HST0, HB0⟩
    case round =>
      obtain ⟨k, L, Xs, hk1, hk2', rfl, hLl, HRS, HIT, HRN, HST, HBW⟩ := hrel
      have hki : (k : Int) ≤ (s.size : Int) := by omega
      have HP5 := Lib.hid (fun w => hasPre1 w (s.extract k s.size) 93 (by decide))
      rw [show (((93 : UInt8).toNat : Nat) : Int) = 93 from rfl, tail_drop, List.getElem?_drop, Nat.add_zero] at HP5
      obtain ⟨vu, hbx, hu⟩ := HST.out
      have HU := Lib.hid hu
      have hbc := hbx.cell
      have hE1 := HE.out.below (Nat.le_refl _) HBW.out
      have HIA := Lib.hid (bItem_any wr s (by omega) k W.heap.size W.heap.size L hk2' hE1 HBW.out.size (Nat.le_refl _) HST.out (by omega))
      clear hbx hu hE1
      by_cases hend : k = s.size
      · have HRB : Hid (Br.brack s = .bad (k : Nat) 82) := Lib.hid (HBK.out.trans (HRS.out.symm.trans (by rw [hend]; exact Br.rest_end (Nat.le_refl _))))
        have h82 : ((k : Int) == (s.size : Int)) = true := by simp [hend]
        have HND : Hid (decide ((Utf.nums s)[k]?.getD 0 = 93) = false) := Lib.hid (decide_eq_false (by rw [List.getElem?_eq_none (by rw [Utf.nums_length]; omega)]; decide))
        rw [HND.out] at HP5
        by_cases hf : k = 1
        · have hfb : ((k : Int) == 1) = true := by simp [hf]
          clear hend hf HIA
          go_wp2
          go_ret3
          exact ⟨HBW.out, .inl ⟨_, _, HRB.out, rfl⟩⟩
        · have hfb : ((k : Int) == 1) = false := by simp; omega
          clear hend hf HIA
          go_wp2_with fail
          refine (HP5.out _).mono ?_
          rintro e w' ⟨rfl, rfl⟩
          go_wp2
          go_ret3
          exact ⟨HBW.out, .inl ⟨_, _, HRB.out, rfl⟩⟩
      have hk2 : k < s.size := by omega
      have h82 : ((k : Int) == (s.size : Int)) = false := by simp; omega
      by_cases hf : k = 1
      · have hfb : ((k : Int) == 1) = true := by simp [hf]
        have HNC : Hid (¬ ((Utf.nums s)[k]?.getD 0 = 93 ∧ 1 < k)) := Lib.hid (by omega)
        clear hend hf
        go_wp2_with fail
        refine HIA.out.mono ?_
        intro e w1 hpost
        rcases hpost with ⟨hb1, ⟨o, c, hx, rfl⟩ | ⟨x, nx, l, hx, rfl, hi1, hs1⟩⟩
        · have hc0 : (c != 0) = true := by simpa using Br.item_ne s k o c hx
          have HRB : Hid (Br.brack s = .bad o c) := Lib.hid (HBK.out.trans (HRS.out.symm.trans (Br.rest_bad hk2 HNC.out hx)))
          have HB1 := Lib.hid (HBW.out.trans hb1)
          clear hx hb1 hbc
          go_wp2
          go_ret3
          exact ⟨HB1.out, .inl ⟨_, _, HRB.out, rfl⟩⟩
        · have hbd := Br.item_bd s k x nx hx
          have HRS2 : Hid (Br.rest s 1 nx (Xs ++ [x]) = RR) := Lib.hid ((Br.rest_step hk2 HNC.out hx).symm.trans HRS.out)
          have HIT2 := Lib.hid (Br.ItsIs.snoc HIT.out hi1)
          have HRN2 := Lib.hid (Br.runes_app HRN.out (Br.itIs_runes (Br.item_ok s k x nx hx) hi1))
          have HB1 := Lib.hid (HBW.out.trans hb1)
          have HS1 := Lib.hid hs1
          have hln := Br.itIs_len hi1
          have HLN : Hid ((L ++ l).length ≤ nx * 1114113) := Lib.hid (by rw [List.length_append]; omega)
          clear hx hb1 hbc hs1 hi1 hln
          go_wp2
          go_roundw
          case rel => exact ⟨nx, L ++ l, Xs ++ [x], by omega, by omega, rfl, HLN.out, HRS2, HIT2, HRN2, HS1, HB1⟩
          case measure => simp [intOf]; omega

      have hfb : ((k : Int) == 1) = false := by simp; omega
      by_cases h93 : (Utf.nums s)[k]?.getD 0 = 93
      · rw [decide_eq_true h93] at HP5
        have HRO : Hid (Br.brack s = .ok Xs k) := Lib.hid (HBK.out.trans (HRS.out.symm.trans (Br.rest_close hk2 h93 (by omega))))
        obtain ⟨k1, hk1e⟩ : ∃ k1, k + 1 = k1 := ⟨_, rfl⟩
        have hw : IntKind.i64.wrap ((k : Int) + 1) = (k1 : Int) := by rw [IntKind.wrap_i64]; omega
        have HK1 := Lib.hid hk1e
        clear hend hf h93 HIA hk1e
        cases fo with
        | true =>
          go_wp2_with fail
          refine (HP5.out _).mono ?_
          rintro e w' ⟨rfl, rfl⟩
          go_wp2_with fail
          refine (norm_any _ vu L (RgOwn.row HU.out (by omega) (Br.runes_wide HRN.out))).mono ?_
          rintro e w1 ⟨v1, M1, rfl, hm1, ho1, hb1⟩
          have HM1 := Lib.hid hm1
          have HO1 := Lib.hid (ho1.lower HBW.out.size)
          have HB1 := Lib.hid (HBW.out.trans (hb1.mono HBW.out.size))
          clear hm1 ho1 hb1 hbc
          go_wp2_with fail
          refine (close_any _ v1 M1 (RgOwn.normRow HO1.out HM1.out.norm)).mono ?_
          rintro e w2 ⟨v2, o2, rfl, hn2, hc2, ho2, hb2⟩
          have HI2 := Lib.hid (Br.brIs_fold HIT.out HM1.out hn2 hc2)
          have HO2 := Lib.hid (ho2.lower HB1.out.size)
          have HB2 := Lib.hid (HB1.out.trans (hb2.mono HB1.out.size))
          have HN2 := Lib.hid hn2
          clear hn2 hc2 ho2 hb2
          go_wp2
          go_ret3
          refine ⟨HB2.out, .inr ⟨Xs, k, v2, _, HRO.out, by rw [HK1.out]; rfl, ?_, HO2.out⟩⟩
          rw [HFS.out]
          exact HI2.out
        | false =>
          go_wp2_with fail
          refine (HP5.out _).mono ?_
          rintro e w' ⟨rfl, rfl⟩
          go_wp2_with fail
          refine (norm_any _ vu L (RgOwn.row HU.out (by omega) (Br.runes_wide HRN.out))).mono ?_
          rintro e w1 ⟨v1, M1, rfl, hm1, ho1, hb1⟩
          have HM1 := Lib.hid hm1
          have HO1 := Lib.hid (ho1.lower HBW.out.size)
          have HB1 := Lib.hid (HBW.out.trans (hb1.mono HBW.out.size))
          clear hm1 ho1 hb1 hbc
          have HI1 := Lib.hid (Br.brIs_plain HIT.out HM1.out)
          go_wp2
          go_ret3
          refine ⟨HB1.out, .inr ⟨Xs, k, v1, _, HRO.out, by rw [HK1.out]; rfl, ?_, HO1.out⟩⟩
          rw [HFS.out]
          exact HI1.out
      · rw [decide_eq_false h93] at HP5
        have HNC : Hid (¬ ((Utf.nums s)[k]?.getD 0 = 93 ∧ 1 < k)) := Lib.hid (by omega)
        clear hend hf h93
        go_wp2_with fail
        refine (HP5.out _).mono ?_
        rintro e w' ⟨rfl, rfl⟩
        go_wp2_with fail
        refine HIA.out.mono ?_
        intro e w1 hpost
        rcases hpost with ⟨hb1, ⟨o, c, hx, rfl⟩ | ⟨x, nx, l, hx, rfl, hi1, hs1⟩⟩
        · have hc0 : (c != 0) = true := by simpa using Br.item_ne s k o c hx
          have HRB : Hid (Br.brack s = .bad o c) := Lib.hid (HBK.out.trans (HRS.out.symm.trans (Br.rest_bad hk2 HNC.out hx)))
          have HB1 := Lib.hid (HBW.out.trans hb1)
          clear hx hb1 hbc
          go_wp2
          go_ret3
          exact ⟨HB1.out, .inl ⟨_, _, HRB.out, rfl⟩⟩
        · have hbd := Br.item_bd s k x nx hx
          have HRS2 : Hid (Br.rest s 1 nx (Xs ++ [x]) = RR) := Lib.hid ((Br.rest_step hk2 HNC.out hx).symm.trans HRS.out)
          have HIT2 := Lib.hid (Br.ItsIs.snoc HIT.out hi1)
          have HRN2 := Lib.hid (Br.runes_app HRN.out (Br.itIs_runes (Br.item_ok s k x nx hx) hi1))
          have HB1 := Lib.hid (HBW.out.trans hb1)
          have HS1 := Lib.hid hs1
          have hln := Br.itIs_len hi1
          have HLN : Hid ((L ++ l).length ≤ nx * 1114113) := Lib.hid (by rw [List.length_append]; omega)
          clear hx hb1 hbc hs1 hi1 hln
          go_wp2
          go_roundw
          case rel => exact ⟨nx, L ++ l, Xs ++ [x], by omega, by omega, rfl, HLN.out, HRS2, HIT2, HRN2, HS1, HB1⟩
          case measure => simp [intOf]; omega
end Go.Proofs.YtanffablfgnioaaGreatDoor
