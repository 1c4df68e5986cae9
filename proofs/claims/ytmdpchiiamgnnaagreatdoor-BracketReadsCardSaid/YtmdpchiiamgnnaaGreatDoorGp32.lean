/- The reference's fold (burinref03): the contract of Family. · The reference's fold (burinref03): the contract of Next; burinbook.SameInts on rows. · The reference's fold (burinref03): the contract of Close. -/
import Derived.Test.YtmdpchiiamgnnaaGreatDoorGp31
import Derived.Test.YtmdpchiiamgnnaaGreatDoorGp19
import Derived.Deep.RegionHeld3
import Derived.Deep.AppendLies
namespace Go.Proofs.YtmdpchiiamgnnaaGreatDoor
open Go.RowKit
set_option linter.unusedVariables false
theorem irow_one (W : World) (r : Int) (t : TypeId) : IRow (W.alloc (.cells #[.int .i64 r] t)) (.slice (some ⟨W.heap.size, 0, none⟩) 1 1) [r] :=
  ⟨_, 1, rfl, Nat.le_refl _, by decide, fun j hj => by
    obtain rfl : j = 0 := by simpa using hj
    exact ⟨W.heap.size, rfl, by simp, by simp⟩⟩
theorem IRow.drewN {W : World} {v : Value} {l : List Int} (h : IRow W v l) (d : Nat) : IRow (W.drewN d) v l := h
theorem famI_mono (r : Int) (j : Nat) : (Fd.famI r j).length ≤ (Fd.famI r (j + 1)).length := (Fd.fold_len Fd.pairsL (Fd.famI r j)).1
def prevLen (r : Int) (j : Nat) : Nat := if j = 0 then 0 else (Fd.famI r (j - 1)).length
theorem fam_end {r : Int} {j : Nat} (hj : j ≤ 3) (h : ¬ prevLen r j < (Fd.famI r j).length) : Fd.famI r j = Fd.fam r := by
  unfold prevLen at h
  by_cases h0 : j = 0
  · subst h0; exact absurd (by simp [Fd.famI]) h
  · rw [if_neg h0] at h
    obtain ⟨i, rfl⟩ : ∃ i, j = i + 1 := ⟨j - 1, by omega⟩
    rw [Nat.add_sub_cancel] at h
    have hm := famI_mono r i
    have he : (Fd.famI r (i + 1)).length = (Fd.famI r i).length := by omega
    have h1 := Fd.famI_stop r i he (by omega)
    show Fd.round1 (Fd.famI r i) = _
    rw [h1, Fd.fam_fix]
theorem fam_goes {r : Int} {j : Nat} (hj : j ≤ 3) (h : prevLen r j < (Fd.famI r j).length) : j ≤ 2 := by
  by_cases e : j = 3
  · subst e
    have : Fd.famI r 3 = Fd.famI r 2 := Fd.famI_three r
    unfold prevLen at h
    rw [if_neg (by decide), this] at h
    exact absurd h (by simp)
  · omega
set_option maxRecDepth 100000 in
set_option maxHeartbeats 8000000 in
theorem family_any (W : World) (r : Int) :
    Calls Tryz.prog 52 #[.int .i64 r] W fun e w' => ∃ v, e = .returned v ∧ IRow w' v (Fd.fam r) ∧ Fresh W.heap.size v ∧ Below W.heap.size W w' := by
  have HI0 := Lib.hid (irow_one W r 3)
  have HB0 := Lib.hid ((Below.refl W.heap.size W).alloc (Nat.le_refl _) (.cells #[.int .i64 r] 3))
  go_enter Tryz.func52, Tryz.ntmps52
  go_wp2_with fail
  refine (rpairs_any _).mono ?_
  rintro e w1 ⟨va, rfl, hp, hb⟩
  have HI1 := Lib.hid (HI0.out.below (Nat.le_refl _) hb)
  have HB1 := Lib.hid (HB0.out.trans (hb.mono HB0.out.size))
  obtain ⟨pa, pc, rfl, hpl, hwp, hpc⟩ := hp
  clear hwp
  rw [Fd.pairs_len] at hpl hpc ⊢
  have HPC := Lib.hid hpc
  clear hb hpc hpl HI0 HB0
  go_wp2
  go_loopw [3, 5] (fun V N wr => ∃ j : Nat, j ≤ 3 ∧ N = .int .i64 ((prevLen r j : Nat) : Int) ∧ Hid (IRow wr V (Fd.famI r j)) ∧ Hid (Fresh W.heap.size V) ∧ Hid (Below w1.heap.size w1 wr)) (fun _ N _ => 1000 - (intOf N).toNat)
  case atStart => exact ⟨0, by omega, rfl, HI1, Lib.hid (fun b o s n c e => by injection e with e _ _; injection e with e; injection e with e _ _; omega), Lib.hid (Below.refl _ _)⟩
  case round =>
    obtain ⟨j, hj, rfl, HR, HFR, HE⟩ := hrel
    obtain ⟨wo, rfl⟩ : ∃ wo : World, wo = wr := ⟨_, rfl⟩
    obtain ⟨la, lc, rfl, hlc1, hlc2, _⟩ := HR.out
    have hfl := Fd.famI_len r j
    have hfl2 : (Fd.famI r j).length ≤ 823 := by have := hfl.2; have : j * 274 ≤ 3 * 274 := Nat.mul_le_mul_right _ hj; omega
    by_cases hgo : prevLen r j < (Fd.famI r j).length
    · have hj2 := fam_goes hj hgo
      have HP2 : Hid (prevLen r (j + 1) = (Fd.famI r j).length) := Lib.hid (by unfold prevLen; rw [if_neg (by omega)]; rfl)
      obtain ⟨m, hm⟩ : ∃ m, prevLen r j = m := ⟨_, rfl⟩
      obtain ⟨n, hn⟩ : ∃ n, (Fd.famI r j).length = n := ⟨_, rfl⟩
      rw [hm, hn] at hgo
      rw [hn] at hfl hfl2 HR HFR HP2 hlc1
      rw [hm, hn]
      have HM := Lib.hid hm
      have HNN := Lib.hid hn
      clear hm hn
      go_wp2
      go_loopw [3, 6] (fun V I wr => ∃ i : Nat, i ≤ 137 ∧ I = .int .i64 i ∧ Hid (IRow wr V ((Fd.pairsL.take i).foldl Fd.pstep (Fd.famI r j))) ∧ Hid (Fresh W.heap.size V) ∧ Hid (Below w1.heap.size w1 wr)) (fun _ I _ => 137 - (intOf I).toNat)
      case atStart => exact ⟨0, by omega, rfl, HR, HFR, HE⟩
      case round =>
        obtain ⟨i, hi, rfl, HRi, HFi, HEi⟩ := hrel
        by_cases hlt : i < 137
        · obtain ⟨pb, po, rfl, hpb, hx, hy⟩ := HPC.out i hlt
          rw [← HEi.out.cell (p := ⟨pb, po + i * 2, none⟩) hpb] at hx
          rw [← HEi.out.cell (p := ⟨pb, po + i * 2 + 1, none⟩) hpb] at hy
          have HST := Lib.hid (Fd.fold_take_succ Fd.pstep (0, 0) Fd.pairsL i (by rw [Fd.pairs_len]; exact hlt) (Fd.famI r j))
          have hfo := Fd.fold_len (Fd.pairsL.take i) (Fd.famI r j)
          rw [HNN.out] at hfo
          have hti : (Fd.pairsL.take i).length ≤ 137 := by rw [List.length_take, Fd.pairs_len]; omega
          obtain ⟨L, hL⟩ : ∃ L, (Fd.pairsL.take i).foldl Fd.pstep (Fd.famI r j) = L := ⟨_, rfl⟩
          rw [hL] at HRi HST hfo
          obtain ⟨p, hp⟩ : ∃ p, Fd.pairsL[i]?.getD (0, 0) = p := ⟨_, rfl⟩
          rw [hp] at hx hy HST
          have hll : L.length ≤ 1200 := by omega
          have hsz := HEi.out.size
          clear hL hp hfo hti
          obtain ⟨x, y⟩ := p
          dsimp only at hx hy
          -- the first test
          have HJ1 := Lib.hid (joined_any wr _ L x HRi.out)
          obtain ⟨X, hX⟩ : ∃ X, Fd.joinB L x = X := ⟨_, rfl⟩
          rw [hX] at HJ1
          have HX := Lib.hid hX
          clear hX
          have HXY := Lib.hid (And.intro hx hy)
          go_wp2_with fail
          refine HJ1.out.mono ?_
          rintro e w2 ⟨rfl, rfl⟩
          cases X
          · have HS1 : Hid (Fd.step1 L (x, y) = L) := Lib.hid (by unfold Fd.step1; rw [if_neg (by rw [HX.out]; decide)])
            have HJ2 := Lib.hid (joined_any wr _ L y HRi.out)
            obtain ⟨Y, hY⟩ : ∃ Y, Fd.joinB L y = Y := ⟨_, rfl⟩
            rw [hY] at HJ2
            have HY := Lib.hid hY
            clear hY
            go_wp2_with fail
            refine HJ2.out.mono ?_
            rintro e w3 ⟨rfl, rfl⟩
            cases Y
            · have HS2 : Hid (Fd.pstep L (x, y) = L) := Lib.hid (by unfold Fd.pstep; rw [HS1.out]; unfold Fd.step2; rw [if_neg (by rw [HY.out]; decide)])
              go_wp2
              go_roundw
              case rel => exact ⟨i + 1, by omega, by go_num, by rw [HST.out, HS2.out]; exact HRi, HFi, HEi⟩
              case measure => simp [intOf]; omega
            · have HS2 : Hid (Fd.pstep L (x, y) = Fd.withL L x) := Lib.hid (by unfold Fd.pstep; rw [HS1.out]; unfold Fd.step2; rw [if_pos HY.out])
              go_wp2_with fail
              refine (with_any wr _ L x HRi.out (by omega)).mono ?_
              rintro e w4 ⟨v4, rfl, hr4, hf4, hb4⟩
              have HF4 := Lib.hid (hf4 W.heap.size (by have := HB1.out.size; omega) HFi.out)
              have HR4 := Lib.hid hr4
              have HE4 := Lib.hid (HEi.out.trans (hb4.mono HEi.out.size))
              clear hr4 hb4 hf4
              go_wp2
              go_roundw
              case rel => exact ⟨i + 1, by omega, by go_num, by rw [HST.out, HS2.out]; exact HR4, HF4, HE4⟩
              case measure => simp [intOf]; omega
          · have HS1 : Hid (Fd.step1 L (x, y) = Fd.withL L y) := Lib.hid (by unfold Fd.step1; rw [if_pos HX.out])
            have hwl := Fd.withL_len L y
            go_wp2_with fail
            refine (with_any wr _ L y HRi.out (by omega)).mono ?_
            rintro e w3 ⟨v3, rfl, hr3, hf3, hb3⟩
            have HF3 := Lib.hid (hf3 W.heap.size (by have := HB1.out.size; omega) HFi.out)
            have hs3 := hb3.size
            have HR3 := Lib.hid hr3
            have HE3 := Lib.hid (HEi.out.trans (hb3.mono HEi.out.size))
            have hx3 := (hb3.cell (p := ⟨pb, po + i * 2, none⟩) (by show pb < wr.heap.size; omega)).trans HXY.out.1
            have hy3 := (hb3.cell (p := ⟨pb, po + i * 2 + 1, none⟩) (by show pb < wr.heap.size; omega)).trans HXY.out.2
            obtain ⟨L1, hL1⟩ : ∃ L1, Fd.withL L y = L1 := ⟨_, rfl⟩
            rw [hL1] at HR3 HS1 hwl
            clear hL1 hr3 hb3 hf3
            have HJ2 := Lib.hid (joined_any w3 _ L1 y HR3.out)
            obtain ⟨Y, hY⟩ : ∃ Y, Fd.joinB L1 y = Y := ⟨_, rfl⟩
            rw [hY] at HJ2
            have HY := Lib.hid hY
            clear hY
            go_wp2_with fail
            refine HJ2.out.mono ?_
            rintro e w4 ⟨rfl, rfl⟩
            cases Y
            · have HS2 : Hid (Fd.pstep L (x, y) = L1) := Lib.hid (by unfold Fd.pstep; rw [HS1.out]; unfold Fd.step2; rw [if_neg (by rw [HY.out]; decide)])
              go_wp2
              go_roundw
              case rel => exact ⟨i + 1, by omega, by go_num, by rw [HST.out, HS2.out]; exact HR3, HF3, HE3⟩
              case measure => simp [intOf]; omega
            · have HS2 : Hid (Fd.pstep L (x, y) = Fd.withL L1 x) := Lib.hid (by unfold Fd.pstep; rw [HS1.out]; unfold Fd.step2; rw [if_pos HY.out])
              go_wp2_with fail
              refine (with_any w3 _ L1 x HR3.out (by omega)).mono ?_
              rintro e w5 ⟨v5, rfl, hr5, hf5, hb5⟩
              have HF5 := Lib.hid (hf5 W.heap.size (by have := HB1.out.size; omega) HF3.out)
              have HR5 := Lib.hid hr5
              have HE5 := Lib.hid (HE3.out.trans (hb5.mono HE3.out.size))
              clear hr5 hb5 hf5
              go_wp2
              go_roundw
              case rel => exact ⟨i + 1, by omega, by go_num, by rw [HST.out, HS2.out]; exact HR5, HF5, HE5⟩
              case measure => simp [intOf]; omega
        · obtain rfl : i = 137 := by omega
          have hR := HRi.out
          rw [List.take_of_length_le (by rw [Fd.pairs_len]; exact Nat.le_refl _)] at hR
          have HR' : Hid (IRow wr u3 (Fd.famI r (j + 1))) := Lib.hid hR
          clear hR
          go_wp2
          go_roundw
          case rel => exact ⟨j + 1, by omega, by rw [HP2.out], HR', HFi, HEi⟩
          case measure => simp [intOf]; omega
    · have HF := Lib.hid (fam_end hj hgo)
      obtain ⟨m, hm⟩ : ∃ m, prevLen r j = m := ⟨_, rfl⟩
      obtain ⟨n, hn⟩ : ∃ n, (Fd.famI r j).length = n := ⟨_, rfl⟩
      rw [hm, hn] at hgo
      rw [hn] at HR HFR
      rw [hm, hn]
      clear hm hn hfl hfl2 hlc1
      rw [HF.out] at HR
      go_wp2
      go_ret
      exact ⟨_, rfl, HR.out, HFR.out, HB1.out.trans (HE.out.mono HB1.out.size)⟩
end Go.Proofs.YtmdpchiiamgnnaaGreatDoor
namespace Go.Proofs.YtmdpchiiamgnnaaGreatDoor
open Go.RowKit
set_option linter.unusedVariables false

























































theorem take_succ_int (l m : List Int) (k : Nat) (hl : k < l.length) (hm : k < m.length) :
    l.take (k + 1) = m.take (k + 1) ↔ l.take k = m.take k ∧ l[k]?.getD 0 = m[k]?.getD 0 := take_succ_eq l m k hl hm

























































































end Go.Proofs.YtmdpchiiamgnnaaGreatDoor
namespace Go.Proofs.YtmdpchiiamgnnaaGreatDoor
open Go.RowKit
set_option linter.unusedVariables false
def mk3 (l : List (Int × Int)) (i : Nat) : List (Int × Int) := (Fd.pairsL.take i).flatMap (Fd.moreOf l)
theorem mk3_succ (l : List (Int × Int)) (i : Nat) (hi : i < 137) (p : Int × Int) (hp : Fd.pairsL[i]?.getD (0, 0) = p) : mk3 l (i + 1) = mk3 l i ++ Fd.moreOf l p := by
  have hlt : i < Fd.pairsL.length := by rw [Fd.pairs_len]; exact hi
  unfold mk3
  rw [List.take_succ_eq_append_getElem hlt, List.flatMap_append]
  rw [List.getElem?_eq_getElem hlt] at hp
  have hp' : Fd.pairsL[i] = p := hp
  rw [hp']; simp
theorem moreOf_len (l : List (Int × Int)) (p : Int × Int) : (Fd.moreOf l p).length ≤ 3 := by
  unfold Fd.moreOf; split
  · rw [List.length_map]; exact (Fd.fam_len _).2
  · simp
theorem mk3_len (l : List (Int × Int)) : ∀ i, i ≤ 137 → (mk3 l i).length ≤ 3 * i
  | 0, _ => by simp [mk3]
  | i + 1, h => by
    have ih := mk3_len l i (by omega)
    have := moreOf_len l (Fd.pairsL[i]?.getD (0, 0))
    rw [mk3_succ l i (by omega) _ rfl, List.length_append]; omega
theorem mk3_all (l : List (Int × Int)) : mk3 l 137 = Fd.moreL l := by
  unfold mk3 Fd.moreL; rw [List.take_of_length_le (by rw [Fd.pairs_len]; exact Nat.le_refl _)]
theorem moreL_wide (l : List (Int × Int)) : Wide64 (Fd.moreL l) := by
  intro q hq
  obtain ⟨p, hp, hq⟩ := List.mem_flatMap.1 hq
  have hb := Fd.pairs_bd p hp
  unfold Fd.moreOf at hq
  split at hq
  · obtain ⟨x, hx, rfl⟩ := List.mem_map.1 hq
    have := Fd.fam_bd hx
    unfold Fd.one
    simp only
    omega
  · cases hq
theorem any_take_int (l : List Int) (k : Nat) (hk : k < l.length) (f : Int → Bool) : (l.take (k + 1)).any f = ((l.take k).any f || f (l[k]?.getD 0)) := by
  rw [List.take_succ_eq_append_getElem hk, List.any_append]
  simp [hk]
def Mk3 (l : List (Int × Int)) (i : Nat) (p : Int × Int) : Prop := mk3 l (i + 1) = mk3 l i ++ Fd.moreOf l p
structure MoreOf (l : List (Int × Int)) (p : Int × Int) (F : List Int) : Prop where
  yes : F.any (Rg.hasB l) = true → Fd.moreOf l p = F.map Fd.one
  no : F.any (Rg.hasB l) = false → Fd.moreOf l p = []
theorem moreOf_hid (l : List (Int × Int)) (p : Int × Int) : MoreOf l p (Fd.fam p.1) :=
  ⟨fun h => by unfold Fd.moreOf; rw [if_pos h], fun h => by unfold Fd.moreOf; rw [if_neg (by rw [h]; decide)]⟩
set_option maxRecDepth 100000 in
set_option maxHeartbeats 8000000 in
theorem refClose_any (W : World) (va : Value) (l : List (Int × Int)) (ha : RRow W va l) :
    Calls Tryz.prog 29 #[va] W (ClosePost l W) := by
  obtain ⟨i0, hi0, hz0, hz1, hz2⟩ := info_parts Tryz.infoRange
  have HA := Lib.hid ha
  clear ha
  go_enter Tryz.func29, Tryz.ntmps29
  go_wp2_with fail
  refine (rpairs_any _).mono ?_
  rintro e w1 ⟨vp, rfl, hp, hb⟩
  have HA1 := Lib.hid (HA.out.below (Nat.le_refl _) hb)
  have HB1 := Lib.hid hb
  obtain ⟨pa, pc, rfl, hpl, hwp, hpc⟩ := hp
  clear hwp
  rw [Fd.pairs_len] at hpl hpc ⊢
  have HPC := Lib.hid hpc
  clear hb hpc hpl HA
  go_wp2
  go_loopw [3, 5] (fun V I wr => ∃ i : Nat, i ≤ 137 ∧ I = .int .i64 i ∧ Hid (RgOwn wr w1.heap.size V (mk3 l i)) ∧ Hid (Below w1.heap.size w1 wr)) (fun _ I _ => 137 - (intOf I).toNat)
  case atStart => exact ⟨0, by omega, rfl, Lib.hid RgOwn.nil, Lib.hid (Below.refl _ _)⟩
  case round =>
    obtain ⟨i, hi, rfl, HO, HE⟩ := hrel
    obtain ⟨wo, rfl⟩ : ∃ wo : World, wo = wr := ⟨_, rfl⟩
    by_cases hlt : i < 137
    · obtain ⟨pb, po, rfl, hpb, hx, hy⟩ := HPC.out i hlt
      rw [← HE.out.cell (p := ⟨pb, po + i * 2, none⟩) hpb] at hx
      have hmk : Mk3 l i (Fd.pairsL[i]?.getD (0, 0)) := mk3_succ l i hlt _ rfl
      have hml := mk3_len l i hi
      obtain ⟨p, hp⟩ : ∃ p, Fd.pairsL[i]?.getD (0, 0) = p := ⟨_, rfl⟩
      rw [hp] at hx hmk
      clear hp hy
      have hfam := family_any wo p.1
      have hfl := Fd.fam_len p.1
      have HMO := moreOf_hid l p
      have hfb : ∀ x ∈ Fd.fam p.1, -9000000000000000000 ≤ x ∧ x ≤ 9000000000000000000 ∨ x = p.1 := fun x hx => by have := Fd.fam_bd hx; omega
      have HFB := Lib.hid hfb
      obtain ⟨F, hF⟩ : ∃ F, Fd.fam p.1 = F := ⟨_, rfl⟩
      rw [hF] at hfam hfl HMO HFB
      have HFAM := Lib.hid hfam
      have hsz := HE.out.size
      have HML := Lib.hid hml
      have HFL := Lib.hid hfl
      clear hfam hF hfb hml hfl
      obtain ⟨px, py⟩ := p
      dsimp only at hx
      go_wp2_with fail
      refine HFAM.out.mono ?_
      rintro e w2 ⟨vf, rfl, hr, hfr, hb⟩
      obtain ⟨fa, fc, rfl, hfc1, hfc2, hfc⟩ := hr
      obtain ⟨n, hn⟩ : ∃ n, F.length = n := ⟨_, rfl⟩
      have hfl := HFL.out
      rw [hn] at hfl hfc hfc1 hfr ⊢
      have HN := Lib.hid hn
      have HFC := Lib.hid hfc
      have HFR := Lib.hid hfr
      have HO2 := Lib.hid (HO.out.below hb)
      have HOB := Lib.hid (fun g hg => (own_block_some HO.out (g := g) hg).2)
      have HE2 := Lib.hid (HE.out.trans (hb.mono hsz))
      have hsz2 := hb.size
      obtain ⟨n1, n3⟩ := hfl
      clear hfc hfr hb hn
      go_wp2
      go_loopw [7, 8] (fun B K wr => ∃ (k : Nat) (X : Bool), k ≤ n ∧ K = .int .i64 k ∧ B = .bool X ∧ Hid (X = (F.take k).any (Rg.hasB l)) ∧ Hid (Below w2.heap.size w2 wr)) (fun _ K _ => n - (intOf K).toNat)
      case atStart => exact ⟨0, false, Nat.zero_le _, rfl, rfl, Lib.hid rfl, Lib.hid (Below.refl _ _)⟩
      case round =>
        obtain ⟨k, X, hk, rfl, rfl, HX, HD⟩ := hrel
        obtain ⟨wt, rfl⟩ : ∃ wt : World, wt = wr := ⟨_, rfl⟩
        by_cases hltk : k < n
        · obtain ⟨fb, rfl, hfb, hx1⟩ := HFC.out k hltk
          rw [← HD.out.cell (p := ⟨fb, k, none⟩) hfb] at hx1
          have HT := Lib.hid (any_take_int F k (by rw [HN.out]; exact hltk) (Rg.hasB l))
          obtain ⟨x, ex⟩ : ∃ x, F[k]?.getD 0 = x := ⟨_, rfl⟩
          rw [ex] at hx1 HT
          have hsz3 := HD.out.size
          clear ex
          cases X
          · have HAW := Lib.hid (HA1.out.below (Nat.le_refl _) (HE2.out.trans (HD.out.mono HE2.out.size)))
            obtain ⟨Y, hY⟩ : ∃ Y, Rg.hasB l x = Y := ⟨_, rfl⟩
            have HH := Lib.hid (refHas_at HAW.out hY)
            have HX2 : Hid (Y = (F.take (k + 1)).any (Rg.hasB l)) := Lib.hid (by rw [HT.out, ← HX.out, hY]; rfl)
            clear hY
            go_wp2_with fail
            refine HH.out.mono ?_
            rintro e w3 ⟨rfl, rfl⟩
            go_wp2
            go_roundw
            case rel => exact ⟨k + 1, Y, by omega, by go_num, rfl, HX2, HD⟩
            case measure => simp [intOf]; omega
          · have HX2 : Hid (true = (F.take (k + 1)).any (Rg.hasB l)) := Lib.hid (by rw [HT.out, ← HX.out]; rfl)
            go_wp2
            go_roundw
            case rel => exact ⟨k + 1, true, by omega, by go_num, rfl, HX2, HD⟩
            case measure => simp [intOf]; omega
        · obtain rfl : n = k := by omega
          have hX := HX.out
          rw [List.take_of_length_le (by rw [HN.out]; exact Nat.le_refl _)] at hX
          have HX2 := Lib.hid hX
          clear hX
          have HO3 := Lib.hid (HO2.out.below HD.out)
          have HE3 := Lib.hid (HE2.out.trans (HD.out.mono HE2.out.size))
          have hsz3 := HD.out.size
          cases X
          · have HM2 : Hid (mk3 l (i + 1) = mk3 l i) := Lib.hid (by have h := hmk; unfold Mk3 at h; rw [h, HMO.no HX2.out.symm, List.append_nil])
            go_wp2
            refine wp_loop_rounds 1 ?_
            rw [rounds_succ]
            go_wp2
            go_roundw
            case rel => exact ⟨i + 1, by omega, by go_num, by rw [HM2.out]; exact HO3, HE3⟩
            case measure => simp [intOf]; omega
          · obtain ⟨fb, rfl, hfb, _⟩ := HFC.out 0 (by omega)
            have hge : wo.heap.size ≤ fb := HFR.out fb 0 none n fc rfl
            have HNB : Hid (u3.ownBlock ≠ some fb) := Lib.hid (fun e => by have := HOB.out fb e; omega)
            have HM2 : Hid (mk3 l (i + 1) = mk3 l i ++ F.map Fd.one) := Lib.hid (by have h := hmk; unfold Mk3 at h; rw [h, HMO.yes HX2.out.symm])
            have HFW : Hid (∀ j, j < n → wt.cell? ⟨fb, j, none⟩ = some (.int .i64 (F[j]?.getD 0))) := Lib.hid (fun j hj => by
              obtain ⟨b', hbb, _, h1⟩ := HFC.out j hj
              injection hbb with hbb; injection hbb with hbb; subst hbb
              exact (HD.out.cell (p := ⟨fb, j, none⟩) hfb).trans h1)
            have hfw : fb < wt.heap.size := by omega
            clear HFC
            go_wp2
            go_loopw [3, 9] (fun V K wr => ∃ k : Nat, k ≤ n ∧ K = .int .i64 k ∧ Hid (RgOwn wr w1.heap.size V (mk3 l i ++ (F.take k).map Fd.one)) ∧ Hid (V.ownBlock ≠ some fb) ∧ Hid (∀ j, j < n → wr.cell? ⟨fb, j, none⟩ = some (.int .i64 (F[j]?.getD 0))) ∧ fb < wr.heap.size ∧ Hid (Below w1.heap.size w1 wr)) (fun _ K _ => n - (intOf K).toNat)
            case atStart => exact ⟨0, Nat.zero_le _, rfl, by rw [List.take_zero, List.map_nil, List.append_nil]; exact HO3, HNB, HFW, hfw, HE3⟩
            case round =>
              obtain ⟨k, hk, rfl, HO4, HNB4, HFW4, hfw4, HE4⟩ := hrel
              obtain ⟨wv, rfl⟩ : ∃ wv : World, wv = wr := ⟨_, rfl⟩
              have hsz4 := HE4.out.size
              by_cases hltk : k < n
              · have hx4 := HFW4.out k hltk
                have HTM := Lib.hid (map_take_succ F k (by rw [HN.out]; exact hltk) _ rfl)
                obtain ⟨x, ex⟩ : ∃ x, F[k]?.getD 0 = x := ⟨_, rfl⟩
                rw [ex] at hx4 HTM
                clear ex
                have hml : (mk3 l i ++ (F.take k).map Fd.one).length ≤ 414 := by
                  have := HML.out; rw [List.length_append, List.length_map, List.length_take]; omega
                have hown := HO4.out
                unfold RgOwn at hown
                obtain ⟨M, hM⟩ : ∃ M, mk3 l i ++ (F.take k).map Fd.one = M := ⟨_, rfl⟩
                have hM2 : mk3 l i ++ (F.take (k + 1)).map Fd.one = M ++ [(x, x)] := by rw [HTM.out, ← List.append_assoc, hM]
                rw [hM] at hown hml
                obtain ⟨m, hm⟩ : ∃ m, M.length = m := ⟨_, rfl⟩
                rw [hm] at hown hml
                have HM4 := Lib.hid hM2
                have HMM := Lib.hid hm
                have k0 : (0 : Int) ≤ (k : Int) := by omega
                have k1 : (k : Int) < (n : Int) := by omega
                clear hM hM2 hm
                go_wp2
                go_region_held3 (fun w' => w'.cell? ⟨fb, k, none⟩ = some (.int .i64 x))
                  (first
                    | go_keep
                    | (rw [hgrow.cell_far _ (by simp; omega) (Ne.symm HNB4.out)]; assumption))
                  ((refine step_append_lies _ (by rfl) _ _ 23 (by rfl) w1.heap.size 47 i0 (.agg #[.int .i64 0, .int .i64 0]) 2 16 Tryz.underlying23 hi0 hz0 hz1 hz2 rfl (by omega) _ m (flat2 M) (by rfl) ((hown.alloc _).drew)
                      ⟨wv.heap.size, 0, none⟩ 1 1 [.int .i64 x, .int .i64 x] (by rfl) (by rfl) (World.news_of_block (cs := #[.int .i64 x, .int .i64 x]) (t := 47) (fr := (0, 0)) (heap_alloc_new wv _)) (by simp [Value.oneCell'])
                      (by omega) (by unfold maxLen; omega) (by omega) (by simp; omega) (wv.heap.size + 1) (by simp) ?_; intro gg cap1 wz hown1 hgrow hat hlt1))
                have hO5 : RgOwn wz w1.heap.size (.slice (some ⟨gg, 0, none⟩) (m + 1) cap1) (mk3 l i ++ (F.take (k + 1)).map Fd.one) := by
                  rw [HM4.out]; unfold RgOwn; rw [List.length_append, flat2_snoc, HMM.out]; exact hown1
                have hB5 := (below_drewN (HE4.out.alloc hsz4 _) 1).grown hgrow (by simp; omega) (fun q hq => (hown.lt q hq).1)
                have HNB5 : Hid ((Value.slice (some ⟨gg, 0, none⟩) (m + 1) cap1).ownBlock ≠ some fb) := Lib.hid (fun e => by
                  have e2 : gg = fb := by simpa [Value.ownBlock] using e
                  rcases hat with h | h
                  · exact HNB4.out (by rw [h, e2])
                  · omega)
                have HFW5 : Hid (∀ j, j < n → wz.cell? ⟨fb, j, none⟩ = some (.int .i64 (F[j]?.getD 0))) := Lib.hid (fun j hj => by
                  refine hgrow.cell (a := ⟨fb, j, none⟩) ?_ (Ne.symm HNB4.out)
                  exact (World.cell?_alloc_lt wv _ ⟨fb, j, none⟩ hfw4).trans (HFW4.out j hj))
                have hfw5 : fb < wz.heap.size := by have := hgrow.size; simp at this; omega
                have HO5 := Lib.hid hO5
                have HE5 := Lib.hid hB5
                clear hO5 hown1 hgrow hown hB5 hat hlt1
                go_wp2
                go_roundw
                case rel => exact ⟨k + 1, by omega, by go_num, HO5, HNB5, HFW5, hfw5, HE5⟩
                case measure => simp [intOf]; omega
              · obtain rfl : k = n := by omega
                have hO5 := HO4.out
                rw [List.take_of_length_le (by rw [HN.out]; exact Nat.le_refl _), ← HM2.out] at hO5
                have HO5 := Lib.hid hO5
                clear hO5
                go_wp2
                go_roundw
                case rel => exact ⟨i + 1, by omega, by go_num, HO5, HE4⟩
                case measure => simp [intOf]; omega
    · obtain rfl : i = 137 := by omega
      have hO := HO.out
      have hml := mk3_len l 137 (by omega)
      rw [mk3_all] at hO hml
      have HMR := Lib.hid (hO.row (by omega) (moreL_wide l))
      have HAW := Lib.hid (HA1.out.below (Nat.le_refl _) HE.out)
      have hsz := HE.out.size
      clear hO hml
      go_wp2_with fail
      refine (refNorm _ _ l HAW.out).mono ?_
      rintro e w2 ⟨vn, n1, rfl, hm, ho, hb⟩
      have HM1 := Lib.hid hm
      have HO1 := Lib.hid ho
      have HMR2 := Lib.hid (HMR.out.below (Nat.le_refl _) hb)
      have HE2 := Lib.hid (HE.out.trans (hb.mono hsz))
      clear hm ho hb
      go_wp2_with fail
      refine (refNorm _ _ (Fd.moreL l) HMR2.out).mono ?_
      rintro e w3 ⟨vm, n2, rfl, hm, ho, hb⟩
      have HM2 := Lib.hid hm
      have HR2 := Lib.hid (ho.normRow hm.norm)
      have HR1 := Lib.hid ((HO1.out.below hb).normRow HM1.out.norm)
      have HE3 := Lib.hid (HE2.out.trans (hb.mono HE2.out.size))
      clear hm ho hb
      go_wp2_with fail
      refine (refMake1 _ _ _ n1 n2 HR1.out HR2.out).mono ?_
      rintro e w4 ⟨vo, out, rfl, hm, ho, hb⟩
      have HB4 := Lib.hid (HB1.out.trans ((HE3.out.trans (hb.mono HE3.out.size)).mono HB1.out.size))
      have HO4 := Lib.hid (ho.lower (Nat.le_trans HB1.out.size HE3.out.size))
      have HQ : Hid (∀ q, Rg.hasB out q = Fd.clB l q) := Lib.hid (fun q => by
        rw [hm.or, Rg.ListOf.eq HM1.out, Rg.ListOf.eq HM2.out, Fd.close_at])
      have HN4 := Lib.hid hm.norm
      clear hm ho hb
      go_wp2
      go_ret
      exact ⟨_, out, rfl, HN4.out, HQ.out, HO4.out, HB4.out⟩
end Go.Proofs.YtmdpchiiamgnnaaGreatDoor
