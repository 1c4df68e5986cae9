/- The reference's fold (burinref03): the contract of Family. -/
import Derived.Test.YtbccaljfofnepaaRf3C
namespace Go.Proofs.Ytbccaljfofnepaa
open Go.RowKit
set_option linter.unusedVariables false
theorem irow_one (W : World) (r : Int) (t : TypeId) : IRow (W.alloc (.cells #[.int .i64 r] t)) (.slice (some ⟨W.heap.size, 0, none⟩) 1 1) [r] :=
  ⟨_, 1, rfl, Nat.le_refl _, by decide, fun j hj => by
    obtain rfl : j = 0 := by simpa using hj
    exact ⟨W.heap.size, rfl, by simp, by simp⟩⟩
theorem IRow.drewN {W : World} {v : Value} {l : List Int} (h : IRow W v l) (d : Nat) : IRow (W.drewN d) v l := h
theorem famI_mono (r : Int) (j : Nat) : (Fd.famI r j).length ≤ (Fd.famI r (j + 1)).length := (Fd.fold_len Fd.pairsL (Fd.famI r j)).1
def prevLen (r : Int) (j : Nat) : Nat := if j = 0 then 0 else (Fd.famI r (j - 1)).length
theorem fam_end {r : Int} {j : Nat} (hj : j ≤ 3) (h : ¬ prevLen r j < (Fd.famI r j).length) : Fd.famI r j = Fd.fam r := by
  unfold prevLen at h
  by_cases h0 : j = 0
  · subst h0; exact absurd (by simp [Fd.famI]) h
  · rw [if_neg h0] at h
    obtain ⟨i, rfl⟩ : ∃ i, j = i + 1 := ⟨j - 1, by omega⟩
    rw [Nat.add_sub_cancel] at h
    have hm := famI_mono r i
    have he : (Fd.famI r (i + 1)).length = (Fd.famI r i).length := by omega
    have h1 := Fd.famI_stop r i he (by omega)
    show Fd.round1 (Fd.famI r i) = _
    rw [h1, Fd.fam_fix]
theorem fam_goes {r : Int} {j : Nat} (hj : j ≤ 3) (h : prevLen r j < (Fd.famI r j).length) : j ≤ 2 := by
  by_cases e : j = 3
  · subst e
    have : Fd.famI r 3 = Fd.famI r 2 := Fd.famI_three r
    unfold prevLen at h
    rw [if_neg (by decide), this] at h
    exact absurd h (by simp)
  · omega
set_option maxRecDepth 100000 in
set_option maxHeartbeats 8000000 in
theorem family_any (W : World) (r : Int) :
    Calls Try.prog 9 #[.int .i64 r] W fun e w' => ∃ v, e = .returned v ∧ IRow w' v (Fd.fam r) ∧ Fresh W.heap.size v ∧ Below W.heap.size W w' := by
  have HI0 := Lib.hid (irow_one W r 3)
  have HB0 := Lib.hid ((Below.refl W.heap.size W).alloc (Nat.le_refl _) (.cells #[.int .i64 r] 3))
  go_enter Try.func9, Try.ntmps9
  go_wp2_with fail
  refine (pairs_any _).mono ?_
  rintro e w1 ⟨va, rfl, hp, hb⟩
  have HI1 := Lib.hid (HI0.out.below (Nat.le_refl _) hb)
  have HB1 := Lib.hid (HB0.out.trans (hb.mono HB0.out.size))
  obtain ⟨pa, pc, rfl, hpl, hwp, hpc⟩ := hp
  clear hwp
  rw [Fd.pairs_len] at hpl hpc ⊢
  have HPC := Lib.hid hpc
  clear hb hpc hpl HI0 HB0
  go_wp2
  go_loopw [3, 5] (fun V N wr => ∃ j : Nat, j ≤ 3 ∧ N = .int .i64 ((prevLen r j : Nat) : Int) ∧ Hid (IRow wr V (Fd.famI r j)) ∧ Hid (Fresh W.heap.size V) ∧ Hid (Below w1.heap.size w1 wr)) (fun _ N _ => 1000 - (intOf N).toNat)
  case atStart => exact ⟨0, by omega, rfl, HI1, Lib.hid (fun b o s n c e => by injection e with e _ _; injection e with e; injection e with e _ _; omega), Lib.hid (Below.refl _ _)⟩
  case round =>
    obtain ⟨j, hj, rfl, HR, HFR, HE⟩ := hrel
    obtain ⟨wo, rfl⟩ : ∃ wo : World, wo = wr := ⟨_, rfl⟩
    obtain ⟨la, lc, rfl, hlc1, hlc2, _⟩ := HR.out
    have hfl := Fd.famI_len r j
    have hfl2 : (Fd.famI r j).length ≤ 823 := by have := hfl.2; have : j * 274 ≤ 3 * 274 := Nat.mul_le_mul_right _ hj; omega
    by_cases hgo : prevLen r j < (Fd.famI r j).length
    · have hj2 := fam_goes hj hgo
      have HP2 : Hid (prevLen r (j + 1) = (Fd.famI r j).length) := Lib.hid (by unfold prevLen; rw [if_neg (by omega)]; rfl)
      obtain ⟨m, hm⟩ : ∃ m, prevLen r j = m := ⟨_, rfl⟩
      obtain ⟨n, hn⟩ : ∃ n, (Fd.famI r j).length = n := ⟨_, rfl⟩
      rw [hm, hn] at hgo
      rw [hn] at hfl hfl2 HR HFR HP2 hlc1
      rw [hm, hn]
      have HM := Lib.hid hm
      have HNN := Lib.hid hn
      clear hm hn
      go_wp2
      go_loopw [3, 6] (fun V I wr => ∃ i : Nat, i ≤ 137 ∧ I = .int .i64 i ∧ Hid (IRow wr V ((Fd.pairsL.take i).foldl Fd.pstep (Fd.famI r j))) ∧ Hid (Fresh W.heap.size V) ∧ Hid (Below w1.heap.size w1 wr)) (fun _ I _ => 137 - (intOf I).toNat)
      case atStart => exact ⟨0, by omega, rfl, HR, HFR, HE⟩
      case round =>
        obtain ⟨i, hi, rfl, HRi, HFi, HEi⟩ := hrel
        by_cases hlt : i < 137
        · obtain ⟨pb, po, rfl, hpb, hx, hy⟩ := HPC.out i hlt
          rw [← HEi.out.cell (p := ⟨pb, po + i * 2, none⟩) hpb] at hx
          rw [← HEi.out.cell (p := ⟨pb, po + i * 2 + 1, none⟩) hpb] at hy
          have HST := Lib.hid (Fd.fold_take_succ Fd.pstep (0, 0) Fd.pairsL i (by rw [Fd.pairs_len]; exact hlt) (Fd.famI r j))
          have hfo := Fd.fold_len (Fd.pairsL.take i) (Fd.famI r j)
          rw [HNN.out] at hfo
          have hti : (Fd.pairsL.take i).length ≤ 137 := by rw [List.length_take, Fd.pairs_len]; omega
          obtain ⟨L, hL⟩ : ∃ L, (Fd.pairsL.take i).foldl Fd.pstep (Fd.famI r j) = L := ⟨_, rfl⟩
          rw [hL] at HRi HST hfo
          obtain ⟨p, hp⟩ : ∃ p, Fd.pairsL[i]?.getD (0, 0) = p := ⟨_, rfl⟩
          rw [hp] at hx hy HST
          have hll : L.length ≤ 1200 := by omega
          have hsz := HEi.out.size
          clear hL hp hfo hti
          obtain ⟨x, y⟩ := p
          dsimp only at hx hy
          -- the first test
          have HJ1 := Lib.hid (joined_any wr _ L x HRi.out)
          obtain ⟨X, hX⟩ : ∃ X, Fd.joinB L x = X := ⟨_, rfl⟩
          rw [hX] at HJ1
          have HX := Lib.hid hX
          clear hX
          have HXY := Lib.hid (And.intro hx hy)
          go_wp2_with fail
          refine HJ1.out.mono ?_
          rintro e w2 ⟨rfl, rfl⟩
          cases X
          · have HS1 : Hid (Fd.step1 L (x, y) = L) := Lib.hid (by unfold Fd.step1; rw [if_neg (by rw [HX.out]; decide)])
            have HJ2 := Lib.hid (joined_any wr _ L y HRi.out)
            obtain ⟨Y, hY⟩ : ∃ Y, Fd.joinB L y = Y := ⟨_, rfl⟩
            rw [hY] at HJ2
            have HY := Lib.hid hY
            clear hY
            go_wp2_with fail
            refine HJ2.out.mono ?_
            rintro e w3 ⟨rfl, rfl⟩
            cases Y
            · have HS2 : Hid (Fd.pstep L (x, y) = L) := Lib.hid (by unfold Fd.pstep; rw [HS1.out]; unfold Fd.step2; rw [if_neg (by rw [HY.out]; decide)])
              go_wp2
              go_roundw
              case rel => exact ⟨i + 1, by omega, by go_num, by rw [HST.out, HS2.out]; exact HRi, HFi, HEi⟩
              case measure => simp [intOf]; omega
            · have HS2 : Hid (Fd.pstep L (x, y) = Fd.withL L x) := Lib.hid (by unfold Fd.pstep; rw [HS1.out]; unfold Fd.step2; rw [if_pos HY.out])
              go_wp2_with fail
              refine (with_any wr _ L x HRi.out (by omega)).mono ?_
              rintro e w4 ⟨v4, rfl, hr4, hf4, hb4⟩
              have HF4 := Lib.hid (hf4 W.heap.size (by have := HB1.out.size; omega) HFi.out)
              have HR4 := Lib.hid hr4
              have HE4 := Lib.hid (HEi.out.trans (hb4.mono HEi.out.size))
              clear hr4 hb4 hf4
              go_wp2
              go_roundw
              case rel => exact ⟨i + 1, by omega, by go_num, by rw [HST.out, HS2.out]; exact HR4, HF4, HE4⟩
              case measure => simp [intOf]; omega
          · have HS1 : Hid (Fd.step1 L (x, y) = Fd.withL L y) := Lib.hid (by unfold Fd.step1; rw [if_pos HX.out])
            have hwl := Fd.withL_len L y
            go_wp2_with fail
            refine (with_any wr _ L y HRi.out (by omega)).mono ?_
            rintro e w3 ⟨v3, rfl, hr3, hf3, hb3⟩
            have HF3 := Lib.hid (hf3 W.heap.size (by have := HB1.out.size; omega) HFi.out)
            have hs3 := hb3.size
            have HR3 := Lib.hid hr3
            have HE3 := Lib.hid (HEi.out.trans (hb3.mono HEi.out.size))
            have hx3 := (hb3.cell (p := ⟨pb, po + i * 2, none⟩) (by show pb < wr.heap.size; omega)).trans HXY.out.1
            have hy3 := (hb3.cell (p := ⟨pb, po + i * 2 + 1, none⟩) (by show pb < wr.heap.size; omega)).trans HXY.out.2
            obtain ⟨L1, hL1⟩ : ∃ L1, Fd.withL L y = L1 := ⟨_, rfl⟩
            rw [hL1] at HR3 HS1 hwl
            clear hL1 hr3 hb3 hf3
            have HJ2 := Lib.hid (joined_any w3 _ L1 y HR3.out)
            obtain ⟨Y, hY⟩ : ∃ Y, Fd.joinB L1 y = Y := ⟨_, rfl⟩
            rw [hY] at HJ2
            have HY := Lib.hid hY
            clear hY
            go_wp2_with fail
            refine HJ2.out.mono ?_
            rintro e w4 ⟨rfl, rfl⟩
            cases Y
            · have HS2 : Hid (Fd.pstep L (x, y) = L1) := Lib.hid (by unfold Fd.pstep; rw [HS1.out]; unfold Fd.step2; rw [if_neg (by rw [HY.out]; decide)])
              go_wp2
              go_roundw
              case rel => exact ⟨i + 1, by omega, by go_num, by rw [HST.out, HS2.out]; exact HR3, HF3, HE3⟩
              case measure => simp [intOf]; omega
            · have HS2 : Hid (Fd.pstep L (x, y) = Fd.withL L1 x) := Lib.hid (by unfold Fd.pstep; rw [HS1.out]; unfold Fd.step2; rw [if_pos HY.out])
              go_wp2_with fail
              refine (with_any w3 _ L1 x HR3.out (by omega)).mono ?_
              rintro e w5 ⟨v5, rfl, hr5, hf5, hb5⟩
              have HF5 := Lib.hid (hf5 W.heap.size (by have := HB1.out.size; omega) HF3.out)
              have HR5 := Lib.hid hr5
              have HE5 := Lib.hid (HE3.out.trans (hb5.mono HE3.out.size))
              clear hr5 hb5 hf5
              go_wp2
              go_roundw
              case rel => exact ⟨i + 1, by omega, by go_num, by rw [HST.out, HS2.out]; exact HR5, HF5, HE5⟩
              case measure => simp [intOf]; omega
        · obtain rfl : i = 137 := by omega
          have hR := HRi.out
          rw [List.take_of_length_le (by rw [Fd.pairs_len]; exact Nat.le_refl _)] at hR
          have HR' : Hid (IRow wr u3 (Fd.famI r (j + 1))) := Lib.hid hR
          clear hR
          go_wp2
          go_roundw
          case rel => exact ⟨j + 1, by omega, by rw [HP2.out], HR', HFi, HEi⟩
          case measure => simp [intOf]; omega
    · have HF := Lib.hid (fam_end hj hgo)
      obtain ⟨m, hm⟩ : ∃ m, prevLen r j = m := ⟨_, rfl⟩
      obtain ⟨n, hn⟩ : ∃ n, (Fd.famI r j).length = n := ⟨_, rfl⟩
      rw [hm, hn] at hgo
      rw [hn] at HR HFR
      rw [hm, hn]
      clear hm hn hfl hfl2 hlc1
      rw [HF.out] at HR
      go_wp2
      go_ret
      exact ⟨_, rfl, HR.out, HFR.out, HB1.out.trans (HE.out.mono HB1.out.size)⟩
end Go.Proofs.Ytbccaljfofnepaa
