/- burinlaw03.FoldTells: the walk. -/
import Derived.Test.YtbccaljfofnepaaLaw03W
import Derived.Test.YtbccaljfofnepaaQuietB
namespace Go.Proofs.Ytbccaljfofnepaa
open Go.RowKit
set_option linter.unusedVariables false
theorem join_take_all (F : List Int) (n : Nat) (h : F.length = n) (b : Int) : Fd.joinB (F.take n) b = Fd.joinB F b := by
  rw [List.take_of_length_le (by omega)]
set_option maxRecDepth 100000 in
set_option maxHeartbeats 4000000 in
theorem walkFoldTells (W : World) (a b : Int) (ha : (Lit.int .i64 a).wf = true) (hb : (Lit.int .i64 b).wf = true) :
    Calls Try.prog 3 #[.int .i64 a, .int .i64 b] W fun e w' => e = .returned (.bool true) ∧ Below W.heap.size W w' := by
  have mixed : Try.prog.follows .mixedOrders = true := by kernel_rfl
  obtain ⟨n1, n3⟩ := Fd.fam_len a
  have h1 := fun W' => fam_any W' a
  have h2 := fun W' => family_any W' a
  have h3 := fun W' => least_any W' a
  have h4 := fun W' => nextl_any W' a
  have h5 := fun W' => next_any W' a
  have h6 := fun W' => same_any W' a b
  unfold famHead at h3
  obtain ⟨F, hF⟩ : ∃ F, Fd.fam a = F := ⟨_, rfl⟩
  rw [hF] at n1 n3 h1 h2 h3 h4 h5 h6
  obtain ⟨y, hy⟩ : ∃ y, Fd.nextL F a = y := ⟨_, rfl⟩
  rw [hy] at h4 h5
  obtain ⟨x, hx⟩ : ∃ x, F[0]?.getD 0 = x := ⟨_, rfl⟩
  rw [hx] at h3
  obtain ⟨S, hS⟩ : ∃ S, Fd.joinB F b = S := ⟨_, rfl⟩
  rw [hS] at h6
  obtain ⟨n, hn⟩ : ∃ n, F.length = n := ⟨_, rfl⟩
  have HN := Lib.hid hn
  have HX := Lib.hid hx
  have HSS := Lib.hid hS
  rw [hn] at n1 n3
  have H1 := Lib.hid h1
  have H2 := Lib.hid h2
  have H3 := Lib.hid h3
  have H4 := Lib.hid h4
  have H5 := Lib.hid h5
  have H6 := Lib.hid h6
  clear h1 h2 h3 h4 h5 h6 hF hy hx hS hn ha hb
  go_enter Try.func3, Try.ntmps3
  go_wp2_with fail
  refine (H1.out _).mono ?_
  rintro e w1 ⟨va, rfl, ho, hb⟩
  have R1 := Lib.hid ho.row
  have D1 := Lib.hid hb
  clear ho hb
  go_wp2_with fail
  refine (H2.out _).mono ?_
  rintro e w2 ⟨vb, rfl, hr, _, hb⟩
  have R2 := Lib.hid (R1.out.below (Nat.le_refl _) hb)
  have D2 := Lib.hid (D1.out.trans (hb.mono D1.out.size))
  have HSI : Hid (∀ p : GrownTo w2, Calls Try.prog 10 #[va, vb] p.W' fun e w' => e = .returned (.bool true) ∧ Below p.W'.heap.size p.W' w') := Lib.hid (fun p =>
    same_int_eq p.W' va vb F (R2.out.below (Nat.le_refl _) p.h) (hr.below (Nat.le_refl _) p.h) (by rw [HN.out]; omega))
  obtain ⟨fa, fc, rfl, hf1, hf2, hfc⟩ := hr
  have HFC := Lib.hid hfc
  rw [HN.out] at hf1 HFC HSI ⊢
  clear hfc hb
  go_wp2
  go_loop [7, 8] (fun T K => ∃ k : Nat, k ≤ n ∧ K = .int .i64 k ∧ T = .bool (Fd.joinB (F.take k) b)) (fun _ K => n - (intOf K).toNat)
  case atStart => exact ⟨0, Nat.zero_le _, rfl, rfl⟩
  case round =>
    obtain ⟨k, hk, rfl, rfl⟩ := hrel
    by_cases hlt : k < n
    · obtain ⟨fb, rfl, hfb, hcell⟩ := HFC.out k hlt
      have HT := Lib.hid (Fd.joinB_take_succ F k b (by rw [HN.out]; exact hlt))
      obtain ⟨z, ez⟩ : ∃ z, F[k]?.getD 0 = z := ⟨_, rfl⟩
      rw [ez] at hcell HT
      obtain ⟨T, hT⟩ : ∃ T, Fd.joinB (F.take k) b = T := ⟨_, rfl⟩
      rw [hT] at HT ⊢
      have k0 : (0 : Int) ≤ (k : Int) := by omega
      have k1 : (k : Int) < (n : Int) := by omega
      clear ez hT
      cases T with
      | true =>
        go_wp2
        go_round
        case rel => exact ⟨k + 1, by omega, by go_num, by rw [HT.out]; rfl⟩
        case measure => simp [intOf]; omega
      | false =>
        by_cases hzb : z = b
        · have q : (z == b) = true := by rw [hzb]; simp
          have HQ : Hid (Fd.joinB (F.take (k + 1)) b = true) := Lib.hid (by rw [HT.out, decide_eq_true hzb]; rfl)
          go_wp2
          go_round
          case rel => exact ⟨k + 1, by omega, by go_num, by rw [HQ.out]⟩
          case measure => simp [intOf]; omega
        · have q : (z == b) = false := beq_eq_false_iff_ne.2 hzb
          have HQ : Hid (Fd.joinB (F.take (k + 1)) b = false) := Lib.hid (by rw [HT.out, decide_eq_false hzb]; rfl)
          go_wp2
          go_round
          case rel => exact ⟨k + 1, by omega, by go_num, by rw [HQ.out]⟩
          case measure => simp [intOf]; omega
    · obtain rfl : k = n := by omega
      have hjj := join_take_all F k HN.out b
      rw [HSS.out] at hjj
      rw [hjj]
      obtain ⟨fb, rfl, hfb, hcell⟩ := HFC.out 0 (by omega)
      rw [HX.out] at hcell
      have k1 : (0 : Int) < (k : Int) := by omega
      have k2 : (0 : Nat) < k := by omega
      clear hjj
      go_wp2
      have f1 := fun p => cell_grownTo (w := w2) (a := ⟨fb, 0, none⟩) hfb hcell p
      refine wp_region_quiet_below (by assumption) (by kernel_rfl) ?_
      repeat (quiet_step (first
        | (go_at_call 10; exact calls_grownTo (HSI.out _))
        | (go_at_call 11; exact calls_grownTo (H3.out _))
        | (go_at_call 12; exact calls_grownTo (H4.out _))
        | (go_at_call 13; exact calls_grownTo (H5.out _))
        | (go_at_call 14; exact calls_grownTo (H6.out _))
        | (go_at_call 15; exact calls_grownTo (works_any _))))
      refine wpQuiet_nil ?_
      intro _ hw'
      obtain ⟨⟨wz, hbz⟩, hw''⟩ := hw'
      subst hw''
      have D3 := Lib.hid (D2.out.trans (hbz.mono D2.out.size))
      clear hbz f1
      go_wp2
      go_ret
      exact ⟨rfl, D3.out⟩
end Go.Proofs.Ytbccaljfofnepaa
