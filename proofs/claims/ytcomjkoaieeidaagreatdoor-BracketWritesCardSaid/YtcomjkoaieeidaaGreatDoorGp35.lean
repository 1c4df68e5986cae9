/- burinlaw07.BracketWrites, walked. · An argument that is a list of ranges, opened. -/
import Derived.Test.YtcomjkoaieeidaaGreatDoorGp32
import Derived.Test.YtcomjkoaieeidaaGreatDoorGp33
import Derived.Test.YtcomjkoaieeidaaGreatDoorGp22
import Derived.Test.YtcomjkoaieeidaaGreatDoorGp34
import Derived.Test.YtcomjkoaieeidaaGreatDoorGp11
import Derived.Deep.SlicePairs
import Derived.ProofKit
import Derived.SizedLaws
import Derived.Lib.RowBridge
namespace Go.Proofs.YtcomjkoaieeidaaGreatDoor
open Go.RowKit
set_option linter.unusedVariables false
namespace Br
open Go.Proofs.YtcomjkoaieeidaaGreatDoor.Rg
theorem listOf_self {M : List R} (h : NormL M) : ListOf M M := ⟨h, fun q _ _ => by simp [opB, hasB]⟩
theorem itsIs_map (M : List R) : ItsIs (M.map fun p => .rng p.1 p.2) M := by simpa using itsIs_rng M [] [] .nil
theorem brIs_setn {M out o : List R} (hn : NormL M) (h : BrIs (M.map fun p => .rng p.1 p.2) false true out) (k : Made 3 [(0, 1114111)] M o) : out = o :=
  brIs_unique h (brIs_not (brIs_plain (itsIs_map M) (listOf_self hn)) k)
theorem brIs_setf {M out o : List R} (hn : NormL M) (h : BrIs (M.map fun p => .rng p.1 p.2) true false out) (h3 : NormL o) (h4 : ∀ q, hasB o q = Fd.clB M q) : out = o :=
  brIs_unique h (brIs_fold (itsIs_map M) (listOf_self hn) h3 h4)
theorem wr_len21 (p : R) (h0 : 0 ≤ p.1) (h1 : p.1 ≤ 1114111) (h2 : 0 ≤ p.2) (h3 : p.2 ≤ 1114111) : (wr p).length ≤ 21 := by
  have a := hexL6 (n := p.1.toNat) (by omega)
  have b := hexL6 (n := p.2.toNat) (by omega)
  rw [wr_len, esc_len, esc_len]; omega
end Br
theorem wr_text (x y : ByteArray) (a b : Nat) (hx : Utf.nums x = Br.hexL a) (hy : Utf.nums y = Br.hexL b) : Utf.nums (⟨#[92, 120, 123]⟩ ++ x ++ ⟨#[125, 45, 92, 120, 123]⟩ ++ y ++ ⟨#[125]⟩) = Br.wr ((a : Int), (b : Int)) := by
  rw [nums_app, nums_app, nums_app, nums_app, hx, hy, show Utf.nums ⟨#[92, 120, 123]⟩ = [92, 120, 123] from rfl, show Utf.nums ⟨#[125, 45, 92, 120, 123]⟩ = [125, 45, 92, 120, 123] from rfl, show Utf.nums ⟨#[125]⟩ = [125] from rfl]
  show _ = Br.esc a ++ 45 :: Br.esc b
  unfold Br.esc
  simp
theorem wr_n1 (tx s : ByteArray) (L : List Int) (h : Utf.nums tx = L) : Utf.nums (⟨#[91]⟩ ++ tx ++ ⟨#[93]⟩ ++ s) = 91 :: (L ++ 93 :: Utf.nums s) := by
  rw [nums_app, nums_app, nums_app, h, show Utf.nums ⟨#[91]⟩ = [91] from rfl, show Utf.nums ⟨#[93]⟩ = [93] from rfl]; simp
theorem wr_n2 (tx s : ByteArray) (L : List Int) (h : Utf.nums tx = L) : Utf.nums (⟨#[91, 94]⟩ ++ tx ++ ⟨#[93]⟩ ++ s) = 91 :: 94 :: (L ++ 93 :: Utf.nums s) := by
  rw [nums_app, nums_app, nums_app, h, show Utf.nums ⟨#[91, 94]⟩ = [91, 94] from rfl, show Utf.nums ⟨#[93]⟩ = [93] from rfl]; simp
theorem wr_n3 (tx : ByteArray) (L : List Int) (h : Utf.nums tx = L) : Utf.nums (⟨#[91]⟩ ++ tx ++ ⟨#[93]⟩) = 91 :: (L ++ 93 :: []) := by
  rw [nums_app, nums_app, h, show Utf.nums ⟨#[91]⟩ = [91] from rfl, show Utf.nums ⟨#[93]⟩ = [93] from rfl]; simp
theorem wr_z1 (tx s : ByteArray) (h : tx.size ≤ 210) (h2 : s.size ≤ 100) : (⟨#[91]⟩ ++ tx ++ ⟨#[93]⟩ ++ s : ByteArray).size ≤ 400 := by
  rw [ByteArray.size_append, ByteArray.size_append, ByteArray.size_append, show (⟨#[91]⟩ : ByteArray).size = 1 from rfl, show (⟨#[93]⟩ : ByteArray).size = 1 from rfl]; omega
theorem wr_z2 (tx s : ByteArray) (h : tx.size ≤ 210) (h2 : s.size ≤ 100) : (⟨#[91, 94]⟩ ++ tx ++ ⟨#[93]⟩ ++ s : ByteArray).size ≤ 400 := by
  rw [ByteArray.size_append, ByteArray.size_append, ByteArray.size_append, show (⟨#[91, 94]⟩ : ByteArray).size = 2 from rfl, show (⟨#[93]⟩ : ByteArray).size = 1 from rfl]; omega
theorem wr_z3 (tx : ByteArray) (h : tx.size ≤ 210) : (⟨#[91]⟩ ++ tx ++ ⟨#[93]⟩ : ByteArray).size ≤ 400 := by
  rw [ByteArray.size_append, ByteArray.size_append, show (⟨#[91]⟩ : ByteArray).size = 1 from rfl, show (⟨#[93]⟩ : ByteArray).size = 1 from rfl]; omega
theorem wr_size (x y : ByteArray) (a b : Nat) (hx : Utf.nums x = Br.hexL a) (hy : Utf.nums y = Br.hexL b) : (⟨#[92, 120, 123]⟩ ++ x ++ ⟨#[125, 45, 92, 120, 123]⟩ ++ y ++ ⟨#[125]⟩ : ByteArray).size = (Br.wr ((a : Int), (b : Int))).length :=
  (Utf.nums_length _).symm.trans (congrArg List.length (wr_text x y a b hx hy))
theorem wr_add (tx x y : ByteArray) (a b : Nat) (hx : Utf.nums x = Br.hexL a) (hy : Utf.nums y = Br.hexL b) : Utf.nums (tx ++ (⟨#[92, 120, 123]⟩ ++ x ++ ⟨#[125, 45, 92, 120, 123]⟩ ++ y ++ ⟨#[125]⟩)) = Utf.nums tx ++ Br.wr ((a : Int), (b : Int)) :=
  (nums_app _ _).trans (congrArg (Utf.nums tx ++ ·) (wr_text x y a b hx hy))
set_option maxRecDepth 100000 in
set_option maxHeartbeats 8000000 in
theorem walkBracketWrites (W : World) (v : Value) (l : List (Int × Int)) (s : ByteArray) (hr : RRow W v l) (hs : s.size ≤ 140737488351232) (hE : Ev W) :
    Calls Tryz.prog 5 #[v, .string s] W fun e w' => e = .returned (.bool true) ∧ Below W.heap.size W w' := by
  have mixed : Tryz.prog.follows .mixedOrders = true := by kernel_rfl
  have HE := Lib.hid hE
  have HR := Lib.hid hr
  clear hE hr
  go_enter Tryz.func5, Tryz.ntmps5
  go_wp2_with fail
  refine (works7_any _ HE.out).mono ?_
  rintro e w1 ⟨rfl, hb⟩
  have D1 := Lib.hid hb
  clear hb
  go_wp2_with fail
  refine (norm_any _ _ l (HR.out.below (Nat.le_refl _) D1.out)).mono ?_
  rintro e w2 ⟨v2, M, rfl, hm, ho, hb⟩
  have HM := Lib.hid hm.norm
  have HO2 := Lib.hid (ho.normRow hm.norm)
  have D2 := Lib.hid (D1.out.trans (hb.mono D1.out.size))
  clear hm ho hb HR
  obtain ⟨a, cap, rfl, hl, _, hc⟩ := HO2.out
  have HC := Lib.hid hc
  obtain ⟨n, hn⟩ : ∃ n, M.length = n := ⟨_, rfl⟩
  have HN := Lib.hid hn
  have HO := Lib.hid HO2.out
  rw [hn] at HO HC hl ⊢
  clear hn hc HO2
  by_cases h0 : n = 0
  · subst h0
    go_wp2
    go_ret
    exact ⟨rfl, D2.out⟩
  have h0b : ((n : Int) == 0) = false := by simpa using h0
  by_cases h10 : 10 < n
  · have h10i : (10 : Int) < (n : Int) := by omega
    go_wp2
    go_ret
    exact ⟨rfl, D2.out⟩
  have h10i : ¬ (10 : Int) < (n : Int) := by omega
  by_cases h100 : 100 < s.size
  · have h100i : (100 : Int) < (s.size : Int) := by omega
    go_wp2
    go_ret
    exact ⟨rfl, D2.out⟩
  have h100i : ¬ (100 : Int) < (s.size : Int) := by omega
  go_wp2
  go_loopw [6, 37] (fun T I wr => ∃ (j : Nat) (tx : ByteArray), j ≤ n ∧ I = .int .i64 j ∧ T = .string tx ∧ tx.size ≤ 21 * j ∧ Hid (Utf.nums tx = (M.take j).flatMap Br.wr) ∧ Hid (Below w2.heap.size w2 wr)) (fun _ I _ => n - (intOf I).toNat)
  case atStart => exact ⟨0, ⟨#[]⟩, Nat.zero_le _, rfl, rfl, Nat.le_refl _, Lib.hid rfl, Lib.hid (Below.refl _ _)⟩
  case round =>
    obtain ⟨j, tx, hj, rfl, rfl, htx, HT, HBW⟩ := hrel
    obtain ⟨wo, rfl⟩ : ∃ wo : World, wo = wr := ⟨_, rfl⟩
    by_cases hlt : j < n
    · obtain ⟨b, off, rfl, hbs, hc1, hc2⟩ := HC.out j hlt
      have hk1 := (HBW.out.cell (p := ⟨b, off + j * 2, none⟩) hbs).trans hc1
      have hk2 := (HBW.out.cell (p := ⟨b, off + j * 2 + 1, none⟩) hbs).trans hc2
      have hbo : b < wo.heap.size := Nat.lt_of_lt_of_le hbs HBW.out.size
      obtain ⟨p, hp⟩ : ∃ p, M[j]?.getD (0, 0) = p := ⟨_, rfl⟩
      have hpm : p ∈ M := by rw [← hp, List.getElem?_eq_getElem (by rw [HN.out]; exact hlt)]; exact List.getElem_mem _
      have hpb := Rg.norm_lo M 0 HM.out p hpm
      have hts : (M.take (j + 1)).flatMap Br.wr = (M.take j).flatMap Br.wr ++ Br.wr p := by
        rw [List.take_succ_eq_append_getElem (by rw [HN.out]; exact hlt), List.flatMap_append]
        simp only [List.flatMap_cons, List.flatMap_nil, List.append_nil]
        rw [← hp, List.getElem?_eq_getElem (by rw [HN.out]; exact hlt)]; rfl
      rw [hp] at hk1 hk2
      obtain ⟨p1, p2⟩ := p
      dsimp only at hk1 hk2 hpb
      obtain ⟨x, rfl⟩ : ∃ x : Nat, p1 = x := ⟨p1.toNat, by omega⟩
      obtain ⟨y, rfl⟩ : ∃ y : Nat, p2 = y := ⟨p2.toNat, by omega⟩
      have hwl := Br.wr_len21 ((x : Int), (y : Int)) hpb.1 (by dsimp only; omega) (by dsimp only; omega) hpb.2.2
      have hx : x ≤ 1114111 := by omega
      have hy : y ≤ 1114111 := by omega
      have HTS := Lib.hid hts
      have HWL := Lib.hid hwl
      have HBA := Lib.hid (HBW.out.alloc HBW.out.size (.cells #[.int .i64 (x : Int), .int .i64 (y : Int)] 36))
      have j1 : (j : Int) < (n : Int) := by omega
      clear hp hpm hts hwl hc1 hc2
      obtain ⟨f, hf⟩ := hex7_fun
      obtain ⟨hX, hXs, _⟩ := hf x hx
      obtain ⟨hY, hYs, _⟩ := hf y hy
      have HXY := Lib.hid (fun k h => (hf k h).2.2)
      have hsz := wr_size (f x) (f y) x y hX hY
      have hnx := wr_add tx (f x) (f y) x y hX hY
      rw [HT.out, ← HTS.out] at hnx
      have HNX := Lib.hid hnx
      have HSZ := Lib.hid hsz
      have HZ2 := Lib.hid (Nat.le_trans (Nat.le_of_eq hsz) HWL.out)
      have hj2 : tx.size ≤ 210 := by omega
      clear hf hX hY hsz hnx HTS HWL hpb
      have hxn : ((f x).size : Int) ≤ 6 := by omega
      have hyn : ((f y).size : Int) ≤ 6 := by omega
      go_wp2_with fail
      have q0 : (wo.alloc (.cells #[.int .i64 (x : Int), .int .i64 (y : Int)] 36)).cell? ⟨wo.heap.size, 0, none⟩ = some (.int .i64 (x : Int)) := by simp
      have q1 : (wo.alloc (.cells #[.int .i64 (x : Int), .int .i64 (y : Int)] 36)).cell? ⟨wo.heap.size, 1, none⟩ = some (.int .i64 (y : Int)) := by simp
      have q2 : wo.heap.size < (wo.alloc (.cells #[.int .i64 (x : Int), .int .i64 (y : Int)] 36)).heap.size := by simp
      obtain ⟨wx, hwx⟩ : ∃ wx, wo.alloc (.cells #[.int .i64 (x : Int), .int .i64 (y : Int)] 36) = wx := ⟨_, rfl⟩
      obtain ⟨g, hg⟩ : ∃ g, wo.heap.size = g := ⟨_, rfl⟩
      rw [hwx] at HBA q0 q1 q2 ⊢
      rw [hg] at q0 q1 q2 ⊢
      have p0 := fun p => cell_grownTo (w := wx) (a := ⟨g, 0, none⟩) q2 q0 p
      have p1 := fun p => cell_grownTo (w := wx) (a := ⟨g, 1, none⟩) q2 q1 p
      clear hwx hg hk1 hk2 hbo q0 q1
      have r1 : ¬ 9223372036854775807 < 3 + (f x).size := by omega
      have r2 : ¬ 9223372036854775807 < 3 + (f x).size + 5 := by omega
      have r3 : ¬ 9223372036854775807 < 3 + (f x).size + 5 + (f y).size := by omega
      have r4 : ¬ 9223372036854775807 < 3 + (f x).size + 5 + (f y).size + 1 := by omega
      have r5 : ¬ 9223372036854775807 < tx.size + (3 + (f x).size + 5 + (f y).size + 1) := by omega
      refine wp_region_quiet_below mixed (by kernel_rfl) ?_
      repeat (quiet_step (first | (go_at_call 18; exact calls_grownTo ((HXY.out _ (by assumption) _).mono fun _ w' h => ⟨h.1, by rw [← h.2]; exact Below.refl _ _⟩))))
      refine wpQuiet_nil ?_
      intro _ hw'
      obtain ⟨⟨wz, hbz⟩, hw''⟩ := hw'
      subst hw''
      have HBZ := Lib.hid (HBA.out.trans (hbz.mono HBA.out.size))
      clear hbz p0 p1 q2 r1 r2 r3 r4 r5
      go_wp2
      go_roundw
      case rel => exact ⟨j + 1, _, by omega, by go_num, rfl, by rw [ByteArray.size_append]; have := HZ2.out; omega, HNX, HBZ⟩
      case measure => simp [intOf]; omega
    · obtain rfl : j = n := by omega
      have hfl := HT.out
      rw [List.take_of_length_le (by rw [HN.out]; exact Nat.le_refl _)] at hfl
      have ht210 : tx.size ≤ 210 := by omega
      have hs100 : s.size ≤ 100 := by omega
      have hne : M ≠ [] := by intro e; have := HN.out; rw [e] at this; exact h0 this.symm
      have hbd : ∀ p ∈ M, 0 ≤ p.1 ∧ p.1 ≤ p.2 ∧ p.2 ≤ 1114111 := fun p hp => Rg.norm_lo M 0 HM.out p hp
      have hlen : (M.flatMap Br.wr).length = tx.size := by rw [← hfl]; exact Utf.nums_length _
      have HK1 := Lib.hid (Br.brack_wr hne hbd (wr_n1 tx s _ hfl))
      have HK2 := Lib.hid (Br.brack_wrn hne hbd (wr_n2 tx s _ hfl))
      have HK3 := Lib.hid (Br.brack_wr hne hbd (wr_n3 tx _ hfl))
      rw [hlen] at HK1 HK2 HK3
      have HZ1 := Lib.hid (wr_z1 tx s ht210 hs100)
      have HZ2 := Lib.hid (wr_z2 tx s ht210 hs100)
      have HZ3 := Lib.hid (wr_z3 tx ht210)
      have HR0 := Lib.hid (HO.out.below (Nat.le_refl _) HBW.out)
      have D3 := Lib.hid (D2.out.trans (HBW.out.mono D2.out.size))
      obtain ⟨N1, hN1⟩ : ∃ N1, 1 + tx.size + 1 = N1 := ⟨_, rfl⟩
      obtain ⟨N2, hN2⟩ : ∃ N2, 2 + tx.size + 1 = N2 := ⟨_, rfl⟩
      have hw1 : IntKind.i64.wrap ((tx.size : Int) + 2) = (N1 : Int) := by rw [IntKind.wrap_i64]; omega
      have hw2 : IntKind.i64.wrap ((tx.size : Int) + 3) = (N2 : Int) := by rw [IntKind.wrap_i64]; omega
      have HN1 := Lib.hid hN1
      have HN2 := Lib.hid hN2
      have hti : (tx.size : Int) ≤ 210 := by omega
      have hsi : (s.size : Int) ≤ 100 := by omega
      have j1 : ¬ (j : Int) < (j : Int) := by omega
      clear hfl hne hbd hlen hN1 hN2 HT HBW htx HC hj h0 h0b h10 h100
      go_wp2_with fail
      refine (brk_any _ _ HZ1.out 0 false (by decide) (HE.out.below (Nat.le_refl _) D3.out)).mono ?_
      intro e w4 hpost
      rcases hpost with ⟨hb4, ⟨o, c, hx, _⟩ | ⟨Xs, at_, v4, out4, hx, rfl, hi, ho⟩⟩
      · rw [HK1.out.1] at hx; cases hx
      rw [HK1.out.1] at hx
      obtain ⟨hXs, hat⟩ : (M.map fun p => Br.It.rng p.1 p.2) = Xs ∧ 1 + tx.size = at_ := by cases hx; exact ⟨rfl, rfl⟩
      subst hXs
      subst hat
      rw [HK1.out.2] at hi
      have HEQ1 := Lib.hid (Br.brIs_set HM.out hi)
      have HA4 := Lib.hid (ho.normRow (by rw [HEQ1.out]; exact HM.out))
      have HR4 := Lib.hid (HR0.out.below (Nat.le_refl _) hb4)
      have D4 := Lib.hid (D3.out.trans (hb4.mono D3.out.size))
      rw [HN1.out]
      clear hb4 hx hi ho
      go_wp2_with fail
      refine (brk_any _ _ HZ2.out 0 false (by decide) (HE.out.below (Nat.le_refl _) D4.out)).mono ?_
      intro e w5 hpost
      rcases hpost with ⟨hb5, ⟨o, c, hx, _⟩ | ⟨Xs, at_, v5, out5, hx, rfl, hi, ho⟩⟩
      · rw [HK2.out.1] at hx; cases hx
      rw [HK2.out.1] at hx
      obtain ⟨hXs, hat⟩ : (M.map fun p => Br.It.rng p.1 p.2) = Xs ∧ 2 + tx.size = at_ := by cases hx; exact ⟨rfl, rfl⟩
      subst hXs
      subst hat
      rw [HK2.out.2] at hi
      have HI5 : Hid (Br.BrIs (M.map fun p => Br.It.rng p.1 p.2) false true out5) := Lib.hid hi
      have HA5 := Lib.hid (HA4.out.below (Nat.le_refl _) hb5)
      have HB5 := Lib.hid (ho.normRow (by obtain ⟨_, _, _, _, h, _⟩ := hi; exact h))
      have HR5 := Lib.hid (HR4.out.below (Nat.le_refl _) hb5)
      have D5 := Lib.hid (D4.out.trans (hb5.mono D4.out.size))
      rw [HN2.out]
      clear hb5 hx hi ho HA4 HR4
      go_wp2_with fail
      refine (brk_any _ _ HZ3.out 1 true (by decide) (HE.out.below (Nat.le_refl _) D5.out)).mono ?_
      intro e w6 hpost
      rcases hpost with ⟨hb6, ⟨o, c, hx, _⟩ | ⟨Xs, at_, v6, out6, hx, rfl, hi, ho⟩⟩
      · rw [HK3.out.1] at hx; cases hx
      rw [HK3.out.1] at hx
      obtain ⟨hXs, hat⟩ : (M.map fun p => Br.It.rng p.1 p.2) = Xs ∧ 1 + tx.size = at_ := by cases hx; exact ⟨rfl, rfl⟩
      subst hXs
      subst hat
      rw [HK3.out.2] at hi
      have HI6 : Hid (Br.BrIs (M.map fun p => Br.It.rng p.1 p.2) true false out6) := Lib.hid hi
      have HA6 := Lib.hid (HA5.out.below (Nat.le_refl _) hb6)
      have HB6 := Lib.hid (HB5.out.below (Nat.le_refl _) hb6)
      have HC6 := Lib.hid (ho.normRow (by obtain ⟨_, _, _, _, h, _⟩ := hi; exact h))
      have HR6 := Lib.hid (HR5.out.below (Nat.le_refl _) hb6)
      have D6 := Lib.hid (D5.out.trans (hb6.mono D5.out.size))
      rw [HN1.out]
      clear hb6 hx hi ho HA5 HB5 HR5
      go_wp2_with fail
      refine (same_refl_row _ _ _ _ _ HA6.out HR6.out HEQ1.out).mono ?_
      rintro e w7 ⟨rfl, hb⟩
      have HB7 := Lib.hid (HB6.out.below (Nat.le_refl _) hb)
      have HC7 := Lib.hid (HC6.out.below (Nat.le_refl _) hb)
      have HR7 := Lib.hid (HR6.out.below (Nat.le_refl _) hb)
      have D7 := Lib.hid (D6.out.trans (hb.mono D6.out.size))
      clear hb HB6 HC6 HR6 HA6
      go_wp2_with fail
      refine (not_any _ _ _ HR7.out).mono ?_
      rintro e w8 ⟨v8, o8, rfl, hm8, ho8, hb⟩
      have HEQ2 := Lib.hid (Br.brIs_setn HM.out HI5.out hm8)
      have HO8 := Lib.hid (ho8.normRow hm8.norm)
      have HB8 := Lib.hid (HB7.out.below (Nat.le_refl _) hb)
      have HC8 := Lib.hid (HC7.out.below (Nat.le_refl _) hb)
      have HR8 := Lib.hid (HR7.out.below (Nat.le_refl _) hb)
      have D8 := Lib.hid (D7.out.trans (hb.mono D7.out.size))
      clear hb hm8 ho8 HB7 HC7 HR7
      go_wp2_with fail
      refine (same_refl_row _ _ _ _ _ HB8.out HO8.out HEQ2.out).mono ?_
      rintro e w9 ⟨rfl, hb⟩
      have HC9 := Lib.hid (HC8.out.below (Nat.le_refl _) hb)
      have HR9 := Lib.hid (HR8.out.below (Nat.le_refl _) hb)
      have D9 := Lib.hid (D8.out.trans (hb.mono D8.out.size))
      clear hb HC8 HR8 HB8 HO8
      go_wp2_with fail
      refine (close_any _ _ _ HR9.out).mono ?_
      rintro e wA ⟨vA, oA, rfl, hnA, hcA, hoA, hb⟩
      have HEQ3 := Lib.hid (Br.brIs_setf HM.out HI6.out hnA hcA)
      have HOA := Lib.hid (hoA.normRow hnA)
      have HCA := Lib.hid (HC9.out.below (Nat.le_refl _) hb)
      have DA := Lib.hid (D9.out.trans (hb.mono D9.out.size))
      clear hb hnA hcA hoA HC9 HR9
      go_wp2_with fail
      refine (same_refl_row _ _ _ _ _ HCA.out HOA.out HEQ3.out).mono ?_
      rintro e wB ⟨rfl, hb⟩
      have DB := Lib.hid (DA.out.trans (hb.mono DA.out.size))
      clear hb
      go_wp2
      go_ret
      exact ⟨rfl, DB.out⟩
end Go.Proofs.YtcomjkoaieeidaaGreatDoor
namespace Go.Proofs.YtcomjkoaieeidaaGreatDoor
open Go.ChangeShapes Go.WideShapes Go.ChangeAt Go.RowKit
set_option linter.unusedVariables false
theorem laidOut : laidOutB Tryz.prog = true := by kernel_rfl
theorem rangeStruct : ∃ f0 f1 : Field, Tryz.prog.underlying 36 = some (.struct #[f0, f1]) ∧ f0.offset = 0 ∧ f1.offset = 1 ∧ f0.type = 3 ∧ f1.type = 3 := ⟨_, _, Tryz.underlying36, rfl, rfl, rfl, rfl⟩
theorem rangeCells : Tryz.prog.cellsOf 36 = 2 := by kernel_rfl
theorem intCells : Tryz.prog.cellsOf 3 = 1 := by kernel_rfl
theorem rangeBytes : Tryz.prog.bytesOf 36 = 16 := by kernel_rfl
theorem choose_pairs {α : Type} {n : Nat} {p : Nat → α → Prop} [Inhabited α] (h : ∀ i, i < n → ∃ x, p i x) : ∃ f : Nat → α, ∀ i, i < n → p i (f i) := by
  classical
  exact ⟨fun i => if hi : i < n then (h i hi).choose else default, fun i hi => by simp only [dif_pos hi]; exact (h i hi).choose_spec⟩
set_option maxRecDepth 100000 in
theorem open_ranges {H : Type} {enc : TypeId × Value → H} {W : World} {base : Nat} {v : Value} {d : DataW H} {p : List MemPlace} (hv : Value.okWide Tryz.prog W .any base 26 v)
    (h : DataW.Trod enc Tryz.prog W 0 (fun _ => true) true 26 v d p) (hs : ∀ elems spare, d = .slice elems spare → (elems.length + spare.length) * 16 ≤ 140737488351232) : ∃ l, RRow W v l := by
  obtain ⟨fuel, hf⟩ := h
  obtain ⟨f0, f1, he, o0, o1, t0, t1⟩ := rangeStruct
  obtain ⟨a0, len0, cap0, rfl⟩ := okWide_slice Tryz.underlying26 hv
  rcases Deep.open_slice_pairs Tryz.underlying26 he rangeCells o0 o1 (by rw [t0]; exact intCells) (by rw [t1]; exact intCells) hf with ⟨hcs, hx⟩ | ⟨a, len, cap, m, n, V0, V1, D0, D1, P0, P1, hcs, hb, hl, hm, hmm, hx, hi⟩
  · simp [Value.cells] at hcs
    obtain ⟨rfl, rfl, rfl⟩ := hcs
    exact ⟨[], RRow.nil W⟩
  · simp [Value.cells] at hcs
    obtain ⟨rfl, rfl, rfl⟩ := hcs
    simp only [if_true] at hmm
    subst hmm
    simp only [Prod.mk.injEq] at hx
    have hsz := hs _ _ hx.1
    simp only [List.length_map, List.length_range] at hsz
    have each : ∀ i, i < m → ∃ x : Int × Int, V0 i = .int .i64 x.1 ∧ V1 i = .int .i64 x.2 ∧ (Lit.int .i64 x.1).wf = true ∧ (Lit.int .i64 x.2).wf = true := by
      intro i him
      obtain ⟨_, _, h3, h4⟩ := hi i him
      rw [t0] at h3
      rw [t1] at h4
      obtain ⟨z0, e0, _, w0⟩ := DataW.trod_int Tryz.underlying3 h3
      obtain ⟨z1, e1, _, w1⟩ := DataW.trod_int Tryz.underlying3 h4
      exact ⟨(z0, z1), by simpa using e0, by simpa using e1, w0, w1⟩
    obtain ⟨f, hf2⟩ := choose_pairs each
    refine ⟨(List.range len0).map f, _, _, by rw [List.length_map, List.length_range], by rw [List.length_map, List.length_range]; omega, fun q hq => ?_, fun j hj => ?_⟩
    · obtain ⟨i, hir, rfl⟩ := List.mem_map.1 hq
      have hil := List.mem_range.1 hir
      obtain ⟨_, _, w0, w1⟩ := hf2 i (by omega)
      have h1 : IntKind.i64.min = -9223372036854775808 := rfl
      have h2 : IntKind.i64.max = 9223372036854775807 := rfl
      simp [Lit.wf, h1, h2] at w0 w1
      omega
    · rw [List.length_map, List.length_range] at hj
      obtain ⟨c0, c1, _, _⟩ := hi j (by omega)
      obtain ⟨b, off, spot⟩ := a
      have hspot : spot = none := by simpa [Addr.add] using World.cell?_spot (hi 0 (by omega)).1
      subst hspot
      obtain ⟨e0, e1, _, _⟩ := hf2 j (by omega)
      rw [e0, add_plain] at c0
      rw [e1, add_plain] at c1
      have hg : ((List.range len0).map f)[j]?.getD (0, 0) = f j := by simp [hj]
      rw [hg]
      exact ⟨b, off, rfl, World.block_lt_of_cell? W _ c0, c0, by rw [Nat.add_assoc]; exact c1⟩
end Go.Proofs.YtcomjkoaieeidaaGreatDoor
