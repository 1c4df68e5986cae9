/- The landed verify: order. -/
import Derived.Test.YtchcjinaagncjaaDoorGp13
import Derived.Deep.LoopGhost
namespace Go.Proofs.YtchcjinaagncjaaDoor
open Go.RowKit
set_option linter.unusedVariables false
set_option linter.unusedSimpArgs false
namespace Pgm
set_option maxRecDepth 100000 in
set_option maxHeartbeats 8000000 in
theorem order_any (l : List In) (vs : Value) (W : World) (hr : InRow W vs l) (hT : Tg l) (hn4 : l.length ≤ 4000) (hE : EvB W) :
    Calls Tryd.prog 53 #[vs] W fun e w' => ∃ v, e = .returned v ∧ IOwn w' W.heap.size v ((ordF l).map Int.ofNat) ∧ Below W.heap.size W w' := by
  obtain ⟨a, cap, hvs, hl, hbd, hc⟩ := (show ∃ a cap, vs = .slice a l.length cap ∧ _ from hr)
  obtain ⟨n, hn⟩ : ∃ n, l.length = n := ⟨_, rfl⟩
  rw [hn] at hvs
  subst hvs
  obtain ⟨B, hB⟩ : ∃ B, W.heap.size = B := ⟨_, rfl⟩
  obtain ⟨i0, hi0, hz0, hz1, hz2⟩ := info_parts infoNum
  have hmk : (Instr.makeSlice 30 (.int .i64 0) (.int .i64 (n : Int))).run Tryd.prog W = .ok (.slice (some ⟨W.heap.size, 0, none⟩) 0 n) (W.alloc (.cells (madeCells (#[.int .i64 0] : Array Value) (n * 1)) 3)) := by
    have := run_make (P := Tryd.prog) W 30 3 i0 (.int .i64 0) underNum hi0 hz0 .i64 .i64 0 (n : Int) (by omega) (by omega) (by rw [hz2]; omega) (by omega)
    rw [hz1, Int.toNat_natCast] at this
    exact this
  have hown0 : (W.alloc (.cells (madeCells (#[.int .i64 0] : Array Value) (n * 1)) 3)).ownsRow W.heap.size 3 1 (.slice (some ⟨W.heap.size, 0, none⟩) 0 n) 0 [] :=
    World.ownsRow_made W (madeCells (#[.int .i64 0] : Array Value) (n * 1)) n (Nat.le_refl _) (by unfold maxLen; omega) (by simp [madeCells])
  obtain ⟨C, hC⟩ : ∃ C, madeCells (#[.int .i64 0] : Array Value) (n * 1) = C := ⟨_, rfl⟩
  rw [hC] at hmk hown0
  obtain ⟨W1, hW1⟩ : ∃ W1, W.alloc (.cells C 3) = W1 := ⟨_, rfl⟩
  have hb1 : Below W.heap.size W W1 := by rw [← hW1]; exact (Below.refl _ _).alloc (Nat.le_refl _) _
  have hs1 : W1.heap.size = B + 1 := by rw [← hW1, ← hB]; simp
  rw [hW1] at hown0
  have hca := cahd_any l (.slice a n cap) W1 (hr.below (Nat.le_refl _) hb1) hT hn4
  rw [hn, hs1] at hca
  have HCA := Lib.hid hca
  have HR := Lib.hid hr
  have HT := Lib.hid hT
  have HN := Lib.hid hn
  have HE := Lib.hid hE
  have HW1 := Lib.hid hW1
  have HB1 := Lib.hid hb1
  have HBS := Lib.hid hB
  have HO0 := Lib.hid hown0
  have HMK := Lib.hid hmk
  rw [hB] at hmk
  have hn0 : (0 : Int) ≤ (n : Int) := by omega
  have hn40 : n ≤ 4000 := by omega
  clear hc hT hW1 hb1 hl hbd hn hE hr hown0 hi0 hz0 hz1 hz2 hs1 hC hca hn4
  rw [hB]
  go_enter Tryd.func53, Tryd.ntmps53
  rw [← hB] at hmk
  go_wp2
  go_step3
  go_wp2_with fail
  rw [HW1.out]
  refine HCA.out.mono ?_
  rintro e w2 ⟨rfl, hm2, hb2⟩
  have HM2 := Lib.hid hm2
  have HB2 := Lib.hid hb2
  clear hm2 hb2 hmk
  go_wp2
  have hF0 : ∃ F, w2.heap.size = F := ⟨_, rfl⟩
  obtain ⟨F, hF⟩ := hF0
  have HFS := Lib.hid hF
  rw [hF]
  clear hF
  have HTL : Hid (∀ j, j < 4032 → fr0 l [] j = (decide (j < n) && fr0 l [] j)) := Lib.hid (fun j _ => by
    rw [← HN.out]
    unfold fr0
    cases decide (j < l.length) <;> rfl)
  go_loopw [19] (fun K wr => ∃ k : Nat, k ≤ n ∧ K = .int .i64 (k : Int) ∧ Hid (OW W (B + 1) F n (fun t => (ahd l [] t : Int)) (fun j => decide (j < k) && fr0 l [] j) (.slice (some ⟨B, 0, none⟩) 0 n) [] wr)) (fun K _ => n - (intOf K).toNat)
  case atStart =>
    refine ⟨0, by omega, rfl, Lib.hid ?_⟩
    have hm2 := HM2.out
    have hb2 := HB2.out
    have hl2 := hm2.lt
    have hb3 : Below w2.heap.size w2 (w2.alloc (.cells #[.int .u64 0, .int .u64 0, .int .u64 0, .int .u64 0, .int .u64 0, .int .u64 0, .int .u64 0, .int .u64 0, .int .u64 0, .int .u64 0, .int .u64 0, .int .u64 0, .int .u64 0, .int .u64 0, .int .u64 0, .int .u64 0, .int .u64 0, .int .u64 0, .int .u64 0, .int .u64 0, .int .u64 0, .int .u64 0, .int .u64 0, .int .u64 0, .int .u64 0, .int .u64 0, .int .u64 0, .int .u64 0, .int .u64 0, .int .u64 0, .int .u64 0, .int .u64 0, .int .u64 0, .int .u64 0, .int .u64 0, .int .u64 0, .int .u64 0, .int .u64 0, .int .u64 0, .int .u64 0, .int .u64 0, .int .u64 0, .int .u64 0, .int .u64 0, .int .u64 0, .int .u64 0, .int .u64 0, .int .u64 0, .int .u64 0, .int .u64 0, .int .u64 0, .int .u64 0, .int .u64 0, .int .u64 0, .int .u64 0, .int .u64 0, .int .u64 0, .int .u64 0, .int .u64 0, .int .u64 0, .int .u64 0, .int .u64 0, .int .u64 0] 136)) := (Below.refl _ _).alloc (Nat.le_refl _) _
    have hB := HBS.out
    have hF := HFS.out
    refine ⟨hm2.below hb3 hl2, ⟨List.replicate 63 0, ?_, (Wd.nil).cong fun j _ => by simp⟩, ?_, fun g e => ?_, ?_, by omega, by omega⟩
    · unfold Wds
      rw [← hF, heap_alloc_new]
      rfl
    · have h0 := HO0.out
      rw [hB] at h0
      have h1 : IOwn W1 W.heap.size (.slice (some ⟨B, 0, none⟩) 0 n) [] := by rw [hB]; exact h0
      refine io_keep h1 fun g e => ?_
      obtain rfl : B = g := by simpa [Value.ownBlock] using e
      exact (hb3.block B (by omega)).trans (hb2.block B (by omega))
    · obtain rfl : B = g := by simpa [Value.ownBlock] using e
      omega
    · exact HB1.out.trans ((hb2.mono (by omega)).trans (hb3.mono (by omega)))
  case round =>
    obtain ⟨k, hk, rfl, HO⟩ := hrel
    by_cases hlt : k < n
    · obtain ⟨c1, c2⟩ := HO.out.nums.cell hlt
      have hlo := HO.out.lo
      obtain ⟨L, hL, hS⟩ := HO.out.set
      have HAD := Lib.hid (vfadd_any wr F L _ hL hS k (by omega))
      have k0 : (0 : Int) ≤ (k : Int) := by omega
      have k1 : (k : Int) < (n : Int) := by omega
      have HTK : Hid (fr0 l [] k = decide (ahd l [] k = 0)) := Lib.hid (by
        unfold fr0
        rw [HN.out, decide_eq_true hlt, Bool.true_and]
        apply Bool.eq_iff_iff.2
        rw [rdy_iff]
        simp)
      clear hL hS hlo
      obtain ⟨z, hz⟩ : ∃ z, ahd l [] k = z := ⟨_, rfl⟩
      rw [hz] at c1 HTK
      clear hz
      by_cases hz0 : z = 0
      · subst hz0
        have hz1 : ((0 : Nat) : Int) = 0 := rfl
        rw [hz1] at c1
        go_wp2_with fail
        refine HAD.out.mono ?_
        rintro e w5 ⟨rfl, L', h1, h2, h3, h4⟩
        have HO5 := Lib.hid ((HO.out.add h1 h2 h3 h4).cong (fun _ _ => rfl) (S' := fun j => decide (j < k + 1) && fr0 l [] j) fun j hj => by
          by_cases e : j = k
          · subst e; rw [HTK.out]; simp
          · have : decide (j < k + 1) = decide (j < k) := decide_eq_decide.2 (by omega)
            rw [this]; simp [e])
        clear h1 h2 h3 h4 c1 c2
        go_wp2
        go_roundw
        case rel => exact ⟨k + 1, by omega, by go_num, HO5⟩
        case measure => simp [intOf]; omega
      · have z1 : ¬ (z : Int) = 0 := by omega
        have HO5 := Lib.hid (HO.out.cong (fun _ _ => rfl) (S' := fun j => decide (j < k + 1) && fr0 l [] j) fun j hj => by
          by_cases e : j = k
          · subst e; rw [HTK.out]; simp [hz0]
          · have : decide (j < k + 1) = decide (j < k) := decide_eq_decide.2 (by omega)
            rw [this])
        clear hz0
        go_wp2
        go_roundw
        case rel => exact ⟨k + 1, by omega, by go_num, HO5⟩
        case measure => simp [intOf]; omega
    · obtain rfl : k = n := by omega
      have HO5 := Lib.hid (HO.out.cong (fun _ _ => rfl) (S' := fun j => fr0 l [] j) fun j hj => (HTL.out j hj).symm)
      go_wp2
      go_step3
      go_wp2
      have HI0 := Lib.hid (Inv.nil l)
      have HD0 : Hid (ordN l (k - 0) [] = ordF l) := Lib.hid (by unfold ordF; rw [HN.out]; rfl)
      go_loopg [3] k (fun N V wr => ∃ (o : List Nat) (m : Nat), Hid (o.length = m) ∧ m ≤ k ∧ N = k - m ∧ Hid (Inv l o) ∧ Hid (ordN l (k - m) o = ordF l) ∧ (∃ a c, V = .slice a m c) ∧ Hid (OW W (B + 1) F k (fun t => (ahd l o t : Int)) (fr0 l o) V (o.map Int.ofNat) wr))
      case atStart => exact ⟨[], 0, Lib.hid rfl, Nat.zero_le _, rfl, HI0, HD0, ⟨_, _, rfl⟩, HO5⟩
      case round =>
        obtain ⟨o, m, HM, hm, rfl, HI, HD, ⟨av, cv, rfl⟩, HO⟩ := hrel
        obtain ⟨wo, rfl⟩ : ∃ wo : World, wo = wr := ⟨_, rfl⟩
        by_cases hlt : m < k
        · obtain ⟨L, hL, hS⟩ := HO.out.set
          have HL := Lib.hid hL
          have HS := Lib.hid hS
          clear hL hS
          go_wp2
          go_loopw [3, 34] (fun V K wq => ∃ w : Nat, w ≤ 63 ∧ K = .int .i64 (w : Int) ∧ V = .slice av m cv ∧ Hid (∀ v, v < w → L.getD v 0 = 0) ∧ wo = wq) (fun V K _ => 63 - (intOf K).toNat)
          case atStart => exact ⟨0, by omega, rfl, rfl, Lib.hid (fun v hv => absurd hv (Nat.not_lt_zero _)), rfl⟩
          case round =>
            obtain ⟨w, hw, rfl, rfl, HZ, rfl⟩ := hrel
            by_cases hw63 : w < 63
            · obtain ⟨c1, c2⟩ := HL.out.cell (k := w) (by rw [HS.out.1]; exact hw63)
              have hx64 := (HS.out.2 w hw63).1
              obtain ⟨x, hx⟩ : ∃ x, L.getD w 0 = x := ⟨_, rfl⟩
              have HX := Lib.hid hx
              rw [hx] at c1 hx64
              clear hx
              have w0 : (0 : Int) ≤ (w : Int) := by omega
              have w1 : (w : Int) < 63 := by omega
              by_cases hx0 : x = 0
              · subst hx0
                have HZ2 : Hid (∀ v, v < w + 1 → L.getD v 0 = 0) := Lib.hid (fun v hv => by
                  rcases Nat.lt_or_ge v w with h9 | h9
                  · exact HZ.out v h9
                  · obtain rfl : v = w := by omega
                    exact HX.out)
                rw [show ((0 : Nat) : Int) = 0 from rfl] at c1
                clear hx64
                go_wp2
                go_roundw
                case rel => exact ⟨w + 1, by omega, by go_num, by first | rfl | trivial, HZ2, by first | rfl | trivial⟩
                case measure => simp [intOf]; omega
              · have hF1 := HS.out.first hw63 HZ.out (by rw [HX.out]; exact hx0)
                rw [HX.out] at hF1
                obtain ⟨p1, p2, p3, p4⟩ := hF1
                have hp := pick_fr0 p1 p2
                have HTZ := Lib.hid (tz_any x hx64 hx0 wo (by
                  have := HO.out.bel
                  exact HE.out.below this (Nat.le_refl _)))
                obtain ⟨z, hz⟩ : ∃ z, Lib.ctz 64 x = z := ⟨_, rfl⟩
                rw [hz] at p1 p2 p3 p4 hp HTZ
                obtain ⟨i, hi⟩ : ∃ i, 64 * w + z = i := ⟨_, rfl⟩
                rw [hi] at p1 p2 p4 hp
                have hpk := pick_some hp
                have hik : i < k := by rw [← HN.out]; exact hpk.1
                have hio := hpk.2.1
                have hiz : (w : Int) * 64 + (z : Int) = (i : Int) := by omega
                have HP := Lib.hid hp
                have HIO := Lib.hid hio
                have hand : bits .and .u64 (x : Int) ((x : Int) - 1) = ((x &&& (x - 1) : Nat) : Int) := by
                  have h1 := bits_and_u64_nat x (x - 1) hx64 (by omega)
                  rw [← h1]
                  congr 1
                  omega
                have HAND := Lib.hid hand
                have hL2 := HL.out.set w (x &&& (x - 1))
                have HO6 : Hid (OW W (B + 1) F k (fun t => (ahd l o t : Int)) (fun j => fr0 l o j && decide (j ≠ i)) (.slice av m cv) (o.map Int.ofNat) (wo.setCell ⟨F, w, none⟩ (.int .u64 (((x &&& (x - 1) : Nat)) : Int))).drew) := Lib.hid (HO.out.add hL2 p4 ((Below.refl F wo).setCell (p := ⟨F, w, none⟩) (Nat.le_refl _) _).drew fun b hb => heap_setCell_other wo ⟨F, w, none⟩ b _ hb)
                have x1 : ¬ (x : Int) = 0 := by omega
                clear p1 p2 p4 hp hz hi hpk hio hL2 hand
                go_wp2_with fail
                refine HTZ.out.mono ?_
                rintro e w5 ⟨rfl, hw5⟩
                have hw5 := hw5.symm
                subst hw5
                go_wp2
                go_region
                rw [HAND.out]
                obtain ⟨w6, hw6⟩ : ∃ w6, (wo.setCell ⟨F, w, none⟩ (.int .u64 (((x &&& (x - 1) : Nat)) : Int))).drew = w6 := ⟨_, rfl⟩
                rw [hw6] at HO6 ⊢
                obtain ⟨g4, d4, w7, hrun, ho7, hs7⟩ := HO6.out.app m (by rw [List.length_map]; exact HM.out) (by omega) (i : Int)
                have HRUN := Lib.hid hrun
                have HO7 := Lib.hid ho7
                clear hw6 hrun hs7 c1 c2 x1 hx0 hx64 hiz
                have i0 : (0 : Int) ≤ (i : Int) := by omega
                have i1 : (i : Int) < (k : Int) := by omega
                have hil : i < l.length := by rw [HN.out]; exact hik
                obtain ⟨a', cap', hvs', hl', hbd', hc'⟩ := HR.out.below (Nat.le_refl _) ho7.bel
                obtain ⟨b, off, ha, hbl, hcc⟩ := hc' i hil
                injection hvs' with e1 e2 e3
                subst e1
                subst ha
                obtain ⟨y, hy⟩ : ∃ y, l[i] = y := ⟨_, rfl⟩
                have HIN : Hid (∀ q (hq : q < (etL y).length), ∃ t : Nat, (etL y)[q] = (t : Int) ∧ t < k ∧ ∃ h : q < (inst l i).length, (inst l i)[q] = t) := Lib.hid (fun q hq => by
                  subst hy
                  obtain ⟨t, h1, h2, h3⟩ := etL_in HT.out hil hq
                  exact ⟨t, h1, by rw [← HN.out]; exact h2, h3⟩)
                have HIL : Hid ((inst l i).length = (etL y).length) := Lib.hid (by rw [← hy]; exact etL_inlen hil)
                rw [hy] at hcc
                have q0 := hcc 0 (by omega)
                have q1 := hcc 1 (by omega)
                have q2 := hcc 2 (by omega)
                have q3 := hcc 3 (by omega)
                have q4 := hcc 4 (by omega)
                simp only [In.cs, List.getElem?_cons_zero, List.getElem?_cons_succ, Nat.add_zero] at q0 q1 q2 q3 q4
                have HET := Lib.hid (empty_any y w7)
                clear hcc hc' hbd' hl' ho7 hy e2 e3
                go_wp2_with (at_builtin; (refine wpList_append_run rfl _ _ 30 rfl _ _ _ w7 rfl rfl HRUN.out ?_))
                refine HET.out.mono ?_
                rintro e w8 ⟨v8, rfl, ho8, hb8⟩
                obtain ⟨a3, c3, rfl, hrd⟩ := io_rd ho8
                have HRD := Lib.hid hrd
                have HO8 := Lib.hid (HO7.out.below hb8 (Nat.le_refl _))
                have hFl := HO7.out.ltF
                have hlo := HO7.out.lo
                have hlen := etL_len y
                obtain ⟨mm, hmm⟩ : ∃ mm, (etL y).length = mm := ⟨_, rfl⟩
                have HME := Lib.hid hmm
                have hAl : B + 1 < w7.heap.size := by omega
                rw [hmm] at hlen ⊢
                clear ho8 hrd hb8 q0 q1 q2 q3 q4 hmm hlo
                go_wp2
                go_loopw [67] (fun Q wq => ∃ q : Nat, q ≤ mm ∧ Q = .int .i64 (q : Int) ∧ Hid (OW W (B + 1) F k (fun t => (lft l o i q t : Int)) (fre l o i q) (.slice (some ⟨g4, 0, none⟩) (m + 1) d4) (o.map Int.ofNat ++ [(i : Int)]) wq) ∧ Hid (Nrd wq a3 (etL y) w7.heap.size)) (fun Q _ => mm - (intOf Q).toNat)
                case atStart => exact ⟨0, by omega, rfl, Lib.hid (HO8.out.cong (fun s _ => by rw [lft_start]) (fun j _ => (fre_start i j).symm)), HRD⟩
                case round =>
                  obtain ⟨q, hq, rfl, HQ, HR2⟩ := hrel
                  by_cases hql : q < mm
                  · have hqe : q < (etL y).length := by rw [HME.out]; exact hql
                    obtain ⟨t, ht, htn, hqi, hti⟩ := HIN.out q hqe
                    obtain ⟨b3, ha3, hlo3, hlt3, hc3⟩ := HR2.out q hqe
                    rw [ht] at hc3
                    subst ha3
                    obtain ⟨n1, n2⟩ := HQ.out.nums.cell htn
                    have hil : i < l.length := by rw [HN.out]; exact hik
                    have hps := lft_pos hil HIO.out hqi
                    have hst := lft_step hil HIO.out hqi
                    have HAD := Lib.hid (fre_add HT.out HI.out HP.out hqi)
                    have HSM := Lib.hid (fre_same hil HIO.out hqi)
                    rw [hti] at hps HAD HSM
                    simp only [hti] at hst
                    have HST := Lib.hid hst
                    obtain ⟨z2, hz2⟩ : ∃ z2, lft l o i q t = z2 + 1 := ⟨lft l o i q t - 1, by omega⟩
                    have HZ2 := Lib.hid hz2
                    have hzb : z2 ≤ 9000 := by
                      have h1 := ahd_le l o t
                      have h2 : lft l o i q t ≤ ahd l o t := Nat.sub_le _ _
                      rw [HN.out] at h1
                      omega
                    rw [hz2] at n1
                    have HW9 := Lib.hid (HQ.out.num t (z2 : Int))
                    have HRS := Lib.hid (fun u => HR2.out.set (k := t) hAl u)
                    have t0 : (0 : Int) ≤ (t : Int) := by omega
                    have t1 : (t : Int) < (k : Int) := by omega
                    have qq0 : (0 : Int) ≤ (q : Int) := by omega
                    have qq1 : (q : Int) < (mm : Int) := by omega
                    have HFN : Hid (∀ s, s < k → (if s = t then (z2 : Int) else (lft l o i q s : Int)) = (lft l o i (q + 1) s : Int)) := Lib.hid (fun s _ => by
                      rw [HST.out s]
                      by_cases e : s = t
                      · subst e; rw [if_pos rfl, if_pos rfl, HZ2.out]; simp
                      · rw [if_neg e, if_neg (fun h => e h.symm)]; simp)
                    have HZ9 : Hid (lft l o i (q + 1) t = z2) := Lib.hid (by rw [HST.out t, if_pos rfl, HZ2.out]; omega)
                    clear hti hqi hps hst hz2 hil
                    by_cases hz0 : z2 = 0
                    · subst hz0
                      rw [show (((0 : Nat) + 1 : Nat) : Int) = 1 from rfl] at n1
                      rw [show ((0 : Nat) : Int) = 0 from rfl] at HW9 HFN
                      obtain ⟨L9, hL9, hS9⟩ := HW9.out.set
                      have HVA := Lib.hid (vfadd_any _ F L9 _ hL9 hS9 t (by omega))
                      go_wp2_with fail
                      refine HVA.out.mono ?_
                      rintro e w5 ⟨rfl, L', h1, h2, h3, h4⟩
                      have HR5 := Lib.hid ((HRS.out (.int .i64 0)).of h3.size (fun b hb _ => h4 b hb) hFl)
                      have HO5 := Lib.hid ((HW9.out.add h1 h2 h3 h4).cong (S' := fre l o i (q + 1)) HFN.out fun j _ => (HAD.out HZ9.out j).symm)
                      clear h1 h2 h3 h4 n1 n2 hL9 hS9
                      go_wp2
                      go_roundw
                      case rel => exact ⟨q + 1, by omega, by go_num, HO5, HR5⟩
                      case measure => simp [intOf]; omega
                    · have z0 : ¬ (z2 : Int) = 0 := by omega
                      have HO5 := Lib.hid (HW9.out.cong (S' := fre l o i (q + 1)) HFN.out fun j _ => (HSM.out (by rw [HZ9.out]; exact hz0) j).symm)
                      have HR5 := Lib.hid (HRS.out (.int .i64 (z2 : Int)))
                      rw [show ((z2 + 1 : Nat) : Int) = (z2 : Int) + 1 from rfl] at n1
                      have zz : (z2 : Int) + 1 - 1 = (z2 : Int) := by omega
                      have z3 : ((z2 : Int) == 0) = false := by rw [beq_eq_false_iff_ne]; exact z0
                      go_wp2
                      go_roundw
                      case rel => exact ⟨q + 1, by omega, by go_num, HO5, HR5⟩
                      case measure => simp [intOf]; omega
                  · obtain rfl : q = mm := by omega
                    have hil : i < l.length := by rw [HN.out]; exact hik
                    have HI2 := Lib.hid (HI.out.snoc HP.out)
                    have HD2 : Hid (ordN l (k - (m + 1)) (o ++ [i]) = ordF l) := Lib.hid (by
                      rw [← HD.out, show k - m = (k - (m + 1)) + 1 by omega, ordN_some HP.out])
                    have HM2 : Hid ((o ++ [i]).length = m + 1) := Lib.hid (by rw [List.length_append, HM.out]; rfl)
                    have HO9 := Lib.hid (HQ.out.cong (f' := fun t => (ahd l (o ++ [i]) t : Int)) (S' := fr0 l (o ++ [i])) (fun s _ => by
                      have := lft_end hil HIO.out s
                      rw [HIL.out, HME.out] at this
                      rw [this]) (fun j _ => by
                      have := fre_end hil HIO.out j
                      rw [HIL.out, HME.out] at this
                      exact this))
                    have HO10 : Hid (OW W (B + 1) F k (fun t => (ahd l (o ++ [i]) t : Int)) (fr0 l (o ++ [i])) (.slice (some ⟨g4, 0, none⟩) (m + 1) d4) ((o ++ [i]).map Int.ofNat) wr) := Lib.hid (by
                      rw [List.map_append]; exact HO9.out)
                    clear hil
                    go_wp2
                    go_roundg (k - (m + 1))
                    case rel => exact ⟨o ++ [i], m + 1, HM2, by omega, rfl, HI2, HD2, ⟨_, _, rfl⟩, HO10⟩
                    case measure => omega
            · obtain rfl : w = 63 := by omega
              have HPN : Hid (pick l o = none) := Lib.hid (pick_fr0_no fun j hj => HS.out.zero (Nat.le_refl _) HZ.out j (by have := HN.out; omega))
              have HOF : Hid (ordF l = o) := Lib.hid (by rw [← HD.out, ordN_none HPN.out])
              go_wp2
              rw [Exit.noGoto_ret]
              go_ret
              exact ⟨_, rfl, by rw [HOF.out]; have := HO.out.own; rw [HBS.out] at this; exact this, by have := HO.out.bel; rw [HBS.out] at this; exact this⟩
        · obtain rfl : m = k := by omega
          have HOF : Hid (ordF l = o) := Lib.hid (by rw [← HD.out, Nat.sub_self]; rfl)
          go_wp2
          rw [Exit.noGoto_ret]
          go_ret
          exact ⟨_, rfl, by rw [HOF.out]; have := HO.out.own; rw [HBS.out] at this; exact this, by have := HO.out.bel; rw [HBS.out] at this; exact this⟩
end Pgm
end Go.Proofs.YtchcjinaagncjaaDoor
