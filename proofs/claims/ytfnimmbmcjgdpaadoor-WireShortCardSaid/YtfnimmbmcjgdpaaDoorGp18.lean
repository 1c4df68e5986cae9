/- The reference's wire (burinref15): Written, Encode. -/
import Derived.Test.YtfnimmbmcjgdpaaDoorGp15
import Derived.Test.YtfnimmbmcjgdpaaDoorGp17
namespace Go.Proofs.YtfnimmbmcjgdpaaDoor
open Go.RowKit
set_option linter.unusedVariables false
namespace Pgm
/-- What the first instructions add to the head of an encoding. -/
def upW (l : List In) (st sl : Int) (k : Nat) : List UInt8 := magicL ++ ([st, sl, (l.length : Int)].flatMap vL ++ (l.take k).flatMap instW)
theorem upW_succ (l : List In) (st sl : Int) {k : Nat} {x : In} (h : l[k]? = some x) : upW l st sl (k + 1) = upW l st sl k ++ instW x := by
  unfold upW
  rw [List.take_add_one, h, List.flatMap_append]
  simp
theorem upW_all (l : List In) (st sl : Int) {k : Nat} (h : l.length ≤ k) : upW l st sl k = bodyW l st sl := by
  unfold upW bodyW
  rw [List.take_of_length_le h]
theorem upW_len (l : List In) (st sl : Int) (k : Nat) : (upW l st sl k).length ≤ 9 + 7 * k := by
  have h1 := vs_len [st, sl, (l.length : Int)]
  have h2 := (insts_wlen (l.take k)).2
  have h3 : (l.take k).length ≤ k := List.length_take_le _ _
  unfold upW
  simp only [List.length_append]
  have : magicL.length = 3 := rfl
  simp only [List.length_cons, List.length_nil] at h1
  omega
set_option maxRecDepth 100000 in
set_option maxHeartbeats 16000000 in
theorem written_any (l : List In) (st sl : Int) (vs : Value) (W : World) (hr : InRow W vs l) (hok : Ok l st sl) : Calls Tryd.prog 56 #[.agg #[vs, .int .i64 st, .int .i64 sl]] W fun e w' => e = .returned (.string (txB (encL l st sl))) ∧ Below W.heap.size W w' := by
  have mixed : Tryd.prog.follows .mixedOrders = true := by kernel_rfl
  obtain ⟨f, hf, hfz, HNF⟩ := num15_fun
  have HNF := Lib.hid HNF
  have hok' := hok
  obtain ⟨o1, o2, o3, o4, o5, o6, _⟩ := hok'
  have HOK := Lib.hid hok
  obtain ⟨a, cap, rfl, hl, hbd, hc⟩ := hr
  have HR := Lib.hid hc
  obtain ⟨n, hn⟩ : ∃ n, l.length = n := ⟨_, rfl⟩
  have HN := Lib.hid hn
  rw [hn] at o1 o2 ⊢
  have B1 : Hid (0 ≤ st ∧ st < 16384) := Lib.hid (by omega)
  have B2 : Hid (0 ≤ sl ∧ sl < 16384) := Lib.hid (by omega)
  have B3 : Hid (0 ≤ (n : Int) ∧ (n : Int) < 16384) := Lib.hid (by omega)
  have z1 := hfz st
  have z2 := hfz sl
  have z3 := hfz (n : Int)
  have HUP : Hid ((⟨#[66, 82, 49]⟩ : ByteArray) ++ f st ++ f sl ++ f (n : Int) = txB (upW l st sl 0)) := Lib.hid (by
    have e0 : (⟨#[66, 82, 49]⟩ : ByteArray) = txB magicL := rfl
    rw [e0]
    simp only [hf, txB_app]
    refine congrArg txB ?_
    unfold upW
    rw [hn]
    simp)
  have HUL := Lib.hid (upW_len l st sl)
  have HALL := Lib.hid (upW_all l st sl (k := n) (by omega))
  have r1 : ¬ 9223372036854775807 < 3 + (f st).size := by omega
  have r2 : ¬ 9223372036854775807 < 3 + (f st).size + (f sl).size := by omega
  have r3 : ¬ 9223372036854775807 < 3 + (f st).size + (f sl).size + (f (n : Int)).size := by omega
  have HENC : Hid (∀ T, T = txB (bodyW l st sl) → T ++ txB [xorL (bodyW l st sl)] = txB (encL l st sl)) := Lib.hid (fun T hT => by rw [hT, txB_app]; rfl)
  obtain ⟨E, hE⟩ : ∃ E, txB (encL l st sl) = E := ⟨_, rfl⟩
  rw [hE] at HENC ⊢
  obtain ⟨W1, hW1⟩ : ∃ W1, W.alloc (.cells #[.slice a n cap, .int .i64 st, .int .i64 sl] 46) = W1 := ⟨_, rfl⟩
  have hx1 : W1.heap[W.heap.size]? = some (.cells #[.slice a n cap, .int .i64 st, .int .i64 sl] 46 (0, 0)) := by rw [← hW1]; exact heap_alloc_new W _
  have HB1 : Hid (Below W.heap.size W W1) := Lib.hid (by rw [← hW1]; exact (Below.refl _ _).alloc (Nat.le_refl _) _)
  have hl1 : W.heap.size < W1.heap.size := (Array.getElem?_eq_some_iff.1 hx1).1
  have HX1 := Lib.hid hx1
  have c0 : W1.cell? ⟨W.heap.size, 0, none⟩ = some (.slice a n cap) := blkp hx1 0
  have c1 : W1.cell? ⟨W.heap.size, 1, none⟩ = some (.int .i64 st) := blkp hx1 1
  have c2 : W1.cell? ⟨W.heap.size, 2, none⟩ = some (.int .i64 sl) := blkp hx1 2
  have p0 := fun p => cell_grownTo (w := W1) (a := ⟨W.heap.size, 0, none⟩) hl1 c0 p
  have p1 := fun p => cell_grownTo (w := W1) (a := ⟨W.heap.size, 1, none⟩) hl1 c1 p
  have p2 := fun p => cell_grownTo (w := W1) (a := ⟨W.heap.size, 2, none⟩) hl1 c2 p
  clear hok hbd hc hl hn hf hfz hE hx1 o3 o4 o5 o6
  go_enter Tryd.func56, Tryd.ntmps56
  go_wp2
  refine wp_region_quiet_below mixed (by kernel_rfl) ?_
  repeat (quiet_step (first | (go_at_call 86; exact calls_grownTo (HNF.out _ _ (by assumption)))))
  refine wpQuiet_nil ?_
  intro _ hw'
  obtain ⟨⟨wz, hbz⟩, hw''⟩ := hw'
  subst hw''
  have HBZ := Lib.hid (HB1.out.trans (hbz.mono (by omega)))
  have HXZ := Lib.hid ((hbz.block _ (Array.getElem?_eq_some_iff.1 HX1.out).1).trans HX1.out)
  clear hbz p0 p1 p2 c0 c1 c2 hW1
  rw [HUP.out]
  clear r1 r2 r3 z1 z2 z3
  go_wp2
  go_loopw [3, 4] (fun V K wr => ∃ k : Nat, k ≤ n ∧ K = .int .i64 (k : Int) ∧ V = .string (txB (upW l st sl k)) ∧ Hid (Below W.heap.size W wr) ∧ Hid (wr.heap[W.heap.size]? = some (.cells #[.slice a n cap, .int .i64 st, .int .i64 sl] 46 (0, 0)))) (fun V K _ => n - (intOf K).toNat)
  case atStart => exact ⟨0, by omega, rfl, rfl, HBZ, HXZ⟩
  case round =>
    obtain ⟨k, hk, rfl, rfl, HB, HX⟩ := hrel
    have z0 := blkp HX.out 0
    simp only [List.getElem?_toArray, List.getElem?_cons_zero] at z0
    by_cases hlt : k < n
    · have hkl : k < l.length := by rw [HN.out]; exact hlt
      obtain ⟨b, off, rfl, hbl, hcc⟩ := HR.out k hkl
      obtain ⟨y, hy⟩ : ∃ y, l[k] = y := ⟨_, rfl⟩
      have HY : Hid (l[k]? = some y) := Lib.hid (by rw [List.getElem?_eq_getElem hkl, hy])
      rw [hy] at hcc
      have kc : ∀ q, q < 5 → wr.cell? ⟨b, off + k * 5 + q, none⟩ = y.cs[q]? := fun q hq => (HB.out.cell (p := ⟨b, off + k * 5 + q, none⟩) hbl).trans (hcc q hq)
      have q0 := kc 0 (by omega)
      have q1 := kc 1 (by omega)
      have q2 := kc 2 (by omega)
      have q3 := kc 3 (by omega)
      have q4 := kc 4 (by omega)
      simp only [In.cs, List.getElem?_cons_zero, List.getElem?_cons_succ, Nat.add_zero] at q0 q1 q2 q3 q4
      have HON := Lib.hid (fun w => one15_any y w (ok_fit HOK.out y (List.mem_of_getElem? HY.out)))
      have hbsz : b < wr.heap.size := Nat.lt_of_lt_of_le hbl HB.out.size
      have hul := HUL.out k
      have hiw := instW_len y
      have hsz1 : (txB (upW l st sl k)).size ≤ 100000 := by rw [txB_size]; omega
      have hsz2 : (txB (instW y)).size ≤ 7 := by rw [txB_size]; omega
      have HSU : Hid (txB (upW l st sl k) ++ txB (instW y) = txB (upW l st sl (k + 1))) := Lib.hid (by rw [txB_app, upW_succ l st sl HY.out])
      obtain ⟨U, hU⟩ : ∃ U, txB (upW l st sl k) = U := ⟨_, rfl⟩
      obtain ⟨I, hI⟩ : ∃ I, txB (instW y) = I := ⟨_, rfl⟩
      rw [hI] at HON hsz2 HSU
      rw [hU] at hsz1 HSU ⊢
      have rr : ¬ 9223372036854775807 < U.size + I.size := by omega
      clear kc hcc hy hkl hul hiw hU hI
      go_wp2_with fail
      refine (HON.out _).mono ?_
      rintro e w3 ⟨rfl, hb3⟩
      have HB3 := Lib.hid (HB.out.trans (hb3.mono HB.out.size))
      have HX3 := Lib.hid ((hb3.block _ (Array.getElem?_eq_some_iff.1 HX.out).1).trans HX.out)
      clear hb3 q0 q1 q2 q3 q4 z0
      go_wp2
      rw [HSU.out]
      go_roundw
      case rel => exact ⟨k + 1, by omega, by go_num, rfl, HB3, HX3⟩
      case measure => simp [intOf]; omega
    · obtain rfl : k = n := by omega
      rw [HALL.out]
      have hul := body_len l st sl
      have hN := HN.out
      have hsz : (txB (bodyW l st sl)).size ≤ 100000 := by rw [txB_size]; omega
      have htl := txB_list (bodyW l st sl)
      have HENC2 := Lib.hid (HENC.out _ rfl)
      obtain ⟨S, hS⟩ : ∃ S, txB (bodyW l st sl) = S := ⟨_, rfl⟩
      rw [hS] at hsz htl HENC2 ⊢
      rw [← htl] at HENC2
      have HX0 : Hid (((xorL (S.data.toList.take 0)).toNat : Int) = 0) := Lib.hid rfl
      have HXS : Hid (∀ j (h : j < S.size), bits .xor .u8 ((xorL (S.data.toList.take j)).toNat : Int) ((S[j]'h).toNat : Int) = ((xorL (S.data.toList.take (j + 1))).toNat : Int)) := Lib.hid (fun j h => xorL_take S j h)
      have HXN : Hid (S.data.toList.take S.size = S.data.toList) := Lib.hid (List.take_of_length_le (by simp))
      obtain ⟨m, hm⟩ : ∃ m, S.size = m := ⟨_, rfl⟩
      have HM := Lib.hid hm
      clear hul hN hS htl
      go_wp2
      go_loopw [5, 6] (fun V K wq => ∃ j : Nat, j ≤ m ∧ K = .int .i64 (j : Int) ∧ V = .int .u8 ((xorL (S.data.toList.take j)).toNat : Int) ∧ wq = wr) (fun V K _ => m - (intOf K).toNat)
      case atStart => exact ⟨0, by omega, rfl, by rw [HX0.out], rfl⟩
      case round =>
        obtain ⟨j, hj, rfl, rfl, rfl⟩ := hrel
        by_cases hjt : j < m
        · have hjl : j < S.size := by omega
          have hji : (j : Int) < (S.size : Int) := by omega
          have hjn : (j : Int) < (m : Int) := by omega
          have hxr := HXS.out j hjl
          have k0 : (0 : Int) ≤ (j : Int) := by omega
          have k1 : ((j : Int)).toNat = j := by omega
          go_wp2
          go_roundw
          case rel => first | exact ⟨j + 1, by omega, by go_num, rfl, trivial⟩ | exact ⟨j + 1, by omega, by go_num, rfl, rfl⟩
          case measure => simp [intOf]; omega
        · obtain rfl : j = m := by omega
          have hz : S.data.toList.take j = S.data.toList := by rw [← HM.out]; exact HXN.out
          rw [hz]
          have hk2 : ¬ (j : Int) < (S.size : Int) := by omega
          obtain ⟨c, hc⟩ : ∃ c, xorL S.data.toList = c := ⟨_, rfl⟩
          rw [hc] at HENC2 ⊢
          have hcv : (convert 55 9 (.slice (some ⟨wr.heap.size, 0, none⟩) 1 1)).run Tryd.prog (wr.alloc (.cells #[.int .u8 (c.toNat : Int)] 5)) = .ok (.string (txB [c])) (wr.alloc (.cells #[.int .u8 (c.toNat : Int)] 5)) := one_txt _ wr.heap.size 1 _ _ rfl (by simp)
          have hs1 : (txB [c]).size = 1 := by rw [txB_size]; rfl
          obtain ⟨C, hC⟩ : ∃ C, txB [c] = C := ⟨_, rfl⟩
          rw [hC] at hcv hs1 HENC2
          have rr : ¬ 9223372036854775807 < S.size + C.size := by omega
          have rr2 : ¬ 9223372036854775807 < S.size + 1 := by omega
          have rr3 : ¬ 9223372036854775807 < j + 1 := by omega
          clear hz hC
          go_wp2
          go_ret
          exact ⟨by first | rfl | (rw [HENC2.out]; rfl) | rw [HENC2.out], HB.out.alloc HB.out.size _⟩
set_option maxRecDepth 100000 in
set_option maxHeartbeats 4000000 in
theorem refEnc15_any (l : List In) (st sl : Int) (vs : Value) (W : World) (hr : InRow W vs l) : Calls Tryd.prog 27 #[.agg #[vs, .int .i64 st, .int .i64 sl]] W fun e w' => e = .returned (.tuple #[.string (if Ok l st sl then txB (encL l st sl) else ⟨#[]⟩), .int .i64 (chk l st sl)]) ∧ Below W.heap.size W w' := by
  obtain ⟨W1, hW1⟩ : ∃ W1, W.alloc (.cells #[vs, .int .i64 st, .int .i64 sl] 46) = W1 := ⟨_, rfl⟩
  have hx1 : W1.heap[W.heap.size]? = some (.cells #[vs, .int .i64 st, .int .i64 sl] 46 (0, 0)) := by rw [← hW1]; exact heap_alloc_new W _
  have hb1 : Below W.heap.size W W1 := by rw [← hW1]; exact (Below.refl _ _).alloc (Nat.le_refl _) _
  have hr1 := hr.below (Nat.le_refl _) hb1
  have HC := Lib.hid (refChk14_any l st sl vs W1 hr1)
  have HX1 := Lib.hid hx1
  have HB1 := Lib.hid hb1
  by_cases hok : Ok l st sl
  · rw [if_pos hok, chk_ok hok]
    rw [chk_ok hok] at HC
    have HWR := Lib.hid (fun w (h : Below W.heap.size W w) => written_any l st sl vs w (hr.below (Nat.le_refl _) h) hok)
    obtain ⟨E, hE⟩ : ∃ E, txB (encL l st sl) = E := ⟨_, rfl⟩
    rw [hE] at HWR ⊢
    obtain ⟨a, cap, rfl, hl, hbd, hc⟩ := hr
    obtain ⟨n, hn⟩ : ∃ n, l.length = n := ⟨_, rfl⟩
    rw [hn] at HC hW1 HX1 HWR ⊢
    have HW1 := Lib.hid hW1
    clear hE hx1 hb1 hr1 hl hbd hc hn hok hW1
    go_enter Tryd.func27, Tryd.ntmps27
    go_wp2_with fail
    rw [HW1.out]
    refine HC.out.mono ?_
    rintro e w2 ⟨rfl, hb2⟩
    have HB2 := Lib.hid (HB1.out.trans (hb2.mono HB1.out.size))
    have HX2 := Lib.hid ((hb2.block _ (Array.getElem?_eq_some_iff.1 HX1.out).1).trans HX1.out)
    have b0 := blkp HX2.out 0
    have b1 := blkp HX2.out 1
    have b2 := blkp HX2.out 2
    simp only [List.getElem?_toArray, List.getElem?_cons_zero, List.getElem?_cons_succ] at b0 b1 b2
    clear hb2
    go_wp2_with fail
    refine (HWR.out w2 HB2.out).mono ?_
    rintro e w3 ⟨rfl, hb3⟩
    have HB3 := Lib.hid (HB2.out.trans (hb3.mono HB2.out.size))
    clear hb3
    go_wp2
    go_ret2
    exact ⟨rfl, HB3.out⟩
  · rw [if_neg hok, chk_not hok]
    rw [chk_not hok] at HC
    obtain ⟨a, cap, rfl, hl, hbd, hc⟩ := hr
    obtain ⟨n, hn⟩ : ∃ n, l.length = n := ⟨_, rfl⟩
    rw [hn] at HC hW1 HX1 ⊢
    have HW1 := Lib.hid hW1
    clear hx1 hb1 hr1 hl hbd hc hn hok hW1
    go_enter Tryd.func27, Tryd.ntmps27
    go_wp2_with fail
    rw [HW1.out]
    refine HC.out.mono ?_
    rintro e w2 ⟨rfl, hb2⟩
    have HB2 := Lib.hid (HB1.out.trans (hb2.mono HB1.out.size))
    clear hb2
    go_wp2
    go_ret2
    exact ⟨rfl, HB2.out⟩
end Pgm
end Go.Proofs.YtfnimmbmcjgdpaaDoor
