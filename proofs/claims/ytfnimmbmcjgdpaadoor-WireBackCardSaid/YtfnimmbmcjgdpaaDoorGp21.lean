/- The landed wire: Encode. -/
import Derived.Test.YtfnimmbmcjgdpaaDoorGp18
import Derived.Test.YtfnimmbmcjgdpaaDoorGp20
import Derived.Lib.SlBytesConst
namespace Go.Proofs.YtfnimmbmcjgdpaaDoor
open Go.RowKit
set_option linter.unusedVariables false
namespace Pgm
/-- What Encode hands back. -/
def encS (l : List In) (st sl : Int) : ByteArray := if Ok l st sl then txB (encL l st sl) else ⟨#[]⟩
theorem enc_ok {l : List In} {st sl : Int} (h : Ok l st sl) : encS l st sl = txB (encL l st sl) := by unfold encS; rw [if_pos h]
theorem enc_no {l : List In} {st sl : Int} (h : ¬ Ok l st sl) : encS l st sl = ⟨#[]⟩ := by unfold encS; rw [if_neg h]
set_option maxRecDepth 100000 in
set_option maxHeartbeats 8000000 in
theorem encode_bad (l : List In) (st sl : Int) (vs : Value) (W : World) (hr : InRow W vs l) (hE : EvO W) (hno : ¬ Ok l st sl) : Calls Tryd.prog 26 #[.agg #[vs, .int .i64 st, .int .i64 sl]] W fun e w' => e = .returned (.tuple #[.string ⟨#[]⟩, .int .i64 130]) ∧ Below W.heap.size W w' := by
  obtain ⟨W1, hW1⟩ : ∃ W1, W.alloc (.cells #[vs, .int .i64 st, .int .i64 sl] 46) = W1 := ⟨_, rfl⟩
  have hb1 : Below W.heap.size W W1 := by rw [← hW1]; exact (Below.refl _ _).alloc (Nat.le_refl _) _
  have HC := Lib.hid (check_any l st sl vs W1 (hr.below (Nat.le_refl _) hb1) (hE.below (Nat.le_refl _) hb1))
  rw [chk_not hno] at HC
  have HB1 := Lib.hid hb1
  have HW1 := Lib.hid hW1
  obtain ⟨a, cap, rfl, hl, hbd, hc⟩ := hr
  obtain ⟨n, hn⟩ : ∃ n, l.length = n := ⟨_, rfl⟩
  rw [hn] at HC HW1 ⊢
  clear hb1 hW1 hl hbd hc hn hno hE
  go_enter Tryd.func26, Tryd.ntmps26
  go_wp2_with fail
  rw [HW1.out]
  refine HC.out.mono ?_
  rintro e w2 ⟨rfl, hb2⟩
  have HB2 := Lib.hid (HB1.out.trans (hb2.mono HB1.out.size))
  clear hb2
  go_wp2
  go_ret2
  exact ⟨rfl, HB2.out⟩
theorem own_at (i : In) (j : Nat) (X : Nat) (W : World) (hx : W.heap[X]? = some (.cells #[.int .i64 i.op, .int .i64 i.lo, .int .i64 i.hi, .int .i64 i.x, .int .i64 i.y] 81 (0, 0))) (hj : j < ownN i.op) :
    ∃ (o : Nat) (z : Int), (plL X i.op)[j]? = some (X, o) ∧ (ownL i)[j]? = some z ∧ W.cell? ⟨X, o, none⟩ = some (.int .i64 z) := by
  have c1 : W.cell? ⟨X, 1, none⟩ = some (.int .i64 i.lo) := blkp hx 1
  have c2 : W.cell? ⟨X, 2, none⟩ = some (.int .i64 i.hi) := blkp hx 2
  have c3 : W.cell? ⟨X, 3, none⟩ = some (.int .i64 i.x) := blkp hx 3
  have c4 : W.cell? ⟨X, 4, none⟩ = some (.int .i64 i.y) := blkp hx 4
  unfold ownN at hj
  unfold plL offL ownL
  by_cases h1 : i.op = 1
  · rw [if_pos h1] at hj
    rw [if_pos h1, if_pos h1]
    have : j = 0 ∨ j = 1 ∨ j = 2 := by omega
    rcases this with rfl | rfl | rfl
    · exact ⟨1, _, rfl, rfl, c1⟩
    · exact ⟨2, _, rfl, rfl, c2⟩
    · exact ⟨3, _, rfl, rfl, c3⟩
  rw [if_neg h1] at hj
  rw [if_neg h1, if_neg h1]
  by_cases h2 : i.op = 2
  · rw [if_pos h2] at hj
    rw [if_pos h2, if_pos h2]
    have : j = 0 ∨ j = 1 := by omega
    rcases this with rfl | rfl
    · exact ⟨3, _, rfl, rfl, c3⟩
    · exact ⟨4, _, rfl, rfl, c4⟩
  rw [if_neg h2] at hj
  rw [if_neg h2, if_neg h2]
  by_cases h3 : i.op = 3 ∨ i.op = 4
  · rw [if_pos h3] at hj
    rw [if_pos h3, if_pos h3]
    have : j = 0 ∨ j = 1 := by omega
    rcases this with rfl | rfl
    · exact ⟨1, _, rfl, rfl, c1⟩
    · exact ⟨3, _, rfl, rfl, c3⟩
  rw [if_neg h3] at hj
  omega
theorem own_take (i : In) (j : Nat) (z : Int) (h : (ownL i)[j]? = some z) : ((ownL i).take (j + 1)).flatMap vL = ((ownL i).take j).flatMap vL ++ vL z := by
  rw [List.take_add_one, h, List.flatMap_append]
  simp
theorem ints_one {V V2 : World} {z : Int} (h : V.alloc (.cells #[.int .i64 z] 3) = V2) : IntsAt V2 (some ⟨V.heap.size, 0, none⟩) [z] := fun j hj => by
  have : j = 0 := by simpa using hj
  subst this
  rw [← h]
  exact ⟨V.heap.size, 0, _, _, rfl, heap_alloc_new _ _, rfl⟩
set_option maxRecDepth 100000 in
set_option maxHeartbeats 16000000 in
theorem encode_ok (l : List In) (st sl : Int) (vs : Value) (W : World) (hr : InRow W vs l) (hE : EvO W) (hok : Ok l st sl) : Calls Tryd.prog 26 #[.agg #[vs, .int .i64 st, .int .i64 sl]] W fun e w' => e = .returned (.tuple #[.string (txB (encL l st sl)), .int .i64 0]) ∧ Below W.heap.size W w' := by
  obtain ⟨W1, hW1⟩ : ∃ W1, W.alloc (.cells #[vs, .int .i64 st, .int .i64 sl] 46) = W1 := ⟨_, rfl⟩
  have hb1 : Below W.heap.size W W1 := by rw [← hW1]; exact (Below.refl _ _).alloc (Nat.le_refl _) _
  have hx1 : W1.heap[W.heap.size]? = some (.cells #[vs, .int .i64 st, .int .i64 sl] 46 (0, 0)) := by rw [← hW1]; exact heap_alloc_new W _
  have HC := Lib.hid (check_any l st sl vs W1 (hr.below (Nat.le_refl _) hb1) (hE.below (Nat.le_refl _) hb1))
  rw [chk_ok hok] at HC
  have HB1 := Lib.hid hb1
  have HW1 := Lib.hid hW1
  have HX1 := Lib.hid hx1
  have HOK := Lib.hid hok
  obtain ⟨a, cap, rfl, hl, hbd, hc⟩ := hr
  have HR := Lib.hid hc
  obtain ⟨n, hn⟩ : ∃ n, l.length = n := ⟨_, rfl⟩
  have HN := Lib.hid hn
  have hn4 : n ≤ 4000 := by have := hok.2.1; omega
  rw [hn] at HC HW1 HX1 ⊢
  obtain ⟨E, hE2⟩ : ∃ E, txB (encL l st sl) = E := ⟨_, rfl⟩
  have HENC : Hid (txB (bodyW l st sl ++ [xorL (bodyW l st sl)]) = E) := Lib.hid hE2
  rw [hE2]
  clear hb1 hW1 hl hbd hc hn hok hE hx1 hE2
  go_enter Tryd.func26, Tryd.ntmps26
  go_wp2_with fail
  rw [HW1.out]
  refine HC.out.mono ?_
  rintro e w2 ⟨rfl, hb2⟩
  have HB2 := Lib.hid (HB1.out.trans (hb2.mono HB1.out.size))
  have HX2 := Lib.hid ((hb2.block _ (Array.getElem?_eq_some_iff.1 HX1.out).1).trans HX1.out)
  clear hb2
  obtain ⟨W3, hW3⟩ : ∃ W3, w2.alloc (.cells #[.int .u8 66, .int .u8 82, .int .u8 49] 5 (3, 4)) = W3 := ⟨_, rfl⟩
  have hb3 : Below W.heap.size W W3 := by rw [← hW3]; exact HB2.out.alloc HB2.out.size _
  have hx3 : W3.heap[W.heap.size]? = some (.cells #[.slice a n cap, .int .i64 st, .int .i64 sl] 46 (0, 0)) := by rw [← hW3]; exact (Below.heap_alloc _ _ _ (Array.getElem?_eq_some_iff.1 HX2.out).1).trans HX2.out
  have ho3 : W3.heap[w2.heap.size]? = some (.cells (Lib.byteCells magicL).toArray 5 (3, 4)) := by rw [← hW3]; exact heap_alloc_new _ _
  obtain ⟨W4, hW4⟩ : ∃ W4, W3.alloc (.cells #[.int .i64 st, .int .i64 sl, .int .i64 (n : Int)] 3) = W4 := ⟨_, rfl⟩
  have hb4 : Below W.heap.size W W4 := by rw [← hW4]; exact hb3.alloc hb3.size _
  have hb34 : Below W3.heap.size W3 W4 := by rw [← hW4]; exact (Below.refl _ _).alloc (Nat.le_refl _) _
  have hx4 : W4.heap[W.heap.size]? = some (.cells #[.slice a n cap, .int .i64 st, .int .i64 sl] 46 (0, 0)) := by rw [← hW4]; exact (Below.heap_alloc _ _ _ (Array.getElem?_eq_some_iff.1 hx3).1).trans hx3
  have hy4 : W4.heap[W3.heap.size]? = some (.cells #[.int .i64 st, .int .i64 sl, .int .i64 (n : Int)] 3 (0, 0)) := by rw [← hW4]; exact heap_alloc_new _ _
  have ho4 : ByApp W4 W.heap.size (.slice (some ⟨w2.heap.size, 0, none⟩) 3 3) magicL := .inr ⟨w2.heap.size, 3, _, rfl, rfl, (hb34.block _ (Array.getElem?_eq_some_iff.1 ho3).1).trans ho3⟩
  have hints : IntsAt W4 (some ⟨W3.heap.size, 0, none⟩) [st, sl, (n : Int)] := fun j hj => ⟨W3.heap.size, 0, _, (0, 0), rfl, hy4, by
    have : j = 0 ∨ j = 1 ∨ j = 2 := by simp at hj; omega
    rcases this with rfl | rfl | rfl <;> rfl⟩
  have HVS := Lib.hid (varints_any W4 W.heap.size _ magicL (some ⟨W3.heap.size, 0, none⟩) 3 3 [st, sl, (n : Int)] ho4 hb4.size (by decide) rfl (by omega) (by omega) hints (by
    intro x hx
    obtain ⟨_, _, p1, p2, p3, p4, _⟩ := HOK.out
    simp only [List.mem_cons, List.not_mem_nil, or_false] at hx
    rcases hx with rfl | rfl | rfl <;> omega))
  have HB4 := Lib.hid hb4
  have HX4 := Lib.hid hx4
  have c0 : w2.cell? ⟨W.heap.size, 0, none⟩ = some (.slice a n cap) := blkp HX2.out 0
  have d0 : W3.cell? ⟨W.heap.size, 0, none⟩ = some (.slice a n cap) := blkp hx3 0
  have d1 : W3.cell? ⟨W.heap.size, 1, none⟩ = some (.int .i64 st) := blkp hx3 1
  have d2 : W3.cell? ⟨W.heap.size, 2, none⟩ = some (.int .i64 sl) := blkp hx3 2
  have hcs := Lib.run_convert_bytes_const (P := Tryd.prog) w2 55 5 #[.int .u8 66, .int .u8 82, .int .u8 49] 3 3 (by kernel_rfl) (by kernel_rfl)
  simp only [List.size_toArray, List.length_cons, List.length_nil, Nat.zero_add, Nat.reduceAdd] at hcs
  clear hb3 hb34 hx3 ho3 hb4 hx4 hy4 ho4 hints
  go_wp2_with fail
  refine HVS.out.mono ?_
  rintro e w5 ⟨v5, rfl, ho5, hb5, hk5⟩
  have HB5 := Lib.hid (HB4.out.trans hb5)
  have HX5 : Hid (w5.heap[W.heap.size]? = some (.cells #[.slice a n cap, .int .i64 st, .int .i64 sl] 46 (0, 0))) := Lib.hid (hk5 _ _ HX4.out (by simp) (fun c fz q => by injection q with _ q _; exact absurd q (by decide)))
  have HO5 : Hid (ByOwn w5 W.heap.size v5 (upW l st sl 0)) := Lib.hid (by
    have e1 : upW l st sl 0 = magicL ++ [st, sl, (n : Int)].flatMap vL := by unfold upW; rw [HN.out]; simp
    rw [e1]; exact ho5)
  have c5 : w5.cell? ⟨W.heap.size, 0, none⟩ = some (.slice a n cap) := blkp HX5.out 0
  clear hb5 hk5 ho5 c0 d0 d1 d2 hW3 hW4 hcs
  go_wp2
  clear c5
  go_loopw [5, 7, 9, 29] (fun V U T K wr => ∃ (k : Nat) (u : Value), k ≤ n ∧ K = .int .i64 (k : Int) ∧ u = V ∧ Hid (ByOwn wr W.heap.size u (upW l st sl k)) ∧ Hid (Below W.heap.size W wr)) (fun V U T K _ => n - (intOf K).toNat)
  case atStart => exact ⟨0, _, by omega, rfl, rfl, HO5, HB5⟩
  case round =>
    obtain ⟨k, u, hk, rfl, rfl, HU, HB⟩ := hrel
    have hul := upW_len l st sl k
    by_cases hlt : k < n
    · have hkl : k < l.length := by rw [HN.out]; exact hlt
      obtain ⟨b, off, rfl, hbl, hcc⟩ := HR.out k hkl
      obtain ⟨x, hx⟩ : ∃ x, l[k] = x := ⟨_, rfl⟩
      have HXX : Hid (l[k]? = some x) := Lib.hid (by rw [List.getElem?_eq_getElem hkl, hx])
      rw [hx] at hcc
      have hfit := ok_fit HOK.out x (List.mem_of_getElem? HXX.out)
      have hop := fit_op hfit
      have kc : ∀ q, q < 5 → wr.cell? ⟨b, off + k * 5 + q, none⟩ = x.cs[q]? := fun q hq => (HB.out.cell (p := ⟨b, off + k * 5 + q, none⟩) hbl).trans (hcc q hq)
      have q0 := kc 0 (by omega)
      have q1 := kc 1 (by omega)
      have q2 := kc 2 (by omega)
      have q3 := kc 3 (by omega)
      have q4 := kc 4 (by omega)
      simp only [In.cs, List.getElem?_cons_zero, List.getElem?_cons_succ, Nat.add_zero] at q0 q1 q2 q3 q4
      have hbsz : b < wr.heap.size := Nat.lt_of_lt_of_le hbl HB.out.size
      have HSU := Lib.hid (upW_succ l st sl HXX.out)
      have HFO := Lib.hid (fun (m : Int) (hm : m ∈ ownL x) => (⟨(fit_own hfit m hm).1, by have := (fit_own hfit m hm).2; omega⟩ : 0 ≤ m ∧ m < 16384))
      obtain ⟨N, hN⟩ : ∃ N, ownN x.op = N := ⟨_, rfl⟩
      have hN3 : N ≤ 3 := by rw [← hN]; exact own_le3 _
      have hNL : (ownL x).length = N := by rw [own_len, hN]
      have HNN := Lib.hid hN
      have HNL := Lib.hid hNL
      have e1 : IntKind.u8.wrap x.op = x.op := by rw [IntKind.wrap_u8]; omega
      have hz : ((UInt8.ofNat x.op.toNat).toNat : Int) = x.op := by rw [ofNat_toNat8 (by omega)]; omega
      obtain ⟨w6, hw6⟩ : ∃ w6, wr.alloc (.cells #[.int .i64 x.op, .int .i64 x.lo, .int .i64 x.hi, .int .i64 x.x, .int .i64 x.y] 81) = w6 := ⟨_, rfl⟩
      have hb6 : Below wr.heap.size wr w6 := by rw [← hw6]; exact (Below.refl _ _).alloc (Nat.le_refl _) _
      have hx6 : w6.heap[wr.heap.size]? = some (.cells #[.int .i64 x.op, .int .i64 x.lo, .int .i64 x.hi, .int .i64 x.x, .int .i64 x.y] 81 (0, 0)) := by rw [← hw6]; exact heap_alloc_new wr _
      have hs6 := hb6.size
      have hu6 : ByOwn w6 W.heap.size u (upW l st sl k) := World.ownsRow.kept HU.out (row := none) ⟨hb6.os, hb6.tape, hb6.output, hb6.size, fun j hj _ => hb6.block j hj⟩ (by cases hv : u.ownBlock <;> simp)
      have hbz := HB.out.size
      obtain ⟨w7, hw7⟩ : ∃ w7, w6.alloc (.cells #[.int .u8 x.op] 5) = w7 := ⟨_, rfl⟩
      obtain ⟨v8, w8, hrun, ho8, hb8, hk8⟩ := app1 w6 W.heap.size u _ (.inl hu6) (by omega) (by omega) _ _ hz w7 hw7
      have hx8 : w8.heap[wr.heap.size]? = some (.cells #[.int .i64 x.op, .int .i64 x.lo, .int .i64 x.hi, .int .i64 x.x, .int .i64 x.y] 81 (0, 0)) := hk8 _ _ hx6 (by simp) (fun c fz q => by injection q with _ q _; exact absurd q (by decide))
      have hb18 : Below W.heap.size W w8 := HB.out.trans ((hb6.mono hbz).trans hb8)
      have HOWN := Lib.hid (ownp_any w8 wr.heap.size x.op x.lo x.hi x.x x.y hx8)
      have HRUN := Lib.hid hrun
      have HO8 : Hid (ByOwn w8 W.heap.size v8 (upW l st sl k ++ [UInt8.ofNat x.op.toNat] ++ ((ownL x).take 0).flatMap vL)) := Lib.hid (by simpa using ho8)
      have HB8 := Lib.hid hb18
      have HX8 := Lib.hid hx8
      have HUL := Lib.hid hul
      have g0 : w6.cell? ⟨wr.heap.size, 0, none⟩ = some (.int .i64 x.op) := blkp hx6 0
      have HW7 := Lib.hid hw7
      have HW6 := Lib.hid hw6
      obtain ⟨L8, hL8⟩ : ∃ L8, (upW l st sl k ++ [UInt8.ofNat x.op.toNat]).length = L8 := ⟨_, rfl⟩
      clear hx kc hcc hkl hfit hop hb6 hx6 hs6 hu6 hbz hw7 hrun ho8 hb8 hk8 hx8 hb18 hul hN hNL hz hL8
      go_wp2_with (at_builtin; (try rw [HW6.out]); (try rw [HW7.out]); refine wpList_append_run rfl _ _ 55 rfl _ _ _ w8 rfl rfl HRUN.out ?_)
      refine HOWN.out.mono ?_
      rintro e w9 ⟨a9, n9, c9, b9, rfl, hn9, hb9s, hpr9, hb9⟩
      obtain rfl : n9 = N := by rw [hn9, HNN.out]
      obtain ⟨X, hX⟩ : ∃ X, wr.heap.size = X := ⟨_, rfl⟩
      rw [hX] at hpr9 HX8 ⊢
      have HX9 := Lib.hid ((hb9.block _ (Array.getElem?_eq_some_iff.1 HX8.out).1).trans HX8.out)
      have HB9 := Lib.hid (HB8.out.trans (hb9.mono HB8.out.size))
      have HO9 : Hid (ByOwn w9 W.heap.size v8 (upW l st sl k ++ [UInt8.ofNat x.op.toNat] ++ ((ownL x).take 0).flatMap vL)) := Lib.hid (World.ownsRow.kept HO8.out (row := none) ⟨hb9.os, hb9.tape, hb9.output, hb9.size, fun j hj _ => hb9.block j hj⟩ (by cases hv : v8.ownBlock <;> simp))
      have HP9 := Lib.hid hpr9
      have HXS := Lib.hid hX
      clear hn9 hb9s hpr9 hb9 hX g0 q0 q1 q2 q3 q4
      go_wp2
      go_loopw [5, 9, 41] (fun V F K wq => ∃ (j : Nat) (u : Value), j ≤ n9 ∧ K = .int .i64 (j : Int) ∧ u = V ∧ Hid (ByOwn wq W.heap.size u (upW l st sl k ++ [UInt8.ofNat x.op.toNat] ++ ((ownL x).take j).flatMap vL)) ∧ Hid (Below W.heap.size W wq) ∧ Hid (wq.heap[X]? = some (.cells #[.int .i64 x.op, .int .i64 x.lo, .int .i64 x.hi, .int .i64 x.x, .int .i64 x.y] 81 (0, 0))) ∧ Hid (PtrRow wq a9 b9 (plL X x.op))) (fun V F K _ => n9 - (intOf K).toNat)
      case atStart => exact ⟨0, _, by omega, rfl, rfl, HO9, HB9, HX9, HP9⟩
      case round =>
        obtain ⟨j, u2, hj, rfl, rfl, HU2, HBj, HXj, HPj⟩ := hrel
        by_cases hjt : j < n9
        · obtain ⟨o, z, hz1, hz2, hz3⟩ := own_at x j X _ HXj.out (by rw [HNN.out]; exact hjt)
          have hjl : j < (plL X x.op).length := by rw [pl_len, HNN.out]; exact hjt
          obtain ⟨rfl, hb9l, hpc⟩ := HPj.out.at_ hjl
          have hpe : (plL X x.op)[j] = (X, o) := by rw [List.getElem?_eq_getElem hjl] at hz1; exact Option.some.inj hz1
          rw [hpe] at hpc
          have hXl := (Array.getElem?_eq_some_iff.1 HXj.out).1
          have hzz := HFO.out z (List.mem_of_getElem? hz2)
          have HOT := Lib.hid (own_take x j z hz2)
          obtain ⟨V, hV⟩ : ∃ V, wr.alloc (.cells #[.int .i64 z] 3) = V := ⟨_, rfl⟩
          have hbV : Below wr.heap.size wr V := by rw [← hV]; exact (Below.refl _ _).alloc (Nat.le_refl _) _
          have hkV : Lib.OthersKept 5 none wr V := by rw [← hV]; exact (Lib.OthersKept.refl _ _ _).alloc _
          have huV : ByOwn V W.heap.size u2 (upW l st sl k ++ [UInt8.ofNat x.op.toNat] ++ ((ownL x).take j).flatMap vL) := World.ownsRow.kept HU2.out (row := none) ⟨hbV.os, hbV.tape, hbV.output, hbV.size, fun j hj _ => hbV.block j hj⟩ (by cases hv : u2.ownBlock <;> simp)
          have hsB := HBj.out.size
          have hsV := hbV.size
          have htl := vs_take_len (ownL x) j
          have HVS := Lib.hid (varints_any V W.heap.size u2 _ (some ⟨wr.heap.size, 0, none⟩) 1 1 [z] (.inl huV) (by omega) (by
            have := HUL.out
            simp only [List.length_append, List.length_cons, List.length_nil]
            omega) rfl (by omega) (by omega) (ints_one hV) (by
            intro m hm
            simp only [List.mem_singleton] at hm
            subst hm
            exact hzz))
          have HBV := Lib.hid (HBj.out.trans (hbV.mono hsB))
          have HKV := Lib.hid hkV
          have HVV := Lib.hid hV
          clear hz1 hz2 hpe hjl hbV hkV huV hsB hsV htl hzz hV
          go_wp2_with fail
          rw [HVV.out]
          refine HVS.out.mono ?_
          rintro e wt ⟨vt, rfl, hot, hbt, hkt⟩
          have HKT := Lib.hid (HKV.out.trans hkt)
          have HBT := Lib.hid (HBV.out.trans hbt)
          have HOTT : Hid (ByOwn wt W.heap.size vt (upW l st sl k ++ [UInt8.ofNat x.op.toNat] ++ ((ownL x).take (j + 1)).flatMap vL)) := Lib.hid (by rw [HOT.out, ← List.append_assoc]; simpa using hot)
          have HXT : Hid (wt.heap[X]? = some (.cells #[.int .i64 x.op, .int .i64 x.lo, .int .i64 x.hi, .int .i64 x.x, .int .i64 x.y] 81 (0, 0))) := Lib.hid (HKT.out _ _ HXj.out (by simp) (fun c fz q => by injection q with _ q _; exact absurd q (by decide)))
          have HPT := Lib.hid (HPj.out.kept HKT.out)
          clear hot hbt hkt hpc hz3 hb9l hXl
          go_wp2
          go_roundw
          case rel => first | exact ⟨j + 1, _, by omega, by go_num, rfl, HOTT, HBT, HXT, HPT⟩ | ((repeat apply Exists.intro); exact ⟨⟨j + 1, _, by omega, by go_num, rfl, HOTT, HBT, HXT, HPT⟩, rfl⟩)
          case measure => simp [intOf]; omega
        · obtain rfl : j = n9 := by omega
          have HOK2 : Hid (ByOwn wr W.heap.size u2 (upW l st sl (k + 1))) := Lib.hid (by
            have h1 := HU2.out
            rw [List.take_of_length_le (by rw [HNL.out]; exact Nat.le_refl _)] at h1
            rw [HSU.out]
            have e : upW l st sl k ++ instW x = upW l st sl k ++ [UInt8.ofNat x.op.toNat] ++ (ownL x).flatMap vL := by unfold instW; simp
            rw [e]; exact h1)
          go_wp2
          go_roundw
          case rel => first | exact ⟨k + 1, _, by omega, by go_num, rfl, HOK2, HBj⟩ | ((repeat apply Exists.intro); exact ⟨⟨k + 1, _, by omega, by go_num, rfl, HOK2, HBj⟩, rfl⟩)
          case measure => simp [intOf]; omega
    · obtain rfl : k = n := by omega
      have hN := HN.out
      have HU9 : Hid (ByOwn wr W.heap.size u (bodyW l st sl)) := Lib.hid (by have := HU.out; rwa [upW_all l st sl (by omega)] at this)
      have hbl := body_len l st sl
      have hconv := conv_by HU9.out
      have hsz : (txB (bodyW l st sl)).size ≤ 100000 := by rw [txB_size]; omega
      have HSM := Lib.hid (sum_any wr (txB (bodyW l st sl)) (by omega))
      rw [txB_list] at HSM
      obtain ⟨c, hc⟩ : ∃ c, xorL (bodyW l st sl) = c := ⟨_, rfl⟩
      rw [hc] at HSM HENC
      obtain ⟨W2, hW2⟩ : ∃ W2, wr.alloc (.cells #[.int .u8 (c.toNat : Int)] 5) = W2 := ⟨_, rfl⟩
      obtain ⟨v3, W3', hrun, ho3, hb3, hk3⟩ := app1 wr W.heap.size u _ (.inl HU9.out) HB.out.size (by omega) c _ rfl W2 hW2
      have hconv3 := conv_by ho3
      rw [HENC.out] at hconv3
      have HRUN := Lib.hid hrun
      have HBE := Lib.hid (HB.out.trans hb3)
      have HWW := Lib.hid hW2
      obtain ⟨S, hS⟩ : ∃ S, txB (bodyW l st sl) = S := ⟨_, rfl⟩
      rw [hS] at hconv HSM
      clear hN hbl hsz hc hrun ho3 hb3 hk3 hW2 hS hul
      go_wp2_with fail
      refine HSM.out.mono ?_
      rintro e wz ⟨rfl, rfl⟩
      go_wp2_with (at_builtin; (rw [HWW.out]; refine wpList_append_run rfl _ _ 55 rfl _ _ _ W3' rfl rfl HRUN.out ?_))
      go_wp2
      go_ret2
      exact ⟨rfl, HBE.out⟩
theorem encode15 (l : List In) (st sl : Int) (vs : Value) (W : World) (hr : InRow W vs l) (hE : EvO W) : Calls Tryd.prog 26 #[.agg #[vs, .int .i64 st, .int .i64 sl]] W fun e w' => e = .returned (.tuple #[.string (encS l st sl), .int .i64 (chk l st sl)]) ∧ Below W.heap.size W w' := by
  unfold encS chk
  by_cases h : Ok l st sl
  · rw [if_pos h, if_pos h]
    exact encode_ok l st sl vs W hr hE h
  · rw [if_neg h, if_neg h]
    exact encode_bad l st sl vs W hr hE h
end Pgm
end Go.Proofs.YtfnimmbmcjgdpaaDoor
