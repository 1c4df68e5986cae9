/- The landed show: set. · The landed show: what a part is; enclosed. -/
import Derived.Test.YtanffablfgnioaaGreatDoorGp3
import Derived.Test.YtanffablfgnioaaGreatDoorGp7
import Derived.Test.YtanffablfgnioaaGreatDoorGp2
namespace Go.Proofs.YtanffablfgnioaaGreatDoor
open Go.RowKit
set_option linter.unusedVariables false
/-- The tables, as they lay when the printer was made. -/
structure PrEv (W0 : World) (B : Nat) (W : World) : Prop where
  ev : EvS W0
  le : W0.heap.size ≤ B
  bel : Below B W0 W
theorem PrEv.now {W0 W : World} {B : Nat} (h : PrEv W0 B W) : EvS W := h.ev.below h.le h.bel
theorem PrEv.kp {W0 W W' : World} {B : Nat} (h : PrEv W0 B W) (hB : B ≤ W.heap.size) (k : Kp W B W') : PrEv W0 B W' := ⟨h.ev, h.le, h.bel.trans (k.below hB)⟩
theorem PrQ.next {W w1 w' : World} {B : Nat} {O X Y : List Int} {e : Ending} (hk : Kp W B w1) (h : PrQ w1 B (O ++ X) Y e w') : PrQ W B O (X ++ Y) e w' := by
  obtain ⟨k, h⟩ := h
  refine ⟨hk.trans k, ?_⟩
  have hl : (O ++ X).length = O.length + X.length := List.length_append
  have hl2 : (X ++ Y).length = X.length + Y.length := List.length_append
  rcases h with ⟨h1, h2, h3⟩ | ⟨h1, h2⟩
  · exact .inl ⟨by omega, h2, by rw [← List.append_assoc]; exact h3⟩
  · exact .inr ⟨by omega, h2⟩
/-- A pattern that is too long at its front is. -/
theorem PrQ.far {W w' : World} {B : Nat} {O X Y : List Int} {e : Ending} (h : PrQ W B O X e w') (hx : 4096 < O.length + X.length) : PrQ W B O (X ++ Y) e w' := by
  obtain ⟨k, h⟩ := h
  have hl2 : (X ++ Y).length = X.length + Y.length := List.length_append
  rcases h with ⟨h1, _⟩ | ⟨_, h2⟩
  · omega
  · exact ⟨k, .inr ⟨by omega, h2⟩⟩
theorem PrOk.kpb {W W' : World} {B : Nat} {O : List Int} (h : PrOk W B O) (hb : Below W.heap.size W W') : PrOk W' B O ∧ Kp W B W' := ⟨h.below hb, Kp.of_below B hb⟩
theorem setL_one {l : List (Int × Int)} {a : Int} (h : l = [(a, a)]) : Sh.setL l = Sh.charL a := by subst h; unfold Sh.setL; rw [if_pos ⟨rfl, rfl⟩]; rfl
theorem setL_more {l : List (Int × Int)} (h : ¬ (l.length = 1 ∧ (l[0]?.getD (0, 0)).1 = (l[0]?.getD (0, 0)).2)) : Sh.setL l = [91] ++ (l.flatMap Sh.rgL ++ [93]) := by unfold Sh.setL; rw [if_neg h]; rfl
theorem flat_take_succ {f : (Int × Int) → List Int} (l : List (Int × Int)) (i : Nat) (hi : i < l.length) : (l.take (i + 1)).flatMap f = (l.take i).flatMap f ++ f l[i] := by
  rw [List.take_succ_eq_append_getElem hi, List.flatMap_append]
  simp
theorem flat_rest {f : (Int × Int) → List Int} (l : List (Int × Int)) (i : Nat) (hi : i < l.length) : l.flatMap f = (l.take i).flatMap f ++ (f l[i] ++ (l.drop (i + 1)).flatMap f) := by
  have h : l.take i ++ (l[i] :: l.drop (i + 1)) = l := by rw [← List.drop_eq_getElem_cons hi, List.take_append_drop]
  calc l.flatMap f = (l.take i ++ (l[i] :: l.drop (i + 1))).flatMap f := by rw [h]
    _ = _ := by rw [List.flatMap_append, List.flatMap_cons]
/-- A set, as the printer reads it. -/
structure SetIn (W : World) (B : Nat) (v : Value) (l : List (Int × Int)) : Prop where
  row : RRowOn (fun b => b < B) W v l
  wide : ∀ p ∈ l, 0 ≤ p.1 ∧ p.1 ≤ p.2 ∧ p.2 ≤ 1114111
theorem SetIn.kp {W W' : World} {B : Nat} {v : Value} {l : List (Int × Int)} (h : SetIn W B v l) (hB : B ≤ W.heap.size) (k : Kp W B W') : SetIn W' B v l :=
  ⟨h.row.kept k.size (fun b hb hlt => (k.below hB).block b hb), h.wide⟩
theorem PrQ.from {W w1 w' : World} {B : Nat} {O X : List Int} {e : Ending} (hk : Kp W B w1) (h : PrQ w1 B O X e w') : PrQ W B O X e w' := ⟨hk.trans h.1, h.2⟩
set_option maxRecDepth 100000 in
set_option maxHeartbeats 8000000 in
theorem set_show (W0 W : World) (B : Nat) (O : List Int) (v : Value) (l : List (Int × Int)) (hp : PrOk W B O) (hl : O.length ≤ 4096) (hE : PrEv W0 B W) (hs : SetIn W B v l) (h0 : l ≠ []) :
    Calls Tryz.prog 47 #[.pointer (some ⟨B, 0, none⟩), v] W (PrQ W B O (Sh.setL l)) := by
  obtain ⟨a, cap, rfl, hlen, _, hrow⟩ := hs.row.1
  obtain ⟨n, hn⟩ : ∃ n, l.length = n := ⟨_, rfl⟩
  have hn1 : 1 ≤ n := by
    rcases Nat.eq_zero_or_pos n with e | e
    · exact absurd (List.length_eq_zero_iff.1 (hn.trans e)) h0
    · exact e
  obtain ⟨g, off, rfl, hg, hx0, hx1⟩ := hrow 0 (by omega)
  have hgB : g < B := hs.row.2 g off l.length cap rfl (by omega)
  have hcell : ∀ j (hj : j < l.length), W.cell? ⟨g, off + j * 2, none⟩ = some (.int .i64 l[j].1) ∧ W.cell? ⟨g, off + j * 2 + 1, none⟩ = some (.int .i64 l[j].2) := fun j hj => by
    obtain ⟨b, o2, e, _, c1, c2⟩ := hrow j hj
    injection e with e
    injection e with e1 e2 _
    subst e1 e2
    rw [List.getElem?_eq_getElem hj] at c1 c2
    exact ⟨c1, c2⟩
  have HCELL := Lib.hid hcell
  have HP := Lib.hid hp
  have HEV := Lib.hid hE
  have HWD := Lib.hid hs.wide
  have HN := Lib.hid hn
  have hBlt := hp.lt
  rw [hn] at hlen ⊢
  clear hrow hcell hp hE hs hx0 hx1
  by_cases c1 : n = 1 ∧ (l[0]?.getD (0, 0)).1 = (l[0]?.getD (0, 0)).2
  · obtain ⟨rfl, c2⟩ := c1
    have h00 : 0 < l.length := by omega
    obtain ⟨x0, x1⟩ := HCELL.out 0 h00
    have hw0 := HWD.out l[0] (List.getElem_mem h00)
    rw [List.getElem?_eq_getElem h00] at c2
    have c2' : l[0].1 = l[0].2 := c2
    obtain ⟨p, hpn⟩ : ∃ p : Nat, l[0].1 = (p : Int) := ⟨l[0].1.toNat, by omega⟩
    rw [← c2', hpn] at x1
    rw [hpn] at x0
    rw [Nat.zero_mul, Nat.add_zero] at x0 x1
    have HL : Hid (Sh.setL l = Sh.charL p) := Lib.hid (setL_one (by
      obtain ⟨q, rfl⟩ : ∃ q, l = [q] := List.length_eq_one_iff.1 HN.out
      obtain ⟨q1, q2⟩ := q
      have e1 : q1 = (p : Int) := hpn
      have e2 : q1 = q2 := c2'
      rw [← e2, e1]))
    have HC := Lib.hid (fun d => character_show (W.drewN d) p (by omega) (HEV.out.now.below (Nat.le_refl _) (below_drewN (Below.refl W.heap.size W) d)))
    have eqb : ((p : Int) == (p : Int)) = true := by simp
    clear c2 c2' hpn hw0 h00 h0
    go_enter Tryz.func47, Tryz.ntmps47
    go_wp2
    go_quiet (fail)
    go_wp2_with fail
    refine (HC.out _).mono ?_
    rintro e w2 ⟨T, rfl, hT, hz, hb⟩
    have hb2 := (below_drewN (Below.refl W.heap.size W) nq).trans hb
    have hpw := HP.out.kpb hb2
    have HK2 := Lib.hid hpw.2
    have HWR := Lib.hid (write_any w2 B O T hpw.1 hl (by omega))
    rw [hT, ← HL.out] at HWR
    clear hT hz hb hb2 hpw
    go_wp2_with fail
    refine HWR.out.mono ?_
    rintro e w3 h3
    have HQ := Lib.hid (PrQ.from HK2.out h3)
    rcases h3 with ⟨_, ⟨_, rfl, _⟩ | ⟨_, O', _, _, rfl, _⟩⟩
    · go_wp2
      refine ⟨rfl, .tuple #[], by simp [results, Tryz.f47, go_sem], ?_⟩
      exact HQ.out
    · exact ⟨rfl, HQ.out⟩
  have HL : Hid (Sh.setL l = [91] ++ (l.flatMap Sh.rgL ++ [93])) := Lib.hid (setL_more (by rw [HN.out]; exact c1))
  have HTST : Hid (n = 1 → ¬ (l[0]?.getD (0, 0)).1 = (l[0]?.getD (0, 0)).2) := Lib.hid (fun e1 e2 => c1 ⟨e1, e2⟩)
  clear c1
  by_cases c2 : n = 1
  · have eq1 : ((n : Int) == 1) = true := by rw [c2]; rfl
    have h00 : 0 < l.length := by rw [HN.out]; omega
    obtain ⟨x0, x1⟩ := HCELL.out 0 h00
    have c3 := HTST.out c2
    rw [List.getElem?_eq_getElem h00] at c3
    have c4 : ¬ l[0].1 = l[0].2 := c3
    obtain ⟨z0, hz0⟩ : ∃ z, l[0].1 = z := ⟨_, rfl⟩
    obtain ⟨z1, hz1⟩ : ∃ z, l[0].2 = z := ⟨_, rfl⟩
    rw [hz0] at x0 c4
    rw [hz1] at x1 c4
    rw [Nat.zero_mul, Nat.add_zero] at x0 x1
    have eqb : (z0 == z1) = false := by simp [c4]
    clear c3 hz0 hz1 h00 HTST h0
    have HWO := Lib.hid (fun w1 (h1 : PrOk w1 B O) => write_any w1 B O ⟨#[91]⟩ h1 hl (by decide))
    go_enter Tryz.func47, Tryz.ntmps47
    go_wp2
    go_quiet (fail)
    go_wp2_with fail
    refine (HWO.out _ (HP.out.kpb (below_drewN (Below.refl W.heap.size W) nq)).1).mono ?_
    rintro e w1 h1
    have HQ := Lib.hid (PrQ.from (HP.out.kpb (below_drewN (Below.refl W.heap.size W) nq)).2 h1)
    obtain ⟨k1, h1⟩ := h1
    have HK1 := Lib.hid ((HP.out.kpb (below_drewN (Below.refl W.heap.size W) nq)).2.trans k1)
    clear k1
    rcases h1 with ⟨l1, rfl, p1⟩ | ⟨l1, O', a1, a2, rfl, a3⟩
    · have HP1 := Lib.hid p1
      have hl1 : (O ++ [91]).length ≤ 4096 := by rw [List.length_append]; exact l1
      have HL1 := Lib.hid hl1
      clear p1 l1 hl1
      go_wp2
      go_loopw [31] (fun I wr => ∃ i : Nat, i ≤ n ∧ I = .int .i64 (i : Int) ∧ Hid (PrOk wr B (O ++ ([91] ++ (l.take i).flatMap Sh.rgL))) ∧ Hid ((O ++ ([91] ++ (l.take i).flatMap Sh.rgL)).length ≤ 4096) ∧ Hid (Kp W B wr)) (fun I _ => n - (intOf I).toNat)
      case atStart => exact ⟨0, by omega, rfl, Lib.hid (by rw [List.take_zero]; exact HP1.out), Lib.hid (by rw [List.take_zero]; exact HL1.out), HK1⟩
      case round =>
        obtain ⟨i, hi, rfl, HPR, HLR, HKR⟩ := hrel
        have hsz := HKR.out.size
        have hBr : B < wr.heap.size := by omega
        obtain ⟨O1, hO1⟩ : ∃ O1, O ++ ([91] ++ (l.take i).flatMap Sh.rgL) = O1 := ⟨_, rfl⟩
        rw [hO1] at HPR HLR
        have HO1 := Lib.hid hO1
        clear hO1
        by_cases hlt : i < n
        · have hil : i < l.length := by rw [HN.out]; exact hlt
          obtain ⟨x0, x1⟩ := HCELL.out i hil
          have hkb := HKR.out.below (B := B) (by omega)
          rw [← hkb.cell (p := ⟨g, off + i * 2, none⟩) hgB] at x0
          rw [← hkb.cell (p := ⟨g, off + i * 2 + 1, none⟩) hgB] at x1
          obtain ⟨y0, y1, y2⟩ := HWD.out l[i] (List.getElem_mem hil)
          obtain ⟨p, hp⟩ : ∃ p : Nat, l[i].1 = (p : Int) := ⟨l[i].1.toNat, by omega⟩
          obtain ⟨q, hq⟩ : ∃ q : Nat, l[i].2 = (q : Int) := ⟨l[i].2.toNat, by omega⟩
          have hp9 : p ≤ 1114111 := by omega
          have hq9 : q ≤ 1114111 := by omega
          have hpi : l[i] = ((p : Int), (q : Int)) := Prod.ext hp hq
          have HFS : Hid ((l.take (i + 1)).flatMap Sh.rgL = (l.take i).flatMap Sh.rgL ++ Sh.rgL ((p : Int), (q : Int))) := Lib.hid (by rw [flat_take_succ l i hil, hpi])
          have HFR : Hid (l.flatMap Sh.rgL = (l.take i).flatMap Sh.rgL ++ (Sh.rgL ((p : Int), (q : Int)) ++ (l.drop (i + 1)).flatMap Sh.rgL)) := Lib.hid (by rw [flat_rest l i hil, hpi])
          rw [hp] at x0
          rw [hq] at x1
          have HEW := Lib.hid (HEV.out.kp (by omega) HKR.out).now
          have HES := Lib.hid (fun (w0 : World) (r : Nat) (hr : r ≤ 1114111) (he : EvS w0) => escape_show w0 r hr he.tz)
          have HSZ := Lib.hid (fun (r : Nat) (hr : r ≤ 1114111) (T : ByteArray) (hT : Utf.nums T = Br.esc r) => show T.size ≤ 20 by rw [← Utf.nums_length, hT, Br.esc_len]; have := (Br.hexL6 hr).2; omega)
          have k0 : (0 : Int) ≤ (i : Int) := by omega
          have k1 : (i : Int) < (n : Int) := by omega
          clear hkb y0 y1 y2 hp hq hpi hil
          go_wp2_with fail
          refine (HES.out _ p hp9 (HEW.out.below (Nat.le_refl _) ((Below.refl _ _).alloc (Nat.le_refl _) _))).mono ?_
          rintro e w2 ⟨T, rfl, hT, hb⟩
          have hbo : Below wr.heap.size wr w2 := ((Below.refl wr.heap.size wr).alloc (Nat.le_refl _) _).trans (hb.mono (by simp))
          have hbx : w2.heap[wr.heap.size]? = some (.cells #[.int .i64 (p : Int), .int .i64 (q : Int)] 49 (0, 0)) := (hb.block _ (by simp)).trans (heap_alloc_new _ _)
          obtain ⟨p2, k2⟩ := HPR.out.kpb hbo
          have HK2 := Lib.hid (HKR.out.trans k2)
          have HE2 := Lib.hid (HEW.out.below (Nat.le_refl _) hbo)
          have hts := HSZ.out p hp9 T hT
          have HWR := Lib.hid (write_any w2 B O1 T p2 HLR.out (by omega))
          rw [hT] at HWR
          have HBX := Lib.hid hbx
          clear hT hb hbo p2 k2 hbx hts x0 x1
          go_wp2_with fail
          refine HWR.out.mono ?_
          rintro e w3 ⟨k3, h3⟩
          have HK3 := Lib.hid (HK2.out.trans k3)
          have hbx3 := k3.kept HBX.out (noP_of (by decide) (by decide))
          have hsz3 := k3.size
          have hEB := HE2.out
          rcases h3 with ⟨l3, rfl, p3⟩ | ⟨l3, O', a1, a2, rfl, a3⟩
          · have b0 : w3.cell? ⟨wr.heap.size, 0, none⟩ = some (.int .i64 (p : Int)) := by simp [World.cell?, hbx3]
            have b1 : w3.cell? ⟨wr.heap.size, 1, none⟩ = some (.int .i64 (q : Int)) := by simp [World.cell?, hbx3]
            have HP3 := Lib.hid p3
            have hl3 : (O1 ++ Br.esc p).length ≤ 4096 := by rw [List.length_append]; exact l3
            have HL3 := Lib.hid hl3
            have HE3 := Lib.hid (HEV.out.kp (by omega) HK3.out).now
            clear hbx3 hsz3 p3 l3 hl3 k3 hEB
            by_cases hpq : (p : Int) < (q : Int)
            · have HRG : Hid (Sh.rgL ((p : Int), (q : Int)) = Br.esc p ++ 45 :: Br.esc q) := Lib.hid (by unfold Sh.rgL; dsimp only; rw [if_pos hpq, Int.toNat_natCast, Int.toNat_natCast])
              go_wp2_with fail
              refine (HES.out _ q hq9 HE3.out).mono ?_
              rintro e w4 ⟨T2, rfl, hT2, hb4⟩
              obtain ⟨p4, k4⟩ := HP3.out.kpb hb4
              have HK4 := Lib.hid (HK3.out.trans k4)
              have hts := HSZ.out q hq9 T2 hT2
              have hnn : Utf.nums ((⟨#[45]⟩ : ByteArray) ++ T2) = 45 :: Br.esc q := by rw [Br.nums_append', hT2]; rfl
              have hP9 : ((⟨#[45]⟩ : ByteArray) ++ T2).size = 1 + T2.size := ByteArray.size_append ..
              have n1 : ¬ 9223372036854775807 < 1 + T2.size := by omega
              have HWQ := Lib.hid (write_any w4 B _ ((⟨#[45]⟩ : ByteArray) ++ T2) p4 HL3.out (by omega))
              rw [hnn] at HWQ
              clear hT2 hb4 p4 k4 hnn hP9
              go_wp2_with fail
              refine HWQ.out.mono ?_
              rintro e w5 ⟨k5, h5⟩
              have HK5 := Lib.hid (HK4.out.trans k5)
              rcases h5 with ⟨l5, rfl, p5⟩ | ⟨l5, O', a1, a2, rfl, a3⟩
              · have hfin : (O1 ++ Br.esc p) ++ 45 :: Br.esc q = O ++ ([91] ++ (l.take (i + 1)).flatMap Sh.rgL) := by
                  rw [HFS.out, ← HO1.out, HRG.out]; simp
                have HP5 := Lib.hid p5
                have HL5 : Hid (((O1 ++ Br.esc p) ++ 45 :: Br.esc q).length ≤ 4096) := Lib.hid (by rw [List.length_append]; exact l5)
                rw [hfin] at HP5 HL5
                clear hfin p5 l5 k5
                go_wp2
                go_roundw
                case rel => exact ⟨i + 1, by omega, by go_num, HP5, HL5, HK5⟩
                case measure => simp [intOf]; omega
              · refine ⟨rfl, ?_⟩
                refine ⟨HK5.out, .inr ⟨?_, O', a1, a2, rfl, a3⟩⟩
                rw [HL.out, HFR.out, HRG.out]
                rw [← HO1.out] at l5
                simp only [List.length_append, List.length_cons, List.length_nil] at l5 ⊢
                omega
            · have HRG : Hid (Sh.rgL ((p : Int), (q : Int)) = Br.esc p) := Lib.hid (by unfold Sh.rgL; dsimp only; rw [if_neg hpq, Int.toNat_natCast, List.append_nil])
              have hfin : O1 ++ Br.esc p = O ++ ([91] ++ (l.take (i + 1)).flatMap Sh.rgL) := by
                rw [HFS.out, ← HO1.out, HRG.out]; simp
              rw [hfin] at HP3 HL3
              clear hfin
              go_wp2
              go_roundw
              case rel => exact ⟨i + 1, by omega, by go_num, HP3, HL3, HK3⟩
              case measure => simp [intOf]; omega
          · refine ⟨rfl, ?_⟩
            refine ⟨HK3.out, .inr ⟨?_, O', a1, a2, rfl, a3⟩⟩
            rw [HL.out, HFR.out]
            rw [← HO1.out] at l3
            have hle : (Br.esc p).length ≤ (Sh.rgL ((p : Int), (q : Int))).length := by unfold Sh.rgL; dsimp only; rw [Int.toNat_natCast, List.length_append]; omega
            simp only [List.length_append, List.length_cons, List.length_nil] at l3 ⊢
            omega
        · obtain rfl : i = n := by omega
          have HFA : Hid ((l.take i).flatMap Sh.rgL = l.flatMap Sh.rgL) := Lib.hid (by rw [← HN.out, List.take_length])
          have HWC := Lib.hid (write_any wr B O1 ⟨#[93]⟩ HPR.out HLR.out (by decide))
          go_wp2_with fail
          refine HWC.out.mono ?_
          rintro e w2 ⟨k2, h2⟩
          have HK2 := Lib.hid (HKR.out.trans k2)
          have HXX : Hid (O1 ++ Utf.nums ⟨#[93]⟩ = O ++ Sh.setL l) := Lib.hid (by rw [← HO1.out, HL.out, HFA.out]; show _ ++ [93] = _; simp)
          have HXL : Hid (O1.length + (Utf.nums ⟨#[93]⟩).length = O.length + (Sh.setL l).length) := Lib.hid (by have h := congrArg List.length HXX.out; rw [List.length_append, List.length_append] at h; exact h)
          rcases h2 with ⟨l2, rfl, p2⟩ | ⟨l2, O', a1, a2, rfl, a3⟩
          · rw [HXX.out] at p2
            rw [HXL.out] at l2
            have HP2 := Lib.hid p2
            clear p2 k2
            go_wp2
            refine ⟨rfl, .tuple #[], by simp [results, Tryz.f47, go_sem], ?_⟩
            exact ⟨HK2.out, .inl ⟨l2, rfl, HP2.out⟩⟩
          · rw [HXL.out] at l2
            exact ⟨rfl, HK2.out, .inr ⟨l2, O', a1, a2, rfl, a3⟩⟩
    · refine ⟨rfl, ?_⟩
      rw [HL.out]
      exact PrQ.far HQ.out l1
  · have eqb : ((n : Int) == 1) = false := by
      rw [beq_eq_false_iff_ne]; omega
    clear HTST h0
    have HWO := Lib.hid (fun w1 (h1 : PrOk w1 B O) => write_any w1 B O ⟨#[91]⟩ h1 hl (by decide))
    go_enter Tryz.func47, Tryz.ntmps47
    go_wp2
    go_quiet (fail)
    go_wp2_with fail
    refine (HWO.out _ (HP.out.kpb (below_drewN (Below.refl W.heap.size W) nq)).1).mono ?_
    rintro e w1 h1
    have HQ := Lib.hid (PrQ.from (HP.out.kpb (below_drewN (Below.refl W.heap.size W) nq)).2 h1)
    obtain ⟨k1, h1⟩ := h1
    have HK1 := Lib.hid ((HP.out.kpb (below_drewN (Below.refl W.heap.size W) nq)).2.trans k1)
    clear k1
    rcases h1 with ⟨l1, rfl, p1⟩ | ⟨l1, O', a1, a2, rfl, a3⟩
    · have HP1 := Lib.hid p1
      have hl1 : (O ++ [91]).length ≤ 4096 := by rw [List.length_append]; exact l1
      have HL1 := Lib.hid hl1
      clear p1 l1 hl1
      go_wp2
      go_loopw [31] (fun I wr => ∃ i : Nat, i ≤ n ∧ I = .int .i64 (i : Int) ∧ Hid (PrOk wr B (O ++ ([91] ++ (l.take i).flatMap Sh.rgL))) ∧ Hid ((O ++ ([91] ++ (l.take i).flatMap Sh.rgL)).length ≤ 4096) ∧ Hid (Kp W B wr)) (fun I _ => n - (intOf I).toNat)
      case atStart => exact ⟨0, by omega, rfl, Lib.hid (by rw [List.take_zero]; exact HP1.out), Lib.hid (by rw [List.take_zero]; exact HL1.out), HK1⟩
      case round =>
        obtain ⟨i, hi, rfl, HPR, HLR, HKR⟩ := hrel
        have hsz := HKR.out.size
        have hBr : B < wr.heap.size := by omega
        obtain ⟨O1, hO1⟩ : ∃ O1, O ++ ([91] ++ (l.take i).flatMap Sh.rgL) = O1 := ⟨_, rfl⟩
        rw [hO1] at HPR HLR
        have HO1 := Lib.hid hO1
        clear hO1
        by_cases hlt : i < n
        · have hil : i < l.length := by rw [HN.out]; exact hlt
          obtain ⟨x0, x1⟩ := HCELL.out i hil
          have hkb := HKR.out.below (B := B) (by omega)
          rw [← hkb.cell (p := ⟨g, off + i * 2, none⟩) hgB] at x0
          rw [← hkb.cell (p := ⟨g, off + i * 2 + 1, none⟩) hgB] at x1
          obtain ⟨y0, y1, y2⟩ := HWD.out l[i] (List.getElem_mem hil)
          obtain ⟨p, hp⟩ : ∃ p : Nat, l[i].1 = (p : Int) := ⟨l[i].1.toNat, by omega⟩
          obtain ⟨q, hq⟩ : ∃ q : Nat, l[i].2 = (q : Int) := ⟨l[i].2.toNat, by omega⟩
          have hp9 : p ≤ 1114111 := by omega
          have hq9 : q ≤ 1114111 := by omega
          have hpi : l[i] = ((p : Int), (q : Int)) := Prod.ext hp hq
          have HFS : Hid ((l.take (i + 1)).flatMap Sh.rgL = (l.take i).flatMap Sh.rgL ++ Sh.rgL ((p : Int), (q : Int))) := Lib.hid (by rw [flat_take_succ l i hil, hpi])
          have HFR : Hid (l.flatMap Sh.rgL = (l.take i).flatMap Sh.rgL ++ (Sh.rgL ((p : Int), (q : Int)) ++ (l.drop (i + 1)).flatMap Sh.rgL)) := Lib.hid (by rw [flat_rest l i hil, hpi])
          rw [hp] at x0
          rw [hq] at x1
          have HEW := Lib.hid (HEV.out.kp (by omega) HKR.out).now
          have HES := Lib.hid (fun (w0 : World) (r : Nat) (hr : r ≤ 1114111) (he : EvS w0) => escape_show w0 r hr he.tz)
          have HSZ := Lib.hid (fun (r : Nat) (hr : r ≤ 1114111) (T : ByteArray) (hT : Utf.nums T = Br.esc r) => show T.size ≤ 20 by rw [← Utf.nums_length, hT, Br.esc_len]; have := (Br.hexL6 hr).2; omega)
          have k0 : (0 : Int) ≤ (i : Int) := by omega
          have k1 : (i : Int) < (n : Int) := by omega
          clear hkb y0 y1 y2 hp hq hpi hil
          go_wp2_with fail
          refine (HES.out _ p hp9 (HEW.out.below (Nat.le_refl _) ((Below.refl _ _).alloc (Nat.le_refl _) _))).mono ?_
          rintro e w2 ⟨T, rfl, hT, hb⟩
          have hbo : Below wr.heap.size wr w2 := ((Below.refl wr.heap.size wr).alloc (Nat.le_refl _) _).trans (hb.mono (by simp))
          have hbx : w2.heap[wr.heap.size]? = some (.cells #[.int .i64 (p : Int), .int .i64 (q : Int)] 49 (0, 0)) := (hb.block _ (by simp)).trans (heap_alloc_new _ _)
          obtain ⟨p2, k2⟩ := HPR.out.kpb hbo
          have HK2 := Lib.hid (HKR.out.trans k2)
          have HE2 := Lib.hid (HEW.out.below (Nat.le_refl _) hbo)
          have hts := HSZ.out p hp9 T hT
          have HWR := Lib.hid (write_any w2 B O1 T p2 HLR.out (by omega))
          rw [hT] at HWR
          have HBX := Lib.hid hbx
          clear hT hb hbo p2 k2 hbx hts x0 x1
          go_wp2_with fail
          refine HWR.out.mono ?_
          rintro e w3 ⟨k3, h3⟩
          have HK3 := Lib.hid (HK2.out.trans k3)
          have hbx3 := k3.kept HBX.out (noP_of (by decide) (by decide))
          have hsz3 := k3.size
          have hEB := HE2.out
          rcases h3 with ⟨l3, rfl, p3⟩ | ⟨l3, O', a1, a2, rfl, a3⟩
          · have b0 : w3.cell? ⟨wr.heap.size, 0, none⟩ = some (.int .i64 (p : Int)) := by simp [World.cell?, hbx3]
            have b1 : w3.cell? ⟨wr.heap.size, 1, none⟩ = some (.int .i64 (q : Int)) := by simp [World.cell?, hbx3]
            have HP3 := Lib.hid p3
            have hl3 : (O1 ++ Br.esc p).length ≤ 4096 := by rw [List.length_append]; exact l3
            have HL3 := Lib.hid hl3
            have HE3 := Lib.hid (HEV.out.kp (by omega) HK3.out).now
            clear hbx3 hsz3 p3 l3 hl3 k3 hEB
            by_cases hpq : (p : Int) < (q : Int)
            · have HRG : Hid (Sh.rgL ((p : Int), (q : Int)) = Br.esc p ++ 45 :: Br.esc q) := Lib.hid (by unfold Sh.rgL; dsimp only; rw [if_pos hpq, Int.toNat_natCast, Int.toNat_natCast])
              go_wp2_with fail
              refine (HES.out _ q hq9 HE3.out).mono ?_
              rintro e w4 ⟨T2, rfl, hT2, hb4⟩
              obtain ⟨p4, k4⟩ := HP3.out.kpb hb4
              have HK4 := Lib.hid (HK3.out.trans k4)
              have hts := HSZ.out q hq9 T2 hT2
              have hnn : Utf.nums ((⟨#[45]⟩ : ByteArray) ++ T2) = 45 :: Br.esc q := by rw [Br.nums_append', hT2]; rfl
              have hP9 : ((⟨#[45]⟩ : ByteArray) ++ T2).size = 1 + T2.size := ByteArray.size_append ..
              have n1 : ¬ 9223372036854775807 < 1 + T2.size := by omega
              have HWQ := Lib.hid (write_any w4 B _ ((⟨#[45]⟩ : ByteArray) ++ T2) p4 HL3.out (by omega))
              rw [hnn] at HWQ
              clear hT2 hb4 p4 k4 hnn hP9
              go_wp2_with fail
              refine HWQ.out.mono ?_
              rintro e w5 ⟨k5, h5⟩
              have HK5 := Lib.hid (HK4.out.trans k5)
              rcases h5 with ⟨l5, rfl, p5⟩ | ⟨l5, O', a1, a2, rfl, a3⟩
              · have hfin : (O1 ++ Br.esc p) ++ 45 :: Br.esc q = O ++ ([91] ++ (l.take (i + 1)).flatMap Sh.rgL) := by
                  rw [HFS.out, ← HO1.out, HRG.out]; simp
                have HP5 := Lib.hid p5
                have HL5 : Hid (((O1 ++ Br.esc p) ++ 45 :: Br.esc q).length ≤ 4096) := Lib.hid (by rw [List.length_append]; exact l5)
                rw [hfin] at HP5 HL5
                clear hfin p5 l5 k5
                go_wp2
                go_roundw
                case rel => exact ⟨i + 1, by omega, by go_num, HP5, HL5, HK5⟩
                case measure => simp [intOf]; omega
              · refine ⟨rfl, ?_⟩
                refine ⟨HK5.out, .inr ⟨?_, O', a1, a2, rfl, a3⟩⟩
                rw [HL.out, HFR.out, HRG.out]
                rw [← HO1.out] at l5
                simp only [List.length_append, List.length_cons, List.length_nil] at l5 ⊢
                omega
            · have HRG : Hid (Sh.rgL ((p : Int), (q : Int)) = Br.esc p) := Lib.hid (by unfold Sh.rgL; dsimp only; rw [if_neg hpq, Int.toNat_natCast, List.append_nil])
              have hfin : O1 ++ Br.esc p = O ++ ([91] ++ (l.take (i + 1)).flatMap Sh.rgL) := by
                rw [HFS.out, ← HO1.out, HRG.out]; simp
              rw [hfin] at HP3 HL3
              clear hfin
              go_wp2
              go_roundw
              case rel => exact ⟨i + 1, by omega, by go_num, HP3, HL3, HK3⟩
              case measure => simp [intOf]; omega
          · refine ⟨rfl, ?_⟩
            refine ⟨HK3.out, .inr ⟨?_, O', a1, a2, rfl, a3⟩⟩
            rw [HL.out, HFR.out]
            rw [← HO1.out] at l3
            have hle : (Br.esc p).length ≤ (Sh.rgL ((p : Int), (q : Int))).length := by unfold Sh.rgL; dsimp only; rw [Int.toNat_natCast, List.length_append]; omega
            simp only [List.length_append, List.length_cons, List.length_nil] at l3 ⊢
            omega
        · obtain rfl : i = n := by omega
          have HFA : Hid ((l.take i).flatMap Sh.rgL = l.flatMap Sh.rgL) := Lib.hid (by rw [← HN.out, List.take_length])
          have HWC := Lib.hid (write_any wr B O1 ⟨#[93]⟩ HPR.out HLR.out (by decide))
          go_wp2_with fail
          refine HWC.out.mono ?_
          rintro e w2 ⟨k2, h2⟩
          have HK2 := Lib.hid (HKR.out.trans k2)
          have HXX : Hid (O1 ++ Utf.nums ⟨#[93]⟩ = O ++ Sh.setL l) := Lib.hid (by rw [← HO1.out, HL.out, HFA.out]; show _ ++ [93] = _; simp)
          have HXL : Hid (O1.length + (Utf.nums ⟨#[93]⟩).length = O.length + (Sh.setL l).length) := Lib.hid (by have h := congrArg List.length HXX.out; rw [List.length_append, List.length_append] at h; exact h)
          rcases h2 with ⟨l2, rfl, p2⟩ | ⟨l2, O', a1, a2, rfl, a3⟩
          · rw [HXX.out] at p2
            rw [HXL.out] at l2
            have HP2 := Lib.hid p2
            clear p2 k2
            go_wp2
            refine ⟨rfl, .tuple #[], by simp [results, Tryz.f47, go_sem], ?_⟩
            exact ⟨HK2.out, .inl ⟨l2, rfl, HP2.out⟩⟩
          · rw [HXL.out] at l2
            exact ⟨rfl, HK2.out, .inr ⟨l2, O', a1, a2, rfl, a3⟩⟩
    · refine ⟨rfl, ?_⟩
      rw [HL.out]
      exact PrQ.far HQ.out l1
end Go.Proofs.YtanffablfgnioaaGreatDoor
namespace Go.Proofs.YtanffablfgnioaaGreatDoor
open Go.RowKit
set_option linter.unusedVariables false
/-- A tree that can be printed. -/
structure FitN (n : Nd) : Prop where
  kind : 1 ≤ Td.kind n ∧ Td.kind n ≤ 9
  set : Td.kind n = 3 → Td.set n ≠ [] ∧ ∀ p ∈ Td.set n, 0 ≤ p.1 ∧ p.1 ≤ p.2 ∧ p.2 ≤ 1114111
  about : Td.kind n = 5 → 1 ≤ Td.num n ∧ Td.num n ≤ 6
  group : Td.kind n = 6 → (Td.name n).size ≤ 100 ∧ (Td.subs n).length = 1
  rep : Td.kind n = 9 → (Td.subs n).length = 1 ∧ 0 ≤ Td.mn n ∧ Td.mn n ≤ 1000 ∧ (Td.mx n = -1 ∨ Td.mn n ≤ Td.mx n ∧ Td.mx n ≤ 1000)
def FitS : Nat → Nd → Prop
  | 0, _ => False
  | k + 1, n => FitN n ∧ ∀ m ∈ Td.subs n, FitS k m
/-- The landed node, down to a depth. -/
def ShOK (k : Nat) : Prop := ∀ (W0 W : World) (B : Nat) (O : List Int) (n : Nd) (cs : List Value), FitS k n → PrOk W B O → O.length ≤ 4096 → PrEv W0 B W → NdOn (fun b => b < B) W n cs →
  Calls Tryz.prog 26 #[.pointer (some ⟨B, 0, none⟩), .agg cs.toArray] W (PrQ W B O (Sh.shL k n))
theorem box_cells {w : World} {B : Nat} {u0 u1 u2 u3 u4 u5 u6 u7 : Value} {t : TypeId} (h : w.heap[B]? = some (.cells #[u0, u1, u2, u3, u4, u5, u6, u7] t (0, 0))) :
    w.cell? ⟨B, 0, none⟩ = some u0 ∧ w.cell? ⟨B, 1, none⟩ = some u1 ∧ w.cell? ⟨B, 2, none⟩ = some u2 ∧ w.cell? ⟨B, 3, none⟩ = some u3 ∧ w.cell? ⟨B, 4, none⟩ = some u4 ∧ w.cell? ⟨B, 5, none⟩ = some u5 ∧ w.cell? ⟨B, 6, none⟩ = some u6 ∧ w.cell? ⟨B, 7, none⟩ = some u7 := by
  refine ⟨?_, ?_, ?_, ?_, ?_, ?_, ?_, ?_⟩ <;> simp [World.cell?, h]
theorem NdOn.kp {W W' : World} {B : Nat} {n : Nd} {cs : List Value} (h : NdOn (fun b => b < B) W n cs) (k : Kp W B W') : NdOn (fun b => b < B) W' n cs :=
  h.kept k.size (fun b hb hlt => k.block b hlt (.inl hb))
set_option maxRecDepth 100000 in
set_option maxHeartbeats 4000000 in
theorem index_ints (W : World) (b n cap : Nat) (l : List Int) (k : Int) (hn : l.length = n) (hn9 : n ≤ 100) (hc : ∀ j (h : j < l.length), W.cell? ⟨b, j, none⟩ = some (.int .i64 l[j])) :
    Calls Tryz.prog 101 #[.slice (some ⟨b, 0, none⟩) n cap, .int .i64 k] W fun e w' => (∃ r : Int, e = .returned (.int .i64 r) ∧ (0 ≤ r ↔ k ∈ l)) ∧ W = w' := by
  have HC := Lib.hid hc
  have HN := Lib.hid hn
  clear hc hn
  go_enter Tryz.func101, Tryz.ntmps101
  go_wp2
  go_loop [8] (fun I => ∃ i : Nat, i ≤ n ∧ I = .int .i64 (i : Int) ∧ Hid (∀ j (h : j < l.length), j < i → k ≠ l[j])) (fun I => n - (intOf I).toNat)
  case atStart => exact ⟨0, by omega, rfl, Lib.hid (fun j _ h => absurd h (by omega))⟩
  case round =>
    obtain ⟨i, hi, rfl, HNO⟩ := hrel
    by_cases hlt : i < n
    · have hil : i < l.length := by rw [HN.out]; exact hlt
      have hx := HC.out i hil
      obtain ⟨z, hz⟩ : ∃ z, l[i] = z := ⟨_, rfl⟩
      rw [hz] at hx
      have HZ := Lib.hid hz
      have k0 : (0 : Int) ≤ (i : Int) := by omega
      have k1 : (i : Int) < (n : Int) := by omega
      clear hz
      by_cases hk : k = z
      · subst hk
        go_wp2
        go_ret
        exact ⟨⟨(i : Int), rfl, fun _ => by rw [← HZ.out]; exact List.getElem_mem hil, fun _ => by omega⟩, rfl⟩
      · have hkz : (k == z) = false := by rw [beq_eq_false_iff_ne]; exact hk
        have HKZ := Lib.hid hk
        clear hk
        go_wp2
        go_round
        case rel =>
          refine ⟨i + 1, by omega, by go_num, Lib.hid (fun j hj hji => ?_)⟩
          rcases Nat.lt_or_ge j i with h | h
          · exact HNO.out j hj h
          · obtain rfl : j = i := by omega
            rw [HZ.out]; exact HKZ.out
        case measure => simp [intOf]; omega
    · obtain rfl : i = n := by omega
      go_wp2
      go_ret
      refine ⟨⟨-1, rfl, fun h => absurd h (by decide), fun h => ?_⟩, rfl⟩
      obtain ⟨j, hj, e⟩ := List.getElem_of_mem h
      exact absurd e.symm (HNO.out j hj (by rw [← HN.out]; exact hj))
set_option maxRecDepth 100000 in
set_option maxHeartbeats 4000000 in
theorem contains_ints (W : World) (b n cap : Nat) (l : List Int) (k : Int) (hn : l.length = n) (hn9 : n ≤ 100) (hc : ∀ j (h : j < l.length), W.cell? ⟨b, j, none⟩ = some (.int .i64 l[j])) :
    Calls Tryz.prog 75 #[.slice (some ⟨b, 0, none⟩) n cap, .int .i64 k] W fun e w' => e = .returned (.bool (decide (k ∈ l))) ∧ W = w' := by
  have HI := Lib.hid (index_ints W b n cap l k hn hn9 hc)
  clear hc hn
  go_enter Tryz.func75, Tryz.ntmps75
  go_wp2_with fail
  refine HI.out.mono ?_
  rintro e w' ⟨⟨r, rfl, hr⟩, rfl⟩
  have hd : decide (0 ≤ r) = decide (k ∈ l) := decide_eq_decide.2 hr
  clear hr
  go_wp2
  go_ret
  exact ⟨by first | rw [hd] | rfl, rfl⟩
set_option maxRecDepth 100000 in
set_option maxHeartbeats 8000000 in
theorem enclosed_show (k : Nat) (hOK : ShOK k) (W0 W : World) (B : Nat) (O : List Int) (op : ByteArray) (n : Nd) (cs : List Value) (hz : op.size ≤ 105) (hf : FitS k n) (hp : PrOk W B O) (hl : O.length ≤ 4096) (hE : PrEv W0 B W) (hn : NdOn (fun b => b < B) W n cs) :
    Calls Tryz.prog 49 #[.pointer (some ⟨B, 0, none⟩), .string op, .agg cs.toArray] W (PrQ W B O (Utf.nums op ++ (Sh.shL k n ++ [41]))) := by
  obtain ⟨u0, u1, u2, u3, u4, u5, u6, u7, sa, sc, aa, ac, rfl, F⟩ := hn.is.form_of
  have hBlt := hp.lt
  obtain ⟨wb, hwb⟩ : ∃ wb, W.alloc (.cells #[u0, u1, u2, u3, u4, u5, u6, u7] 26) = wb := ⟨_, rfl⟩
  have hbb : Below W.heap.size W wb := by rw [← hwb]; exact (Below.refl _ _).alloc (Nat.le_refl _) _
  have hbx : wb.heap[W.heap.size]? = some (.cells #[u0, u1, u2, u3, u4, u5, u6, u7] 26 (0, 0)) := by rw [← hwb]; exact heap_alloc_new _ _
  obtain ⟨pb, kb⟩ := hp.kpb hbb
  have HWO := Lib.hid (write_any wb B O op pb hl (by omega))
  have HKB := Lib.hid kb
  have HBX := Lib.hid hbx
  have HWB := Lib.hid hwb
  have HN := Lib.hid (hn.kp kb)
  have HE := Lib.hid (hE.kp (by omega) kb)
  have HOK := Lib.hid hOK
  have HF := Lib.hid hf
  have hsb := kb.size
  obtain ⟨rfl, rfl, rfl, rfl, rfl, rfl, rfl, rfl⟩ := F
  clear hbb hbx pb kb hwb hn hE hp hOK hf
  go_enter_defers Tryz.func49, Tryz.ntmps49
  go_wp2_with fail
  rw [HWB.out]
  refine HWO.out.mono ?_
  rintro e w1 h1
  have HQ := Lib.hid (PrQ.from HKB.out h1)
  obtain ⟨k1, h1⟩ := h1
  have HK1 := Lib.hid (HKB.out.trans k1)
  rcases h1 with ⟨l1, rfl, p1⟩ | ⟨l1, O', a1, a2, rfl, a3⟩
  · have hx1 := k1.kept HBX.out (noP_of (by decide) (by decide))
    have hl1 : (O ++ Utf.nums op).length ≤ 4096 := by rw [List.length_append]; exact l1
    have HL1 := Lib.hid hl1
    have HC := Lib.hid (HOK.out W0 w1 B _ n _ HF.out p1 hl1 (HE.out.kp (by omega) k1) (HN.out.kp k1))
    obtain ⟨d0, d1, d2, d3, d4, d5, d6, d7⟩ := box_cells hx1
    clear k1 hl1 p1 l1 hx1
    go_wp2_with fail
    refine HC.out.mono ?_
    rintro e w2 h2
    obtain ⟨k2, h2⟩ := h2
    have HK2 := Lib.hid (HK1.out.trans k2)
    rcases h2 with ⟨l2, rfl, p2⟩ | ⟨l2, O', a1, a2, rfl, a3⟩
    · have hl2 : ((O ++ Utf.nums op) ++ Sh.shL k n).length ≤ 4096 := by rw [List.length_append]; exact l2
      have HWD := Lib.hid (writeD_any .returning w2 B _ ⟨#[41]⟩ p2 hl2 (by decide))
      have HLN : Hid (((O ++ Utf.nums op) ++ Sh.shL k n).length + (Utf.nums ⟨#[41]⟩).length = O.length + (Utf.nums op ++ (Sh.shL k n ++ [41])).length) := Lib.hid (by simp only [List.length_append]; show _ + 1 = _ + (_ + (_ + 1)); omega)
      have HEQ : Hid (((O ++ Utf.nums op) ++ Sh.shL k n) ++ Utf.nums ⟨#[41]⟩ = O ++ (Utf.nums op ++ (Sh.shL k n ++ [41]))) := Lib.hid (by show _ ++ [41] = _; simp)
      clear k2 p2 l2 hl2
      go_wp2
      refine leaves_cons (f := 45) (args := #[.pointer (some ⟨B, 0, none⟩), .string ⟨#[41]⟩]) (by simp) (by simp [go_sem]) ?_
      refine HWD.out.mono ?_
      rintro e u' w3 ⟨rfl, k3, h3⟩
      rw [HLN.out, HEQ.out] at h3
      have HK3 := Lib.hid (HK2.out.trans k3)
      rcases h3 with ⟨l3, rfl, p3⟩ | ⟨l3, O', a1, a2, rfl, a3⟩
      · have HFIN : Hid (PrQ W B O (Utf.nums op ++ (Sh.shL k n ++ [41])) (.returned (.tuple #[])) w3) := Lib.hid ⟨HK3.out, .inl ⟨l3, rfl, p3⟩⟩
        clear l3 p3 k3
        simp [Leaves, settle, results, Tryz.f49, go_sem]
        exact HFIN.out
      · have HFIN : Hid (PrQ W B O (Utf.nums op ++ (Sh.shL k n ++ [41])) (.panicked [{ v := .iface 68 (.agg #[]), recovered := false }]) w3) := Lib.hid ⟨HK3.out, .inr ⟨l3, O', a1, a2, rfl, a3⟩⟩
        clear l3 a3 k3
        simp [Leaves, raised, settle, results, Tryz.f49, go_sem]
        exact HFIN.out
    · have HWL := Lib.hid (writeL_any (.panicking [{ v := .iface 68 (.agg #[]), recovered := false }]) w2 B O' ⟨#[41]⟩ a3 a1 a2)
      have HFIN : Hid (PrQ W B O (Utf.nums op ++ (Sh.shL k n ++ [41])) (.panicked [{ v := .iface 68 (.agg #[]), recovered := false }]) w2) := Lib.hid ⟨HK2.out, .inr ⟨by simp only [List.length_append, List.length_cons, List.length_nil] at l2 ⊢; omega, O', a1, a2, rfl, a3⟩⟩
      clear a3 k2 l2
      refine leaves_cons (f := 45) (args := #[.pointer (some ⟨B, 0, none⟩), .string ⟨#[41]⟩]) (by simp) (by simp [go_sem]) ?_
      refine HWL.out.mono ?_
      rintro e u' w3 ⟨rfl, rfl, rfl⟩
      simp [Leaves, settle, results, Tryz.f49, go_sem]
      exact HFIN.out
  · have HFIN : Hid (PrQ W B O (Utf.nums op ++ (Sh.shL k n ++ [41])) (.panicked [{ v := .iface 68 (.agg #[]), recovered := false }]) w1) := Lib.hid (PrQ.far HQ.out l1)
    clear k1 l1 a3 HQ
    simp [Leaves, settle, results, Tryz.f49, go_sem]
    exact HFIN.out
end Go.Proofs.YtanffablfgnioaaGreatDoor
