/- The reference's show (burinref10): Text of a node without parts. -/
import Derived.Test.YtecmeeobabadeaaDoorGp19
namespace Go.Proofs.YtecmeeobabadeaaDoor
open Go.RowKit
set_option linter.unusedVariables false
def TextOk (k : Nat) : Prop := ∀ (W : World) (n : Nd) (cs : List Value) (most : Int) (d : Nat), NdIs W n cs → FitZ k n → (Td.all k d n).length ≤ 1000000 → -100000000000000 ≤ most ∧ most ≤ 4096 →
  Calls Tryd.prog 13 #[.agg cs.toArray, .int .i64 most] W fun e w' => ∃ T : ByteArray, e = .returned (.string T) ∧ TxQ most (Sh.shL k n) T ∧ Below W.heap.size W w'
set_option maxRecDepth 100000 in
set_option maxHeartbeats 8000000 in
theorem text_neg (k : Nat) (W : World) (n : Nd) (cs : List Value) (most : Int) (hn : NdIs W n cs) (hm : -100000000000000 ≤ most ∧ most < 0) :
    Calls Tryd.prog 13 #[.agg cs.toArray, .int .i64 most] W fun e w' => ∃ T : ByteArray, e = .returned (.string T) ∧ TxQ most (Sh.shL k n) T ∧ Below W.heap.size W w' := by
  obtain ⟨vs, a, cap, C, hC⟩ := hn.cells
  have hcs := hC.eq
  subst hcs
  obtain ⟨h0, h1⟩ := hm
  have HT : Hid (TxQ most (Sh.shL k n) ⟨#[]⟩) := Lib.hid (TxQ.none h1)
  clear hC hn
  go_enter Tryd.func13, Tryd.ntmps13
  go_wp2
  go_ret
  exact ⟨_, rfl, HT.out, (Below.refl _ _).alloc (Nat.le_refl _) _⟩
set_option maxRecDepth 100000 in
set_option maxHeartbeats 8000000 in
theorem text_1 (k : Nat) (ih : TextOk k) (W : World) (n : Nd) (cs : List Value) (most : Int) (d : Nat) (hn : NdIs W n cs) (hf : FitZ (k + 1) n) (hz : (Td.all (k + 1) d n).length ≤ 1000000) (hm : 0 ≤ most ∧ most ≤ 4096) (hk : Td.kind n = 1) :
    Calls Tryd.prog 13 #[.agg cs.toArray, .int .i64 most] W fun e w' => ∃ T : ByteArray, e = .returned (.string T) ∧ TxQ most (Sh.shL (k + 1) n) T ∧ Below W.heap.size W w' := by
  have m0 : ¬ most < 0 := by omega
  have hfit := hf.1
  have hfn := fitN_of hfit
  have hlen2 := sh_short (k + 1) d n hf
  have hsub := hf.2
  obtain ⟨vs, a, cap, C, hC⟩ := hn.cells
  have hcs := hC.eq
  subst hcs
  obtain ⟨N, hN⟩ : ∃ N, (Td.subs n).length = N := ⟨_, rfl⟩
  rw [hN, hk]
  have HT : Hid (TxQ most (Sh.shL (k + 1) n) ⟨#[40, 63, 58, 41]⟩) := Lib.hid (TxQ.of (by
    rw [Sh.shL, hk]
    show Utf.nums _ = [40, 63, 58, 41]
    decide +kernel))
  clear hC hn hN hf hz hfn hsub hlen2 hfit ih hk
  go_enter Tryd.func13, Tryd.ntmps13
  go_wp2
  go_ret
  exact ⟨_, rfl, HT.out, (Below.refl _ _).alloc (Nat.le_refl _) _⟩
set_option maxRecDepth 100000 in
set_option maxHeartbeats 8000000 in
theorem text_2 (k : Nat) (ih : TextOk k) (W : World) (n : Nd) (cs : List Value) (most : Int) (d : Nat) (hn : NdIs W n cs) (hf : FitZ (k + 1) n) (hz : (Td.all (k + 1) d n).length ≤ 1000000) (hm : 0 ≤ most ∧ most ≤ 4096) (hk : Td.kind n = 2) :
    Calls Tryd.prog 13 #[.agg cs.toArray, .int .i64 most] W fun e w' => ∃ T : ByteArray, e = .returned (.string T) ∧ TxQ most (Sh.shL (k + 1) n) T ∧ Below W.heap.size W w' := by
  have m0 : ¬ most < 0 := by omega
  have hfit := hf.1
  have hfn := fitN_of hfit
  have hlen2 := sh_short (k + 1) d n hf
  have hsub := hf.2
  obtain ⟨vs, a, cap, C, hC⟩ := hn.cells
  have hcs := hC.eq
  subst hcs
  obtain ⟨N, hN⟩ : ∃ N, (Td.subs n).length = N := ⟨_, rfl⟩
  rw [hN, hk]
  have HT : Hid (TxQ most (Sh.shL (k + 1) n) ⟨#[91, 94, 92, 120, 123, 48, 125, 45, 92, 120, 123, 49, 48, 102, 102, 102, 102, 125, 93]⟩) := Lib.hid (TxQ.of (by
    rw [Sh.shL, hk]
    show Utf.nums _ = Sh.noneL
    decide +kernel))
  clear hC hn hN hf hz hfn hsub hlen2 hfit ih hk
  go_enter Tryd.func13, Tryd.ntmps13
  go_wp2
  go_ret
  exact ⟨_, rfl, HT.out, (Below.refl _ _).alloc (Nat.le_refl _) _⟩
set_option maxRecDepth 100000 in
set_option maxHeartbeats 8000000 in
theorem text_4 (k : Nat) (ih : TextOk k) (W : World) (n : Nd) (cs : List Value) (most : Int) (d : Nat) (hn : NdIs W n cs) (hf : FitZ (k + 1) n) (hz : (Td.all (k + 1) d n).length ≤ 1000000) (hm : 0 ≤ most ∧ most ≤ 4096) (hk : Td.kind n = 4) :
    Calls Tryd.prog 13 #[.agg cs.toArray, .int .i64 most] W fun e w' => ∃ T : ByteArray, e = .returned (.string T) ∧ TxQ most (Sh.shL (k + 1) n) T ∧ Below W.heap.size W w' := by
  have m0 : ¬ most < 0 := by omega
  have hfit := hf.1
  have hfn := fitN_of hfit
  have hlen2 := sh_short (k + 1) d n hf
  have hsub := hf.2
  obtain ⟨vs, a, cap, C, hC⟩ := hn.cells
  have hcs := hC.eq
  subst hcs
  obtain ⟨N, hN⟩ : ∃ N, (Td.subs n).length = N := ⟨_, rfl⟩
  rw [hN, hk]
  have HT : Hid (TxQ most (Sh.shL (k + 1) n) ⟨#[92, 67]⟩) := Lib.hid (TxQ.of (by
    rw [Sh.shL, hk]
    show Utf.nums _ = [92, 67]
    decide +kernel))
  clear hC hn hN hf hz hfn hsub hlen2 hfit ih hk
  go_enter Tryd.func13, Tryd.ntmps13
  go_wp2
  go_ret
  exact ⟨_, rfl, HT.out, (Below.refl _ _).alloc (Nat.le_refl _) _⟩
set_option maxRecDepth 100000 in
set_option maxHeartbeats 8000000 in
theorem text_5 (k : Nat) (ih : TextOk k) (W : World) (n : Nd) (cs : List Value) (most : Int) (d : Nat) (hn : NdIs W n cs) (hf : FitZ (k + 1) n) (hz : (Td.all (k + 1) d n).length ≤ 1000000) (hm : 0 ≤ most ∧ most ≤ 4096) (hk : Td.kind n = 5) :
    Calls Tryd.prog 13 #[.agg cs.toArray, .int .i64 most] W fun e w' => ∃ T : ByteArray, e = .returned (.string T) ∧ TxQ most (Sh.shL (k + 1) n) T ∧ Below W.heap.size W w' := by
  have m0 : ¬ most < 0 := by omega
  have hfit := hf.1
  have hfn := fitN_of hfit
  have hlen2 := sh_short (k + 1) d n hf
  have hsub := hf.2
  obtain ⟨vs, a, cap, C, hC⟩ := hn.cells
  have hcs := hC.eq
  subst hcs
  obtain ⟨N, hN⟩ : ∃ N, (Td.subs n).length = N := ⟨_, rfl⟩
  rw [hN, hk]
  have hL : Sh.shL (k + 1) n = Sh.aboutL (Td.num n) := by rw [Sh.shL, hk]; simp
  have HL := Lib.hid hL
  have HA := Lib.hid (fun w => aboutR_any w (Td.num n) (hfn.about hk))
  clear hC hn hN hf hz hfn hsub hlen2 hfit ih hk hL
  go_enter Tryd.func13, Tryd.ntmps13
  go_wp2_with fail
  refine (HA.out _).mono ?_
  rintro e w2 ⟨T, rfl, hT, rfl⟩
  have HT : Hid (TxQ most (Sh.shL (k + 1) n) T) := Lib.hid (TxQ.of (by rw [HL.out]; exact hT))
  clear hT
  go_wp2
  go_ret
  exact ⟨_, rfl, HT.out, (Below.refl _ _).alloc (Nat.le_refl _) _⟩
set_option maxRecDepth 100000 in
set_option maxHeartbeats 8000000 in
theorem text_3 (k : Nat) (ih : TextOk k) (W : World) (n : Nd) (cs : List Value) (most : Int) (d : Nat) (hn : NdIs W n cs) (hf : FitZ (k + 1) n) (hz : (Td.all (k + 1) d n).length ≤ 1000000) (hm : 0 ≤ most ∧ most ≤ 4096) (hk : Td.kind n = 3) :
    Calls Tryd.prog 13 #[.agg cs.toArray, .int .i64 most] W fun e w' => ∃ T : ByteArray, e = .returned (.string T) ∧ TxQ most (Sh.shL (k + 1) n) T ∧ Below W.heap.size W w' := by
  have m0 : ¬ most < 0 := by omega
  have hfit := hf.1
  have hfn := fitN_of hfit
  have hlen2 := sh_short (k + 1) d n hf
  have hsub := hf.2
  obtain ⟨vs, a, cap, C, hC⟩ := hn.cells
  have hcs := hC.eq
  subst hcs
  obtain ⟨N, hN⟩ : ∃ N, (Td.subs n).length = N := ⟨_, rfl⟩
  rw [hN, hk]
  obtain ⟨sa, sc, hvs, hslen, _, hrow⟩ := hC.set
  subst hvs
  have hwide := (hfn.set hk).2
  have hne := (hfn.set hk).1
  have hss := set_short (fits_norm hfit hk)
  have hL : Sh.shL (k + 1) n = Sh.setL (Td.set n) := by rw [Sh.shL, hk]; simp
  obtain ⟨l, hl⟩ : ∃ l, Td.set n = l := ⟨_, rfl⟩
  rw [hl] at hrow hwide hne hss hL hslen ⊢
  have hL1 : 1 ≤ l.length := by cases l with | nil => exact absurd rfl hne | cons p l => simp
  obtain ⟨g, off, rfl, hg, _, _⟩ := hrow 0 (by omega)
  have hcell : ∀ j (hj : j < l.length), W.cell? ⟨g, off + j * 2, none⟩ = some (.int .i64 l[j].1) ∧ W.cell? ⟨g, off + j * 2 + 1, none⟩ = some (.int .i64 l[j].2) := fun j hj => by
    obtain ⟨b, o2, e, _, c1, c2⟩ := hrow j hj
    injection e with e
    injection e with e1 e2 _
    subst e1 e2
    rw [List.getElem?_eq_getElem hj] at c1 c2
    exact ⟨c1, c2⟩
  obtain ⟨L, hLL⟩ : ∃ L, l.length = L := ⟨_, rfl⟩
  have HLL := Lib.hid hLL
  have HSS := Lib.hid hss
  have HWD := Lib.hid hwide
  have HL := Lib.hid hL
  rw [hLL] at hL1 hslen ⊢
  obtain ⟨W1, hW1⟩ : ∃ W1, W.alloc (.cells #[.int .i64 3, (.slice (some ⟨g, off, none⟩) L sc), .int .i64 (Td.num n), .string (Td.name n), .int .i64 (Td.mn n), .int .i64 (Td.mx n), .bool (Td.lazy n), .slice a N cap] 25) = W1 := ⟨_, rfl⟩
  have B1 : Hid (Below W.heap.size W W1) := Lib.hid (by rw [← hW1]; exact (Below.refl _ _).alloc (Nat.le_refl _) _)
  have q0 : W1.cell? ⟨W.heap.size, 0, none⟩ = some (.int .i64 3) := by rw [← hW1]; simp
  have q1 : W1.cell? ⟨W.heap.size, 1, none⟩ = some ((.slice (some ⟨g, off, none⟩) L sc)) := by rw [← hW1]; simp
  have hs1 : W1.heap.size = W.heap.size + 1 := by rw [← hW1]; simp
  have HW1 := Lib.hid hW1
  have HCELL : Hid (∀ (w : World) j (hj : j < l.length), Below W1.heap.size W1 w → w.cell? ⟨g, off + j * 2, none⟩ = some (.int .i64 l[j].1) ∧ w.cell? ⟨g, off + j * 2 + 1, none⟩ = some (.int .i64 l[j].2)) := Lib.hid (fun w j hj hb => by
    have h9 := hcell j hj
    have hb2 := B1.out.trans (hb.mono B1.out.size)
    exact ⟨(hb2.cell (p := ⟨g, off + j * 2, none⟩) hg).trans h9.1, (hb2.cell (p := ⟨g, off + j * 2 + 1, none⟩) hg).trans h9.2⟩)
  have hg1 : g < W1.heap.size := by omega
  have HQ1 := Lib.hid q1
  have h09 : W.heap.size < W1.heap.size := by omega
  clear hC hn hN hf hz hfn hsub hlen2 hfit ih hk hl hrow hcell hL hss hwide hne hW1 hLL hg
  by_cases c1 : L = 1 ∧ (l[0]?.getD (0, 0)).1 = (l[0]?.getD (0, 0)).2
  · obtain ⟨rfl, c2⟩ := c1
    have h00 : 0 < l.length := by rw [HLL.out]; omega
    obtain ⟨x0, x1⟩ := HCELL.out W1 0 h00 (Below.refl _ _)
    have hw0 := HWD.out l[0] (List.getElem_mem h00)
    rw [List.getElem?_eq_getElem h00] at c2
    have c2' : l[0].1 = l[0].2 := c2
    obtain ⟨p, hpn⟩ : ∃ p : Nat, l[0].1 = (p : Int) := ⟨l[0].1.toNat, by omega⟩
    rw [← c2', hpn] at x1
    rw [hpn] at x0
    rw [Nat.zero_mul, Nat.add_zero] at x0 x1
    have HX : Hid (Sh.shL (k + 1) n = Sh.charL p) := Lib.hid (by
      rw [HL.out]
      obtain ⟨q, rfl⟩ : ∃ q, l = [q] := List.length_eq_one_iff.1 HLL.out
      obtain ⟨q1, q2⟩ := q
      have e1 : q1 = (p : Int) := hpn
      have e2 : q1 = q2 := c2'
      unfold Sh.setL
      rw [if_pos ⟨rfl, e2⟩]
      show Sh.charL q1 = _
      rw [e1])
    have HC := Lib.hid (fun w => oneR_any w p (by omega))
    have eqb : ((p : Int) == (p : Int)) = true := by simp
    clear c2 c2' hpn hw0 h00
    go_enter Tryd.func13, Tryd.ntmps13
    go_wp2
    rw [HW1.out]
    go_quiet (fail)
    go_wp2_with fail
    refine (HC.out _).mono ?_
    rintro e w2 ⟨T, rfl, hT, hb⟩
    have HB2 : Hid (Below W.heap.size W w2) := Lib.hid (B1.out.trans (((below_drewN (Below.refl W1.heap.size W1) nq).trans hb).mono (by omega)))
    have HT : Hid (TxQ most (Sh.shL (k + 1) n) T) := Lib.hid (TxQ.of (by rw [HX.out]; exact hT))
    clear hT hb
    go_wp2
    go_ret
    exact ⟨_, rfl, HT.out, HB2.out⟩
  have HX : Hid (Sh.shL (k + 1) n = [91] ++ (l.flatMap Sh.rgL ++ [93])) := Lib.hid (by
    rw [HL.out]
    unfold Sh.setL
    rw [HLL.out, if_neg c1]
    rfl)
  have HTST : Hid (L = 1 → ¬ (l[0]?.getD (0, 0)).1 = (l[0]?.getD (0, 0)).2) := Lib.hid (fun e1 e2 => c1 ⟨e1, e2⟩)
  have HHX := Lib.hid (fun w (r : Nat) (hr : r ≤ 1114111) => hexR_any w r hr)
  have HSZ := Lib.hid (fun (r : Nat) (hr : r ≤ 1114111) (T : ByteArray) (hT : Utf.nums T = Br.esc r) => show T.size ≤ 10 by rw [← Utf.nums_length, hT]; exact esc_short hr)
  clear c1
  by_cases c2 : L = 1
  · have eq1 : ((L : Int) == 1) = true := by rw [c2]; rfl
    have h00 : 0 < l.length := by rw [HLL.out]; omega
    obtain ⟨x0, x1⟩ := HCELL.out W1 0 h00 (Below.refl _ _)
    have c3 := HTST.out c2
    rw [List.getElem?_eq_getElem h00] at c3
    have c4 : ¬ l[0].1 = l[0].2 := c3
    obtain ⟨z0, hz0⟩ : ∃ z, l[0].1 = z := ⟨_, rfl⟩
    obtain ⟨z1, hz1⟩ : ∃ z, l[0].2 = z := ⟨_, rfl⟩
    rw [hz0] at x0 c4
    rw [hz1] at x1 c4
    rw [Nat.zero_mul, Nat.add_zero] at x0 x1
    have eqb : (z0 == z1) = false := by simp [c4]
    clear c3 hz0 hz1 h00 HTST c2
    go_enter Tryd.func13, Tryd.ntmps13
    go_wp2
    rw [HW1.out]
    go_quiet (fail)
    clear x0 x1 eqb c4
    go_wp2
    go_loopw [5, 6] (fun sv iv wr => ∃ (i : Nat) (S : ByteArray), i ≤ L ∧ sv = .string S ∧ iv = .int .i64 (i : Int) ∧ Hid (Utf.nums S = [91] ++ (l.take i).flatMap Sh.rgL) ∧ Hid (Below W1.heap.size W1 wr)) (fun _ iv _ => L - (intOf iv).toNat)
    case atStart => exact ⟨0, ⟨#[91]⟩, Nat.zero_le _, rfl, rfl, Lib.hid (by rw [List.take_zero]; rfl), Lib.hid (by exact below_drewN (Below.refl _ _) _)⟩
    case round =>
      obtain ⟨i, S, hi, rfl, rfl, HS, HBW⟩ := hrel
      have hss : S.size ≤ 23400001 := by
        have h9 := HSS.out.2 i
        have h8 := congrArg List.length HS.out
        rw [Utf.nums_length, List.length_append] at h8
        simp only [List.length_singleton] at h8
        omega
      have hsz := HBW.out.size
      have hgr : g < wr.heap.size := by omega
      have h0r : W.heap.size < wr.heap.size := by omega
      have q1r := (HBW.out.cell (p := ⟨W.heap.size, 1, none⟩) h09).trans HQ1.out
      have HQ1R := Lib.hid q1r
      by_cases hlt : i < L
      · have hil : i < l.length := by rw [HLL.out]; exact hlt
        have HFS := Lib.hid (flat_take_succ (f := Sh.rgL) l i hil)
        obtain ⟨x0, x1⟩ := HCELL.out wr i hil HBW.out
        obtain ⟨y0, y1, y2⟩ := HWD.out l[i] (List.getElem_mem hil)
        obtain ⟨p, hp⟩ : ∃ p : Nat, l[i].1 = (p : Int) := ⟨l[i].1.toNat, by omega⟩
        obtain ⟨q, hq⟩ : ∃ q : Nat, l[i].2 = (q : Int) := ⟨l[i].2.toNat, by omega⟩
        have hpi : l[i] = ((p : Int), (q : Int)) := Prod.ext hp hq
        rw [hpi] at HFS
        rw [hp] at x0
        rw [hq] at x1
        have hp9 : p ≤ 1114111 := by omega
        have hq9 : q ≤ 1114111 := by omega
        have hpq : p ≤ q := by omega
        have k0 : (0 : Int) ≤ (i : Int) := by omega
        have k1 : (i : Int) < (L : Int) := by omega
        clear y0 y1 y2 hp hq hpi hil
        go_wp2_with fail
        refine (HHX.out _ p hp9).mono ?_
        rintro e w2 ⟨T, rfl, hT, hb⟩
        have hts := HSZ.out p hp9 T hT
        have HB2 := Lib.hid (HBW.out.trans (hb.mono hsz))
        have hs2 := hb.size
        have hg2 : g < w2.heap.size := by omega
        have h02 : W.heap.size < w2.heap.size := by omega
        have z0 := (hb.cell (p := ⟨g, off + i * 2, none⟩) hgr).trans x0
        have z1 := (hb.cell (p := ⟨g, off + i * 2 + 1, none⟩) hgr).trans x1
        have z2 := (hb.cell (p := ⟨W.heap.size, 1, none⟩) h0r).trans q1r
        have no1 : ¬ 9223372036854775807 < S.size + T.size := by omega
        have HST : Hid (Utf.nums (S ++ T) = [91] ++ (l.take i).flatMap Sh.rgL ++ Br.esc p) := Lib.hid (by rw [Br.nums_append', HS.out, hT])
        have hZ : (S ++ T).size = S.size + T.size := ByteArray.size_append ..
        obtain ⟨U, hU⟩ : ∃ U, S ++ T = U := ⟨_, rfl⟩
        rw [hU] at HST hZ
        have HU := Lib.hid hU
        have hus : U.size ≤ 24000000 := by omega
        clear hT hb x0 x1 hZ hU
        by_cases hlo : p < q
        · have eqb : ((p : Int) != (q : Int)) = true := by rw [bne_iff_ne]; omega
          have HNX : Hid (∀ V : ByteArray, Utf.nums V = Br.esc q → Utf.nums ((U ++ (⟨#[45]⟩ : ByteArray)) ++ V) = [91] ++ (l.take (i + 1)).flatMap Sh.rgL) := Lib.hid (fun V hV => by
            rw [Br.nums_append', Br.nums_append', HST.out, hV, HFS.out]
            have e : Sh.rgL ((p : Int), (q : Int)) = Br.esc p ++ 45 :: Br.esc q := by unfold Sh.rgL; dsimp only; rw [if_pos (by omega), Int.toNat_natCast, Int.toNat_natCast]
            rw [e]
            show [91] ++ _ ++ Br.esc p ++ [45] ++ Br.esc q = _
            simp)
          have no2 : ¬ 9223372036854775807 < U.size + 1 := by omega
          go_wp2
          rw [HU.out]
          go_quiet (fail)
          go_wp2_with fail
          refine (HHX.out _ q hq9).mono ?_
          rintro e w3 ⟨V, rfl, hV, hb3⟩
          have hvs := HSZ.out q hq9 V hV
          have HNV := Lib.hid (HNX.out V hV)
          have HB3 := Lib.hid (HB2.out.trans (((below_drewN (Below.refl w2.heap.size w2) nq).trans hb3).mono HB2.out.size))
          have no3 : ¬ 9223372036854775807 < U.size + 1 + V.size := by omega
          have hZ : (U ++ (⟨#[45]⟩ : ByteArray)).size = U.size + 1 := ByteArray.size_append ..
          have no4 : ¬ 9223372036854775807 < (U ++ (⟨#[45]⟩ : ByteArray)).size + V.size := by omega
          clear hV hb3 hZ z0 z1
          go_wp2
          go_roundw
          case rel => exact ⟨i + 1, _, by omega, rfl, by go_num, HNV, HB3⟩
          case measure => simp [intOf]; omega
        · have eqb : ((p : Int) != (q : Int)) = false := by rw [bne_eq_false_iff_eq]; omega
          have HNX : Hid (Utf.nums U = [91] ++ (l.take (i + 1)).flatMap Sh.rgL) := Lib.hid (by
            rw [HST.out, HFS.out]
            have e : Sh.rgL ((p : Int), (q : Int)) = Br.esc p := by unfold Sh.rgL; dsimp only; rw [if_neg (by omega), Int.toNat_natCast, List.append_nil]
            rw [e, List.append_assoc])
          go_wp2
          rw [HU.out]
          go_quiet (fail)
          have HB3 := Lib.hid (HB2.out.trans ((below_drewN (Below.refl w2.heap.size w2) nq).mono HB2.out.size))
          clear z0 z1
          go_wp2
          go_roundw
          case rel => exact ⟨i + 1, _, by omega, rfl, by go_num, HNX, HB3⟩
          case measure => simp [intOf]; omega
      · obtain rfl : i = L := by omega
        have hfl := HS.out
        rw [List.take_of_length_le (by rw [HLL.out]; exact Nat.le_refl _)] at hfl
        have HT : Hid (TxQ most (Sh.shL (k + 1) n) (S ++ (⟨#[93]⟩ : ByteArray))) := Lib.hid (TxQ.of (by
          rw [HX.out, Br.nums_append', hfl, List.append_assoc]; rfl))
        have HBE := Lib.hid (B1.out.trans (HBW.out.mono B1.out.size))
        have no1 : ¬ 9223372036854775807 < S.size + 1 := by omega
        clear hfl
        go_wp2
        go_ret
        exact ⟨_, rfl, HT.out, HBE.out⟩
  · have eq1 : ((L : Int) == 1) = false := by rw [beq_eq_false_iff_ne]; omega
    clear HTST
    go_enter Tryd.func13, Tryd.ntmps13
    go_wp2
    rw [HW1.out]
    go_quiet (fail)
    go_wp2
    go_loopw [5, 6] (fun sv iv wr => ∃ (i : Nat) (S : ByteArray), i ≤ L ∧ sv = .string S ∧ iv = .int .i64 (i : Int) ∧ Hid (Utf.nums S = [91] ++ (l.take i).flatMap Sh.rgL) ∧ Hid (Below W1.heap.size W1 wr)) (fun _ iv _ => L - (intOf iv).toNat)
    case atStart => exact ⟨0, ⟨#[91]⟩, Nat.zero_le _, rfl, rfl, Lib.hid (by rw [List.take_zero]; rfl), Lib.hid (by exact below_drewN (Below.refl _ _) _)⟩
    case round =>
      obtain ⟨i, S, hi, rfl, rfl, HS, HBW⟩ := hrel
      have hss : S.size ≤ 23400001 := by
        have h9 := HSS.out.2 i
        have h8 := congrArg List.length HS.out
        rw [Utf.nums_length, List.length_append] at h8
        simp only [List.length_singleton] at h8
        omega
      have hsz := HBW.out.size
      have hgr : g < wr.heap.size := by omega
      have h0r : W.heap.size < wr.heap.size := by omega
      have q1r := (HBW.out.cell (p := ⟨W.heap.size, 1, none⟩) h09).trans HQ1.out
      have HQ1R := Lib.hid q1r
      by_cases hlt : i < L
      · have hil : i < l.length := by rw [HLL.out]; exact hlt
        have HFS := Lib.hid (flat_take_succ (f := Sh.rgL) l i hil)
        obtain ⟨x0, x1⟩ := HCELL.out wr i hil HBW.out
        obtain ⟨y0, y1, y2⟩ := HWD.out l[i] (List.getElem_mem hil)
        obtain ⟨p, hp⟩ : ∃ p : Nat, l[i].1 = (p : Int) := ⟨l[i].1.toNat, by omega⟩
        obtain ⟨q, hq⟩ : ∃ q : Nat, l[i].2 = (q : Int) := ⟨l[i].2.toNat, by omega⟩
        have hpi : l[i] = ((p : Int), (q : Int)) := Prod.ext hp hq
        rw [hpi] at HFS
        rw [hp] at x0
        rw [hq] at x1
        have hp9 : p ≤ 1114111 := by omega
        have hq9 : q ≤ 1114111 := by omega
        have hpq : p ≤ q := by omega
        have k0 : (0 : Int) ≤ (i : Int) := by omega
        have k1 : (i : Int) < (L : Int) := by omega
        clear y0 y1 y2 hp hq hpi hil
        go_wp2_with fail
        refine (HHX.out _ p hp9).mono ?_
        rintro e w2 ⟨T, rfl, hT, hb⟩
        have hts := HSZ.out p hp9 T hT
        have HB2 := Lib.hid (HBW.out.trans (hb.mono hsz))
        have hs2 := hb.size
        have hg2 : g < w2.heap.size := by omega
        have h02 : W.heap.size < w2.heap.size := by omega
        have z0 := (hb.cell (p := ⟨g, off + i * 2, none⟩) hgr).trans x0
        have z1 := (hb.cell (p := ⟨g, off + i * 2 + 1, none⟩) hgr).trans x1
        have z2 := (hb.cell (p := ⟨W.heap.size, 1, none⟩) h0r).trans q1r
        have no1 : ¬ 9223372036854775807 < S.size + T.size := by omega
        have HST : Hid (Utf.nums (S ++ T) = [91] ++ (l.take i).flatMap Sh.rgL ++ Br.esc p) := Lib.hid (by rw [Br.nums_append', HS.out, hT])
        have hZ : (S ++ T).size = S.size + T.size := ByteArray.size_append ..
        obtain ⟨U, hU⟩ : ∃ U, S ++ T = U := ⟨_, rfl⟩
        rw [hU] at HST hZ
        have HU := Lib.hid hU
        have hus : U.size ≤ 24000000 := by omega
        clear hT hb x0 x1 hZ hU
        by_cases hlo : p < q
        · have eqb : ((p : Int) != (q : Int)) = true := by rw [bne_iff_ne]; omega
          have HNX : Hid (∀ V : ByteArray, Utf.nums V = Br.esc q → Utf.nums ((U ++ (⟨#[45]⟩ : ByteArray)) ++ V) = [91] ++ (l.take (i + 1)).flatMap Sh.rgL) := Lib.hid (fun V hV => by
            rw [Br.nums_append', Br.nums_append', HST.out, hV, HFS.out]
            have e : Sh.rgL ((p : Int), (q : Int)) = Br.esc p ++ 45 :: Br.esc q := by unfold Sh.rgL; dsimp only; rw [if_pos (by omega), Int.toNat_natCast, Int.toNat_natCast]
            rw [e]
            show [91] ++ _ ++ Br.esc p ++ [45] ++ Br.esc q = _
            simp)
          have no2 : ¬ 9223372036854775807 < U.size + 1 := by omega
          go_wp2
          rw [HU.out]
          go_quiet (fail)
          go_wp2_with fail
          refine (HHX.out _ q hq9).mono ?_
          rintro e w3 ⟨V, rfl, hV, hb3⟩
          have hvs := HSZ.out q hq9 V hV
          have HNV := Lib.hid (HNX.out V hV)
          have HB3 := Lib.hid (HB2.out.trans (((below_drewN (Below.refl w2.heap.size w2) nq).trans hb3).mono HB2.out.size))
          have no3 : ¬ 9223372036854775807 < U.size + 1 + V.size := by omega
          have hZ : (U ++ (⟨#[45]⟩ : ByteArray)).size = U.size + 1 := ByteArray.size_append ..
          have no4 : ¬ 9223372036854775807 < (U ++ (⟨#[45]⟩ : ByteArray)).size + V.size := by omega
          clear hV hb3 hZ z0 z1
          go_wp2
          go_roundw
          case rel => exact ⟨i + 1, _, by omega, rfl, by go_num, HNV, HB3⟩
          case measure => simp [intOf]; omega
        · have eqb : ((p : Int) != (q : Int)) = false := by rw [bne_eq_false_iff_eq]; omega
          have HNX : Hid (Utf.nums U = [91] ++ (l.take (i + 1)).flatMap Sh.rgL) := Lib.hid (by
            rw [HST.out, HFS.out]
            have e : Sh.rgL ((p : Int), (q : Int)) = Br.esc p := by unfold Sh.rgL; dsimp only; rw [if_neg (by omega), Int.toNat_natCast, List.append_nil]
            rw [e, List.append_assoc])
          go_wp2
          rw [HU.out]
          go_quiet (fail)
          have HB3 := Lib.hid (HB2.out.trans ((below_drewN (Below.refl w2.heap.size w2) nq).mono HB2.out.size))
          clear z0 z1
          go_wp2
          go_roundw
          case rel => exact ⟨i + 1, _, by omega, rfl, by go_num, HNX, HB3⟩
          case measure => simp [intOf]; omega
      · obtain rfl : i = L := by omega
        have hfl := HS.out
        rw [List.take_of_length_le (by rw [HLL.out]; exact Nat.le_refl _)] at hfl
        have HT : Hid (TxQ most (Sh.shL (k + 1) n) (S ++ (⟨#[93]⟩ : ByteArray))) := Lib.hid (TxQ.of (by
          rw [HX.out, Br.nums_append', hfl, List.append_assoc]; rfl))
        have HBE := Lib.hid (B1.out.trans (HBW.out.mono B1.out.size))
        have no1 : ¬ 9223372036854775807 < S.size + 1 := by omega
        clear hfl
        go_wp2
        go_ret
        exact ⟨_, rfl, HT.out, HBE.out⟩
set_option maxRecDepth 100000 in
set_option maxHeartbeats 8000000 in
theorem text_6 (k : Nat) (ih : TextOk k) (W : World) (n : Nd) (cs : List Value) (most : Int) (d : Nat) (hn : NdIs W n cs) (hf : FitZ (k + 1) n) (hz : (Td.all (k + 1) d n).length ≤ 1000000) (hm : 0 ≤ most ∧ most ≤ 4096) (hk : Td.kind n = 6) :
    Calls Tryd.prog 13 #[.agg cs.toArray, .int .i64 most] W fun e w' => ∃ T : ByteArray, e = .returned (.string T) ∧ TxQ most (Sh.shL (k + 1) n) T ∧ Below W.heap.size W w' := by
  have m0 : ¬ most < 0 := by omega
  have hfit := hf.1
  have hfn := fitN_of hfit
  have hlen2 := sh_short (k + 1) d n hf
  have hsub := hf.2
  obtain ⟨vs, a, cap, C, hC⟩ := hn.cells
  have hcs := hC.eq
  subst hcs
  obtain ⟨N, hN⟩ : ∃ N, (Td.subs n).length = N := ⟨_, rfl⟩
  rw [hN, hk]
  obtain ⟨h100, h1⟩ := hfn.group hk
  rw [hN] at h1
  obtain rfl : N = 1 := h1
  obtain ⟨b, off, m, u0, u1, u2, u3, u4, u5, u6, u7, rfl, hb, hmm, hnd, c0, c1, c2, c3, c4, c5, c6, c7⟩ := hC.sub 0 (by omega)
  have hsubs : Td.subs n = [m] := by
    obtain ⟨x, hx⟩ := List.length_eq_one_iff.1 hN
    rw [hx] at hmm ⊢
    simpa using hmm
  rw [Nat.zero_mul, Nat.add_zero] at c0 c1 c2 c3 c4 c5 c6 c7
  have hall : (Td.all k (d + 1) m).length ≤ 1000000 := by
    have : Td.all (k + 1) d n = (d, n) :: (Td.subs n).flatMap (Td.all k (d + 1)) := by rw [Td.all]
    rw [this, hsubs] at hz
    simp at hz
    omega
  have hL : Sh.shL (k + 1) n = Sh.openL (Td.name n) ++ (Sh.shL k m ++ [41]) := by
    rw [Sh.shL, hk, hsubs]; simp
  have hbig : (Sh.shL k m).length ≤ 30000000000000 := by
    have := sh_short k (d + 1) m (hsub m (by rw [hsubs]; simp))
    omega
  have HL := Lib.hid hL
  have HIH := Lib.hid (fun (w : World) (hw : Below W.heap.size W w) => ih w m _ most (d + 1) (hnd.kept hw) (hsub m (by rw [hsubs]; simp)) hall ⟨by omega, by omega⟩)
  have HSH : Hid (∀ t : ByteArray, TxQ most (Sh.shL k m) t → t.size ≤ 30000000000000) := Lib.hid (fun t ht => Nat.le_trans ht.short hbig)
  obtain ⟨f1, f2, f3, f4, F1⟩ := hnd.form
  obtain ⟨rfl, rfl, rfl, rfl, rfl, rfl, rfl, rfl⟩ := F1
  obtain ⟨W1, hW1⟩ : ∃ W1, W.alloc (.cells #[.int .i64 6, vs, .int .i64 (Td.num n), .string (Td.name n), .int .i64 (Td.mn n), .int .i64 (Td.mx n), .bool (Td.lazy n), .slice (some ⟨b, off, none⟩) 1 cap] 25) = W1 := ⟨_, rfl⟩
  have B1 : Hid (Below W.heap.size W W1) := Lib.hid (by rw [← hW1]; exact (Below.refl _ _).alloc (Nat.le_refl _) _)
  have q0 : W1.cell? ⟨W.heap.size, 0, none⟩ = some (.int .i64 6) := by rw [← hW1]; simp
  have q3 : W1.cell? ⟨W.heap.size, 3, none⟩ = some (.string (Td.name n)) := by rw [← hW1]; simp
  have q7 : W1.cell? ⟨W.heap.size, 7, none⟩ = some (.slice (some ⟨b, off, none⟩) 1 cap) := by rw [← hW1]; simp
  have hs1 : W1.heap.size = W.heap.size + 1 := by rw [← hW1]; simp
  have HW1 := Lib.hid hW1
  have d0 := (B1.out.cell (p := ⟨b, off, none⟩) hb).trans c0
  have d1 := (B1.out.cell (p := ⟨b, off + 1, none⟩) hb).trans c1
  have d2 := (B1.out.cell (p := ⟨b, off + 2, none⟩) hb).trans c2
  have d3 := (B1.out.cell (p := ⟨b, off + 3, none⟩) hb).trans c3
  have d4 := (B1.out.cell (p := ⟨b, off + 4, none⟩) hb).trans c4
  have d5 := (B1.out.cell (p := ⟨b, off + 5, none⟩) hb).trans c5
  have d6 := (B1.out.cell (p := ⟨b, off + 6, none⟩) hb).trans c6
  have d7 := (B1.out.cell (p := ⟨b, off + 7, none⟩) hb).trans c7
  have hb1 : b < W1.heap.size := by omega
  have h09 : W.heap.size < W1.heap.size := by omega
  clear hC hn hN hf hz hfn hsub hlen2 hfit ih hk hL hbig hmm hnd hall hsubs hW1
  by_cases h0 : Td.name n = ⟨#[]⟩
  · have HX : Hid (Sh.shL (k + 1) n = [40] ++ (Sh.shL k m ++ [41])) := Lib.hid (by rw [HL.out, h0]; rfl)
    rw [h0] at q3 ⊢
    rw [h0] at HW1
    clear h100 h0 d0 d1 d2 d3 d4 d5 d6 d7
    go_enter Tryd.func13, Tryd.ntmps13
    go_wp2_with fail
    rw [HW1.out]
    refine (HIH.out W1 B1.out).mono ?_
    rintro e w2 ⟨t, rfl, ht, hb2⟩
    have hts := HSH.out t ht
    have HT : Hid (TxQ most (Sh.shL (k + 1) n) (((⟨#[40]⟩ : ByteArray) ++ t) ++ (⟨#[41]⟩ : ByteArray))) := Lib.hid (by
      rw [HX.out]
      refine TxQ.wrap ht [40] [41] ?_
      rw [Br.nums_append', Br.nums_append', List.append_assoc]; rfl)
    have HB2 := Lib.hid (B1.out.trans (hb2.mono B1.out.size))
    have n1 : ¬ 9223372036854775807 < 1 + t.size := by omega
    have n2 : ¬ 9223372036854775807 < 1 + t.size + 1 := by omega
    have hP : ((⟨#[40]⟩ : ByteArray) ++ t).size = 1 + t.size := ByteArray.size_append ..
    have n3 : ¬ 9223372036854775807 < ((⟨#[40]⟩ : ByteArray) ++ t).size + 1 := by omega
    clear ht hb2 hP c0 c1 c2 c3 c4 c5 c6 c7 q0 q3 q7
    go_wp2
    go_ret
    exact ⟨_, rfl, HT.out, HB2.out⟩
  · have h0b : ((Td.name n).toList == ([] : List UInt8)) = false := by
      rw [beq_eq_false_iff_ne]
      intro e
      apply h0
      rw [ByteArray.toList_eq] at e
      cases hnm : Td.name n with
      | mk d => rw [hnm] at e; exact congrArg ByteArray.mk (Array.toList_inj.1 (by simpa using e))
    have h0c : ¬ Td.name n = ByteArray.empty := h0
    have HX : Hid (Sh.shL (k + 1) n = ([40, 63, 80, 60] ++ Utf.nums (Td.name n) ++ [62]) ++ (Sh.shL k m ++ [41])) := Lib.hid (by
      rw [HL.out]; unfold Sh.openL; rw [if_neg h0])
    obtain ⟨nm, hnm⟩ : ∃ nm, Td.name n = nm := ⟨_, rfl⟩
    rw [hnm] at h0b h0c HX h100 q3 HW1 ⊢
    have r1 : ¬ 9223372036854775807 < 4 + nm.size := by omega
    have hP : ((⟨#[40, 63, 80, 60]⟩ : ByteArray) ++ nm).size = 4 + nm.size := ByteArray.size_append ..
    have r2 : ¬ 9223372036854775807 < 4 + nm.size + 1 := by omega
    have r3 : ¬ 9223372036854775807 < ((⟨#[40, 63, 80, 60]⟩ : ByteArray) ++ nm).size + 1 := by omega
    obtain ⟨O, hO⟩ : ∃ O, ((⟨#[40, 63, 80, 60]⟩ : ByteArray) ++ nm) ++ (⟨#[62]⟩ : ByteArray) = O := ⟨_, rfl⟩
    have hOz : O.size = 4 + nm.size + 1 := by rw [← hO, ByteArray.size_append, hP]; rfl
    have hOn : Utf.nums O = [40, 63, 80, 60] ++ Utf.nums nm ++ [62] := by rw [← hO, Br.nums_append', Br.nums_append']; rfl
    have HQ3 := Lib.hid q3
    have HFIN : Hid (∀ t : ByteArray, TxQ most (Sh.shL k m) t → TxQ most (Sh.shL (k + 1) n) ((O ++ t) ++ (⟨#[41]⟩ : ByteArray))) := Lib.hid (fun t ht => by
      rw [HX.out]
      refine TxQ.wrap ht _ [41] ?_
      rw [Br.nums_append', Br.nums_append', List.append_assoc, hOn]; rfl)
    have HO := Lib.hid hO
    have hon : (4 + nm.size + 1) ≤ 105 := by omega
    clear h0 hnm hP hOn hO c0 c1 c2 c3 c4 c5 c6 c7
    go_enter Tryd.func13, Tryd.ntmps13
    go_wp2
    rw [HW1.out]
    go_region_with (go_at_call 13; refine (HIH.out _ (by first | exact B1.out | exact below_drewN B1.out _ | exact B1.out.drew)).mono ?_; rintro e w2 ⟨t, rfl, ht, hb2⟩; have hts := HSH.out t ht; have p3 := (hb2.cell (p := ⟨W.heap.size, 3, none⟩) h09).trans q3; have r4 : ¬ 9223372036854775807 < 4 + nm.size + 1 + t.size := (by omega); have r5 : ¬ 9223372036854775807 < 4 + nm.size + 1 + t.size + 1 := (by omega))
    all_goals
      go_wp2
      go_ret
      refine ⟨_, rfl, ?_, ?_⟩
      · rw [HO.out]
        exact HFIN.out t ht
      · first
          | exact B1.out.trans (hb2.mono B1.out.size)
          | exact (B1.out.drew).trans (hb2.mono (by simpa using B1.out.size))
          | exact (below_drewN B1.out _).trans (hb2.mono (by simpa using B1.out.size))
end Go.Proofs.YtecmeeobabadeaaDoor
