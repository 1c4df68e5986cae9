/- The landed parse: sequence. · The landed parse: alternatives; so all of the parser but its beginning. · The landed parse: pattern's deferred closure. -/
import Derived.Test.YtanffablfgnioaaGreatDoorGp31
import Derived.Recover
namespace Go.Proofs.YtanffablfgnioaaGreatDoor
open Go.RowKit
open Lx (Tk)
open Ps (TL)
set_option linter.unusedVariables false
/-- How many tokens are left, as the parser's box says. -/
def restLen (B : Nat) (w : World) : Nat := match w.cell? ⟨B, 0, none⟩ with
  | some (.slice _ n _) => n
  | _ => 0
theorem PSt.restLen {w : World} {lo B P0 : Nat} {v : Value} {L : TL} {f g : Int} (h : PSt lo w B P0 v L f g) : restLen B w = L.length := by
  obtain ⟨b, o0, cap, rfl, _⟩ := h.row
  unfold Go.Proofs.YtanffablfgnioaaGreatDoor.restLen
  rw [h.cells.1]
theorem grown_belowP {W w w' : World} {o : Option Nat} {base : Nat} (h : W.grownBy w o) (hb : Below base w w') (hs : W.heap.size ≤ base) : W.grownBy w' o :=
  ⟨hb.os.trans h.os, hb.tape.trans h.tape, hb.output.trans h.output, Nat.le_trans h.size hb.size, fun b hbb hne => (hb.block b (by omega)).trans (h.block b hbb hne)⟩
/-- A tree, written into the result's box. -/
theorem tree_out {lo B P0 base : Nat} {W w2 wS : World} {x : Nd} {u0 u1 u2 u3 u4 u5 u6 u7 : Value} {R : Ps.PR} {M : TL} {f g : Int} {v' : Value} (hB : B < P0) (hP : P0 ≤ W.heap.size) (h2 : W.heap.size < base) (hg2 : W.grownBy w2 (some B)) (hps : PSt lo w2 B P0 v' M f g) (hb : Below w2.heap.size w2 wS)
    (hx : NdP lo B P0 base wS x [u0, u1, u2, u3, u4, u5, u6, u7]) (hR : R = .ok x M f g) :
    ParQ lo B P0 R W (.returned (.agg #[u0, u1, u2, u3, u4, u5, u6, u7])) ((((((((wS.setCell ⟨W.heap.size, 0, none⟩ u0).setCell ⟨W.heap.size, 1, none⟩ u1).setCell ⟨W.heap.size, 2, none⟩ u2).setCell ⟨W.heap.size, 3, none⟩ u3).setCell ⟨W.heap.size, 4, none⟩ u4).setCell ⟨W.heap.size, 5, none⟩ u5).setCell ⟨W.heap.size, 6, none⟩ u6).setCell ⟨W.heap.size, 7, none⟩ u7) := by
  refine ⟨set8_grown (grown_trans hg2 (below_grown (n := 0) hb _)) _ (Nat.le_refl _) _ _ _ _ _ _ _ _, .inr ⟨x, M, f, g, _, v', hR, rfl, NdP.lower (base := base) (by omega) (hx.to (by rw [set8_size]; exact Nat.le_refl _) (fun b hbb hlt => set8_other _ _ _ _ _ _ _ _ _ _ b (by rcases hbb with h | h <;> omega))), (hps.below hb).other (by rw [set8_size]; exact Nat.le_refl _) (fun b hbb => set8_other _ _ _ _ _ _ _ _ _ _ b (by omega))⟩⟩
set_option maxRecDepth 100000 in
set_option maxHeartbeats 16000000 in
theorem seq_any (W0 : World) (k : Nat) (ih : AltOK W0 k) {W : World} {lo B P0 : Nat} {v : Value} {L : TL} {f g : Int} (n : Nat) (h : PSt lo W B P0 v L f g) (hE : PEv W0 B W) (hk : L.length ≤ k + 1) (hn : 3 * L.length + 2 ≤ n) :
    Calls Tryz.prog 37 #[.pointer (some ⟨B, 0, none⟩)] W (ParQ lo B P0 (Ps.seqP n L f g []) W) := by
  obtain ⟨R, hR⟩ : ∃ R, Ps.seqP n L f g [] = R := ⟨_, rfl⟩
  rw [hR]
  obtain ⟨w1, hw1⟩ : ∃ w1, W.alloc (.cells #[.int .i64 0, .slice none 0 0, .int .i64 0, .string ⟨#[]⟩, .int .i64 0, .int .i64 0, .bool false, .slice none 0 0] 26) = w1 := ⟨_, rfl⟩
  have hb1 : Below W.heap.size W w1 := by rw [← hw1]; exact (Below.refl _ _).alloc (Nat.le_refl _) _
  have hres : w1.heap[W.heap.size]? = some (.cells #[.int .i64 0, .slice none 0 0, .int .i64 0, .string ⟨#[]⟩, .int .i64 0, .int .i64 0, .bool false, .slice none 0 0] 26 (0, 0)) := by rw [← hw1]; exact heap_alloc_new _ _
  have hs1 : w1.heap.size = W.heap.size + 1 := by rw [← hw1]; simp
  have hB := h.hB
  have hP := h.hP
  have hLen := h.len
  have HS := Lib.hid h
  have HI := Lib.hid ih
  have HE := Lib.hid hE
  have HRR := Lib.hid hR
  have HB1 := Lib.hid hb1
  have HR1 := Lib.hid hres
  have HW1 := Lib.hid hw1
  have HS1 := Lib.hid hs1
  have hrB : W.heap.size ≠ B := by omega
  clear h ih hE hR hb1 hres hw1 hs1
  go_enter Tryz.func37, Tryz.ntmps37
  go_wp2
  rw [HW1.out]
  have hbase : P0 ≤ w1.heap.size := by have := HS1.out; omega
  go_loopw [3] (fun V wr => ∃ (n' : Nat) (L' : TL) (f' g' : Int) (A : List Nd) (v' va : Value), va = V ∧ Hid (Ps.seqP n' L' f' g' A = R) ∧ Hid (PSt lo wr B P0 v' L' f' g') ∧ Hid (NdOwn lo B P0 wr w1.heap.size va A) ∧ Hid (W.grownBy wr (some B)) ∧
    Hid (wr.heap[W.heap.size]? = some (.cells #[.int .i64 0, .slice none 0 0, .int .i64 0, .string ⟨#[]⟩, .int .i64 0, .int .i64 0, .bool false, .slice none 0 0] 26 (0, 0))) ∧ Hid (w1.heap.size ≤ wr.heap.size) ∧ L'.length ≤ k + 1 ∧ 3 * L'.length + 2 ≤ n' ∧ A.length + L'.length ≤ 200000) (fun V wr => restLen B wr)
  case atStart => exact ⟨n, L, f, g, [], v, _, rfl, HRR, Lib.hid (HS.out.below HB1.out), Lib.hid (NdOwn.nil _ _ _ _ _), Lib.hid (below_grown (n := 0) HB1.out _), HR1, Lib.hid (Nat.le_refl _), hk, hn, by simpa using hLen⟩
  case round =>
    obtain ⟨n', L', f', g', A, v', V, rfl, HRS, HPS, HOW, HG, HRB, HSZ, hk', hn', hA⟩ := hrel
    obtain ⟨m, rfl⟩ : ∃ m, n' = m + 1 := ⟨n' - 1, by omega⟩
    have HM := Lib.hid HPS.out.restLen
    have HK := Lib.hid (kind_any HPS.out)
    have hkd := HPS.out.ends.kd
    have hEq := Ps.seqP_eq m L' f' g' A
    rw [HRS.out] at hEq
    by_cases hstop : Ps.kd L' = 12 ∨ Ps.kd L' = 11 ∨ Ps.kd L' = 0
    · rw [if_pos hstop] at hEq
      have HX := Lib.hid hEq
      have HJ := Lib.hid (join_any (base := w1.heap.size) wr HSZ.out 7 (i64_lit _ (by decide)) A V HOW.out (by omega))
      clear hEq
      rcases hstop with h | h | h
      all_goals
        rw [h] at HK
        clear h
        go_wp2_with fail
        refine HK.out.mono ?_
        rintro e w2 ⟨rfl, rfl⟩
        go_wp2_with fail
        refine HJ.out.mono ?_
        rintro e wS ⟨cs, rfl, hx, hbS⟩
        have HPX := Lib.hid hx
        have HBX := Lib.hid hbS
        obtain ⟨u0, u1, u2, u3, u4, u5, u6, u7, sa, sc, ia, ic, hcs, F⟩ := hx.is.form_of
        subst hcs
        obtain ⟨rfl, rfl, rfl, rfl, rfl, rfl, rfl, rfl⟩ := F
        have hrS := (hbS.block _ (Array.getElem?_eq_some_iff.1 HRB.out).1).trans HRB.out
        have HRS2 := Lib.hid hrS
        obtain ⟨d0, d1, d2, d3, d4, d5, d6, d7, g0, g1, g2, g3, g4, g5, g6, g7⟩ := box_facts hrS
        clear hx hbS hrS
        go_wp2
        (try simp only [Exit.inBlock, Exit.then])
        refine ret_nd1 rfl W.heap.size _ rfl (set8_blk _ _ _ _ _ _ _ _ _ _ HRS2.out) rfl rfl ?_
        exact tree_out hB hP (by have := HS1.out; omega) HG.out HPS.out HBX.out HPX.out HX.out
    rw [if_neg hstop] at hEq
    by_cases h8 : Ps.kd L' = 8
    · rw [if_pos h8] at hEq
      have HX := Lib.hid hEq
      have HAT := Lib.hid (at_any HPS.out)
      rw [h8] at HK
      clear hEq h8 hstop
      go_wp2_with fail
      refine HK.out.mono ?_
      rintro e w2 ⟨rfl, rfl⟩
      go_wp2_with fail
      refine HAT.out.mono ?_
      rintro e w2 ⟨rfl, rfl⟩
      go_wp2_with fail
      refine (fail_any _ _ _).mono ?_
      rintro e w7 ⟨rfl, hb7⟩
      exact ⟨rfl, grown_trans HG.out (below_grown (n := 0) hb7 _), .inl ⟨_, _, HX.out, rfl⟩⟩
    rw [if_neg h8] at hEq
    by_cases h10 : Ps.kd L' = 10
    · rw [if_pos h10] at hEq
      obtain ⟨p, M, rfl⟩ := HPS.out.cons
      have HX := Lib.hid hEq.symm
      have HNX := Lib.hid (next_any HPS.out (by have : p.2.kind = 10 := h10; omega))
      rw [h10] at HK
      have hkM : M.length ≤ k + 1 := by simp at hk'; omega
      have hnM : 3 * M.length + 2 ≤ m := by simp at hn'; omega
      have hAM : A.length + M.length ≤ 200000 := by simp at hA; omega
      clear hEq h10 hstop h8 hkd
      go_wp2_with fail
      refine HK.out.mono ?_
      rintro e w2 ⟨rfl, rfl⟩
      go_wp2_with fail
      refine HNX.out.mono ?_
      rintro e w3 ⟨va, vl, vc, out, v3, rfl, _, _, rfl, hps3, hg3⟩
      have HTN := Lib.hid (turn_any hps3 p.1 p.2 va out.length vc)
      have HG3 := Lib.hid hg3
      clear hps3 hg3
      go_wp2_with fail
      refine HTN.out.mono ?_
      rintro e w4 ⟨rfl, hps4, hg4⟩
      have hg34 := grown_trans HG3.out hg4
      have HPS4 := Lib.hid hps4
      have HG4 := Lib.hid (grown_trans HG.out hg34)
      have HOW4 := Lib.hid (HOW.out.grown hB hbase hg34)
      have HRB4 := Lib.hid (box_gr HRB.out hg34 hrB)
      have HSZ4 := Lib.hid (Nat.le_trans HSZ.out hg34.size)
      clear hps4 hg4 hg34
      go_wp2
      go_roundw
      case rel => exact ⟨m, M, _, g', A, _, _, rfl, HX, HPS4, HOW4, HG4, HRB4, HSZ4, hkM, hnM, hAM⟩
      case measure => rw [HM.out, HPS4.out.restLen]; simp
    rw [if_neg h10] at hEq
    have hkd2 : Ps.kd L' = 1 ∨ Ps.kd L' = 2 ∨ Ps.kd L' = 3 ∨ Ps.kd L' = 4 ∨ Ps.kd L' = 5 ∨ Ps.kd L' = 6 ∨ Ps.kd L' = 7 ∨ Ps.kd L' = 9 ∨ Ps.kd L' = 13 := by omega
    have HAT := Lib.hid (atom_any W0 k HI.out m HPS.out (HE.out.grown HG.out) hk' (by omega) hkd2)
    have hsf := (Ps.sf_all m).2.2 L' f' g'
    have hne0 : Ps.kd L' ≠ 0 := by omega
    obtain ⟨K, hK⟩ : ∃ K, Ps.kd L' = K := ⟨_, rfl⟩
    have HKK := Lib.hid hK
    rw [hK] at HK hstop h8 h10
    have e1 : (K == 12) = false := by rw [beq_eq_false_iff_ne]; omega
    have e2 : (K == 11) = false := by rw [beq_eq_false_iff_ne]; omega
    have e3 : (K == 0) = false := by rw [beq_eq_false_iff_ne]; omega
    have e4 : (K == 8) = false := by rw [beq_eq_false_iff_ne]; omega
    have e5 : (K == 10) = false := by rw [beq_eq_false_iff_ne]; omega
    obtain ⟨RA, hRA⟩ : ∃ RA, Ps.atomP m L' f' g' = RA := ⟨_, rfl⟩
    rw [hRA] at hEq HAT hsf
    have HEQ := Lib.hid hEq
    have HSF := Lib.hid hsf.2
    have HN0 := Lib.hid hne0
    clear hEq hsf hRA hstop h8 h10 hkd hkd2 hK hne0
    go_wp2_with fail
    refine HK.out.mono ?_
    rintro e w2 ⟨rfl, rfl⟩
    go_wp2_with fail
    refine HAT.out.mono ?_
    rintro e w3 ⟨hg3, h3⟩
    rcases h3 with ⟨ba, bc, rfl, rfl⟩ | ⟨x, L2, f2, g2, cs, v2, rfl, rfl, hx, hps3⟩
    · exact ⟨rfl, grown_trans HG.out hg3, .inl ⟨ba, bc, HEQ.out, rfl⟩⟩
    · have HG3 := Lib.hid hg3
      have HRP := Lib.hid (repeated_any hps3 hg3.size HPS.out.hP x cs hx)
      have hE2 := HEQ.out
      dsimp only at hE2
      obtain ⟨x', hx'⟩ : ∃ x', Ps.repN f2 x L2 = x' := ⟨_, rfl⟩
      rw [hx'] at HRP hE2
      have HE2 := Lib.hid hE2.symm
      have hsf2 := Ps.Sf.le (Ps.Sf.rep (HSF.out x L2 f2 g2 rfl))
      have hlt2 := Ps.len_tail HN0.out
      have hk2 : (Ps.repT L2).length < L'.length := by omega
      clear hx hps3 hg3 hE2 hx' hsf2 hlt2
      go_wp2_with fail
      refine HRP.out.mono ?_
      rintro e w4 ⟨cs4, v4, rfl, hx4, hps4, hg4⟩
      have hg24 := grown_trans HG3.out hg4
      obtain ⟨u0, u1, u2, u3, u4, u5, u6, u7, sa, sc, ia, ic, hcs, F⟩ := hx4.is.form_of
      subst hcs
      obtain ⟨rfl, rfl, rfl, rfl, rfl, rfl, rfl, rfl⟩ := F
      obtain ⟨X, hX⟩ : ∃ X : Obj, X = (.cells #[.int .i64 (Td.kind x'), .slice sa (Td.set x').length sc, .int .i64 (Td.num x'), .string (Td.name x'), .int .i64 (Td.mn x'), .int .i64 (Td.mx x'), .bool (Td.lazy x'), .slice ia (Td.subs x').length ic] 26) := ⟨_, rfl⟩
      obtain ⟨w5, hw5⟩ : ∃ w5, w4.alloc X = w5 := ⟨_, rfl⟩
      have hb5 : Below w4.heap.size w4 w5 := by rw [← hw5]; exact (Below.refl _ _).alloc (Nat.le_refl _) _
      have hnew : w5.heap[w4.heap.size]? = some X := by rw [← hw5]; exact heap_alloc_new _ _
      have how5 := (HOW.out.grown hB hbase hg24).grown hB hbase (below_grown (n := 0) hb5 (some B))
      have hlt := HOW.out.lt
      have hs24 := hg24.size
      have hs45 := hb5.size
      have hszr := HSZ.out
      rw [hX] at hnew
      obtain ⟨V2, w6, hrun, hown, hb6, hg6⟩ := append_nd w5 w1.heap.size V A how5 (by omega) (by omega) x' _ w4.heap.size (World.news_of_block hnew) (NdOn.mono (fun b hb => ⟨hb.1.lower hszr, hb.2, fun e => by
        have h9 := hlt b e
        rcases hb.1 with h | h <;> omega⟩) (hx4.to hb5.size (fun b _ hlt => hb5.block b hlt))) 1
      have HRUN := Lib.hid hrun
      have HOW6 := Lib.hid hown
      have HPS6 := Lib.hid ((hps4.below hb5).other hb6.size (fun b hb => hb6.block b (by omega)))
      have hg25 := grown_trans hg24 (below_grown (n := 0) hb5 (some B))
      have HG6 := Lib.hid (grown_belowP (grown_trans HG.out hg25) hb6 (by have := HS1.out; omega))
      have HRB6 := Lib.hid ((hb6.block _ (by have := HS1.out; omega)).trans (box_gr HRB.out hg25 hrB))
      have HSZ6 := Lib.hid (Nat.le_trans (Nat.le_trans hszr hg25.size) hb6.size)
      have HW5 := Lib.hid hw5
      have hkA : (A ++ [x']).length + (Ps.repT L2).length ≤ 200000 := by simp; omega
      have hnn : 3 * (Ps.repT L2).length + 2 ≤ m := by omega
      have hkk : (Ps.repT L2).length ≤ k + 1 := by omega
      subst hX
      clear hx4 hps4 hg4 hg24 hb5 hnew how5 hlt hrun hown hb6 hg6 hg25 hw5 hs24 hs45 hszr
      go_wp2_with (at_builtin; (try rw [HW5.out]); (refine wpList_append_run rfl _ _ 24 rfl _ _ _ w6 rfl rfl HRUN.out ?_))
      go_roundw
      case rel => exact ⟨m, Ps.repT L2, f2, g2, A ++ [x'], v4, _, rfl, HE2, HPS6, HOW6, HG6, HRB6, HSZ6, hkk, hnn, hkA⟩
      case measure => rw [HM.out, HPS6.out.restLen]; omega
end Go.Proofs.YtanffablfgnioaaGreatDoor
namespace Go.Proofs.YtanffablfgnioaaGreatDoor
open Go.RowKit
open Lx (Tk)
open Ps (TL)
set_option linter.unusedVariables false
/-- Alternatives, from behind a sequence. -/
noncomputable def altL (n : Nat) (L : TL) (f g : Int) (S : List Nd) : Ps.PR := if Ps.kd L = 12 then Ps.altP n L.tail f g S else .ok (Ps.joinN 8 S) L f g
theorem altP_first (n : Nat) (L : TL) (f g : Int) (S : List Nd) : Ps.altP (n + 1) L f g S = match Ps.seqP n L f g [] with
    | .bad a e => .bad a e
    | .ok x L' f' g' => altL n L' f' g' (S ++ [x]) := by
  rw [Ps.altP_eq]
  cases Ps.seqP n L f g [] <;> rfl
set_option maxRecDepth 100000 in
set_option maxHeartbeats 16000000 in
theorem alt_any (W0 : World) (k : Nat) (ih : AltOK W0 k) : AltOK W0 (k + 1) := by
  intro W lo B P0 v L f g n hk hn h hE
  obtain ⟨R, hR⟩ : ∃ R, Ps.altP n L f g [] = R := ⟨_, rfl⟩
  rw [hR]
  obtain ⟨m, rfl⟩ : ∃ m, n = m + 1 := ⟨n - 1, by omega⟩
  rw [altP_first] at hR
  obtain ⟨w1, hw1⟩ : ∃ w1, W.alloc (.cells #[.int .i64 0, .slice none 0 0, .int .i64 0, .string ⟨#[]⟩, .int .i64 0, .int .i64 0, .bool false, .slice none 0 0] 26) = w1 := ⟨_, rfl⟩
  have hb1 : Below W.heap.size W w1 := by rw [← hw1]; exact (Below.refl _ _).alloc (Nat.le_refl _) _
  have hres : w1.heap[W.heap.size]? = some (.cells #[.int .i64 0, .slice none 0 0, .int .i64 0, .string ⟨#[]⟩, .int .i64 0, .int .i64 0, .bool false, .slice none 0 0] 26 (0, 0)) := by rw [← hw1]; exact heap_alloc_new _ _
  have hs1 : w1.heap.size = W.heap.size + 1 := by rw [← hw1]; simp
  have hB := h.hB
  have hP := h.hP
  have hLen := h.len
  have HSQ := Lib.hid (seq_any W0 k ih m (h.below hb1) (hE.grown (below_grown (n := 0) hb1 _)) hk (by omega))
  obtain ⟨R1, hR1⟩ : ∃ R1, Ps.seqP m L f g [] = R1 := ⟨_, rfl⟩
  have hsf := (Ps.sf_all m).2.1 L f g []
  rw [hR1] at HSQ hR hsf
  have HSF := Lib.hid hsf
  have HI := Lib.hid ih
  have HE := Lib.hid hE
  have HRR := Lib.hid hR
  have HB1 := Lib.hid hb1
  have HR1 := Lib.hid hres
  have HW1 := Lib.hid hw1
  have HS1 := Lib.hid hs1
  have hrB : W.heap.size ≠ B := by omega
  have hbase : P0 ≤ w1.heap.size := by omega
  clear h ih hE hR hR1 hb1 hres hw1 hs1 hsf
  go_enter Tryz.func18, Tryz.ntmps18
  go_wp2_with fail
  rw [HW1.out]
  refine HSQ.out.mono ?_
  rintro e w2 ⟨hg2, h2⟩
  rcases h2 with ⟨ba, bc, rfl, rfl⟩ | ⟨x, L', f', g', cs, v', rfl, rfl, hx, hps2⟩
  · exact ⟨rfl, grown_trans (below_grown (n := 0) HB1.out _) hg2, .inl ⟨_, _, HRR.out.symm, rfl⟩⟩
  obtain ⟨u0, u1, u2, u3, u4, u5, u6, u7, sa, sc, ia, ic, hcs, F⟩ := hx.is.form_of
  subst hcs
  obtain ⟨rfl, rfl, rfl, rfl, rfl, rfl, rfl, rfl⟩ := F
  have hs12 := hg2.size
  obtain ⟨w3, hw3⟩ : ∃ w3, w2.alloc (.cells #[.int .i64 (Td.kind x), .slice sa (Td.set x).length sc, .int .i64 (Td.num x), .string (Td.name x), .int .i64 (Td.mn x), .int .i64 (Td.mx x), .bool (Td.lazy x), .slice ia (Td.subs x).length ic] 26) = w3 := ⟨_, rfl⟩
  have hown : NdOwn lo B P0 w3 w1.heap.size (.slice (some ⟨w2.heap.size, 0, none⟩) 1 1) [x] := by rw [← hw3]; exact ndOwn_lit w2 w1.heap.size hs12 x _ hx
  have hb3 : Below w2.heap.size w2 w3 := by rw [← hw3]; exact (Below.refl _ _).alloc (Nat.le_refl _) _
  have hg23 := grown_trans hg2 (below_grown (n := 0) hb3 (some B))
  have HOW3 := Lib.hid hown
  have HPS3 := Lib.hid (hps2.below hb3)
  have HG3 := Lib.hid (grown_trans (below_grown (n := 0) HB1.out _) hg23)
  have HR3 := Lib.hid (box_gr HR1.out hg23 hrB)
  have HSZ3 := Lib.hid hg23.size
  have HW3 := Lib.hid hw3
  have hL' : L'.length ≤ L.length := Ps.Sf.le HSF.out
  have HRR2 : Hid (altL m L' f' g' [x] = R) := HRR
  clear hx hps2 hg2 hw3 hown hb3 hg23 hs12
  go_wp2
  rw [HW3.out]
  go_loopw [3] (fun V wr => ∃ (n' : Nat) (L' : TL) (f' g' : Int) (A : List Nd) (v' va : Value), va = V ∧ Hid (altL n' L' f' g' A = R) ∧ Hid (PSt lo wr B P0 v' L' f' g') ∧ Hid (NdOwn lo B P0 wr w1.heap.size va A) ∧ Hid (W.grownBy wr (some B)) ∧
    Hid (wr.heap[W.heap.size]? = some (.cells #[.int .i64 0, .slice none 0 0, .int .i64 0, .string ⟨#[]⟩, .int .i64 0, .int .i64 0, .bool false, .slice none 0 0] 26 (0, 0))) ∧ Hid (w1.heap.size ≤ wr.heap.size) ∧ L'.length ≤ k + 1 ∧ 3 * L'.length ≤ n' ∧ A.length + L'.length ≤ 200001) (fun V wr => restLen B wr)
  case atStart => exact ⟨m, L', f', g', [x], v', _, rfl, HRR2, HPS3, HOW3, HG3, HR3, HSZ3, by omega, by omega, by simp; omega⟩
  case round =>
    obtain ⟨n', L', f', g', A, v', V, rfl, HRS, HPS, HOW, HG, HRB, HSZ, hk', hn', hA⟩ := hrel
    have HM := Lib.hid HPS.out.restLen
    have HK := Lib.hid (kind_any HPS.out)
    have hpos := HPS.out.ends.pos
    obtain ⟨K, hK⟩ : ∃ K, Ps.kd L' = K := ⟨_, rfl⟩
    rw [hK] at HK
    by_cases h12 : K = 12
    · subst h12
      obtain ⟨p, M, rfl⟩ := HPS.out.cons
      have HNX := Lib.hid (next_any HPS.out (by have : p.2.kind = 12 := hK; omega))
      have hal : Ps.altP n' M f' g' A = R := by
        have h9 := HRS.out
        unfold altL at h9
        rw [if_pos hK] at h9
        exact h9
      have hkM : M.length ≤ k := by simp at hk'; omega
      obtain ⟨m', rfl⟩ : ∃ m', n' = m' + 1 := ⟨n' - 1, by simp at hn'; omega⟩
      have hnM : 3 * M.length + 2 ≤ m' := by simp at hn'; omega
      have hAM : A.length + M.length ≤ 200000 := by simp at hA; omega
      have hpM : (p :: M).length = M.length + 1 := rfl
      rw [altP_first] at hal
      obtain ⟨R2, hR2⟩ : ∃ R2, Ps.seqP m' M f' g' [] = R2 := ⟨_, rfl⟩
      have hsf := (Ps.sf_all m').2.1 M f' g' []
      rw [hR2] at hal hsf
      have HAL := Lib.hid hal
      have HSF2 := Lib.hid hsf
      have HR2 := Lib.hid hR2
      have HPM := Lib.hid hpM
      clear hK hal hsf hR2 hpM
      go_wp2_with fail
      refine HK.out.mono ?_
      rintro e w2 ⟨rfl, rfl⟩
      go_wp2_with fail
      refine HNX.out.mono ?_
      rintro e w3 ⟨ta, tl, tc, out, v3, rfl, _, _, rfl, hps3, hg3⟩
      have HG3 := Lib.hid hg3
      have HSQ2 := Lib.hid (seq_any W0 k HI.out m' hps3 (HE.out.grown (grown_trans HG.out hg3)) (by omega) hnM)
      rw [HR2.out] at HSQ2
      have HS3 := Lib.hid hg3.size
      have hP3 : P0 ≤ w3.heap.size := hps3.hP
      clear hps3 hg3
      go_wp2_with fail
      refine HSQ2.out.mono ?_
      rintro e w4 ⟨hg4, h4⟩
      rcases h4 with ⟨ba, bc, rfl, rfl⟩ | ⟨x', L2, f2, g2, cs4, v4, rfl, rfl, hx4, hps4⟩
      · exact ⟨rfl, grown_trans HG.out (grown_trans HG3.out hg4), .inl ⟨_, _, HAL.out.symm, rfl⟩⟩
      have hg24 := grown_trans HG3.out hg4
      obtain ⟨u0, u1, u2, u3, u4, u5, u6, u7, sa, sc, ia, ic, hcs, F⟩ := hx4.is.form_of
      subst hcs
      obtain ⟨rfl, rfl, rfl, rfl, rfl, rfl, rfl, rfl⟩ := F
      obtain ⟨X, hX⟩ : ∃ X : Obj, X = (.cells #[.int .i64 (Td.kind x'), .slice sa (Td.set x').length sc, .int .i64 (Td.num x'), .string (Td.name x'), .int .i64 (Td.mn x'), .int .i64 (Td.mx x'), .bool (Td.lazy x'), .slice ia (Td.subs x').length ic] 26) := ⟨_, rfl⟩
      obtain ⟨w5, hw5⟩ : ∃ w5, w4.alloc X = w5 := ⟨_, rfl⟩
      have hb5 : Below w4.heap.size w4 w5 := by rw [← hw5]; exact (Below.refl _ _).alloc (Nat.le_refl _) _
      have hnew : w5.heap[w4.heap.size]? = some X := by rw [← hw5]; exact heap_alloc_new _ _
      have how5 := (HOW.out.grown hB hbase hg24).grown hB hbase (below_grown (n := 0) hb5 (some B))
      have hlt := HOW.out.lt
      have hs24 := hg24.size
      have hs45 := hb5.size
      have hszr := HSZ.out
      have hs3 := HS3.out
      rw [hX] at hnew
      obtain ⟨V2, w6, hrun, hown, hb6, hg6⟩ := append_nd w5 w1.heap.size V A how5 (by omega) (by omega) x' _ w4.heap.size (World.news_of_block hnew) (NdOn.mono (fun b hb => ⟨hb.1.lower (Nat.le_trans hszr hs3), hb.2, fun e => by
        have h9 := hlt b e
        rcases hb.1 with h | h <;> omega⟩) (hx4.to hb5.size (fun b _ hlt => hb5.block b hlt))) 1
      have HRUN := Lib.hid hrun
      have HOW6 := Lib.hid hown
      have HPS6 := Lib.hid ((hps4.below hb5).other hb6.size (fun b hb => hb6.block b (by omega)))
      have hg25 := grown_trans hg24 (below_grown (n := 0) hb5 (some B))
      have HG6 := Lib.hid (grown_belowP (grown_trans HG.out hg25) hb6 (by have := HS1.out; omega))
      have HRB6 := Lib.hid ((hb6.block _ (by have := HS1.out; omega)).trans (box_gr HRB.out hg25 hrB))
      have HSZ6 := Lib.hid (Nat.le_trans (Nat.le_trans hszr hg25.size) hb6.size)
      have HW5 := Lib.hid hw5
      have hle2 : L2.length ≤ M.length := Ps.Sf.le HSF2.out
      have hkA : (A ++ [x']).length + L2.length ≤ 200001 := by simp; omega
      have hnn : 3 * L2.length ≤ m' := by omega
      have hkk : L2.length ≤ k + 1 := by omega
      have HE2 : Hid (altL m' L2 f2 g2 (A ++ [x']) = R) := HAL
      subst hX
      clear hx4 hps4 hg4 hg24 hb5 hnew how5 hlt hrun hown hb6 hg6 hg25 hw5 hs24 hs45 hszr hs3
      go_wp2_with (at_builtin; (try rw [HW5.out]); (refine wpList_append_run rfl _ _ 24 rfl _ _ _ w6 rfl rfl HRUN.out ?_))
      go_roundw
      case rel => exact ⟨m', L2, f2, g2, A ++ [x'], v4, _, rfl, HE2, HPS6, HOW6, HG6, HRB6, HSZ6, hkk, hnn, hkA⟩
      case measure => rw [HM.out, HPS6.out.restLen, HPM.out]; omega
    · have e1 : (K == 12) = false := by rw [beq_eq_false_iff_ne]; exact h12
      have hal : R = .ok (Ps.joinN 8 A) L' f' g' := by
        have h9 := HRS.out
        unfold altL at h9
        rw [if_neg (by rw [hK]; exact h12)] at h9
        exact h9.symm
      have HX := Lib.hid hal
      have HJ := Lib.hid (join_any (base := w1.heap.size) wr HSZ.out 8 (i64_lit _ (by decide)) A V HOW.out (by omega))
      clear hal hK h12
      go_wp2_with fail
      refine HK.out.mono ?_
      rintro e w2 ⟨rfl, rfl⟩
      go_wp2_with fail
      refine HJ.out.mono ?_
      rintro e wS ⟨cs, rfl, hx, hbS⟩
      have HPX := Lib.hid hx
      have HBX := Lib.hid hbS
      obtain ⟨u0, u1, u2, u3, u4, u5, u6, u7, sa, sc, ia, ic, hcs, F⟩ := hx.is.form_of
      subst hcs
      obtain ⟨rfl, rfl, rfl, rfl, rfl, rfl, rfl, rfl⟩ := F
      have hrS := (hbS.block _ (Array.getElem?_eq_some_iff.1 HRB.out).1).trans HRB.out
      have HRS2 := Lib.hid hrS
      obtain ⟨d0, d1, d2, d3, d4, d5, d6, d7, g0, g1, g2, g3, g4, g5, g6, g7⟩ := box_facts hrS
      clear hx hbS hrS
      go_wp2
      (try simp only [Exit.inBlock, Exit.then])
      refine ret_nd1 rfl W.heap.size _ rfl (set8_blk _ _ _ _ _ _ _ _ _ _ HRS2.out) rfl rfl ?_
      exact tree_out hB hP (by have := HS1.out; omega) HG.out HPS.out HBX.out HPX.out HX.out
/-- Alternatives, of however many tokens. -/
theorem altOK (W0 : World) : ∀ k, AltOK W0 k
  | 0 => fun W lo B P0 v L f g n hk hn h hE => by have := h.ends.pos; omega
  | k + 1 => alt_any W0 k (altOK W0 k)
end Go.Proofs.YtanffablfgnioaaGreatDoor
namespace Go.Proofs.YtanffablfgnioaaGreatDoor
open Go.RowKit
open Lx (Tk)
open Ps (TL)
set_option linter.unusedVariables false
theorem assert_nil (w : World) : (Instr.typeAssert .nilIface 20 55 true).run Tryz.prog w = .ok (.tuple #[.agg #[.int .i64 0, .int .i64 0], .bool false]) w := by kernel_rfl
theorem assert_run (w : World) (a c : Int) : (Instr.typeAssert (.iface 55 (.agg #[.int .i64 a, .int .i64 c])) 20 55 true).run Tryz.prog w = .ok (.tuple #[.agg #[.int .i64 a, .int .i64 c], .bool true]) w := by kernel_rfl
set_option maxRecDepth 100000 in
set_option maxHeartbeats 4000000 in
theorem catch_idle (nb ab eb : Nat) (w : World) : CallsD Tryz.prog 17 #[.pointer (some ⟨nb, 0, none⟩), .pointer (some ⟨ab, 0, none⟩), .pointer (some ⟨eb, 0, none⟩)] .returning w fun e u' w' => e = .returned (.tuple #[]) ∧ u' = .returning ∧ Below w.heap.size w w' := by
  have hta := assert_nil
  refine callsD_of_wpS Tryz.func17 rfl fun c₀ cs hu => ?_
  simp only [Tryz.ntmps17, List.size_toArray, List.length_cons, List.length_nil, Nat.reduceAdd, Nat.reduceSub, Array.replicate_succ, Array.replicate_zero, List.push_toArray, List.append_toArray, List.nil_append, List.cons_append]
  apply wpS_seq
  apply wpS_region
  simp [wpOpsS, go_sem, recoverD, hu, Exit.thenS]
  refine wpS_of_wp ?_
  go_wp2
  have hb9 : Below w.heap.size w (w.alloc (.cells #[.int .i64 0, .int .i64 0] 55)) := (Below.refl _ _).alloc (Nat.le_refl _) _
  cases c₀
  simp_all [bodyPostS, results, Tryz.f17]
set_option maxRecDepth 100000 in
set_option maxHeartbeats 8000000 in
theorem catch_failure (nb ab eb base : Nat) (w : World) (a c : Int) (older : List PanicEntry) {u0 u1 u2 u3 u4 u5 u6 u7 a0 e0 : Value} (hn : w.heap[nb]? = some (.cells #[u0, u1, u2, u3, u4, u5, u6, u7] 26 (0, 0))) (ha : w.heap[ab]? = some (.cells #[a0] 3 (0, 0))) (he : w.heap[eb]? = some (.cells #[e0] 27 (0, 0)))
    (hne : nb ≠ ab ∧ nb ≠ eb ∧ ab ≠ eb) (hbs : base ≤ nb ∧ base ≤ ab ∧ base ≤ eb ∧ base ≤ w.heap.size) :
    CallsD Tryz.prog 17 #[.pointer (some ⟨nb, 0, none⟩), .pointer (some ⟨ab, 0, none⟩), .pointer (some ⟨eb, 0, none⟩)] (.panicking (failV a c :: older)) w fun e u' w' => e = .returned (.tuple #[]) ∧ u' = .panicking ({ v := .iface 55 (.agg #[.int .i64 a, .int .i64 c]), recovered := true } :: older) ∧
      w'.heap[nb]? = some (.cells #[.int .i64 0, .slice none 0 0, .int .i64 0, .string ⟨#[]⟩, .int .i64 0, .int .i64 0, .bool false, .slice none 0 0] 26 (0, 0)) ∧ w'.heap[ab]? = some (.cells #[.int .i64 a] 3 (0, 0)) ∧ w'.heap[eb]? = some (.cells #[.int .i64 c] 27 (0, 0)) ∧ Below base w w' := by
  have hta := fun w => assert_run w a c
  refine callsD_of_wpS Tryz.func17 rfl fun c₀ cs hu => ?_
  simp only [Tryz.ntmps17, List.size_toArray, List.length_cons, List.length_nil, Nat.reduceAdd, Nat.reduceSub, Array.replicate_succ, Array.replicate_zero, List.push_toArray, List.append_toArray, List.nil_append, List.cons_append]
  apply wpS_seq
  apply wpS_region
  simp [wpOpsS, go_sem, recoverD, hu, Exit.thenS]
  refine wpS_of_wp ?_
  go_wp2
  obtain ⟨w1, hw1⟩ : ∃ w1, w.alloc (.cells #[.int .i64 a, .int .i64 c] 55) = w1 := ⟨_, rfl⟩
  obtain ⟨fb, hfb⟩ : ∃ fb, w.heap.size = fb := ⟨_, rfl⟩
  have hb1 : Below w.heap.size w w1 := by rw [← hw1]; exact (Below.refl _ _).alloc (Nat.le_refl _) _
  have hf1 : w1.heap[fb]? = some (.cells #[.int .i64 a, .int .i64 c] 55 (0, 0)) := by rw [← hw1, ← hfb]; exact heap_alloc_new _ _
  have hn1 := (hb1.block _ (Array.getElem?_eq_some_iff.1 hn).1).trans hn
  have ha1 := (hb1.block _ (Array.getElem?_eq_some_iff.1 ha).1).trans ha
  have he1 := (hb1.block _ (Array.getElem?_eq_some_iff.1 he).1).trans he
  have hnf : nb ≠ fb ∧ ab ≠ fb ∧ eb ≠ fb := by
    have := (Array.getElem?_eq_some_iff.1 hn).1
    have := (Array.getElem?_eq_some_iff.1 ha).1
    have := (Array.getElem?_eq_some_iff.1 he).1
    omega
  rw [hw1, hfb]
  obtain ⟨d0, d1, d2, d3, d4, d5, d6, d7, g0, g1, g2, g3, g4, g5, g6, g7⟩ := box_facts hn1
  have y0 : w1.cell? ⟨fb, 0, none⟩ = some (.int .i64 a) := by simp [World.cell?, hf1]
  have y1 : w1.cell? ⟨fb, 1, none⟩ = some (.int .i64 c) := by simp [World.cell?, hf1]
  have y2 : w1.cell? ⟨ab, 0, none⟩ = some a0 := by simp [World.cell?, ha1]
  have y3 : w1.cell? ⟨eb, 0, none⟩ = some e0 := by simp [World.cell?, he1]
  have y4 : w1.frozen? ⟨ab, 0, none⟩ = false := by simp [World.frozen?, ha1]
  have y5 : w1.frozen? ⟨eb, 0, none⟩ = false := by simp [World.frozen?, he1]
  obtain ⟨m1, m2, m3⟩ := hne
  obtain ⟨p1, p2, p3⟩ := hnf
  have HU := Lib.hid hu
  have HB1 := Lib.hid hb1
  have HN1 := Lib.hid hn1
  have HA1 := Lib.hid ha1
  have HE1 := Lib.hid he1
  have HBS := Lib.hid hbs
  clear hta hw1 hfb hb1 hf1 hn1 ha1 he1 hn ha he hu hbs
  go_region
  have hq0 := set8_blk _ _ (.int .i64 0) (.slice none 0 0) (.int .i64 0) (.string ⟨#[]⟩) (.int .i64 0) (.int .i64 0) (.bool false) (.slice none 0 0) HN1.out
  have hq1 := fun k => set8_other w1 nb (.int .i64 0) (.slice none 0 0) (.int .i64 0) (.string ⟨#[]⟩) (.int .i64 0) (.int .i64 0) (.bool false) (.slice none 0 0) k
  have hq2 := set8_below (HB1.out.mono HBS.out.2.2.2) nb HBS.out.1 (.int .i64 0) (.slice none 0 0) (.int .i64 0) (.string ⟨#[]⟩) (.int .i64 0) (.int .i64 0) (.bool false) (.slice none 0 0)
  generalize (((((((w1.setCell ⟨nb, 0, none⟩ (.int .i64 0)).setCell ⟨nb, 1, none⟩ (.slice none 0 0)).setCell ⟨nb, 2, none⟩ (.int .i64 0)).setCell ⟨nb, 3, none⟩ (.string ⟨#[]⟩)).setCell ⟨nb, 4, none⟩ (.int .i64 0)).setCell ⟨nb, 5, none⟩ (.int .i64 0)).setCell ⟨nb, 6, none⟩ (.bool false)).setCell ⟨nb, 7, none⟩ (.slice none 0 0) = w2 at hq0 hq1 hq2 ⊢
  have hbl : Below base w ((w2.setCell ⟨ab, 0, none⟩ (.int .i64 a)).setCell ⟨eb, 0, none⟩ (.int .i64 c)).drew := by
    have h9 := (hq2.setCell (p := ⟨ab, 0, none⟩) HBS.out.2.1 (.int .i64 a)).setCell (p := ⟨eb, 0, none⟩) HBS.out.2.2.1 (.int .i64 c)
    exact below_drewNr h9 1
  have hA2 : w2.heap[ab]? = some (.cells #[a0] 3 (0, 0)) := (hq1 ab (by omega)).trans HA1.out
  have hE2 : w2.heap[eb]? = some (.cells #[e0] 27 (0, 0)) := (hq1 eb (by omega)).trans HE1.out
  have r1 : ((w2.setCell ⟨ab, 0, none⟩ (.int .i64 a)).setCell ⟨eb, 0, none⟩ (.int .i64 c)).heap[nb]? = some (.cells #[.int .i64 0, .slice none 0 0, .int .i64 0, .string ⟨#[]⟩, .int .i64 0, .int .i64 0, .bool false, .slice none 0 0] 26 (0, 0)) :=
    (heap_setCell_other _ ⟨eb, 0, none⟩ nb _ m2).trans ((heap_setCell_other _ ⟨ab, 0, none⟩ nb _ m1).trans hq0)
  have r2 : ((w2.setCell ⟨ab, 0, none⟩ (.int .i64 a)).setCell ⟨eb, 0, none⟩ (.int .i64 c)).heap[ab]? = some (.cells #[.int .i64 a] 3 (0, 0)) := by
    refine (heap_setCell_other _ ⟨eb, 0, none⟩ ab _ m3).trans ?_
    have h9 := heap_setCell_same w2 ab 0 _ _ (.int .i64 a) hA2
    simpa using h9
  have r3 : ((w2.setCell ⟨ab, 0, none⟩ (.int .i64 a)).setCell ⟨eb, 0, none⟩ (.int .i64 c)).heap[eb]? = some (.cells #[.int .i64 c] 27 (0, 0)) := by
    have h8 : (w2.setCell ⟨ab, 0, none⟩ (.int .i64 a)).heap[eb]? = some (.cells #[e0] 27 (0, 0)) := (heap_setCell_other _ ⟨ab, 0, none⟩ eb _ (fun e => m3 e.symm)).trans hE2
    have h9 := heap_setCell_same _ eb 0 _ _ (.int .i64 c) h8
    simpa using h9
  generalize hW : (w2.setCell ⟨ab, 0, none⟩ (.int .i64 a)).setCell ⟨eb, 0, none⟩ (.int .i64 c) = w3 at hbl r1 r2 r3 ⊢
  have HFIN : Hid (w3.drew.heap[nb]? = some (.cells #[.int .i64 0, .slice none 0 0, .int .i64 0, .string ⟨#[]⟩, .int .i64 0, .int .i64 0, .bool false, .slice none 0 0] 26 (0, 0)) ∧ w3.drew.heap[ab]? = some (.cells #[.int .i64 a] 3 (0, 0)) ∧ w3.drew.heap[eb]? = some (.cells #[.int .i64 c] 27 (0, 0)) ∧ Below base w w3.drew) := Lib.hid ⟨r1, r2, r3, hbl⟩
  generalize w3.drew = w4 at HFIN ⊢
  clear hq0 hq1 hq2 hbl hA2 hE2 r1 r2 r3 hW d0 d1 d2 d3 d4 d5 d6 d7 g0 g1 g2 g3 g4 g5 g6 g7 y0 y1 y2 y3 y4 y5
  go_wp2
  cases c₀
  have hu := HU.out
  simp only at hu
  subst hu
  simp [bodyPostS, results, Tryz.f17]
  exact HFIN.out
end Go.Proofs.YtanffablfgnioaaGreatDoor
