/- The landed parse: alternatives; so all of the parser but its beginning. · The landed parse: pattern's deferred closure. · The landed tree: descend, nodes and its iterator: all nodes that are not too deep, in order. -/
import Derived.Test.YtdcielcniboloaaGreatDoorGp23
import Derived.Recover
import Derived.Test.YtdcielcniboloaaGreatDoorGp7
import Derived.Test.YtdcielcniboloaaGreatDoorGp15
import Derived.RangeFuncBox
import Derived.RangeFuncNested
import Derived.RangeFuncBound
import Derived.RangeFuncCalls
import Derived.RangeFuncLeaves
import Derived.Shelf.Abstract
import Derived.OwnWalkIn
import Derived.TacticsInMore
import Derived.LoopNIn
import Derived.LoopIn
namespace Go.Proofs.YtdcielcniboloaaGreatDoor
open Go.RowKit
open Lx (Tk)
open Ps (TL)
set_option linter.unusedVariables false
/-- Alternatives, from behind a sequence. -/
noncomputable def altL (n : Nat) (L : TL) (f g : Int) (S : List Nd) : Ps.PR := if Ps.kd L = 12 then Ps.altP n L.tail f g S else .ok (Ps.joinN 8 S) L f g
theorem altP_first (n : Nat) (L : TL) (f g : Int) (S : List Nd) : Ps.altP (n + 1) L f g S = match Ps.seqP n L f g [] with
    | .bad a e => .bad a e
    | .ok x L' f' g' => altL n L' f' g' (S ++ [x]) := by
  rw [Ps.altP_eq]
  cases Ps.seqP n L f g [] <;> rfl
set_option maxRecDepth 100000 in
set_option maxHeartbeats 16000000 in
theorem alt_any (W0 : World) (k : Nat) (ih : AltOK W0 k) : AltOK W0 (k + 1) := by
  intro W lo B P0 v L f g n hk hn h hE
  obtain ⟨R, hR⟩ : ∃ R, Ps.altP n L f g [] = R := ⟨_, rfl⟩
  rw [hR]
  obtain ⟨m, rfl⟩ : ∃ m, n = m + 1 := ⟨n - 1, by omega⟩
  rw [altP_first] at hR
  obtain ⟨w1, hw1⟩ : ∃ w1, W.alloc (.cells #[.int .i64 0, .slice none 0 0, .int .i64 0, .string ⟨#[]⟩, .int .i64 0, .int .i64 0, .bool false, .slice none 0 0] 26) = w1 := ⟨_, rfl⟩
  have hb1 : Below W.heap.size W w1 := by rw [← hw1]; exact (Below.refl _ _).alloc (Nat.le_refl _) _
  have hres : w1.heap[W.heap.size]? = some (.cells #[.int .i64 0, .slice none 0 0, .int .i64 0, .string ⟨#[]⟩, .int .i64 0, .int .i64 0, .bool false, .slice none 0 0] 26 (0, 0)) := by rw [← hw1]; exact heap_alloc_new _ _
  have hs1 : w1.heap.size = W.heap.size + 1 := by rw [← hw1]; simp
  have hB := h.hB
  have hP := h.hP
  have hLen := h.len
  have HSQ := Lib.hid (seq_any W0 k ih m (h.below hb1) (hE.grown (below_grown (n := 0) hb1 _)) hk (by omega))
  obtain ⟨R1, hR1⟩ : ∃ R1, Ps.seqP m L f g [] = R1 := ⟨_, rfl⟩
  have hsf := (Ps.sf_all m).2.1 L f g []
  rw [hR1] at HSQ hR hsf
  have HSF := Lib.hid hsf
  have HI := Lib.hid ih
  have HE := Lib.hid hE
  have HRR := Lib.hid hR
  have HB1 := Lib.hid hb1
  have HR1 := Lib.hid hres
  have HW1 := Lib.hid hw1
  have HS1 := Lib.hid hs1
  have hrB : W.heap.size ≠ B := by omega
  have hbase : P0 ≤ w1.heap.size := by omega
  clear h ih hE hR hR1 hb1 hres hw1 hs1 hsf
  go_enter Tryz.func48, Tryz.ntmps48
  go_wp2_with fail
  rw [HW1.out]
  refine HSQ.out.mono ?_
  rintro e w2 ⟨hg2, h2⟩
  rcases h2 with ⟨ba, bc, rfl, rfl⟩ | ⟨x, L', f', g', cs, v', rfl, rfl, hx, hps2⟩
  · exact ⟨rfl, grown_trans (below_grown (n := 0) HB1.out _) hg2, .inl ⟨_, _, HRR.out.symm, rfl⟩⟩
  obtain ⟨u0, u1, u2, u3, u4, u5, u6, u7, sa, sc, ia, ic, hcs, F⟩ := hx.is.form_of
  subst hcs
  obtain ⟨rfl, rfl, rfl, rfl, rfl, rfl, rfl, rfl⟩ := F
  have hs12 := hg2.size
  obtain ⟨w3, hw3⟩ : ∃ w3, w2.alloc (.cells #[.int .i64 (Td.kind x), .slice sa (Td.set x).length sc, .int .i64 (Td.num x), .string (Td.name x), .int .i64 (Td.mn x), .int .i64 (Td.mx x), .bool (Td.lazy x), .slice ia (Td.subs x).length ic] 26) = w3 := ⟨_, rfl⟩
  have hown : NdOwn lo B P0 w3 w1.heap.size (.slice (some ⟨w2.heap.size, 0, none⟩) 1 1) [x] := by rw [← hw3]; exact ndOwn_lit w2 w1.heap.size hs12 x _ hx
  have hb3 : Below w2.heap.size w2 w3 := by rw [← hw3]; exact (Below.refl _ _).alloc (Nat.le_refl _) _
  have hg23 := grown_trans hg2 (below_grown (n := 0) hb3 (some B))
  have HOW3 := Lib.hid hown
  have HPS3 := Lib.hid (hps2.below hb3)
  have HG3 := Lib.hid (grown_trans (below_grown (n := 0) HB1.out _) hg23)
  have HR3 := Lib.hid (box_gr HR1.out hg23 hrB)
  have HSZ3 := Lib.hid hg23.size
  have HW3 := Lib.hid hw3
  have hL' : L'.length ≤ L.length := Ps.Sf.le HSF.out
  have HRR2 : Hid (altL m L' f' g' [x] = R) := HRR
  clear hx hps2 hg2 hw3 hown hb3 hg23 hs12
  go_wp2
  rw [HW3.out]
  go_loopw [3] (fun V wr => ∃ (n' : Nat) (L' : TL) (f' g' : Int) (A : List Nd) (v' va : Value), va = V ∧ Hid (altL n' L' f' g' A = R) ∧ Hid (PSt lo wr B P0 v' L' f' g') ∧ Hid (NdOwn lo B P0 wr w1.heap.size va A) ∧ Hid (W.grownBy wr (some B)) ∧
    Hid (wr.heap[W.heap.size]? = some (.cells #[.int .i64 0, .slice none 0 0, .int .i64 0, .string ⟨#[]⟩, .int .i64 0, .int .i64 0, .bool false, .slice none 0 0] 26 (0, 0))) ∧ Hid (w1.heap.size ≤ wr.heap.size) ∧ L'.length ≤ k + 1 ∧ 3 * L'.length ≤ n' ∧ A.length + L'.length ≤ 200001) (fun V wr => restLen B wr)
  case atStart => exact ⟨m, L', f', g', [x], v', _, rfl, HRR2, HPS3, HOW3, HG3, HR3, HSZ3, by omega, by omega, by simp; omega⟩
  case round =>
    obtain ⟨n', L', f', g', A, v', V, rfl, HRS, HPS, HOW, HG, HRB, HSZ, hk', hn', hA⟩ := hrel
    have HM := Lib.hid HPS.out.restLen
    have HK := Lib.hid (kind_any HPS.out)
    have hpos := HPS.out.ends.pos
    obtain ⟨K, hK⟩ : ∃ K, Ps.kd L' = K := ⟨_, rfl⟩
    rw [hK] at HK
    by_cases h12 : K = 12
    · subst h12
      obtain ⟨p, M, rfl⟩ := HPS.out.cons
      have HNX := Lib.hid (next_any HPS.out (by have : p.2.kind = 12 := hK; omega))
      have hal : Ps.altP n' M f' g' A = R := by
        have h9 := HRS.out
        unfold altL at h9
        rw [if_pos hK] at h9
        exact h9
      have hkM : M.length ≤ k := by simp at hk'; omega
      obtain ⟨m', rfl⟩ : ∃ m', n' = m' + 1 := ⟨n' - 1, by simp at hn'; omega⟩
      have hnM : 3 * M.length + 2 ≤ m' := by simp at hn'; omega
      have hAM : A.length + M.length ≤ 200000 := by simp at hA; omega
      have hpM : (p :: M).length = M.length + 1 := rfl
      rw [altP_first] at hal
      obtain ⟨R2, hR2⟩ : ∃ R2, Ps.seqP m' M f' g' [] = R2 := ⟨_, rfl⟩
      have hsf := (Ps.sf_all m').2.1 M f' g' []
      rw [hR2] at hal hsf
      have HAL := Lib.hid hal
      have HSF2 := Lib.hid hsf
      have HR2 := Lib.hid hR2
      have HPM := Lib.hid hpM
      clear hK hal hsf hR2 hpM
      go_wp2_with fail
      refine HK.out.mono ?_
      rintro e w2 ⟨rfl, rfl⟩
      go_wp2_with fail
      refine HNX.out.mono ?_
      rintro e w3 ⟨ta, tl, tc, out, v3, rfl, _, _, rfl, hps3, hg3⟩
      have HG3 := Lib.hid hg3
      have HSQ2 := Lib.hid (seq_any W0 k HI.out m' hps3 (HE.out.grown (grown_trans HG.out hg3)) (by omega) hnM)
      rw [HR2.out] at HSQ2
      have HS3 := Lib.hid hg3.size
      have hP3 : P0 ≤ w3.heap.size := hps3.hP
      clear hps3 hg3
      go_wp2_with fail
      refine HSQ2.out.mono ?_
      rintro e w4 ⟨hg4, h4⟩
      rcases h4 with ⟨ba, bc, rfl, rfl⟩ | ⟨x', L2, f2, g2, cs4, v4, rfl, rfl, hx4, hps4⟩
      · exact ⟨rfl, grown_trans HG.out (grown_trans HG3.out hg4), .inl ⟨_, _, HAL.out.symm, rfl⟩⟩
      have hg24 := grown_trans HG3.out hg4
      obtain ⟨u0, u1, u2, u3, u4, u5, u6, u7, sa, sc, ia, ic, hcs, F⟩ := hx4.is.form_of
      subst hcs
      obtain ⟨rfl, rfl, rfl, rfl, rfl, rfl, rfl, rfl⟩ := F
      obtain ⟨X, hX⟩ : ∃ X : Obj, X = (.cells #[.int .i64 (Td.kind x'), .slice sa (Td.set x').length sc, .int .i64 (Td.num x'), .string (Td.name x'), .int .i64 (Td.mn x'), .int .i64 (Td.mx x'), .bool (Td.lazy x'), .slice ia (Td.subs x').length ic] 26) := ⟨_, rfl⟩
      obtain ⟨w5, hw5⟩ : ∃ w5, w4.alloc X = w5 := ⟨_, rfl⟩
      have hb5 : Below w4.heap.size w4 w5 := by rw [← hw5]; exact (Below.refl _ _).alloc (Nat.le_refl _) _
      have hnew : w5.heap[w4.heap.size]? = some X := by rw [← hw5]; exact heap_alloc_new _ _
      have how5 := (HOW.out.grown hB hbase hg24).grown hB hbase (below_grown (n := 0) hb5 (some B))
      have hlt := HOW.out.lt
      have hs24 := hg24.size
      have hs45 := hb5.size
      have hszr := HSZ.out
      have hs3 := HS3.out
      rw [hX] at hnew
      obtain ⟨V2, w6, hrun, hown, hb6, hg6⟩ := append_nd w5 w1.heap.size V A how5 (by omega) (by omega) x' _ w4.heap.size (World.news_of_block hnew) (NdOn.mono (fun b hb => ⟨hb.1.lower (Nat.le_trans hszr hs3), hb.2, fun e => by
        have h9 := hlt b e
        rcases hb.1 with h | h <;> omega⟩) (hx4.to hb5.size (fun b _ hlt => hb5.block b hlt))) 1
      have HRUN := Lib.hid hrun
      have HOW6 := Lib.hid hown
      have HPS6 := Lib.hid ((hps4.below hb5).other hb6.size (fun b hb => hb6.block b (by omega)))
      have hg25 := grown_trans hg24 (below_grown (n := 0) hb5 (some B))
      have HG6 := Lib.hid (grown_belowP (grown_trans HG.out hg25) hb6 (by have := HS1.out; omega))
      have HRB6 := Lib.hid ((hb6.block _ (by have := HS1.out; omega)).trans (box_gr HRB.out hg25 hrB))
      have HSZ6 := Lib.hid (Nat.le_trans (Nat.le_trans hszr hg25.size) hb6.size)
      have HW5 := Lib.hid hw5
      have hle2 : L2.length ≤ M.length := Ps.Sf.le HSF2.out
      have hkA : (A ++ [x']).length + L2.length ≤ 200001 := by simp; omega
      have hnn : 3 * L2.length ≤ m' := by omega
      have hkk : L2.length ≤ k + 1 := by omega
      have HE2 : Hid (altL m' L2 f2 g2 (A ++ [x']) = R) := HAL
      subst hX
      clear hx4 hps4 hg4 hg24 hb5 hnew how5 hlt hrun hown hb6 hg6 hg25 hw5 hs24 hs45 hszr hs3
      go_wp2_with (at_builtin; (try rw [HW5.out]); (refine wpList_append_run rfl _ _ 24 rfl _ _ _ w6 rfl rfl HRUN.out ?_))
      go_roundw
      case rel => exact ⟨m', L2, f2, g2, A ++ [x'], v4, _, rfl, HE2, HPS6, HOW6, HG6, HRB6, HSZ6, hkk, hnn, hkA⟩
      case measure => rw [HM.out, HPS6.out.restLen, HPM.out]; omega
    · have e1 : (K == 12) = false := by rw [beq_eq_false_iff_ne]; exact h12
      have hal : R = .ok (Ps.joinN 8 A) L' f' g' := by
        have h9 := HRS.out
        unfold altL at h9
        rw [if_neg (by rw [hK]; exact h12)] at h9
        exact h9.symm
      have HX := Lib.hid hal
      have HJ := Lib.hid (join_any (base := w1.heap.size) wr HSZ.out 8 (i64_lit _ (by decide)) A V HOW.out (by omega))
      clear hal hK h12
      go_wp2_with fail
      refine HK.out.mono ?_
      rintro e w2 ⟨rfl, rfl⟩
      go_wp2_with fail
      refine HJ.out.mono ?_
      rintro e wS ⟨cs, rfl, hx, hbS⟩
      have HPX := Lib.hid hx
      have HBX := Lib.hid hbS
      obtain ⟨u0, u1, u2, u3, u4, u5, u6, u7, sa, sc, ia, ic, hcs, F⟩ := hx.is.form_of
      subst hcs
      obtain ⟨rfl, rfl, rfl, rfl, rfl, rfl, rfl, rfl⟩ := F
      have hrS := (hbS.block _ (Array.getElem?_eq_some_iff.1 HRB.out).1).trans HRB.out
      have HRS2 := Lib.hid hrS
      obtain ⟨d0, d1, d2, d3, d4, d5, d6, d7, g0, g1, g2, g3, g4, g5, g6, g7⟩ := box_facts hrS
      clear hx hbS hrS
      go_wp2
      (try simp only [Exit.inBlock, Exit.then])
      refine ret_nd1 rfl W.heap.size _ rfl (set8_blk _ _ _ _ _ _ _ _ _ _ HRS2.out) rfl rfl ?_
      exact tree_out hB hP (by have := HS1.out; omega) HG.out HPS.out HBX.out HPX.out HX.out
/-- Alternatives, of however many tokens. -/
theorem altOK (W0 : World) : ∀ k, AltOK W0 k
  | 0 => fun W lo B P0 v L f g n hk hn h hE => by have := h.ends.pos; omega
  | k + 1 => alt_any W0 k (altOK W0 k)
end Go.Proofs.YtdcielcniboloaaGreatDoor
namespace Go.Proofs.YtdcielcniboloaaGreatDoor
open Go.RowKit
open Lx (Tk)
open Ps (TL)
set_option linter.unusedVariables false
theorem assert_nil (w : World) : (Instr.typeAssert .nilIface 20 88 true).run Tryz.prog w = .ok (.tuple #[.agg #[.int .i64 0, .int .i64 0], .bool false]) w := by kernel_rfl
theorem assert_run (w : World) (a c : Int) : (Instr.typeAssert (.iface 88 (.agg #[.int .i64 a, .int .i64 c])) 20 88 true).run Tryz.prog w = .ok (.tuple #[.agg #[.int .i64 a, .int .i64 c], .bool true]) w := by kernel_rfl
set_option maxRecDepth 100000 in
set_option maxHeartbeats 4000000 in
theorem catch_idle (nb ab eb : Nat) (w : World) : CallsD Tryz.prog 47 #[.pointer (some ⟨nb, 0, none⟩), .pointer (some ⟨ab, 0, none⟩), .pointer (some ⟨eb, 0, none⟩)] .returning w fun e u' w' => e = .returned (.tuple #[]) ∧ u' = .returning ∧ Below w.heap.size w w' := by
  have hta := assert_nil
  refine callsD_of_wpS Tryz.func47 rfl fun c₀ cs hu => ?_
  simp only [Tryz.ntmps47, List.size_toArray, List.length_cons, List.length_nil, Nat.reduceAdd, Nat.reduceSub, Array.replicate_succ, Array.replicate_zero, List.push_toArray, List.append_toArray, List.nil_append, List.cons_append]
  apply wpS_seq
  apply wpS_region
  simp [wpOpsS, go_sem, recoverD, hu, Exit.thenS]
  refine wpS_of_wp ?_
  go_wp2
  have hb9 : Below w.heap.size w (w.alloc (.cells #[.int .i64 0, .int .i64 0] 88)) := (Below.refl _ _).alloc (Nat.le_refl _) _
  cases c₀
  simp_all [bodyPostS, results, Tryz.f47]
set_option maxRecDepth 100000 in
set_option maxHeartbeats 8000000 in
theorem catch_failure (nb ab eb base : Nat) (w : World) (a c : Int) (older : List PanicEntry) {u0 u1 u2 u3 u4 u5 u6 u7 a0 e0 : Value} (hn : w.heap[nb]? = some (.cells #[u0, u1, u2, u3, u4, u5, u6, u7] 26 (0, 0))) (ha : w.heap[ab]? = some (.cells #[a0] 3 (0, 0))) (he : w.heap[eb]? = some (.cells #[e0] 27 (0, 0)))
    (hne : nb ≠ ab ∧ nb ≠ eb ∧ ab ≠ eb) (hbs : base ≤ nb ∧ base ≤ ab ∧ base ≤ eb ∧ base ≤ w.heap.size) :
    CallsD Tryz.prog 47 #[.pointer (some ⟨nb, 0, none⟩), .pointer (some ⟨ab, 0, none⟩), .pointer (some ⟨eb, 0, none⟩)] (.panicking (failV a c :: older)) w fun e u' w' => e = .returned (.tuple #[]) ∧ u' = .panicking ({ v := .iface 88 (.agg #[.int .i64 a, .int .i64 c]), recovered := true } :: older) ∧
      w'.heap[nb]? = some (.cells #[.int .i64 0, .slice none 0 0, .int .i64 0, .string ⟨#[]⟩, .int .i64 0, .int .i64 0, .bool false, .slice none 0 0] 26 (0, 0)) ∧ w'.heap[ab]? = some (.cells #[.int .i64 a] 3 (0, 0)) ∧ w'.heap[eb]? = some (.cells #[.int .i64 c] 27 (0, 0)) ∧ Below base w w' := by
  have hta := fun w => assert_run w a c
  refine callsD_of_wpS Tryz.func47 rfl fun c₀ cs hu => ?_
  simp only [Tryz.ntmps47, List.size_toArray, List.length_cons, List.length_nil, Nat.reduceAdd, Nat.reduceSub, Array.replicate_succ, Array.replicate_zero, List.push_toArray, List.append_toArray, List.nil_append, List.cons_append]
  apply wpS_seq
  apply wpS_region
  simp [wpOpsS, go_sem, recoverD, hu, Exit.thenS]
  refine wpS_of_wp ?_
  go_wp2
  obtain ⟨w1, hw1⟩ : ∃ w1, w.alloc (.cells #[.int .i64 a, .int .i64 c] 88) = w1 := ⟨_, rfl⟩
  obtain ⟨fb, hfb⟩ : ∃ fb, w.heap.size = fb := ⟨_, rfl⟩
  have hb1 : Below w.heap.size w w1 := by rw [← hw1]; exact (Below.refl _ _).alloc (Nat.le_refl _) _
  have hf1 : w1.heap[fb]? = some (.cells #[.int .i64 a, .int .i64 c] 88 (0, 0)) := by rw [← hw1, ← hfb]; exact heap_alloc_new _ _
  have hn1 := (hb1.block _ (Array.getElem?_eq_some_iff.1 hn).1).trans hn
  have ha1 := (hb1.block _ (Array.getElem?_eq_some_iff.1 ha).1).trans ha
  have he1 := (hb1.block _ (Array.getElem?_eq_some_iff.1 he).1).trans he
  have hnf : nb ≠ fb ∧ ab ≠ fb ∧ eb ≠ fb := by
    have := (Array.getElem?_eq_some_iff.1 hn).1
    have := (Array.getElem?_eq_some_iff.1 ha).1
    have := (Array.getElem?_eq_some_iff.1 he).1
    omega
  rw [hw1, hfb]
  obtain ⟨d0, d1, d2, d3, d4, d5, d6, d7, g0, g1, g2, g3, g4, g5, g6, g7⟩ := box_facts hn1
  have y0 : w1.cell? ⟨fb, 0, none⟩ = some (.int .i64 a) := by simp [World.cell?, hf1]
  have y1 : w1.cell? ⟨fb, 1, none⟩ = some (.int .i64 c) := by simp [World.cell?, hf1]
  have y2 : w1.cell? ⟨ab, 0, none⟩ = some a0 := by simp [World.cell?, ha1]
  have y3 : w1.cell? ⟨eb, 0, none⟩ = some e0 := by simp [World.cell?, he1]
  have y4 : w1.frozen? ⟨ab, 0, none⟩ = false := by simp [World.frozen?, ha1]
  have y5 : w1.frozen? ⟨eb, 0, none⟩ = false := by simp [World.frozen?, he1]
  obtain ⟨m1, m2, m3⟩ := hne
  obtain ⟨p1, p2, p3⟩ := hnf
  have HU := Lib.hid hu
  have HB1 := Lib.hid hb1
  have HN1 := Lib.hid hn1
  have HA1 := Lib.hid ha1
  have HE1 := Lib.hid he1
  have HBS := Lib.hid hbs
  clear hta hw1 hfb hb1 hf1 hn1 ha1 he1 hn ha he hu hbs
  go_region
  have hq0 := set8_blk _ _ (.int .i64 0) (.slice none 0 0) (.int .i64 0) (.string ⟨#[]⟩) (.int .i64 0) (.int .i64 0) (.bool false) (.slice none 0 0) HN1.out
  have hq1 := fun k => set8_other w1 nb (.int .i64 0) (.slice none 0 0) (.int .i64 0) (.string ⟨#[]⟩) (.int .i64 0) (.int .i64 0) (.bool false) (.slice none 0 0) k
  have hq2 := set8_below (HB1.out.mono HBS.out.2.2.2) nb HBS.out.1 (.int .i64 0) (.slice none 0 0) (.int .i64 0) (.string ⟨#[]⟩) (.int .i64 0) (.int .i64 0) (.bool false) (.slice none 0 0)
  generalize (((((((w1.setCell ⟨nb, 0, none⟩ (.int .i64 0)).setCell ⟨nb, 1, none⟩ (.slice none 0 0)).setCell ⟨nb, 2, none⟩ (.int .i64 0)).setCell ⟨nb, 3, none⟩ (.string ⟨#[]⟩)).setCell ⟨nb, 4, none⟩ (.int .i64 0)).setCell ⟨nb, 5, none⟩ (.int .i64 0)).setCell ⟨nb, 6, none⟩ (.bool false)).setCell ⟨nb, 7, none⟩ (.slice none 0 0) = w2 at hq0 hq1 hq2 ⊢
  have hbl : Below base w ((w2.setCell ⟨ab, 0, none⟩ (.int .i64 a)).setCell ⟨eb, 0, none⟩ (.int .i64 c)).drew := by
    have h9 := (hq2.setCell (p := ⟨ab, 0, none⟩) HBS.out.2.1 (.int .i64 a)).setCell (p := ⟨eb, 0, none⟩) HBS.out.2.2.1 (.int .i64 c)
    exact below_drewNr h9 1
  have hA2 : w2.heap[ab]? = some (.cells #[a0] 3 (0, 0)) := (hq1 ab (by omega)).trans HA1.out
  have hE2 : w2.heap[eb]? = some (.cells #[e0] 27 (0, 0)) := (hq1 eb (by omega)).trans HE1.out
  have r1 : ((w2.setCell ⟨ab, 0, none⟩ (.int .i64 a)).setCell ⟨eb, 0, none⟩ (.int .i64 c)).heap[nb]? = some (.cells #[.int .i64 0, .slice none 0 0, .int .i64 0, .string ⟨#[]⟩, .int .i64 0, .int .i64 0, .bool false, .slice none 0 0] 26 (0, 0)) :=
    (heap_setCell_other _ ⟨eb, 0, none⟩ nb _ m2).trans ((heap_setCell_other _ ⟨ab, 0, none⟩ nb _ m1).trans hq0)
  have r2 : ((w2.setCell ⟨ab, 0, none⟩ (.int .i64 a)).setCell ⟨eb, 0, none⟩ (.int .i64 c)).heap[ab]? = some (.cells #[.int .i64 a] 3 (0, 0)) := by
    refine (heap_setCell_other _ ⟨eb, 0, none⟩ ab _ m3).trans ?_
    have h9 := heap_setCell_same w2 ab 0 _ _ (.int .i64 a) hA2
    simpa using h9
  have r3 : ((w2.setCell ⟨ab, 0, none⟩ (.int .i64 a)).setCell ⟨eb, 0, none⟩ (.int .i64 c)).heap[eb]? = some (.cells #[.int .i64 c] 27 (0, 0)) := by
    have h8 : (w2.setCell ⟨ab, 0, none⟩ (.int .i64 a)).heap[eb]? = some (.cells #[e0] 27 (0, 0)) := (heap_setCell_other _ ⟨ab, 0, none⟩ eb _ (fun e => m3 e.symm)).trans hE2
    have h9 := heap_setCell_same _ eb 0 _ _ (.int .i64 c) h8
    simpa using h9
  generalize hW : (w2.setCell ⟨ab, 0, none⟩ (.int .i64 a)).setCell ⟨eb, 0, none⟩ (.int .i64 c) = w3 at hbl r1 r2 r3 ⊢
  have HFIN : Hid (w3.drew.heap[nb]? = some (.cells #[.int .i64 0, .slice none 0 0, .int .i64 0, .string ⟨#[]⟩, .int .i64 0, .int .i64 0, .bool false, .slice none 0 0] 26 (0, 0)) ∧ w3.drew.heap[ab]? = some (.cells #[.int .i64 a] 3 (0, 0)) ∧ w3.drew.heap[eb]? = some (.cells #[.int .i64 c] 27 (0, 0)) ∧ Below base w w3.drew) := Lib.hid ⟨r1, r2, r3, hbl⟩
  generalize w3.drew = w4 at HFIN ⊢
  clear hq0 hq1 hq2 hbl hA2 hE2 r1 r2 r3 hW d0 d1 d2 d3 d4 d5 d6 d7 g0 g1 g2 g3 g4 g5 g6 g7 y0 y1 y2 y3 y4 y5
  go_wp2
  cases c₀
  have hu := HU.out
  simp only at hu
  subst hu
  simp [bodyPostS, results, Tryz.f47]
  exact HFIN.out
end Go.Proofs.YtdcielcniboloaaGreatDoor
namespace Go.Proofs.YtdcielcniboloaaGreatDoor
open Go.RowKit Go.Shelf
attribute [local go_sem] Oper.semAt_some
set_option linter.unusedVariables false
/-- A node with its depth, as the iterator hands it over: its cells read in the world Wb. -/
abbrev NdX (Wb : World) := { x : Nat × Nd × List Value // NdIs Wb x.2.1 x.2.2 }
def encN {Wb : World} (x : NdX Wb) : Array Value := #[.int .i64 (x.1.1 : Int), .agg x.1.2.2.toArray]
def ndP {Wb : World} (x : NdX Wb) : Nat × Nd := (x.1.1, x.1.2.1)
/-- What a round of the caller's loop keeps: all that lay below n0, and all nodes from n1 on. -/
structure KpN (n0 n1 : Nat) (X Y : World) : Prop where
  below : Below n0 X Y
  own : ∀ (k : Nat) (cs : Array Value) (fr : Nat × Nat), n1 ≤ k → X.heap[k]? = some (Obj.cells cs 26 fr) → Y.heap[k]? = some (Obj.cells cs 26 fr)
theorem kpN_t {n0 n1 : Nat} {X Y Z : World} (h : KpN n0 n1 X Y) (k : KpN n0 n1 Y Z) : KpN n0 n1 X Z := ⟨h.below.trans k.below, fun i cs fr hi hx => k.own i cs fr hi (h.own i cs fr hi hx)⟩
theorem KpN.refl (n0 n1 : Nat) (X : World) : KpN n0 n1 X X := ⟨Below.refl _ _, fun _ _ _ _ h => h⟩
theorem kpN_b {n0 n1 : Nat} {w : World} (hn : n0 ≤ w.heap.size) (W : World) (l : Nat) (o o' : Obj) (hl : w.heap.size ≤ l) (h : W.heap[l]? = some o) (hc : o.isCells = false) (hw : o.isWalk = false) : KpN n0 n1 W (W.putObj l o') :=
  ⟨belowK_b hn W l o o' hl h hc hw, fun k cs fr _ hk => by
    have hne : k ≠ l := fun e => by subst e; rw [h] at hk; cases hk; cases hc
    rw [(grownBy_putObj' W l o').block k (Array.getElem?_eq_some_iff.1 hk).1 (fun e => hne (by cases e; rfl))]; exact hk⟩
theorem KpN.of_below {n0 n1 : Nat} {X Y : World} (h : Below X.heap.size X Y) (hn : n0 ≤ X.heap.size) : KpN n0 n1 X Y := ⟨h.mono hn, fun k cs fr _ hk => (h.block k (Array.getElem?_eq_some_iff.1 hk).1).trans hk⟩
theorem KpN.alloc {n0 n1 : Nat} (X : World) (o : Obj) (hn : n0 ≤ X.heap.size) : KpN n0 n1 X (X.alloc o) := .of_below ((Below.refl X.heap.size X).alloc (Nat.le_refl _) o) hn
theorem KpN.set {n0 n1 : Nat} (X : World) (p : Addr) (v : Value) (h0 : n0 ≤ p.block) (h1 : p.block < n1) : KpN n0 n1 X (X.setCell p v) :=
  ⟨(Below.refl n0 X).setCell h0 v, fun k cs fr hk hx => (Below.heap_setCell _ _ _ _ (by omega)).trans hx⟩
/-- A step that turns one block, of another type. -/
theorem KpN.grown {n0 n1 : Nat} {X Y : World} {row : Option Nat} (h : X.grownBy Y row) (hn : n0 ≤ X.heap.size) (hr : ∀ r, row = some r → n0 ≤ r ∧ ∀ cs fr, X.heap[r]? ≠ some (Obj.cells cs 26 fr)) : KpN n0 n1 X Y :=
  ⟨(Below.refl n0 X).grown h hn (fun k hk => (hr k hk).1), fun k cs fr _ hx => by
    rw [h.block k (Array.getElem?_eq_some_iff.1 hx).1 (fun e => (hr k e.symm).2 cs fr hx)]; exact hx⟩
theorem yield_wide {m : Nat} (m' : Nat) {P : Program} {l : Nat} {args : Array Value} {W : World} {R : Ending → World → Prop} (h : YieldAt Fence.wide m P l args W R) : YieldAt Fence.wide m' P l args W R := by
  obtain ⟨fn, tmps, assign, body, hy, h1, h2⟩ := h
  exact ⟨fn, tmps, assign, body, hy, h1, fun c cs _ => h2 c cs (fun d h => by cases h)⟩
def StopsAt (Wb : World) (n0 n1 : Nat) (k d : Nat) (nd : Nd) (J Jx : List (NdX Wb) → World → Prop) (pre : List (NdX Wb)) (W : World) (e : Ending) (W' : World) : Prop :=
  (e = .returned (.bool true) ∧ (∃ xs : List (NdX Wb), xs.map ndP = Td.all k d nd ∧ J (pre ++ xs) W') ∧ KpN n0 n1 W W') ∨
  (e = .returned (.bool false) ∧ ∃ q : List (NdX Wb), q.map ndP <+: Td.all k d nd ∧ Jx (pre ++ q) W')
def DescOk (Wb : World) (l n1 N M : Nat) (J Jx : List (NdX Wb) → World → Prop) (Pd : Nd → Prop) (k : Nat) : Prop :=
  ∀ (d : Nat) (nd : Nd) (cs : List Value) (pre : List (NdX Wb)) (W : World), d + k = M + 1 → NdIs Wb nd cs → Pd nd → Below Wb.heap.size Wb W → J pre W → pre.length + (Td.all k d nd).length ≤ N → n1 ≤ W.heap.size →
    Calls Tryz.prog 70 #[.agg cs.toArray, .int .i64 (d : Int), .int .i64 (M : Int), .func (.yield l) #[] #[]] W (StopsAt Wb Wb.heap.size n1 k d nd J Jx pre W)
theorem blkc {W : World} {B : Nat} {cs : Array Value} {t : TypeId} (h : W.heap[B]? = some (.cells cs t (0, 0))) (i : Nat) : W.cell? ⟨B, i, none⟩ = cs[i]? := by simp [World.cell?, h]
theorem kp_box {n0 n1 : Nat} {X Y : World} (h : KpN n0 n1 X Y) {B : Nat} {cs : Array Value} (hB : n1 ≤ B) (hx : X.heap[B]? = some (.cells cs 26 (0, 0))) (i : Nat) : Y.cell? ⟨B, i, none⟩ = cs[i]? := by
  have := h.own B cs (0, 0) hB hx
  simp [World.cell?, this]
set_option maxRecDepth 100000 in
set_option maxHeartbeats 4000000 in
theorem desc_step (Wb : World) (l n1 N M : Nat) (hM : M ≤ 100000) (J Jx : List (NdX Wb) → World → Prop) (B0 : Nat) (hJ : AbidesFrom B0 J)
    (Pd : Nd → Prop) (hPd : ∀ n, Pd n → ∀ m ∈ Td.subs n, Pd m)
    (hY : ∀ pre (x : NdX Wb) W, J pre W → Pd x.1.2.1 → pre.length < N → YieldAt Fence.wide 0 Tryz.prog l (encN x) W fun e W' => (e = .returned (.bool true) ∧ J (pre ++ [x]) W' ∧ KpN Wb.heap.size n1 W W') ∨ (e = .returned (.bool false) ∧ Jx (pre ++ [x]) W'))
    (k : Nat) (ih : 1 ≤ k → DescOk Wb l n1 N M J Jx Pd k) : DescOk Wb l n1 N M J Jx Pd (k + 1) := by
  intro d nd cs pre W hd hnd hpn hb hJ0 hN hn1
  have HPS := Lib.hid (hPd nd hpn)
  have hbs := hb.size
  have hJa : ∀ pre W o, J pre W → J pre (W.alloc o) := fun pre W o h => hJ pre W _ none h (World.grownBy_alloc W o none) (fun r e => by cases e)
  obtain ⟨x, hx⟩ : ∃ x : NdX Wb, x = ⟨(d, nd, cs), hnd⟩ := ⟨_, rfl⟩
  have hallp : 1 ≤ (Td.all (k + 1) d nd).length := Td.all_len_pos k d nd
  have hy := yield_wide (100000) (hY pre x (W.alloc (.cells cs.toArray 26)) (hJa _ _ _ hJ0) (by rw [hx]; exact hpn) (by omega))
  have hxe : encN x = #[.int .i64 (d : Int), .agg cs.toArray] := by rw [hx]; rfl
  rw [hxe] at hy
  have HXP : Hid (ndP x = (d, nd)) := Lib.hid (by rw [hx]; rfl)
  have HALL : Hid (Td.all (k + 1) d nd = (d, nd) :: (Td.subs nd).flatMap (Td.all k (d + 1))) := Lib.hid (by rw [Td.all])
  have HBB := Lib.hid hb
  have HJA := Lib.hid hJa
  have HN := Lib.hid hN
  have IH := Lib.hid ih
  have HND := Lib.hid hnd
  obtain ⟨vs, a, cap, C, hC⟩ := hnd.cells
  have hcs := hC.eq
  have hlen := hC.len
  have HSUB := Lib.hid hC.sub
  have HNEW := Lib.hid (heap_alloc_new W (.cells cs.toArray 26))
  have HKA : Hid (KpN Wb.heap.size n1 W (W.alloc (.cells cs.toArray 26))) := Lib.hid (KpN.alloc W _ (by omega))
  clear hx hxe ih hJa hJ hY hC hb hJ0 hN hallp hnd hPd hpn
  subst hcs
  obtain ⟨L, hL⟩ : ∃ L, (Td.subs nd).length = L := ⟨_, rfl⟩
  rw [hL] at hlen HSUB HNEW hy HKA
  rw [hL]
  have HL := Lib.hid hL
  clear hL
  refine (callsIn_wide (n := 100001)).1 ?_
  refine callsIn_of_wp Tryz.func70 rfl trivial ?_ rfl
  simp only [Tryz.ntmps70, List.size_toArray, List.length_cons, List.length_nil, Nat.reduceAdd, Nat.reduceSub, Array.replicate_succ, Array.replicate_zero, List.push_toArray, List.append_toArray, List.nil_append, List.cons_append]
  obtain ⟨fn, tmps, assign, body, hyy, hR⟩ := hy
  gi_wp2
  refine hR.mono ?_
  clear hR hyy
  rintro e W3 (⟨rfl, hJ3, hk3⟩ | ⟨rfl, hJx3⟩)
  · have hbx : W3.cell? ⟨W.heap.size, 7, none⟩ = some (.slice a L cap) := by
      have := kp_box hk3 hn1 HNEW.out 7
      simpa using this
    have HJ3 := Lib.hid hJ3
    have HK3 := Lib.hid (kpN_t HKA.out hk3)
    have HB3 := Lib.hid (HBB.out.trans HK3.out.below)
    clear hJ3 hk3
    by_cases hk0 : k = 0
    · subst hk0
      have hdM : (d : Int) = (M : Int) := by omega
      have hdM' : d = M := by omega
      subst hdM'
      have HE : Hid (Td.all 1 d nd = [(d, nd)]) := Lib.hid (by rw [HALL.out]; simp [Td.all])
      gi_wp2
      go_ret
      exact .inl ⟨rfl, ⟨[x], by rw [HE.out]; simp [HXP.out], HJ3.out⟩, HK3.out⟩
    · have hdM : ¬ (d : Int) = (M : Int) := by omega
      have hdw : IntKind.i64.wrap ((d : Int) + 1) = ((d + 1 : Nat) : Int) := by rw [IntKind.wrap_i64]; omega
      have HIH := Lib.hid (IH.out (by omega))
      have hn3 : n1 ≤ W3.heap.size := by have := HK3.out.below.size; omega
      gi_wp2
      rw [show ((d : Int) == (M : Int)) = false from beq_eq_false_iff_ne.2 (by omega)]
      gi_loopw [10, 22] (fun bx iv wr => ∃ (i : Nat) (xs : List (NdX Wb)), i ≤ L ∧ iv = .int .i64 (i : Int) ∧ Hid (xs.map ndP = ((Td.subs nd).take i).flatMap (Td.all k (d + 1))) ∧ Hid (J (pre ++ (x :: xs)) wr) ∧ Hid (KpN Wb.heap.size n1 W wr)) (fun _ iv _ => L - (intOf iv).toNat)
      case atStart => exact ⟨0, [], Nat.zero_le _, rfl, Lib.hid (by simp), HJ3, HK3⟩
      case round =>
        obtain ⟨i, xs, hi, rfl, HXS, HJS, HKS⟩ := hrel
        by_cases hlt : i < L
        · obtain ⟨b, off, m, u0, u1, u2, u3, u4, u5, u6, u7, rfl, hbl, hm, hnd, q0, q1, q2, q3, q4, q5, q6, q7⟩ := HSUB.out i hlt
          have hbw : Below Wb.heap.size Wb wr := HBB.out.trans HKS.out.below
          have kc : ∀ o v, Wb.cell? ⟨b, o, none⟩ = some v → wr.cell? ⟨b, o, none⟩ = some v := fun o v h => (hbw.cell (p := ⟨b, o, none⟩) hbl).trans h
          replace q0 := kc _ _ q0; replace q1 := kc _ _ q1; replace q2 := kc _ _ q2; replace q3 := kc _ _ q3
          replace q4 := kc _ _ q4; replace q5 := kc _ _ q5; replace q6 := kc _ _ q6; replace q7 := kc _ _ q7
          have hbl2 : b < wr.heap.size := Nat.lt_of_lt_of_le hbl hbw.size
          obtain ⟨f1, f2, f3, f4, F1⟩ := hnd.form
          obtain ⟨rfl, rfl, rfl, rfl, rfl, rfl, rfl, rfl⟩ := F1
          have HFM := Lib.hid (Td.flat_succ (Td.subs nd) (Td.all k (d + 1)) i m hm)
          have hle : (pre ++ (x :: xs)).length + (Td.all k (d + 1) m).length ≤ N := by
            have h1 := HN.out
            have h2 := congrArg List.length HXS.out
            have h3 := congrArg List.length HFM.out
            have h4 := Td.flat_le (Td.subs nd) (Td.all k (d + 1)) (i + 1)
            rw [HALL.out, List.length_cons] at h1
            rw [List.length_map] at h2
            rw [List.length_append] at h3
            rw [List.length_append, List.length_cons]
            omega
          have hwr : n1 ≤ wr.heap.size := by have := HKS.out.below.size; omega
          have hcall := fun o => HIH.out (d + 1) m _ (pre ++ (x :: xs)) (wr.alloc o) (by omega) hnd (HPS.out m (List.mem_of_getElem? hm)) (hbw.alloc hbw.size o) (HJA.out _ _ o HJS.out) hle (by simp; omega)
          have HC := Lib.hid hcall
          have HKW : Hid (∀ o, KpN Wb.heap.size n1 wr (wr.alloc o)) := Lib.hid (fun o => KpN.alloc wr o hbw.size)
          clear kc hm hnd hbw hle hcall
          gi_wp2_with fail
          refine ⟨trivial, ?_⟩
          refine (callsIn_wide.2 (HC.out _)).mono ?_
          rintro e w5 (⟨rfl, ⟨ys, hys, hj5⟩, hk5⟩ | ⟨rfl, q, hq, hx5⟩)
          · have HYS : Hid ((xs ++ ys).map ndP = ((Td.subs nd).take (i + 1)).flatMap (Td.all k (d + 1))) := Lib.hid (by rw [List.map_append, HXS.out, hys, HFM.out])
            have HJ5 : Hid (J (pre ++ (x :: (xs ++ ys))) w5) := Lib.hid (by rw [List.append_assoc] at hj5; exact hj5)
            have HK5 := Lib.hid (kpN_t HKS.out (kpN_t (HKW.out _) hk5))
            clear hys hj5 hk5 q0 q1 q2 q3 q4 q5 q6 q7
            gi_wp2
            go_roundw
            case rel => exact ⟨i + 1, xs ++ ys, by omega, by go_num, HYS, HJ5, HK5⟩
            case measure => simp [intOf]; omega
          · have HQ : Hid ((x :: (xs ++ q)).map ndP <+: Td.all (k + 1) d nd) := Lib.hid (by
              rw [HALL.out, List.map_cons, HXP.out, List.map_append, HXS.out]
              refine List.cons_prefix_cons.2 ⟨rfl, ?_⟩
              refine List.IsPrefix.trans (List.prefix_append_right_inj _ |>.2 hq) ?_
              rw [← HFM.out]
              exact ⟨((Td.subs nd).drop (i + 1)).flatMap (Td.all k (d + 1)), by rw [← List.flatMap_append, List.take_append_drop]⟩)
            have HX5 : Hid (Jx (pre ++ (x :: (xs ++ q))) w5) := Lib.hid (by rw [List.append_assoc] at hx5; exact hx5)
            clear hq hx5 q0 q1 q2 q3 q4 q5 q6 q7
            gi_wp2
            go_ret
            exact .inr ⟨rfl, _, HQ.out, HX5.out⟩
        · obtain rfl : i = L := by omega
          have HE : Hid ((x :: xs).map ndP = Td.all (k + 1) d nd) := Lib.hid (by
            have := HXS.out
            rw [List.take_of_length_le (by rw [HL.out]; exact Nat.le_refl _)] at this
            rw [HALL.out, List.map_cons, HXP.out, this])
          gi_wp2
          go_ret
          exact .inl ⟨rfl, ⟨_, HE.out, HJS.out⟩, HKS.out⟩
  · have HX3 := Lib.hid hJx3
    have HQ : Hid ([x].map ndP <+: Td.all (k + 1) d nd) := Lib.hid (by
      rw [HALL.out, List.map_cons, HXP.out]
      exact List.cons_prefix_cons.2 ⟨rfl, List.nil_prefix⟩)
    clear hJx3
    gi_wp2
    go_ret
    exact .inr ⟨rfl, _, HQ.out, HX3.out⟩
end Go.Proofs.YtdcielcniboloaaGreatDoor
