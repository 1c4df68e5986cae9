/- The landed parse: atom. · The landed parse: sequence. -/
import Derived.Test.YtdcielcniboloaaGreatDoorGp22
import Derived.Deep.RegionWith
namespace Go.Proofs.YtdcielcniboloaaGreatDoor
open Go.RowKit
open Lx (Tk)
open Ps (TL)
set_option linter.unusedVariables false
/-- The tree of a leaf, written into the result's box. -/
theorem leaf_out {lo B P0 : Nat} {W w2 wS : World} {x : Nd} {u0 u1 u2 u3 u4 u5 u6 u7 : Value} {R : Ps.PR} {M : TL} {f g : Int} {v' : Value} (hB : B < P0) (hP : P0 ≤ W.heap.size) (h2 : W.heap.size < w2.heap.size) (hg2 : W.grownBy w2 (some B)) (hps : PSt lo w2 B P0 v' M f g) (hb : Below w2.heap.size w2 wS)
    (hx : NdP lo B P0 w2.heap.size wS x [u0, u1, u2, u3, u4, u5, u6, u7]) (hR : R = .ok x M f g) :
    ParQ lo B P0 R W (.returned (.agg #[u0, u1, u2, u3, u4, u5, u6, u7])) ((((((((wS.setCell ⟨W.heap.size, 0, none⟩ u0).setCell ⟨W.heap.size, 1, none⟩ u1).setCell ⟨W.heap.size, 2, none⟩ u2).setCell ⟨W.heap.size, 3, none⟩ u3).setCell ⟨W.heap.size, 4, none⟩ u4).setCell ⟨W.heap.size, 5, none⟩ u5).setCell ⟨W.heap.size, 6, none⟩ u6).setCell ⟨W.heap.size, 7, none⟩ u7) := by
  refine ⟨set8_grown (grown_trans hg2 (below_grown (n := 0) hb _)) _ (Nat.le_refl _) _ _ _ _ _ _ _ _, .inr ⟨x, M, f, g, _, v', hR, rfl, NdP.lower (base := w2.heap.size) (by omega) (hx.to (by rw [set8_size]; exact Nat.le_refl _) (fun b hbb hlt => set8_other _ _ _ _ _ _ _ _ _ _ b (by rcases hbb with h | h <;> omega))), (hps.below hb).other (by rw [set8_size]; exact Nat.le_refl _) (fun b hbb => set8_other _ _ _ _ _ _ _ _ _ _ b (by omega))⟩⟩
theorem brkt_any {lo B P0 base : Nat} (w : World) (s : ByteArray) (hs : s.size ≤ 4096) (f : Int) (hE : Ev w) (hk : ∃ Xs n, Br.brack s = .ok Xs n) (hb : base ≤ w.heap.size) : Calls Tryz.prog 101 #[.string s, .int .i64 f] w fun e w' =>
    ∃ fa fc out at5, e = .returned (.tuple #[.slice fa out.length fc, .int .i64 at5, .int .i64 0]) ∧ LstP lo B P0 base w' (.slice fa out.length fc) out ∧ Ps.brkL s (Ps.hasP f 1) = out ∧ Below w.heap.size w w' := by
  refine (brk_any w s hs f (Ps.hasP f 1) rfl hE).mono ?_
  rintro e w5 ⟨hb35, h5⟩
  obtain ⟨Ys, yn, hk⟩ := hk
  rcases h5 with ⟨o, c, h5, _⟩ | ⟨Xs, at2, vo, out5, h5, rfl, hbi, hown⟩
  · rw [hk] at h5; cases h5
  have hnorm : Rg.NormL out5 := by obtain ⟨_, _, _, _, h9, _⟩ := hbi; exact h9
  have hbl := Ps.brkL_is ⟨Xs, at2, h5, hbi⟩
  obtain ⟨fa, fc, rfl⟩ := own_slice hown
  exact ⟨fa, fc, out5, _, rfl, own_lst hown hnorm hb, hbl, hb35⟩
set_option maxRecDepth 100000 in
set_option maxHeartbeats 16000000 in
theorem atom_any (W0 : World) (k : Nat) (ih : AltOK W0 k) {W : World} {lo B P0 : Nat} {v : Value} {L : TL} {f g : Int} (n : Nat) (h : PSt lo W B P0 v L f g) (hE : PEv W0 B W) (hk : L.length ≤ k + 1) (hn : 3 * L.length + 1 ≤ n)
    (hkd : Ps.kd L = 1 ∨ Ps.kd L = 2 ∨ Ps.kd L = 3 ∨ Ps.kd L = 4 ∨ Ps.kd L = 5 ∨ Ps.kd L = 6 ∨ Ps.kd L = 7 ∨ Ps.kd L = 9 ∨ Ps.kd L = 13) :
    Calls Tryz.prog 126 #[.pointer (some ⟨B, 0, none⟩)] W (ParQ lo B P0 (Ps.atomP n L f g) W) := by
  obtain ⟨p, M, rfl⟩ := h.cons
  obtain ⟨m, rfl⟩ : ∃ m, n = m + 1 := ⟨n - 1, by simp at hn; omega⟩
  have hkM : M.length ≤ k := by simp at hk; exact hk
  have hnM : 3 * M.length + 3 ≤ m := by simp at hn; omega
  have hgM : g + 1 + (M.length : Int) ≤ 400000 := by have := h.g1; simp at this; omega
  have htok := h.tok p (by simp)
  have hB := h.hB
  have hP := h.hP
  have hk0 : p.2.kind ≠ 0 := by have : Ps.kd (p :: M) = p.2.kind := rfl; omega
  have hkd' : p.2.kind = 1 ∨ p.2.kind = 2 ∨ p.2.kind = 3 ∨ p.2.kind = 4 ∨ p.2.kind = 5 ∨ p.2.kind = 6 ∨ p.2.kind = 7 ∨ p.2.kind = 9 ∨ p.2.kind = 13 := hkd
  have hAP : Ps.atomP (m + 1) (p :: M) f g = if p.2.kind = 9 then groupR m p M f g else .ok (Ps.leafOf f p.2) M f g := by
    rw [Ps.atomP_eq]
    unfold groupR groupF
    show (if p.2.kind = 9 then _ else _) = _
    split
    · show (match Ps.altP m M (Ps.turnP f p.2) (g + p.2.num) [] with | .bad a e => Ps.PR.bad a e | .ok x L' f' g' => _) = _
      cases Ps.altP m M (Ps.turnP f p.2) (g + p.2.num) [] <;> rfl
    · rfl
  obtain ⟨w1, hw1⟩ : ∃ w1, W.alloc (.cells #[.int .i64 0, .slice none 0 0, .int .i64 0, .string ⟨#[]⟩, .int .i64 0, .int .i64 0, .bool false, .slice none 0 0] 26) = w1 := ⟨_, rfl⟩
  have hb1 : Below W.heap.size W w1 := by rw [← hw1]; exact (Below.refl _ _).alloc (Nat.le_refl _) _
  have hres : w1.heap[W.heap.size]? = some (.cells #[.int .i64 0, .slice none 0 0, .int .i64 0, .string ⟨#[]⟩, .int .i64 0, .int .i64 0, .bool false, .slice none 0 0] 26 (0, 0)) := by rw [← hw1]; exact heap_alloc_new _ _
  have HNX := Lib.hid (next_any (h.below hb1) hk0)
  have HI := Lib.hid ih
  have HE := Lib.hid hE
  have HAP := Lib.hid hAP
  have HB1 := Lib.hid hb1
  have HR1 := Lib.hid hres
  have HW1 := Lib.hid hw1
  have HTOK := Lib.hid htok
  clear ih h hE hk hn hkd hk0 hAP hb1 hres hw1 htok
  obtain ⟨at_, ⟨kd, num, nm, mn, mx, lz, cl⟩⟩ := p
  dsimp only at hkd'
  go_enter Tryz.func126, Tryz.ntmps126
  go_wp2_with fail
  rw [HW1.out]
  refine HNX.out.mono ?_
  rintro e w2 ⟨va, vl, vc, out, v', rfl, hs1, hs2, rfl, hps2, hg12⟩
  have hg2 : W.grownBy w2 (some B) := grown_trans (below_grown (n := 0) HB1.out _) hg12
  have hrB : W.heap.size ≠ B := by omega
  have hr2 := box_gr HR1.out hg12 hrB
  have HR2 := Lib.hid hr2
  unfold tkV
  dsimp only at hs1 ⊢
  obtain ⟨w3, hw3⟩ : ∃ w3, w2.alloc (.cells #[.int .i64 kd, .int .i64 at_, .int .i64 num, .string nm, .int .i64 mn, .int .i64 mx, .bool lz, .slice va out.length vc] 37) = w3 := ⟨_, rfl⟩
  have hb3 : Below w2.heap.size w2 w3 := by rw [← hw3]; exact (Below.refl _ _).alloc (Nat.le_refl _) _
  have htk : w3.heap[w2.heap.size]? = some (.cells #[.int .i64 kd, .int .i64 at_, .int .i64 num, .string nm, .int .i64 mn, .int .i64 mx, .bool lz, .slice va out.length vc] 37 (0, 0)) := by rw [← hw3]; exact heap_alloc_new _ _
  obtain ⟨tb, htb⟩ : ∃ tb, w2.heap.size = tb := ⟨_, rfl⟩
  have hps3 := hps2.below hb3
  have hg3 := grown_trans hg2 (below_grown (n := 0) hb3 (some B))
  have hr3 := box_gr hr2 (below_grown (n := 0) hb3 (some B)) hrB
  have hlr3 := (Array.getElem?_eq_some_iff.1 hr3).1
  rw [htb] at htk
  obtain ⟨x0, x1, x2, x3, x4, x5, x6, x7, _⟩ := box_facts htk
  have HPS3 := Lib.hid hps3
  have HG3 := Lib.hid hg3
  have HR3 := Lib.hid hr3
  have HLS : Hid (Br.SetIs cl out) := Lib.hid hs1
  have hP3 : P0 ≤ w2.heap.size := hps2.hP
  have HLR : Hid (LstP lo B P0 w3.heap.size w3 (.slice va out.length vc) out) := Lib.hid ((hs2.kept hb3.size (fun b _ hlt => hb3.block b hlt)).mono (fun b hb => ⟨.inl hb, Nat.lt_of_lt_of_le (Nat.lt_of_lt_of_le hb.1 hP3) hb3.size⟩))
  have HW3 := Lib.hid hw3
  have HTB := Lib.hid htb
  have HS3 : Hid (w3.heap.size = tb + 1) := Lib.hid (by rw [← hw3, ← htb]; simp)
  have HEV := Lib.hid (HE.out.grown hg3)
  obtain ⟨hp9, hnum, hmn, hmx, hnm, h9, h13⟩ := HTOK.out
  dsimp only at hp9 hnum hmn hmx hnm h9 h13
  clear hs1 hs2 hps2 hg12 hg2 hr2 hw3 hb3 htk htb hps3 hg3 hr3
  rcases hkd' with rfl | rfl | rfl | rfl | rfl | rfl | rfl | rfl | rfl
  · have hb4 : Below w3.heap.size w3 (w3.alloc (.cells #[.int .i64 num, .int .i64 num] 97)) := (Below.refl _ _).alloc (Nat.le_refl _) _
    have hl1 : LstP lo B P0 w3.heap.size (w3.alloc (.cells #[.int .i64 num, .int .i64 num] 97)) (.slice (some ⟨tb + 1, 0, none⟩) 1 1) [(num, num)] := by
      rw [← HS3.out]
      exact ⟨rrow_one w3 num num hnum hnum 97, fun g off len cap e hl => by injection e with e _ _; injection e with e; injection e with e _ _; subst e; exact ⟨.inr (Nat.le_refl _), by simp⟩⟩
    have HFO := Lib.hid (folded_any (HPS3.out.below hb4) (base := w3.heap.size) hb4.size [(num, num)] _ 1 hl1)
    have HB4 := Lib.hid hb4
    clear hb4 hl1
    go_wp2_with fail
    rw [HW3.out, HTB.out]
    refine HFO.out.mono ?_
    rintro e w5 ⟨fa, fc, rfl, hfl, hb5⟩
    have hb35 := HB4.out.trans (hb5.mono HB4.out.size)
    have h35 := hb35.size
    clear hb5
    go_wp2_with fail
    refine (set_any (base := w3.heap.size) w5 (by omega) _ fa fc hfl).mono ?_
    rintro e wS ⟨cs, rfl, hx, hb6⟩
    have hbS := hb35.trans (hb6.mono hb35.size)
    clear hb6 hfl hb35
    have HPX := Lib.hid hx
    have HBX := Lib.hid hbS
    obtain ⟨u0, u1, u2, u3, u4, u5, u6, u7, sa, sc, ia, ic, hcs, F⟩ := hx.is.form_of
    subst hcs
    obtain ⟨rfl, rfl, rfl, rfl, rfl, rfl, rfl, rfl⟩ := F
    have hrS := (hbS.block _ hlr3).trans HR3.out
    have HRS := Lib.hid hrS
    obtain ⟨d0, d1, d2, d3, d4, d5, d6, d7, g0, g1, g2, g3, g4, g5, g6, g7⟩ := box_facts hrS
    clear hx hbS hrS
    go_wp2
    (try simp only [Exit.inBlock, Exit.then])
    refine ret_nd1 rfl W.heap.size _ rfl (set8_blk _ _ _ _ _ _ _ _ _ _ HRS.out) rfl rfl ?_
    exact leaf_out hB hP hlr3 HG3.out HPS3.out HBX.out HPX.out (HAP.out.trans ((if_neg (show ¬ (1 : Int) = 9 by decide)).trans (congrArg (fun x => Ps.PR.ok x M f g) (show Ps.leafOf f _ = _ from (if_pos rfl)))))
  · have HFO := Lib.hid (folded_any HPS3.out (base := w3.heap.size) (Nat.le_refl _) out va vc HLR.out)
    have hcl : Ps.clsL cl = out := Ps.clsL_is HLS.out
    have HCL := Lib.hid hcl
    clear hcl
    go_wp2_with fail
    rw [HW3.out, HTB.out]
    refine HFO.out.mono ?_
    rintro e w5 ⟨fa, fc, rfl, hfl, hb35⟩
    have h35 := hb35.size
    go_wp2_with fail
    refine (set_any (base := w3.heap.size) w5 (by omega) _ fa fc hfl).mono ?_
    rintro e wS ⟨cs, rfl, hx, hb6⟩
    have hbS := hb35.trans (hb6.mono hb35.size)
    clear hb6 hfl hb35
    rw [← HCL.out] at hx
    have HPX := Lib.hid hx
    have HBX := Lib.hid hbS
    obtain ⟨u0, u1, u2, u3, u4, u5, u6, u7, sa, sc, ia, ic, hcs, F⟩ := hx.is.form_of
    subst hcs
    obtain ⟨rfl, rfl, rfl, rfl, rfl, rfl, rfl, rfl⟩ := F
    have hrS := (hbS.block _ hlr3).trans HR3.out
    have HRS := Lib.hid hrS
    obtain ⟨d0, d1, d2, d3, d4, d5, d6, d7, g0, g1, g2, g3, g4, g5, g6, g7⟩ := box_facts hrS
    clear hx hbS hrS
    go_wp2
    (try simp only [Exit.inBlock, Exit.then])
    refine ret_nd1 rfl W.heap.size _ rfl (set8_blk _ _ _ _ _ _ _ _ _ _ HRS.out) rfl rfl ?_
    exact leaf_out hB hP hlr3 HG3.out HPS3.out HBX.out HPX.out (HAP.out.trans ((if_neg (show ¬ (2 : Int) = 9 by decide)).trans (congrArg (fun x => Ps.PR.ok x M f g) (show Ps.leafOf f _ = _ from ((if_neg (show ¬ (2 : Int) = 1 by decide)).trans (if_pos rfl))))))
  · have HFO := Lib.hid (dot_any HPS3.out (base := w3.heap.size) (Nat.le_refl _))
    go_wp2_with fail
    rw [HW3.out, HTB.out]
    refine HFO.out.mono ?_
    rintro e w5 ⟨fa, fc, rfl, hfl, hb35⟩
    have h35 := hb35.size
    go_wp2_with fail
    refine (set_any (base := w3.heap.size) w5 (by omega) _ fa fc hfl).mono ?_
    rintro e wS ⟨cs, rfl, hx, hb6⟩
    have hbS := hb35.trans (hb6.mono hb35.size)
    clear hb6 hfl hb35
    have HPX := Lib.hid hx
    have HBX := Lib.hid hbS
    obtain ⟨u0, u1, u2, u3, u4, u5, u6, u7, sa, sc, ia, ic, hcs, F⟩ := hx.is.form_of
    subst hcs
    obtain ⟨rfl, rfl, rfl, rfl, rfl, rfl, rfl, rfl⟩ := F
    have hrS := (hbS.block _ hlr3).trans HR3.out
    have HRS := Lib.hid hrS
    obtain ⟨d0, d1, d2, d3, d4, d5, d6, d7, g0, g1, g2, g3, g4, g5, g6, g7⟩ := box_facts hrS
    clear hx hbS hrS
    go_wp2
    (try simp only [Exit.inBlock, Exit.then])
    refine ret_nd1 rfl W.heap.size _ rfl (set8_blk _ _ _ _ _ _ _ _ _ _ HRS.out) rfl rfl ?_
    exact leaf_out hB hP hlr3 HG3.out HPS3.out HBX.out HPX.out (HAP.out.trans ((if_neg (show ¬ (3 : Int) = 9 by decide)).trans (congrArg (fun x => Ps.PR.ok x M f g) (show Ps.leafOf f _ = _ from ((if_neg (show ¬ (3 : Int) = 1 by decide)).trans ((if_neg (show ¬ (3 : Int) = 2 by decide)).trans (if_pos rfl)))))))
  · skip
    have hD := fun o : Obj => box_facts (heap_alloc_oldp (x := o) HR2.out)
    have d0 := fun o => (hD o).1
    have d1 := fun o => (hD o).2.1
    have d2 := fun o => (hD o).2.2.1
    have d3 := fun o => (hD o).2.2.2.1
    have d4 := fun o => (hD o).2.2.2.2.1
    have d5 := fun o => (hD o).2.2.2.2.2.1
    have d6 := fun o => (hD o).2.2.2.2.2.2.1
    have d7 := fun o => (hD o).2.2.2.2.2.2.2.1
    have g0 := fun o => (hD o).2.2.2.2.2.2.2.2.1
    have g1 := fun o => (hD o).2.2.2.2.2.2.2.2.2.1
    have g2 := fun o => (hD o).2.2.2.2.2.2.2.2.2.2.1
    have g3 := fun o => (hD o).2.2.2.2.2.2.2.2.2.2.2.1
    have g4 := fun o => (hD o).2.2.2.2.2.2.2.2.2.2.2.2.1
    have g5 := fun o => (hD o).2.2.2.2.2.2.2.2.2.2.2.2.2.1
    have g6 := fun o => (hD o).2.2.2.2.2.2.2.2.2.2.2.2.2.2.1
    have g7 := fun o => (hD o).2.2.2.2.2.2.2.2.2.2.2.2.2.2.2
    clear hD
    go_wp2
    rw [HW3.out]
    (try simp only [Exit.inBlock, Exit.then])
    refine ret_nd1 rfl W.heap.size _ rfl (set8_blk _ _ _ _ _ _ _ _ _ _ HR3.out) rfl rfl ?_
    exact leaf_out (x := Ps.leafN 4 0) hB hP hlr3 HG3.out HPS3.out (Below.refl _ _) (.mk (fun _ => []) ⟨i64_lit _ (by decide), i64_lit _ (by decide), i64_lit _ (by decide), i64_lit _ (by decide)⟩ RRowOn.nil (by decide) (by decide) (fun j hj => absurd hj (by simp)) (fun j hj => absurd hj (by simp))) (HAP.out.trans ((if_neg (show ¬ (4 : Int) = 9 by decide)).trans (congrArg (fun x => Ps.PR.ok x M f g) (show Ps.leafOf f _ = _ from ((if_neg (show ¬ (4 : Int) = 1 by decide)).trans ((if_neg (show ¬ (4 : Int) = 2 by decide)).trans ((if_neg (show ¬ (4 : Int) = 3 by decide)).trans (if_pos rfl))))))))
  · have HAS := Lib.hid (assertion_any (lo := lo) (B := B) (P0 := P0) (base := w3.heap.size) w3 (Nat.le_refl _) num hnum)
    go_wp2_with fail
    rw [HW3.out, HTB.out]
    refine HAS.out.mono ?_
    rintro e wS ⟨cs, rfl, hx, hbS⟩
    have HPX := Lib.hid hx
    have HBX := Lib.hid hbS
    obtain ⟨u0, u1, u2, u3, u4, u5, u6, u7, sa, sc, ia, ic, hcs, F⟩ := hx.is.form_of
    subst hcs
    obtain ⟨rfl, rfl, rfl, rfl, rfl, rfl, rfl, rfl⟩ := F
    have hrS := (hbS.block _ hlr3).trans HR3.out
    have HRS := Lib.hid hrS
    obtain ⟨d0, d1, d2, d3, d4, d5, d6, d7, g0, g1, g2, g3, g4, g5, g6, g7⟩ := box_facts hrS
    clear hx hbS hrS
    go_wp2
    (try simp only [Exit.inBlock, Exit.then])
    refine ret_nd1 rfl W.heap.size _ rfl (set8_blk _ _ _ _ _ _ _ _ _ _ HRS.out) rfl rfl ?_
    exact leaf_out hB hP hlr3 HG3.out HPS3.out HBX.out HPX.out (HAP.out.trans ((if_neg (show ¬ (5 : Int) = 9 by decide)).trans (congrArg (fun x => Ps.PR.ok x M f g) (show Ps.leafOf f _ = _ from ((if_neg (show ¬ (5 : Int) = 1 by decide)).trans ((if_neg (show ¬ (5 : Int) = 2 by decide)).trans ((if_neg (show ¬ (5 : Int) = 3 by decide)).trans ((if_neg (show ¬ (5 : Int) = 4 by decide)).trans (if_pos rfl)))))))))
  · have HLO := Lib.hid (lineOr_any HPS3.out 3 1)
    have hiq : I64 (if Ps.hasP f 2 then 3 else 1) := by split <;> exact i64_lit _ (by decide)
    have HAS := Lib.hid (assertion_any (lo := lo) (B := B) (P0 := P0) (base := w3.heap.size) w3 (Nat.le_refl _) _ hiq)
    clear hiq
    obtain ⟨q, hq⟩ : ∃ q : Int, (if Ps.hasP f 2 then 3 else 1) = q := ⟨_, rfl⟩
    rw [hq] at HLO HAS
    have HQ := Lib.hid hq
    clear hq
    go_wp2_with fail
    rw [HW3.out, HTB.out]
    refine HLO.out.mono ?_
    rintro e w5 ⟨rfl, rfl⟩
    go_wp2_with fail
    refine HAS.out.mono ?_
    rintro e wS ⟨cs, rfl, hx, hbS⟩
    have HPX := Lib.hid hx
    have HBX := Lib.hid hbS
    obtain ⟨u0, u1, u2, u3, u4, u5, u6, u7, sa, sc, ia, ic, hcs, F⟩ := hx.is.form_of
    subst hcs
    obtain ⟨rfl, rfl, rfl, rfl, rfl, rfl, rfl, rfl⟩ := F
    have hrS := (hbS.block _ hlr3).trans HR3.out
    have HRS := Lib.hid hrS
    obtain ⟨d0, d1, d2, d3, d4, d5, d6, d7, g0, g1, g2, g3, g4, g5, g6, g7⟩ := box_facts hrS
    clear hx hbS hrS
    go_wp2
    (try simp only [Exit.inBlock, Exit.then])
    refine ret_nd1 rfl W.heap.size _ rfl (set8_blk _ _ _ _ _ _ _ _ _ _ HRS.out) rfl rfl ?_
    exact leaf_out hB hP hlr3 HG3.out HPS3.out HBX.out HPX.out (HAP.out.trans ((if_neg (show ¬ (6 : Int) = 9 by decide)).trans (congrArg (fun x => Ps.PR.ok x M f g) (Eq.trans (show Ps.leafOf f _ = _ from ((if_neg (show ¬ (6 : Int) = 1 by decide)).trans ((if_neg (show ¬ (6 : Int) = 2 by decide)).trans ((if_neg (show ¬ (6 : Int) = 3 by decide)).trans ((if_neg (show ¬ (6 : Int) = 4 by decide)).trans ((if_neg (show ¬ (6 : Int) = 5 by decide)).trans (if_pos rfl))))))) ((congrArg (Ps.leafN 5) HQ.out))))))
  · have HLO := Lib.hid (lineOr_any HPS3.out 4 2)
    have hiq : I64 (if Ps.hasP f 2 then 4 else 2) := by split <;> exact i64_lit _ (by decide)
    have HAS := Lib.hid (assertion_any (lo := lo) (B := B) (P0 := P0) (base := w3.heap.size) w3 (Nat.le_refl _) _ hiq)
    clear hiq
    obtain ⟨q, hq⟩ : ∃ q : Int, (if Ps.hasP f 2 then 4 else 2) = q := ⟨_, rfl⟩
    rw [hq] at HLO HAS
    have HQ := Lib.hid hq
    clear hq
    go_wp2_with fail
    rw [HW3.out, HTB.out]
    refine HLO.out.mono ?_
    rintro e w5 ⟨rfl, rfl⟩
    go_wp2_with fail
    refine HAS.out.mono ?_
    rintro e wS ⟨cs, rfl, hx, hbS⟩
    have HPX := Lib.hid hx
    have HBX := Lib.hid hbS
    obtain ⟨u0, u1, u2, u3, u4, u5, u6, u7, sa, sc, ia, ic, hcs, F⟩ := hx.is.form_of
    subst hcs
    obtain ⟨rfl, rfl, rfl, rfl, rfl, rfl, rfl, rfl⟩ := F
    have hrS := (hbS.block _ hlr3).trans HR3.out
    have HRS := Lib.hid hrS
    obtain ⟨d0, d1, d2, d3, d4, d5, d6, d7, g0, g1, g2, g3, g4, g5, g6, g7⟩ := box_facts hrS
    clear hx hbS hrS
    go_wp2
    (try simp only [Exit.inBlock, Exit.then])
    refine ret_nd1 rfl W.heap.size _ rfl (set8_blk _ _ _ _ _ _ _ _ _ _ HRS.out) rfl rfl ?_
    exact leaf_out hB hP hlr3 HG3.out HPS3.out HBX.out HPX.out (HAP.out.trans ((if_neg (show ¬ (7 : Int) = 9 by decide)).trans (congrArg (fun x => Ps.PR.ok x M f g) (Eq.trans (show Ps.leafOf f _ = _ from ((if_neg (show ¬ (7 : Int) = 1 by decide)).trans ((if_neg (show ¬ (7 : Int) = 2 by decide)).trans ((if_neg (show ¬ (7 : Int) = 3 by decide)).trans ((if_neg (show ¬ (7 : Int) = 4 by decide)).trans ((if_neg (show ¬ (7 : Int) = 5 by decide)).trans ((if_neg (show ¬ (7 : Int) = 6 by decide)).trans (if_pos rfl)))))))) ((congrArg (Ps.leafN 5) HQ.out))))))
  · have HGP := Lib.hid (group_any W0 k HI.out m HPS3.out HEV.out hkM hnM HTOK.out rfl hgM va out.length vc)
    have HAP9 := Lib.hid (HAP.out.trans (if_pos rfl))
    obtain ⟨R, hR⟩ : ∃ R, groupR m (at_, { kind := 9, num := num, name := nm, mn := mn, mx := mx, lazy := lz, cls := cl }) M f g = R := ⟨_, rfl⟩
    rw [hR] at HGP HAP9
    clear hR
    go_wp2_with fail
    rw [HW3.out, HTB.out]
    refine HGP.out.mono ?_
    rintro e w5 ⟨hg35, h5⟩
    rcases h5 with ⟨ba, bc, rfl, rfl⟩ | ⟨x, L', f', g', cs, v5, rfl, rfl, hx, hps5⟩
    · exact ⟨rfl, grown_trans HG3.out hg35, .inl ⟨ba, bc, HAP9.out, rfl⟩⟩
    · have HPX := Lib.hid hx
      have HP5 := Lib.hid hps5
      have HG5 := Lib.hid (grown_trans HG3.out hg35)
      obtain ⟨u0, u1, u2, u3, u4, u5, u6, u7, sa, sc, ia, ic, hcs, F⟩ := hx.is.form_of
      subst hcs
      obtain ⟨rfl, rfl, rfl, rfl, rfl, rfl, rfl, rfl⟩ := F
      have hrS := box_gr HR3.out hg35 hrB
      have HRS := Lib.hid hrS
      obtain ⟨d0, d1, d2, d3, d4, d5, d6, d7, g0, g1, g2, g3, g4, g5, g6, g7⟩ := box_facts hrS
      clear hx hps5 hg35 hrS
      go_wp2
      (try simp only [Exit.inBlock, Exit.then])
      refine ret_nd1 rfl W.heap.size _ rfl (set8_blk _ _ _ _ _ _ _ _ _ _ HRS.out) rfl rfl ?_
      refine ⟨set8_grown HG5.out _ (Nat.le_refl _) _ _ _ _ _ _ _ _, .inr ⟨x, L', f', g', _, v5, HAP9.out, rfl, NdP.lower (base := w3.heap.size) (by omega) (HPX.out.to (by rw [set8_size]; exact Nat.le_refl _) (fun b hbb hlt => set8_other _ _ _ _ _ _ _ _ _ _ b (by rcases hbb with h | h <;> omega))), HP5.out.other (by rw [set8_size]; exact Nat.le_refl _) (fun b hbb => set8_other _ _ _ _ _ _ _ _ _ _ b (by omega))⟩⟩
  · obtain ⟨c0, c1, c2, z0, z1, z2⟩ := HPS3.out.cells
    obtain ⟨Ys, yn, hbk⟩ := h13 rfl
    have HBR := Lib.hid (fun w (hw : Ev w) => brkt_any (lo := lo) (B := B) (P0 := P0) (base := w3.heap.size) w nm hnm f hw ⟨Ys, yn, hbk⟩)
    have hgd : w3.grownBy w3.drew (some B) := grown_drew (grown_refl _ _)
    have HED := Lib.hid (HEV.out.grown hgd).ev
    clear hbk h13 hgd
    go_wp2_with fail
    rw [HW3.out, HTB.out]
    go_region_with (go_at_call 101; refine (HBR.out _ HED.out (Nat.le_refl _)).mono ?_; rintro e w5 ⟨fa, fc, out5, at5, rfl, hfl, hbl, hb35'⟩)
    all_goals
      have hb35 : Below w3.heap.size w3 w5 := ((Below.refl _ w3).grown (grown_drew (grown_refl w3 none)) (Nat.le_refl _) (fun k e => by cases e)).trans hb35'
      have HBL := Lib.hid hbl
      have h35 := hb35.size
      clear hbl hb35' c0 c1 c2 z0 z1 z2
      go_wp2_with fail
      refine (set_any (base := w3.heap.size) w5 (by omega) _ fa fc hfl).mono ?_
      rintro e wS ⟨cs, rfl, hx, hb6⟩
      have hbS := hb35.trans (hb6.mono hb35.size)
      clear hb6 hfl hb35
      rw [← HBL.out] at hx
      have HPX := Lib.hid hx
      have HBX := Lib.hid hbS
      obtain ⟨u0, u1, u2, u3, u4, u5, u6, u7, sa, sc, ia, ic, hcs, F⟩ := hx.is.form_of
      subst hcs
      obtain ⟨rfl, rfl, rfl, rfl, rfl, rfl, rfl, rfl⟩ := F
      have hrS := (hbS.block _ hlr3).trans HR3.out
      have HRS := Lib.hid hrS
      obtain ⟨d0, d1, d2, d3, d4, d5, d6, d7, g0, g1, g2, g3, g4, g5, g6, g7⟩ := box_facts hrS
      clear hx hbS hrS
      go_wp2
      (try simp only [Exit.inBlock, Exit.then])
      refine ret_nd1 rfl W.heap.size _ rfl (set8_blk _ _ _ _ _ _ _ _ _ _ HRS.out) rfl rfl ?_
      exact leaf_out hB hP hlr3 HG3.out HPS3.out HBX.out HPX.out (HAP.out.trans ((if_neg (show ¬ (13 : Int) = 9 by decide)).trans (congrArg (fun x => Ps.PR.ok x M f g) (show Ps.leafOf f _ = _ from ((if_neg (show ¬ (13 : Int) = 1 by decide)).trans ((if_neg (show ¬ (13 : Int) = 2 by decide)).trans ((if_neg (show ¬ (13 : Int) = 3 by decide)).trans ((if_neg (show ¬ (13 : Int) = 4 by decide)).trans ((if_neg (show ¬ (13 : Int) = 5 by decide)).trans ((if_neg (show ¬ (13 : Int) = 6 by decide)).trans ((if_neg (show ¬ (13 : Int) = 7 by decide)).trans rfl)))))))))))
end Go.Proofs.YtdcielcniboloaaGreatDoor
namespace Go.Proofs.YtdcielcniboloaaGreatDoor
open Go.RowKit
open Lx (Tk)
open Ps (TL)
set_option linter.unusedVariables false
/-- How many tokens are left, as the parser's box says. -/
def restLen (B : Nat) (w : World) : Nat := match w.cell? ⟨B, 0, none⟩ with
  | some (.slice _ n _) => n
  | _ => 0
theorem PSt.restLen {w : World} {lo B P0 : Nat} {v : Value} {L : TL} {f g : Int} (h : PSt lo w B P0 v L f g) : restLen B w = L.length := by
  obtain ⟨b, o0, cap, rfl, _⟩ := h.row
  unfold Go.Proofs.YtdcielcniboloaaGreatDoor.restLen
  rw [h.cells.1]
theorem grown_belowP {W w w' : World} {o : Option Nat} {base : Nat} (h : W.grownBy w o) (hb : Below base w w') (hs : W.heap.size ≤ base) : W.grownBy w' o :=
  ⟨hb.os.trans h.os, hb.tape.trans h.tape, hb.output.trans h.output, Nat.le_trans h.size hb.size, fun b hbb hne => (hb.block b (by omega)).trans (h.block b hbb hne)⟩
/-- A tree, written into the result's box. -/
theorem tree_out {lo B P0 base : Nat} {W w2 wS : World} {x : Nd} {u0 u1 u2 u3 u4 u5 u6 u7 : Value} {R : Ps.PR} {M : TL} {f g : Int} {v' : Value} (hB : B < P0) (hP : P0 ≤ W.heap.size) (h2 : W.heap.size < base) (hg2 : W.grownBy w2 (some B)) (hps : PSt lo w2 B P0 v' M f g) (hb : Below w2.heap.size w2 wS)
    (hx : NdP lo B P0 base wS x [u0, u1, u2, u3, u4, u5, u6, u7]) (hR : R = .ok x M f g) :
    ParQ lo B P0 R W (.returned (.agg #[u0, u1, u2, u3, u4, u5, u6, u7])) ((((((((wS.setCell ⟨W.heap.size, 0, none⟩ u0).setCell ⟨W.heap.size, 1, none⟩ u1).setCell ⟨W.heap.size, 2, none⟩ u2).setCell ⟨W.heap.size, 3, none⟩ u3).setCell ⟨W.heap.size, 4, none⟩ u4).setCell ⟨W.heap.size, 5, none⟩ u5).setCell ⟨W.heap.size, 6, none⟩ u6).setCell ⟨W.heap.size, 7, none⟩ u7) := by
  refine ⟨set8_grown (grown_trans hg2 (below_grown (n := 0) hb _)) _ (Nat.le_refl _) _ _ _ _ _ _ _ _, .inr ⟨x, M, f, g, _, v', hR, rfl, NdP.lower (base := base) (by omega) (hx.to (by rw [set8_size]; exact Nat.le_refl _) (fun b hbb hlt => set8_other _ _ _ _ _ _ _ _ _ _ b (by rcases hbb with h | h <;> omega))), (hps.below hb).other (by rw [set8_size]; exact Nat.le_refl _) (fun b hbb => set8_other _ _ _ _ _ _ _ _ _ _ b (by omega))⟩⟩
set_option maxRecDepth 100000 in
set_option maxHeartbeats 16000000 in
theorem seq_any (W0 : World) (k : Nat) (ih : AltOK W0 k) {W : World} {lo B P0 : Nat} {v : Value} {L : TL} {f g : Int} (n : Nat) (h : PSt lo W B P0 v L f g) (hE : PEv W0 B W) (hk : L.length ≤ k + 1) (hn : 3 * L.length + 2 ≤ n) :
    Calls Tryz.prog 83 #[.pointer (some ⟨B, 0, none⟩)] W (ParQ lo B P0 (Ps.seqP n L f g []) W) := by
  obtain ⟨R, hR⟩ : ∃ R, Ps.seqP n L f g [] = R := ⟨_, rfl⟩
  rw [hR]
  obtain ⟨w1, hw1⟩ : ∃ w1, W.alloc (.cells #[.int .i64 0, .slice none 0 0, .int .i64 0, .string ⟨#[]⟩, .int .i64 0, .int .i64 0, .bool false, .slice none 0 0] 26) = w1 := ⟨_, rfl⟩
  have hb1 : Below W.heap.size W w1 := by rw [← hw1]; exact (Below.refl _ _).alloc (Nat.le_refl _) _
  have hres : w1.heap[W.heap.size]? = some (.cells #[.int .i64 0, .slice none 0 0, .int .i64 0, .string ⟨#[]⟩, .int .i64 0, .int .i64 0, .bool false, .slice none 0 0] 26 (0, 0)) := by rw [← hw1]; exact heap_alloc_new _ _
  have hs1 : w1.heap.size = W.heap.size + 1 := by rw [← hw1]; simp
  have hB := h.hB
  have hP := h.hP
  have hLen := h.len
  have HS := Lib.hid h
  have HI := Lib.hid ih
  have HE := Lib.hid hE
  have HRR := Lib.hid hR
  have HB1 := Lib.hid hb1
  have HR1 := Lib.hid hres
  have HW1 := Lib.hid hw1
  have HS1 := Lib.hid hs1
  have hrB : W.heap.size ≠ B := by omega
  clear h ih hE hR hb1 hres hw1 hs1
  go_enter Tryz.func83, Tryz.ntmps83
  go_wp2
  rw [HW1.out]
  have hbase : P0 ≤ w1.heap.size := by have := HS1.out; omega
  go_loopw [3] (fun V wr => ∃ (n' : Nat) (L' : TL) (f' g' : Int) (A : List Nd) (v' va : Value), va = V ∧ Hid (Ps.seqP n' L' f' g' A = R) ∧ Hid (PSt lo wr B P0 v' L' f' g') ∧ Hid (NdOwn lo B P0 wr w1.heap.size va A) ∧ Hid (W.grownBy wr (some B)) ∧
    Hid (wr.heap[W.heap.size]? = some (.cells #[.int .i64 0, .slice none 0 0, .int .i64 0, .string ⟨#[]⟩, .int .i64 0, .int .i64 0, .bool false, .slice none 0 0] 26 (0, 0))) ∧ Hid (w1.heap.size ≤ wr.heap.size) ∧ L'.length ≤ k + 1 ∧ 3 * L'.length + 2 ≤ n' ∧ A.length + L'.length ≤ 200000) (fun V wr => restLen B wr)
  case atStart => exact ⟨n, L, f, g, [], v, _, rfl, HRR, Lib.hid (HS.out.below HB1.out), Lib.hid (NdOwn.nil _ _ _ _ _), Lib.hid (below_grown (n := 0) HB1.out _), HR1, Lib.hid (Nat.le_refl _), hk, hn, by simpa using hLen⟩
  case round =>
    obtain ⟨n', L', f', g', A, v', V, rfl, HRS, HPS, HOW, HG, HRB, HSZ, hk', hn', hA⟩ := hrel
    obtain ⟨m, rfl⟩ : ∃ m, n' = m + 1 := ⟨n' - 1, by omega⟩
    have HM := Lib.hid HPS.out.restLen
    have HK := Lib.hid (kind_any HPS.out)
    have hkd := HPS.out.ends.kd
    have hEq := Ps.seqP_eq m L' f' g' A
    rw [HRS.out] at hEq
    by_cases hstop : Ps.kd L' = 12 ∨ Ps.kd L' = 11 ∨ Ps.kd L' = 0
    · rw [if_pos hstop] at hEq
      have HX := Lib.hid hEq
      have HJ := Lib.hid (join_any (base := w1.heap.size) wr HSZ.out 7 (i64_lit _ (by decide)) A V HOW.out (by omega))
      clear hEq
      rcases hstop with h | h | h
      all_goals
        rw [h] at HK
        clear h
        go_wp2_with fail
        refine HK.out.mono ?_
        rintro e w2 ⟨rfl, rfl⟩
        go_wp2_with fail
        refine HJ.out.mono ?_
        rintro e wS ⟨cs, rfl, hx, hbS⟩
        have HPX := Lib.hid hx
        have HBX := Lib.hid hbS
        obtain ⟨u0, u1, u2, u3, u4, u5, u6, u7, sa, sc, ia, ic, hcs, F⟩ := hx.is.form_of
        subst hcs
        obtain ⟨rfl, rfl, rfl, rfl, rfl, rfl, rfl, rfl⟩ := F
        have hrS := (hbS.block _ (Array.getElem?_eq_some_iff.1 HRB.out).1).trans HRB.out
        have HRS2 := Lib.hid hrS
        obtain ⟨d0, d1, d2, d3, d4, d5, d6, d7, g0, g1, g2, g3, g4, g5, g6, g7⟩ := box_facts hrS
        clear hx hbS hrS
        go_wp2
        (try simp only [Exit.inBlock, Exit.then])
        refine ret_nd1 rfl W.heap.size _ rfl (set8_blk _ _ _ _ _ _ _ _ _ _ HRS2.out) rfl rfl ?_
        exact tree_out hB hP (by have := HS1.out; omega) HG.out HPS.out HBX.out HPX.out HX.out
    rw [if_neg hstop] at hEq
    by_cases h8 : Ps.kd L' = 8
    · rw [if_pos h8] at hEq
      have HX := Lib.hid hEq
      have HAT := Lib.hid (at_any HPS.out)
      rw [h8] at HK
      clear hEq h8 hstop
      go_wp2_with fail
      refine HK.out.mono ?_
      rintro e w2 ⟨rfl, rfl⟩
      go_wp2_with fail
      refine HAT.out.mono ?_
      rintro e w2 ⟨rfl, rfl⟩
      go_wp2_with fail
      refine (fail_any _ _ _).mono ?_
      rintro e w7 ⟨rfl, hb7⟩
      exact ⟨rfl, grown_trans HG.out (below_grown (n := 0) hb7 _), .inl ⟨_, _, HX.out, rfl⟩⟩
    rw [if_neg h8] at hEq
    by_cases h10 : Ps.kd L' = 10
    · rw [if_pos h10] at hEq
      obtain ⟨p, M, rfl⟩ := HPS.out.cons
      have HX := Lib.hid hEq.symm
      have HNX := Lib.hid (next_any HPS.out (by have : p.2.kind = 10 := h10; omega))
      rw [h10] at HK
      have hkM : M.length ≤ k + 1 := by simp at hk'; omega
      have hnM : 3 * M.length + 2 ≤ m := by simp at hn'; omega
      have hAM : A.length + M.length ≤ 200000 := by simp at hA; omega
      clear hEq h10 hstop h8 hkd
      go_wp2_with fail
      refine HK.out.mono ?_
      rintro e w2 ⟨rfl, rfl⟩
      go_wp2_with fail
      refine HNX.out.mono ?_
      rintro e w3 ⟨va, vl, vc, out, v3, rfl, _, _, rfl, hps3, hg3⟩
      have HTN := Lib.hid (turn_any hps3 p.1 p.2 va out.length vc)
      have HG3 := Lib.hid hg3
      clear hps3 hg3
      go_wp2_with fail
      refine HTN.out.mono ?_
      rintro e w4 ⟨rfl, hps4, hg4⟩
      have hg34 := grown_trans HG3.out hg4
      have HPS4 := Lib.hid hps4
      have HG4 := Lib.hid (grown_trans HG.out hg34)
      have HOW4 := Lib.hid (HOW.out.grown hB hbase hg34)
      have HRB4 := Lib.hid (box_gr HRB.out hg34 hrB)
      have HSZ4 := Lib.hid (Nat.le_trans HSZ.out hg34.size)
      clear hps4 hg4 hg34
      go_wp2
      go_roundw
      case rel => exact ⟨m, M, _, g', A, _, _, rfl, HX, HPS4, HOW4, HG4, HRB4, HSZ4, hkM, hnM, hAM⟩
      case measure => rw [HM.out, HPS4.out.restLen]; simp
    rw [if_neg h10] at hEq
    have hkd2 : Ps.kd L' = 1 ∨ Ps.kd L' = 2 ∨ Ps.kd L' = 3 ∨ Ps.kd L' = 4 ∨ Ps.kd L' = 5 ∨ Ps.kd L' = 6 ∨ Ps.kd L' = 7 ∨ Ps.kd L' = 9 ∨ Ps.kd L' = 13 := by omega
    have HAT := Lib.hid (atom_any W0 k HI.out m HPS.out (HE.out.grown HG.out) hk' (by omega) hkd2)
    have hsf := (Ps.sf_all m).2.2 L' f' g'
    have hne0 : Ps.kd L' ≠ 0 := by omega
    obtain ⟨K, hK⟩ : ∃ K, Ps.kd L' = K := ⟨_, rfl⟩
    have HKK := Lib.hid hK
    rw [hK] at HK hstop h8 h10
    have e1 : (K == 12) = false := by rw [beq_eq_false_iff_ne]; omega
    have e2 : (K == 11) = false := by rw [beq_eq_false_iff_ne]; omega
    have e3 : (K == 0) = false := by rw [beq_eq_false_iff_ne]; omega
    have e4 : (K == 8) = false := by rw [beq_eq_false_iff_ne]; omega
    have e5 : (K == 10) = false := by rw [beq_eq_false_iff_ne]; omega
    obtain ⟨RA, hRA⟩ : ∃ RA, Ps.atomP m L' f' g' = RA := ⟨_, rfl⟩
    rw [hRA] at hEq HAT hsf
    have HEQ := Lib.hid hEq
    have HSF := Lib.hid hsf.2
    have HN0 := Lib.hid hne0
    clear hEq hsf hRA hstop h8 h10 hkd hkd2 hK hne0
    go_wp2_with fail
    refine HK.out.mono ?_
    rintro e w2 ⟨rfl, rfl⟩
    go_wp2_with fail
    refine HAT.out.mono ?_
    rintro e w3 ⟨hg3, h3⟩
    rcases h3 with ⟨ba, bc, rfl, rfl⟩ | ⟨x, L2, f2, g2, cs, v2, rfl, rfl, hx, hps3⟩
    · exact ⟨rfl, grown_trans HG.out hg3, .inl ⟨ba, bc, HEQ.out, rfl⟩⟩
    · have HG3 := Lib.hid hg3
      have HRP := Lib.hid (repeated_any hps3 hg3.size HPS.out.hP x cs hx)
      have hE2 := HEQ.out
      dsimp only at hE2
      obtain ⟨x', hx'⟩ : ∃ x', Ps.repN f2 x L2 = x' := ⟨_, rfl⟩
      rw [hx'] at HRP hE2
      have HE2 := Lib.hid hE2.symm
      have hsf2 := Ps.Sf.le (Ps.Sf.rep (HSF.out x L2 f2 g2 rfl))
      have hlt2 := Ps.len_tail HN0.out
      have hk2 : (Ps.repT L2).length < L'.length := by omega
      clear hx hps3 hg3 hE2 hx' hsf2 hlt2
      go_wp2_with fail
      refine HRP.out.mono ?_
      rintro e w4 ⟨cs4, v4, rfl, hx4, hps4, hg4⟩
      have hg24 := grown_trans HG3.out hg4
      obtain ⟨u0, u1, u2, u3, u4, u5, u6, u7, sa, sc, ia, ic, hcs, F⟩ := hx4.is.form_of
      subst hcs
      obtain ⟨rfl, rfl, rfl, rfl, rfl, rfl, rfl, rfl⟩ := F
      obtain ⟨X, hX⟩ : ∃ X : Obj, X = (.cells #[.int .i64 (Td.kind x'), .slice sa (Td.set x').length sc, .int .i64 (Td.num x'), .string (Td.name x'), .int .i64 (Td.mn x'), .int .i64 (Td.mx x'), .bool (Td.lazy x'), .slice ia (Td.subs x').length ic] 26) := ⟨_, rfl⟩
      obtain ⟨w5, hw5⟩ : ∃ w5, w4.alloc X = w5 := ⟨_, rfl⟩
      have hb5 : Below w4.heap.size w4 w5 := by rw [← hw5]; exact (Below.refl _ _).alloc (Nat.le_refl _) _
      have hnew : w5.heap[w4.heap.size]? = some X := by rw [← hw5]; exact heap_alloc_new _ _
      have how5 := (HOW.out.grown hB hbase hg24).grown hB hbase (below_grown (n := 0) hb5 (some B))
      have hlt := HOW.out.lt
      have hs24 := hg24.size
      have hs45 := hb5.size
      have hszr := HSZ.out
      rw [hX] at hnew
      obtain ⟨V2, w6, hrun, hown, hb6, hg6⟩ := append_nd w5 w1.heap.size V A how5 (by omega) (by omega) x' _ w4.heap.size (World.news_of_block hnew) (NdOn.mono (fun b hb => ⟨hb.1.lower hszr, hb.2, fun e => by
        have h9 := hlt b e
        rcases hb.1 with h | h <;> omega⟩) (hx4.to hb5.size (fun b _ hlt => hb5.block b hlt))) 1
      have HRUN := Lib.hid hrun
      have HOW6 := Lib.hid hown
      have HPS6 := Lib.hid ((hps4.below hb5).other hb6.size (fun b hb => hb6.block b (by omega)))
      have hg25 := grown_trans hg24 (below_grown (n := 0) hb5 (some B))
      have HG6 := Lib.hid (grown_belowP (grown_trans HG.out hg25) hb6 (by have := HS1.out; omega))
      have HRB6 := Lib.hid ((hb6.block _ (by have := HS1.out; omega)).trans (box_gr HRB.out hg25 hrB))
      have HSZ6 := Lib.hid (Nat.le_trans (Nat.le_trans hszr hg25.size) hb6.size)
      have HW5 := Lib.hid hw5
      have hkA : (A ++ [x']).length + (Ps.repT L2).length ≤ 200000 := by simp; omega
      have hnn : 3 * (Ps.repT L2).length + 2 ≤ m := by omega
      have hkk : (Ps.repT L2).length ≤ k + 1 := by omega
      subst hX
      clear hx4 hps4 hg4 hg24 hb5 hnew how5 hlt hrun hown hb6 hg6 hg25 hw5 hs24 hs45 hszr
      go_wp2_with (at_builtin; (try rw [HW5.out]); (refine wpList_append_run rfl _ _ 24 rfl _ _ _ w6 rfl rfl HRUN.out ?_))
      go_roundw
      case rel => exact ⟨m, Ps.repT L2, f2, g2, A ++ [x'], v4, _, rfl, HE2, HPS6, HOW6, HG6, HRB6, HSZ6, hkk, hnn, hkA⟩
      case measure => rw [HM.out, HPS6.out.restLen]; omega
end Go.Proofs.YtdcielcniboloaaGreatDoor
