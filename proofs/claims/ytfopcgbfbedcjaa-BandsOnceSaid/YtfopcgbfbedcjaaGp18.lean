/- The reference's bands (burinref05): the contract of Of. -/
import Derived.Test.YtfopcgbfbedcjaaGp17
import Derived.Test.YtfopcgbfbedcjaaGp4
namespace Go.Proofs.Ytfopcgbfbedcjaa
open Go.RowKit
set_option linter.unusedVariables false
/-- At a step of a region that draws its order: an append whose run is known. -/
theorem step_append_run {P : Program} {ops : Array Oper} {o : Oper} {a : Act} {w : World} {K : Act → World → Prop} {Q : Exit → Act → World → Prop} {E : Prop} (hgd : o.guard = none) (s x : Operand) (t : TypeId)
    (ho : o.op = .call { callee := .builtin .append, args := #[s, x], argTypes := #[t, t] }) (vs vx v' : Value) (w' : World) (hs : a.eval s = vs) (hx : a.eval x = vx)
    (hr : (Builtin.append_ #[t, t] o.type #[vs, vx]).run P w = .ok v' w') (h : K (a.put o.dst v') w') : if Region.wanted o (yielded ops a.tmps) = true then Oper.wp P o a w K Q else E := by
  rw [if_pos (by simp [Region.wanted, hgd])]
  unfold Oper.wp execOp
  simp only [ho, resolve, invoke, builtin, Sem.run_bind, Sem.run_pure, Result.andThen_ok, List.map_toArray, List.map_cons, List.map_nil, hs, hx, hr]
  exact h
theorem held_two {wr w w' : World} {A B : Addr} {va vb : Value} (hb : Below w.heap.size w w') (hw : w.heap.size = wr.heap.size) (hA : A.block < wr.heap.size) (hB : B.block < wr.heap.size)
    (h : w.cell? A = some va ∧ w.cell? B = some vb) : w'.cell? A = some va ∧ w'.cell? B = some vb :=
  ⟨(hb.cell (by omega)).trans h.1, (hb.cell (by omega)).trans h.2⟩
theorem QOwnU.isNil {W : World} {base : Nat} {v : Value} {us : List Value} (h : QOwnU W base v us []) : us = [] ∧ ∃ A c, v = .slice A 0 c := by
  have h0 : us = [] := List.eq_nil_of_length_eq_zero h.1
  subst h0
  rcases h.2.1.2 with ⟨rfl, _⟩ | ⟨g, cap, cur, rfl, _⟩
  · exact ⟨rfl, _, _, rfl⟩
  · exact ⟨rfl, _, _, rfl⟩
/-- What Of hands back. -/
def OfPost (l : List (Int × Int)) (W : World) (e : Ending) (w' : World) : Prop := ∃ B, Rg.Made 1 l [] B ∧ SeqPost (Bd.ofL B) W e w'
set_option maxRecDepth 100000 in
set_option maxHeartbeats 8000000 in
theorem refOf_any (W : World) (va : Value) (l : List (Int × Int)) (ha : RRow W va l) : Calls Try.prog 14 #[va] W (OfPost l W) := by
  have mixed : Try.prog.follows .mixedOrders = true := by kernel_rfl
  obtain ⟨i1, hi1, hy0, hy1, hy2⟩ := info_parts Try.infoSeq
  have HA := Lib.hid ha
  clear ha
  go_enter Try.func14, Try.ntmps14
  go_wp2_with fail
  refine (refNorm _ _ l HA.out).mono ?_
  rintro e w1 ⟨vm, B, rfl, hm, ho, hb⟩
  have HM := Lib.hid hm
  have HNB := Lib.hid hm.norm
  obtain ⟨ba, bc, rfl, hbl, hbw, hbc⟩ := ho.normRow hm.norm
  have hln := Rg.norm_len B 0 hm.norm (by omega)
  have HBC := Lib.hid hbc
  have D1 := Lib.hid hb
  obtain ⟨n, hn⟩ : ∃ n, B.length = n := ⟨_, rfl⟩
  have HN := Lib.hid hn
  rw [hn] at hbl HBC hln ⊢
  clear hm hbw hbc ho hb hn HA
  go_wp2
  go_loopw [3, 5] (fun V I wr => ∃ (k : Nat) (us : List Value), k ≤ n ∧ I = .int .i64 k ∧ Hid (QOwnU wr w1.heap.size V us (Bd.ofL (B.take k))) ∧ Hid (Below w1.heap.size w1 wr)) (fun _ I _ => n - (intOf I).toNat)
  case atStart => exact ⟨0, [], Nat.zero_le _, rfl, Lib.hid (by rw [List.take_zero]; exact QOwnU.nil), Lib.hid (Below.refl _ _)⟩
  case round =>
    obtain ⟨k, us, hk, rfl, HO, HB⟩ := hrel
    obtain ⟨wo, rfl⟩ : ∃ wo : World, wo = wr := ⟨_, rfl⟩
    have hsz := HB.out.size
    by_cases hlt : k < n
    · obtain ⟨g, off, rfl, hg, hc1, hc2⟩ := HBC.out k hlt
      rw [← HB.out.cell (p := ⟨g, off + k * 2, none⟩) hg] at hc1
      rw [← HB.out.cell (p := ⟨g, off + k * 2 + 1, none⟩) hg] at hc2
      obtain ⟨g1, g2, g3⟩ := Rg.norm_get HNB.out k (by rw [HN.out]; exact hlt)
      have hgw : g < wo.heap.size := by omega
      obtain ⟨p, hp⟩ : ∃ p, B[k]?.getD (0, 0) = p := ⟨_, rfl⟩
      have hsu := Bd.ofL_succ B k (by rw [HN.out]; exact hlt) p hp
      rw [hp] at hc1 hc2 g1 g2 g3
      clear hp
      obtain ⟨p1, p2⟩ := p
      dsimp only at hc1 hc2 g1 g2 g3 hsu
      have hlk := Bd.ofL_len B 0 k HNB.out (Int.le_refl 0) (by omega)
      have hls := Bd.splitL_len g1 g2 g3
      have HSP := Lib.hid (fun w' => refSplit_any w' p1 p2)
      obtain ⟨L2, hL2⟩ : ∃ L2, Bd.splitL p1 p2 = L2 := ⟨_, rfl⟩
      obtain ⟨L1, hL1⟩ : ∃ L1, Bd.ofL (B.take k) = L1 := ⟨_, rfl⟩
      rw [hL2] at hls HSP hsu
      rw [hL1] at hlk HO hsu
      have HSU := Lib.hid hsu
      clear hL2 hL1 hsu
      have k0 : (0 : Int) ≤ (k : Int) := by omega
      have k1 : (k : Int) < (n : Int) := by omega
      have hn1 := HO.out.1
      have HDR := Lib.hid (below_drewN (Below.refl wo.heap.size wo) 1)
      rcases Nat.eq_zero_or_pos L2.length with hz | hpos
      · have hz2 : L2 = [] := List.eq_nil_of_length_eq_zero hz
        subst hz2
        rw [List.append_nil] at HSU
        clear hz hls
        go_wp2
        have hs0 : wo.drew.cell? ⟨g, off + k * 2, none⟩ = some (.int .i64 p1) ∧ wo.drew.cell? ⟨g, off + k * 2 + 1, none⟩ = some (.int .i64 p2) := ⟨hc1, hc2⟩
        go_region_held3 (fun w' => w'.cell? ⟨g, off + k * 2, none⟩ = some (.int .i64 p1) ∧ w'.cell? ⟨g, off + k * 2 + 1, none⟩ = some (.int .i64 p2))
          (first | assumption | go_keep)
          (first
            | (go_at_call 12; refine (HSP.out _).mono ?_; rintro e w6 ⟨v2, us2, rfl, q2, hb2⟩; have hs6 := held_two (wr := wo) hb2 rfl hgw hgw hs0; obtain ⟨hu2, A2, c2, rfl⟩ := q2.isNil; have hq6 := (HO.out.below HDR.out).below hb2)
            | (refine step_append_run (by rfl) _ _ 26 (by rfl) u3 (.slice A2 0 c2) u3 w6 (by rfl) (by rfl) (run_append_nothing w1.heap.size 26 26 22 i1 1 Try.underlying26 hi1 u3 us.length us hq6.2.1 A2 c2) ?_))
        have HQ6 := Lib.hid hq6
        have HB6 := Lib.hid ((HB.out.trans (HDR.out.mono hsz)).trans (hb2.mono (by show w1.heap.size ≤ wo.heap.size; omega)))
        clear hq6 hb2 q2 hs6 hs0
        go_wp2
        go_roundw
        case rel => exact ⟨k + 1, us, by omega, by go_num, by rw [HSU.out]; exact HQ6, HB6⟩
        case measure => simp [intOf]; omega
      · have HNE : Hid (u3.ownBlock ≠ some g) := Lib.hid (fun e => by have := (HO.out.2.1.lt g e).1; omega)
        have HHO := Lib.hid (fun b (e : u3.ownBlock = some b) => (HO.out.2.1.lt b e).2)
        have HHI := Lib.hid (fun j (hj : j < us.length) b (e : (us[j]?.getD nilV).ownBlock = some b) => ((HO.out.2.2.1 j hj).lt e).2)
        have ub : us.length ≤ 1114113 := by omega
        clear hn1
        go_wp2
        have hs0 : wo.drew.cell? ⟨g, off + k * 2, none⟩ = some (.int .i64 p1) ∧ wo.drew.cell? ⟨g, off + k * 2 + 1, none⟩ = some (.int .i64 p2) := ⟨hc1, hc2⟩
        go_region_held3 (fun w' => w'.cell? ⟨g, off + k * 2, none⟩ = some (.int .i64 p1) ∧ w'.cell? ⟨g, off + k * 2 + 1, none⟩ = some (.int .i64 p2))
          (first | assumption | exact ⟨hgrow.cell (a := ⟨g, off + k * 2, none⟩) hs6.1 (Ne.symm HNE.out), hgrow.cell (a := ⟨g, off + k * 2 + 1, none⟩) hs6.2 (Ne.symm HNE.out)⟩)
          (first
            | (go_at_call 12; refine (HSP.out _).mono ?_; rintro e w6 ⟨v2, us2, rfl, q2, hb2⟩; have hs6 := held_two (wr := wo) hb2 rfl hgw hgw hs0; have hn2 := q2.1; obtain ⟨b, c, rfl, hnews, hcells⟩ := q2.news (by rw [hn2]; exact hpos); have hq6 := (HO.out.below HDR.out).below hb2; have hown := hq6.2.1; have hz6 := hb2.size; have hz7 : w1.heap.size ≤ w6.heap.size := Nat.le_trans hsz hz6)
            | (refine step_append_lies _ (by rfl) _ _ 26 (by rfl) w1.heap.size 22 i1 nilV 1 24 Try.underlying26 hi1 hy0 hy1 hy2 rfl (by decide) u3 us.length us (by rfl) hown ⟨b, 0, none⟩ L2.length c us2 (by rfl) (by omega) hnews hcells (by omega) (by unfold maxLen; omega) (by omega) hz7 w6.heap.size rfl ?_; intro gg cap1 wz hown1 hgrow hat hlt1))
        rw [← hn2] at hown1
        have hjn := QOwnU.join hq6 q2 hsz HHO.out HHI.out hown1 hgrow (hat.imp id (fun h => by omega))
        rw [← HSU.out, hn2] at hjn
        have HJN := Lib.hid hjn
        have HDZ := Lib.hid (((HB.out.trans (HDR.out.mono hsz)).trans (hb2.mono hsz)).grown hgrow hz7 (fun q hq => (hown.lt q hq).1))
        clear hjn hown1 hgrow hat hlt1 hown hnews hcells q2 hq6 hb2 hs6 hs0
        go_wp2
        go_roundw
        case rel => exact ⟨k + 1, _, by omega, by go_num, HJN, HDZ⟩
        case measure => simp [intOf]; omega
    · obtain rfl : k = n := by omega
      have hO := HO.out
      rw [List.take_of_length_le (by rw [HN.out]; exact Nat.le_refl _)] at hO
      have HO2 := Lib.hid (hO.lower D1.out.size)
      have HE := Lib.hid (D1.out.trans (HB.out.mono D1.out.size))
      clear hO
      go_wp2
      go_ret
      exact ⟨B, HM.out, _, us, rfl, HO2.out, HE.out⟩
end Go.Proofs.Ytfopcgbfbedcjaa
