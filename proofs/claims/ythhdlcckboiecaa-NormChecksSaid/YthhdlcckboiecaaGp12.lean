/- burinbook.SameNode: are two trees the same. · slices.Equal at lists of ranges. -/
import Derived.Test.YthhdlcckboiecaaGp3
import Derived.Test.YthhdlcckboiecaaGp1
import Derived.Test.YthhdlcckboiecaaGp11
import Derived.IntWalk
import Derived.BigQuiet
namespace Go.Proofs.Ythhdlcckboiecaa
open Go.RowKit
set_option linter.unusedVariables false
namespace Td
/-- The fields but the parts are the same, and there are as many parts. -/
def same1 (a b : Nd) : Bool :=
  (kind a == kind b) && ((num a == num b) && (((name a).toList == (name b).toList) && ((mn a == mn b) && ((mx a == mx b) && ((lazy a == lazy b) && (decide (set a = set b) && (((subs a).length : Int) == ((subs b).length : Int))))))))
def sameB : Nat → Nd → Nd → Bool
  | 0, _, _ => false
  | k + 1, a, b => same1 a b && ((subs a).zip (subs b)).all fun p => sameB k p.1 p.2
end Td
def SameOk (k : Nat) : Prop := ∀ (W : World) (n m : Nd) (cs ds : List Value), NdIs W n cs → NdIs W m ds → Calls Try.prog 14 #[.agg cs.toArray, .agg ds.toArray, .int .i64 (k : Int)] W fun e w' => e = .returned (.bool (Td.sameB k n m)) ∧ Below W.heap.size W w'
theorem all_snoc {l : List (Nd × Nd)} {f : Nd × Nd → Bool} {i : Nat} {x : Nd × Nd} (hx : l[i]? = some x) (h : (l.take i).all f = true) : (l.take (i + 1)).all f = f x := by
  obtain ⟨hi, e⟩ := List.getElem?_eq_some_iff.1 hx
  rw [List.take_succ_eq_append_getElem hi, List.all_append, h, e]
  simp
theorem all_no {l : List (Nd × Nd)} {f : Nd × Nd → Bool} {i : Nat} {x : Nd × Nd} (hx : l[i]? = some x) (h : f x = false) : l.all f = false := by
  rw [List.all_eq_false]
  exact ⟨x, List.mem_of_getElem? hx, by rw [h]; decide⟩
set_option maxRecDepth 100000 in
set_option maxHeartbeats 16000000 in
theorem same_step (k M : Nat) (hM : M = k + 1) (hk : k ≤ 100000) (ih : SameOk k) : SameOk M := by
  intro W n m cs ds h h'
  have mixed : Try.prog.follows .mixedOrders = true := by kernel_rfl
  have hM1 : (M : Int) - 1 = (k : Int) := by omega
  have hM0 : ((M : Int) == 0) = false := by rw [beq_eq_false_iff_ne]; omega
  have hwk : IntKind.i64.wrap (k : Int) = (k : Int) := by rw [IntKind.wrap_i64]; omega
  have hMn : (M == 0) = false := by rw [beq_eq_false_iff_ne]; omega
  have hMz : ¬ M = 0 := by omega
  obtain ⟨vs, aa, capa, C, hC⟩ := h.cells
  obtain ⟨ws, ab, capb, C', hC'⟩ := h'.cells
  have hcs := hC.eq
  have hds := hC'.eq
  have hla := hC.len
  have hlb := hC'.len
  have HSET := Lib.hid hC.set
  have HSET' := Lib.hid hC'.set
  have HSUB := Lib.hid hC.sub
  have HSUB' := Lib.hid hC'.sub
  obtain ⟨sa, sca, hvs, hsl, _, _⟩ := hC.set
  obtain ⟨sb, scb, hws, hsl', _, _⟩ := hC'.set
  subst hvs
  subst hws
  subst hcs
  subst hds
  obtain ⟨R, hR⟩ : ∃ R, Td.sameB M n m = R := ⟨_, rfl⟩
  rw [hR]
  rw [hM, Td.sameB] at hR
  unfold Td.same1 at hR
  have HSS := Lib.hid (fun (w' : World) h1 h2 => same_rg w' (.slice sa (Td.set n).length sca) (.slice sb (Td.set m).length scb) (Td.set n) (Td.set m) h1 h2)
  have IH := Lib.hid ih
  obtain ⟨Z, hZ⟩ : ∃ Z, (((Td.subs n).zip (Td.subs m)).all fun p => Td.sameB k p.1 p.2) = Z := ⟨_, rfl⟩
  rw [hZ] at hR
  have HZ := Lib.hid hZ
  clear hZ h h' hC hC' ih hM
  obtain ⟨ka, eka⟩ : ∃ ka, Td.kind n = ka := ⟨_, rfl⟩
  obtain ⟨kb, ekb⟩ : ∃ kb, Td.kind m = kb := ⟨_, rfl⟩
  obtain ⟨ua, eua⟩ : ∃ ua, Td.num n = ua := ⟨_, rfl⟩
  obtain ⟨ub, eub⟩ : ∃ ub, Td.num m = ub := ⟨_, rfl⟩
  obtain ⟨na, ena⟩ : ∃ na, Td.name n = na := ⟨_, rfl⟩
  obtain ⟨nb, enb⟩ : ∃ nb, Td.name m = nb := ⟨_, rfl⟩
  obtain ⟨ma, ema⟩ : ∃ ma, Td.mn n = ma := ⟨_, rfl⟩
  obtain ⟨mb, emb⟩ : ∃ mb, Td.mn m = mb := ⟨_, rfl⟩
  obtain ⟨xa, exa⟩ : ∃ xa, Td.mx n = xa := ⟨_, rfl⟩
  obtain ⟨xb, exb⟩ : ∃ xb, Td.mx m = xb := ⟨_, rfl⟩
  obtain ⟨ya, eya⟩ : ∃ ya, Td.lazy n = ya := ⟨_, rfl⟩
  obtain ⟨yb, eyb⟩ : ∃ yb, Td.lazy m = yb := ⟨_, rfl⟩
  obtain ⟨La, eLa⟩ : ∃ La, (Td.subs n).length = La := ⟨_, rfl⟩
  obtain ⟨Lb, eLb⟩ : ∃ Lb, (Td.subs m).length = Lb := ⟨_, rfl⟩
  obtain ⟨Sa, eSa⟩ : ∃ Sa, (Td.set n).length = Sa := ⟨_, rfl⟩
  obtain ⟨Sb, eSb⟩ : ∃ Sb, (Td.set m).length = Sb := ⟨_, rfl⟩
  obtain ⟨t6, et6⟩ : ∃ t6, decide (Td.set n = Td.set m) = t6 := ⟨_, rfl⟩
  rw [eka, ekb, eua, eub, ena, enb, ema, emb, exa, exb, eya, eyb, eLa, eLb, et6] at hR
  rw [et6, eSa, eSb] at HSS
  rw [eSa] at HSET hsl
  rw [eSb] at HSET' hsl'
  rw [eLa] at hla HSUB
  rw [eLb] at hlb HSUB'
  rw [eka, ekb, eua, eub, ena, enb, ema, emb, exa, exb, eya, eyb, eLa, eLb, eSa, eSb]
  have HLA := Lib.hid eLa
  have HLB := Lib.hid eLb
  clear eka ekb eua eub ena enb ema emb exa exb eya eyb eLa eLb eSa eSb et6
  have HB2 : Hid (Below W.heap.size W ((W.alloc (.cells #[.int .i64 ka, .slice sa Sa sca, .int .i64 ua, .string na, .int .i64 ma, .int .i64 xa, .bool ya, .slice aa La capa] 25)).alloc (.cells #[.int .i64 kb, .slice sb Sb scb, .int .i64 ub, .string nb, .int .i64 mb, .int .i64 xb, .bool yb, .slice ab Lb capb] 25))) := Lib.hid (((Below.refl W.heap.size W).alloc (Nat.le_refl _) _).alloc (by simp) _)
  cases t0 : (ka == kb) with
  | false =>
    have HR : Hid (R = false) := Lib.hid (by rw [← hR]; simp [t0])
    clear hR
    have n0 : (ka != kb) = true := by rw [bne, t0]; rfl
    have z0 : ¬ ka = kb := beq_eq_false_iff_ne.1 t0
    go_enter Try.func14, Try.ntmps14
    go_wp2
    go_ret
    exact ⟨by rw [HR.out]; rfl, HB2.out⟩
  | true =>
    have e0 := beq_iff_eq.1 t0
    subst e0
    clear t0
    cases t1 : (ua == ub) with
    | false =>
      have HR : Hid (R = false) := Lib.hid (by rw [← hR]; simp [t1])
      clear hR
      have n1 : (ua != ub) = true := by rw [bne, t1]; rfl
      have z1 : ¬ ua = ub := beq_eq_false_iff_ne.1 t1
      go_enter Try.func14, Try.ntmps14
      go_wp2
      go_ret
      exact ⟨by rw [HR.out]; rfl, HB2.out⟩
    | true =>
      have e1 := beq_iff_eq.1 t1
      subst e1
      clear t1
      cases t2 : (na.toList == nb.toList) with
      | false =>
        have HR : Hid (R = false) := Lib.hid (by rw [← hR]; simp [t2])
        clear hR
        have n2 : (na.toList != nb.toList) = true := by rw [bne, t2]; rfl
        have z2 : ¬ na.toList = nb.toList := beq_eq_false_iff_ne.1 t2
        go_enter Try.func14, Try.ntmps14
        go_wp2
        go_ret
        exact ⟨by rw [HR.out]; rfl, HB2.out⟩
      | true =>
        have e2 : na = nb := by
          apply ByteArray.ext; apply Array.toList_inj.1
          rw [← ByteArray.toList_eq, ← ByteArray.toList_eq]; exact beq_iff_eq.1 t2
        subst e2
        clear t2
        cases t3 : (ma == mb) with
        | false =>
          have HR : Hid (R = false) := Lib.hid (by rw [← hR]; simp [t3])
          clear hR
          have n3 : (ma != mb) = true := by rw [bne, t3]; rfl
          have z3 : ¬ ma = mb := beq_eq_false_iff_ne.1 t3
          go_enter Try.func14, Try.ntmps14
          go_wp2
          go_ret
          exact ⟨by rw [HR.out]; rfl, HB2.out⟩
        | true =>
          have e3 := beq_iff_eq.1 t3
          subst e3
          clear t3
          cases t4 : (xa == xb) with
          | false =>
            have HR : Hid (R = false) := Lib.hid (by rw [← hR]; simp [t4])
            clear hR
            have n4 : (xa != xb) = true := by rw [bne, t4]; rfl
            have z4 : ¬ xa = xb := beq_eq_false_iff_ne.1 t4
            go_enter Try.func14, Try.ntmps14
            go_wp2
            go_ret
            exact ⟨by rw [HR.out]; rfl, HB2.out⟩
          | true =>
            have e4 := beq_iff_eq.1 t4
            subst e4
            clear t4
            have hy : (ya != yb) = !(ya == yb) := rfl
            cases t5 : (ya == yb) with
            | false =>
              have HR : Hid (R = false) := Lib.hid (by rw [← hR]; simp [t5])
              clear hR
              have n5 : (ya != yb) = true := by rw [bne, t5]; rfl
              have z5 : ¬ ya = yb := beq_eq_false_iff_ne.1 t5
              go_enter Try.func14, Try.ntmps14
              go_wp2
              go_ret
              exact ⟨by rw [HR.out]; rfl, HB2.out⟩
            | true =>
              have e5 := beq_iff_eq.1 t5
              subst e5
              clear t5
              cases t6 with
              | false =>
                have HR : Hid (R = false) := Lib.hid (by rw [← hR]; simp)
                clear hR
                go_enter Try.func14, Try.ntmps14
                go_wp2_with fail
                refine (HSS.out _ (HSET.out.below (Nat.le_refl _) HB2.out) (HSET'.out.below (Nat.le_refl _) HB2.out)).mono ?_
                rintro e w2 ⟨rfl, d, rfl⟩
                go_wp2
                go_ret
                exact ⟨by rw [HR.out]; rfl, below_drewNr HB2.out d⟩
              | true =>
                cases t7 : ((La : Int) == (Lb : Int)) with
                | false =>
                  have HR : Hid (R = false) := Lib.hid (by rw [← hR]; simp [t7])
                  clear hR
                  have n7 : ((La : Int) != (Lb : Int)) = true := by rw [bne, t7]; rfl
                  have z7 : ¬ (La : Int) = (Lb : Int) := beq_eq_false_iff_ne.1 t7
                  go_enter Try.func14, Try.ntmps14
                  go_wp2_with fail
                  refine (HSS.out _ (HSET.out.below (Nat.le_refl _) HB2.out) (HSET'.out.below (Nat.le_refl _) HB2.out)).mono ?_
                  rintro e w2 ⟨rfl, d, rfl⟩
                  go_wp2
                  go_ret
                  exact ⟨by rw [HR.out]; rfl, below_drewNr HB2.out d⟩
                | true =>
                  have HR : Hid (R = Z) := Lib.hid (by rw [← hR]; simp [t7])
                  have hL : La = Lb := by have := beq_iff_eq.1 t7; omega
                  clear hR
                  subst hL
                  have HLEN : Hid (((Td.subs n).zip (Td.subs m)).length = La) := Lib.hid (by rw [List.length_zip, HLA.out, HLB.out, Nat.min_self])
                  go_enter Try.func14, Try.ntmps14
                  go_wp2_with fail
                  refine (HSS.out _ (HSET.out.below (Nat.le_refl _) HB2.out) (HSET'.out.below (Nat.le_refl _) HB2.out)).mono ?_
                  rintro e w2 ⟨rfl, d, rfl⟩
                  obtain ⟨W2, hW2⟩ : ∃ W2, (W.alloc (.cells #[.int .i64 ka, .slice sa Sa sca, .int .i64 ua, .string na, .int .i64 ma, .int .i64 xa, .bool ya, .slice aa La capa] 25)).alloc (.cells #[.int .i64 ka, .slice sb Sb scb, .int .i64 ua, .string na, .int .i64 ma, .int .i64 xa, .bool ya, .slice ab La capb] 25) = W2 := ⟨_, rfl⟩
                  have hbx : W2.cell? ⟨W.heap.size, 7, none⟩ = some (.slice aa La capa) := by rw [← hW2]; simp
                  have hby : W2.cell? ⟨W.heap.size + 1, 7, none⟩ = some (.slice ab La capb) := by rw [← hW2]; simp
                  have hsz : W2.heap.size = W.heap.size + 2 := by rw [← hW2]; simp
                  rw [hW2] at HB2
                  have HBX := Lib.hid hbx
                  have HBY := Lib.hid hby
                  have HSZ := Lib.hid hsz
                  have HW2 := Lib.hid hW2
                  clear hbx hby hsz
                  clear hW2
                  go_wp2
                  go_loopw [7] (fun iv wr => ∃ i : Nat, i ≤ La ∧ iv = .int .i64 (i : Int) ∧ Hid ((((Td.subs n).zip (Td.subs m)).take i).all (fun p => Td.sameB k p.1 p.2) = true) ∧ Hid (Below W2.heap.size W2 wr)) (fun iv _ => La - (intOf iv).toNat)
                  case atStart => exact ⟨0, Nat.zero_le _, rfl, Lib.hid (by simp), Lib.hid (by rw [← HW2.out]; exact below_drewNr (Below.refl _ _) d)⟩
                  case round =>
                    obtain ⟨i, hi, rfl, HA, HB⟩ := hrel
                    have hws := HB.out.size
                    rw [HSZ.out] at hws
                    have hbx : wr.cell? ⟨W.heap.size, 7, none⟩ = some (.slice aa La capa) := (HB.out.cell (p := ⟨W.heap.size, 7, none⟩) (by rw [HSZ.out]; simp)).trans HBX.out
                    have hby : wr.cell? ⟨W.heap.size + 1, 7, none⟩ = some (.slice ab La capb) := (HB.out.cell (p := ⟨W.heap.size + 1, 7, none⟩) (by rw [HSZ.out]; simp)).trans HBY.out
                    by_cases hlt : i < La
                    · obtain ⟨b, off, x, u0, u1, u2, u3, u4, u5, u6, u7, rfl, hb, hm, hnd, q0, q1, q2, q3, q4, q5, q6, q7⟩ := HSUB.out i hlt
                      obtain ⟨b', off', x', v0, v1, v2, v3, v4, v5, v6, v7, rfl, hb', hm', hnd', r0, r1, r2, r3, r4, r5, r6, r7⟩ := HSUB'.out i hlt
                      have hbw : Below W.heap.size W wr := HB2.out.trans (HB.out.mono HB2.out.size)
                      have kc : ∀ g o v, g < W.heap.size → W.cell? ⟨g, o, none⟩ = some v → ∀ p : GrownTo wr, p.W'.cell? ⟨g, o, none⟩ = some v := fun g o v hg h p => cell_grownTo (w := wr) (a := ⟨g, o, none⟩) (Nat.lt_of_lt_of_le hg hbw.size) ((hbw.cell (p := ⟨g, o, none⟩) hg).trans h) p
                      have hbx2 := fun p => cell_grownTo (w := wr) (a := ⟨W.heap.size, 7, none⟩) (by show W.heap.size < _; omega) hbx p
                      have hby2 := fun p => cell_grownTo (w := wr) (a := ⟨W.heap.size + 1, 7, none⟩) (by show W.heap.size + 1 < _; omega) hby p
                      replace q0 := kc _ _ _ hb q0; replace q1 := kc _ _ _ hb q1; replace q2 := kc _ _ _ hb q2; replace q3 := kc _ _ _ hb q3
                      replace q4 := kc _ _ _ hb q4; replace q5 := kc _ _ _ hb q5; replace q6 := kc _ _ _ hb q6; replace q7 := kc _ _ _ hb q7
                      replace r0 := kc _ _ _ hb' r0; replace r1 := kc _ _ _ hb' r1; replace r2 := kc _ _ _ hb' r2; replace r3 := kc _ _ _ hb' r3
                      replace r4 := kc _ _ _ hb' r4; replace r5 := kc _ _ _ hb' r5; replace r6 := kc _ _ _ hb' r6; replace r7 := kc _ _ _ hb' r7
                      have HND := Lib.hid (fun p : GrownTo wr => hnd.kept (hbw.trans (p.h.mono hbw.size)))
                      have HND' := Lib.hid (fun p : GrownTo wr => hnd'.kept (hbw.trans (p.h.mono hbw.size)))
                      have hzip : ((Td.subs n).zip (Td.subs m))[i]? = some (x, x') := by rw [List.getElem?_zip_eq_some]; exact ⟨hm, hm'⟩
                      obtain ⟨Q, hQ⟩ : ∃ Q, Td.sameB k x x' = Q := ⟨_, rfl⟩
                      have HYES : Hid ((((Td.subs n).zip (Td.subs m)).take (i + 1)).all (fun p => Td.sameB k p.1 p.2) = Q) := Lib.hid (by rw [all_snoc hzip HA.out]; exact hQ)
                      have HNO : Hid (Q = false → Z = false) := Lib.hid (fun e => by rw [← HZ.out]; exact all_no hzip (by rw [hQ]; exact e))
                      have HCL := Lib.hid (fun p : GrownTo wr => IH.out p.W' x x' _ _ (HND.out p) (HND'.out p))
                      rw [hQ] at HCL
                      have k0 : (0 : Int) ≤ (i : Int) := by omega
                      have k1 : (i : Int) < (La : Int) := by omega
                      have HF := Lib.hid (And.intro hbx2 (And.intro hby2 (And.intro (And.intro q0 (And.intro q1 (And.intro q2 (And.intro q3 (And.intro q4 (And.intro q5 (And.intro q6 q7))))))) (And.intro r0 (And.intro r1 (And.intro r2 (And.intro r3 (And.intro r4 (And.intro r5 (And.intro r6 r7))))))))))
                      clear kc hm hm' hnd hnd' hbw hzip hQ hb hb' hbx2 hby2 q0 q1 q2 q3 q4 q5 q6 q7 r0 r1 r2 r3 r4 r5 r6 r7
                      go_wp2
                      obtain ⟨hbx2, hby2, ⟨q0, q1, q2, q3, q4, q5, q6, q7⟩, r0, r1, r2, r3, r4, r5, r6, r7⟩ := HF.out
                      refine wp_region_quiet_below (by assumption) (by kernel_rfl) ?_
                      repeat (quiet_step (first | (go_at_call 14; exact calls_grownTo (HCL.out _))))
                      refine wpQuiet_nil ?_
                      intro _ hw'
                      obtain ⟨⟨wz, hbz⟩, hw''⟩ := hw'
                      subst hw''
                      have HBZ := Lib.hid (HB.out.trans (hbz.mono HB.out.size))
                      clear hbz q0 q1 q2 q3 q4 q5 q6 q7 r0 r1 r2 r3 r4 r5 r6 r7 hbx2 hby2
                      cases Q with
                      | true =>
                        go_wp2
                        go_roundw
                        case rel => exact ⟨i + 1, by omega, by go_num, HYES, HBZ⟩
                        case measure => simp [intOf]; omega
                      | false =>
                        have HF := Lib.hid (HNO.out rfl)
                        go_wp2
                        go_ret
                        exact ⟨by rw [HR.out, HF.out]; rfl, HB2.out.trans (HBZ.out.mono HB2.out.size)⟩
                    · obtain rfl : i = La := by omega
                      have HE : Hid (Z = true) := Lib.hid (by
                        have := HA.out
                        rw [List.take_of_length_le (by rw [HLEN.out]; exact Nat.le_refl _)] at this
                        rw [← HZ.out]; exact this)
                      go_wp2
                      go_ret
                      exact ⟨by rw [HR.out, HE.out]; rfl, HB2.out.trans (HB.out.mono HB2.out.size)⟩
theorem sameNode_any : ∀ k : Nat, k ≤ 100000 → SameOk k
  | 0, _ => by
    intro W n m cs ds h h'
    obtain ⟨vs, a, cap, C, hC⟩ := h.cells
    obtain ⟨ws, a', cap', C', hC'⟩ := h'.cells
    have hcs := hC.eq
    have hds := hC'.eq
    subst hcs
    subst hds
    clear hC hC' h h'
    go_enter Try.func14, Try.ntmps14
    go_wp2
    go_ret
    exact ⟨rfl, ((Below.refl W.heap.size W).alloc (Nat.le_refl _) _).alloc (by simp) _⟩
  | k + 1, h => same_step k _ rfl (by omega) (sameNode_any k (by omega))
end Go.Proofs.Ythhdlcckboiecaa
namespace Go.Proofs.Ythhdlcckboiecaa
open Go.RowKit
set_option linter.unusedVariables false
set_option maxRecDepth 100000 in
set_option maxHeartbeats 2000000 in
theorem eqr_walk (W : World) (a b : Option Addr) (n p q : Nat) (l m : List (Int × Int)) (hn : n ≤ 8796093022208) (hl : l.length = n) (hm : m.length = n)
    (ha : ∀ j, j < n → ∃ g off, a = some ⟨g, off, none⟩ ∧ g < W.heap.size ∧ W.cell? ⟨g, off + j * 2, none⟩ = some (.int .i64 (l[j]?.getD (0, 0)).1) ∧ W.cell? ⟨g, off + j * 2 + 1, none⟩ = some (.int .i64 (l[j]?.getD (0, 0)).2))
    (hb : ∀ j, j < n → ∃ g off, b = some ⟨g, off, none⟩ ∧ g < W.heap.size ∧ W.cell? ⟨g, off + j * 2, none⟩ = some (.int .i64 (m[j]?.getD (0, 0)).1) ∧ W.cell? ⟨g, off + j * 2 + 1, none⟩ = some (.int .i64 (m[j]?.getD (0, 0)).2)) :
    Calls Try.prog 67 #[.slice a n p, .slice b n q] W fun e W' => e = .returned (.bool (decide (l = m))) ∧ ∃ d, W' = W.drewN d := by
  have HA := Lib.hid ha
  have HB := Lib.hid hb
  have HL := Lib.hid hl
  have HM := Lib.hid hm
  clear ha hb hl hm
  go_enter Try.func67, Try.ntmps67
  go_wp2
  go_loopw [5, 13] (fun j i wr => ∃ (k : Nat), k ≤ n ∧ i = .int .i64 k ∧ Hid (l.take k = m.take k) ∧ ∃ d, wr = W.drewN d) (fun j i _ => (n - (intOf i).toNat))
  case atStart => exact ⟨0, Nat.zero_le _, rfl, Lib.hid (by simp), 0, rfl⟩
  case round =>
    obtain ⟨k, hk, rfl, HS, d, rfl⟩ := hrel
    by_cases hlt : k < n
    · obtain ⟨g, off, rfl, hg, hc1, hc2⟩ := HA.out k hlt
      obtain ⟨g', off', rfl, hg', hc3, hc4⟩ := HB.out k hlt
      have hkl : k < l.length := by rw [HL.out]; exact hlt
      have hkm : k < m.length := by rw [HM.out]; exact hlt
      by_cases e1 : (l[k]?.getD (0, 0)).1 = (m[k]?.getD (0, 0)).1
      · by_cases e2 : (l[k]?.getD (0, 0)).2 = (m[k]?.getD (0, 0)).2
        · have HT : Hid (l.take (k + 1) = m.take (k + 1)) := Lib.hid ((take_succ_eq l m k hkl hkm).mpr ⟨HS.out, Prod.ext e1 e2⟩)
          clear hkl hkm
          go_wp2
          go_quiet (fail)
          go_wp2
          go_round
          case rel => exact ⟨k + 1, by omega, by go_num, HT, _, rfl⟩
          case measure => simp [intOf]; omega
        · have HF : Hid (decide (l = m) = false) := Lib.hid (by
            rw [decide_eq_false_iff_not]; intro e
            subst e; exact e2 rfl)
          clear hkl hkm
          go_wp2
          go_quiet (fail)
          go_wp2
          go_ret
          exact ⟨by rw [HF.out]; rfl, _, World.drewN_drewN _ _ _⟩
      · have HF : Hid (decide (l = m) = false) := Lib.hid (by
          rw [decide_eq_false_iff_not]; intro e
          subst e; exact e1 rfl)
        clear hkl hkm
        go_wp2
        go_quiet (fail)
        go_wp2
        go_ret
        exact ⟨by rw [HF.out]; rfl, _, World.drewN_drewN _ _ _⟩
    · obtain rfl : k = n := by omega
      have HE : Hid (decide (l = m) = true) := Lib.hid (by
        have := HS.out
        rw [List.take_of_length_le (by rw [HL.out]; exact Nat.le_refl _), List.take_of_length_le (by rw [HM.out]; exact Nat.le_refl _)] at this
        exact decide_eq_true this)
      go_wp2
      go_ret
      exact ⟨by rw [HE.out]; rfl, _, rfl⟩
set_option maxRecDepth 100000 in
set_option maxHeartbeats 2000000 in
theorem eqr_any (W : World) (v w : Value) (l m : List (Int × Int)) (hv : RRow W v l) (hw : RRow W w m) :
    Calls Try.prog 67 #[v, w] W fun e W' => e = .returned (.bool (decide (l = m))) ∧ ∃ d, W' = W.drewN d := by
  obtain ⟨a, p, rfl, n1, n2, hca⟩ := hv
  obtain ⟨b, q, rfl, m1, m2, hcb⟩ := hw
  by_cases hlen : l.length = m.length
  · rw [← hlen] at hcb ⊢
    exact eqr_walk W a b l.length p q l m n1 rfl hlen.symm hca hcb
  · have HF : Hid (decide (l = m) = false) := Lib.hid (decide_eq_false (fun e => hlen (by rw [e])))
    obtain ⟨x, hx⟩ : ∃ x, l.length = x := ⟨_, rfl⟩
    obtain ⟨y, hy⟩ : ∃ y, m.length = y := ⟨_, rfl⟩
    rw [hx, hy] at hlen
    rw [hx, hy]
    have hne : ¬ (x : Int) = (y : Int) := by omega
    clear n2 m2 hca hcb hx hy
    go_enter Try.func67, Try.ntmps67
    go_wp2
    go_ret
    exact ⟨by rw [HF.out]; rfl, 0, rfl⟩
end Go.Proofs.Ythhdlcckboiecaa
