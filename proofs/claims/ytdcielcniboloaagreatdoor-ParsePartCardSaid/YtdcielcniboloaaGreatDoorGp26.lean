/- A region that draws its order, whose operations only read and whose callees make memory of their own: walked once, in the class of the worlds that have turned nothing old. · burinbook.SameNode: are two trees the same. · slices.Equal at lists of ranges. · The landed tree: same, with slices.EqualFunc and its closure; Same. -/
import Derived.Test.YtdcielcniboloaaGreatDoorGp5
import Derived.Deep.QuietTactic
import Derived.Test.YtdcielcniboloaaGreatDoorGp6
import Derived.Test.YtdcielcniboloaaGreatDoorGp3
import Derived.IntWalk
import Derived.BigQuiet
import Derived.Test.YtdcielcniboloaaGreatDoorGp15
namespace Go.Proofs.YtdcielcniboloaaGreatDoor
open Go.RowKit
set_option linter.unusedVariables false
/-- A world that has turned nothing of w's. -/
structure GrownTo (w : World) where
  W' : World
  h : Below w.heap.size w W'
instance grownToSome (w : World) : Inhabited (GrownTo w) := ⟨⟨w, Below.refl _ _⟩⟩
end Go.Proofs.YtdcielcniboloaaGreatDoor
namespace Go.Proofs.YtdcielcniboloaaGreatDoor
open Go.RowKit
set_option linter.unusedVariables false
namespace Td
/-- The fields but the parts are the same, and there are as many parts. -/
def same1 (a b : Nd) : Bool :=
  (kind a == kind b) && ((num a == num b) && (((name a).toList == (name b).toList) && ((mn a == mn b) && ((mx a == mx b) && ((lazy a == lazy b) && (decide (set a = set b) && (((subs a).length : Int) == ((subs b).length : Int))))))))
def sameB : Nat → Nd → Nd → Bool
  | 0, _, _ => false
  | k + 1, a, b => same1 a b && ((subs a).zip (subs b)).all fun p => sameB k p.1 p.2
end Td
theorem all_snoc {l : List (Nd × Nd)} {f : Nd × Nd → Bool} {i : Nat} {x : Nd × Nd} (hx : l[i]? = some x) (h : (l.take i).all f = true) : (l.take (i + 1)).all f = f x := by
  obtain ⟨hi, e⟩ := List.getElem?_eq_some_iff.1 hx
  rw [List.take_succ_eq_append_getElem hi, List.all_append, h, e]
  simp
theorem all_no {l : List (Nd × Nd)} {f : Nd × Nd → Bool} {i : Nat} {x : Nd × Nd} (hx : l[i]? = some x) (h : f x = false) : l.all f = false := by
  rw [List.all_eq_false]
  exact ⟨x, List.mem_of_getElem? hx, by rw [h]; decide⟩
end Go.Proofs.YtdcielcniboloaaGreatDoor
namespace Go.Proofs.YtdcielcniboloaaGreatDoor
open Go.RowKit
set_option linter.unusedVariables false
set_option maxRecDepth 100000 in
set_option maxHeartbeats 2000000 in
theorem eqr_walk (W : World) (a b : Option Addr) (n p q : Nat) (l m : List (Int × Int)) (hn : n ≤ 8796093022208) (hl : l.length = n) (hm : m.length = n)
    (ha : ∀ j, j < n → ∃ g off, a = some ⟨g, off, none⟩ ∧ g < W.heap.size ∧ W.cell? ⟨g, off + j * 2, none⟩ = some (.int .i64 (l[j]?.getD (0, 0)).1) ∧ W.cell? ⟨g, off + j * 2 + 1, none⟩ = some (.int .i64 (l[j]?.getD (0, 0)).2))
    (hb : ∀ j, j < n → ∃ g off, b = some ⟨g, off, none⟩ ∧ g < W.heap.size ∧ W.cell? ⟨g, off + j * 2, none⟩ = some (.int .i64 (m[j]?.getD (0, 0)).1) ∧ W.cell? ⟨g, off + j * 2 + 1, none⟩ = some (.int .i64 (m[j]?.getD (0, 0)).2)) :
    Calls Tryz.prog 74 #[.slice a n p, .slice b n q] W fun e W' => e = .returned (.bool (decide (l = m))) ∧ ∃ d, W' = W.drewN d := by
  have HA := Lib.hid ha
  have HB := Lib.hid hb
  have HL := Lib.hid hl
  have HM := Lib.hid hm
  clear ha hb hl hm
  go_enter Tryz.func74, Tryz.ntmps74
  go_wp2
  go_loopw [5, 13] (fun j i wr => ∃ (k : Nat), k ≤ n ∧ i = .int .i64 k ∧ Hid (l.take k = m.take k) ∧ ∃ d, wr = W.drewN d) (fun j i _ => (n - (intOf i).toNat))
  case atStart => exact ⟨0, Nat.zero_le _, rfl, Lib.hid (by simp), 0, rfl⟩
  case round =>
    obtain ⟨k, hk, rfl, HS, d, rfl⟩ := hrel
    by_cases hlt : k < n
    · obtain ⟨g, off, rfl, hg, hc1, hc2⟩ := HA.out k hlt
      obtain ⟨g', off', rfl, hg', hc3, hc4⟩ := HB.out k hlt
      have hkl : k < l.length := by rw [HL.out]; exact hlt
      have hkm : k < m.length := by rw [HM.out]; exact hlt
      by_cases e1 : (l[k]?.getD (0, 0)).1 = (m[k]?.getD (0, 0)).1
      · by_cases e2 : (l[k]?.getD (0, 0)).2 = (m[k]?.getD (0, 0)).2
        · have HT : Hid (l.take (k + 1) = m.take (k + 1)) := Lib.hid ((take_succ_eq l m k hkl hkm).mpr ⟨HS.out, Prod.ext e1 e2⟩)
          clear hkl hkm
          go_wp2
          go_quiet (fail)
          go_wp2
          go_round
          case rel => exact ⟨k + 1, by omega, by go_num, HT, _, rfl⟩
          case measure => simp [intOf]; omega
        · have HF : Hid (decide (l = m) = false) := Lib.hid (by
            rw [decide_eq_false_iff_not]; intro e
            subst e; exact e2 rfl)
          clear hkl hkm
          go_wp2
          go_quiet (fail)
          go_wp2
          go_ret
          exact ⟨by rw [HF.out]; rfl, _, World.drewN_drewN _ _ _⟩
      · have HF : Hid (decide (l = m) = false) := Lib.hid (by
          rw [decide_eq_false_iff_not]; intro e
          subst e; exact e1 rfl)
        clear hkl hkm
        go_wp2
        go_quiet (fail)
        go_wp2
        go_ret
        exact ⟨by rw [HF.out]; rfl, _, World.drewN_drewN _ _ _⟩
    · obtain rfl : k = n := by omega
      have HE : Hid (decide (l = m) = true) := Lib.hid (by
        have := HS.out
        rw [List.take_of_length_le (by rw [HL.out]; exact Nat.le_refl _), List.take_of_length_le (by rw [HM.out]; exact Nat.le_refl _)] at this
        exact decide_eq_true this)
      go_wp2
      go_ret
      exact ⟨by rw [HE.out]; rfl, _, rfl⟩
set_option maxRecDepth 100000 in
set_option maxHeartbeats 2000000 in
theorem eqr_any (W : World) (v w : Value) (l m : List (Int × Int)) (hv : RRow W v l) (hw : RRow W w m) :
    Calls Tryz.prog 74 #[v, w] W fun e W' => e = .returned (.bool (decide (l = m))) ∧ ∃ d, W' = W.drewN d := by
  obtain ⟨a, p, rfl, n1, n2, hca⟩ := hv
  obtain ⟨b, q, rfl, m1, m2, hcb⟩ := hw
  by_cases hlen : l.length = m.length
  · rw [← hlen] at hcb ⊢
    exact eqr_walk W a b l.length p q l m n1 rfl hlen.symm hca hcb
  · have HF : Hid (decide (l = m) = false) := Lib.hid (decide_eq_false (fun e => hlen (by rw [e])))
    obtain ⟨x, hx⟩ : ∃ x, l.length = x := ⟨_, rfl⟩
    obtain ⟨y, hy⟩ : ∃ y, m.length = y := ⟨_, rfl⟩
    rw [hx, hy] at hlen
    rw [hx, hy]
    have hne : ¬ (x : Int) = (y : Int) := by omega
    clear n2 m2 hca hcb hx hy
    go_enter Tryz.func74, Tryz.ntmps74
    go_wp2
    go_ret
    exact ⟨by rw [HF.out]; rfl, 0, rfl⟩
end Go.Proofs.YtdcielcniboloaaGreatDoor
namespace Go.Proofs.YtdcielcniboloaaGreatDoor
open Go.RowKit
set_option linter.unusedVariables false
def TSameOk (k : Nat) : Prop := ∀ (d : Nat), d + k = 1001 → ∀ (W : World) (n m : Nd) (cs ds : List Value), NdIs W n cs → NdIs W m ds → Calls Tryz.prog 38 #[.agg cs.toArray, .agg ds.toArray, .int .i64 (d : Int)] W fun e w' => e = .returned (.bool (Td.sameB k n m)) ∧ Below W.heap.size W w'
set_option maxRecDepth 100000 in
set_option maxHeartbeats 4000000 in
theorem same1_any (k d : Nat) (hd : d + 1 + k = 1001) (ih : TSameOk k) (W : World) (B : Nat) (n m : Nd) (cs ds : List Value) (hB : W.cell? ⟨B, 0, none⟩ = some (.int .i64 (d : Int))) (hlt : B < W.heap.size) (h : NdIs W n cs) (h' : NdIs W m ds) :
    Calls Tryz.prog 76 #[.agg cs.toArray, .agg ds.toArray, .pointer (some ⟨B, 0, none⟩)] W fun e w' => e = .returned (.bool (Td.sameB k n m)) ∧ Below W.heap.size W w' := by
  have hw : IntKind.i64.wrap ((d : Int) + 1) = ((d + 1 : Nat) : Int) := by rw [IntKind.wrap_i64]; omega
  have hb2 : Below W.heap.size W ((W.alloc (.cells cs.toArray 26)).alloc (.cells ds.toArray 26)) := ((Below.refl W.heap.size W).alloc (Nat.le_refl _) _).alloc (by simp) _
  have HB2 := Lib.hid hb2
  have H1 := Lib.hid (h.kept hb2)
  have H2 := Lib.hid (h'.kept hb2)
  have IH := Lib.hid (ih (d + 1) hd)
  obtain ⟨vs, a, cap, C, hC⟩ := h.cells
  obtain ⟨ws, a', cap', C', hC'⟩ := h'.cells
  have hcs := hC.eq
  have hds := hC'.eq
  subst hcs
  subst hds
  clear hC hC' h h' ih hb2
  go_enter Tryz.func76, Tryz.ntmps76
  go_wp2_with fail
  refine (IH.out _ n m _ _ H1.out H2.out).mono ?_
  rintro e w5 ⟨rfl, hb5⟩
  have HB5 := Lib.hid (HB2.out.trans (hb5.mono HB2.out.size))
  go_wp2
  go_ret
  exact ⟨rfl, HB5.out⟩
set_option maxRecDepth 100000 in
set_option maxHeartbeats 8000000 in
theorem eqf_any (k d : Nat) (hd : d + 1 + k = 1001) (ih : TSameOk k) (W : World) (B : Nat) (n m : Nd) (vs vt : Value) (a b : Option Addr) (capa capb : Nat) (C C' : Nat → List Value) (ca cb : List Value) (hB : W.cell? ⟨B, 0, none⟩ = some (.int .i64 (d : Int))) (hBl : B < W.heap.size) (hC : NdCells W ca n vs a capa C) (hC' : NdCells W cb m vt b capb C') :
    Calls Tryz.prog 75 #[.slice a (Td.subs n).length capa, .slice b (Td.subs m).length capb, .func (.func 76) #[] #[.pointer (some ⟨B, 0, none⟩)]] W
      fun e w' => e = .returned (.bool ((((Td.subs n).length : Int) == ((Td.subs m).length : Int)) && ((Td.subs n).zip (Td.subs m)).all fun p => Td.sameB k p.1 p.2)) ∧ Below W.heap.size W w' := by
  have HSUB := Lib.hid hC.sub
  have HSUB' := Lib.hid hC'.sub
  have hla := hC.len
  have hlb := hC'.len
  have HCL := Lib.hid (same1_any k d hd ih)
  obtain ⟨La, eLa⟩ : ∃ La, (Td.subs n).length = La := ⟨_, rfl⟩
  obtain ⟨Lb, eLb⟩ : ∃ Lb, (Td.subs m).length = Lb := ⟨_, rfl⟩
  rw [eLa] at hla HSUB
  rw [eLb] at hlb HSUB'
  rw [eLa, eLb]
  have HLA := Lib.hid eLa
  have HLB := Lib.hid eLb
  obtain ⟨Z, hZ⟩ : ∃ Z, (((Td.subs n).zip (Td.subs m)).all fun p => Td.sameB k p.1 p.2) = Z := ⟨_, rfl⟩
  rw [hZ]
  have HZ := Lib.hid hZ
  clear hZ eLa eLb hC hC' ih
  by_cases hL : La = Lb
  · subst hL
    have HLEN : Hid (((Td.subs n).zip (Td.subs m)).length = La) := Lib.hid (by rw [List.length_zip, HLA.out, HLB.out, Nat.min_self])
    have HR : Hid ((((La : Int) == (La : Int)) && Z) = Z) := Lib.hid (by simp)
    rw [HR.out]
    have HBX := Lib.hid hB
    have HBL := Lib.hid hBl
    clear hB hBl
    go_enter Tryz.func75, Tryz.ntmps75
    go_wp2
    go_loopw [7, 8, 9, 17] (fun x7 x8 x9 iv wr => ∃ i : Nat, i ≤ La ∧ iv = .int .i64 (i : Int) ∧ Hid ((((Td.subs n).zip (Td.subs m)).take i).all (fun p => Td.sameB k p.1 p.2) = true) ∧ Hid (Below W.heap.size W wr)) (fun _ _ _ iv _ => La - (intOf iv).toNat)
    case atStart => exact ⟨0, Nat.zero_le _, rfl, Lib.hid (by simp), Lib.hid (Below.refl _ _)⟩
    case round =>
      obtain ⟨i, hi, rfl, HA, HB⟩ := hrel
      by_cases hlt : i < La
      · obtain ⟨g, off, x, u0, u1, u2, u3, u4, u5, u6, u7, rfl, hb, hm, hnd, q0, q1, q2, q3, q4, q5, q6, q7⟩ := HSUB.out i hlt
        obtain ⟨g', off', x', v0, v1, v2, v3, v4, v5, v6, v7, rfl, hb', hm', hnd', r0, r1, r2, r3, r4, r5, r6, r7⟩ := HSUB'.out i hlt
        have hbw := HB.out
        have kc : ∀ o v, W.cell? ⟨g, o, none⟩ = some v → wr.cell? ⟨g, o, none⟩ = some v := fun o v h => (hbw.cell (p := ⟨g, o, none⟩) hb).trans h
        have kc' : ∀ o v, W.cell? ⟨g', o, none⟩ = some v → wr.cell? ⟨g', o, none⟩ = some v := fun o v h => (hbw.cell (p := ⟨g', o, none⟩) hb').trans h
        replace q0 := kc _ _ q0; replace q1 := kc _ _ q1; replace q2 := kc _ _ q2; replace q3 := kc _ _ q3
        replace q4 := kc _ _ q4; replace q5 := kc _ _ q5; replace q6 := kc _ _ q6; replace q7 := kc _ _ q7
        replace r0 := kc' _ _ r0; replace r1 := kc' _ _ r1; replace r2 := kc' _ _ r2; replace r3 := kc' _ _ r3
        replace r4 := kc' _ _ r4; replace r5 := kc' _ _ r5; replace r6 := kc' _ _ r6; replace r7 := kc' _ _ r7
        have hbl : g < wr.heap.size := Nat.lt_of_lt_of_le hb hbw.size
        have hbl' : g' < wr.heap.size := Nat.lt_of_lt_of_le hb' hbw.size
        have hBw : wr.cell? ⟨B, 0, none⟩ = some (.int .i64 (d : Int)) := (hbw.cell (p := ⟨B, 0, none⟩) HBL.out).trans HBX.out
        have hBs : B < wr.heap.size := Nat.lt_of_lt_of_le HBL.out hbw.size
        have hW2 : ∀ (o1 o2 : Obj), Below W.heap.size W ((wr.alloc o1).alloc o2) := fun o1 o2 => (hbw.alloc hbw.size o1).alloc (by have := hbw.size; simp; omega) o2
        have HND := Lib.hid (fun o1 o2 => hnd.kept (hW2 o1 o2))
        have HND' := Lib.hid (fun o1 o2 => hnd'.kept (hW2 o1 o2))
        have HB3 : Hid (∀ (o1 o2 : Obj), ((wr.alloc o1).alloc o2).cell? ⟨B, 0, none⟩ = some (.int .i64 (d : Int)) ∧ B < ((wr.alloc o1).alloc o2).heap.size) := Lib.hid (fun o1 o2 => by
          refine ⟨?_, by simp; omega⟩
          rw [((hbw.alloc hbw.size o1).alloc (by have := hbw.size; simp; omega) o2).cell (p := ⟨B, 0, none⟩) HBL.out]; exact HBX.out)
        have HW2 := Lib.hid hW2
        have hzip : ((Td.subs n).zip (Td.subs m))[i]? = some (x, x') := by rw [List.getElem?_zip_eq_some]; exact ⟨hm, hm'⟩
        obtain ⟨Q, hQ⟩ : ∃ Q, Td.sameB k x x' = Q := ⟨_, rfl⟩
        have HYES : Hid ((((Td.subs n).zip (Td.subs m)).take (i + 1)).all (fun p => Td.sameB k p.1 p.2) = Q) := Lib.hid (by rw [all_snoc hzip HA.out]; exact hQ)
        have HNO : Hid (Q = false → Z = false) := Lib.hid (fun e => by rw [← HZ.out]; exact all_no hzip (by rw [hQ]; exact e))
        have HQ := Lib.hid hQ
        obtain ⟨f1, f2, f3, f4, F1⟩ := hnd.form
        obtain ⟨f5, f6, f7, f8, F2⟩ := hnd'.form
        obtain ⟨rfl, rfl, rfl, rfl, rfl, rfl, rfl, rfl⟩ := F1
        obtain ⟨rfl, rfl, rfl, rfl, rfl, rfl, rfl, rfl⟩ := F2
        clear kc kc' hm hm' hnd hnd' hbw hzip hQ hW2 hBw hBs
        go_wp2_with fail
        refine (HCL.out _ B x x' _ _ (HB3.out _ _).1 (HB3.out _ _).2 (HND.out _ _) (HND'.out _ _)).mono ?_
        rintro e w5 ⟨rfl, hb5⟩
        have HB5 := Lib.hid ((HW2.out _ _).trans (hb5.mono (HW2.out _ _).size))
        rw [HQ.out]
        clear hb5 q0 q1 q2 q3 q4 q5 q6 q7 r0 r1 r2 r3 r4 r5 r6 r7
        cases Q with
        | true =>
          go_wp2
          go_roundw
          case rel => exact ⟨i + 1, by omega, by go_num, HYES, HB5⟩
          case measure => simp [intOf]; omega
        | false =>
          have HF := Lib.hid (HNO.out rfl)
          go_wp2
          go_ret
          exact ⟨by rw [HF.out]; rfl, HB5.out⟩
      · obtain rfl : i = La := by omega
        have HE : Hid (Z = true) := Lib.hid (by
          have := HA.out
          rw [List.take_of_length_le (by rw [HLEN.out]; exact Nat.le_refl _)] at this
          rw [← HZ.out]; exact this)
        go_wp2
        go_ret
        exact ⟨by rw [HE.out]; rfl, HB.out⟩
  · have hne : ¬ (La : Int) = (Lb : Int) := by omega
    have HR : Hid ((((La : Int) == (Lb : Int)) && Z) = false) := Lib.hid (by rw [beq_eq_false_iff_ne.2 hne]; rfl)
    rw [HR.out]
    go_enter Tryz.func75, Tryz.ntmps75
    go_wp2
    go_ret
    exact ⟨rfl, Below.refl _ _⟩
set_option maxRecDepth 100000 in
set_option maxHeartbeats 16000000 in
theorem tsame_step (k M : Nat) (hM : M = k + 1) (ih : TSameOk k) : TSameOk M := by
  intro d hd W n m cs ds h h'
  have hd0 : ¬ (1000 : Int) < (d : Int) := by omega
  have hd1 : (d : Int) ≤ 1000 := by omega
  have HEQ := Lib.hid (eqf_any k d (by omega) ih)
  obtain ⟨vs, aa, capa, C, hC⟩ := h.cells
  obtain ⟨ws, ab, capb, C', hC'⟩ := h'.cells
  have hcs := hC.eq
  have hds := hC'.eq
  obtain ⟨sa, sca, hvs, hsl, _, _⟩ := hC.set
  obtain ⟨sb, scb, hws, hsl', _, _⟩ := hC'.set
  obtain ⟨R, hR⟩ : ∃ R, Td.sameB M n m = R := ⟨_, rfl⟩
  rw [hR]
  rw [hM, Td.sameB] at hR
  unfold Td.same1 at hR
  have hb3 : ∀ (o1 o2 o3 : Obj), Below W.heap.size W (((W.alloc o1).alloc o2).alloc o3) := fun o1 o2 o3 => (((Below.refl W.heap.size W).alloc (Nat.le_refl _) o1).alloc (by simp) o2).alloc (by simp; omega) o3
  have HB3 := Lib.hid hb3
  have HBD : Hid (∀ (o1 o2 : Obj), (((W.alloc o1).alloc o2).alloc (.cells #[.int .i64 (d : Int)] 3)).cell? ⟨W.heap.size + 1 + 1, 0, none⟩ = some (.int .i64 (d : Int))) := Lib.hid (fun o1 o2 => by
    have key : ∀ X : World, (X.alloc (.cells #[.int .i64 (d : Int)] 3)).cell? ⟨X.heap.size, 0, none⟩ = some (.int .i64 (d : Int)) := fun X => by simp
    have h9 := key ((W.alloc o1).alloc o2)
    rwa [World.size_alloc, World.size_alloc] at h9)
  have HSS : Hid (∀ o1 o2 o3, Calls Tryz.prog 74 #[vs, ws] (((W.alloc o1).alloc o2).alloc o3) fun e W' => e = .returned (.bool (decide (Td.set n = Td.set m))) ∧ ∃ d, W' = (((W.alloc o1).alloc o2).alloc o3).drewN d) :=
    Lib.hid (fun o1 o2 o3 => eqr_any _ _ _ _ _ (hC.set.below (Nat.le_refl _) (hb3 o1 o2 o3)) (hC'.set.below (Nat.le_refl _) (hb3 o1 o2 o3)))
  have HNS : Hid (∀ W2, Below W.heap.size W W2 → (∃ a' b' c' D', NdCells W2 cs n a' b' c' D') ∧ (∃ a' b' c' D', NdCells W2 ds m a' b' c' D')) := Lib.hid (fun W2 hb => ⟨(h.kept hb).cells, (h'.kept hb).cells⟩)
  subst hvs
  subst hws
  subst hcs
  subst hds
  have HEF : Hid (∀ W2 B, Below W.heap.size W W2 → W2.cell? ⟨B, 0, none⟩ = some (.int .i64 (d : Int)) → B < W2.heap.size →
      Calls Tryz.prog 75 #[.slice aa (Td.subs n).length capa, .slice ab (Td.subs m).length capb, .func (.func 76) #[] #[.pointer (some ⟨B, 0, none⟩)]] W2
      fun e w' => e = .returned (.bool ((((Td.subs n).length : Int) == ((Td.subs m).length : Int)) && ((Td.subs n).zip (Td.subs m)).all fun p => Td.sameB k p.1 p.2)) ∧ Below W2.heap.size W2 w') := Lib.hid (fun W2 B hb h1 h2 => by
    obtain ⟨⟨a', b', c', D', hx⟩, a2, b2, c2, D2, hy⟩ := HNS.out W2 hb
    have ex := hx.eq
    have ey := hy.eq
    simp only [List.cons.injEq, Value.slice.injEq, and_true, true_and] at ex ey
    obtain ⟨_, rfl, rfl⟩ := ex
    obtain ⟨_, rfl, rfl⟩ := ey
    exact HEQ.out W2 B n m _ _ _ _ _ _ _ _ _ _ h1 h2 hx hy)
  obtain ⟨Z, hZ⟩ : ∃ Z, ((((Td.subs n).length : Int) == ((Td.subs m).length : Int)) && ((Td.subs n).zip (Td.subs m)).all fun p => Td.sameB k p.1 p.2) = Z := ⟨_, rfl⟩
  obtain ⟨t6, et6⟩ : ∃ t6, decide (Td.set n = Td.set m) = t6 := ⟨_, rfl⟩
  rw [hZ] at HEF
  rw [et6] at HSS
  have hR' : R = ((Td.kind n == Td.kind m) && ((Td.num n == Td.num m) && (((Td.name n).toList == (Td.name m).toList) && ((Td.mn n == Td.mn m) && ((Td.mx n == Td.mx m) && ((Td.lazy n == Td.lazy m) && (t6 && Z))))))) := by
    rw [← hR, ← et6, ← hZ]; simp only [Bool.and_assoc]
  clear hR hZ et6 h h' hC hC' ih hM HEQ HNS hb3
  obtain ⟨ka, eka⟩ : ∃ ka, Td.kind n = ka := ⟨_, rfl⟩
  obtain ⟨kb, ekb⟩ : ∃ kb, Td.kind m = kb := ⟨_, rfl⟩
  obtain ⟨ua, eua⟩ : ∃ ua, Td.num n = ua := ⟨_, rfl⟩
  obtain ⟨ub, eub⟩ : ∃ ub, Td.num m = ub := ⟨_, rfl⟩
  obtain ⟨na, ena⟩ : ∃ na, Td.name n = na := ⟨_, rfl⟩
  obtain ⟨nb, enb⟩ : ∃ nb, Td.name m = nb := ⟨_, rfl⟩
  obtain ⟨ma, ema⟩ : ∃ ma, Td.mn n = ma := ⟨_, rfl⟩
  obtain ⟨mb, emb⟩ : ∃ mb, Td.mn m = mb := ⟨_, rfl⟩
  obtain ⟨xa, exa⟩ : ∃ xa, Td.mx n = xa := ⟨_, rfl⟩
  obtain ⟨xb, exb⟩ : ∃ xb, Td.mx m = xb := ⟨_, rfl⟩
  obtain ⟨ya, eya⟩ : ∃ ya, Td.lazy n = ya := ⟨_, rfl⟩
  obtain ⟨yb, eyb⟩ : ∃ yb, Td.lazy m = yb := ⟨_, rfl⟩
  obtain ⟨La, eLa⟩ : ∃ La, (Td.subs n).length = La := ⟨_, rfl⟩
  obtain ⟨Lb, eLb⟩ : ∃ Lb, (Td.subs m).length = Lb := ⟨_, rfl⟩
  obtain ⟨Sa, eSa⟩ : ∃ Sa, (Td.set n).length = Sa := ⟨_, rfl⟩
  obtain ⟨Sb, eSb⟩ : ∃ Sb, (Td.set m).length = Sb := ⟨_, rfl⟩
  rw [eka, ekb, eua, eub, ena, enb, ema, emb, exa, exb, eya, eyb] at hR'
  rw [eLa, eLb] at HEF
  rw [eSa, eSb] at HSS
  rw [eka, ekb, eua, eub, ena, enb, ema, emb, exa, exb, eya, eyb, eLa, eLb, eSa, eSb]
  clear hsl hsl' eka ekb eua eub ena enb ema emb exa exb eya eyb eLa eLb eSa eSb
  cases t0 : (ka == kb) with
  | false =>
    have HR : Hid (R = false) := Lib.hid (by rw [hR']; simp [t0])
    clear hR'
    have z0 : ¬ ka = kb := beq_eq_false_iff_ne.1 t0
    go_enter Tryz.func38, Tryz.ntmps38
    go_wp2
    go_ret
    exact ⟨by rw [HR.out]; rfl, HB3.out _ _ _⟩
  | true =>
    have e0 := beq_iff_eq.1 t0
    subst e0
    clear t0
    cases t1 : (ua == ub) with
    | false =>
      have HR : Hid (R = false) := Lib.hid (by rw [hR']; simp [t1])
      clear hR'
      have z1 : ¬ ua = ub := beq_eq_false_iff_ne.1 t1
      go_enter Tryz.func38, Tryz.ntmps38
      go_wp2
      go_ret
      exact ⟨by rw [HR.out]; rfl, HB3.out _ _ _⟩
    | true =>
      have e1 := beq_iff_eq.1 t1
      subst e1
      clear t1
      cases t2 : (na.toList == nb.toList) with
      | false =>
        have HR : Hid (R = false) := Lib.hid (by rw [hR']; simp [t2])
        clear hR'
        have z2 : ¬ na.toList = nb.toList := beq_eq_false_iff_ne.1 t2
        have y2 : ¬ na = nb := fun e => z2 (by rw [e])
        go_enter Tryz.func38, Tryz.ntmps38
        go_wp2
        go_ret
        exact ⟨by rw [HR.out]; rfl, HB3.out _ _ _⟩
      | true =>
        have e2 : na = nb := by
          apply ByteArray.ext; apply Array.toList_inj.1
          rw [← ByteArray.toList_eq, ← ByteArray.toList_eq]; exact beq_iff_eq.1 t2
        subst e2
        clear t2
        cases t3 : (ma == mb) with
        | false =>
          have HR : Hid (R = false) := Lib.hid (by rw [hR']; simp [t3])
          clear hR'
          have z3 : ¬ ma = mb := beq_eq_false_iff_ne.1 t3
          go_enter Tryz.func38, Tryz.ntmps38
          go_wp2
          go_ret
          exact ⟨by rw [HR.out]; rfl, HB3.out _ _ _⟩
        | true =>
          have e3 := beq_iff_eq.1 t3
          subst e3
          clear t3
          cases t4 : (xa == xb) with
          | false =>
            have HR : Hid (R = false) := Lib.hid (by rw [hR']; simp [t4])
            clear hR'
            have z4 : ¬ xa = xb := beq_eq_false_iff_ne.1 t4
            go_enter Tryz.func38, Tryz.ntmps38
            go_wp2
            go_ret
            exact ⟨by rw [HR.out]; rfl, HB3.out _ _ _⟩
          | true =>
            have e4 := beq_iff_eq.1 t4
            subst e4
            clear t4
            cases t5 : (ya == yb) with
            | false =>
              have HR : Hid (R = false) := Lib.hid (by rw [hR']; simp [t5])
              clear hR'
              have z5 : ¬ ya = yb := beq_eq_false_iff_ne.1 t5
              go_enter Tryz.func38, Tryz.ntmps38
              go_wp2
              go_ret
              exact ⟨by rw [HR.out]; rfl, HB3.out _ _ _⟩
            | true =>
              have e5 := beq_iff_eq.1 t5
              subst e5
              clear t5
              have hR2 : R = (t6 && Z) := by rw [hR']; simp
              clear hR'
              cases t6 with
              | false =>
                have HR : Hid (R = false) := Lib.hid (by rw [hR2]; rfl)
                clear hR2
                go_enter Tryz.func38, Tryz.ntmps38
                go_wp2_with fail
                refine (HSS.out _ _ _).mono ?_
                rintro e w2 ⟨rfl, q, rfl⟩
                go_wp2
                go_ret
                exact ⟨by rw [HR.out]; rfl, below_drewNr (HB3.out _ _ _) q⟩
              | true =>
                have HR : Hid (R = Z) := Lib.hid (by rw [hR2]; rfl)
                clear hR2
                go_enter Tryz.func38, Tryz.ntmps38
                go_wp2_with fail
                refine (HSS.out _ _ _).mono ?_
                rintro e w2 ⟨rfl, q, rfl⟩
                go_wp2_with fail
                refine (HEF.out _ _ (below_drewNr (HB3.out _ _ _) q) (HBD.out _ _) (by simp)).mono ?_
                rintro e w5 ⟨rfl, hb5⟩
                have HB5 := Lib.hid ((below_drewNr (HB3.out _ _ _) q).trans (hb5.mono (below_drewNr (HB3.out _ _ _) q).size))
                clear hb5
                go_wp2
                go_ret
                exact ⟨by rw [HR.out]; rfl, HB5.out⟩
theorem tsame_any : ∀ k : Nat, TSameOk k
  | 0 => by
    intro d hd W n m cs ds h h'
    have hd0 : (1000 : Int) < (d : Int) := by omega
    obtain ⟨vs, a, cap, C, hC⟩ := h.cells
    obtain ⟨ws, a', cap', C', hC'⟩ := h'.cells
    have hcs := hC.eq
    have hds := hC'.eq
    subst hcs
    subst hds
    clear hC hC' h h'
    go_enter Tryz.func38, Tryz.ntmps38
    go_wp2
    go_ret
    exact ⟨rfl, (((Below.refl W.heap.size W).alloc (Nat.le_refl _) _).alloc (by simp) _).alloc (by simp; omega) _⟩
  | k + 1 => tsame_step k _ rfl (tsame_any k)
set_option maxRecDepth 100000 in
set_option maxHeartbeats 4000000 in
theorem trSame_any (W : World) (n m : Nd) (cs ds : List Value) (h : NdIs W n cs) (h' : NdIs W m ds) :
    Calls Tryz.prog 19 #[.agg cs.toArray, .agg ds.toArray] W fun e w' => e = .returned (.bool (Td.sameB 1000 n m)) ∧ Below W.heap.size W w' := by
  have hb2 : Below W.heap.size W ((W.alloc (.cells cs.toArray 26)).alloc (.cells ds.toArray 26)) := ((Below.refl W.heap.size W).alloc (Nat.le_refl _) _).alloc (by simp) _
  have HB2 := Lib.hid hb2
  have H1 := Lib.hid (h.kept hb2)
  have H2 := Lib.hid (h'.kept hb2)
  have IH := Lib.hid (tsame_any 1000 1 rfl)
  obtain ⟨vs, a, cap, C, hC⟩ := h.cells
  obtain ⟨ws, a', cap', C', hC'⟩ := h'.cells
  have hcs := hC.eq
  have hds := hC'.eq
  subst hcs
  subst hds
  clear hC hC' h h' hb2
  go_enter Tryz.func19, Tryz.ntmps19
  go_wp2_with fail
  refine (IH.out _ n m _ _ H1.out H2.out).mono ?_
  rintro e w5 ⟨rfl, hb5⟩
  have HB5 := Lib.hid (HB2.out.trans (hb5.mono HB2.out.size))
  go_wp2
  go_ret
  exact ⟨rfl, HB5.out⟩
end Go.Proofs.YtdcielcniboloaaGreatDoor
