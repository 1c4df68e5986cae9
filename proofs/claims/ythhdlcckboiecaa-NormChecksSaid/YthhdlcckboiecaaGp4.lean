/- The landed norm: clamp, product, weights. -/
import Derived.Test.YthhdlcckboiecaaGp3
import Derived.IntWalk
namespace Go.Proofs.Ythhdlcckboiecaa
open Go.RowKit
set_option linter.unusedVariables false
namespace Nm
/-- A row's nodes, as a list. -/
def RowIs (W : World) (a : Option Addr) (l : List Nd) : Prop :=
  ∀ j, j < l.length → ∃ b off m u0 u1 u2 u3 u4 u5 u6 u7, a = some ⟨b, off, none⟩ ∧ b < W.heap.size ∧ l[j]? = some m ∧ NdIs W m [u0, u1, u2, u3, u4, u5, u6, u7] ∧
    W.cell? ⟨b, off + j * 8, none⟩ = some u0 ∧ W.cell? ⟨b, off + j * 8 + 1, none⟩ = some u1 ∧ W.cell? ⟨b, off + j * 8 + 2, none⟩ = some u2 ∧ W.cell? ⟨b, off + j * 8 + 3, none⟩ = some u3 ∧
    W.cell? ⟨b, off + j * 8 + 4, none⟩ = some u4 ∧ W.cell? ⟨b, off + j * 8 + 5, none⟩ = some u5 ∧ W.cell? ⟨b, off + j * 8 + 6, none⟩ = some u6 ∧ W.cell? ⟨b, off + j * 8 + 7, none⟩ = some u7
theorem RowIs.kept {W W' : World} {a : Option Addr} {l : List Nd} (h : RowIs W a l) (hb : Below W.heap.size W W') : RowIs W' a l := fun j hj => by
  obtain ⟨b, off, m, u0, u1, u2, u3, u4, u5, u6, u7, ha, hlt, hm, hn, c0, c1, c2, c3, c4, c5, c6, c7⟩ := h j hj
  exact ⟨b, off, m, u0, u1, u2, u3, u4, u5, u6, u7, ha, Nat.lt_of_lt_of_le hlt hb.size, hm, hn.kept hb, (hb.cell (p := ⟨b, off + j * 8, none⟩) hlt).trans c0, (hb.cell (p := ⟨b, off + j * 8 + 1, none⟩) hlt).trans c1,
    (hb.cell (p := ⟨b, off + j * 8 + 2, none⟩) hlt).trans c2, (hb.cell (p := ⟨b, off + j * 8 + 3, none⟩) hlt).trans c3, (hb.cell (p := ⟨b, off + j * 8 + 4, none⟩) hlt).trans c4, (hb.cell (p := ⟨b, off + j * 8 + 5, none⟩) hlt).trans c5,
    (hb.cell (p := ⟨b, off + j * 8 + 6, none⟩) hlt).trans c6, (hb.cell (p := ⟨b, off + j * 8 + 7, none⟩) hlt).trans c7⟩
/-- What a repetition weighs whose Sub weighs w. -/
def repW (mn mx : Int) (w : Nat) : Nat :=
  if (mx = -1) then min 4001 (1 + min mn.toNat 4001 * w + (1 + w)) else if max mn 0 < mx then min 4001 (1 + min mn.toNat 4001 * w + min (mx - max mn 0).toNat 4001 * (2 + w)) else min 4001 (1 + min mn.toNat 4001 * w)
/-- The weight of a node that has so many levels yet, at most 4001. -/
def wtN : Nat → Nd → Nat
  | 0, _ => 4001
  | k + 1, n =>
    if Td.kind n = 6 ∨ Td.kind n = 7 ∨ Td.kind n = 8 then min 4001 (1 + min 4001 ((Td.subs n).map (wtN k)).sum) else
    if Td.kind n = 9 then (if max (Td.mn n) 0 = 0 ∧ Td.mx n ≤ 0 ∧ Td.mx n ≠ -1 then 1 else repW (Td.mn n) (Td.mx n) (min 4001 ((Td.subs n).map (wtN k)).sum)) else 1
def wtL (k : Nat) (l : List Nd) : Nat := min 4001 (l.map (wtN k)).sum
theorem sum_take (f : Nd → Nat) (l : List Nd) (i : Nat) (m : Nd) (h : l[i]? = some m) : ((l.take (i + 1)).map f).sum = ((l.take i).map f).sum + f m := by
  obtain ⟨hi, rfl⟩ := List.getElem?_eq_some_iff.1 h
  rw [List.take_succ_eq_append_getElem hi, List.map_append, List.sum_append]
  simp
theorem sum_take_le (f : Nd → Nat) (l : List Nd) (i : Nat) : ((l.take i).map f).sum ≤ (l.map f).sum := by
  conv => rhs; rw [← List.take_append_drop i l, List.map_append, List.sum_append]
  omega
theorem wtN_le : ∀ (k : Nat) (n : Nd), wtN k n ≤ 4001
  | 0, n => Nat.le_refl _
  | k + 1, n => by
    rw [wtN]
    unfold repW
    repeat' split
    all_goals omega
end Nm
open Go.Proofs.Ythhdlcckboiecaa.Nm
set_option maxRecDepth 100000 in
set_option maxHeartbeats 2000000 in
theorem clamp_any (W : World) (x lo hi : Int) (h : lo ≤ hi) : Calls Try.prog 50 #[.int .i64 x, .int .i64 lo, .int .i64 hi] W fun e w' => e = .returned (.int .i64 (max lo (min x hi))) ∧ W = w' := by
  go_enter Try.func50, Try.ntmps50
  go_wp2
  all_goals
    go_ret
    refine ⟨congrArg Ending.returned (congrArg (Value.int IntKind.i64) ?_), rfl⟩
    omega
set_option maxRecDepth 100000 in
set_option maxHeartbeats 2000000 in
theorem product_any (W : World) (x : Int) (w : Nat) (hw : w ≤ 10000) (hx : 0 ≤ x) : Calls Try.prog 63 #[.int .i64 x, .int .i64 (w : Int)] W fun e w' => e = .returned (.int .i64 ((min x.toNat 4001 * w : Nat) : Int)) ∧ W = w' := by
  obtain ⟨p, rfl⟩ : ∃ p : Nat, x = (p : Int) := ⟨x.toNat, by omega⟩
  rw [Int.toNat_natCast]
  have HC := Lib.hid (clamp_any W (p : Int) 0 4001 (by omega))
  obtain ⟨m, hm⟩ : ∃ m, min p 4001 = m := ⟨_, rfl⟩
  have hcl : max 0 (min (p : Int) 4001) = (m : Int) := by omega
  rw [hcl] at HC
  have hmul : m * w ≤ 4001 * 10000 := Nat.mul_le_mul (by omega) hw
  have hwr : IntKind.i64.wrap ((m : Int) * (w : Int)) = ((m * w : Nat) : Int) := by rw [IntKind.wrap_i64, ← Int.natCast_mul]; omega
  rw [hm]
  clear hcl hm hmul
  go_enter Try.func63, Try.ntmps63
  go_wp2_with fail
  refine HC.out.mono ?_
  rintro e w' ⟨rfl, rfl⟩
  go_wp2
  go_ret
  exact ⟨rfl, rfl⟩
def WtOk (k : Nat) : Prop := ∀ (W : World) (n : Nd) (cs : List Value) (d : Nat), d + k = 1001 → NdIs W n cs → Calls Try.prog 33 #[.agg cs.toArray, .int .i64 (d : Int)] W fun e w' => e = .returned (.int .i64 (wtN k n : Int)) ∧ Below W.heap.size W w'
set_option maxRecDepth 100000 in
set_option maxHeartbeats 4000000 in
theorem weights_any (k : Nat) (ih : WtOk k) (W : World) (l : List Nd) (a : Option Addr) (cap d : Nat) (hd : d + k = 1001) (hlen : l.length ≤ 8796093022208) (hr : RowIs W a l) :
    Calls Try.prog 51 #[.slice a l.length cap, .int .i64 (d : Int)] W fun e w' => e = .returned (.int .i64 (wtL k l : Int)) ∧ Below W.heap.size W w' := by
  obtain ⟨N, hN⟩ : ∃ N, l.length = N := ⟨_, rfl⟩
  rw [hN] at hlen ⊢
  have HNN := Lib.hid hN
  have HR := Lib.hid hr
  have IH := Lib.hid (fun (w : World) (n : Nd) (cs : List Value) (h : NdIs w n cs) => ih w n cs d hd h)
  have HLE := Lib.hid (sum_take_le (wtN k) l)
  have HCL := Lib.hid (fun w (x : Int) => clamp_any w x 0 4001 (by omega))
  clear hN hr ih
  go_enter Try.func51, Try.ntmps51
  go_wp2
  go_loopw [5, 10] (fun sv iv wr => ∃ (i s : Nat), i ≤ N ∧ sv = .int .i64 (s : Int) ∧ iv = .int .i64 (i : Int) ∧ Hid (s = min 4001 ((l.take i).map (wtN k)).sum) ∧ s ≠ 4001 ∧ Hid (Below W.heap.size W wr)) (fun _ iv _ => N - (intOf iv).toNat)
  case atStart => exact ⟨0, 0, Nat.zero_le _, rfl, rfl, Lib.hid (by simp), by omega, Lib.hid (Below.refl _ _)⟩
  case round =>
    obtain ⟨i, s, hi, rfl, rfl, HS, hs1, HB⟩ := hrel
    have hs9 : s ≤ 4001 := by rw [HS.out]; omega
    by_cases hlt : i < N
    · obtain ⟨b, off, m, u0, u1, u2, u3, u4, u5, u6, u7, rfl, hb, hm, hnd, q0, q1, q2, q3, q4, q5, q6, q7⟩ := HR.out i (by rw [HNN.out]; exact hlt)
      have kc : ∀ o v, W.cell? ⟨b, o, none⟩ = some v → wr.cell? ⟨b, o, none⟩ = some v := fun o v h => (HB.out.cell (p := ⟨b, o, none⟩) hb).trans h
      replace q0 := kc _ _ q0; replace q1 := kc _ _ q1; replace q2 := kc _ _ q2; replace q3 := kc _ _ q3
      replace q4 := kc _ _ q4; replace q5 := kc _ _ q5; replace q6 := kc _ _ q6; replace q7 := kc _ _ q7
      have hbl : b < wr.heap.size := Nat.lt_of_lt_of_le hb HB.out.size
      have HND := Lib.hid hnd
      obtain ⟨f1, f2, f3, f4, F1⟩ := hnd.form
      obtain ⟨rfl, rfl, rfl, rfl, rfl, rfl, rfl, rfl⟩ := F1
      have HM := Lib.hid (sum_take (wtN k) l i m hm)
      obtain ⟨z, hz⟩ : ∃ z, wtN k m = z := ⟨_, rfl⟩
      have hz9 : z ≤ 4001 := by rw [← hz]; exact wtN_le k m
      rw [hz] at HM
      have HC := Lib.hid (fun (w : World) (hw : Below W.heap.size W w) => IH.out w m _ (HND.out.kept hw))
      rw [hz] at HC
      have k0 : (0 : Int) ≤ (i : Int) := by omega
      have k1 : (i : Int) < (N : Int) := by omega
      have HBA : Hid (∀ o : Obj, Below W.heap.size W (wr.alloc o)) := Lib.hid (fun o => HB.out.alloc HB.out.size o)
      obtain ⟨y, hy⟩ : ∃ y, min 4001 (s + z) = y := ⟨_, rfl⟩
      have hyc : max 0 (min ((s : Int) + (z : Int)) 4001) = (y : Int) := by omega
      have HY : Hid (y = min 4001 ((l.take (i + 1)).map (wtN k)).sum) := Lib.hid (by rw [HM.out, ← hy, HS.out]; omega)
      have HYC := Lib.hid hyc
      clear kc hm hnd hz hy hyc hb
      go_wp2_with fail
      refine (HC.out _ (HBA.out _)).mono ?_
      rintro e w5 ⟨rfl, hb5⟩
      have HB5 := Lib.hid ((HBA.out _).trans (hb5.mono (HBA.out _).size))
      clear hb5 q0 q1 q2 q3 q4 q5 q6 q7
      go_wp2_with fail
      refine (HCL.out _ _).mono ?_
      rintro e w6 ⟨rfl, rfl⟩
      rw [HYC.out]
      by_cases h41 : y = 4001
      · have h41i : ((y : Int) == 4001) = true := by rw [h41]; rfl
        have HE : Hid (wtL k l = y) := Lib.hid (by
          have h1 := HLE.out (i + 1)
          have h2 := HY.out
          unfold wtL
          omega)
        clear h41 hlt k1
        go_wp2
        go_ret
        exact ⟨by rw [HE.out]; rfl, HB5.out⟩
      · have h41i : ((y : Int) == 4001) = false := by rw [beq_eq_false_iff_ne]; omega
        go_wp2
        go_roundw
        case rel => exact ⟨i + 1, y, by omega, rfl, by go_num, HY, h41, HB5⟩
        case measure => simp [intOf]; omega
    · obtain rfl : i = N := by omega
      have HE : Hid (wtL k l = s) := Lib.hid (by
        have h2 := HS.out
        rw [List.take_of_length_le (by rw [HNN.out]; exact Nat.le_refl _)] at h2
        unfold wtL
        omega)
      go_wp2
      go_ret
      exact ⟨by rw [HE.out]; rfl, HB.out⟩
/-- The ways of a repetition: its weight out of that of its Subs. -/
structure RepIn (W : World) (l : List Nd) (a : Option Addr) (cap d w : Nat) : Prop where
  ws : ∀ x : World, Below W.heap.size W x → Calls Try.prog 51 #[.slice a l.length cap, .int .i64 ((d + 1 : Nat) : Int)] x fun e w' => e = .returned (.int .i64 (w : Int)) ∧ Below x.heap.size x w'
  le : w ≤ 4001
  dw : d ≤ 1000
set_option maxRecDepth 100000 in
set_option maxHeartbeats 4000000 in
theorem rep_neg_m (W : World) (l : List Nd) (a : Option Addr) (cap d w : Nat) (hR : RepIn W l a cap d w) (vs : Value) (K M : Int) (S : ByteArray) (lz : Bool) (mn : Int) (n0 : mn < 0) (n1 : -9223372036854775808 ≤ mn) :
    Calls Try.prog 52 #[.agg #[.int .i64 K, vs, .int .i64 M, .string S, .int .i64 mn, .int .i64 (-1), .bool lz, .slice a l.length cap], .int .i64 (d : Int)] W fun e w' => e = .returned (.int .i64 ((min 4001 (1 + min (Int.toNat 0) 4001 * w + (1 + w)) : Nat) : Int)) ∧ Below W.heap.size W w' := by
  have hw9 := hR.le
  have hd9 := hR.dw
  have HWS := Lib.hid hR.ws
  have B1 : Hid (∀ o : Obj, Below W.heap.size W (W.alloc o)) := Lib.hid (fun o => (Below.refl _ _).alloc (Nat.le_refl _) o)
  have hdw : IntKind.i64.wrap ((d : Int) + 1) = ((d + 1 : Nat) : Int) := by rw [IntKind.wrap_i64]; omega
  have HCL := Lib.hid (fun x (y : Int) => clamp_any x y 1 4001 (by omega))
  obtain ⟨N, hN⟩ : ∃ N, l.length = N := ⟨_, rfl⟩
  rw [hN] at HWS ⊢
  have HPR := Lib.hid (fun (x : World) => product_any x 0 w (by omega) (by omega))
  have hP : min (Int.toNat 0) 4001 * w ≤ 4001 * 4001 := Nat.mul_le_mul (by omega) hw9
  obtain ⟨A, hA⟩ : ∃ A, min (Int.toNat 0) 4001 * w = A := ⟨_, rfl⟩
  rw [hA] at HPR hP
  rw [hA]
  obtain ⟨y, hy⟩ : ∃ y, min 4001 (1 + A + (1 + w)) = y := ⟨_, rfl⟩
  have hyc : max 1 (min (1 + (A : Int) + (1 + (w : Int))) 4001) = (y : Int) := by omega
  rw [hy]
  clear hA hy
  have HYC := Lib.hid hyc
  clear hyc hR hN
  go_enter Try.func52, Try.ntmps52
  go_wp2_with fail
  refine (HWS.out _ (B1.out _)).mono ?_
  rintro e w2 ⟨rfl, hb2⟩
  have q5 : w2.cell? ⟨W.heap.size, 5, none⟩ = some (.int .i64 (-1)) := by rw [hb2.cell (p := ⟨W.heap.size, 5, none⟩) (by simp)]; simp
  have HB2 := Lib.hid ((B1.out _).trans (hb2.mono (B1.out _).size))
  clear hb2
  go_wp2_with fail
  refine (HPR.out _).mono ?_
  rintro e w3 ⟨rfl, rfl⟩
  go_wp2_with fail
  refine (HCL.out _ _).mono ?_
  rintro e w5 ⟨rfl, rfl⟩
  rw [HYC.out]
  go_wp2
  go_ret
  exact ⟨rfl, HB2.out⟩
set_option maxRecDepth 100000 in
set_option maxHeartbeats 4000000 in
theorem rep_neg_g (W : World) (l : List Nd) (a : Option Addr) (cap d w : Nat) (hR : RepIn W l a cap d w) (vs : Value) (K M : Int) (S : ByteArray) (lz : Bool) (mn : Int) (mx : Int) (n0 : mn < 0) (n1 : -9223372036854775808 ≤ mn) (x0 : 0 < mx) (x1 : mx ≤ 9223372036854775807) (x2 : ¬ mx = -1) (x3 : ¬ mx ≤ 0) :
    Calls Try.prog 52 #[.agg #[.int .i64 K, vs, .int .i64 M, .string S, .int .i64 mn, .int .i64 mx, .bool lz, .slice a l.length cap], .int .i64 (d : Int)] W fun e w' => e = .returned (.int .i64 ((min 4001 (1 + min (Int.toNat 0) 4001 * w + min mx.toNat 4001 * (2 + w)) : Nat) : Int)) ∧ Below W.heap.size W w' := by
  have hw9 := hR.le
  have hd9 := hR.dw
  have HWS := Lib.hid hR.ws
  have B1 : Hid (∀ o : Obj, Below W.heap.size W (W.alloc o)) := Lib.hid (fun o => (Below.refl _ _).alloc (Nat.le_refl _) o)
  have hdw : IntKind.i64.wrap ((d : Int) + 1) = ((d + 1 : Nat) : Int) := by rw [IntKind.wrap_i64]; omega
  have HCL := Lib.hid (fun x (y : Int) => clamp_any x y 1 4001 (by omega))
  obtain ⟨N, hN⟩ : ∃ N, l.length = N := ⟨_, rfl⟩
  rw [hN] at HWS ⊢
  have HPR := Lib.hid (fun (x : World) => product_any x 0 w (by omega) (by omega))
  have hP : min (Int.toNat 0) 4001 * w ≤ 4001 * 4001 := Nat.mul_le_mul (by omega) hw9
  obtain ⟨A, hA⟩ : ∃ A, min (Int.toNat 0) 4001 * w = A := ⟨_, rfl⟩
  rw [hA] at HPR hP
  have HPR2 := Lib.hid (fun (x : World) => product_any x mx (2 + w) (by omega) (by omega))
  have hB : min mx.toNat 4001 * (2 + w) ≤ 4001 * 5000 := Nat.mul_le_mul (by omega) (by omega)
  obtain ⟨B, hBB⟩ : ∃ B, min mx.toNat 4001 * (2 + w) = B := ⟨_, rfl⟩
  rw [hBB] at HPR2 hB
  have e2 : ((2 + w : Nat) : Int) = 2 + (w : Int) := by omega
  rw [e2] at HPR2
  have hsub : IntKind.i64.wrap mx = mx := by rw [IntKind.wrap_i64]; omega
  rw [hA, hBB]
  obtain ⟨y, hy⟩ : ∃ y, min 4001 (1 + A + B) = y := ⟨_, rfl⟩
  have hyc : max 1 (min (1 + (A : Int) + (B : Int)) 4001) = (y : Int) := by omega
  rw [hy]
  clear hA hy hBB e2
  have HYC := Lib.hid hyc
  clear hyc hR hN
  go_enter Try.func52, Try.ntmps52
  go_wp2_with fail
  refine (HWS.out _ (B1.out _)).mono ?_
  rintro e w2 ⟨rfl, hb2⟩
  have q5 : w2.cell? ⟨W.heap.size, 5, none⟩ = some (.int .i64 mx) := by rw [hb2.cell (p := ⟨W.heap.size, 5, none⟩) (by simp)]; simp
  have HB2 := Lib.hid ((B1.out _).trans (hb2.mono (B1.out _).size))
  clear hb2
  go_wp2_with fail
  refine (HPR.out _).mono ?_
  rintro e w3 ⟨rfl, rfl⟩
  go_wp2_with fail
  refine (HPR2.out _).mono ?_
  rintro e w4 ⟨rfl, rfl⟩
  go_wp2_with fail
  refine (HCL.out _ _).mono ?_
  rintro e w5 ⟨rfl, rfl⟩
  rw [HYC.out]
  go_wp2
  go_ret
  exact ⟨rfl, HB2.out⟩
set_option maxRecDepth 100000 in
set_option maxHeartbeats 4000000 in
theorem rep_neg_z (W : World) (l : List Nd) (a : Option Addr) (cap d : Nat) (vs : Value) (K M : Int) (S : ByteArray) (lz : Bool) (mn : Int) (mx : Int) (n0 : mn < 0) (n1 : -9223372036854775808 ≤ mn) (x0 : mx ≤ 0) (x1 : ¬ mx = -1) :
    Calls Try.prog 52 #[.agg #[.int .i64 K, vs, .int .i64 M, .string S, .int .i64 mn, .int .i64 mx, .bool lz, .slice a l.length cap], .int .i64 (d : Int)] W fun e w' => e = .returned (.int .i64 ((1 : Nat) : Int)) ∧ Below W.heap.size W w' := by
  obtain ⟨N, hN⟩ : ∃ N, l.length = N := ⟨_, rfl⟩
  rw [hN]
  clear hN
  go_enter Try.func52, Try.ntmps52
  go_wp2
  go_ret
  exact ⟨rfl, (Below.refl _ _).alloc (Nat.le_refl _) _⟩
set_option maxRecDepth 100000 in
set_option maxHeartbeats 4000000 in
theorem rep_zero_m (W : World) (l : List Nd) (a : Option Addr) (cap d w : Nat) (hR : RepIn W l a cap d w) (vs : Value) (K M : Int) (S : ByteArray) (lz : Bool) :
    Calls Try.prog 52 #[.agg #[.int .i64 K, vs, .int .i64 M, .string S, .int .i64 0, .int .i64 (-1), .bool lz, .slice a l.length cap], .int .i64 (d : Int)] W fun e w' => e = .returned (.int .i64 ((min 4001 (1 + min (Int.toNat 0) 4001 * w + (1 + w)) : Nat) : Int)) ∧ Below W.heap.size W w' := by
  have hw9 := hR.le
  have hd9 := hR.dw
  have HWS := Lib.hid hR.ws
  have B1 : Hid (∀ o : Obj, Below W.heap.size W (W.alloc o)) := Lib.hid (fun o => (Below.refl _ _).alloc (Nat.le_refl _) o)
  have hdw : IntKind.i64.wrap ((d : Int) + 1) = ((d + 1 : Nat) : Int) := by rw [IntKind.wrap_i64]; omega
  have HCL := Lib.hid (fun x (y : Int) => clamp_any x y 1 4001 (by omega))
  obtain ⟨N, hN⟩ : ∃ N, l.length = N := ⟨_, rfl⟩
  rw [hN] at HWS ⊢
  have HPR := Lib.hid (fun (x : World) => product_any x 0 w (by omega) (by omega))
  have hP : min (Int.toNat 0) 4001 * w ≤ 4001 * 4001 := Nat.mul_le_mul (by omega) hw9
  obtain ⟨A, hA⟩ : ∃ A, min (Int.toNat 0) 4001 * w = A := ⟨_, rfl⟩
  rw [hA] at HPR hP
  rw [hA]
  obtain ⟨y, hy⟩ : ∃ y, min 4001 (1 + A + (1 + w)) = y := ⟨_, rfl⟩
  have hyc : max 1 (min (1 + (A : Int) + (1 + (w : Int))) 4001) = (y : Int) := by omega
  rw [hy]
  clear hA hy
  have HYC := Lib.hid hyc
  clear hyc hR hN
  go_enter Try.func52, Try.ntmps52
  go_wp2_with fail
  refine (HWS.out _ (B1.out _)).mono ?_
  rintro e w2 ⟨rfl, hb2⟩
  have q5 : w2.cell? ⟨W.heap.size, 5, none⟩ = some (.int .i64 (-1)) := by rw [hb2.cell (p := ⟨W.heap.size, 5, none⟩) (by simp)]; simp
  have HB2 := Lib.hid ((B1.out _).trans (hb2.mono (B1.out _).size))
  clear hb2
  go_wp2_with fail
  refine (HPR.out _).mono ?_
  rintro e w3 ⟨rfl, rfl⟩
  go_wp2_with fail
  refine (HCL.out _ _).mono ?_
  rintro e w5 ⟨rfl, rfl⟩
  rw [HYC.out]
  go_wp2
  go_ret
  exact ⟨rfl, HB2.out⟩
set_option maxRecDepth 100000 in
set_option maxHeartbeats 4000000 in
theorem rep_zero_g (W : World) (l : List Nd) (a : Option Addr) (cap d w : Nat) (hR : RepIn W l a cap d w) (vs : Value) (K M : Int) (S : ByteArray) (lz : Bool) (mx : Int) (x0 : 0 < mx) (x1 : mx ≤ 9223372036854775807) (x2 : ¬ mx = -1) (x3 : ¬ mx ≤ 0) :
    Calls Try.prog 52 #[.agg #[.int .i64 K, vs, .int .i64 M, .string S, .int .i64 0, .int .i64 mx, .bool lz, .slice a l.length cap], .int .i64 (d : Int)] W fun e w' => e = .returned (.int .i64 ((min 4001 (1 + min (Int.toNat 0) 4001 * w + min mx.toNat 4001 * (2 + w)) : Nat) : Int)) ∧ Below W.heap.size W w' := by
  have hw9 := hR.le
  have hd9 := hR.dw
  have HWS := Lib.hid hR.ws
  have B1 : Hid (∀ o : Obj, Below W.heap.size W (W.alloc o)) := Lib.hid (fun o => (Below.refl _ _).alloc (Nat.le_refl _) o)
  have hdw : IntKind.i64.wrap ((d : Int) + 1) = ((d + 1 : Nat) : Int) := by rw [IntKind.wrap_i64]; omega
  have HCL := Lib.hid (fun x (y : Int) => clamp_any x y 1 4001 (by omega))
  obtain ⟨N, hN⟩ : ∃ N, l.length = N := ⟨_, rfl⟩
  rw [hN] at HWS ⊢
  have HPR := Lib.hid (fun (x : World) => product_any x 0 w (by omega) (by omega))
  have hP : min (Int.toNat 0) 4001 * w ≤ 4001 * 4001 := Nat.mul_le_mul (by omega) hw9
  obtain ⟨A, hA⟩ : ∃ A, min (Int.toNat 0) 4001 * w = A := ⟨_, rfl⟩
  rw [hA] at HPR hP
  have HPR2 := Lib.hid (fun (x : World) => product_any x mx (2 + w) (by omega) (by omega))
  have hB : min mx.toNat 4001 * (2 + w) ≤ 4001 * 5000 := Nat.mul_le_mul (by omega) (by omega)
  obtain ⟨B, hBB⟩ : ∃ B, min mx.toNat 4001 * (2 + w) = B := ⟨_, rfl⟩
  rw [hBB] at HPR2 hB
  have e2 : ((2 + w : Nat) : Int) = 2 + (w : Int) := by omega
  rw [e2] at HPR2
  have hsub : IntKind.i64.wrap mx = mx := by rw [IntKind.wrap_i64]; omega
  rw [hA, hBB]
  obtain ⟨y, hy⟩ : ∃ y, min 4001 (1 + A + B) = y := ⟨_, rfl⟩
  have hyc : max 1 (min (1 + (A : Int) + (B : Int)) 4001) = (y : Int) := by omega
  rw [hy]
  clear hA hy hBB e2
  have HYC := Lib.hid hyc
  clear hyc hR hN
  go_enter Try.func52, Try.ntmps52
  go_wp2_with fail
  refine (HWS.out _ (B1.out _)).mono ?_
  rintro e w2 ⟨rfl, hb2⟩
  have q5 : w2.cell? ⟨W.heap.size, 5, none⟩ = some (.int .i64 mx) := by rw [hb2.cell (p := ⟨W.heap.size, 5, none⟩) (by simp)]; simp
  have HB2 := Lib.hid ((B1.out _).trans (hb2.mono (B1.out _).size))
  clear hb2
  go_wp2_with fail
  refine (HPR.out _).mono ?_
  rintro e w3 ⟨rfl, rfl⟩
  go_wp2_with fail
  refine (HPR2.out _).mono ?_
  rintro e w4 ⟨rfl, rfl⟩
  go_wp2_with fail
  refine (HCL.out _ _).mono ?_
  rintro e w5 ⟨rfl, rfl⟩
  rw [HYC.out]
  go_wp2
  go_ret
  exact ⟨rfl, HB2.out⟩
set_option maxRecDepth 100000 in
set_option maxHeartbeats 4000000 in
theorem rep_zero_z (W : World) (l : List Nd) (a : Option Addr) (cap d : Nat) (vs : Value) (K M : Int) (S : ByteArray) (lz : Bool) (mx : Int) (x0 : mx ≤ 0) (x1 : ¬ mx = -1) :
    Calls Try.prog 52 #[.agg #[.int .i64 K, vs, .int .i64 M, .string S, .int .i64 0, .int .i64 mx, .bool lz, .slice a l.length cap], .int .i64 (d : Int)] W fun e w' => e = .returned (.int .i64 ((1 : Nat) : Int)) ∧ Below W.heap.size W w' := by
  obtain ⟨N, hN⟩ : ∃ N, l.length = N := ⟨_, rfl⟩
  rw [hN]
  clear hN
  go_enter Try.func52, Try.ntmps52
  go_wp2
  go_ret
  exact ⟨rfl, (Below.refl _ _).alloc (Nat.le_refl _) _⟩
set_option maxRecDepth 100000 in
set_option maxHeartbeats 4000000 in
theorem rep_pos_m (W : World) (l : List Nd) (a : Option Addr) (cap d w : Nat) (hR : RepIn W l a cap d w) (vs : Value) (K M : Int) (S : ByteArray) (lz : Bool) (mn : Int) (n0 : 0 < mn) (n1 : mn ≤ 9223372036854775807) :
    Calls Try.prog 52 #[.agg #[.int .i64 K, vs, .int .i64 M, .string S, .int .i64 mn, .int .i64 (-1), .bool lz, .slice a l.length cap], .int .i64 (d : Int)] W fun e w' => e = .returned (.int .i64 ((min 4001 (1 + min (Int.toNat mn) 4001 * w + (1 + w)) : Nat) : Int)) ∧ Below W.heap.size W w' := by
  have hw9 := hR.le
  have hd9 := hR.dw
  have HWS := Lib.hid hR.ws
  have B1 : Hid (∀ o : Obj, Below W.heap.size W (W.alloc o)) := Lib.hid (fun o => (Below.refl _ _).alloc (Nat.le_refl _) o)
  have hdw : IntKind.i64.wrap ((d : Int) + 1) = ((d + 1 : Nat) : Int) := by rw [IntKind.wrap_i64]; omega
  have HCL := Lib.hid (fun x (y : Int) => clamp_any x y 1 4001 (by omega))
  obtain ⟨N, hN⟩ : ∃ N, l.length = N := ⟨_, rfl⟩
  rw [hN] at HWS ⊢
  have n2 : ¬ mn = 0 := by omega
  have HPR := Lib.hid (fun (x : World) => product_any x mn w (by omega) (by omega))
  have hP : min (Int.toNat mn) 4001 * w ≤ 4001 * 4001 := Nat.mul_le_mul (by omega) hw9
  obtain ⟨A, hA⟩ : ∃ A, min (Int.toNat mn) 4001 * w = A := ⟨_, rfl⟩
  rw [hA] at HPR hP
  rw [hA]
  obtain ⟨y, hy⟩ : ∃ y, min 4001 (1 + A + (1 + w)) = y := ⟨_, rfl⟩
  have hyc : max 1 (min (1 + (A : Int) + (1 + (w : Int))) 4001) = (y : Int) := by omega
  rw [hy]
  clear hA hy
  have HYC := Lib.hid hyc
  clear hyc hR hN
  go_enter Try.func52, Try.ntmps52
  go_wp2_with fail
  refine (HWS.out _ (B1.out _)).mono ?_
  rintro e w2 ⟨rfl, hb2⟩
  have q5 : w2.cell? ⟨W.heap.size, 5, none⟩ = some (.int .i64 (-1)) := by rw [hb2.cell (p := ⟨W.heap.size, 5, none⟩) (by simp)]; simp
  have HB2 := Lib.hid ((B1.out _).trans (hb2.mono (B1.out _).size))
  clear hb2
  go_wp2_with fail
  refine (HPR.out _).mono ?_
  rintro e w3 ⟨rfl, rfl⟩
  go_wp2_with fail
  refine (HCL.out _ _).mono ?_
  rintro e w5 ⟨rfl, rfl⟩
  rw [HYC.out]
  go_wp2
  go_ret
  exact ⟨rfl, HB2.out⟩
set_option maxRecDepth 100000 in
set_option maxHeartbeats 4000000 in
theorem rep_pos_g (W : World) (l : List Nd) (a : Option Addr) (cap d w : Nat) (hR : RepIn W l a cap d w) (vs : Value) (K M : Int) (S : ByteArray) (lz : Bool) (mn : Int) (mx : Int) (n0 : 0 < mn) (n1 : mn ≤ 9223372036854775807) (x0 : mn < mx) (x1 : mx ≤ 9223372036854775807) (x2 : ¬ mx = -1) :
    Calls Try.prog 52 #[.agg #[.int .i64 K, vs, .int .i64 M, .string S, .int .i64 mn, .int .i64 mx, .bool lz, .slice a l.length cap], .int .i64 (d : Int)] W fun e w' => e = .returned (.int .i64 ((min 4001 (1 + min (Int.toNat mn) 4001 * w + min (mx - mn).toNat 4001 * (2 + w)) : Nat) : Int)) ∧ Below W.heap.size W w' := by
  have hw9 := hR.le
  have hd9 := hR.dw
  have HWS := Lib.hid hR.ws
  have B1 : Hid (∀ o : Obj, Below W.heap.size W (W.alloc o)) := Lib.hid (fun o => (Below.refl _ _).alloc (Nat.le_refl _) o)
  have hdw : IntKind.i64.wrap ((d : Int) + 1) = ((d + 1 : Nat) : Int) := by rw [IntKind.wrap_i64]; omega
  have HCL := Lib.hid (fun x (y : Int) => clamp_any x y 1 4001 (by omega))
  obtain ⟨N, hN⟩ : ∃ N, l.length = N := ⟨_, rfl⟩
  rw [hN] at HWS ⊢
  have n2 : ¬ mn = 0 := by omega
  have HPR := Lib.hid (fun (x : World) => product_any x mn w (by omega) (by omega))
  have hP : min (Int.toNat mn) 4001 * w ≤ 4001 * 4001 := Nat.mul_le_mul (by omega) hw9
  obtain ⟨A, hA⟩ : ∃ A, min (Int.toNat mn) 4001 * w = A := ⟨_, rfl⟩
  rw [hA] at HPR hP
  have HPR2 := Lib.hid (fun (x : World) => product_any x (mx - mn) (2 + w) (by omega) (by omega))
  have hB : min (mx - mn).toNat 4001 * (2 + w) ≤ 4001 * 5000 := Nat.mul_le_mul (by omega) (by omega)
  obtain ⟨B, hBB⟩ : ∃ B, min (mx - mn).toNat 4001 * (2 + w) = B := ⟨_, rfl⟩
  rw [hBB] at HPR2 hB
  have e2 : ((2 + w : Nat) : Int) = 2 + (w : Int) := by omega
  rw [e2] at HPR2
  have hsub : IntKind.i64.wrap (mx - mn) = mx - mn := by rw [IntKind.wrap_i64]; omega
  rw [hA, hBB]
  obtain ⟨y, hy⟩ : ∃ y, min 4001 (1 + A + B) = y := ⟨_, rfl⟩
  have hyc : max 1 (min (1 + (A : Int) + (B : Int)) 4001) = (y : Int) := by omega
  rw [hy]
  clear hA hy hBB e2
  have HYC := Lib.hid hyc
  clear hyc hR hN
  go_enter Try.func52, Try.ntmps52
  go_wp2_with fail
  refine (HWS.out _ (B1.out _)).mono ?_
  rintro e w2 ⟨rfl, hb2⟩
  have q5 : w2.cell? ⟨W.heap.size, 5, none⟩ = some (.int .i64 mx) := by rw [hb2.cell (p := ⟨W.heap.size, 5, none⟩) (by simp)]; simp
  have HB2 := Lib.hid ((B1.out _).trans (hb2.mono (B1.out _).size))
  clear hb2
  go_wp2_with fail
  refine (HPR.out _).mono ?_
  rintro e w3 ⟨rfl, rfl⟩
  go_wp2_with fail
  refine (HPR2.out _).mono ?_
  rintro e w4 ⟨rfl, rfl⟩
  go_wp2_with fail
  refine (HCL.out _ _).mono ?_
  rintro e w5 ⟨rfl, rfl⟩
  rw [HYC.out]
  go_wp2
  go_ret
  exact ⟨rfl, HB2.out⟩
set_option maxRecDepth 100000 in
set_option maxHeartbeats 4000000 in
theorem rep_pos_l (W : World) (l : List Nd) (a : Option Addr) (cap d w : Nat) (hR : RepIn W l a cap d w) (vs : Value) (K M : Int) (S : ByteArray) (lz : Bool) (mn : Int) (mx : Int) (n0 : 0 < mn) (n1 : mn ≤ 9223372036854775807) (x0 : ¬ mn < mx) (x1 : -9223372036854775808 ≤ mx) (x2 : ¬ mx = -1) :
    Calls Try.prog 52 #[.agg #[.int .i64 K, vs, .int .i64 M, .string S, .int .i64 mn, .int .i64 mx, .bool lz, .slice a l.length cap], .int .i64 (d : Int)] W fun e w' => e = .returned (.int .i64 ((min 4001 (1 + min (Int.toNat mn) 4001 * w) : Nat) : Int)) ∧ Below W.heap.size W w' := by
  have hw9 := hR.le
  have hd9 := hR.dw
  have HWS := Lib.hid hR.ws
  have B1 : Hid (∀ o : Obj, Below W.heap.size W (W.alloc o)) := Lib.hid (fun o => (Below.refl _ _).alloc (Nat.le_refl _) o)
  have hdw : IntKind.i64.wrap ((d : Int) + 1) = ((d + 1 : Nat) : Int) := by rw [IntKind.wrap_i64]; omega
  have HCL := Lib.hid (fun x (y : Int) => clamp_any x y 1 4001 (by omega))
  obtain ⟨N, hN⟩ : ∃ N, l.length = N := ⟨_, rfl⟩
  rw [hN] at HWS ⊢
  have n2 : ¬ mn = 0 := by omega
  have HPR := Lib.hid (fun (x : World) => product_any x mn w (by omega) (by omega))
  have hP : min (Int.toNat mn) 4001 * w ≤ 4001 * 4001 := Nat.mul_le_mul (by omega) hw9
  obtain ⟨A, hA⟩ : ∃ A, min (Int.toNat mn) 4001 * w = A := ⟨_, rfl⟩
  rw [hA] at HPR hP
  rw [hA]
  obtain ⟨y, hy⟩ : ∃ y, min 4001 (1 + A) = y := ⟨_, rfl⟩
  have hyc : max 1 (min (1 + (A : Int)) 4001) = (y : Int) := by omega
  rw [hy]
  clear hA hy
  have HYC := Lib.hid hyc
  clear hyc hR hN
  go_enter Try.func52, Try.ntmps52
  go_wp2_with fail
  refine (HWS.out _ (B1.out _)).mono ?_
  rintro e w2 ⟨rfl, hb2⟩
  have q5 : w2.cell? ⟨W.heap.size, 5, none⟩ = some (.int .i64 mx) := by rw [hb2.cell (p := ⟨W.heap.size, 5, none⟩) (by simp)]; simp
  have HB2 := Lib.hid ((B1.out _).trans (hb2.mono (B1.out _).size))
  clear hb2
  go_wp2_with fail
  refine (HPR.out _).mono ?_
  rintro e w3 ⟨rfl, rfl⟩
  go_wp2_with fail
  refine (HCL.out _ _).mono ?_
  rintro e w5 ⟨rfl, rfl⟩
  rw [HYC.out]
  go_wp2
  go_ret
  exact ⟨rfl, HB2.out⟩
theorem weightRep_any (k : Nat) (ih : WtOk k) (W : World) (n : Nd) (cs : List Value) (d : Nat) (hd : d + k + 1 = 1001) (hn : NdIs W n cs) (hk : Td.kind n = 9) :
    Calls Try.prog 52 #[.agg cs.toArray, .int .i64 (d : Int)] W fun e w' => e = .returned (.int .i64 (wtN (k + 1) n : Int)) ∧ Below W.heap.size W w' := by
  obtain ⟨vs, a, cap, C, hC⟩ := hn.cells
  have hcs := hC.eq
  have hlen := hC.len
  obtain ⟨_, _, hm1, hm2⟩ := hC.bd
  subst hcs
  have hrow : RowIs W a (Td.subs n) := hC.sub
  have hR : RepIn W (Td.subs n) a cap d (wtL k (Td.subs n)) := ⟨fun x hx => weights_any k ih x _ a cap (d + 1) (by omega) hlen (hrow.kept hx), by unfold wtL; omega, by omega⟩
  have hWT : wtN (k + 1) n = if max (Td.mn n) 0 = 0 ∧ Td.mx n ≤ 0 ∧ Td.mx n ≠ -1 then 1 else repW (Td.mn n) (Td.mx n) (wtL k (Td.subs n)) := by
    rw [wtN, if_neg (by omega), if_pos hk]; rfl
  rw [hWT]
  unfold repW
  unfold I64 at hm1 hm2
  generalize wtL k (Td.subs n) = w at hR ⊢
  generalize Td.mn n = mn at hm1 ⊢
  generalize Td.mx n = mx at hm2 ⊢
  rcases Int.lt_trichotomy mn 0 with n0 | rfl | n0
  · have e0 : mn.toNat = Int.toNat 0 := by omega
    by_cases x0 : mx = -1
    · subst x0
      rw [if_neg (by omega), if_pos rfl, e0]
      exact rep_neg_m W _ a cap d w hR vs _ _ _ _ mn n0 hm1.1
    by_cases x1 : 0 < mx
    · rw [if_neg (by omega), if_neg x0, if_pos (by omega), e0, show max mn 0 = 0 by omega, Int.sub_zero]
      exact rep_neg_g W _ a cap d w hR vs _ _ _ _ mn mx n0 hm1.1 x1 hm2.2 x0 (by omega)
    · rw [if_pos ⟨by omega, by omega, x0⟩]
      exact rep_neg_z W _ a cap d vs _ _ _ _ mn mx n0 hm1.1 (by omega) x0
  · by_cases x0 : mx = -1
    · subst x0
      rw [if_neg (by omega), if_pos rfl]
      exact rep_zero_m W _ a cap d w hR vs _ _ _ _
    by_cases x1 : 0 < mx
    · rw [if_neg (by omega), if_neg x0, if_pos (by omega), show max (0 : Int) 0 = 0 by omega, Int.sub_zero]
      exact rep_zero_g W _ a cap d w hR vs _ _ _ _ mx x1 hm2.2 x0 (by omega)
    · rw [if_pos ⟨by omega, by omega, x0⟩]
      exact rep_zero_z W _ a cap d vs _ _ _ _ mx (by omega) x0
  · by_cases x0 : mx = -1
    · subst x0
      rw [if_neg (by omega), if_pos rfl]
      exact rep_pos_m W _ a cap d w hR vs _ _ _ _ mn n0 hm1.2
    by_cases x1 : mn < mx
    · rw [if_neg (by omega), if_neg x0, if_pos (by omega), show max mn 0 = mn by omega]
      exact rep_pos_g W _ a cap d w hR vs _ _ _ _ mn mx n0 hm1.2 x1 hm2.2 x0
    · rw [if_neg (by omega), if_neg x0, if_neg (by omega)]
      exact rep_pos_l W _ a cap d w hR vs _ _ _ _ mn mx n0 hm1.2 x1 hm2.1 x0
set_option maxRecDepth 100000 in
set_option maxHeartbeats 4000000 in
theorem weight_step (k : Nat) (ih : WtOk k) : WtOk (k + 1) := by
  intro W n cs d hd hn
  have hd9 : ¬ (1000 : Int) < (d : Int) := by omega
  have hdw : IntKind.i64.wrap ((d : Int) + 1) = ((d + 1 : Nat) : Int) := by rw [IntKind.wrap_i64]; omega
  have HWT : Hid (wtN (k + 1) n = if Td.kind n = 6 ∨ Td.kind n = 7 ∨ Td.kind n = 8 then min 4001 (1 + wtL k (Td.subs n)) else if Td.kind n = 9 then wtN (k + 1) n else 1) := Lib.hid (by
    by_cases c : Td.kind n = 6 ∨ Td.kind n = 7 ∨ Td.kind n = 8
    · rw [if_pos c, wtN, if_pos c]; rfl
    · rw [if_neg c]
      by_cases c9 : Td.kind n = 9
      · rw [if_pos c9]
      · rw [if_neg c9, wtN, if_neg c, if_neg c9])
  have HRP := Lib.hid (fun (x : World) (hx : Below W.heap.size W x) (hk : Td.kind n = 9) => weightRep_any k ih x n cs d (by omega) (hn.kept hx) hk)
  obtain ⟨vs, a, cap, C, hC⟩ := hn.cells
  have hcs := hC.eq
  have hlen := hC.len
  subst hcs
  have hrow : RowIs W a (Td.subs n) := hC.sub
  have HWS := Lib.hid (fun (x : World) (hx : Below W.heap.size W x) => weights_any k ih x _ a cap (d + 1) (by omega) hlen (hrow.kept hx))
  have HCL := Lib.hid (fun x (y : Int) => clamp_any x y 1 4001 (by omega))
  obtain ⟨K, hK⟩ : ∃ K, Td.kind n = K := ⟨_, rfl⟩
  obtain ⟨N, hN⟩ : ∃ N, (Td.subs n).length = N := ⟨_, rfl⟩
  obtain ⟨w, hw⟩ : ∃ w, wtL k (Td.subs n) = w := ⟨_, rfl⟩
  have hw9 : w ≤ 4001 := by rw [← hw]; unfold wtL; omega
  obtain ⟨R, hR⟩ : ∃ R, wtN (k + 1) n = R := ⟨_, rfl⟩
  rw [hK, hw, hR] at HWT
  rw [hK, hN, hR] at HRP
  rw [hN, hw] at HWS
  rw [hK, hN, hR]
  have B1 : Hid (∀ o : Obj, Below W.heap.size W (W.alloc o)) := Lib.hid (fun o => (Below.refl _ _).alloc (Nat.le_refl _) o)
  clear hC hn hrow hK hN hw hR ih hlen
  by_cases c : K = 6 ∨ K = 7 ∨ K = 8
  · have HE : Hid (R = min 4001 (1 + w)) := Lib.hid (by rw [HWT.out, if_pos c])
    obtain ⟨y, hy⟩ : ∃ y, min 4001 (1 + w) = y := ⟨_, rfl⟩
    have hyc : max 1 (min (1 + (w : Int)) 4001) = (y : Int) := by omega
    rw [hy] at HE
    have HYC := Lib.hid hyc
    clear hyc hy HWT HRP
    rcases c with rfl | rfl | rfl
    all_goals
      go_enter Try.func33, Try.ntmps33
      go_wp2_with fail
      refine (HWS.out _ (B1.out _)).mono ?_
      rintro e w2 ⟨rfl, hb2⟩
      have HB2 := Lib.hid ((B1.out _).trans (hb2.mono (B1.out _).size))
      clear hb2
      go_wp2_with fail
      refine (HCL.out _ _).mono ?_
      rintro e w5 ⟨rfl, rfl⟩
      rw [HYC.out]
      go_wp2
      go_ret
      exact ⟨by rw [HE.out]; rfl, HB2.out⟩
  by_cases c9 : K = 9
  · subst c9
    clear HWT c
    go_enter Try.func33, Try.ntmps33
    go_wp2_with fail
    refine (HRP.out _ (B1.out _) (by trivial)).mono ?_
    rintro e w2 ⟨rfl, hb2⟩
    have HB2 := Lib.hid ((B1.out _).trans (hb2.mono (B1.out _).size))
    clear hb2
    go_wp2
    go_ret
    exact ⟨rfl, HB2.out⟩
  · have HE : Hid (R = 1) := Lib.hid (by rw [HWT.out, if_neg c, if_neg c9])
    have c6 : ¬ K = 6 := fun h => c (.inl h)
    have c7 : ¬ K = 7 := fun h => c (.inr (.inl h))
    have c8 : ¬ K = 8 := fun h => c (.inr (.inr h))
    clear HWT HRP c
    go_enter Try.func33, Try.ntmps33
    go_wp2
    go_ret
    exact ⟨by rw [HE.out]; rfl, B1.out _⟩
set_option maxRecDepth 100000 in
set_option maxHeartbeats 4000000 in
theorem weight_zero : WtOk 0 := by
  intro W n cs d hd hn
  obtain rfl : d = 1001 := by omega
  obtain ⟨vs, a, cap, C, hC⟩ := hn.cells
  have hcs := hC.eq
  subst hcs
  clear hC hn
  go_enter Try.func33, Try.ntmps33
  go_wp2
  go_ret
  exact ⟨rfl, (Below.refl _ _).alloc (Nat.le_refl _) _⟩
theorem weight_any : ∀ k, WtOk k
  | 0 => weight_zero
  | k + 1 => weight_step k (weight_any k)
set_option maxRecDepth 100000 in
set_option maxHeartbeats 4000000 in
theorem bigWeight_any (W : World) (n : Nd) (cs : List Value) (hn : NdIs W n cs) : Calls Try.prog 21 #[.agg cs.toArray] W fun e w' => e = .returned (.int .i64 (wtN 1000 n : Int)) ∧ Below W.heap.size W w' := by
  have HW := Lib.hid (fun (x : World) (hx : Below W.heap.size W x) => weight_any 1000 x n cs 1 (by omega) (hn.kept hx))
  obtain ⟨vs, a, cap, C, hC⟩ := hn.cells
  have hcs := hC.eq
  subst hcs
  have B1 : Hid (∀ o : Obj, Below W.heap.size W (W.alloc o)) := Lib.hid (fun o => (Below.refl _ _).alloc (Nat.le_refl _) o)
  obtain ⟨N, hN⟩ : ∃ N, (Td.subs n).length = N := ⟨_, rfl⟩
  rw [hN] at HW ⊢
  clear hC hn hN
  go_enter Try.func21, Try.ntmps21
  go_wp2_with fail
  refine (HW.out _ (B1.out _)).mono ?_
  rintro e w2 ⟨rfl, hb2⟩
  have HB2 := Lib.hid ((B1.out _).trans (hb2.mono (B1.out _).size))
  clear hb2
  go_wp2
  go_ret
  exact ⟨rfl, HB2.out⟩
end Go.Proofs.Ythhdlcckboiecaa
