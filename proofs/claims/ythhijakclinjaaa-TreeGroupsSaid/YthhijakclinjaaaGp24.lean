/- The reference's tree (burinref06): Nullable. -/
import Derived.Test.YthhijakclinjaaaGp4
import Derived.IntWalk
namespace Go.Proofs.Ythhijakclinjaaa
open Go.RowKit
set_option linter.unusedVariables false
namespace Td
/-- May it match nothing? Down to a depth. -/
def nul : Nat → Nd → Bool
  | 0, _ => false
  | k + 1, n => if kind n = 1 ∨ kind n = 5 then true else if kind n = 6 ∨ kind n = 7 then (subs n).all (nul k) else if kind n = 8 then (subs n).any (nul k) else if kind n = 9 then mn n == 0 || (subs n).all (nul k) else false
theorem all_take_succ (l : List Nd) (f : Nd → Bool) (k : Nat) (m : Nd) (hk : l[k]? = some m) : (l.take (k + 1)).all f = ((l.take k).all f && f m) := by
  obtain ⟨h, rfl⟩ := List.getElem?_eq_some_iff.1 hk
  rw [List.take_succ_eq_append_getElem h, List.all_append]; simp
theorem any_take_succ (l : List Nd) (f : Nd → Bool) (k : Nat) (m : Nd) (hk : l[k]? = some m) : (l.take (k + 1)).any f = ((l.take k).any f || f m) := by
  obtain ⟨h, rfl⟩ := List.getElem?_eq_some_iff.1 hk
  rw [List.take_succ_eq_append_getElem h, List.any_append]; simp
end Td
def NulOk (k : Nat) : Prop := ∀ (W : World) (n : Nd) (cs : List Value), NdIs W n cs → Calls Try.prog 24 #[.agg cs.toArray, .int .i64 (k : Int)] W fun e w' => e = .returned (.bool (Td.nul k n)) ∧ Below W.heap.size W w'
set_option maxRecDepth 100000 in
set_option maxHeartbeats 4000000 in
theorem nul_step (k M : Nat) (hM : M = k + 1) (hk : k ≤ 100000) (ih : NulOk k) : NulOk M := by
  intro W n cs h
  have hM1 : (M : Int) - 1 = (k : Int) := by omega
  have hM2 : ¬ (M : Int) < 1 := by omega
  have HM0 := Lib.hid hM
  have HN := Lib.hid h
  obtain ⟨vs, a, cap, C, hC⟩ := h.cells
  obtain ⟨N, hN⟩ : ∃ N, (Td.subs n).length = N := ⟨_, rfl⟩
  have hcs := hC.eq
  have hlen := hC.len
  rw [hN] at hcs hlen
  subst hcs
  have HC := Lib.hid hC
  have HNN := Lib.hid hN
  have IH := Lib.hid ih
  clear h hC hN ih hM
  obtain ⟨W1, hW1⟩ : ∃ W1, W.alloc (.cells #[.int .i64 (Td.kind n), vs, .int .i64 (Td.num n), .string (Td.name n), .int .i64 (Td.mn n), .int .i64 (Td.mx n), .bool (Td.lazy n), .slice a N cap] 25) = W1 := ⟨_, rfl⟩
  have B1 := Lib.hid (hW1 ▸ (Below.refl W.heap.size W).alloc (Nat.le_refl _) (.cells #[.int .i64 (Td.kind n), vs, .int .i64 (Td.num n), .string (Td.name n), .int .i64 (Td.mn n), .int .i64 (Td.mx n), .bool (Td.lazy n), .slice a N cap] 25) : Below W.heap.size W W1)
  have hbx : W1.cell? ⟨W.heap.size, 7, none⟩ = some (.slice a N cap) := by rw [← hW1]; simp
  have hb0 : W1.cell? ⟨W.heap.size, 0, none⟩ = some (.int .i64 (Td.kind n)) := by rw [← hW1]; simp
  have hb4 : W1.cell? ⟨W.heap.size, 4, none⟩ = some (.int .i64 (Td.mn n)) := by rw [← hW1]; simp
  have hsz1 : W1.heap.size = W.heap.size + 1 := by rw [← hW1]; simp
  have HBX := Lib.hid hbx
  have HB0 := Lib.hid hb0
  have HB4 := Lib.hid hb4
  have HSZ := Lib.hid hsz1
  have HW1 := Lib.hid hW1
  clear hbx hb0 hb4 hsz1 hW1
  go_enter Try.func24, Try.ntmps24
  go_wp2
  go_loopw [5, 6, 7] (fun av ov iv wr => ∃ (i : Nat) (x y : Bool), i ≤ N ∧ av = .bool x ∧ ov = .bool y ∧ iv = .int .i64 (i : Int) ∧ Hid (x = ((Td.subs n).take i).all (Td.nul k) ∧ y = ((Td.subs n).take i).any (Td.nul k)) ∧ Hid (Below W1.heap.size W1 wr)) (fun _ _ iv _ => N - (intOf iv).toNat)
  case atStart => exact ⟨0, true, false, Nat.zero_le _, rfl, rfl, rfl, Lib.hid (by simp), Lib.hid (by rw [← HW1.out]; exact Below.refl _ _)⟩
  case round =>
    obtain ⟨i, x, y, hi, rfl, rfl, rfl, HD2, HB⟩ := hrel
    have hbx : wr.cell? ⟨W.heap.size, 7, none⟩ = some (.slice a N cap) := (HB.out.cell (p := ⟨W.heap.size, 7, none⟩) (by rw [HSZ.out]; simp)).trans HBX.out
    have hbs : W.heap.size < wr.heap.size := by have := HB.out.size; rw [HSZ.out] at this; omega
    by_cases hlt : i < N
    · obtain ⟨b, off, m, u0, u1, u2, u3, u4, u5, u6, u7, rfl, hb, hm, hnd, q0, q1, q2, q3, q4, q5, q6, q7⟩ := HC.out.sub i (by rw [HNN.out]; exact hlt)
      have hbw : Below W.heap.size W wr := B1.out.trans (HB.out.mono B1.out.size)
      have kc : ∀ o v, W.cell? ⟨b, o, none⟩ = some v → wr.cell? ⟨b, o, none⟩ = some v := fun o v h => (hbw.cell (p := ⟨b, o, none⟩) hb).trans h
      replace q0 := kc _ _ q0; replace q1 := kc _ _ q1; replace q2 := kc _ _ q2; replace q3 := kc _ _ q3
      replace q4 := kc _ _ q4; replace q5 := kc _ _ q5; replace q6 := kc _ _ q6; replace q7 := kc _ _ q7
      have hbl : b < wr.heap.size := Nat.lt_of_lt_of_le hb hbw.size
      have HND := Lib.hid (hnd.kept hbw)
      have HM := Lib.hid hm
      clear kc hm hnd hbw
      go_wp2_with fail
      refine (IH.out _ _ _ HND.out).mono ?_
      rintro e w5 ⟨rfl, hb5⟩
      obtain ⟨z, hz⟩ : ∃ z : Bool, Td.nul k m = z := ⟨_, rfl⟩
      have HB5 := Lib.hid (HB.out.trans (hb5.mono HB.out.size))
      have HD3 : Hid ((x && z) = ((Td.subs n).take (i + 1)).all (Td.nul k) ∧ (y || z) = ((Td.subs n).take (i + 1)).any (Td.nul k)) := Lib.hid (by
        rw [Td.all_take_succ _ _ _ _ HM.out, Td.any_take_succ _ _ _ _ HM.out, ← HD2.out.1, ← HD2.out.2, hz]; exact ⟨rfl, rfl⟩)
      rw [hz]
      clear hb5 hz HD2
      cases x <;> cases y <;> cases z
      all_goals go_wp2
      all_goals go_roundw
      any_goals (case rel => exact ⟨i + 1, _, _, by omega, rfl, rfl, by go_num, HD3, HB5⟩)
      all_goals (simp [intOf]; omega)
    · obtain rfl : i = N := by omega
      have hb0 : wr.cell? ⟨W.heap.size, 0, none⟩ = some (.int .i64 (Td.kind n)) := (HB.out.cell (p := ⟨W.heap.size, 0, none⟩) (by rw [HSZ.out]; simp)).trans HB0.out
      have hb4 : wr.cell? ⟨W.heap.size, 4, none⟩ = some (.int .i64 (Td.mn n)) := (HB.out.cell (p := ⟨W.heap.size, 4, none⟩) (by rw [HSZ.out]; simp)).trans HB4.out
      have hE : Hid (Td.nul M n = if Td.kind n = 1 ∨ Td.kind n = 5 then true else if Td.kind n = 6 ∨ Td.kind n = 7 then x else if Td.kind n = 8 then y else if Td.kind n = 9 then Td.mn n == 0 || x else false) := Lib.hid (by
        rw [HM0.out, HD2.out.1, HD2.out.2, Td.nul, List.take_of_length_le (by rw [HNN.out]; exact Nat.le_refl _)])
      have HB6 := Lib.hid (B1.out.trans (HB.out.mono B1.out.size))
      clear HD2
      obtain ⟨K, hK⟩ : ∃ K, Td.kind n = K := ⟨_, rfl⟩
      rw [hK] at hE
      by_cases k1 : K = 1
      · go_wp2
        go_ret
        exact ⟨by rw [hE.out]; simp [*], HB6.out⟩
      by_cases k5 : K = 5
      · go_wp2
        go_ret
        exact ⟨by rw [hE.out]; simp [*], HB6.out⟩
      by_cases k6 : K = 6
      · go_wp2
        go_ret
        exact ⟨by rw [hE.out]; simp [*], HB6.out⟩
      by_cases k7 : K = 7
      · go_wp2
        go_ret
        exact ⟨by rw [hE.out]; simp [*], HB6.out⟩
      by_cases k8 : K = 8
      · go_wp2
        go_ret
        exact ⟨by rw [hE.out]; simp [*], HB6.out⟩
      by_cases k9 : K = 9
      · by_cases k0 : Td.mn n = 0
        · go_wp2
          go_ret
          exact ⟨by rw [hE.out]; simp [*], HB6.out⟩
        · go_wp2
          go_ret
          exact ⟨by rw [hE.out]; simp [*], HB6.out⟩
      · go_wp2
        go_ret
        exact ⟨by rw [hE.out]; simp [*], HB6.out⟩
theorem refNullable_any : ∀ k : Nat, k ≤ 100000 → NulOk k
  | 0, _ => by
    intro W n cs h
    obtain ⟨vs, a, cap, C, hC⟩ := h.cells
    have hcs := hC.eq
    subst hcs
    clear hC h
    go_enter Try.func24, Try.ntmps24
    go_wp2
    go_ret
    exact ⟨rfl, (Below.refl _ _).alloc (Nat.le_refl _) _⟩
  | k + 1, h => nul_step k _ rfl (by omega) (refNullable_any k (by omega))
end Go.Proofs.Ythhijakclinjaaa
