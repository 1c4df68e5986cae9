/- burinref16: Leads, has. -/
import Derived.Test.YtchcjinaagncjaaDoorGp15
namespace Go.Proofs.YtchcjinaagncjaaDoor
open Go.RowKit
set_option linter.unusedVariables false
set_option linter.unusedSimpArgs false
namespace Pgm
/-- What an instruction leads to, in the reference's order. -/
def ldL (i : In) : List Int := if i.op = 2 then [i.x, i.y] else if i.op = 1 ∨ i.op = 3 ∨ i.op = 4 then [i.x] else []
theorem ldL_mem (i : In) (t : Int) : t ∈ ldL i ↔ t ∈ tgL i := by
  unfold ldL tgL
  split
  · simp only [List.mem_cons, List.not_mem_nil, or_false]; exact or_comm
  · rfl
theorem ldL_len (i : In) : (ldL i).length ≤ 2 := by
  unfold ldL
  split
  · simp
  · split <;> simp
set_option maxRecDepth 100000 in
set_option maxHeartbeats 4000000 in
theorem leads_any (i : In) (W : World) : Calls Tryd.prog 50 #[.agg #[.int .i64 i.op, .int .i64 i.lo, .int .i64 i.hi, .int .i64 i.x, .int .i64 i.y]] W fun e w' => ∃ v, e = .returned v ∧ IOwn w' W.heap.size v (ldL i) ∧ Below W.heap.size W w' := by
  obtain ⟨W1, hW1⟩ : ∃ W1, W.alloc (.cells #[.int .i64 i.op, .int .i64 i.lo, .int .i64 i.hi, .int .i64 i.x, .int .i64 i.y] 60) = W1 := ⟨_, rfl⟩
  have hx := inst_block W i
  have hb1 : Below W.heap.size W W1 := by rw [← hW1]; exact (Below.refl _ _).alloc (Nat.le_refl _) _
  rw [hW1] at hx
  have HW1 := Lib.hid hW1
  have HB1 := Lib.hid hb1
  have hs1 := hb1.size
  have b0 := blkp hx 0
  have b3 := blkp hx 3
  have b4 := blkp hx 4
  simp only [List.getElem?_toArray, List.getElem?_cons_zero, List.getElem?_cons_succ] at b0 b3 b4
  by_cases h2 : i.op = 2
  · have HO : Hid (IOwn (W1.alloc (.cells #[.int .i64 i.x, .int .i64 i.y] 3)) W.heap.size (.slice (some ⟨W1.heap.size, 0, none⟩) 2 2) (ldL i)) := Lib.hid (by
      unfold ldL
      rw [if_pos h2]
      exact World.ownsRow_lit (base := W.heap.size) (e := 3) (size := 1) W1 #[.int .i64 i.x, .int .i64 i.y] 2 hs1 (by unfold maxLen; omega) (by simp))
    have HB := Lib.hid (hb1.alloc (o := .cells #[.int .i64 i.x, .int .i64 i.y] 3) hs1)
    have hsz : W1.heap.size = W.heap.size + 1 := by rw [← hW1]; simp
    rw [hsz] at HO
    rw [h2] at b0 HW1 ⊢
    clear hx hb1 hs1 hW1 h2 hsz
    go_enter Tryd.func50, Tryd.ntmps50
    go_wp2
    go_ret
    rw [HW1.out]
    exact ⟨_, rfl, HO.out, HB.out⟩
  by_cases h1 : i.op = 1 ∨ i.op = 3 ∨ i.op = 4
  · have HO : Hid (IOwn (W1.alloc (.cells #[.int .i64 i.x] 3)) W.heap.size (.slice (some ⟨W1.heap.size, 0, none⟩) 1 1) (ldL i)) := Lib.hid (by
      unfold ldL
      rw [if_neg h2, if_pos h1]
      exact World.ownsRow_lit (base := W.heap.size) (e := 3) (size := 1) W1 #[.int .i64 i.x] 1 hs1 (by unfold maxLen; omega) (by simp))
    have HB := Lib.hid (hb1.alloc (o := .cells #[.int .i64 i.x] 3) hs1)
    have hsz : W1.heap.size = W.heap.size + 1 := by rw [← hW1]; simp
    rw [hsz] at HO
    clear hx hb1 hs1 hW1 hsz
    rcases h1 with h | h | h <;> rw [h] at b0 HW1 ⊢ <;> clear h h2 <;>
    (go_enter Tryd.func50, Tryd.ntmps50
     go_wp2
     go_ret
     rw [HW1.out]
     exact ⟨_, rfl, HO.out, HB.out⟩)
  · have HO : Hid (IOwn W1 W.heap.size (.slice none 0 0) (ldL i)) := Lib.hid (by unfold ldL; rw [if_neg h2, if_neg h1]; exact IOwn.nil)
    have h3 : ¬ i.op = 1 := fun h => h1 (.inl h)
    have h4 : ¬ i.op = 3 := fun h => h1 (.inr (.inl h))
    have h5 : ¬ i.op = 4 := fun h => h1 (.inr (.inr h))
    clear hx hb1 hs1 hW1 h1
    go_enter Tryd.func50, Tryd.ntmps50
    go_wp2
    go_ret
    rw [HW1.out]
    exact ⟨_, rfl, HO.out, HB1.out⟩
set_option maxRecDepth 100000 in
set_option maxHeartbeats 4000000 in
theorem has16_any (W : World) (a3 : Option Addr) (c3 : Nat) (T : List Int) (lo : Nat) (hT : Nrd W a3 T lo) (hl : T.length ≤ 100000) (t : Int) :
    Calls Tryd.prog 55 #[.slice a3 T.length c3, .int .i64 t] W fun e w' => e = .returned (.bool (decide (t ∈ T))) ∧ w' = W := by
  obtain ⟨m, hm⟩ : ∃ m, T.length = m := ⟨_, rfl⟩
  have HM := Lib.hid hm
  have HT := Lib.hid hT
  rw [hm] at hl ⊢
  obtain ⟨R, hR⟩ : ∃ R, decide (t ∈ T) = R := ⟨_, rfl⟩
  have HR := Lib.hid hR
  rw [hR]
  clear hm hT hR
  go_enter Tryd.func55, Tryd.ntmps55
  go_wp2
  go_loopw [5] (fun i wr => ∃ k : Nat, k ≤ m ∧ i = .int .i64 (k : Int) ∧ Hid (t ∉ T.take k) ∧ W = wr) (fun i _ => m - (intOf i).toNat)
  case atStart => exact ⟨0, Nat.zero_le _, rfl, Lib.hid (by simp), rfl⟩
  case round =>
    obtain ⟨k, hk, rfl, HA, rfl⟩ := hrel
    by_cases hlt : k < m
    · have hkl : k < T.length := by rw [HM.out]; exact hlt
      obtain ⟨b, rfl, hb1, hb2, hcell⟩ := HT.out k hkl
      have HMM := Lib.hid (List.getElem_mem hkl)
      have HS : Hid (∀ u, u ∈ T.take (k + 1) ↔ u ∈ T.take k ∨ u = T[k]) := Lib.hid (fun u => by rw [List.take_succ_eq_append_getElem hkl, List.mem_append, List.mem_singleton])
      obtain ⟨z, hz⟩ : ∃ z, T[k] = z := ⟨_, rfl⟩
      rw [hz] at hcell HMM HS
      have k0 : (0 : Int) ≤ (k : Int) := by omega
      have k1 : (k : Int) < (m : Int) := by omega
      clear hz hkl
      by_cases h : z = t
      · have HF : Hid (R = true) := Lib.hid (by rw [← HR.out]; exact decide_eq_true (h ▸ HMM.out))
        clear HMM
        go_wp2
        go_ret
        exact ⟨retv_bool HF.out.symm, rfl⟩
      · have HA2 : Hid (t ∉ T.take (k + 1)) := Lib.hid (fun hm => by
          rcases (HS.out t).1 hm with h9 | h9
          · exact HA.out h9
          · exact h h9.symm)
        have hzt : (z == t) = false := beq_eq_false_iff_ne.2 h
        go_wp2
        go_roundw
        case rel => exact ⟨k + 1, by omega, by go_num, HA2, by first | rfl | trivial⟩
        case measure => simp [intOf]; omega
    · obtain rfl : k = m := by omega
      have HF : Hid (R = false) := Lib.hid (by
        rw [← HR.out]
        refine decide_eq_false fun h => HA.out ?_
        rw [List.take_of_length_le (by rw [HM.out]; exact Nat.le_refl _)]; exact h)
      go_wp2
      go_ret
      exact ⟨retv_bool HF.out.symm, rfl⟩
end Pgm
end Go.Proofs.YtchcjinaagncjaaDoor
