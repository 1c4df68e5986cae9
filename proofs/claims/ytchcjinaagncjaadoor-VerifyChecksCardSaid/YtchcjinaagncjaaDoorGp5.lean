/- The landed prog: Fits. -/
import Derived.Test.YtchcjinaagncjaaDoorGp4
namespace Go.Proofs.YtchcjinaagncjaaDoor
open Go.RowKit
set_option linter.unusedVariables false
namespace Pgm
/-- The four fields in their order. -/
def fd (i : In) (k : Nat) : Int := if k = 0 then i.lo else if k = 1 then i.hi else if k = 2 then i.x else i.y
def inB (i : In) (o k : Nat) : Prop := spA o k ≤ fd i k ∧ fd i k ≤ spB o k
theorem fit_table {i : In} {o : Nat} (ho : i.op = (o : Int)) (h1 : 1 ≤ o) (h6 : o ≤ 6) : Fit i ↔ (∀ k, k < 4 → inB i o k) ∧ (o = 1 → i.lo ≤ i.hi) := by
  have hk : (∀ k, k < 4 → inB i o k) ↔ inB i o 0 ∧ inB i o 1 ∧ inB i o 2 ∧ inB i o 3 := by
    refine ⟨fun h => ⟨h 0 (by omega), h 1 (by omega), h 2 (by omega), h 3 (by omega)⟩, fun h k hk => ?_⟩
    have : k = 0 ∨ k = 1 ∨ k = 2 ∨ k = 3 := by omega
    rcases this with rfl | rfl | rfl | rfl
    · exact h.1
    · exact h.2.1
    · exact h.2.2.1
    · exact h.2.2.2
  rw [hk]
  have : o = 1 ∨ o = 2 ∨ o = 3 ∨ o = 4 ∨ o = 5 ∨ o = 6 := by omega
  unfold Fit inB
  rcases this with rfl | rfl | rfl | rfl | rfl | rfl <;> simp [spA, spB, fd] <;> omega
theorem fit_not {i : In} (h : i.op < 1 ∨ 6 < i.op) : fitB i = false := by
  unfold fitB
  rw [decide_eq_false]
  unfold Fit
  omega
theorem index_0 (a b c d : Value) (w : World) : (Instr.index 140 (.agg #[a, b, c, d]) (.int .i64 0)).run Tryd.prog w = .ok a w := by kernel_rfl
theorem index_1 (a b c d : Value) (w : World) : (Instr.index 140 (.agg #[a, b, c, d]) (.int .i64 1)).run Tryd.prog w = .ok b w := by kernel_rfl
theorem index_2 (a b c d : Value) (w : World) : (Instr.index 140 (.agg #[a, b, c, d]) (.int .i64 2)).run Tryd.prog w = .ok c w := by kernel_rfl
theorem index_3 (a b c d : Value) (w : World) : (Instr.index 140 (.agg #[a, b, c, d]) (.int .i64 3)).run Tryd.prog w = .ok d w := by kernel_rfl
theorem index_fd (i : In) (k : Nat) (h : k < 4) (w : World) : (Instr.index 140 (.agg #[.int .i64 i.lo, .int .i64 i.hi, .int .i64 i.x, .int .i64 i.y]) (.int .i64 (k : Int))).run Tryd.prog w = .ok (.int .i64 (fd i k)) w := by
  have : k = 0 ∨ k = 1 ∨ k = 2 ∨ k = 3 := by omega
  rcases this with rfl | rfl | rfl | rfl
  · exact index_0 _ _ _ _ w
  · exact index_1 _ _ _ _ w
  · exact index_2 _ _ _ _ w
  · exact index_3 _ _ _ _ w
theorem opC_a (o k : Nat) (hk : k < 4) : (opC o)[1 + k * 2]? = some (.int .i64 (spA o k)) := by
  have : k = 0 ∨ k = 1 ∨ k = 2 ∨ k = 3 := by omega
  rcases this with rfl | rfl | rfl | rfl <;> rfl
theorem opC_b (o k : Nat) (hk : k < 4) : (opC o)[1 + k * 2 + 1]? = some (.int .i64 (spB o k)) := by
  have : k = 0 ∨ k = 1 ∨ k = 2 ∨ k = 3 := by omega
  rcases this with rfl | rfl | rfl | rfl <;> rfl
set_option maxRecDepth 100000 in
set_option maxHeartbeats 4000000 in
theorem fits_any (i : In) (W : World) (hE : EvO W) : Calls Tryd.prog 63 #[i.v] W fun e w' => e = .returned (.bool (fitB i)) ∧ Below W.heap.size W w' := by
  obtain ⟨W1, hW1⟩ : ∃ W1, W.alloc (.cells #[.int .i64 i.op, .int .i64 i.lo, .int .i64 i.hi, .int .i64 i.x, .int .i64 i.y] 60) = W1 := ⟨_, rfl⟩
  have hb1 : Below W.heap.size W W1 := by rw [← hW1]; exact (Below.refl _ _).alloc (Nat.le_refl _) _
  have hx : W1.heap[W.heap.size]? = some (.cells #[.int .i64 i.op, .int .i64 i.lo, .int .i64 i.hi, .int .i64 i.x, .int .i64 i.y] 60 (0, 0)) := by rw [← hW1]; exact heap_alloc_new W _
  have hs1 : W1.heap.size = W.heap.size + 1 := by rw [← hW1]; simp
  by_cases hlo : i.op < 1
  · have HF := Lib.hid (fit_not (.inl hlo) : fitB i = false)
    unfold In.v
    have HW1 := Lib.hid hW1
    have HB1 := Lib.hid hb1
    clear hW1 hx hs1 hb1
    go_enter Tryd.func63, Tryd.ntmps63
    go_wp2
    go_ret
    rw [HW1.out, HF.out]
    exact ⟨rfl, HB1.out⟩
  by_cases hhi : 6 < i.op
  · have HF := Lib.hid (fit_not (.inr hhi) : fitB i = false)
    unfold In.v
    have HW1 := Lib.hid hW1
    have HB1 := Lib.hid hb1
    clear hW1 hx hs1 hb1
    go_enter Tryd.func63, Tryd.ntmps63
    go_wp2
    go_ret
    rw [HW1.out, HF.out]
    exact ⟨rfl, HB1.out⟩
  obtain ⟨o, ho⟩ : ∃ o : Nat, i.op = (o : Int) := ⟨i.op.toNat, by omega⟩
  have ho1 : 1 ≤ o := by omega
  have ho6 : o ≤ 6 := by omega
  have HT := Lib.hid (fit_table ho ho1 ho6)
  have HB1 := Lib.hid hb1
  have HE := Lib.hid hE
  have HW1 := Lib.hid hW1
  have HX := Lib.hid hx
  have HS1 := Lib.hid hs1
  have HV := Lib.hid (fun w => values_any i w)
  unfold In.v In.fv at HV
  unfold In.v
  have hi0 : (0 : Int) ≤ (o : Int) := by omega
  have hi7 : (o : Int) < 7 := by omega
  have hti : (o : Int).toNat = o := by omega
  have n1 : ¬ (o : Int) < 1 := by omega
  have n6 : ¬ (6 : Int) < (o : Int) := by omega
  rw [ho] at HW1 HX HV ⊢
  have HO := Lib.hid ho
  clear hb1 hE hW1 hx hs1 ho hlo hhi
  go_enter Tryd.func63, Tryd.ntmps63
  go_wp2_with fail
  rw [HW1.out]
  refine (HV.out _).mono ?_
  rintro e w2 ⟨rfl, hb2⟩
  have HB2 := Lib.hid (HB1.out.trans (hb2.mono HB1.out.size))
  have HX2 := Lib.hid ((hb2.block _ (Array.getElem?_eq_some_iff.1 HX.out).1).trans HX.out)
  clear hb2
  go_wp2
  go_loopw [15] (fun K wr => ∃ k : Nat, k ≤ 4 ∧ K = .int .i64 (k : Int) ∧ Hid (∀ j, j < k → inB i o j) ∧ Hid (Below W.heap.size W wr) ∧ Hid (wr.heap[W.heap.size]? = some (.cells #[.int .i64 (o : Int), .int .i64 i.lo, .int .i64 i.hi, .int .i64 i.x, .int .i64 i.y] 60 (0, 0)))) (fun K _ => 4 - (intOf K).toNat)
  case atStart => exact ⟨0, by omega, rfl, Lib.hid (fun j hj => absurd hj (by omega)), HB2, HX2⟩
  case round =>
    obtain ⟨k, hk, rfl, HA, HB, HXr⟩ := hrel
    have b0 := blkp HXr.out 0
    have b1 := blkp HXr.out 1
    have b2 := blkp HXr.out 2
    simp only [List.getElem?_toArray, List.getElem?_cons_zero, List.getElem?_cons_succ] at b0 b1 b2
    by_cases hlt : k < 4
    · have hE2 := HE.out.below (Nat.le_refl _) HB.out
      have hix := index_fd i k hlt
      have c1 := hE2.cell o (1 + k * 2) (by omega) (by omega)
      have c2 := hE2.cell o (1 + k * 2 + 1) (by omega) (by omega)
      rw [opC_a o k hlt] at c1
      rw [opC_b o k hlt] at c2
      rw [← Nat.add_assoc] at c1 c2
      rw [← Nat.add_assoc] at c2
      have hk0 : (0 : Int) ≤ (k : Int) := by omega
      have hk4 : (k : Int) < 4 := by omega
      have hkt : (k : Int).toNat = k := by omega
      have HIS := Lib.hid (fun w => isIn_any (spA o k) (spB o k) (fd i k) w)
      clear hE2
      by_cases hin : inB i o k
      · have HA2 : Hid (∀ j, j < k + 1 → inB i o j) := Lib.hid (fun j hj => by
          by_cases e : j = k
          · rw [e]; exact hin
          · exact HA.out j (by omega))
        rw [decide_eq_true (show spA o k ≤ fd i k ∧ fd i k ≤ spB o k from hin)] at HIS
        clear hin
        go_wp2_with fail
        refine (HIS.out _).mono ?_
        rintro e w3 ⟨rfl, hb3⟩
        have HB3 := Lib.hid (HB.out.trans (hb3.mono HB.out.size))
        have HX3 := Lib.hid ((hb3.block _ (Array.getElem?_eq_some_iff.1 HXr.out).1).trans HXr.out)
        clear hb3 b0 b1 b2 c1 c2 hix
        go_wp2
        go_roundw
        case rel => exact ⟨k + 1, by omega, by go_num, HA2, HB3, HX3⟩
        case measure => simp [intOf]; omega
      · have HF : Hid (fitB i = false) := Lib.hid (by
          unfold fitB
          rw [decide_eq_false]
          intro h
          exact hin ((HT.out.1 h).1 k hlt))
        rw [decide_eq_false (show ¬ (spA o k ≤ fd i k ∧ fd i k ≤ spB o k) from hin)] at HIS
        clear hin
        go_wp2_with fail
        refine (HIS.out _).mono ?_
        rintro e w3 ⟨rfl, hb3⟩
        have HB3 := Lib.hid (HB.out.trans (hb3.mono HB.out.size))
        clear hb3 b0 b1 b2 c1 c2 hix
        go_wp2
        go_ret
        rw [HF.out]
        exact ⟨rfl, HB3.out⟩
    · obtain rfl : k = 4 := by omega
      by_cases h1 : o = 1
      · subst h1
        by_cases hle : i.lo ≤ i.hi
        · have HF : Hid (fitB i = true) := Lib.hid ((fitB_iff i).2 (HT.out.2 ⟨HA.out, fun _ => hle⟩))
          go_wp2
          go_ret
          rw [HF.out]
          exact ⟨rfl, HB.out⟩
        · have HF : Hid (fitB i = false) := Lib.hid (by
            unfold fitB
            rw [decide_eq_false]
            intro h
            exact hle ((HT.out.1 h).2 rfl))
          go_wp2
          go_ret
          rw [HF.out]
          exact ⟨rfl, HB.out⟩
      · have HF : Hid (fitB i = true) := Lib.hid ((fitB_iff i).2 (HT.out.2 ⟨HA.out, fun h => absurd h h1⟩))
        have hne : ((o : Int) == 1) = false := by rw [beq_eq_false_iff_ne]; omega
        have hne2 : ((o : Int) != 1) = true := by rw [bne_iff_ne]; omega
        go_wp2
        go_ret
        rw [HF.out]
        exact ⟨rfl, HB.out⟩
end Pgm
end Go.Proofs.YtchcjinaagncjaaDoor
