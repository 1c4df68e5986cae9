/- burinbook.LendRanges. -/
import Derived.Test.YtbccaljfofnepaaRgD
import Derived.Laws.MakeOwn
import Derived.Laws.OwnMore
namespace Go.Proofs.Ytbccaljfofnepaa
open Go.RowKit
set_option linter.unusedVariables false
/-- An append whose run is known. -/
theorem wpList_append_run {P : Program} {ops : Array Oper} {rest : List Oper} {o : Oper} {a : Act} {w : World} {Q : Exit → Act → World → Prop} (hgd : o.guard = none) (s x : Operand) (t : TypeId)
    (ho : o.op = .call { callee := .builtin .append, args := #[s, x], argTypes := #[t, t] }) (vs vx v' : Value) (w' : World) (hs : a.eval s = vs) (hx : a.eval x = vx)
    (hr : (Builtin.append_ #[t, t] o.type #[vs, vx]).run P w = .ok v' w') (h : wpList P ops Q rest (a.put o.dst v') w') : wpList P ops Q (o :: rest) a w :=
  wpList_plain hgd fun _ hK => by
    unfold Oper.wp execOp
    simp only [ho, resolve, invoke, builtin, Sem.run_bind, Sem.run_pure, Result.andThen_ok, List.map_toArray, List.map_cons, List.map_nil, hs, hx, hr]
    exact hK _ _ h
theorem rg_news {W : World} {b off : Nat} {a : List (Int × Int)}
    (hc : ∀ j, j < a.length → W.cell? ⟨b, off + j * 2, none⟩ = some (.int .i64 (a[j]?.getD (0, 0)).1) ∧ W.cell? ⟨b, off + j * 2 + 1, none⟩ = some (.int .i64 (a[j]?.getD (0, 0)).2)) :
    ∀ j u, (flat2 a)[j]? = some u → W.cell? ((⟨b, off, none⟩ : Addr).add j) = some u := by
  intro j u hj
  have hlt : j < (flat2 a).length := by
    rcases Nat.lt_or_ge j (flat2 a).length with h | h
    · exact h
    · rw [List.getElem?_eq_none h] at hj; cases hj
  rw [flat2_len] at hlt
  have hadd : (⟨b, off, none⟩ : Addr).add j = ⟨b, off + j, none⟩ := by unfold Addr.add; split <;> simp_all
  rw [hadd]
  have hi := flat2_get a (j / 2) (by omega)
  have hh := hc (j / 2) (by omega)
  rcases Nat.mod_two_eq_zero_or_one j with h0 | h1
  · have e : j = j / 2 * 2 := by omega
    rw [e, hi.1] at hj
    rw [e, hh.1]; exact hj
  · have e : j = j / 2 * 2 + 1 := by omega
    rw [e, hi.2] at hj
    rw [e, ← Nat.add_assoc, hh.2]; exact hj
theorem flat2_one (a : List (Int × Int)) : ∀ u ∈ flat2 a, u.oneCell' = true := by
  intro u hu
  obtain ⟨p, _, hp⟩ := List.mem_flatMap.1 hu
  simp only [List.mem_cons, List.not_mem_nil, or_false] at hp
  rcases hp with rfl | rfl <;> rfl
/-- Nothing is appended. -/
theorem run_append_nothing {P : Program} {w : World} (base : Nat) (t ty e : TypeId) (i : TypeInfo) (size : Nat) (ht : P.underlying t = some (.slice e)) (hi : P.info? e = some i)
    (v : Value) (n : Nat) (xs : List Value) (hown : w.ownsRow base e size v n xs) (A : Option Addr) (c : Nat) :
    (Builtin.append_ #[t, t] ty #[v, .slice A 0 c]).run P w = .ok v w := by
  rcases hown.2 with ⟨rfl, rfl⟩ | ⟨g, cap, cur, rfl, _, _, hnc, _⟩
  · cases A <;> simp [Builtin.append_, run_underlying ht, sizeOf, typeInfo, hi, Builtin.lenOf, Builtin.firstCells, loadCells, loadCellsFrom]
  · cases A <;> simp [Builtin.append_, run_underlying ht, sizeOf, typeInfo, hi, Builtin.lenOf, Builtin.firstCells, hnc, storeCells, loadCells, loadCellsFrom]
set_option maxRecDepth 100000 in
set_option maxHeartbeats 2000000 in
theorem lend_walk (W : World) (va : Value) (a : List (Int × Int)) (ha : RRow W va a) :
    Calls Try.prog 16 #[va] W fun e w' => ∃ g cap, a.length + 1 ≤ cap ∧ e = .returned (.slice (some ⟨g, 0, none⟩) a.length cap) ∧ RgOwn w' W.heap.size (.slice (some ⟨g, 0, none⟩) (a.length + 1) cap) (a ++ [(7, 0)]) ∧ Below W.heap.size W w' := by
  obtain ⟨i0, hi, hz0, hz1, hz2⟩ := info_parts Try.infoRange
  obtain ⟨a0, p, rfl, hl, hw, hc⟩ := ha
  obtain ⟨w1, hr1, ho1, hg1⟩ := run_make_own (P := Try.prog) W W.heap.size 28 52 i0 (.agg #[.int .i64 0, .int .i64 0]) 2 Try.underlying28 hi hz0 hz1 .i64 .i64 (a.length + 1) (by rw [hz2]; omega) (by unfold maxLen; omega) (Nat.le_refl _)
  have hB1 : Below W.heap.size W w1 := (Below.refl _ _).grown hg1 (Nat.le_refl _) (fun k hk => by cases hk)
  have h2 : ∃ w2, (Builtin.append_ #[28, 28] 28 #[.slice (some ⟨W.heap.size, 0, none⟩) 0 (a.length + 1), .slice a0 a.length p]).run Try.prog w1 = .ok (.slice (some ⟨W.heap.size, 0, none⟩) a.length (a.length + 1)) w2 ∧
      w2.ownsRow W.heap.size 52 2 (.slice (some ⟨W.heap.size, 0, none⟩) a.length (a.length + 1)) a.length (flat2 a) ∧ Below W.heap.size W w2 := by
    rcases Nat.eq_zero_or_pos a.length with h0 | hp
    · have e0 : a = [] := List.eq_nil_of_length_eq_zero h0
      subst e0
      exact ⟨w1, run_append_nothing W.heap.size _ _ 52 i0 2 Try.underlying28 hi _ 0 [] ho1 a0 p, ho1, hB1⟩
    · obtain ⟨b, off, rfl, hb, _⟩ := hc 0 hp
      have hc' : ∀ j, j < a.length → w1.cell? ⟨b, off + j * 2, none⟩ = some (.int .i64 (a[j]?.getD (0, 0)).1) ∧ w1.cell? ⟨b, off + j * 2 + 1, none⟩ = some (.int .i64 (a[j]?.getD (0, 0)).2) := by
        intro j hj
        obtain ⟨b', off', hbb, _, h1, h2⟩ := hc j hj
        injection hbb with hbb; injection hbb with hb1 hb2; subst hb1; subst hb2
        exact ⟨hg1.cell h1 (by simp), hg1.cell h2 (by simp)⟩
      obtain ⟨w2, hr2, ho2, hg2⟩ := run_append_fits (P := Try.prog) w1 W.heap.size 28 28 52 i0 2 Try.underlying28 hi hz1 W.heap.size 0 (a.length + 1) [] ho1 ⟨b, off, none⟩ a.length p (flat2 a) (flat2_len a) (rg_news hc') (flat2_one a) (by omega)
      rw [Nat.zero_add, List.nil_append] at ho2
      rw [Nat.zero_add] at hr2
      exact ⟨w2, hr2, ho2, hB1.grown hg2 hB1.size (fun k hk => by injection hk with hk; omega)⟩
  obtain ⟨w2, hr2, ho2, hB2⟩ := h2
  have h3 := run_append_fits (P := Try.prog) (w2.alloc (.cells #[.int .i64 7, .int .i64 0] 52)) W.heap.size 28 28 52 i0 2 Try.underlying28 hi hz1 W.heap.size a.length (a.length + 1) (flat2 a) (ho2.alloc _) ⟨w2.heap.size, 0, none⟩ 1 1 [.int .i64 7, .int .i64 0] rfl (World.news_of_block (cs := #[.int .i64 7, .int .i64 0]) (heap_alloc_new w2 _)) (by simp [Value.oneCell']) (by omega)
  obtain ⟨w3, hr3, ho3, hg3⟩ := h3
  have hB3 := (hB2.alloc hB2.size (.cells #[.int .i64 7, .int .i64 0] 52)).grown hg3 (by have := hB2.size; simp; omega) (fun k hk => by injection hk with hk; omega)
  have HO3 := Lib.hid ho3
  have HB3 := Lib.hid hB3
  have HR2 := Lib.hid hr2
  have HR3 := Lib.hid hr3
  push_cast at hr1
  clear hB1 hc hw ho1 hg1 ho2 hB2 ho3 hg3 hB3 hr2 hr3
  go_enter Try.func16, Try.ntmps16
  go_wp2_with (at_builtin; first
    | (refine wpList_append_run (by rfl) (.tmp 6) (.tmp 7) 28 (by rfl) (.slice (some ⟨W.heap.size, 0, none⟩) 0 (a.length + 1)) (.slice a0 a.length p) (.slice (some ⟨W.heap.size, 0, none⟩) a.length (a.length + 1)) w2 (by rfl) (by rfl) HR2.out ?_)
    | (refine wpList_append_run (by rfl) (.tmp 8) (.tmp 10) 28 (by rfl) (.slice (some ⟨W.heap.size, 0, none⟩) a.length (a.length + 1)) (.slice (some ⟨w2.heap.size, 0, none⟩) 1 1) (.slice (some ⟨W.heap.size, 0, none⟩) (a.length + 1) (a.length + 1)) w3 (by rfl) (by rfl) HR3.out ?_))
  go_ret
  refine ⟨W.heap.size, a.length + 1, Nat.le_refl _, rfl, ?_, HB3.out⟩
  unfold RgOwn
  rw [List.length_append, flat2_snoc]
  exact HO3.out
end Go.Proofs.Ytbccaljfofnepaa
