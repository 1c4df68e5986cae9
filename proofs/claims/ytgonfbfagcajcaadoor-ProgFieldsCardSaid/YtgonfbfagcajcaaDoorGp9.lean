/- Programs compared: slices.Equal, Same, SameInsts, SameProg. -/
import Derived.Test.YtgonfbfagcajcaaDoorGp8
import Derived.Laws.StructEq
namespace Go.Proofs.YtgonfbfagcajcaaDoor
open Go.RowKit
set_option linter.unusedVariables false
namespace Pgm
instance : DecidableEq In := fun a b => decidable_of_iff (a.op = b.op ∧ a.lo = b.lo ∧ a.hi = b.hi ∧ a.x = b.x ∧ a.y = b.y) ⟨fun h => In.ext' h.1 h.2.1 h.2.2.1 h.2.2.2.1 h.2.2.2.2, fun h => by subst h; exact ⟨rfl, rfl, rfl, rfl, rfl⟩⟩
theorem in_eq (a b : In) : decide (a = b) = (a.op == b.op && (a.lo == b.lo && (a.hi == b.hi && (a.x == b.x && a.y == b.y)))) := by
  rw [Bool.eq_iff_iff, decide_eq_true_iff]
  simp only [Bool.and_eq_true, beq_iff_eq]
  exact ⟨fun h => by subst h; exact ⟨rfl, rfl, rfl, rfl, rfl⟩, fun h => In.ext' h.1 h.2.1 h.2.2.1 h.2.2.2.1 h.2.2.2.2⟩
theorem eq_in (a b : In) (w : World) : (Op.equalIn 10000 45 (.agg #[.int .i64 a.op, .int .i64 a.lo, .int .i64 a.hi, .int .i64 a.x, .int .i64 a.y]) (.agg #[.int .i64 b.op, .int .i64 b.lo, .int .i64 b.hi, .int .i64 b.x, .int .i64 b.y])).run Tryd.prog w = .ok (decide (a = b)) w := by
  have h3 : ∀ x y, (Op.equalIn 9999 3 (.int .i64 x) (.int .i64 y)).run Tryd.prog w = .ok (x == y) w := fun x y => run_equalIn_int w 9998 3 .i64 .i64 x y (by kernel_rfl)
  have p0 : ∀ a b c d e, (part 3 #[.int .i64 a, .int .i64 b, .int .i64 c, .int .i64 d, .int .i64 e] 0).run Tryd.prog w = .ok (.int .i64 a) w := fun a b c d e => by kernel_rfl
  have p1 : ∀ a b c d e, (part 3 #[.int .i64 a, .int .i64 b, .int .i64 c, .int .i64 d, .int .i64 e] 1).run Tryd.prog w = .ok (.int .i64 b) w := fun a b c d e => by kernel_rfl
  have p2 : ∀ a b c d e, (part 3 #[.int .i64 a, .int .i64 b, .int .i64 c, .int .i64 d, .int .i64 e] 2).run Tryd.prog w = .ok (.int .i64 c) w := fun a b c d e => by kernel_rfl
  have p3 : ∀ a b c d e, (part 3 #[.int .i64 a, .int .i64 b, .int .i64 c, .int .i64 d, .int .i64 e] 3).run Tryd.prog w = .ok (.int .i64 d) w := fun a b c d e => by kernel_rfl
  have p4 : ∀ a b c d e, (part 3 #[.int .i64 a, .int .i64 b, .int .i64 c, .int .i64 d, .int .i64 e] 4).run Tryd.prog w = .ok (.int .i64 e) w := fun a b c d e => by kernel_rfl
  have hf : (Tryd.prog.fieldsOf 45).toList.map (fun f => (f.name == "_", f.type, f.offset)) = [(false, 3, 0), (false, 3, 1), (false, 3, 2), (false, 3, 3), (false, 3, 4)] := by kernel_rfl
  show (Op.equalIn (9999 + 1) 45 _ _).run _ _ = _
  rw [run_equalIn_struct w 9999 45 _ _ (by kernel_rfl) (by kernel_rfl), in_eq]
  generalize (Tryd.prog.fieldsOf 45).toList = fs at hf ⊢
  have hl : fs.length = 5 := by have := congrArg List.length hf; simpa using this
  obtain ⟨f0, fs, rfl⟩ := List.exists_cons_of_length_eq_add_one hl
  obtain ⟨f1, fs, rfl⟩ := List.exists_cons_of_length_eq_add_one (n := 3) (by simpa using hl)
  obtain ⟨f2, fs, rfl⟩ := List.exists_cons_of_length_eq_add_one (n := 2) (by simpa using hl)
  obtain ⟨f3, fs, rfl⟩ := List.exists_cons_of_length_eq_add_one (n := 1) (by simpa using hl)
  obtain ⟨f4, fs, rfl⟩ := List.exists_cons_of_length_eq_add_one (n := 0) (by simpa using hl)
  obtain rfl : fs = [] := List.eq_nil_of_length_eq_zero (by simpa using hl)
  simp only [List.map_cons, List.map_nil, List.cons.injEq, Prod.mk.injEq, and_true, beq_eq_false_iff_ne] at hf
  obtain ⟨⟨a0, b0, c0⟩, ⟨a1, b1, c1⟩, ⟨a2, b2, c2⟩, ⟨a3, b3, c3⟩, ⟨a4, b4, c4⟩⟩ := hf
  simp only [Op.eqFields, ne_eq, a0, a1, a2, a3, a4, not_false_eq_true, if_true, b0, b1, b2, b3, b4, c0, c1, c2, c3, c4, Sem.run_bind, p0, p1, p2, p3, p4, Result.andThen_ok]
  have q0 := h3 a.op b.op
  have q1 := h3 a.lo b.lo
  have q2 := h3 a.hi b.hi
  have q3 := h3 a.x b.x
  have q4 := h3 a.y b.y
  clear h3
  generalize (a.op == b.op) = t0 at q0 ⊢
  generalize (a.lo == b.lo) = t1 at q1 ⊢
  generalize (a.hi == b.hi) = t2 at q2 ⊢
  generalize (a.x == b.x) = t3 at q3 ⊢
  generalize (a.y == b.y) = t4 at q4 ⊢
  cases t0 <;> cases t1 <;> cases t2 <;> cases t3 <;> cases t4 <;> simp [Sem.run_bind, p0, p1, p2, p3, p4, Result.andThen_ok, q0, q1, q2, q3, q4]
/-- What a list's row holds, told of the world W. -/
def Rd (W : World) (a : Option Addr) (n : Nat) (l : List In) : Prop := l.length = n ∧ ∀ j (h : j < l.length), ∃ b off, a = some ⟨b, off, none⟩ ∧ b < W.heap.size ∧ ∀ q, q < 5 → W.cell? ⟨b, off + j * 5 + q, none⟩ = l[j].cs[q]?
theorem Rd.at_ {W : World} {a : Option Addr} {n : Nat} {l : List In} (h : Rd W a n l) {k : Nat} (hk : k < n) : ∃ b off x, a = some ⟨b, off, none⟩ ∧ b < W.heap.size ∧ l[k]? = some x ∧ W.cell? ⟨b, off + k * 5, none⟩ = some (.int .i64 x.op) ∧ W.cell? ⟨b, off + k * 5 + 1, none⟩ = some (.int .i64 x.lo) ∧ W.cell? ⟨b, off + k * 5 + 2, none⟩ = some (.int .i64 x.hi) ∧ W.cell? ⟨b, off + k * 5 + 3, none⟩ = some (.int .i64 x.x) ∧ W.cell? ⟨b, off + k * 5 + 4, none⟩ = some (.int .i64 x.y) := by
  have hl : k < l.length := by rw [h.1]; exact hk
  obtain ⟨b, off, e, hb, hc⟩ := h.2 k hl
  exact ⟨b, off, l[k], e, hb, List.getElem?_eq_getElem hl, hc 0 (by omega), hc 1 (by omega), hc 2 (by omega), hc 3 (by omega), hc 4 (by omega)⟩
end Pgm
end Go.Proofs.YtgonfbfagcajcaaDoor
