/- Programs compared: slices.Equal, Same, SameInsts, SameProg. -/
import Derived.Test.YtchcjinaagncjaaDoorGp6
import Derived.Laws.StructEq
namespace Go.Proofs.YtchcjinaagncjaaDoor
open Go.RowKit
set_option linter.unusedVariables false
namespace Pgm
instance : DecidableEq In := fun a b => decidable_of_iff (a.op = b.op ∧ a.lo = b.lo ∧ a.hi = b.hi ∧ a.x = b.x ∧ a.y = b.y) ⟨fun h => In.ext' h.1 h.2.1 h.2.2.1 h.2.2.2.1 h.2.2.2.2, fun h => by subst h; exact ⟨rfl, rfl, rfl, rfl, rfl⟩⟩
theorem in_eq (a b : In) : decide (a = b) = (a.op == b.op && (a.lo == b.lo && (a.hi == b.hi && (a.x == b.x && a.y == b.y)))) := by
  rw [Bool.eq_iff_iff, decide_eq_true_iff]
  simp only [Bool.and_eq_true, beq_iff_eq]
  exact ⟨fun h => by subst h; exact ⟨rfl, rfl, rfl, rfl, rfl⟩, fun h => In.ext' h.1 h.2.1 h.2.2.1 h.2.2.2.1 h.2.2.2.2⟩
theorem eq_in (a b : In) (w : World) : (Op.equalIn 10000 60 (.agg #[.int .i64 a.op, .int .i64 a.lo, .int .i64 a.hi, .int .i64 a.x, .int .i64 a.y]) (.agg #[.int .i64 b.op, .int .i64 b.lo, .int .i64 b.hi, .int .i64 b.x, .int .i64 b.y])).run Tryd.prog w = .ok (decide (a = b)) w := by
  have h3 : ∀ x y, (Op.equalIn 9999 3 (.int .i64 x) (.int .i64 y)).run Tryd.prog w = .ok (x == y) w := fun x y => run_equalIn_int w 9998 3 .i64 .i64 x y (by kernel_rfl)
  have p0 : ∀ a b c d e, (part 3 #[.int .i64 a, .int .i64 b, .int .i64 c, .int .i64 d, .int .i64 e] 0).run Tryd.prog w = .ok (.int .i64 a) w := fun a b c d e => by kernel_rfl
  have p1 : ∀ a b c d e, (part 3 #[.int .i64 a, .int .i64 b, .int .i64 c, .int .i64 d, .int .i64 e] 1).run Tryd.prog w = .ok (.int .i64 b) w := fun a b c d e => by kernel_rfl
  have p2 : ∀ a b c d e, (part 3 #[.int .i64 a, .int .i64 b, .int .i64 c, .int .i64 d, .int .i64 e] 2).run Tryd.prog w = .ok (.int .i64 c) w := fun a b c d e => by kernel_rfl
  have p3 : ∀ a b c d e, (part 3 #[.int .i64 a, .int .i64 b, .int .i64 c, .int .i64 d, .int .i64 e] 3).run Tryd.prog w = .ok (.int .i64 d) w := fun a b c d e => by kernel_rfl
  have p4 : ∀ a b c d e, (part 3 #[.int .i64 a, .int .i64 b, .int .i64 c, .int .i64 d, .int .i64 e] 4).run Tryd.prog w = .ok (.int .i64 e) w := fun a b c d e => by kernel_rfl
  have hf : (Tryd.prog.fieldsOf 60).toList.map (fun f => (f.name == "_", f.type, f.offset)) = [(false, 3, 0), (false, 3, 1), (false, 3, 2), (false, 3, 3), (false, 3, 4)] := by kernel_rfl
  show (Op.equalIn (9999 + 1) 60 _ _).run _ _ = _
  rw [run_equalIn_struct w 9999 60 _ _ (by kernel_rfl) (by kernel_rfl), in_eq]
  generalize (Tryd.prog.fieldsOf 60).toList = fs at hf ⊢
  have hl : fs.length = 5 := by have := congrArg List.length hf; simpa using this
  obtain ⟨f0, fs, rfl⟩ := List.exists_cons_of_length_eq_add_one hl
  obtain ⟨f1, fs, rfl⟩ := List.exists_cons_of_length_eq_add_one (n := 3) (by simpa using hl)
  obtain ⟨f2, fs, rfl⟩ := List.exists_cons_of_length_eq_add_one (n := 2) (by simpa using hl)
  obtain ⟨f3, fs, rfl⟩ := List.exists_cons_of_length_eq_add_one (n := 1) (by simpa using hl)
  obtain ⟨f4, fs, rfl⟩ := List.exists_cons_of_length_eq_add_one (n := 0) (by simpa using hl)
  obtain rfl : fs = [] := List.eq_nil_of_length_eq_zero (by simpa using hl)
  simp only [List.map_cons, List.map_nil, List.cons.injEq, Prod.mk.injEq, and_true, beq_eq_false_iff_ne] at hf
  obtain ⟨⟨a0, b0, c0⟩, ⟨a1, b1, c1⟩, ⟨a2, b2, c2⟩, ⟨a3, b3, c3⟩, ⟨a4, b4, c4⟩⟩ := hf
  simp only [Op.eqFields, ne_eq, a0, a1, a2, a3, a4, not_false_eq_true, if_true, b0, b1, b2, b3, b4, c0, c1, c2, c3, c4, Sem.run_bind, p0, p1, p2, p3, p4, Result.andThen_ok]
  have q0 := h3 a.op b.op
  have q1 := h3 a.lo b.lo
  have q2 := h3 a.hi b.hi
  have q3 := h3 a.x b.x
  have q4 := h3 a.y b.y
  clear h3
  generalize (a.op == b.op) = t0 at q0 ⊢
  generalize (a.lo == b.lo) = t1 at q1 ⊢
  generalize (a.hi == b.hi) = t2 at q2 ⊢
  generalize (a.x == b.x) = t3 at q3 ⊢
  generalize (a.y == b.y) = t4 at q4 ⊢
  cases t0 <;> cases t1 <;> cases t2 <;> cases t3 <;> cases t4 <;> simp [Sem.run_bind, p0, p1, p2, p3, p4, Result.andThen_ok, q0, q1, q2, q3, q4]
theorem take_more (l m : List In) (k : Nat) {x y : In} (hx : l[k]? = some x) (hy : m[k]? = some y) : l.take (k + 1) = m.take (k + 1) ↔ l.take k = m.take k ∧ x = y := by
  rw [List.take_add_one, List.take_add_one, hx, hy]
  have hk : k < l.length := (List.getElem?_eq_some_iff.1 hx).1
  have hm : k < m.length := (List.getElem?_eq_some_iff.1 hy).1
  constructor
  · intro h
    have := List.append_inj h (by simp; omega)
    exact ⟨this.1, by simpa using this.2⟩
  · rintro ⟨h1, h2⟩
    rw [h1, h2]
/-- What a list's row holds, told of the world W. -/
def Rd (W : World) (a : Option Addr) (n : Nat) (l : List In) : Prop := l.length = n ∧ ∀ j (h : j < l.length), ∃ b off, a = some ⟨b, off, none⟩ ∧ b < W.heap.size ∧ ∀ q, q < 5 → W.cell? ⟨b, off + j * 5 + q, none⟩ = l[j].cs[q]?
theorem Rd.at_ {W : World} {a : Option Addr} {n : Nat} {l : List In} (h : Rd W a n l) {k : Nat} (hk : k < n) : ∃ b off x, a = some ⟨b, off, none⟩ ∧ b < W.heap.size ∧ l[k]? = some x ∧ W.cell? ⟨b, off + k * 5, none⟩ = some (.int .i64 x.op) ∧ W.cell? ⟨b, off + k * 5 + 1, none⟩ = some (.int .i64 x.lo) ∧ W.cell? ⟨b, off + k * 5 + 2, none⟩ = some (.int .i64 x.hi) ∧ W.cell? ⟨b, off + k * 5 + 3, none⟩ = some (.int .i64 x.x) ∧ W.cell? ⟨b, off + k * 5 + 4, none⟩ = some (.int .i64 x.y) := by
  have hl : k < l.length := by rw [h.1]; exact hk
  obtain ⟨b, off, e, hb, hc⟩ := h.2 k hl
  exact ⟨b, off, l[k], e, hb, List.getElem?_eq_getElem hl, hc 0 (by omega), hc 1 (by omega), hc 2 (by omega), hc 3 (by omega), hc 4 (by omega)⟩
set_option maxRecDepth 100000 in
set_option maxHeartbeats 4000000 in
theorem same_insts (W : World) (a b : Option Addr) (n p q : Nat) (l m : List In) (hn : n ≤ 3518437208883) (ha : Rd W a n l) (hb : Rd W b n m) :
    Calls Tryd.prog 21 #[.slice a n p, .slice b n q] W fun e W' => e = .returned (.bool (decide (l = m))) ∧ ∃ d, W' = W.drewN d := by
  have HA := Lib.hid ha
  have HB := Lib.hid hb
  clear ha hb
  go_enter Tryd.func21, Tryd.ntmps21
  go_wp2
  go_loopw [5, 6] (fun s i wr => ∃ (k : Nat) (S : Bool), k ≤ n ∧ i = .int .i64 k ∧ s = .bool S ∧ Hid (S = decide (l.take k = m.take k)) ∧ ∃ d, wr = W.drewN d) (fun s i _ => (n - (intOf i).toNat) + (if s matches .bool true then 1 else 0))
  case atStart => exact ⟨0, true, Nat.zero_le _, rfl, by simp, Lib.hid (by simp), 0, rfl⟩
  case round =>
    obtain ⟨k, S, hk, rfl, rfl, HS, d, rfl⟩ := hrel
    cases S with
    | false =>
      have HF : Hid (decide (l = m) = false) := Lib.hid (by rw [decide_eq_false_iff_not]; intro e; have := HS.out; rw [e] at this; simp at this)
      go_wp2
      go_ret
      exact ⟨by rw [HF.out]; rfl, _, rfl⟩
    | true =>
      by_cases hlt : k < n
      · obtain ⟨g, off, x, rfl, hg, hx, c0, c1, c2, c3, c4⟩ := HA.out.at_ hlt
        obtain ⟨g', off', y, rfl, hg', hy, d0, d1, d2, d3, d4⟩ := HB.out.at_ hlt
        have heq := fun w => eq_in x y w
        have HT : Hid (decide (x = y) = decide (l.take (k + 1) = m.take (k + 1))) := Lib.hid (by
          have := HS.out
          simp only [Eq.comm (a := true), decide_eq_true_eq] at this
          rw [decide_eq_decide, take_more l m k hx hy]
          exact ⟨fun h => ⟨this, h⟩, fun h => h.2⟩)
        obtain ⟨Z, hZ⟩ : ∃ Z, decide (x = y) = Z := ⟨_, rfl⟩
        rw [hZ] at HT heq
        have hk0 : (k : Int) < (n : Int) := by omega
        clear hx hy hZ
        go_wp2
        go_quiet (fail)
        go_wp2
        go_round
        case rel => exact ⟨k + 1, Z, by omega, by go_num, rfl, HT, _, rfl⟩
        case measure => cases Z <;> simp [intOf] <;> omega
      · obtain rfl : k = n := by omega
        have HE : Hid (decide (l = m) = true) := Lib.hid (by
          have := HS.out
          rw [List.take_of_length_le (by rw [HA.out.1]; exact Nat.le_refl _), List.take_of_length_le (by rw [HB.out.1]; exact Nat.le_refl _)] at this
          exact this.symm)
        go_wp2
        go_ret
        exact ⟨by rw [HE.out]; rfl, _, rfl⟩















































theorem InRow.rd {W : World} {v : Value} {l : List In} (h : InRow W v l) : ∃ a cap, v = .slice a l.length cap ∧ l.length ≤ 3518437208883 ∧ Rd W a l.length l := by
  obtain ⟨a, cap, e, h1, _, h3⟩ := h
  exact ⟨a, cap, e, h1, rfl, h3⟩
set_option maxRecDepth 100000 in
set_option maxHeartbeats 2000000 in
theorem insts_same (W : World) (v u : Value) (l m : List In) (ha : InRow W v l) (hb : InRow W u m) : Calls Tryd.prog 21 #[v, u] W fun e W' => e = .returned (.bool (decide (l = m))) ∧ ∃ d, W' = W.drewN d := by
  obtain ⟨a, p, rfl, hl, h1⟩ := ha.rd
  obtain ⟨b, q, rfl, hm, h2⟩ := hb.rd
  by_cases h : l.length = m.length
  · rw [← h] at h2 ⊢
    exact same_insts W a b l.length p q l m hl h1 h2
  · have HF : Hid (decide (l = m) = false) := Lib.hid (by rw [decide_eq_false_iff_not]; intro e; exact h (by rw [e]))
    obtain ⟨n, hn⟩ : ∃ n, l.length = n := ⟨_, rfl⟩
    obtain ⟨n', hn'⟩ : ∃ n', m.length = n' := ⟨_, rfl⟩
    rw [hn, hn'] at h ⊢
    have hne : ((n : Int) == (n' : Int)) = false := by rw [beq_eq_false_iff_ne]; omega
    have hne2 : ((n : Int) != (n' : Int)) = true := by rw [bne_iff_ne]; omega
    clear ha hb h1 h2 hn hn'
    go_enter Tryd.func21, Tryd.ntmps21
    go_wp2
    refine wp_loop_rounds 1 ?_
    rw [rounds_succ]
    go_wp2
    go_ret
    exact ⟨by rw [HF.out]; rfl, 0, rfl⟩



















set_option maxRecDepth 100000 in
set_option maxHeartbeats 4000000 in
theorem sameProg_any (W : World) (v u : Value) (l m : List In) (st sl st' sl' : Int) (ha : InRow W v l) (hb : InRow W u m) :
    Calls Tryd.prog 24 #[.agg #[v, .int .i64 st, .int .i64 sl], .agg #[u, .int .i64 st', .int .i64 sl']] W fun e W' => e = .returned (.bool (decide (st = st' ∧ sl = sl' ∧ l = m))) ∧ Below W.heap.size W W' := by
  obtain ⟨W1, hW1⟩ : ∃ W1, (W.alloc (.cells #[v, .int .i64 st, .int .i64 sl] 46)).alloc (.cells #[u, .int .i64 st', .int .i64 sl'] 46) = W1 := ⟨_, rfl⟩
  have hb1 : Below W.heap.size W W1 := by rw [← hW1]; exact ((Below.refl _ _).alloc (Nat.le_refl _) _).alloc (by simp) _
  have HC := Lib.hid (insts_same W1 v u l m (ha.below (Nat.le_refl _) hb1) (hb.below (Nat.le_refl _) hb1))
  have HB1 := Lib.hid hb1
  have HW1 := Lib.hid hW1
  obtain ⟨a, p, rfl, hl, h1⟩ := ha.rd
  obtain ⟨b, q, rfl, hm, h2⟩ := hb.rd
  by_cases e1 : st = st'
  · by_cases e2 : sl = sl'
    · subst e1; subst e2
      have hD : decide (st = st ∧ sl = sl ∧ l = m) = decide (l = m) := by rw [decide_eq_decide]; exact ⟨fun h => h.2.2, fun h => ⟨rfl, rfl, h⟩⟩
      rw [hD]
      clear hD
      obtain ⟨n, hn⟩ : ∃ n, l.length = n := ⟨_, rfl⟩
      obtain ⟨n', hn'⟩ : ∃ n', m.length = n' := ⟨_, rfl⟩
      obtain ⟨Z, hZ⟩ : ∃ Z, decide (l = m) = Z := ⟨_, rfl⟩
      rw [hZ] at HC ⊢
      rw [hn, hn'] at HC HW1 ⊢
      have hst : (st == st) = true := by simp
      have hsl : (sl == sl) = true := by simp
      clear hb1 hW1 ha hb h1 h2 hn hn' hZ hl hm
      go_enter Tryd.func24, Tryd.ntmps24
      go_wp2_with fail
      rw [HW1.out]
      refine HC.out.mono ?_
      rintro e w2 ⟨rfl, d, rfl⟩
      go_wp2
      go_ret
      exact ⟨rfl, below_drewN HB1.out d⟩
    · have hF : decide (st = st' ∧ sl = sl' ∧ l = m) = false := by rw [decide_eq_false_iff_not]; exact fun h => e2 h.2.1
      rw [hF]
      clear hF
      have h1' : (st == st') = true := by rw [beq_iff_eq]; exact e1
      have h2' : (sl == sl') = false := by rw [beq_eq_false_iff_ne]; exact e2
      clear hb1 hW1 ha hb h1 h2 e1 e2
      go_enter Tryd.func24, Tryd.ntmps24
      go_wp2
      go_ret
      rw [HW1.out]
      exact ⟨rfl, HB1.out⟩
  · have hF : decide (st = st' ∧ sl = sl' ∧ l = m) = false := by rw [decide_eq_false_iff_not]; exact fun h => e1 h.1
    rw [hF]
    clear hF
    have h1' : (st == st') = false := by rw [beq_eq_false_iff_ne]; exact e1
    clear hb1 hW1 ha hb h1 h2 e1
    go_enter Tryd.func24, Tryd.ntmps24
    go_wp2
    go_ret
    rw [HW1.out]
    exact ⟨rfl, HB1.out⟩






















































end Pgm
end Go.Proofs.YtchcjinaagncjaaDoor
