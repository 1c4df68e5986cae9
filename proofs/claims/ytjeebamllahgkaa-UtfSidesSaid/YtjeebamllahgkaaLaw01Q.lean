/- The state that a round of burinlaw01.pieces goes through, and what each operation makes of it. -/
import Derived.Test.YtjeebamllahgkaaUtfF
import Derived.Test.YtjeebamllahgkaaRef01E
import Derived.Test.YtjeebamllahgkaaRegInv
namespace Go.Proofs.Ytjeebamllahgkaa
open Go.RowKit Go.Shelf
set_option linter.unusedVariables false
theorem ownsRow_base {W : World} {b b' : Nat} {e : TypeId} {size : Nat} {v : Value} {n : Nat} {xs : List Value} (h : W.ownsRow b e size v n xs) (hb : b' ≤ b) : W.ownsRow b' e size v n xs := by
  refine ⟨h.1, ?_⟩
  rcases h.2 with h | ⟨g, cap, cur, hv, hg, r⟩
  · exact .inl h
  · exact .inr ⟨g, cap, cur, hv, by omega, r⟩
theorem TwoRows.base {W : World} {b b' : Nat} {v1 v2 : Value} {n1 n2 : Nat} {x1 x2 : List Value} (h : TwoRows W b v1 n1 x1 v2 n2 x2) (hb : b' ≤ b) : TwoRows W b' v1 n1 x1 v2 n2 x2 :=
  ⟨ownsRow_base h.1 hb, ownsRow_base h.2.1 hb, h.2.2⟩
theorem ownsRow_slice {W : World} {b : Nat} {e : TypeId} {size : Nat} {v : Value} {n : Nat} {xs : List Value} (h : W.ownsRow b e size v n xs) : ∃ a cap, v = .slice a n cap := by
  rcases h.2 with ⟨rfl, rfl⟩ | ⟨g, cap, cur, hv, _⟩
  · exact ⟨_, _, rfl⟩
  · exact ⟨_, _, hv⟩
/-- The world of a round: four boxes, two rows. -/
structure PW (b : Nat) (s : ByteArray) (most : Int) (w W0 W : World) (p1 p2 r1 r2 : Value) (n1 n2 : Nat) (xs1 xs2 : List Value) : Prop where
  box0 : Boxed W b 3 (.int .i64 most)
  box1 : Boxed W (b + 1) 30 p1
  box2 : Boxed W (b + 2) 30 p2
  box3 : Boxed W (b + 3) 9 (.string s)
  rows : TwoRows W (b + 4) r1 n1 xs1 r2 n2 xs2
  others : KeepsOthers W0 W
  below : Below b w W
section
variable {b : Nat} {s : ByteArray} {most : Int} {w W0 W W' : World} {p1 p2 r1 r2 : Value} {n1 n2 : Nat} {xs1 xs2 : List Value}
theorem PW.size (h : PW b s most w W0 W p1 p2 r1 r2 n1 n2 xs1 xs2) : b + 4 ≤ W.heap.size := h.box3.lt
theorem PW.alloc (h : PW b s most w W0 W p1 p2 r1 r2 n1 n2 xs1 xs2) (o : Obj) : PW b s most w W0 (W.alloc o) p1 p2 r1 r2 n1 n2 xs1 xs2 :=
  ⟨h.box0.alloc o, h.box1.alloc o, h.box2.alloc o, h.box3.alloc o, h.rows.grew (World.grownBy_alloc W o none), h.others.trans (KeepsOthers.alloc W o), h.below.alloc (by have := h.size; omega) o⟩
theorem PW.drew (h : PW b s most w W0 W p1 p2 r1 r2 n1 n2 xs1 xs2) : PW b s most w W0 W.drew p1 p2 r1 r2 n1 n2 xs1 xs2 :=
  ⟨h.box0, h.box1, h.box2, h.box3, h.rows.grew ⟨rfl, rfl, rfl, Nat.le_refl _, fun _ _ _ => rfl⟩, h.others.trans (KeepsOthers.drew W), h.below.drew⟩
theorem own_cells {v : Value} {n : Nat} {xs : List Value} {B : Nat} (h : W.ownsRow B 3 1 v n xs) (j : Nat) (o : Obj) (hj : v.ownBlock = some j) (ho : W.heap[j]? = some o) : o.isCells = true := by
  rcases h.2 with ⟨rfl, _⟩ | ⟨g, cap, cur, rfl, _, hgb, _⟩
  · simp [Value.ownBlock] at hj
  · obtain rfl : g = j := by simpa [Value.ownBlock] using hj
    rw [hgb] at ho; cases ho; rfl
theorem PW.app1 (h : PW b s most w W0 W p1 p2 r1 r2 n1 n2 xs1 xs2) {v' : Value} {n' : Nat} {xs' : List Value} {g : Nat} (ho : W'.ownsRow (b + 4) 3 1 v' n' xs') (hg : W.grownBy W' r1.ownBlock)
    (hv : v'.ownBlock = some g) (hat : r1.ownBlock = some g ∨ g = W.heap.size) : PW b s most w W0 W' p1 p2 v' r2 n' n2 xs' xs2 := by
  have hlt := h.rows.1.lt
  have ne : ∀ B, B < b + 4 → some B ≠ r1.ownBlock := fun B hB e => by have := (hlt B e.symm).1; omega
  exact ⟨h.box0.kept hg (ne _ (by omega)), h.box1.kept hg (ne _ (by omega)), h.box2.kept hg (ne _ (by omega)), h.box3.kept hg (ne _ (by omega)),
    TwoRows.first h.rows ho hg hv hat (Nat.le_refl _), h.others.trans (KeepsOthers.of_grownBy hg (own_cells h.rows.1)), h.below.grown hg (by have := h.size; omega) (fun k e => by have := (hlt k e).1; omega)⟩
theorem PW.app2 (h : PW b s most w W0 W p1 p2 r1 r2 n1 n2 xs1 xs2) {v' : Value} {n' : Nat} {xs' : List Value} {g : Nat} (ho : W'.ownsRow (b + 4) 3 1 v' n' xs') (hg : W.grownBy W' r2.ownBlock)
    (hv : v'.ownBlock = some g) (hat : r2.ownBlock = some g ∨ g = W.heap.size) : PW b s most w W0 W' p1 p2 r1 v' n1 n' xs1 xs' := by
  have hlt := h.rows.2.1.lt
  have ne : ∀ B, B < b + 4 → some B ≠ r2.ownBlock := fun B hB e => by have := (hlt B e.symm).1; omega
  exact ⟨h.box0.kept hg (ne _ (by omega)), h.box1.kept hg (ne _ (by omega)), h.box2.kept hg (ne _ (by omega)), h.box3.kept hg (ne _ (by omega)),
    (TwoRows.first h.rows.swap ho hg hv hat (Nat.le_refl _)).swap, h.others.trans (KeepsOthers.of_grownBy hg (own_cells h.rows.2.1)), h.below.grown hg (by have := h.size; omega) (fun k e => by have := (hlt k e).1; omega)⟩
theorem rows_set (h : TwoRows W (b + 4) r1 n1 xs1 r2 n2 xs2) (B : Nat) (hB : B < b + 4) (v : Value) : TwoRows (W.setCell ⟨B, 0, none⟩ v) (b + 4) r1 n1 xs1 r2 n2 xs2 :=
  h.kept (grownBy_setCell' W B v) (.inr fun e => by have := (h.1.lt B e).1; omega) (.inr fun e => by have := (h.2.1.lt B e).1; omega)
theorem PW.set1 (h : PW b s most w W0 W p1 p2 r1 r2 n1 n2 xs1 xs2) (v : Value) : PW b s most w W0 (W.setCell ⟨b + 1, 0, none⟩ v) v p2 r1 r2 n1 n2 xs1 xs2 :=
  ⟨h.box0.kept (grownBy_setCell' W _ v) (by simp), h.box1.set v, h.box2.kept (grownBy_setCell' W _ v) (by simp), h.box3.kept (grownBy_setCell' W _ v) (by simp), rows_set h.rows _ (by omega) v,
    h.others.trans (KeepsOthers.setCell _ _ _), h.below.setCell (p := ⟨b + 1, 0, none⟩) (by simp) v⟩
theorem PW.set2 (h : PW b s most w W0 W p1 p2 r1 r2 n1 n2 xs1 xs2) (v : Value) : PW b s most w W0 (W.setCell ⟨b + 2, 0, none⟩ v) p1 v r1 r2 n1 n2 xs1 xs2 :=
  ⟨h.box0.kept (grownBy_setCell' W _ v) (by simp), h.box1.kept (grownBy_setCell' W _ v) (by simp), h.box2.set v, h.box3.kept (grownBy_setCell' W _ v) (by simp), rows_set h.rows _ (by omega) v,
    h.others.trans (KeepsOthers.setCell _ _ _), h.below.setCell (p := ⟨b + 2, 0, none⟩) (by simp) v⟩
/-- A number that lies in a block of its own, to be appended. -/
def Tmp (W : World) (g : Nat) (x : Int) (r1 r2 : Value) : Prop := Boxed W g 3 (.int .i64 x) ∧ r1.ownBlock ≠ some g ∧ r2.ownBlock ≠ some g
theorem Tmp.new (h : TwoRows W (b + 4) r1 n1 xs1 r2 n2 xs2) (x : Int) : Tmp (W.alloc (.cells #[.int .i64 x] 3)) W.heap.size x r1 r2 :=
  ⟨Boxed.new W _ _, fun e => by have := (h.1.lt _ e).2; omega, fun e => by have := (h.2.1.lt _ e).2; omega⟩
theorem Tmp.alloc {g : Nat} {x : Int} (h : Tmp W g x r1 r2) (o : Obj) : Tmp (W.alloc o) g x r1 r2 := ⟨h.1.alloc o, h.2⟩
theorem Tmp.app1 {g g' : Nat} {x : Int} {v' : Value} (h : Tmp W g x r1 r2) (hg : W.grownBy W' r1.ownBlock) (hv : v'.ownBlock = some g') (hat : r1.ownBlock = some g' ∨ g' = W.heap.size) : Tmp W' g x v' r2 :=
  ⟨h.1.kept hg (fun e => h.2.1 e.symm), fun e => by
    rw [hv] at e; cases e
    rcases hat with e | e
    · exact h.2.1 e
    · have := h.1.lt; omega, h.2.2⟩
theorem Tmp.cells {g : Nat} {x : Int} (h : Tmp W g x r1 r2) : ∀ j u, [Value.int .i64 x][j]? = some u → W.cell? ((⟨g, 0, none⟩ : Addr).add j) = some u :=
  World.news_of_block (cs := #[.int .i64 x]) h.1
end
/-- The state of the region: which operations have run, what their slots hold. -/
structure RI (b : Nat) (s : ByteArray) (most : Int) (w W0 : World) (v1 v2 : Value) (x1 x2 : Int) (l : List (Int × Int)) (f : Nat → Bool) (u22 u23 u24 u25 u26 u27 u28 u29 : Value) (W : World)
    (p1 p2 r1 r2 : Value) (n1 n2 : Nat) (xs1 xs2 : List Value) : Prop where
  pw : PW b s most w W0 W p1 p2 r1 r2 n1 n2 xs1 xs2
  c0 : f 0 = true → u22 = v1
  c1 : f 1 = true → u23 = .int .i64 x1
  c2 : f 2 = true → f 3 = false → ∃ g, u24 = .slice (some ⟨g, 0, none⟩) 1 1 ∧ Tmp W g x1 r1 r2
  c4 : f 4 = true → u26 = v2
  c5 : f 5 = true → u27 = .int .i64 x2
  c6 : f 6 = true → f 7 = false → ∃ g, u28 = .slice (some ⟨g, 0, none⟩) 1 1 ∧ Tmp W g x2 r1 r2
  c3n : f 3 = false → r1 = v1 ∧ n1 = l.length ∧ xs1 = ints1 l
  c3y : f 3 = true → u25 = r1 ∧ n1 = l.length + 1 ∧ xs1 = ints1 l ++ [.int .i64 x1]
  c7n : f 7 = false → r2 = v2 ∧ n2 = l.length ∧ xs2 = ints2 l
  c7y : f 7 = true → u29 = r2 ∧ n2 = l.length + 1 ∧ xs2 = ints2 l ++ [.int .i64 x2]
  c8n : f 8 = false → p1 = v1
  c8y : f 8 = true → p1 = r1 ∧ f 0 = true ∧ f 3 = true ∧ f 7 = true
  c9n : f 9 = false → p2 = v2
  c9y : f 9 = true → p2 = r2 ∧ f 4 = true ∧ f 7 = true
def upd (f : Nat → Bool) (i : Nat) : Nat → Bool := fun j => if j = i then true else f j
section
variable {b : Nat} {s : ByteArray} {most : Int} {w W0 W W' : World} {v1 v2 : Value} {x1 x2 : Int} {l : List (Int × Int)} {f : Nat → Bool} {u22 u23 u24 u25 u26 u27 u28 u29 : Value} {p1 p2 r1 r2 : Value} {n1 n2 : Nat} {xs1 xs2 : List Value}
theorem RI.no8 (h : RI b s most w W0 v1 v2 x1 x2 l f u22 u23 u24 u25 u26 u27 u28 u29 W p1 p2 r1 r2 n1 n2 xs1 xs2) {i : Nat} (hi : i = 0 ∨ i = 3 ∨ i = 7) (hf : f i = false) : f 8 = false := by
  cases e : f 8 with
  | false => rfl
  | true =>
    obtain ⟨_, h0, h3, h7⟩ := h.c8y e
    rcases hi with rfl | rfl | rfl <;> simp_all
theorem RI.no9 (h : RI b s most w W0 v1 v2 x1 x2 l f u22 u23 u24 u25 u26 u27 u28 u29 W p1 p2 r1 r2 n1 n2 xs1 xs2) {i : Nat} (hi : i = 4 ∨ i = 7) (hf : f i = false) : f 9 = false := by
  cases e : f 9 with
  | false => rfl
  | true =>
    obtain ⟨_, h4, h7⟩ := h.c9y e
    rcases hi with rfl | rfl <;> simp_all
theorem RI.op0 (h : RI b s most w W0 v1 v2 x1 x2 l f u22 u23 u24 u25 u26 u27 u28 u29 W p1 p2 r1 r2 n1 n2 xs1 xs2) (hf : f 0 = false) : RI b s most w W0 v1 v2 x1 x2 l (upd f 0) p1 u23 u24 u25 u26 u27 u28 u29 W p1 p2 r1 r2 n1 n2 xs1 xs2 := by
  exact { pw := (h.pw), c0 := (fun _ => h.c8n (h.no8 (.inl rfl) hf)), c1 := (h.c1), c2 := (h.c2), c4 := (h.c4), c5 := (h.c5), c6 := (h.c6), c3n := (h.c3n), c3y := (h.c3y), c7n := (h.c7n), c7y := (h.c7y), c8n := (h.c8n), c8y := (fun e => ⟨(h.c8y e).1, rfl, (h.c8y e).2.2⟩), c9n := (h.c9n), c9y := (h.c9y) }
theorem RI.op1 (h : RI b s most w W0 v1 v2 x1 x2 l f u22 u23 u24 u25 u26 u27 u28 u29 W p1 p2 r1 r2 n1 n2 xs1 xs2) (hf : f 1 = false) : RI b s most w W0 v1 v2 x1 x2 l (upd f 1) u22 (.int .i64 x1) u24 u25 u26 u27 u28 u29 W p1 p2 r1 r2 n1 n2 xs1 xs2 := by
  exact { pw := (h.pw), c0 := (h.c0), c1 := (fun _ => rfl), c2 := (h.c2), c4 := (h.c4), c5 := (h.c5), c6 := (h.c6), c3n := (h.c3n), c3y := (h.c3y), c7n := (h.c7n), c7y := (h.c7y), c8n := (h.c8n), c8y := (h.c8y), c9n := (h.c9n), c9y := (h.c9y) }
theorem RI.op2 (h : RI b s most w W0 v1 v2 x1 x2 l f u22 u23 u24 u25 u26 u27 u28 u29 W p1 p2 r1 r2 n1 n2 xs1 xs2) (hf : f 2 = false) : RI b s most w W0 v1 v2 x1 x2 l (upd f 2) u22 u23 (.slice (some ⟨W.heap.size, 0, none⟩) 1 1) u25 u26 u27 u28 u29 (W.alloc (.cells #[.int .i64 x1] 3)) p1 p2 r1 r2 n1 n2 xs1 xs2 := by
  exact { pw := (h.pw.alloc _), c0 := (h.c0), c1 := (h.c1), c2 := (fun _ _ => ⟨_, rfl, Tmp.new h.pw.rows x1⟩), c4 := (h.c4), c5 := (h.c5), c6 := (fun e e' => by obtain ⟨g, hg, ht⟩ := h.c6 e e'; exact ⟨g, hg, ht.alloc _⟩), c3n := (h.c3n), c3y := (h.c3y), c7n := (h.c7n), c7y := (h.c7y), c8n := (h.c8n), c8y := (h.c8y), c9n := (h.c9n), c9y := (h.c9y) }
theorem RI.op4 (h : RI b s most w W0 v1 v2 x1 x2 l f u22 u23 u24 u25 u26 u27 u28 u29 W p1 p2 r1 r2 n1 n2 xs1 xs2) (hf : f 4 = false) : RI b s most w W0 v1 v2 x1 x2 l (upd f 4) u22 u23 u24 u25 p2 u27 u28 u29 W p1 p2 r1 r2 n1 n2 xs1 xs2 := by
  exact { pw := (h.pw), c0 := (h.c0), c1 := (h.c1), c2 := (h.c2), c4 := (fun _ => h.c9n (h.no9 (.inl rfl) hf)), c5 := (h.c5), c6 := (h.c6), c3n := (h.c3n), c3y := (h.c3y), c7n := (h.c7n), c7y := (h.c7y), c8n := (h.c8n), c8y := (h.c8y), c9n := (h.c9n), c9y := (fun e => ⟨(h.c9y e).1, rfl, (h.c9y e).2.2⟩) }
theorem RI.op5 (h : RI b s most w W0 v1 v2 x1 x2 l f u22 u23 u24 u25 u26 u27 u28 u29 W p1 p2 r1 r2 n1 n2 xs1 xs2) (hf : f 5 = false) : RI b s most w W0 v1 v2 x1 x2 l (upd f 5) u22 u23 u24 u25 u26 (.int .i64 x2) u28 u29 W p1 p2 r1 r2 n1 n2 xs1 xs2 := by
  exact { pw := (h.pw), c0 := (h.c0), c1 := (h.c1), c2 := (h.c2), c4 := (h.c4), c5 := (fun _ => rfl), c6 := (h.c6), c3n := (h.c3n), c3y := (h.c3y), c7n := (h.c7n), c7y := (h.c7y), c8n := (h.c8n), c8y := (h.c8y), c9n := (h.c9n), c9y := (h.c9y) }
theorem RI.op6 (h : RI b s most w W0 v1 v2 x1 x2 l f u22 u23 u24 u25 u26 u27 u28 u29 W p1 p2 r1 r2 n1 n2 xs1 xs2) (hf : f 6 = false) : RI b s most w W0 v1 v2 x1 x2 l (upd f 6) u22 u23 u24 u25 u26 u27 (.slice (some ⟨W.heap.size, 0, none⟩) 1 1) u29 (W.alloc (.cells #[.int .i64 x2] 3)) p1 p2 r1 r2 n1 n2 xs1 xs2 := by
  exact { pw := (h.pw.alloc _), c0 := (h.c0), c1 := (h.c1), c2 := (fun e e' => by obtain ⟨g, hg, ht⟩ := h.c2 e e'; exact ⟨g, hg, ht.alloc _⟩), c4 := (h.c4), c5 := (h.c5), c6 := (fun _ _ => ⟨_, rfl, Tmp.new h.pw.rows x2⟩), c3n := (h.c3n), c3y := (h.c3y), c7n := (h.c7n), c7y := (h.c7y), c8n := (h.c8n), c8y := (h.c8y), c9n := (h.c9n), c9y := (h.c9y) }
theorem RI.op3 (h : RI b s most w W0 v1 v2 x1 x2 l f u22 u23 u24 u25 u26 u27 u28 u29 W p1 p2 r1 r2 n1 n2 xs1 xs2) (hf : f 3 = false) {g cap : Nat} (ho : W'.ownsRow (b + 4) 3 1 (.slice (some ⟨g, 0, none⟩) (l.length + 1) cap) (l.length + 1) (ints1 l ++ [.int .i64 x1])) (hg : W.grownBy W' r1.ownBlock) (hat : r1.ownBlock = some g ∨ g = W.heap.size) : RI b s most w W0 v1 v2 x1 x2 l (upd f 3) u22 u23 u24 (.slice (some ⟨g, 0, none⟩) (l.length + 1) cap) u26 u27 u28 u29 W' p1 p2 (.slice (some ⟨g, 0, none⟩) (l.length + 1) cap) r2 (l.length + 1) n2 (ints1 l ++ [.int .i64 x1]) xs2 := by
  have h8 := h.no8 (.inr (.inl rfl)) hf
  exact { pw := (h.pw.app1 ho hg rfl hat), c0 := (h.c0), c1 := (h.c1), c2 := (fun _ e => by cases e), c4 := (h.c4), c5 := (h.c5), c6 := (fun e e' => by obtain ⟨g', hg', ht⟩ := h.c6 e e'; exact ⟨g', hg', ht.app1 hg rfl hat⟩), c3n := (fun e => by cases e), c3y := (fun _ => ⟨rfl, rfl, rfl⟩), c7n := (h.c7n), c7y := (h.c7y), c8n := (h.c8n), c8y := (fun e => by have e' : f 8 = true := e; rw [h8] at e'; cases e'), c9n := (h.c9n), c9y := (h.c9y) }
theorem RI.op7 (h : RI b s most w W0 v1 v2 x1 x2 l f u22 u23 u24 u25 u26 u27 u28 u29 W p1 p2 r1 r2 n1 n2 xs1 xs2) (hf : f 7 = false) (h3 : f 3 = true) (h4 : f 4 = true) {g cap : Nat} (ho : W'.ownsRow (b + 4) 3 1 (.slice (some ⟨g, 0, none⟩) (l.length + 1) cap) (l.length + 1) (ints2 l ++ [.int .i64 x2])) (hg : W.grownBy W' r2.ownBlock) (hat : r2.ownBlock = some g ∨ g = W.heap.size) : RI b s most w W0 v1 v2 x1 x2 l (upd f 7) u22 u23 u24 u25 u26 u27 u28 (.slice (some ⟨g, 0, none⟩) (l.length + 1) cap) W' p1 p2 r1 (.slice (some ⟨g, 0, none⟩) (l.length + 1) cap) n1 (l.length + 1) xs1 (ints2 l ++ [.int .i64 x2]) := by
  have h8 := h.no8 (.inr (.inr rfl)) hf
  have h9 := h.no9 (.inr rfl) hf
  exact { pw := (h.pw.app2 ho hg rfl hat), c0 := (h.c0), c1 := (h.c1), c2 := (fun _ e => by have e' : f 3 = false := e; rw [h3] at e'; cases e'), c4 := (h.c4), c5 := (h.c5), c6 := (fun _ e => by cases e), c3n := (h.c3n), c3y := (h.c3y), c7n := (fun e => by cases e), c7y := (fun _ => ⟨rfl, rfl, rfl⟩), c8n := (h.c8n), c8y := (fun e => by have e' : f 8 = true := e; rw [h8] at e'; cases e'), c9n := (h.c9n), c9y := (fun e => by have e' : f 9 = true := e; rw [h9] at e'; cases e') }
theorem RI.op8 (h : RI b s most w W0 v1 v2 x1 x2 l f u22 u23 u24 u25 u26 u27 u28 u29 W p1 p2 r1 r2 n1 n2 xs1 xs2) (hf : f 8 = false) (h0 : f 0 = true) (h3 : f 3 = true) (h7 : f 7 = true) : RI b s most w W0 v1 v2 x1 x2 l (upd f 8) u22 u23 u24 u25 u26 u27 u28 u29 (W.setCell ⟨b + 1, 0, none⟩ r1) r1 p2 r1 r2 n1 n2 xs1 xs2 := by
  exact { pw := (h.pw.set1 r1), c0 := (h.c0), c1 := (h.c1), c2 := (fun _ e => by have e' : f 3 = false := e; rw [h3] at e'; cases e'), c4 := (h.c4), c5 := (h.c5), c6 := (fun _ e => by have e' : f 7 = false := e; rw [h7] at e'; cases e'), c3n := (h.c3n), c3y := (h.c3y), c7n := (h.c7n), c7y := (h.c7y), c8n := (fun e => by cases e), c8y := (fun _ => ⟨rfl, h0, h3, h7⟩), c9n := (h.c9n), c9y := (h.c9y) }
theorem RI.op9 (h : RI b s most w W0 v1 v2 x1 x2 l f u22 u23 u24 u25 u26 u27 u28 u29 W p1 p2 r1 r2 n1 n2 xs1 xs2) (hf : f 9 = false) (h3 : f 3 = true) (h4 : f 4 = true) (h7 : f 7 = true) : RI b s most w W0 v1 v2 x1 x2 l (upd f 9) u22 u23 u24 u25 u26 u27 u28 u29 (W.setCell ⟨b + 2, 0, none⟩ r2) p1 r2 r1 r2 n1 n2 xs1 xs2 := by
  exact { pw := (h.pw.set2 r2), c0 := (h.c0), c1 := (h.c1), c2 := (fun _ e => by have e' : f 3 = false := e; rw [h3] at e'; cases e'), c4 := (h.c4), c5 := (h.c5), c6 := (fun _ e => by have e' : f 7 = false := e; rw [h7] at e'; cases e'), c3n := (h.c3n), c3y := (h.c3y), c7n := (h.c7n), c7y := (h.c7y), c8n := (h.c8n), c8y := (h.c8y), c9n := (fun e => by cases e), c9y := (fun _ => ⟨rfl, h4, h7⟩) }
end
end Go.Proofs.Ytjeebamllahgkaa
