/- The landed wire: own. -/
import Derived.Test.YtfnimmbmcjgdpaaDoorGp17
import Derived.Test.YtfnimmbmcjgdpaaDoorGp19
namespace Go.Proofs.YtfnimmbmcjgdpaaDoor
open Go.RowKit
set_option linter.unusedVariables false
namespace Pgm
/-- A row of pointers to integers' places. -/
def PtrRow (W : World) (a : Option Addr) (b : Nat) (xs : List (Nat × Nat)) : Prop :=
  ∀ j (h : j < xs.length), a = some ⟨b, 0, none⟩ ∧ ∃ cs, W.heap[b]? = some (.cells cs 102 (0, 0)) ∧ cs[j]? = some (.pointer (some ⟨xs[j].1, xs[j].2, none⟩))
theorem PtrRow.kept {W W' : World} {a : Option Addr} {b : Nat} {xs : List (Nat × Nat)} (h : PtrRow W a b xs) (hk : Lib.OthersKept 5 none W W') : PtrRow W' a b xs := fun j hj => by
  obtain ⟨e, cs, h1, h2⟩ := h j hj
  exact ⟨e, cs, hk b _ h1 (by simp) (fun c fz q => by injection q with _ q _; exact absurd q (by decide)), h2⟩
theorem PtrRow.of {W W' : World} {a : Option Addr} {b : Nat} {xs : List (Nat × Nat)} (h : PtrRow W a b xs) (e : W'.heap[b]? = W.heap[b]?) : PtrRow W' a b xs := fun j hj => by
  obtain ⟨e1, cs, h1, h2⟩ := h j hj
  exact ⟨e1, cs, e.trans h1, h2⟩
theorem PtrRow.nil (W : World) (a : Option Addr) (b : Nat) : PtrRow W a b [] := fun j hj => absurd hj (by simp)
theorem PtrRow.at_ {W : World} {a : Option Addr} {b : Nat} {xs : List (Nat × Nat)} (h : PtrRow W a b xs) {j : Nat} (hj : j < xs.length) : a = some ⟨b, 0, none⟩ ∧ b < W.heap.size ∧ W.cell? ⟨b, j, none⟩ = some (.pointer (some ⟨xs[j].1, xs[j].2, none⟩)) := by
  obtain ⟨e, cs, h1, h2⟩ := h j hj
  exact ⟨e, (Array.getElem?_eq_some_iff.1 h1).1, by simp [World.cell?, h1, h2]⟩
/-- Where an instruction's own fields lie. -/
def offL (op : Int) : List Nat := if op = 1 then [1, 2, 3] else if op = 2 then [3, 4] else if op = 3 ∨ op = 4 then [1, 3] else []
def plL (X : Nat) (op : Int) : List (Nat × Nat) := (offL op).map fun q => (X, q)
theorem off_len (op : Int) : (offL op).length = ownN op := by
  unfold offL ownN
  split
  · rfl
  · split
    · rfl
    · split <;> rfl
theorem pl_len (X : Nat) (op : Int) : (plL X op).length = ownN op := by unfold plL; rw [List.length_map, off_len]
theorem own_le3 (op : Int) : ownN op ≤ 3 := by unfold ownN; (repeat' split) <;> omega
def OwnQ (W : World) (X : Nat) (op : Int) (e : Ending) (w' : World) : Prop := ∃ a n c b, e = .returned (.slice a n c) ∧ n = ownN op ∧ W.heap.size ≤ b ∧ PtrRow w' a b (plL X op) ∧ Below W.heap.size W w'
theorem ptr_new {W V : World} (hV : ∀ k, W.heap.size ≤ k → True) {cs : Array Value} {xs : List (Nat × Nat)} (hcs : cs = (xs.map fun p => Value.pointer (some ⟨p.1, p.2, none⟩)).toArray) : PtrRow (V.alloc (.cells cs 102)) (some ⟨V.heap.size, 0, none⟩) V.heap.size xs := fun j hj => by
  refine ⟨rfl, cs, heap_alloc_new V _, ?_⟩
  rw [hcs]
  simp [List.getElem?_eq_getElem hj]
set_option maxRecDepth 100000 in
set_option maxHeartbeats 4000000 in
theorem ownp_1 (W : World) (X : Nat) (lo hi x y : Int) (hx : W.heap[X]? = some (.cells #[.int .i64 1, .int .i64 lo, .int .i64 hi, .int .i64 x, .int .i64 y] 81 (0, 0))) : Calls Tryd.prog 54 #[.pointer (some ⟨X, 0, none⟩)] W (OwnQ W X 1) := by
  have c0 : W.cell? ⟨X, 0, none⟩ = some (.int .i64 1) := blkp hx 0
  have HXL := Lib.hid (Array.getElem?_eq_some_iff.1 hx).1
  have HP : Hid (∀ V : World, PtrRow (V.alloc (.cells #[.pointer (some ⟨X, 1, none⟩), .pointer (some ⟨X, 2, none⟩), .pointer (some ⟨X, 3, none⟩)] 102)) (some ⟨V.heap.size, 0, none⟩) V.heap.size (plL X 1)) := Lib.hid (fun V => ptr_new (W := W) (fun _ _ => trivial) rfl)
  clear hx
  go_enter Tryd.func54, Tryd.ntmps54
  go_wp2
  go_region
  all_goals
    go_wp2
    go_ret
    exact ⟨_, _, _, _, rfl, rfl, Nat.le_refl _, HP.out _, by first | exact ((Below.refl W.heap.size W).drew).alloc (Nat.le_refl _) _ | exact ((Below.refl W.heap.size W).alloc (Nat.le_refl _) _).drew⟩
set_option maxRecDepth 100000 in
set_option maxHeartbeats 4000000 in
theorem ownp_2 (W : World) (X : Nat) (lo hi x y : Int) (hx : W.heap[X]? = some (.cells #[.int .i64 2, .int .i64 lo, .int .i64 hi, .int .i64 x, .int .i64 y] 81 (0, 0))) : Calls Tryd.prog 54 #[.pointer (some ⟨X, 0, none⟩)] W (OwnQ W X 2) := by
  have c0 : W.cell? ⟨X, 0, none⟩ = some (.int .i64 2) := blkp hx 0
  have HXL := Lib.hid (Array.getElem?_eq_some_iff.1 hx).1
  have HP : Hid (∀ V : World, PtrRow (V.alloc (.cells #[.pointer (some ⟨X, 3, none⟩), .pointer (some ⟨X, 4, none⟩)] 102)) (some ⟨V.heap.size, 0, none⟩) V.heap.size (plL X 2)) := Lib.hid (fun V => ptr_new (W := W) (fun _ _ => trivial) rfl)
  clear hx
  go_enter Tryd.func54, Tryd.ntmps54
  go_wp2
  go_region
  all_goals
    go_wp2
    go_ret
    exact ⟨_, _, _, _, rfl, rfl, Nat.le_refl _, HP.out _, by first | exact ((Below.refl W.heap.size W).drew).alloc (Nat.le_refl _) _ | exact ((Below.refl W.heap.size W).alloc (Nat.le_refl _) _).drew⟩
set_option maxRecDepth 100000 in
set_option maxHeartbeats 4000000 in
theorem ownp_3 (W : World) (X : Nat) (lo hi x y : Int) (hx : W.heap[X]? = some (.cells #[.int .i64 3, .int .i64 lo, .int .i64 hi, .int .i64 x, .int .i64 y] 81 (0, 0))) : Calls Tryd.prog 54 #[.pointer (some ⟨X, 0, none⟩)] W (OwnQ W X 3) := by
  have c0 : W.cell? ⟨X, 0, none⟩ = some (.int .i64 3) := blkp hx 0
  have HXL := Lib.hid (Array.getElem?_eq_some_iff.1 hx).1
  have HP : Hid (∀ V : World, PtrRow (V.alloc (.cells #[.pointer (some ⟨X, 1, none⟩), .pointer (some ⟨X, 3, none⟩)] 102)) (some ⟨V.heap.size, 0, none⟩) V.heap.size (plL X 3)) := Lib.hid (fun V => ptr_new (W := W) (fun _ _ => trivial) rfl)
  clear hx
  go_enter Tryd.func54, Tryd.ntmps54
  go_wp2
  go_region
  all_goals
    go_wp2
    go_ret
    exact ⟨_, _, _, _, rfl, rfl, Nat.le_refl _, HP.out _, by first | exact ((Below.refl W.heap.size W).drew).alloc (Nat.le_refl _) _ | exact ((Below.refl W.heap.size W).alloc (Nat.le_refl _) _).drew⟩
set_option maxRecDepth 100000 in
set_option maxHeartbeats 4000000 in
theorem ownp_4 (W : World) (X : Nat) (lo hi x y : Int) (hx : W.heap[X]? = some (.cells #[.int .i64 4, .int .i64 lo, .int .i64 hi, .int .i64 x, .int .i64 y] 81 (0, 0))) : Calls Tryd.prog 54 #[.pointer (some ⟨X, 0, none⟩)] W (OwnQ W X 4) := by
  have c0 : W.cell? ⟨X, 0, none⟩ = some (.int .i64 4) := blkp hx 0
  have HXL := Lib.hid (Array.getElem?_eq_some_iff.1 hx).1
  have HP : Hid (∀ V : World, PtrRow (V.alloc (.cells #[.pointer (some ⟨X, 1, none⟩), .pointer (some ⟨X, 3, none⟩)] 102)) (some ⟨V.heap.size, 0, none⟩) V.heap.size (plL X 4)) := Lib.hid (fun V => ptr_new (W := W) (fun _ _ => trivial) rfl)
  clear hx
  go_enter Tryd.func54, Tryd.ntmps54
  go_wp2
  go_region
  all_goals
    go_wp2
    go_ret
    exact ⟨_, _, _, _, rfl, rfl, Nat.le_refl _, HP.out _, by first | exact ((Below.refl W.heap.size W).drew).alloc (Nat.le_refl _) _ | exact ((Below.refl W.heap.size W).alloc (Nat.le_refl _) _).drew⟩
set_option maxRecDepth 100000 in
set_option maxHeartbeats 4000000 in
theorem ownp_no (W : World) (X : Nat) (op lo hi x y : Int) (h : op ≠ 1 ∧ op ≠ 2 ∧ op ≠ 3 ∧ op ≠ 4) (hx : W.heap[X]? = some (.cells #[.int .i64 op, .int .i64 lo, .int .i64 hi, .int .i64 x, .int .i64 y] 81 (0, 0))) : Calls Tryd.prog 54 #[.pointer (some ⟨X, 0, none⟩)] W (OwnQ W X op) := by
  have c0 : W.cell? ⟨X, 0, none⟩ = some (.int .i64 op) := blkp hx 0
  have HN : Hid (ownN op = 0) := Lib.hid (by unfold ownN; rw [if_neg h.1, if_neg h.2.1, if_neg (by omega)])
  have HL : Hid (plL X op = []) := Lib.hid (by unfold plL offL; rw [if_neg h.1, if_neg h.2.1, if_neg (by omega)]; rfl)
  have e1 : (op == 1) = false := by rw [beq_eq_false_iff_ne]; omega
  have e2 : (op == 2) = false := by rw [beq_eq_false_iff_ne]; omega
  have e3 : (op == 3) = false := by rw [beq_eq_false_iff_ne]; omega
  have e4 : (op == 4) = false := by rw [beq_eq_false_iff_ne]; omega
  clear hx h
  go_enter Tryd.func54, Tryd.ntmps54
  go_wp2
  all_goals
    go_ret
    exact ⟨none, 0, 0, W.heap.size, rfl, HN.out.symm, Nat.le_refl _, by rw [HL.out]; exact PtrRow.nil _ _ _, Below.refl _ _⟩
theorem ownp_any (W : World) (X : Nat) (op lo hi x y : Int) (hx : W.heap[X]? = some (.cells #[.int .i64 op, .int .i64 lo, .int .i64 hi, .int .i64 x, .int .i64 y] 81 (0, 0))) : Calls Tryd.prog 54 #[.pointer (some ⟨X, 0, none⟩)] W (OwnQ W X op) := by
  by_cases h : op ≠ 1 ∧ op ≠ 2 ∧ op ≠ 3 ∧ op ≠ 4
  · exact ownp_no W X op lo hi x y h hx
  · have : op = 1 ∨ op = 2 ∨ op = 3 ∨ op = 4 := by omega
    rcases this with rfl | rfl | rfl | rfl
    · exact ownp_1 W X lo hi x y hx
    · exact ownp_2 W X lo hi x y hx
    · exact ownp_3 W X lo hi x y hx
    · exact ownp_4 W X lo hi x y hx
end Pgm
end Go.Proofs.YtfnimmbmcjgdpaaDoor
