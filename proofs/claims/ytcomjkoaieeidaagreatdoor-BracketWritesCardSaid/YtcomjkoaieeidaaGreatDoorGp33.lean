/- A region that draws its order, whose operations only read and whose callees make memory of their own: walked once, in the class of the worlds that have turned nothing old. · The contracts of utf.spell and utf.Encode. · The contract of utf.Encode: the bytes of the plain mathematics, or ErrRange. -/
import Derived.Test.YtcomjkoaieeidaaGreatDoorGp12
import Derived.Deep.QuietTactic
import Derived.Test.YtcomjkoaieeidaaGreatDoorGp23
import Derived.Laws.Bits128
import Derived.Laws.Rows
import Derived.Laws.BytesArg
import Derived.Laws.IdiomStrings
namespace Go.Proofs.YtcomjkoaieeidaaGreatDoor
open Go.RowKit
set_option linter.unusedVariables false
/-- A world that has turned nothing of w's. -/
structure GrownTo (w : World) where
  W' : World
  h : Below w.heap.size w W'
instance grownToSome (w : World) : Inhabited (GrownTo w) := ⟨⟨w, Below.refl _ _⟩⟩
theorem wp_region_quiet_below {P : Program} {id : Nat} {Q : Exit → Act → World → Prop} {a : Act} {w : World} {l : List Oper} (hm : P.follows .mixedOrders = true) (hB : Region.lexB .any l.toArray = true)
    (h : wpQuiet P l.toArray (fun w' => ∃ p : GrownTo w, w' = p.W') (fun a' => ∀ w', (∃ p : GrownTo w, w' = p.W') → Q .normal a' w') l a) : (Code.region id l.toArray true).wp P Q a w :=
  wp_region_quiet (C := fun w' => ∃ p : GrownTo w, w' = p.W') hm hB ⟨⟨w.drew, below_drewN (Below.refl _ _) 1⟩, rfl⟩ (by simpa using h)
theorem calls_grownTo {P : Program} {f : FuncId} {args : Array Value} {w : World} {p : GrownTo w} {v : Value}
    (h : Calls P f args p.W' fun e w' => e = .returned v ∧ Below p.W'.heap.size p.W' w') : Calls P f args p.W' fun e w'' => e = .returned v ∧ ∃ p' : GrownTo w, w'' = p'.W' :=
  h.mono fun _ w' ⟨he, hb⟩ => ⟨he, ⟨w', p.h.trans (hb.mono p.h.size)⟩, rfl⟩
theorem cell_grownTo {w : World} {a : Addr} {v : Value} (hb : a.block < w.heap.size) (h : w.cell? a = some v) (p : GrownTo w) : p.W'.cell? a = some v :=
  (p.h.cell hb).trans h
end Go.Proofs.YtcomjkoaieeidaaGreatDoor
namespace Go.Proofs.YtcomjkoaieeidaaGreatDoor
open Go.RowKit
set_option maxRecDepth 100000 in
set_option maxHeartbeats 400000 in
theorem spell1 (r : Int) (h1 : 0 ≤ r) (h2 : r ≤ 127) (w : World) : Calls Tryz.prog 47 #[.int .i64 r, .int .i64 1] w fun e w' =>
    e = .returned (.agg #[.int .u8 (r), .int .u8 (0), .int .u8 (0), .int .u8 (0)]) ∧ Below w.heap.size w w' := by
  go_enter Tryz.func47, Tryz.ntmps47
  go_wp2
  refine wp_loop_rounds 1 ?_
  rw [rounds_succ]
  go_wp2_with (go_at_call 80; refine (mark_any _ _).mono ?_; rintro e w' ⟨rfl, rfl⟩; rw [show Utf.mark 1 = 0 from by decide])
  refine bodyPost_ret (v := .agg #[.int .u8 (r), .int .u8 (0), .int .u8 (0), .int .u8 (0)]) ?_ rfl ⟨rfl, ((Below.refl _ _).alloc (Nat.le_refl _) _).alloc (by simp) _⟩
  simp [results, Tryz.results47, go_sem]
set_option maxRecDepth 100000 in
set_option maxHeartbeats 400000 in
theorem spell2 (r : Int) (h1 : 128 ≤ r) (h2 : r ≤ 2047) (w : World) : Calls Tryz.prog 47 #[.int .i64 r, .int .i64 2] w fun e w' =>
    e = .returned (.agg #[.int .u8 (192 + r / 64), .int .u8 (128 + r % 64), .int .u8 (0), .int .u8 (0)]) ∧ Below w.heap.size w w' := by
  have a1 := i64_and63 r
  go_enter Tryz.func47, Tryz.ntmps47
  go_wp2
  refine wp_loop_rounds 2 ?_
  rw [rounds_succ]
  go_wp2_with (go_at_call 80; refine (mark_any _ _).mono ?_; rintro e w' ⟨rfl, rfl⟩; rw [show Utf.mark 2 = 192 from by decide])
  rw [rounds_succ]
  go_wp2_with (go_at_call 80; refine (mark_any _ _).mono ?_; rintro e w' ⟨rfl, rfl⟩; rw [show Utf.mark 2 = 192 from by decide])
  refine bodyPost_ret (v := .agg #[.int .u8 (192 + r / 64), .int .u8 (128 + r % 64), .int .u8 (0), .int .u8 (0)]) ?_ rfl ⟨rfl, ((Below.refl _ _).alloc (Nat.le_refl _) _).alloc (by simp) _⟩
  simp [results, Tryz.results47, go_sem]
set_option maxRecDepth 100000 in
set_option maxHeartbeats 400000 in
theorem spell3 (r : Int) (h1 : 2048 ≤ r) (h2 : r ≤ 65535) (w : World) : Calls Tryz.prog 47 #[.int .i64 r, .int .i64 3] w fun e w' =>
    e = .returned (.agg #[.int .u8 (224 + r / 64 / 64), .int .u8 (128 + r / 64 % 64), .int .u8 (128 + r % 64), .int .u8 (0)]) ∧ Below w.heap.size w w' := by
  have a1 := i64_and63 r
  have a2 := i64_and63 (r / 64)
  go_enter Tryz.func47, Tryz.ntmps47
  go_wp2
  refine wp_loop_rounds 3 ?_
  rw [rounds_succ]
  go_wp2_with (go_at_call 80; refine (mark_any _ _).mono ?_; rintro e w' ⟨rfl, rfl⟩; rw [show Utf.mark 3 = 224 from by decide])
  rw [rounds_succ]
  go_wp2_with (go_at_call 80; refine (mark_any _ _).mono ?_; rintro e w' ⟨rfl, rfl⟩; rw [show Utf.mark 3 = 224 from by decide])
  rw [rounds_succ]
  go_wp2_with (go_at_call 80; refine (mark_any _ _).mono ?_; rintro e w' ⟨rfl, rfl⟩; rw [show Utf.mark 3 = 224 from by decide])
  refine bodyPost_ret (v := .agg #[.int .u8 (224 + r / 64 / 64), .int .u8 (128 + r / 64 % 64), .int .u8 (128 + r % 64), .int .u8 (0)]) ?_ rfl ⟨rfl, ((Below.refl _ _).alloc (Nat.le_refl _) _).alloc (by simp) _⟩
  simp [results, Tryz.results47, go_sem]
set_option maxRecDepth 100000 in
set_option maxHeartbeats 400000 in
theorem spell4 (r : Int) (h1 : 65536 ≤ r) (h2 : r ≤ 1114111) (w : World) : Calls Tryz.prog 47 #[.int .i64 r, .int .i64 4] w fun e w' =>
    e = .returned (.agg #[.int .u8 (240 + r / 64 / 64 / 64), .int .u8 (128 + r / 64 / 64 % 64), .int .u8 (128 + r / 64 % 64), .int .u8 (128 + r % 64)]) ∧ Below w.heap.size w w' := by
  have a1 := i64_and63 r
  have a2 := i64_and63 (r / 64)
  have a3 := i64_and63 (r / 64 / 64)
  go_enter Tryz.func47, Tryz.ntmps47
  go_wp2
  refine wp_loop_rounds 4 ?_
  rw [rounds_succ]
  go_wp2_with (go_at_call 80; refine (mark_any _ _).mono ?_; rintro e w' ⟨rfl, rfl⟩; rw [show Utf.mark 4 = 240 from by decide])
  rw [rounds_succ]
  go_wp2_with (go_at_call 80; refine (mark_any _ _).mono ?_; rintro e w' ⟨rfl, rfl⟩; rw [show Utf.mark 4 = 240 from by decide])
  rw [rounds_succ]
  go_wp2_with (go_at_call 80; refine (mark_any _ _).mono ?_; rintro e w' ⟨rfl, rfl⟩; rw [show Utf.mark 4 = 240 from by decide])
  rw [rounds_succ]
  go_wp2_with (go_at_call 80; refine (mark_any _ _).mono ?_; rintro e w' ⟨rfl, rfl⟩; rw [show Utf.mark 4 = 240 from by decide])
  refine bodyPost_ret (v := .agg #[.int .u8 (240 + r / 64 / 64 / 64), .int .u8 (128 + r / 64 / 64 % 64), .int .u8 (128 + r / 64 % 64), .int .u8 (128 + r % 64)]) ?_ rfl ⟨rfl, ((Below.refl _ _).alloc (Nat.le_refl _) _).alloc (by simp) _⟩
  simp [results, Tryz.results47, go_sem]

def cell4 (l : List Int) : Value := .agg #[.int .u8 (l[0]?.getD 0), .int .u8 (l[1]?.getD 0), .int .u8 (l[2]?.getD 0), .int .u8 (l[3]?.getD 0)]
theorem spell_any (r : Int) (h : Utf.width r ≠ 0) (w : World) : Calls Tryz.prog 47 #[.int .i64 r, .int .i64 (Utf.width r)] w fun e w' =>
    e = .returned (cell4 (Utf.encN r)) ∧ Below w.heap.size w w' := by
  rcases Utf.width_cases r with ⟨q, _⟩ | ⟨q, h1, h2⟩ | ⟨q, h1, h2⟩ | ⟨q, h1, h2, h3⟩ | ⟨q, h1, h2⟩
  · exact absurd q h
  · rw [q]; refine (spell1 r h1 h2 w).mono fun e w' ⟨he, hb⟩ => ⟨he.trans ?_, hb⟩
    simp [cell4, Utf.encN, q]
  · rw [q]; refine (spell2 r h1 h2 w).mono fun e w' ⟨he, hb⟩ => ⟨he.trans ?_, hb⟩
    simp [cell4, Utf.encN, q]
  · rw [q]; refine (spell3 r h1 h2 w).mono fun e w' ⟨he, hb⟩ => ⟨he.trans ?_, hb⟩
    have : r / 64 / 64 = r / 4096 := by omega
    simp [cell4, Utf.encN, q, this]
  · rw [q]; refine (spell4 r h1 h2 w).mono fun e w' ⟨he, hb⟩ => ⟨he.trans ?_, hb⟩
    have e1 : r / 64 / 64 = r / 4096 := by omega
    have e2 : r / 4096 / 64 = r / 262144 := by omega
    simp [cell4, Utf.encN, q, e1, e2]
end Go.Proofs.YtcomjkoaieeidaaGreatDoor
namespace Go.Proofs.YtcomjkoaieeidaaGreatDoor
open Go.RowKit
theorem slice4 (n : Nat) (hn : n ≤ 4) (b : Nat) (wx : World) :
    (Instr.sliceAt 62 (.pointer (some ⟨b, 0, none⟩)) none (some (.int .i64 (n : Int))) none).run Tryz.prog wx = .ok (.slice (some ⟨b, 0, none⟩) n 4) wx := by
  rcases (by omega : n = 0 ∨ n = 1 ∨ n = 2 ∨ n = 3 ∨ n = 4) with rfl | rfl | rfl | rfl | rfl <;> kernel_rfl
theorem conv4 (xs : List Int) (n : Nat) (hl : xs.length = n) (hn : n ≤ 4) (w1 : World) :
    (convert 64 9 (.slice (some ⟨w1.heap.size, 0, none⟩) n 4)).run Tryz.prog (w1.alloc (.cells #[.int .u8 (xs[0]?.getD 0), .int .u8 (xs[1]?.getD 0), .int .u8 (xs[2]?.getD 0), .int .u8 (xs[3]?.getD 0)] 62)) =
      .ok (.string (strOfNums xs)) (w1.alloc (.cells #[.int .u8 (xs[0]?.getD 0), .int .u8 (xs[1]?.getD 0), .int .u8 (xs[2]?.getD 0), .int .u8 (xs[3]?.getD 0)] 62)) := by
  refine run_convert_bytes_arg _ 64 5 Tryz.underlying64 Tryz.underlying5 w1.heap.size 0 n 4 xs hl ?_ 9 Tryz.underlying9
  intro i hi
  rw [Nat.zero_add, World.cell?_alloc_mark]
  rcases (by omega : i = 0 ∨ i = 1 ∨ i = 2 ∨ i = 3) with rfl | rfl | rfl | rfl <;> simp [List.getD]
set_option maxRecDepth 100000 in
set_option maxHeartbeats 400000 in
theorem encode_yes (r : Int) (h : Utf.width r ≠ 0) (w : World) : Calls Tryz.prog 22 #[.int .i64 r] w fun e w' =>
    e = .returned (.tuple #[.string (strOfNums (Utf.encN r)), .int .i64 0]) ∧ Below w.heap.size w w' := by
  obtain ⟨n, hn⟩ : ∃ n : Nat, Utf.width r = n := ⟨(Utf.width r).toNat, by have := Utf.width_le r; omega⟩
  have hl : (Utf.encN r).length = n := by have := Utf.encN_length r; omega
  have hn4 : n ≤ 4 := by have := Utf.width_le r; omega
  have hn0 : n ≠ 0 := by omega
  have hz : ((n : Int) == 0) = false := by simp; omega
  have hsp := spell_any r h
  rw [hn] at hsp
  unfold cell4 at hsp
  have hsl := slice4 n hn4
  have hcv := conv4 (Utf.encN r) n hl hn4
  have HN := Lib.hid hn
  have HS := Lib.hid hsp
  clear hn hl hsp h
  go_enter Tryz.func22, Tryz.ntmps22
  go_wp2_with (first | (go_at_call 46; refine (width_any _ _).mono ?_; rintro e w' ⟨rfl, rfl⟩; rw [HN.out]) | (go_at_call 47; refine (HS.out _).mono ?_; rintro e w1 ⟨rfl, hb1⟩))
  go_ret2
  exact ⟨rfl, hb1.alloc hb1.size _⟩
theorem encode_no (r : Int) (h : Utf.width r = 0) (w : World) : Calls Tryz.prog 22 #[.int .i64 r] w fun e w' =>
    e = .returned (.tuple #[.string ByteArray.empty, .int .i64 1]) ∧ w = w' := by
  have HN := Lib.hid h
  clear h
  go_enter Tryz.func22, Tryz.ntmps22
  go_wp2_with (first | (go_at_call 46; refine (width_any _ _).mono ?_; rintro e w' ⟨rfl, rfl⟩; rw [HN.out]))
  go_ret2
  exact ⟨rfl, rfl⟩
end Go.Proofs.YtcomjkoaieeidaaGreatDoor
