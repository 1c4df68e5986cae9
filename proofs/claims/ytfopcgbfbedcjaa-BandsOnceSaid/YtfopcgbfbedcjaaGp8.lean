/- The contracts of utf.spell and utf.Encode. · The contract of utf.Encode: the bytes of the plain mathematics, or ErrRange. · The plain mathematics of bands: what the splitting of numbers is in the bytes of the encodings; no program. -/
import Derived.Test.YtfopcgbfbedcjaaGp7
import Derived.Laws.Bits128
import Derived.Laws.Rows
import Derived.Laws.BytesArg
import Derived.Laws.IdiomStrings
import Derived.Test.YtfopcgbfbedcjaaGp6
namespace Go.Proofs.Ytfopcgbfbedcjaa
open Go.RowKit
set_option maxRecDepth 100000 in
set_option maxHeartbeats 400000 in
theorem spell1 (r : Int) (h1 : 0 ≤ r) (h2 : r ≤ 127) (w : World) : Calls Try.prog 39 #[.int .i64 r, .int .i64 1] w fun e w' =>
    e = .returned (.agg #[.int .u8 (r), .int .u8 (0), .int .u8 (0), .int .u8 (0)]) ∧ Below w.heap.size w w' := by
  go_enter Try.func39, Try.ntmps39
  go_wp2
  refine wp_loop_rounds 1 ?_
  rw [rounds_succ]
  go_wp2_with (go_at_call 34; refine (mark_any _ _).mono ?_; rintro e w' ⟨rfl, rfl⟩; rw [show Utf.mark 1 = 0 from by decide])
  refine bodyPost_ret (v := .agg #[.int .u8 (r), .int .u8 (0), .int .u8 (0), .int .u8 (0)]) ?_ rfl ⟨rfl, ((Below.refl _ _).alloc (Nat.le_refl _) _).alloc (by simp) _⟩
  simp [results, Try.results39, go_sem]
set_option maxRecDepth 100000 in
set_option maxHeartbeats 400000 in
theorem spell2 (r : Int) (h1 : 128 ≤ r) (h2 : r ≤ 2047) (w : World) : Calls Try.prog 39 #[.int .i64 r, .int .i64 2] w fun e w' =>
    e = .returned (.agg #[.int .u8 (192 + r / 64), .int .u8 (128 + r % 64), .int .u8 (0), .int .u8 (0)]) ∧ Below w.heap.size w w' := by
  have a1 := i64_and63 r
  go_enter Try.func39, Try.ntmps39
  go_wp2
  refine wp_loop_rounds 2 ?_
  rw [rounds_succ]
  go_wp2_with (go_at_call 34; refine (mark_any _ _).mono ?_; rintro e w' ⟨rfl, rfl⟩; rw [show Utf.mark 2 = 192 from by decide])
  rw [rounds_succ]
  go_wp2_with (go_at_call 34; refine (mark_any _ _).mono ?_; rintro e w' ⟨rfl, rfl⟩; rw [show Utf.mark 2 = 192 from by decide])
  refine bodyPost_ret (v := .agg #[.int .u8 (192 + r / 64), .int .u8 (128 + r % 64), .int .u8 (0), .int .u8 (0)]) ?_ rfl ⟨rfl, ((Below.refl _ _).alloc (Nat.le_refl _) _).alloc (by simp) _⟩
  simp [results, Try.results39, go_sem]
set_option maxRecDepth 100000 in
set_option maxHeartbeats 400000 in
theorem spell3 (r : Int) (h1 : 2048 ≤ r) (h2 : r ≤ 65535) (w : World) : Calls Try.prog 39 #[.int .i64 r, .int .i64 3] w fun e w' =>
    e = .returned (.agg #[.int .u8 (224 + r / 64 / 64), .int .u8 (128 + r / 64 % 64), .int .u8 (128 + r % 64), .int .u8 (0)]) ∧ Below w.heap.size w w' := by
  have a1 := i64_and63 r
  have a2 := i64_and63 (r / 64)
  go_enter Try.func39, Try.ntmps39
  go_wp2
  refine wp_loop_rounds 3 ?_
  rw [rounds_succ]
  go_wp2_with (go_at_call 34; refine (mark_any _ _).mono ?_; rintro e w' ⟨rfl, rfl⟩; rw [show Utf.mark 3 = 224 from by decide])
  rw [rounds_succ]
  go_wp2_with (go_at_call 34; refine (mark_any _ _).mono ?_; rintro e w' ⟨rfl, rfl⟩; rw [show Utf.mark 3 = 224 from by decide])
  rw [rounds_succ]
  go_wp2_with (go_at_call 34; refine (mark_any _ _).mono ?_; rintro e w' ⟨rfl, rfl⟩; rw [show Utf.mark 3 = 224 from by decide])
  refine bodyPost_ret (v := .agg #[.int .u8 (224 + r / 64 / 64), .int .u8 (128 + r / 64 % 64), .int .u8 (128 + r % 64), .int .u8 (0)]) ?_ rfl ⟨rfl, ((Below.refl _ _).alloc (Nat.le_refl _) _).alloc (by simp) _⟩
  simp [results, Try.results39, go_sem]
set_option maxRecDepth 100000 in
set_option maxHeartbeats 400000 in
theorem spell4 (r : Int) (h1 : 65536 ≤ r) (h2 : r ≤ 1114111) (w : World) : Calls Try.prog 39 #[.int .i64 r, .int .i64 4] w fun e w' =>
    e = .returned (.agg #[.int .u8 (240 + r / 64 / 64 / 64), .int .u8 (128 + r / 64 / 64 % 64), .int .u8 (128 + r / 64 % 64), .int .u8 (128 + r % 64)]) ∧ Below w.heap.size w w' := by
  have a1 := i64_and63 r
  have a2 := i64_and63 (r / 64)
  have a3 := i64_and63 (r / 64 / 64)
  go_enter Try.func39, Try.ntmps39
  go_wp2
  refine wp_loop_rounds 4 ?_
  rw [rounds_succ]
  go_wp2_with (go_at_call 34; refine (mark_any _ _).mono ?_; rintro e w' ⟨rfl, rfl⟩; rw [show Utf.mark 4 = 240 from by decide])
  rw [rounds_succ]
  go_wp2_with (go_at_call 34; refine (mark_any _ _).mono ?_; rintro e w' ⟨rfl, rfl⟩; rw [show Utf.mark 4 = 240 from by decide])
  rw [rounds_succ]
  go_wp2_with (go_at_call 34; refine (mark_any _ _).mono ?_; rintro e w' ⟨rfl, rfl⟩; rw [show Utf.mark 4 = 240 from by decide])
  rw [rounds_succ]
  go_wp2_with (go_at_call 34; refine (mark_any _ _).mono ?_; rintro e w' ⟨rfl, rfl⟩; rw [show Utf.mark 4 = 240 from by decide])
  refine bodyPost_ret (v := .agg #[.int .u8 (240 + r / 64 / 64 / 64), .int .u8 (128 + r / 64 / 64 % 64), .int .u8 (128 + r / 64 % 64), .int .u8 (128 + r % 64)]) ?_ rfl ⟨rfl, ((Below.refl _ _).alloc (Nat.le_refl _) _).alloc (by simp) _⟩
  simp [results, Try.results39, go_sem]

def cell4 (l : List Int) : Value := .agg #[.int .u8 (l[0]?.getD 0), .int .u8 (l[1]?.getD 0), .int .u8 (l[2]?.getD 0), .int .u8 (l[3]?.getD 0)]
theorem spell_any (r : Int) (h : Utf.width r ≠ 0) (w : World) : Calls Try.prog 39 #[.int .i64 r, .int .i64 (Utf.width r)] w fun e w' =>
    e = .returned (cell4 (Utf.encN r)) ∧ Below w.heap.size w w' := by
  rcases Utf.width_cases r with ⟨q, _⟩ | ⟨q, h1, h2⟩ | ⟨q, h1, h2⟩ | ⟨q, h1, h2, h3⟩ | ⟨q, h1, h2⟩
  · exact absurd q h
  · rw [q]; refine (spell1 r h1 h2 w).mono fun e w' ⟨he, hb⟩ => ⟨he.trans ?_, hb⟩
    simp [cell4, Utf.encN, q]
  · rw [q]; refine (spell2 r h1 h2 w).mono fun e w' ⟨he, hb⟩ => ⟨he.trans ?_, hb⟩
    simp [cell4, Utf.encN, q]
  · rw [q]; refine (spell3 r h1 h2 w).mono fun e w' ⟨he, hb⟩ => ⟨he.trans ?_, hb⟩
    have : r / 64 / 64 = r / 4096 := by omega
    simp [cell4, Utf.encN, q, this]
  · rw [q]; refine (spell4 r h1 h2 w).mono fun e w' ⟨he, hb⟩ => ⟨he.trans ?_, hb⟩
    have e1 : r / 64 / 64 = r / 4096 := by omega
    have e2 : r / 4096 / 64 = r / 262144 := by omega
    simp [cell4, Utf.encN, q, e1, e2]
end Go.Proofs.Ytfopcgbfbedcjaa
namespace Go.Proofs.Ytfopcgbfbedcjaa
open Go.RowKit
theorem slice4 (n : Nat) (hn : n ≤ 4) (b : Nat) (wx : World) :
    (Instr.sliceAt 61 (.pointer (some ⟨b, 0, none⟩)) none (some (.int .i64 (n : Int))) none).run Try.prog wx = .ok (.slice (some ⟨b, 0, none⟩) n 4) wx := by
  rcases (by omega : n = 0 ∨ n = 1 ∨ n = 2 ∨ n = 3 ∨ n = 4) with rfl | rfl | rfl | rfl | rfl <;> kernel_rfl
theorem conv4 (xs : List Int) (n : Nat) (hl : xs.length = n) (hn : n ≤ 4) (w1 : World) :
    (convert 45 9 (.slice (some ⟨w1.heap.size, 0, none⟩) n 4)).run Try.prog (w1.alloc (.cells #[.int .u8 (xs[0]?.getD 0), .int .u8 (xs[1]?.getD 0), .int .u8 (xs[2]?.getD 0), .int .u8 (xs[3]?.getD 0)] 61)) =
      .ok (.string (strOfNums xs)) (w1.alloc (.cells #[.int .u8 (xs[0]?.getD 0), .int .u8 (xs[1]?.getD 0), .int .u8 (xs[2]?.getD 0), .int .u8 (xs[3]?.getD 0)] 61)) := by
  refine run_convert_bytes_arg _ 45 5 Try.underlying45 Try.underlying5 w1.heap.size 0 n 4 xs hl ?_ 9 Try.underlying9
  intro i hi
  rw [Nat.zero_add, World.cell?_alloc_mark]
  rcases (by omega : i = 0 ∨ i = 1 ∨ i = 2 ∨ i = 3) with rfl | rfl | rfl | rfl <;> simp [List.getD]
set_option maxRecDepth 100000 in
set_option maxHeartbeats 400000 in
theorem encode_yes (r : Int) (h : Utf.width r ≠ 0) (w : World) : Calls Try.prog 24 #[.int .i64 r] w fun e w' =>
    e = .returned (.tuple #[.string (strOfNums (Utf.encN r)), .int .i64 0]) ∧ Below w.heap.size w w' := by
  obtain ⟨n, hn⟩ : ∃ n : Nat, Utf.width r = n := ⟨(Utf.width r).toNat, by have := Utf.width_le r; omega⟩
  have hl : (Utf.encN r).length = n := by have := Utf.encN_length r; omega
  have hn4 : n ≤ 4 := by have := Utf.width_le r; omega
  have hn0 : n ≠ 0 := by omega
  have hz : ((n : Int) == 0) = false := by simp; omega
  have hsp := spell_any r h
  rw [hn] at hsp
  unfold cell4 at hsp
  have hsl := slice4 n hn4
  have hcv := conv4 (Utf.encN r) n hl hn4
  have HN := Lib.hid hn
  have HS := Lib.hid hsp
  clear hn hl hsp h
  go_enter Try.func24, Try.ntmps24
  go_wp2_with (first | (go_at_call 35; refine (width_any _ _).mono ?_; rintro e w' ⟨rfl, rfl⟩; rw [HN.out]) | (go_at_call 39; refine (HS.out _).mono ?_; rintro e w1 ⟨rfl, hb1⟩))
  go_ret2
  exact ⟨rfl, hb1.alloc hb1.size _⟩
theorem encode_no (r : Int) (h : Utf.width r = 0) (w : World) : Calls Try.prog 24 #[.int .i64 r] w fun e w' =>
    e = .returned (.tuple #[.string ByteArray.empty, .int .i64 1]) ∧ w = w' := by
  have HN := Lib.hid h
  clear h
  go_enter Try.func24, Try.ntmps24
  go_wp2_with (first | (go_at_call 35; refine (width_any _ _).mono ?_; rintro e w' ⟨rfl, rfl⟩; rw [HN.out]))
  go_ret2
  exact ⟨rfl, rfl⟩
end Go.Proofs.Ytfopcgbfbedcjaa
namespace Go.Proofs.Ytfopcgbfbedcjaa.Bd
open Go.Proofs.Ytfopcgbfbedcjaa.Rg
set_option linter.unusedVariables false
/-- Two runes of one class: of one width, and all between them runes. -/
structure Cls (w : Nat) (lo hi : Int) : Prop where
  le : lo ≤ hi
  bd : (w = 1 ∧ 0 ≤ lo ∧ hi ≤ 127) ∨ (w = 2 ∧ 128 ≤ lo ∧ hi ≤ 2047) ∨ (w = 3 ∧ 2048 ≤ lo ∧ hi ≤ 55295) ∨ (w = 3 ∧ 57344 ≤ lo ∧ hi ≤ 65535) ∨ (w = 4 ∧ 65536 ≤ lo ∧ hi ≤ 1114111)
theorem Cls.width {w : Nat} {lo hi r : Int} (h : Cls w lo hi) (h1 : lo ≤ r) (h2 : r ≤ hi) : Utf.width r = w := by
  have hb := h.bd
  rcases Utf.width_cases r with ⟨q, z⟩ | ⟨q, z⟩ | ⟨q, z⟩ | ⟨q, z⟩ | ⟨q, z⟩ <;> omega
theorem Cls.sub {w : Nat} {lo hi a b : Int} (h : Cls w lo hi) (h1 : lo ≤ a) (h2 : b ≤ hi) (h3 : a ≤ b) : Cls w a b :=
  ⟨h3, by have := h.bd; omega⟩
theorem enc1 {r : Int} (h : Utf.width r = 1) : Utf.encN r = [r] := by simp [Utf.encN, h]
theorem enc2 {r : Int} (h : Utf.width r = 2) : Utf.encN r = [192 + r / 64, 128 + r % 64] := by simp [Utf.encN, h]
theorem enc3 {r : Int} (h : Utf.width r = 3) : Utf.encN r = [224 + r / 4096, 128 + r / 64 % 64, 128 + r % 64] := by simp [Utf.encN, h]
theorem enc4 {r : Int} (h : Utf.width r = 4) : Utf.encN r = [240 + r / 262144, 128 + r / 4096 % 64, 128 + r / 64 % 64, 128 + r % 64] := by simp [Utf.encN, h]
/-- The pairs (width, i) there are. -/
theorem wi_cases {w i : Nat} (hw : w ≤ 4) (h1 : 1 ≤ i) (h2 : i < w) : (w = 2 ∧ i = 1) ∨ (w = 3 ∧ i = 1) ∨ (w = 3 ∧ i = 2) ∨ (w = 4 ∧ i = 1) ∨ (w = 4 ∧ i = 2) ∨ (w = 4 ∧ i = 3) := by omega
theorem pre_iff {w i : Nat} {a b : Int} (ha : Utf.width a = w) (hb : Utf.width b = w) (h1 : 1 ≤ i) (h2 : i < w) : (Utf.encN a).take (w - i) = (Utf.encN b).take (w - i) ↔ a / pw i = b / pw i := by
  have hw : w ≤ 4 := by have := Utf.width_le a; omega
  rcases wi_cases hw h1 h2 with ⟨rfl, rfl⟩ | ⟨rfl, rfl⟩ | ⟨rfl, rfl⟩ | ⟨rfl, rfl⟩ | ⟨rfl, rfl⟩ | ⟨rfl, rfl⟩
  · rw [enc2 ha, enc2 hb]; simp [pw] <;> omega
  · rw [enc3 ha, enc3 hb]; simp [pw] <;> omega
  · rw [enc3 ha, enc3 hb]; simp [pw] <;> omega
  · rw [enc4 ha, enc4 hb]; simp [pw] <;> omega
  · rw [enc4 ha, enc4 hb]; simp [pw] <;> omega
  · rw [enc4 ha, enc4 hb]; simp [pw] <;> omega
/-- The last i bytes are all c. -/
def lastAll (l : List Int) (i : Nat) (c : Int) : Bool := (l.drop (l.length - i)).all fun x => decide (x = c)
theorem last_low {w i : Nat} {a : Int} (ha : Utf.width a = w) (h1 : 1 ≤ i) (h2 : i < w) : lastAll (Utf.encN a) i 128 = true ↔ a % pw i = 0 := by
  have hw : w ≤ 4 := by have := Utf.width_le a; omega
  unfold lastAll
  rcases wi_cases hw h1 h2 with ⟨rfl, rfl⟩ | ⟨rfl, rfl⟩ | ⟨rfl, rfl⟩ | ⟨rfl, rfl⟩ | ⟨rfl, rfl⟩ | ⟨rfl, rfl⟩
  · rw [enc2 ha]; simp [pw] <;> omega
  · rw [enc3 ha]; simp [pw] <;> omega
  · rw [enc3 ha]; simp [pw] <;> omega
  · rw [enc4 ha]; simp [pw] <;> omega
  · rw [enc4 ha]; simp [pw] <;> omega
  · rw [enc4 ha]; simp [pw] <;> omega
theorem last_high {w i : Nat} {a : Int} (ha : Utf.width a = w) (h1 : 1 ≤ i) (h2 : i < w) : lastAll (Utf.encN a) i 191 = true ↔ a % pw i = pw i - 1 := by
  have hw : w ≤ 4 := by have := Utf.width_le a; omega
  unfold lastAll
  rcases wi_cases hw h1 h2 with ⟨rfl, rfl⟩ | ⟨rfl, rfl⟩ | ⟨rfl, rfl⟩ | ⟨rfl, rfl⟩ | ⟨rfl, rfl⟩ | ⟨rfl, rfl⟩
  · rw [enc2 ha]; simp [pw] <;> omega
  · rw [enc3 ha]; simp [pw] <;> omega
  · rw [enc3 ha]; simp [pw] <;> omega
  · rw [enc4 ha]; simp [pw] <;> omega
  · rw [enc4 ha]; simp [pw] <;> omega
  · rw [enc4 ha]; simp [pw] <;> omega
/-- The bytes ahead of the last i, and c in these. -/
def fillN (l : List Int) (i : Nat) (c : Int) : List Int := l.take (l.length - i) ++ List.replicate i c
theorem fill_high {w i : Nat} {a : Int} (ha : Utf.width a = w) (h1 : 1 ≤ i) (h2 : i < w) (hm : Utf.width (a / pw i * pw i + pw i - 1) = w) : fillN (Utf.encN a) i 191 = Utf.encN (a / pw i * pw i + pw i - 1) := by
  have hw : w ≤ 4 := by have := Utf.width_le a; omega
  unfold fillN
  rcases wi_cases hw h1 h2 with ⟨rfl, rfl⟩ | ⟨rfl, rfl⟩ | ⟨rfl, rfl⟩ | ⟨rfl, rfl⟩ | ⟨rfl, rfl⟩ | ⟨rfl, rfl⟩
  · rw [enc2 ha, enc2 hm]; simp [pw, List.replicate] <;> omega
  · rw [enc3 ha, enc3 hm]; simp [pw, List.replicate] <;> omega
  · rw [enc3 ha, enc3 hm]; simp [pw, List.replicate] <;> omega
  · rw [enc4 ha, enc4 hm]; simp [pw, List.replicate] <;> omega
  · rw [enc4 ha, enc4 hm]; simp [pw, List.replicate] <;> omega
  · rw [enc4 ha, enc4 hm]; simp [pw, List.replicate] <;> omega
theorem fill_low {w i : Nat} {a : Int} (ha : Utf.width a = w) (h1 : 1 ≤ i) (h2 : i < w) (hm : Utf.width (a / pw i * pw i) = w) : fillN (Utf.encN a) i 128 = Utf.encN (a / pw i * pw i) := by
  have hw : w ≤ 4 := by have := Utf.width_le a; omega
  unfold fillN
  rcases wi_cases hw h1 h2 with ⟨rfl, rfl⟩ | ⟨rfl, rfl⟩ | ⟨rfl, rfl⟩ | ⟨rfl, rfl⟩ | ⟨rfl, rfl⟩ | ⟨rfl, rfl⟩
  · rw [enc2 ha, enc2 hm]; simp [pw, List.replicate] <;> omega
  · rw [enc3 ha, enc3 hm]; simp [pw, List.replicate] <;> omega
  · rw [enc3 ha, enc3 hm]; simp [pw, List.replicate] <;> omega
  · rw [enc4 ha, enc4 hm]; simp [pw, List.replicate] <;> omega
  · rw [enc4 ha, enc4 hm]; simp [pw, List.replicate] <;> omega
  · rw [enc4 ha, enc4 hm]; simp [pw, List.replicate] <;> omega
end Go.Proofs.Ytfopcgbfbedcjaa.Bd
