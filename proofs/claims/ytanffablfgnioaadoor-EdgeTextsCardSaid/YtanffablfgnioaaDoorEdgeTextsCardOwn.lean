/- Edge: the reference. · Edge: how often each assertion holds in a text: mathematics. · burinlaw12.EdgeTexts. -/
import Derived.Test.YtanffablfgnioaaDoorGp3
import Derived.ProofKit
namespace Go.Proofs.YtanffablfgnioaaDoor
open Go.RowKit
set_option linter.unusedVariables false
namespace Eg
/-- What the reference says of a kind at a place of a text. -/
def refT (k : Int) (first last nb na wb wa : Bool) : Bool :=
  if (k == 1) = true then first else if (k == 2) = true then last else if (k == 3) = true then first || nb else if (k == 4) = true then last || na else if (k == 5) = true then wb != wa else if (k == 6) = true then wb == wa else false
theorem side_four (a : Int) (h : -1 ≤ a ∧ a ≤ 255) : (sideN a = 0 ∧ a = -1 ∧ (a == 10) = false ∧ wordB a = false) ∨ (sideN a = 1 ∧ ¬ a = -1 ∧ (a == 10) = true ∧ wordB a = false) ∨ (sideN a = 2 ∧ ¬ a = -1 ∧ (a == 10) = false ∧ wordB a = true) ∨ (sideN a = 3 ∧ ¬ a = -1 ∧ (a == 10) = false ∧ wordB a = false) := by
  by_cases h1 : a = -1
  · subst h1; decide
  by_cases h2 : a = 10
  · subst h2; decide
  have e2 : (a == 10) = false := beq_eq_false_iff_ne.2 h2
  have e : sideN a = if wordB a = true then 2 else 3 := by unfold sideN; rw [if_neg (by omega), if_neg h2]
  by_cases h3 : wordB a = true
  · rw [if_pos h3] at e; exact .inr (.inr (.inl ⟨e, h1, e2, h3⟩))
  · rw [if_neg h3] at e; exact .inr (.inr (.inr ⟨e, h1, e2, by simpa using h3⟩))
theorem refT_is (k : Int) (h1 : 1 ≤ k) (h6 : k ≤ 6) (a b : Int) (ha : -1 ≤ a ∧ a ≤ 255) (hb : -1 ≤ b ∧ b ≤ 255) :
    refT k (decide (a = -1)) (decide (b = -1)) (a == 10) (b == 10) (wordB a) (wordB b) = bitB (betN a b) k := by
  unfold betN
  rcases side_four a ha with ⟨e1, e2, e3, e4⟩ | ⟨e1, e2, e3, e4⟩ | ⟨e1, e2, e3, e4⟩ | ⟨e1, e2, e3, e4⟩ <;> rcases side_four b hb with ⟨f1, f2, f3, f4⟩ | ⟨f1, f2, f3, f4⟩ | ⟨f1, f2, f3, f4⟩ | ⟨f1, f2, f3, f4⟩ <;>
    (rw [e1, e3, e4, f1, f3, f4]
     first | rw [decide_eq_true e2] | rw [decide_eq_false e2]
     first | rw [decide_eq_true f2] | rw [decide_eq_false f2]
     rcases (show k = 1 ∨ k = 2 ∨ k = 3 ∨ k = 4 ∨ k = 5 ∨ k = 6 by omega) with rfl | rfl | rfl | rfl | rfl | rfl <;> decide)
theorem byteL_bd {z : List Int} (hz : Utf.Bytes z) (i : Int) : -1 ≤ byteL z i ∧ byteL z i ≤ 255 := by
  unfold byteL
  split
  · omega
  · rename_i h
    have hi : i.toNat < z.length := by omega
    have := hz (z[i.toNat]) (List.getElem_mem hi)
    rw [List.getElem?_eq_getElem hi]
    show -1 ≤ z[i.toNat] ∧ _
    simp only [Option.getD_some]
    omega
theorem byteL_none {z : List Int} (hz : Utf.Bytes z) (i : Int) : byteL z i = -1 ↔ (i < 0 ∨ (z.length : Int) ≤ i) := by
  constructor
  · intro h
    refine Classical.byContradiction fun hn => ?_
    unfold byteL at h
    rw [if_neg hn] at h
    have hi : i.toNat < z.length := by omega
    have := hz (z[i.toNat]) (List.getElem_mem hi)
    rw [List.getElem?_eq_getElem hi] at h
    simp only [Option.getD_some] at h
    omega
  · intro h; unfold byteL; rw [if_pos h]
/-- The reference's answer is the table's. -/
theorem ref_is {z : List Int} (hz : Utf.Bytes z) (k i : Int) (h0 : 0 ≤ i) (h1 : i ≤ z.length) :
    refT k (decide (i = 0)) (decide (i = z.length)) (byteL z (i - 1) == 10) (byteL z i == 10) (wordB (byteL z (i - 1))) (wordB (byteL z i)) = holdL k z i := by
  unfold holdL
  by_cases hk : 1 ≤ k ∧ k ≤ 6
  · have e1 : decide (i = 0) = decide (byteL z (i - 1) = -1) := by rw [decide_eq_decide, byteL_none hz]; omega
    have e2 : decide (i = z.length) = decide (byteL z i = -1) := by rw [decide_eq_decide, byteL_none hz]; omega
    rw [e1, e2, refT_is k hk.1 hk.2 _ _ (byteL_bd hz _) (byteL_bd hz _), decide_eq_true hk, Bool.true_and]
    unfold atL
    rw [if_neg (by omega)]
  · rw [decide_eq_false hk, Bool.false_and]
    unfold refT
    have hn : ∀ c : Int, 1 ≤ c → c ≤ 6 → ¬ (k == c) = true := fun c c1 c2 => by rw [beq_iff_eq]; omega
    rw [if_neg (hn 1 (by omega) (by omega)), if_neg (hn 2 (by omega) (by omega)), if_neg (hn 3 (by omega) (by omega)), if_neg (hn 4 (by omega) (by omega)), if_neg (hn 5 (by omega) (by omega)), if_neg (hn 6 (by omega) (by omega))]
/-- The bits below a place, together. -/
def ps (x : Int) : Nat → Int
  | 0 => 0
  | 1 => 0
  | k + 2 => ps x (k + 1) + if bitB x (k + 1 : Nat) = true then 2 ^ (k + 1) else 0
end Eg
end Go.Proofs.YtanffablfgnioaaDoor
namespace Go.Proofs.YtanffablfgnioaaDoor
open Go.RowKit
set_option linter.unusedVariables false
namespace Eg
/-- At how many of the first places an assertion holds. -/
def cK (z : List Int) (k : Int) : Nat → Int
  | 0 => 0
  | i + 1 => cK z k i + if bitB (atL z (i : Nat)) k = true then 1 else 0
/-- How many line feeds stand ahead of a place. -/
def fd (z : List Int) : Nat → Int
  | 0 => 0
  | i + 1 => fd z i + if (byteL z (i : Nat) == 10) = true then 1 else 0
theorem cK_bd (z : List Int) (k : Int) : ∀ i : Nat, 0 ≤ cK z k i ∧ cK z k i ≤ i
  | 0 => ⟨Int.le_refl _, Int.le_refl _⟩
  | i + 1 => by
    have := cK_bd z k i
    rw [cK]
    split <;> omega
theorem fd_bd (z : List Int) : ∀ i : Nat, 0 ≤ fd z i ∧ fd z i ≤ i
  | 0 => ⟨Int.le_refl _, Int.le_refl _⟩
  | i + 1 => by
    have := fd_bd z i
    rw [fd]
    split <;> omega
theorem bit_is {z : List Int} (hz : Utf.Bytes z) (k i : Nat) (hi : i ≤ z.length) (h1 : 1 ≤ k) (h6 : k ≤ 6) :
    bitB (atL z (i : Nat)) (k : Nat) = refT k (decide ((i : Int) = 0)) (decide ((i : Int) = z.length)) (byteL z ((i : Int) - 1) == 10) (byteL z (i : Nat) == 10) (wordB (byteL z ((i : Int) - 1))) (wordB (byteL z (i : Nat))) := by
  rw [ref_is hz k i (by omega) (by omega)]
  unfold holdL
  rw [decide_eq_true (by omega), Bool.true_and]
theorem refT1 (a b c d e f : Bool) : refT 1 a b c d e f = a := rfl
theorem refT2 (a b c d e f : Bool) : refT 2 a b c d e f = b := rfl
theorem refT3 (a b c d e f : Bool) : refT 3 a b c d e f = (a || c) := rfl
theorem refT4 (a b c d e f : Bool) : refT 4 a b c d e f = (b || d) := rfl
theorem refT5 (a b c d e f : Bool) : refT 5 a b c d e f = (e != f) := rfl
theorem refT6 (a b c d e f : Bool) : refT 6 a b c d e f = (e == f) := rfl
theorem end_none {z : List Int} : byteL z (z.length : Nat) = -1 := by unfold byteL; rw [if_pos (.inr (Int.le_refl _))]
theorem fd_end (z : List Int) : fd z (z.length + 1) = fd z z.length := by rw [fd, end_none]; simp
theorem c1 {z : List Int} (hz : Utf.Bytes z) : ∀ i : Nat, i ≤ z.length → cK z 1 (i + 1) = 1
  | 0, h => by
    rw [cK, cK]
    have := bit_is hz 1 0 (by omega) (by omega) (by omega)
    rw [show ((1 : Nat) : Int) = 1 from rfl] at this
    rw [this]; rfl
  | i + 1, h => by
    have ih := c1 hz i (by omega)
    rw [cK, ih]
    have := bit_is hz 1 (i + 1) (by omega) (by omega) (by omega)
    rw [show ((1 : Nat) : Int) = 1 from rfl] at this
    rw [this]
    rw [refT1, if_neg (by rw [decide_eq_true_eq]; omega)]; rfl
theorem c2a {z : List Int} (hz : Utf.Bytes z) : ∀ i : Nat, i ≤ z.length → cK z 2 i = 0
  | 0, h => rfl
  | i + 1, h => by
    have ih := c2a hz i (by omega)
    rw [cK, ih]
    have := bit_is hz 2 i (by omega) (by omega) (by omega)
    rw [show ((2 : Nat) : Int) = 2 from rfl] at this
    rw [this]
    rw [refT2, if_neg (by rw [decide_eq_true_eq]; omega)]; rfl
theorem c2 {z : List Int} (hz : Utf.Bytes z) : cK z 2 (z.length + 1) = 1 := by
  rw [cK, c2a hz _ (Nat.le_refl _)]
  have := bit_is hz 2 z.length (by omega) (by omega) (by omega)
  rw [show ((2 : Nat) : Int) = 2 from rfl] at this
  rw [this]
  rw [refT2, if_pos (by rw [decide_eq_true_eq])]; rfl
theorem c3 {z : List Int} (hz : Utf.Bytes z) : ∀ i : Nat, i ≤ z.length → cK z 3 (i + 1) = fd z i + 1
  | 0, h => by
    rw [cK, cK]
    have := bit_is hz 3 0 (by omega) (by omega) (by omega)
    rw [show ((3 : Nat) : Int) = 3 from rfl] at this
    rw [this]; rfl
  | i + 1, h => by
    have ih := c3 hz i (by omega)
    rw [cK, ih, fd]
    have := bit_is hz 3 (i + 1) (by omega) (by omega) (by omega)
    rw [show ((3 : Nat) : Int) = 3 from rfl] at this
    rw [this]
    rw [refT3, decide_eq_false (by omega), Bool.false_or, show (((i + 1 : Nat) : Int) - 1) = (i : Int) by omega]
    split <;> omega
theorem c4a {z : List Int} (hz : Utf.Bytes z) : ∀ i : Nat, i ≤ z.length → cK z 4 i = fd z i
  | 0, h => rfl
  | i + 1, h => by
    have ih := c4a hz i (by omega)
    rw [cK, ih, fd]
    have := bit_is hz 4 i (by omega) (by omega) (by omega)
    rw [show ((4 : Nat) : Int) = 4 from rfl] at this
    rw [this]
    rw [refT4, decide_eq_false (by omega), Bool.false_or]
theorem c4 {z : List Int} (hz : Utf.Bytes z) : cK z 4 (z.length + 1) = fd z z.length + 1 := by
  rw [cK, c4a hz _ (Nat.le_refl _)]
  have := bit_is hz 4 z.length (by omega) (by omega) (by omega)
  rw [show ((4 : Nat) : Int) = 4 from rfl] at this
  rw [this]
  rw [refT4, decide_eq_true (by omega), Bool.true_or]; rfl
theorem b5 {z : List Int} (hz : Utf.Bytes z) (i : Nat) (h : i ≤ z.length) : bitB (atL z (i : Nat)) 5 = (wordB (byteL z ((i : Int) - 1)) != wordB (byteL z (i : Nat))) := by
  have := bit_is hz 5 i h (by omega) (by omega)
  rw [show ((5 : Nat) : Int) = 5 from rfl] at this
  rw [this]
  rw [refT5]
theorem b6 {z : List Int} (hz : Utf.Bytes z) (i : Nat) (h : i ≤ z.length) : bitB (atL z (i : Nat)) 6 = !bitB (atL z (i : Nat)) 5 := by
  have := bit_is hz 6 i h (by omega) (by omega)
  rw [show ((6 : Nat) : Int) = 6 from rfl] at this
  rw [this, b5 hz i h]
  rw [refT6]
  cases wordB (byteL z ((i : Int) - 1)) <;> cases wordB (byteL z (i : Nat)) <;> rfl
theorem c56 {z : List Int} (hz : Utf.Bytes z) : ∀ i : Nat, i ≤ z.length + 1 → cK z 5 i + cK z 6 i = i
  | 0, h => rfl
  | i + 1, h => by
    have ih := c56 hz i (by omega)
    rw [cK, cK, b6 hz i (by omega)]
    cases bitB (atL z (i : Nat)) 5 <;> simp <;> omega
theorem c5p {z : List Int} (hz : Utf.Bytes z) : ∀ i : Nat, i ≤ z.length → cK z 5 (i + 1) % 2 = if wordB (byteL z (i : Nat)) = true then 1 else 0
  | 0, h => by
    rw [cK, cK, b5 hz 0 (by omega)]
    have e : wordB (byteL z (((0 : Nat) : Int) - 1)) = false := by
      unfold byteL; rw [if_pos (.inl (by decide))]; rfl
    rw [e]
    cases wordB (byteL z ((0 : Nat) : Int)) <;> rfl
  | i + 1, h => by
    have ih := c5p hz i (by omega)
    rw [cK, b5 hz (i + 1) (by omega), show (((i + 1 : Nat) : Int) - 1) = (i : Int) by omega]
    cases hA : wordB (byteL z (i : Nat)) <;> cases hB : wordB (byteL z ((i + 1 : Nat) : Int)) <;> rw [hA] at ih <;> simp at ih ⊢ <;> omega
theorem c5 {z : List Int} (hz : Utf.Bytes z) : cK z 5 (z.length + 1) % 2 = 0 := by
  rw [c5p hz _ (Nat.le_refl _), end_none]; rfl
/-- The seven counters while a place's assertions are counted. -/
def G (z : List Int) (i k j : Nat) : Int := if j = 0 then 0 else if j < k then cK z j (i + 1) else cK z j i
theorem G_done (z : List Int) (i j : Nat) (h : j < 7) : G z i 7 j = G z (i + 1) 1 j := by
  unfold G
  by_cases h0 : j = 0
  · rw [if_pos h0, if_pos h0]
  · rw [if_neg h0, if_neg h0, if_pos h, if_neg (by omega)]
theorem G_bd (z : List Int) (i k j : Nat) : 0 ≤ G z i k j ∧ G z i k j ≤ i + 1 := by
  unfold G
  have h1 := cK_bd z j i
  have h2 := cK_bd z j (i + 1)
  split
  · omega
  · split <;> omega
theorem G_at (z : List Int) (i k : Nat) (h : 1 ≤ k) : G z i k k = cK z k i := by unfold G; rw [if_neg (by omega), if_neg (by omega)]
theorem G_next (z : List Int) (i k j : Nat) (h : 1 ≤ k) : G z i (k + 1) j = if j = k then G z i k k + (if bitB (atL z (i : Nat)) k = true then 1 else 0) else G z i k j := by
  by_cases e : j = k
  · subst e
    rw [if_pos rfl, G_at z i j h]
    unfold G
    rw [if_neg (by omega), if_pos (by omega), cK]
  · rw [if_neg e]
    unfold G
    by_cases h0 : j = 0
    · rw [if_pos h0, if_pos h0]
    · rw [if_neg h0, if_neg h0]
      by_cases h1 : j < k
      · rw [if_pos h1, if_pos (by omega)]
      · rw [if_neg h1, if_neg (by omega)]
theorem G_all (z : List Int) (i j : Nat) (h : 1 ≤ j) : G z i 1 j = cK z j i := by unfold G; rw [if_neg (by omega), if_neg (by omega)]
theorem G_zero (z : List Int) (j : Nat) : G z 0 1 j = 0 := by
  unfold G
  split
  · rfl
  · split <;> first | omega | rfl
end Eg
end Go.Proofs.YtanffablfgnioaaDoor
namespace Go.Proofs.YtanffablfgnioaaDoor
open Go.RowKit
set_option linter.unusedVariables false
/-- A block of seven counters. -/
def RowI (w : World) (B : Nat) (F : Nat → Int) : Prop := w.heap[B]? = some (.cells #[.int .i64 (F 0), .int .i64 (F 1), .int .i64 (F 2), .int .i64 (F 3), .int .i64 (F 4), .int .i64 (F 5), .int .i64 (F 6)] 29 (0, 0))
theorem RowI.cell {w : World} {B : Nat} {F : Nat → Int} (h : RowI w B F) (k : Nat) (hk : k < 7) : w.cell? ⟨B, k, none⟩ = some (.int .i64 (F k)) := by
  unfold RowI at h
  rcases (show k = 0 ∨ k = 1 ∨ k = 2 ∨ k = 3 ∨ k = 4 ∨ k = 5 ∨ k = 6 by omega) with rfl | rfl | rfl | rfl | rfl | rfl | rfl <;> simp [World.cell?, h]
theorem RowI.frozen {w : World} {B : Nat} {F : Nat → Int} (h : RowI w B F) (k : Nat) : w.frozen? ⟨B, k, none⟩ = false := by
  unfold RowI at h
  simp [World.frozen?, h]
theorem RowI.congr {w : World} {B : Nat} {F F' : Nat → Int} (h : RowI w B F) (e : ∀ k, k < 7 → F k = F' k) : RowI w B F' := by
  unfold RowI at h ⊢
  rw [h, e 0 (by omega), e 1 (by omega), e 2 (by omega), e 3 (by omega), e 4 (by omega), e 5 (by omega), e 6 (by omega)]
theorem RowI.set {w : World} {B : Nat} {F : Nat → Int} (h : RowI w B F) (k : Nat) (hk : k < 7) (v : Int) : RowI (w.setCell ⟨B, k, none⟩ (.int .i64 v)) B (fun j => if j = k then v else F j) := by
  unfold RowI at h ⊢
  have h9 := heap_setCell_same w B k _ _ (.int .i64 v) h
  rw [h9]
  rcases (show k = 0 ∨ k = 1 ∨ k = 2 ∨ k = 3 ∨ k = 4 ∨ k = 5 ∨ k = 6 by omega) with rfl | rfl | rfl | rfl | rfl | rfl | rfl <;> rfl
theorem RowI.drew {w : World} {B : Nat} {F : Nat → Int} (h : RowI w B F) (n : Nat) : RowI (w.drewN n) B F := h
set_option maxRecDepth 100000 in
set_option maxHeartbeats 4000000 in
theorem walkEdgeTexts (W : World) (s : ByteArray) (hs : s.size ≤ 140737488351232) (h : EvE W) :
    Calls Tryd.prog 5 #[.string s] W fun e w' => e = .returned (.bool true) ∧ Below W.heap.size W w' := by
  have HE := Lib.hid h
  clear h
  by_cases hl : 300 < s.size
  · have h3 : (300 : Int) < (s.size : Int) := by omega
    go_enter Tryd.func5, Tryd.ntmps5
    go_wp2_with fail
    refine (works12_any W HE.out).mono ?_
    rintro e w1 ⟨rfl, n1, rfl⟩
    go_wp2
    go_ret
    exact ⟨rfl, below_drewE (Below.refl _ _) _⟩
  have h3 : ¬ (300 : Int) < (s.size : Int) := by omega
  have HZ := Lib.hid (Utf.nums_bytes s)
  have HL := Lib.hid (Utf.nums_length s)
  have HAT := Lib.hid (fun (i : Int) (w : World) (h : EvE w) => atE_any s hs i w h)
  have HHO := Lib.hid (fun (k i : Int) (w : World) (h : EvE w) => holdsE_any k s hs i w h)
  have HAC := Lib.hid (fun j (h : j < s.size) => show Eg.byteL (Utf.nums s) (j : Int) = (s[j].toNat : Int) by
    unfold Eg.byteL
    rw [if_neg (by rw [Utf.nums_length]; omega), ← Utf.nums_at s j h]; rfl)
  have hsz : (s.size : Int) ≤ 300 := by omega
  clear hs
  go_enter Tryd.func5, Tryd.ntmps5
  go_wp2_with fail
  refine (works12_any W HE.out).mono ?_
  rintro e w1 ⟨rfl, n1, rfl⟩
  go_wp2
  go_loopw [4, 5] (fun fv iv wr => ∃ i : Nat, i ≤ s.size + 1 ∧ iv = .int .i64 (i : Int) ∧ fv = .int .i64 (Eg.fd (Utf.nums s) i) ∧ Hid (RowI wr W.heap.size (Eg.G (Utf.nums s) i 1)) ∧ Hid (Below W.heap.size W wr) ∧ W.heap.size + 1 ≤ wr.heap.size) (fun _ iv _ => s.size + 1 - (intOf iv).toNat)
  case atStart =>
    refine ⟨0, by omega, rfl, rfl, Lib.hid ?_, Lib.hid ((below_drewE (Below.refl _ _) n1).alloc (Nat.le_refl _) _), by simp [World.drewN]⟩
    refine RowI.congr (F := fun _ => 0) ?_ (fun k hk => (Eg.G_zero _ _).symm)
    unfold RowI
    exact heap_alloc_new _ _
  case round =>
    obtain ⟨i, hi, rfl, rfl, HR, HB, hsw⟩ := hrel
    by_cases hlt : i ≤ s.size
    · have hlt' : (i : Int) ≤ (s.size : Int) := by omega
      have HEr := Lib.hid (HE.out.below HB.out)
      have hX := Eg.atL_mem (Utf.nums s) i
      have HFD := Lib.hid (Eg.fd_bd (Utf.nums s) i)
      go_wp2_with fail
      refine (HAT.out (i : Int) wr HEr.out).mono ?_
      rintro e w2 ⟨rfl, n2, rfl⟩
      obtain ⟨X, hXX⟩ : ∃ X, Eg.atL (Utf.nums s) (i : Int) = X := ⟨_, rfl⟩
      have HXX := Lib.hid hXX
      rw [hXX] at hX ⊢
      clear hXX
      have HR2 : Hid (RowI (wr.drewN n2) W.heap.size (Eg.G (Utf.nums s) i 1)) := Lib.hid (HR.out.drew n2)
      have HB2 : Hid (Below W.heap.size W (wr.drewN n2)) := Lib.hid (below_drewE HB.out n2)
      have hsw2 : W.heap.size + 1 ≤ (wr.drewN n2).heap.size := hsw
      obtain ⟨w2, hw2⟩ : ∃ w2, wr.drewN n2 = w2 := ⟨_, rfl⟩
      rw [hw2] at HR2 HB2 hsw2 ⊢
      clear hw2 HR HB hsw HEr
      go_wp2
      go_loopw [7] (fun kv wr => ∃ k : Nat, 1 ≤ k ∧ k ≤ 7 ∧ kv = .int .i64 (k : Int) ∧ Hid (RowI wr W.heap.size (Eg.G (Utf.nums s) i k)) ∧ Hid (Below W.heap.size W wr) ∧ W.heap.size + 1 ≤ wr.heap.size) (fun kv _ => 7 - (intOf kv).toNat)
      case atStart => exact ⟨1, by omega, by omega, rfl, HR2, HB2, hsw2⟩
      case round =>
        obtain ⟨k, k1, k7, rfl, HQ, HB3, hsq⟩ := hrel
        by_cases hk : k ≤ 6
        · have hk6 : (k : Int) ≤ 6 := by omega
          have hk0 : (0 : Int) ≤ (k : Int) := by omega
          have hk7 : (k : Int) < 7 := by omega
          obtain ⟨b, hb⟩ : ∃ b, Eg.bitB X (k : Int) = b := ⟨_, rfl⟩
          have HHAS := Lib.hid (fun w => has_any X hX (k : Int) (by omega) (by omega) w)
          have HHOL := Lib.hid (fun w h => HHO.out (k : Int) (i : Int) w h)
          have hho : Eg.holdL (k : Int) (Utf.nums s) (i : Int) = b := by
            unfold Eg.holdL
            rw [decide_eq_true (by omega), Bool.true_and, HXX.out, hb]
          rw [hb] at HHAS
          rw [hho] at HHOL
          have HNX := Lib.hid (fun j => Eg.G_next (Utf.nums s) i k j k1)
          rw [HXX.out, hb] at HNX
          have HGB := Eg.G_bd (Utf.nums s) i k k
          clear hho hb
          go_wp2_with fail
          refine (HHAS.out wr).mono ?_
          rintro e w4 ⟨rfl, rfl⟩
          have HEq := Lib.hid (HE.out.below HB3.out)
          go_wp2_with fail
          refine (HHOL.out wr HEq.out).mono ?_
          rintro e w5 ⟨rfl, n5, rfl⟩
          have HQ5 : Hid (RowI (wr.drewN n5) W.heap.size (Eg.G (Utf.nums s) i k)) := Lib.hid (HQ.out.drew n5)
          have HB5 : Hid (Below W.heap.size W (wr.drewN n5)) := Lib.hid (below_drewE HB3.out n5)
          have hs5 : W.heap.size + 1 ≤ (wr.drewN n5).heap.size := hsq
          obtain ⟨w5, hw5⟩ : ∃ w5, wr.drewN n5 = w5 := ⟨_, rfl⟩
          rw [hw5] at HQ5 HB5 hs5 ⊢
          clear hw5 HQ HB3 hsq HEq
          cases b
          · go_wp2_with fail
            refine (HHAS.out w5).mono ?_
            rintro e w6 ⟨rfl, rfl⟩
            have w3 : IntKind.i64.wrap ((k : Int) + 1) = ((k + 1 : Nat) : Int) := by rw [IntKind.wrap_i64]; omega
            go_wp2
            go_roundw
            case rel => exact ⟨k + 1, by omega, by omega, rfl, Lib.hid (HQ5.out.congr (fun j _ => by
              rw [HNX.out j]
              split
              · rename_i e; subst e; simp
              · rfl)), HB5, hs5⟩
            case measure => simp [intOf]; omega
          · go_wp2_with fail
            refine (HHAS.out w5).mono ?_
            rintro e w6 ⟨rfl, rfl⟩
            have w3 : IntKind.i64.wrap ((k : Int) + 1) = ((k + 1 : Nat) : Int) := by rw [IntKind.wrap_i64]; omega
            have hc := HQ5.out.cell k (by omega)
            have hf := HQ5.out.frozen k
            have HS := Lib.hid (HQ5.out.set k (by omega) (Eg.G (Utf.nums s) i k k + 1))
            obtain ⟨V, hV⟩ : ∃ V, Eg.G (Utf.nums s) i k k = V := ⟨_, rfl⟩
            rw [hV] at hc HS HGB HNX
            have w4 : IntKind.i64.wrap (V + 1) = V + 1 := by rw [IntKind.wrap_i64]; omega
            have HB6 : Hid (Below W.heap.size W (w5.setCell ⟨W.heap.size, k, none⟩ (.int .i64 (V + 1)))) := Lib.hid (HB5.out.setCell (p := ⟨W.heap.size, k, none⟩) (Nat.le_refl _) _)
            clear hV
            go_wp2
            go_roundw
            case rel => exact ⟨k + 1, by omega, by omega, rfl, Lib.hid (HS.out.congr (fun j _ => by
              rw [HNX.out j]
              rfl)), HB6, by simp only [World.size_setCell]; omega⟩
            case measure => simp [intOf]; omega
        · obtain rfl : k = 7 := by omega
          have HQ9 : Hid (RowI wr W.heap.size (Eg.G (Utf.nums s) (i + 1) 1)) := Lib.hid (HQ.out.congr (fun j hj => Eg.G_done _ _ _ hj))
          have w3 : IntKind.i64.wrap ((i : Int) + 1) = ((i + 1 : Nat) : Int) := by rw [IntKind.wrap_i64]; omega
          have w4 : IntKind.i64.wrap (Eg.fd (Utf.nums s) i + 1) = Eg.fd (Utf.nums s) i + 1 := by
            have := HFD.out
            rw [IntKind.wrap_i64]; omega
          have HF1 : Hid (Eg.fd (Utf.nums s) (i + 1) = Eg.fd (Utf.nums s) i + if (Eg.byteL (Utf.nums s) (i : Int) == 10) = true then 1 else 0) := Lib.hid rfl
          by_cases hin : i < s.size
          · have hin' : (i : Int) < (s.size : Int) := by omega
            have hac := HAC.out i hin
            rw [hac] at HF1
            by_cases h10 : ((s[i].toNat : Int) == 10) = true
            · have HF2 : Hid (Eg.fd (Utf.nums s) (i + 1) = Eg.fd (Utf.nums s) i + 1) := Lib.hid (by rw [HF1.out, if_pos h10])
              obtain ⟨f, hf⟩ : ∃ f, Eg.fd (Utf.nums s) i = f := ⟨_, rfl⟩
              rw [hf] at HF2 w4 ⊢
              clear hf hac HF1
              go_wp2
              go_roundw
              case rel => exact ⟨i + 1, by omega, rfl, by rw [HF2.out], HQ9, HB3, hsq⟩
              case measure => simp [intOf]; omega
            · have h10' : ((s[i].toNat : Int) == 10) = false := by simpa using h10
              have HF2 : Hid (Eg.fd (Utf.nums s) (i + 1) = Eg.fd (Utf.nums s) i) := Lib.hid (by rw [HF1.out, if_neg h10, Int.add_zero])
              obtain ⟨f, hf⟩ : ∃ f, Eg.fd (Utf.nums s) i = f := ⟨_, rfl⟩
              rw [hf] at HF2 w4 ⊢
              clear hf hac HF1 h10
              go_wp2
              go_roundw
              case rel => exact ⟨i + 1, by omega, rfl, by rw [HF2.out], HQ9, HB3, hsq⟩
              case measure => simp [intOf]; omega
          · have hin' : ¬ (i : Int) < (s.size : Int) := by omega
            have HF2 : Hid (Eg.fd (Utf.nums s) (i + 1) = Eg.fd (Utf.nums s) i) := Lib.hid (by
              have e : i = (Utf.nums s).length := by rw [HL.out]; omega
              rw [e]; exact Eg.fd_end _)
            obtain ⟨f, hf⟩ : ∃ f, Eg.fd (Utf.nums s) i = f := ⟨_, rfl⟩
            rw [hf] at HF2 w4 ⊢
            clear hf HF1
            go_wp2
            go_roundw
            case rel => exact ⟨i + 1, by omega, rfl, by rw [HF2.out], HQ9, HB3, hsq⟩
            case measure => simp [intOf]; omega
    · obtain rfl : i = s.size + 1 := by omega
      have hl9 := HL.out
      have e0 := Eg.fd_end (Utf.nums s)
      have e1 := Eg.c1 HZ.out (Utf.nums s).length (Nat.le_refl _)
      have e2 := Eg.c2 HZ.out
      have e3 := Eg.c3 HZ.out (Utf.nums s).length (Nat.le_refl _)
      have e4 := Eg.c4 HZ.out
      have e5 := Eg.c5 HZ.out
      have e6 := Eg.c56 HZ.out _ (Nat.le_refl _)
      have e7 := Eg.cK_bd (Utf.nums s) 5 (s.size + 1)
      have e8 := Eg.fd_bd (Utf.nums s) s.size
      rw [hl9] at e0 e1 e2 e3 e4 e5 e6
      have q1 := HR.out.cell 1 (by omega)
      have q2 := HR.out.cell 2 (by omega)
      have q3 := HR.out.cell 3 (by omega)
      have q4 := HR.out.cell 4 (by omega)
      have q5 := HR.out.cell 5 (by omega)
      have q6 := HR.out.cell 6 (by omega)
      rw [Eg.G_all _ _ _ (by omega)] at q1 q2 q3 q4 q5 q6
      rw [show ((1 : Nat) : Int) = 1 from rfl, e1] at q1
      rw [show ((2 : Nat) : Int) = 2 from rfl, e2] at q2
      rw [show ((3 : Nat) : Int) = 3 from rfl, e3] at q3
      rw [show ((4 : Nat) : Int) = 4 from rfl, e4] at q4
      rw [show ((5 : Nat) : Int) = 5 from rfl] at q5
      rw [show ((6 : Nat) : Int) = 6 from rfl] at q6
      rw [e0]
      obtain ⟨f, hf⟩ : ∃ f, Eg.fd (Utf.nums s) s.size = f := ⟨_, rfl⟩
      obtain ⟨u, hu⟩ : ∃ u, Eg.cK (Utf.nums s) 5 (s.size + 1) = u := ⟨_, rfl⟩
      obtain ⟨v, hv⟩ : ∃ v, Eg.cK (Utf.nums s) 6 (s.size + 1) = v := ⟨_, rfl⟩
      rw [hf] at q3 q4 e8 ⊢
      rw [hu] at q5 e5 e6 e7
      rw [hv] at q6 e6
      have w1 : IntKind.i64.wrap (f + 1) = f + 1 := by rw [IntKind.wrap_i64]; omega
      have w2 : IntKind.i64.wrap (u + v) = (s.size : Int) + 1 := by rw [IntKind.wrap_i64]; omega
      have w3 : IntKind.i64.wrap ((s.size : Int) + 1) = (s.size : Int) + 1 := by rw [IntKind.wrap_i64]; omega
      have w4 : u.tmod 2 = 0 := by rw [Int.tmod_eq_emod_of_nonneg e7.1]; exact e5
      have hnot : ¬ ((s.size + 1 : Nat) : Int) ≤ (s.size : Int) := by omega
      clear e0 e1 e2 e3 e4 e5 e6 e7 e8 hf hu hv hl9
      go_wp2
      go_ret
      exact ⟨rfl, HB.out⟩
end Go.Proofs.YtanffablfgnioaaDoor
