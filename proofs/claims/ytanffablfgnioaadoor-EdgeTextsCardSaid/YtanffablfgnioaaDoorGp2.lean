/- Edge: mathematics; the landed small functions and Between. -/
import Derived.Test.YtanffablfgnioaaDoorGp1
import Derived.IntWalk
namespace Go.Proofs.YtanffablfgnioaaDoor
open Go.RowKit
set_option linter.unusedVariables false
namespace Eg
/-- A byte of words. -/
def wordB (c : Int) : Bool := decide (48 ≤ c ∧ c ≤ 57 ∨ 65 ≤ c ∧ c ≤ 90 ∨ c = 95 ∨ 97 ≤ c ∧ c ≤ 122)
/-- What a number is to a place beside it. -/
def sideN (c : Int) : Nat := if c < 0 ∨ 255 < c then 0 else if c = 10 then 1 else if wordB c = true then 2 else 3
def tabL : List Int := [94, 90, 42, 74, 92, 88, 40, 72, 52, 48, 64, 32, 84, 80, 32, 64]
def tabN (i j : Nat) : Int := tabL.getD (i * 4 + j) 0
def betN (a b : Int) : Int := tabN (sideN a) (sideN b)
theorem side_lt (c : Int) : sideN c < 4 := by unfold sideN; split; omega; split; omega; split <;> omega
def byteL (z : List Int) (i : Int) : Int := if i < 0 ∨ (z.length : Int) ≤ i then -1 else z[i.toNat]?.getD 0
def atL (z : List Int) (i : Int) : Int := if i < 0 ∨ (z.length : Int) < i then 0 else betN (byteL z (i - 1)) (byteL z i)
end Eg
/-- The table of assertions. -/
def EvE (W : World) : Prop := ∀ i j, i < 4 → j < 4 → W.cell? ⟨0, i * 4 + j, none⟩ = some (.int .i64 (Eg.tabN i j))
theorem calls_quiet_eq {P : Program} {f : FuncId} {args : Array Value} {w : World} {n : Nat} {v : Value}
    (h : Calls P f args (w.drewN n) fun e w' => e = .returned v ∧ w.drewN n = w') : Calls P f args (w.drewN n) fun e w'' => e = .returned v ∧ ∃ m, w'' = w.drewN m :=
  h.mono fun _ _ ⟨he, hm⟩ => ⟨he, n, hm.symm⟩
theorem ret_bool {a b : Bool} (h : a = b) : Ending.returned (.bool a) = .returned (.bool b) := by rw [h]
set_option maxHeartbeats 1000000 in
theorem word_any (c : Int) (w : World) : Calls Tryd.prog 9 #[.int .i64 c] w fun e w' => e = .returned (.bool (Eg.wordB c)) ∧ w = w' := by
  go_enter Tryd.func9, Tryd.ntmps9
  go_wp2
  all_goals
    go_ret
    refine ⟨ret_bool ?_, rfl⟩
    unfold Eg.wordB
    first
      | (symm; rw [decide_eq_true_eq]; omega)
      | (symm; rw [decide_eq_false_iff_not]; omega)
      | (rw [decide_eq_decide]; omega)
      | (rw [Bool.eq_iff_iff, decide_eq_true_eq]; simp; omega)
theorem side_any (c : Int) (w : World) : Calls Tryd.prog 17 #[.int .i64 c] w fun e w' => e = .returned (.int .i64 (Eg.sideN c : Nat)) ∧ w = w' := by
  by_cases h0 : c < 0 ∨ 255 < c
  · have e : Eg.sideN c = 0 := by unfold Eg.sideN; rw [if_pos h0]
    rw [e]
    clear e
    by_cases h1 : c < 0
    · go_enter Tryd.func17, Tryd.ntmps17
      go_wp2
      go_ret
      exact ⟨rfl, rfl⟩
    · have h2 : 255 < c := by omega
      go_enter Tryd.func17, Tryd.ntmps17
      go_wp2
      go_ret
      exact ⟨rfl, rfl⟩
  have h1 : ¬ c < 0 := by omega
  have h2 : ¬ 255 < c := by omega
  by_cases h3 : c = 10
  · subst h3
    go_enter Tryd.func17, Tryd.ntmps17
    go_wp2
    go_ret
    exact ⟨rfl, rfl⟩
  have HE : Hid (Eg.sideN c = if Eg.wordB c = true then 2 else 3) := Lib.hid (by unfold Eg.sideN; rw [if_neg h0, if_neg h3])
  have HW := Lib.hid (word_any c w)
  clear h0
  go_enter Tryd.func17, Tryd.ntmps17
  go_wp2_with fail
  refine HW.out.mono ?_
  rintro e wa ⟨rfl, rfl⟩
  obtain ⟨b, hb⟩ : ∃ b, Eg.wordB c = b := ⟨_, rfl⟩
  rw [hb] at HE ⊢
  clear hb
  cases b
  · go_wp2
    go_ret
    exact ⟨by rw [HE.out]; rfl, rfl⟩
  · go_wp2
    go_ret
    exact ⟨by rw [HE.out]; rfl, rfl⟩
set_option maxHeartbeats 1000000 in
theorem between_edge (a b : Int) (W : World) (h : EvE W) : Calls Tryd.prog 7 #[.int .i64 a, .int .i64 b] W fun e w' => e = .returned (.int .i64 (Eg.betN a b)) ∧ ∃ n, w' = W.drewN n := by
  have i4 := Eg.side_lt a
  have j4 := Eg.side_lt b
  have hc := h _ _ i4 j4
  unfold Eg.betN
  have HS := Lib.hid (fun c w => side_any c w)
  obtain ⟨f, hf⟩ : ∃ f, Eg.sideN = f := ⟨_, rfl⟩
  rw [hf] at HS i4 j4 hc ⊢
  clear hf h
  have i0 : (0 : Int) ≤ (f a : Int) := by omega
  have j0 : (0 : Int) ≤ (f b : Int) := by omega
  have i5 : (f a : Int) < 4 := by omega
  have j5 : (f b : Int) < 4 := by omega
  have i6 : (f a : Int).toNat = f a := by omega
  have j6 : (f b : Int).toNat = f b := by omega
  go_enter Tryd.func7, Tryd.ntmps7
  go_wp2
  go_quiet ((go_at_call 17; exact calls_quiet_eq (HS.out _ _)))
  go_wp2
  go_ret
  exact ⟨rfl, _, rfl⟩
theorem byteFrom_any (s : ByteArray) (hs : s.size ≤ 140737488351232) (i : Int) (w : World) : Calls Tryd.prog 18 #[.string s, .int .i64 i] w fun e w' => e = .returned (.int .i64 (Eg.byteL (Utf.nums s) i)) ∧ w = w' := by
  by_cases h0 : i < 0
  · have e : Eg.byteL (Utf.nums s) i = -1 := by unfold Eg.byteL; rw [if_pos (.inl h0)]
    rw [e]
    clear e
    go_enter Tryd.func18, Tryd.ntmps18
    go_wp2
    go_ret
    exact ⟨rfl, rfl⟩
  by_cases h1 : (s.size : Int) ≤ i
  · have e : Eg.byteL (Utf.nums s) i = -1 := by unfold Eg.byteL; rw [if_pos (.inr (by rw [Utf.nums_length]; exact h1))]
    rw [e]
    clear e
    go_enter Tryd.func18, Tryd.ntmps18
    go_wp2
    go_ret
    exact ⟨rfl, rfl⟩
  obtain ⟨k, rfl⟩ : ∃ k : Nat, i = (k : Int) := ⟨i.toNat, by omega⟩
  have hk : k < s.size := by omega
  have HE : Hid (Eg.byteL (Utf.nums s) (k : Int) = (s[k].toNat : Int)) := Lib.hid (by
    unfold Eg.byteL
    rw [if_neg (by rw [Utf.nums_length]; omega), ← Utf.nums_at s k hk]; rfl)
  have hb : s[k].toNat < 256 := UInt8.toNat_lt _
  go_enter Tryd.func18, Tryd.ntmps18
  go_wp2
  go_ret
  exact ⟨ret_int (by rw [HE.out]), rfl⟩
theorem EvE.drew {W : World} (h : EvE W) (n : Nat) : EvE (W.drewN n) := fun i j hi hj => by
  have := h i j hi hj
  simpa using this
theorem EvE.below {W W' : World} (h : EvE W) (hb : Below W.heap.size W W') : EvE W' := fun i j hi hj => by
  have h1 := h i j hi hj
  have hlt : 0 < W.heap.size := by
    unfold World.cell? at h1
    simp only at h1
    split at h1
    · rename_i o ho; exact (Array.getElem?_eq_some_iff.1 ho).1
    · cases h1
  exact (hb.cell (p := ⟨0, i * 4 + j, none⟩) hlt).trans h1
set_option maxHeartbeats 1000000 in
theorem atE_any (s : ByteArray) (hs : s.size ≤ 140737488351232) (i : Int) (W : World) (h : EvE W) : Calls Tryd.prog 11 #[.string s, .int .i64 i] W fun e w' => e = .returned (.int .i64 (Eg.atL (Utf.nums s) i)) ∧ ∃ n, w' = W.drewN n := by
  by_cases h0 : i < 0
  · have e : Eg.atL (Utf.nums s) i = 0 := by unfold Eg.atL; rw [if_pos (.inl h0)]
    rw [e]
    clear e
    go_enter Tryd.func11, Tryd.ntmps11
    go_wp2
    go_ret
    exact ⟨rfl, 0, rfl⟩
  by_cases h1 : (s.size : Int) < i
  · have e : Eg.atL (Utf.nums s) i = 0 := by unfold Eg.atL; rw [if_pos (.inr (by rw [Utf.nums_length]; exact h1))]
    rw [e]
    clear e
    go_enter Tryd.func11, Tryd.ntmps11
    go_wp2
    go_ret
    exact ⟨rfl, 0, rfl⟩
  have e : Eg.atL (Utf.nums s) i = Eg.betN (Eg.byteL (Utf.nums s) (i - 1)) (Eg.byteL (Utf.nums s) i) := by unfold Eg.atL; rw [if_neg (by rw [Utf.nums_length]; omega)]
  rw [e]
  clear e
  have hw : IntKind.i64.wrap (i - 1) = i - 1 := by rw [IntKind.wrap_i64]; omega
  have H1 := Lib.hid (byteFrom_any s hs (i - 1))
  have H2 := Lib.hid (byteFrom_any s hs i)
  have HE := Lib.hid h
  obtain ⟨X, hX⟩ : ∃ X, Eg.byteL (Utf.nums s) (i - 1) = X := ⟨_, rfl⟩
  obtain ⟨Y, hY⟩ : ∃ Y, Eg.byteL (Utf.nums s) i = Y := ⟨_, rfl⟩
  rw [hX] at H1 ⊢
  rw [hY] at H2 ⊢
  clear hX hY h
  go_enter Tryd.func11, Tryd.ntmps11
  go_wp2_with fail
  refine (H1.out W).mono ?_
  rintro e wa ⟨rfl, rfl⟩
  go_wp2_with fail
  refine (H2.out W).mono ?_
  rintro e wa ⟨rfl, rfl⟩
  go_wp2_with fail
  refine (between_edge X Y W HE.out).mono ?_
  rintro e wa ⟨rfl, n, rfl⟩
  go_wp2
  go_ret
  exact ⟨rfl, _, rfl⟩
end Go.Proofs.YtanffablfgnioaaDoor
