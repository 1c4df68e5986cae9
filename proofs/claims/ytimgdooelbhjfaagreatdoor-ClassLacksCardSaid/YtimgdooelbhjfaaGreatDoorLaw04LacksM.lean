/- The walk of burinlaw04.ClassLacks. -/
import Derived.Test.YtimgdooelbhjfaaGreatDoorCw
import Derived.Test.YtimgdooelbhjfaaGreatDoorRnC
import Derived.Test.YtimgdooelbhjfaaGreatDoorRgSets
namespace Go.Proofs.YtimgdooelbhjfaaGreatDoor
open Go.RowKit Go.Shelf
set_option linter.unusedVariables false
theorem hat_txt (s : ByteArray) : ((⟨#[94]⟩ : ByteArray) ++ s).data.toList = 94 :: s.data.toList := by simp
theorem not_class {T : List Int} {l m out : List (Int × Int)} (hl : Cl.ClassIs (some (false, T)) l 0) (hm : Cl.ClassIs (some (true, T)) m 0) (h : Rg.Made 3 [(0, 1114111)] l out) : out = m := by
  refine (Cl.classIs_unique (X := some (true, T)) (c := 0) ⟨rfl, h.norm, fun q h0 h1 => ?_⟩ hm).1
  rw [h.has q h0 h1, (Rg.hasB_iff [(0, 1114111)] q).2 ⟨⟨h0, h1⟩, (0, 1114111), by simp, h0, h1⟩, hl.2.2 q h0 h1]
  cases Rg.hasB (Cl.pairsOf T) q <;> rfl
theorem class_norm {X : Option (Bool × List Int)} {out : List (Int × Int)} {code : Int} (hc : Cl.ClassIs X out code) : Rg.NormL out := by
  cases X with
  | none => obtain ⟨rfl, _⟩ := hc; trivial
  | some p => exact hc.2.1
theorem check_class (W : World) (v : Value) {X : Option (Bool × List Int)} {out : List (Int × Int)} {code : Int} (hc : Cl.ClassIs X out code) (h : RRow W v out) :
    Calls Tryz.prog 18 #[v] W fun e w' => e = .returned (.int .i64 0) ∧ Below W.heap.size W w' :=
  (check_any W v out h).mono fun _ _ ⟨h1, h2⟩ => ⟨by rw [h1, (Rg.check_norm out).2 (class_norm hc)], h2⟩
namespace Cl
theorem bare_hat (s : List UInt8) : bare (94 :: s) = (s, true) := rfl
theorem bare_plain {s : List UInt8} (h : s.head? ≠ some 94) : bare s = (s, false) := by
  unfold bare
  split
  · exact absurd rfl h
  · rfl
def noHat (U : List (List UInt8 × List Int)) : Bool := U.all fun e => e.1.head? != some 94
theorem look_hat {U : List (List UInt8 × List Int)} (hU : noHat U = true) {s : List UInt8} (h : s.head? = some 94) : look U s = none := by
  unfold look
  rw [List.find?_eq_none.2 (fun e he hs => by
    have := List.all_eq_true.1 hU e he
    have e1 : s = e.1 := by simpa using hs
    rw [e1] at h
    rw [h] at this; simp at this)]
  rfl
theorem lookC_hat (U : List (List UInt8 × List Int)) (s : List UInt8) : lookC U (94 :: s) = (look U s).map fun n => (true, n) := rfl
theorem lookC_plain (U : List (List UInt8 × List Int)) {s : List UInt8} (h : s.head? ≠ some 94) : lookC U s = (look U s).map fun n => (false, n) := by
  unfold lookC; rw [bare_plain h]
theorem letter_cap {c : Int} (h1 : 97 ≤ c) (h2 : c ≤ 122) : (letterX c = none ∧ letterX (c - 97 + 65) = none) ∨ ∃ T, letterX c = some (false, T) ∧ letterX (c - 97 + 65) = some (true, T) := by
  rcases (by omega : c = 100 ∨ c = 115 ∨ c = 119 ∨ (c ≠ 100 ∧ c ≠ 115 ∧ c ≠ 119)) with rfl | rfl | rfl | ⟨h3, h4, h5⟩
  · exact .inr ⟨_, rfl, rfl⟩
  · exact .inr ⟨_, rfl, rfl⟩
  · exact .inr ⟨_, rfl, rfl⟩
  · refine .inl ⟨?_, ?_⟩
    · unfold letterX
      rw [if_neg (by omega), if_neg (by omega), if_neg (by omega), if_neg (by omega), if_neg (by omega), if_neg (by omega)]
    · unfold letterX
      rw [if_neg (by omega), if_neg (by omega), if_neg (by omega), if_neg (by omega), if_neg (by omega), if_neg (by omega)]
end Cl
end Go.Proofs.YtimgdooelbhjfaaGreatDoor
