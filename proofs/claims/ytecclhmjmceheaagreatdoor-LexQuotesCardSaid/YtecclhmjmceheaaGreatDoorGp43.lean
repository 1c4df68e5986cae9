/- Mathematics of lex: behind a pattern that ends in a closing bracket another one has its own tokens. -/
import Derived.Test.YtecclhmjmceheaaGreatDoorGp41
import Derived.Test.YtecclhmjmceheaaGreatDoorGp42
namespace Go.Proofs.YtecclhmjmceheaaGreatDoor.Lx
set_option linter.unusedVariables false
theorem drop_app (P Q : List Int) (k : Nat) : (P ++ Q).drop (P.length + k) = Q.drop k := by
  apply List.ext_getElem?
  intro i
  rw [List.getElem?_drop, List.getElem?_drop, List.getElem?_append_right (by omega), show P.length + k + i - P.length = k + i by omega]
/-- What a text's tokens, or its error, are behind others. -/
def behind (n : Nat) (A : List (Int × Tk)) : LR → LR
  | .bad o c => .bad (o + n) c
  | .ok V => .ok (A ++ shift n V)
theorem lexR_shift (s t : ByteArray) : ∀ (d k : Nat) (q : Bool) (A U : List (Int × Tk)), t.size - k = d →
    lexR (s ++ t) (s.size + k) q (A ++ shift s.size U) = behind s.size A (lexR t k q U) := by
  have hzu : (s ++ t).size = s.size + t.size := ByteArray.size_append ..
  have hs := Utf.nums_length s
  have hdr : ∀ k, (Utf.nums (s ++ t)).drop (s.size + k) = (Utf.nums t).drop k := fun k => by
    rw [Br.nums_append', ← hs]; exact drop_app _ _ k
  have hex : ∀ k, (s ++ t).extract (s.size + k) (s ++ t).size = t.extract k t.size := fun k => by
    apply Br.nums_inj'
    rw [Br.nums_tail, Br.nums_tail, hdr]
  intro d
  induction d using Nat.strongRecOn with
  | ind d ih =>
    intro k q A U hk
    by_cases h1 : t.size ≤ k
    · rw [lexR_end (by omega), lexR_end h1]; rfl
    · by_cases h2 : turnB q ((Utf.nums t).drop k) = true
      · rw [lexR_turn (by omega) h2, lexR_turn (by omega) (by rw [hdr]; exact h2), Nat.add_assoc]
        exact ih (t.size - (k + 2)) (by omega) (k + 2) _ A U rfl
      · have h2f : turnB q ((Utf.nums t).drop k) = false := by simpa using h2
        have hz1 : (t.extract k t.size).size = t.size - k := by rw [ByteArray.size_extract]; omega
        have ho := one_ok q (t.extract k t.size) (by omega)
        cases hx : oneX q (t.extract k t.size) with
        | bad n c =>
          rw [lexR_bad (by omega) h2f hx, lexR_bad (by omega) (by rw [hdr]; exact h2f) (by rw [hex]; exact hx)]
          show LR.bad _ _ = LR.bad _ _
          rw [show ((s.size + k : Nat) : Int) + n = (k : Int) + n + (s.size : Int) by omega]
        | ok tk n =>
          rw [hx] at ho
          obtain ⟨o1, _⟩ := ho
          rw [lexR_tok (by omega) h2f hx, lexR_tok (by omega) (by rw [hdr]; exact h2f) (by rw [hex]; exact hx), Nat.add_assoc]
          have := ih (t.size - (k + n)) (by omega) (k + n) q A (U ++ [((k : Int), tk)]) rfl
          rw [← this]
          congr 1
          unfold shift
          rw [List.map_append, List.append_assoc]
          simp
          omega
/-- Behind a pattern that is a bracket at its end, and all tokens, another one has its own tokens. -/
theorem lex_joined (s t : ByteArray) (hz : (Utf.nums s)[s.size - 1]? = some 41) (h0 : 0 < s.size) {A : List (Int × Tk)} (h : lexR s 0 false [] = .ok A) (hl : ∃ tk : Tk, A.getLast? = some ((s.size : Int) - 1, tk) ∧ tk.kind = 11) :
    lexR (s ++ t) 0 false [] = behind s.size A (lexR t 0 false []) := by
  rw [lexR_join s t hz s.size 0 false [] A (by omega) h0 h hl (by simp)]
  have := lexR_shift s t t.size 0 false A [] (by omega)
  simpa [shift] using this
theorem Ris.all {m : Int} : ∀ {lo : Int} {l : List (Int × Tk)}, Ris m lo l → ∀ p ∈ l, lo < p.1 ∧ p.1 < m
  | _, [], _, p, hp => by simp at hp
  | lo, x :: l, hr, p, hp => by
    rcases List.mem_cons.1 hp with rfl | hp
    · exact ⟨hr.1, hr.2.1⟩
    · have := Ris.all hr.2.2.2.2 p hp
      exact ⟨by have := hr.1; omega, this.2⟩
theorem shift_zero (T : List (Int × Tk)) : shift 0 T = T := by
  unfold shift
  exact (List.map_congr_left (fun p _ => by rw [Int.add_zero]; rfl)).trans (List.map_id _)
theorem shift_len (n : Int) (T : List (Int × Tk)) : (shift n T).length = T.length := by unfold shift; rw [List.length_map]
end Go.Proofs.YtecclhmjmceheaaGreatDoor.Lx
namespace Go.Proofs.YtecclhmjmceheaaGreatDoor
open Lx (Tk)
/-- The front, and the rest, of a row of tokens. -/
theorem TkRow.front {W : World} {a : Option Addr} {cap c2 : Nat} {A B : List (Int × Tk)} (h : TkRow W (.slice a (A ++ B).length cap) (A ++ B)) : TkRow W (.slice a A.length c2) A := by
  obtain ⟨a1, c1, e, h⟩ := h
  injection e with e1 e2 e3
  subst e1
  refine ⟨a, c2, rfl, fun j hj => ?_⟩
  obtain ⟨b, o0, vs, f1, f2, f3, f4⟩ := h j (by rw [List.length_append]; omega)
  rw [List.getElem_append_left hj] at f3 f4
  exact ⟨b, o0, vs, f1, f2, f3, f4⟩
theorem TkRow.tail {W : World} {g o : Nat} {a : Option Addr} {cap c2 : Nat} {A B : List (Int × Tk)} (h : TkRow W (.slice a (A ++ B).length cap) (A ++ B)) (ha : 0 < B.length → a = some ⟨g, o, none⟩) {a2 : Option Addr} (ha2 : 0 < B.length → a2 = some ⟨g, o + A.length * 8, none⟩) : TkRow W (.slice a2 B.length c2) B := by
  obtain ⟨a1, c1, e, h⟩ := h
  injection e with e1 e2 e3
  subst e1
  refine ⟨a2, c2, rfl, fun j hj => ?_⟩
  obtain ⟨b, o0, vs, f1, f2, f3, f4⟩ := h (A.length + j) (by rw [List.length_append]; omega)
  have ea := ha (by omega)
  rw [ea] at f1
  injection f1 with f1
  injection f1 with g1 g2 g3
  subst g1
  subst g2
  have hg : (A ++ B)[A.length + j]'(by rw [List.length_append]; omega) = B[j] := by
    rw [List.getElem_append_right (by omega)]
    congr 1
    omega
  rw [hg] at f3 f4
  refine ⟨g, o + A.length * 8, vs, ha2 (by omega), f2, f3, fun q hq => ?_⟩
  rw [show o + A.length * 8 + j * 8 + q = o + (A.length + j) * 8 + q by omega]
  exact f4 q hq
end Go.Proofs.YtecclhmjmceheaaGreatDoor
