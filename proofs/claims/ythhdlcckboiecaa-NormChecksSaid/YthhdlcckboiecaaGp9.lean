/- The reference's tree (burinref06): letter, Name. · What the reference's Check answers, as plain mathematics. · The contract of the reference's Check (burinref02). -/
import Derived.Test.YthhdlcckboiecaaGp3
import Derived.IntWalk
import Derived.Test.YthhdlcckboiecaaGp1
namespace Go.Proofs.Ythhdlcckboiecaa
open Go.RowKit
set_option linter.unusedVariables false
namespace Td
/-- May a byte stand in a name? -/
def letC (c : Int) : Bool := decide (65 ≤ c ∧ c ≤ 90 ∨ 97 ≤ c ∧ c ≤ 122 ∨ 48 ≤ c ∧ c ≤ 57 ∨ c = 95)
def bytes (s : ByteArray) : List Int := s.data.toList.map (fun b => (b.toNat : Int))
theorem bytes_len (s : ByteArray) : (bytes s).length = s.size := by simp [bytes]
theorem bytes_at (s : ByteArray) (k : Nat) (h : k < s.size) : (bytes s)[k]? = some (s[k].toNat : Int) := by
  have h' : k < s.data.size := h
  simp only [bytes, List.getElem?_map, Array.getElem?_toList]
  rw [Array.getElem?_eq_getElem h']
  rfl
/-- Is it a name? -/
def nameB (s : ByteArray) : Bool := (bytes s).all letC && decide (1 ≤ s.size ∧ s.size ≤ 32 ∧ ((bytes s).getD 0 0 < 48 ∨ 57 < (bytes s).getD 0 0))
end Td
set_option maxRecDepth 100000 in
set_option maxHeartbeats 2000000 in
theorem letter_any (W : World) (c : Int) (h0 : 0 ≤ c) (h1 : c ≤ 255) : Calls Try.prog 58 #[.int .u8 c] W fun e w' => e = .returned (.bool (Td.letC c)) ∧ W = w' := by
  have done : ∀ b : Bool, (b = true ↔ (65 ≤ c ∧ c ≤ 90 ∨ 97 ≤ c ∧ c ≤ 122 ∨ 48 ≤ c ∧ c ≤ 57 ∨ c = 95)) → Td.letC c = b := fun b hb => by
    unfold Td.letC
    cases b
    · exact decide_eq_false (fun h => by have := hb.2 h; cases this)
    · exact decide_eq_true (hb.1 rfl)
  by_cases z0 : c < 48
  · have e := Lib.hid (done (c == 95) ⟨fun h => .inr (.inr (.inr (eq_of_beq h))), fun h => absurd h (by omega)⟩)
    have a0 : ¬ 65 ≤ c := by omega
    have a1 : c ≤ 90 := by omega
    have a2 : ¬ 97 ≤ c := by omega
    have a3 : c ≤ 122 := by omega
    have a4 : ¬ 48 ≤ c := by omega
    have a5 : c ≤ 57 := by omega
    have a6 : ¬ c = 95 := by omega
    clear done
    go_enter Try.func58, Try.ntmps58
    go_wp2
    go_ret
    first | (rw [e.out]; exact ⟨rfl, rfl⟩) | exact ⟨rfl, rfl⟩
  by_cases z50 : c < 58
  · have e := Lib.hid (done true ⟨fun _ => (by omega), fun _ => rfl⟩)
    have a0 : ¬ 65 ≤ c := by omega
    have a1 : c ≤ 90 := by omega
    have a2 : ¬ 97 ≤ c := by omega
    have a3 : c ≤ 122 := by omega
    have a4 : 48 ≤ c := by omega
    have a5 : c ≤ 57 := by omega
    have a6 : ¬ c = 95 := by omega
    clear done
    go_enter Try.func58, Try.ntmps58
    go_wp2
    go_ret
    first | (rw [e.out]; exact ⟨rfl, rfl⟩) | exact ⟨rfl, rfl⟩
  by_cases z60 : c < 65
  · have e := Lib.hid (done (c == 95) ⟨fun h => .inr (.inr (.inr (eq_of_beq h))), fun h => absurd h (by omega)⟩)
    have a0 : ¬ 65 ≤ c := by omega
    have a1 : c ≤ 90 := by omega
    have a2 : ¬ 97 ≤ c := by omega
    have a3 : c ≤ 122 := by omega
    have a4 : 48 ≤ c := by omega
    have a5 : ¬ c ≤ 57 := by omega
    have a6 : ¬ c = 95 := by omega
    clear done
    go_enter Try.func58, Try.ntmps58
    go_wp2
    go_ret
    first | (rw [e.out]; exact ⟨rfl, rfl⟩) | exact ⟨rfl, rfl⟩
  by_cases z70 : c < 91
  · have e := Lib.hid (done true ⟨fun _ => (by omega), fun _ => rfl⟩)
    have a0 : 65 ≤ c := by omega
    have a1 : c ≤ 90 := by omega
    have a2 : ¬ 97 ≤ c := by omega
    have a3 : c ≤ 122 := by omega
    have a4 : 48 ≤ c := by omega
    have a5 : ¬ c ≤ 57 := by omega
    have a6 : ¬ c = 95 := by omega
    clear done
    go_enter Try.func58, Try.ntmps58
    go_wp2
    go_ret
    first | (rw [e.out]; exact ⟨rfl, rfl⟩) | exact ⟨rfl, rfl⟩
  by_cases z92 : c < 95
  · have e := Lib.hid (done (c == 95) ⟨fun h => .inr (.inr (.inr (eq_of_beq h))), fun h => absurd h (by omega)⟩)
    have a0 : 65 ≤ c := by omega
    have a1 : ¬ c ≤ 90 := by omega
    have a2 : ¬ 97 ≤ c := by omega
    have a3 : c ≤ 122 := by omega
    have a4 : 48 ≤ c := by omega
    have a5 : ¬ c ≤ 57 := by omega
    have a6 : ¬ c = 95 := by omega
    clear done
    go_enter Try.func58, Try.ntmps58
    go_wp2
    go_ret
    first | (rw [e.out]; exact ⟨rfl, rfl⟩) | exact ⟨rfl, rfl⟩
  by_cases z95 : c = 95
  · have e := Lib.hid (done true ⟨fun _ => (by omega), fun _ => rfl⟩)
    have a0 : 65 ≤ c := by omega
    have a1 : ¬ c ≤ 90 := by omega
    have a2 : ¬ 97 ≤ c := by omega
    have a3 : c ≤ 122 := by omega
    have a4 : 48 ≤ c := by omega
    have a5 : ¬ c ≤ 57 := by omega
    have a6 : c = 95 := by omega
    clear done
    go_enter Try.func58, Try.ntmps58
    go_wp2
    go_ret
    first | (rw [e.out]; exact ⟨rfl, rfl⟩) | exact ⟨rfl, rfl⟩
  by_cases z96 : c < 97
  · have e := Lib.hid (done (c == 95) ⟨fun h => .inr (.inr (.inr (eq_of_beq h))), fun h => absurd h (by omega)⟩)
    have a0 : 65 ≤ c := by omega
    have a1 : ¬ c ≤ 90 := by omega
    have a2 : ¬ 97 ≤ c := by omega
    have a3 : c ≤ 122 := by omega
    have a4 : 48 ≤ c := by omega
    have a5 : ¬ c ≤ 57 := by omega
    have a6 : ¬ c = 95 := by omega
    clear done
    go_enter Try.func58, Try.ntmps58
    go_wp2
    go_ret
    first | (rw [e.out]; exact ⟨rfl, rfl⟩) | exact ⟨rfl, rfl⟩
  by_cases z100 : c < 123
  · have e := Lib.hid (done true ⟨fun _ => (by omega), fun _ => rfl⟩)
    have a0 : 65 ≤ c := by omega
    have a1 : ¬ c ≤ 90 := by omega
    have a2 : 97 ≤ c := by omega
    have a3 : c ≤ 122 := by omega
    have a4 : 48 ≤ c := by omega
    have a5 : ¬ c ≤ 57 := by omega
    have a6 : ¬ c = 95 := by omega
    clear done
    go_enter Try.func58, Try.ntmps58
    go_wp2
    go_ret
    first | (rw [e.out]; exact ⟨rfl, rfl⟩) | exact ⟨rfl, rfl⟩
  have e := Lib.hid (done (c == 95) ⟨fun h => .inr (.inr (.inr (eq_of_beq h))), fun h => absurd h (by omega)⟩)
  have a0 : 65 ≤ c := by omega
  have a1 : ¬ c ≤ 90 := by omega
  have a2 : 97 ≤ c := by omega
  have a3 : ¬ c ≤ 122 := by omega
  have a4 : 48 ≤ c := by omega
  have a5 : ¬ c ≤ 57 := by omega
  have a6 : ¬ c = 95 := by omega
  clear done
  go_enter Try.func58, Try.ntmps58
  go_wp2
  go_ret
  first | (rw [e.out]; exact ⟨rfl, rfl⟩) | exact ⟨rfl, rfl⟩
set_option maxRecDepth 100000 in
set_option maxHeartbeats 4000000 in
theorem refName_any (W : World) (s : ByteArray) (hm : s.size ≤ 140737488351232) : Calls Try.prog 43 #[.string s] W fun e w' => e = .returned (.bool (Td.nameB s)) ∧ W = w' := by
  go_enter Try.func43, Try.ntmps43
  go_wp2
  go_loop [3] (fun iv => ∃ k : Nat, k ≤ s.size ∧ iv = .int .i64 (k : Int) ∧ ((Td.bytes s).take k).all Td.letC = true) (fun iv => s.size - (intOf iv).toNat)
  case atStart => exact ⟨0, Nat.zero_le _, rfl, rfl⟩
  case round =>
    obtain ⟨k, hk, rfl, HA⟩ := hrel
    by_cases hlt : k < s.size
    · have hb : s[k].toNat < 256 := UInt8.toNat_lt _
      have HK := Lib.hid (Td.bytes_at s k hlt)
      have HAA := Lib.hid HA
      clear HA
      go_wp2_with fail
      refine (letter_any _ _ (by omega) (by omega)).mono ?_
      rintro e w' ⟨rfl, rfl⟩
      obtain ⟨x, hx⟩ : ∃ x, Td.letC (s[k].toNat : Int) = x := ⟨_, rfl⟩
      have HX := Lib.hid hx
      rw [hx]
      clear hx
      cases x
      · have hE : Hid (Td.nameB s = false) := Lib.hid (by
          have h1 : (Td.bytes s).all Td.letC = false := by
            rw [List.all_eq_false]
            exact ⟨_, List.mem_of_getElem? HK.out, by rw [HX.out]; decide⟩
          unfold Td.nameB; rw [h1]; rfl)
        go_wp2
        go_ret
        rw [hE.out]; exact ⟨rfl, rfl⟩
      · go_wp2
        go_round
        case rel =>
          refine ⟨k + 1, by omega, by go_num, ?_⟩
          obtain ⟨h, h2⟩ := List.getElem?_eq_some_iff.1 HK.out
          rw [List.take_succ_eq_append_getElem h, List.all_append, HAA.out, h2]
          simp [HX.out]
        case measure => simp [intOf]; omega
    · obtain rfl : k = s.size := by omega
      rw [List.take_of_length_le (by rw [Td.bytes_len]; exact Nat.le_refl _)] at HA
      have hE : Hid (Td.nameB s = decide (1 ≤ s.size ∧ s.size ≤ 32 ∧ ((Td.bytes s).getD 0 0 < 48 ∨ 57 < (Td.bytes s).getD 0 0))) := Lib.hid (by unfold Td.nameB; rw [HA]; rfl)
      clear HA
      by_cases c1 : (1 : Int) ≤ (s.size : Int)
      · have c1' : 0 < s.size := by omega
        have hz : (Td.bytes s).getD 0 0 = (s[0].toNat : Int) := by rw [List.getD, Td.bytes_at s 0 c1']; rfl
        rw [hz] at hE
        clear hz
        by_cases c2 : (s.size : Int) ≤ 32
        · by_cases c3 : (s[0].toNat : Int) < 48
          · go_wp2
            go_ret
            exact ⟨by rw [hE.out, decide_eq_true (by omega)]; rfl, rfl⟩
          · by_cases c4 : (57 : Int) < (s[0].toNat : Int)
            · go_wp2
              go_ret
              exact ⟨by rw [hE.out, decide_eq_true (by omega)]; rfl, rfl⟩
            · go_wp2
              go_ret
              exact ⟨by rw [hE.out, decide_eq_false (by omega)]; rfl, rfl⟩
        · go_wp2
          go_ret
          exact ⟨by rw [hE.out, decide_eq_false (by omega)]; rfl, rfl⟩
      · go_wp2
        go_ret
        exact ⟨by rw [hE.out, decide_eq_false (by omega)]; rfl, rfl⟩
end Go.Proofs.Ythhdlcckboiecaa
namespace Go.Proofs.Ythhdlcckboiecaa
set_option linter.unusedVariables false
namespace Rg
def check1 (prev : Option Int) (p : R) : Int :=
  if p.1 < 0 ∨ p.2 < 0 ∨ p.1 > 1114111 ∨ p.2 > 1114111 then 1 else if p.1 > p.2 ∨ (∃ h, prev = some h ∧ p.1 - 1 ≤ h) then 4 else 0
def checkF : Option Int → List R → Int
  | _, [] => 0
  | prev, p :: l => if check1 prev p = 0 then checkF (some p.2) l else check1 prev p
def prevAt (l : List R) (k : Nat) : Option Int := if k = 0 then none else some (l[k - 1]?.getD (0, 0)).2
theorem checkF_step (l : List R) (k : Nat) (hk : k < l.length) :
    checkF (prevAt l k) (l.drop k) = if check1 (prevAt l k) (l[k]?.getD (0, 0)) = 0 then checkF (prevAt l (k + 1)) (l.drop (k + 1)) else check1 (prevAt l k) (l[k]?.getD (0, 0)) := by
  rw [List.drop_eq_getElem_cons hk]
  simp only [checkF]
  have e : l[k]?.getD (0, 0) = l[k] := by rw [List.getElem?_eq_getElem hk]; rfl
  rw [e]
  have e2 : prevAt l (k + 1) = some (l[k]).2 := by simp [prevAt, hk]
  rw [e2]
end Rg
end Go.Proofs.Ythhdlcckboiecaa
namespace Go.Proofs.Ythhdlcckboiecaa
open Go.RowKit
set_option linter.unusedVariables false
set_option maxRecDepth 100000 in
set_option maxHeartbeats 2000000 in
theorem refCheck_walk (W : World) (a : Option Addr) (n cap : Nat) (l : List (Int × Int)) (hn : l.length = n) (hn2 : n ≤ 8796093022208)
    (hc : ∀ j, j < n → ∃ b off, a = some ⟨b, off, none⟩ ∧ b < W.heap.size ∧ W.cell? ⟨b, off + j * 2, none⟩ = some (.int .i64 (l[j]?.getD (0, 0)).1) ∧ W.cell? ⟨b, off + j * 2 + 1, none⟩ = some (.int .i64 (l[j]?.getD (0, 0)).2)) :
    Calls Try.prog 42 #[.slice a n cap] W fun e w' => e = .returned (.int .i64 (Rg.checkF none l)) ∧ ∃ d, w' = W.drewN d := by
  have HN := Lib.hid hn
  have HC := Lib.hid hc
  clear hn hc
  go_enter Try.func42, Try.ntmps42
  go_wp2
  go_loopw [2, 3] (fun R i wr => ∃ k : Nat, k ≤ n ∧ i = .int .i64 k ∧ Hid (Rg.checkF none l = Rg.checkF (Rg.prevAt l k) (l.drop k)) ∧ ∃ d, wr = W.drewN d) (fun _ i _ => n - (intOf i).toNat)
  case atStart => exact ⟨0, Nat.zero_le _, rfl, Lib.hid rfl, 0, rfl⟩
  case round =>
    obtain ⟨k, hk, rfl, HF, d, rfl⟩ := hrel
    by_cases hlt : k < n
    · have HS := Lib.hid (Rg.checkF_step l k (by rw [HN.out]; exact hlt))
      obtain ⟨b, off, rfl, hb, hc1, hc2⟩ := HC.out k hlt
      obtain ⟨p, hp⟩ : ∃ p, l[k]?.getD (0, 0) = p := ⟨_, rfl⟩
      rw [hp] at hc1 hc2
      rw [hp] at HS
      clear hp
      obtain ⟨p1, p2⟩ := p
      dsimp only at hc1 hc2
      by_cases a1 : p1 < 0 ∨ p2 < 0 ∨ p1 > 1114111 ∨ p2 > 1114111
      · have HE : Hid (Rg.checkF none l = 1) := Lib.hid (by rw [HF.out, HS.out, show Rg.check1 (Rg.prevAt l k) (p1, p2) = 1 from if_pos a1, if_neg (by decide)])
        go_wp2
        all_goals first
          | (go_ret; exact ⟨by rw [HE.out]; rfl, _, rfl⟩)
          | (exfalso; omega)
      · obtain ⟨q1, q2, q3, q4⟩ : 0 ≤ p1 ∧ 0 ≤ p2 ∧ p1 ≤ 1114111 ∧ p2 ≤ 1114111 := by omega
        by_cases a2 : p1 > p2
        · have HE : Hid (Rg.checkF none l = 4) := Lib.hid (by rw [HF.out, HS.out, show Rg.check1 (Rg.prevAt l k) (p1, p2) = 4 from (if_neg a1).trans (if_pos (.inl a2)), if_neg (by decide)])
          clear a1
          go_wp2
          go_quiet (fail)
          go_wp2
          go_ret
          exact ⟨by rw [HE.out]; rfl, _, by first | rfl | exact World.drewN_drewN _ _ _⟩
        · by_cases hkp : 0 < k; rotate_left
          · have hz : Rg.check1 (Rg.prevAt l k) (p1, p2) = 0 := (if_neg a1).trans (if_neg (by rintro (h | ⟨h, h1, h2⟩); exact a2 h; exact absurd h1 (by simp [Rg.prevAt, show k = 0 by omega])))
            have HE : Hid (Rg.checkF none l = Rg.checkF (Rg.prevAt l (k + 1)) (l.drop (k + 1))) := Lib.hid (by rw [HF.out, HS.out, hz, if_pos rfl])
            clear a1 hz
            go_wp2
            have a2' : ¬ p2 < p1 := by omega
            have hkz : ¬ (0 : Int) < (k : Int) := by omega
            go_quiet (fail)
            go_wp2
            go_round
            case rel => exact ⟨k + 1, by omega, by go_num, HE, _, rfl⟩
            case measure => simp [intOf]; omega
          · obtain ⟨j, rfl⟩ : ∃ j, k = j + 1 := ⟨k - 1, by omega⟩
            obtain ⟨b', off', hbb, _, _, hc4⟩ := HC.out j (by omega)
            injection hbb with hbb; injection hbb with hb1 hb2; subst hb1; subst hb2
            obtain ⟨h, hh⟩ : ∃ h, (l[j]?.getD (0, 0)).2 = h := ⟨_, rfl⟩
            have hprev : Rg.prevAt l (j + 1) = some h := by simp only [Rg.prevAt, Nat.add_one_ne_zero, if_false, Nat.add_sub_cancel]; rw [hh]
            rw [hh] at hc4
            rw [hprev] at HS
            clear hh
            by_cases a3 : p1 - 1 ≤ h
            · have HE : Hid (Rg.checkF none l = 4) := Lib.hid (by rw [HF.out, hprev, HS.out, show Rg.check1 (some h) (p1, p2) = 4 from (if_neg a1).trans (if_pos (.inr ⟨h, rfl, a3⟩)), if_neg (by decide)])
              clear a1 hprev
              go_wp2
              have a2' : ¬ p2 < p1 := by omega
              have hkz : (0 : Int) < ((j + 1 : Nat) : Int) := by omega
              go_quiet (fail)
              go_wp2
              go_ret
              exact ⟨by rw [HE.out]; rfl, _, by first | rfl | exact World.drewN_drewN _ _ _⟩
            · have hz : Rg.check1 (some h) (p1, p2) = 0 := (if_neg a1).trans (if_neg (by rintro (h | ⟨h, h1, h2⟩); exact a2 h; injection h1 with h1; subst h1; exact a3 h2))
              have HE : Hid (Rg.checkF none l = Rg.checkF (Rg.prevAt l (j + 1 + 1)) (l.drop (j + 1 + 1))) := Lib.hid (by rw [HF.out, hprev, HS.out, hz, if_pos rfl])
              clear a1 hz hprev
              go_wp2
              have a2' : ¬ p2 < p1 := by omega
              have hkz : (0 : Int) < ((j + 1 : Nat) : Int) := by omega
              have a3' : ¬ p1 - 1 ≤ h := by omega
              go_quiet (fail)
              go_wp2
              go_round
              case rel => exact ⟨j + 1 + 1, by omega, by go_num, HE, _, rfl⟩
              case measure => simp [intOf]; omega
    · obtain rfl : k = n := by omega
      have HE : Hid (Rg.checkF none l = 0) := Lib.hid (by rw [HF.out, List.drop_eq_nil_of_le (by rw [HN.out]; exact Nat.le_refl _)]; rfl)
      go_wp2
      go_ret
      exact ⟨by rw [HE.out]; rfl, _, rfl⟩
theorem refCheck_any (W : World) (v : Value) (l : List (Int × Int)) (h : RRow W v l) :
    Calls Try.prog 42 #[v] W fun e w' => e = .returned (.int .i64 (Rg.checkF none l)) ∧ ∃ d, w' = W.drewN d := by
  obtain ⟨a, cap, rfl, hl, hw, hc⟩ := h
  exact refCheck_walk W a _ cap l rfl hl hc
end Go.Proofs.Ythhdlcckboiecaa
