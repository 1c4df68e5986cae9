/- The reference's tree (burinref06): letter, Name. · Mathematics of lex: the token at the front of a text, and all tokens of a text. · A number in decimal digits. · Mathematics of show: a tree as a pattern. · The eight cells of a node, each by its form. · A node over a row of nodes that lies in one block. -/
import Derived.Test.YtecmeeobabadeaaDoorGp2
import Derived.IntWalk
import Derived.Test.YtecmeeobabadeaaDoorGp3
namespace Go.Proofs.YtecmeeobabadeaaDoor
open Go.RowKit
set_option linter.unusedVariables false
namespace Td
/-- May a byte stand in a name? -/
def letC (c : Int) : Bool := decide (65 ≤ c ∧ c ≤ 90 ∨ 97 ≤ c ∧ c ≤ 122 ∨ 48 ≤ c ∧ c ≤ 57 ∨ c = 95)
def bytes (s : ByteArray) : List Int := s.data.toList.map (fun b => (b.toNat : Int))
theorem bytes_len (s : ByteArray) : (bytes s).length = s.size := by simp [bytes]
theorem bytes_at (s : ByteArray) (k : Nat) (h : k < s.size) : (bytes s)[k]? = some (s[k].toNat : Int) := by
  have h' : k < s.data.size := h
  simp only [bytes, List.getElem?_map, Array.getElem?_toList]
  rw [Array.getElem?_eq_getElem h']
  rfl
/-- Is it a name? -/
def nameB (s : ByteArray) : Bool := (bytes s).all letC && decide (1 ≤ s.size ∧ s.size ≤ 32 ∧ ((bytes s).getD 0 0 < 48 ∨ 57 < (bytes s).getD 0 0))
end Td
set_option maxRecDepth 100000 in
set_option maxHeartbeats 2000000 in
theorem letter_any (W : World) (c : Int) (h0 : 0 ≤ c) (h1 : c ≤ 255) : Calls Tryd.prog 53 #[.int .u8 c] W fun e w' => e = .returned (.bool (Td.letC c)) ∧ W = w' := by
  have done : ∀ b : Bool, (b = true ↔ (65 ≤ c ∧ c ≤ 90 ∨ 97 ≤ c ∧ c ≤ 122 ∨ 48 ≤ c ∧ c ≤ 57 ∨ c = 95)) → Td.letC c = b := fun b hb => by
    unfold Td.letC
    cases b
    · exact decide_eq_false (fun h => by have := hb.2 h; cases this)
    · exact decide_eq_true (hb.1 rfl)
  by_cases z0 : c < 48
  · have e := Lib.hid (done (c == 95) ⟨fun h => .inr (.inr (.inr (eq_of_beq h))), fun h => absurd h (by omega)⟩)
    have a0 : ¬ 65 ≤ c := by omega
    have a1 : c ≤ 90 := by omega
    have a2 : ¬ 97 ≤ c := by omega
    have a3 : c ≤ 122 := by omega
    have a4 : ¬ 48 ≤ c := by omega
    have a5 : c ≤ 57 := by omega
    have a6 : ¬ c = 95 := by omega
    clear done
    go_enter Tryd.func53, Tryd.ntmps53
    go_wp2
    go_ret
    first | (rw [e.out]; exact ⟨rfl, rfl⟩) | exact ⟨rfl, rfl⟩
  by_cases z50 : c < 58
  · have e := Lib.hid (done true ⟨fun _ => (by omega), fun _ => rfl⟩)
    have a0 : ¬ 65 ≤ c := by omega
    have a1 : c ≤ 90 := by omega
    have a2 : ¬ 97 ≤ c := by omega
    have a3 : c ≤ 122 := by omega
    have a4 : 48 ≤ c := by omega
    have a5 : c ≤ 57 := by omega
    have a6 : ¬ c = 95 := by omega
    clear done
    go_enter Tryd.func53, Tryd.ntmps53
    go_wp2
    go_ret
    first | (rw [e.out]; exact ⟨rfl, rfl⟩) | exact ⟨rfl, rfl⟩
  by_cases z60 : c < 65
  · have e := Lib.hid (done (c == 95) ⟨fun h => .inr (.inr (.inr (eq_of_beq h))), fun h => absurd h (by omega)⟩)
    have a0 : ¬ 65 ≤ c := by omega
    have a1 : c ≤ 90 := by omega
    have a2 : ¬ 97 ≤ c := by omega
    have a3 : c ≤ 122 := by omega
    have a4 : 48 ≤ c := by omega
    have a5 : ¬ c ≤ 57 := by omega
    have a6 : ¬ c = 95 := by omega
    clear done
    go_enter Tryd.func53, Tryd.ntmps53
    go_wp2
    go_ret
    first | (rw [e.out]; exact ⟨rfl, rfl⟩) | exact ⟨rfl, rfl⟩
  by_cases z70 : c < 91
  · have e := Lib.hid (done true ⟨fun _ => (by omega), fun _ => rfl⟩)
    have a0 : 65 ≤ c := by omega
    have a1 : c ≤ 90 := by omega
    have a2 : ¬ 97 ≤ c := by omega
    have a3 : c ≤ 122 := by omega
    have a4 : 48 ≤ c := by omega
    have a5 : ¬ c ≤ 57 := by omega
    have a6 : ¬ c = 95 := by omega
    clear done
    go_enter Tryd.func53, Tryd.ntmps53
    go_wp2
    go_ret
    first | (rw [e.out]; exact ⟨rfl, rfl⟩) | exact ⟨rfl, rfl⟩
  by_cases z92 : c < 95
  · have e := Lib.hid (done (c == 95) ⟨fun h => .inr (.inr (.inr (eq_of_beq h))), fun h => absurd h (by omega)⟩)
    have a0 : 65 ≤ c := by omega
    have a1 : ¬ c ≤ 90 := by omega
    have a2 : ¬ 97 ≤ c := by omega
    have a3 : c ≤ 122 := by omega
    have a4 : 48 ≤ c := by omega
    have a5 : ¬ c ≤ 57 := by omega
    have a6 : ¬ c = 95 := by omega
    clear done
    go_enter Tryd.func53, Tryd.ntmps53
    go_wp2
    go_ret
    first | (rw [e.out]; exact ⟨rfl, rfl⟩) | exact ⟨rfl, rfl⟩
  by_cases z95 : c = 95
  · have e := Lib.hid (done true ⟨fun _ => (by omega), fun _ => rfl⟩)
    have a0 : 65 ≤ c := by omega
    have a1 : ¬ c ≤ 90 := by omega
    have a2 : ¬ 97 ≤ c := by omega
    have a3 : c ≤ 122 := by omega
    have a4 : 48 ≤ c := by omega
    have a5 : ¬ c ≤ 57 := by omega
    have a6 : c = 95 := by omega
    clear done
    go_enter Tryd.func53, Tryd.ntmps53
    go_wp2
    go_ret
    first | (rw [e.out]; exact ⟨rfl, rfl⟩) | exact ⟨rfl, rfl⟩
  by_cases z96 : c < 97
  · have e := Lib.hid (done (c == 95) ⟨fun h => .inr (.inr (.inr (eq_of_beq h))), fun h => absurd h (by omega)⟩)
    have a0 : 65 ≤ c := by omega
    have a1 : ¬ c ≤ 90 := by omega
    have a2 : ¬ 97 ≤ c := by omega
    have a3 : c ≤ 122 := by omega
    have a4 : 48 ≤ c := by omega
    have a5 : ¬ c ≤ 57 := by omega
    have a6 : ¬ c = 95 := by omega
    clear done
    go_enter Tryd.func53, Tryd.ntmps53
    go_wp2
    go_ret
    first | (rw [e.out]; exact ⟨rfl, rfl⟩) | exact ⟨rfl, rfl⟩
  by_cases z100 : c < 123
  · have e := Lib.hid (done true ⟨fun _ => (by omega), fun _ => rfl⟩)
    have a0 : 65 ≤ c := by omega
    have a1 : ¬ c ≤ 90 := by omega
    have a2 : 97 ≤ c := by omega
    have a3 : c ≤ 122 := by omega
    have a4 : 48 ≤ c := by omega
    have a5 : ¬ c ≤ 57 := by omega
    have a6 : ¬ c = 95 := by omega
    clear done
    go_enter Tryd.func53, Tryd.ntmps53
    go_wp2
    go_ret
    first | (rw [e.out]; exact ⟨rfl, rfl⟩) | exact ⟨rfl, rfl⟩
  have e := Lib.hid (done (c == 95) ⟨fun h => .inr (.inr (.inr (eq_of_beq h))), fun h => absurd h (by omega)⟩)
  have a0 : 65 ≤ c := by omega
  have a1 : ¬ c ≤ 90 := by omega
  have a2 : 97 ≤ c := by omega
  have a3 : ¬ c ≤ 122 := by omega
  have a4 : 48 ≤ c := by omega
  have a5 : ¬ c ≤ 57 := by omega
  have a6 : ¬ c = 95 := by omega
  clear done
  go_enter Tryd.func53, Tryd.ntmps53
  go_wp2
  go_ret
  first | (rw [e.out]; exact ⟨rfl, rfl⟩) | exact ⟨rfl, rfl⟩
set_option maxRecDepth 100000 in
set_option maxHeartbeats 4000000 in
theorem refName_any (W : World) (s : ByteArray) (hm : s.size ≤ 140737488351232) : Calls Tryd.prog 42 #[.string s] W fun e w' => e = .returned (.bool (Td.nameB s)) ∧ W = w' := by
  go_enter Tryd.func42, Tryd.ntmps42
  go_wp2
  go_loop [3] (fun iv => ∃ k : Nat, k ≤ s.size ∧ iv = .int .i64 (k : Int) ∧ ((Td.bytes s).take k).all Td.letC = true) (fun iv => s.size - (intOf iv).toNat)
  case atStart => exact ⟨0, Nat.zero_le _, rfl, rfl⟩
  case round =>
    obtain ⟨k, hk, rfl, HA⟩ := hrel
    by_cases hlt : k < s.size
    · have hb : s[k].toNat < 256 := UInt8.toNat_lt _
      have HK := Lib.hid (Td.bytes_at s k hlt)
      have HAA := Lib.hid HA
      clear HA
      go_wp2_with fail
      refine (letter_any _ _ (by omega) (by omega)).mono ?_
      rintro e w' ⟨rfl, rfl⟩
      obtain ⟨x, hx⟩ : ∃ x, Td.letC (s[k].toNat : Int) = x := ⟨_, rfl⟩
      have HX := Lib.hid hx
      rw [hx]
      clear hx
      cases x
      · have hE : Hid (Td.nameB s = false) := Lib.hid (by
          have h1 : (Td.bytes s).all Td.letC = false := by
            rw [List.all_eq_false]
            exact ⟨_, List.mem_of_getElem? HK.out, by rw [HX.out]; decide⟩
          unfold Td.nameB; rw [h1]; rfl)
        go_wp2
        go_ret
        rw [hE.out]; exact ⟨rfl, rfl⟩
      · go_wp2
        go_round
        case rel =>
          refine ⟨k + 1, by omega, by go_num, ?_⟩
          obtain ⟨h, h2⟩ := List.getElem?_eq_some_iff.1 HK.out
          rw [List.take_succ_eq_append_getElem h, List.all_append, HAA.out, h2]
          simp [HX.out]
        case measure => simp [intOf]; omega
    · obtain rfl : k = s.size := by omega
      rw [List.take_of_length_le (by rw [Td.bytes_len]; exact Nat.le_refl _)] at HA
      have hE : Hid (Td.nameB s = decide (1 ≤ s.size ∧ s.size ≤ 32 ∧ ((Td.bytes s).getD 0 0 < 48 ∨ 57 < (Td.bytes s).getD 0 0))) := Lib.hid (by unfold Td.nameB; rw [HA]; rfl)
      clear HA
      by_cases c1 : (1 : Int) ≤ (s.size : Int)
      · have c1' : 0 < s.size := by omega
        have hz : (Td.bytes s).getD 0 0 = (s[0].toNat : Int) := by rw [List.getD, Td.bytes_at s 0 c1']; rfl
        rw [hz] at hE
        clear hz
        by_cases c2 : (s.size : Int) ≤ 32
        · by_cases c3 : (s[0].toNat : Int) < 48
          · go_wp2
            go_ret
            exact ⟨by rw [hE.out, decide_eq_true (by omega)]; rfl, rfl⟩
          · by_cases c4 : (57 : Int) < (s[0].toNat : Int)
            · go_wp2
              go_ret
              exact ⟨by rw [hE.out, decide_eq_true (by omega)]; rfl, rfl⟩
            · go_wp2
              go_ret
              exact ⟨by rw [hE.out, decide_eq_false (by omega)]; rfl, rfl⟩
        · go_wp2
          go_ret
          exact ⟨by rw [hE.out, decide_eq_false (by omega)]; rfl, rfl⟩
      · go_wp2
        go_ret
        exact ⟨by rw [hE.out, decide_eq_false (by omega)]; rfl, rfl⟩
end Go.Proofs.YtecmeeobabadeaaDoor
namespace Go.Proofs.YtecmeeobabadeaaDoor.Lx
set_option linter.unusedVariables false
/-- A token, without its place. -/
structure Tk where
  kind : Int := 0
  num : Int := 0
  name : ByteArray := ⟨#[]⟩
  mn : Int := 0
  mx : Int := 0
  lazy : Bool := false
  cls : Br.Cls := none
inductive TR where
  | bad (n code : Int)
  | ok (t : Tk) (n : Nat)
def decB (c : Int) : Bool := decide (48 ≤ c) && decide (c ≤ 57)
/-- What stands ahead of a name, if one is begun. -/
def nameAt (l : List Int) : Nat :=
  if l.take 4 = [40, 63, 80, 60] then 4 else if l.take 3 = [40, 63, 60] then 3 else 0
def nameX (s : ByteArray) : Option (ByteArray × Nat) :=
  let l := Utf.nums s
  let p := nameAt l
  if p = 0 then none else
  if Br.upTo 62 (l.drop p) = (l.drop p).length then none else
  if Td.nameB (s.extract p (p + Br.upTo 62 (l.drop p))) = true then some (s.extract p (p + Br.upTo 62 (l.drop p)), p + Br.upTo 62 (l.drop p) + 1) else none
inductive LR where
  | bad (at_ code : Int)
  | ok (l : List (Int × Tk))
end Go.Proofs.YtecmeeobabadeaaDoor.Lx
namespace Go.Proofs.YtecmeeobabadeaaDoor
set_option linter.unusedVariables false
namespace Lx
def decF : Nat → Nat → List Int
  | 0, _ => []
  | f + 1, n => if n < 10 then [48 + (n : Int)] else decF f (n / 10) ++ [48 + ((n % 10 : Nat) : Int)]
theorem decF_fuel : ∀ (f g n : Nat), n < 10 ^ f → n < 10 ^ g → 0 < f → 0 < g → decF f n = decF g n
  | 0, _, _, _, _, h, _ => by omega
  | _ + 1, 0, _, _, _, _, h => by omega
  | f + 1, g + 1, n, h1, h2, _, _ => by
    unfold decF
    by_cases h : n < 10
    · rw [if_pos h, if_pos h]
    · rw [if_neg h, if_neg h]
      have e1 : n / 10 < 10 ^ f := by rw [Nat.pow_succ] at h1; omega
      have e2 : n / 10 < 10 ^ g := by rw [Nat.pow_succ] at h2; omega
      have f0 : 0 < f := by
        rcases Nat.eq_zero_or_pos f with e | e
        · subst e; simp at h1; omega
        · exact e
      have g0 : 0 < g := by
        rcases Nat.eq_zero_or_pos g with e | e
        · subst e; simp at h2; omega
        · exact e
      rw [decF_fuel f g (n / 10) e1 e2 f0 g0]
/-- A number below a million in its decimal digits. -/
def decL (n : Nat) : List Int := decF 6 n
/-- The digits ahead of the last one. -/
def decP (n : Nat) : List Int := if n = 0 then [] else decL n
theorem decL_step (n : Nat) (h : n < 1000000) : decL n = decP (n / 10) ++ [48 + ((n % 10 : Nat) : Int)] := by
  unfold decP decL
  by_cases h1 : n < 10
  · rw [if_pos (by omega)]
    show (if n < 10 then [48 + (n : Int)] else decF 5 (n / 10) ++ [48 + ((n % 10 : Nat) : Int)]) = _
    rw [if_pos h1, show n % 10 = n by omega]; rfl
  · rw [if_neg (by omega)]
    show (if n < 10 then [48 + (n : Int)] else decF 5 (n / 10) ++ [48 + ((n % 10 : Nat) : Int)]) = _
    rw [if_neg h1, decF_fuel 5 6 (n / 10) (by omega) (by omega) (by omega) (by omega)]
theorem decF_dec : ∀ (f n : Nat), (decF f n).all decB = true
  | 0, _ => rfl
  | f + 1, n => by
    unfold decF
    split
    · simp [decB]; omega
    · rw [List.all_append, decF_dec f (n / 10)]
      simp [decB]; omega
theorem decL_dec (n : Nat) : (decL n).all decB = true := decF_dec 6 n
theorem decF_len : ∀ (f n : Nat), 0 < f → n < 10 ^ f → 1 ≤ (decF f n).length ∧ (decF f n).length ≤ f ∧ (∀ g, 0 < g → n < 10 ^ g → (decF f n).length ≤ g) ∧ (∀ g, 10 ^ g ≤ n → g < (decF f n).length)
  | 0, _, h, _ => by omega
  | f + 1, n, _, h => by
    unfold decF
    by_cases h1 : n < 10
    · rw [if_pos h1]
      refine ⟨by simp, by simp, fun g hg _ => by simp; omega, fun g hg => ?_⟩
      rcases Nat.eq_zero_or_pos g with e | e
      · subst e; simp
      · have : 10 ^ 1 ≤ 10 ^ g := Nat.pow_le_pow_right (by omega) e
        omega
    · rw [if_neg h1]
      have e1 : n / 10 < 10 ^ f := by rw [Nat.pow_succ] at h; omega
      have f0 : 0 < f := by
        rcases Nat.eq_zero_or_pos f with e | e
        · subst e; simp at h; omega
        · exact e
      obtain ⟨a, b, c, d⟩ := decF_len f (n / 10) f0 e1
      rw [List.length_append]
      simp only [List.length_cons, List.length_nil]
      refine ⟨by omega, by omega, fun g hg hn => ?_, fun g hg => ?_⟩
      · cases g with
        | zero => omega
        | succ g =>
          rcases Nat.eq_zero_or_pos g with e | e
          · subst e; simp at hn; omega
          · have := c g e (by rw [Nat.pow_succ] at hn; omega)
            omega
      · cases g with
        | zero => omega
        | succ g =>
          have := d g (by rw [Nat.pow_succ] at hg; omega)
          omega
end Lx
end Go.Proofs.YtecmeeobabadeaaDoor
namespace Go.Proofs.YtecmeeobabadeaaDoor.Sh
open Go.Proofs.YtecmeeobabadeaaDoor.Br (esc hexL)
open Go.Proofs.YtecmeeobabadeaaDoor.Lx (decL)
set_option linter.unusedVariables false
/-- A number outside of brackets. -/
def charL (r : Int) : List Int := if (48 ≤ r ∧ r ≤ 57) ∨ (65 ≤ r ∧ r ≤ 90) ∨ (97 ≤ r ∧ r ≤ 122) then [r] else esc r.toNat
def aboutL (n : Int) : List Int := if n = 1 then [92, 65] else if n = 2 then [92, 122] else if n = 3 then [40, 63, 109, 58, 94, 41] else if n = 4 then [40, 63, 109, 58, 36, 41] else if n = 5 then [92, 98] else [92, 66]
def openL (nm : ByteArray) : List Int := if nm = ⟨#[]⟩ then [40] else [40, 63, 80, 60] ++ Utf.nums nm ++ [62]
def countL (lo hi : Int) : List Int :=
  if lo = 0 ∧ hi = -1 then [42] else if lo = 1 ∧ hi = -1 then [43] else if lo = 0 ∧ hi = 1 then [63] else if hi = lo then 123 :: (decL lo.toNat ++ [125]) else
  if hi = -1 then 123 :: (decL lo.toNat ++ [44, 125]) else 123 :: (decL lo.toNat ++ 44 :: (decL hi.toNat ++ [125]))
def timesL (lo hi : Int) (lz : Bool) : List Int := countL lo hi ++ (if lz then [63] else [])
/-- A range between brackets. -/
def rgL (p : Int × Int) : List Int := esc p.1.toNat ++ (if p.1 < p.2 then 45 :: esc p.2.toNat else [])
def setL (l : List (Int × Int)) : List Int :=
  if l.length = 1 ∧ (l[0]?.getD (0, 0)).1 = (l[0]?.getD (0, 0)).2 then charL (l[0]?.getD (0, 0)).1 else 91 :: (l.flatMap rgL ++ [93])
def noneL : List Int := 91 :: 94 :: (esc 0 ++ 45 :: (esc 1114111 ++ [93]))
/-- Is a part wrapped? -/
def wrapB (K j : Int) : Bool := decide (j = 8) || (decide (j = 7) && !decide (K = 8)) || (decide (j = 9) && decide (K = 9))
def wrapL (b : Bool) (x : List Int) : List Int := if b then [40, 63, 58] ++ x ++ [41] else x
/-- Alternatives, one behind another. -/
def altL : List (List Int) → List Int
  | [] => []
  | [x] => x
  | x :: y :: l => x ++ 124 :: altL (y :: l)
theorem altL_snoc (a : List Int) : ∀ (l : List (List Int)), l ≠ [] → altL (l ++ [a]) = altL l ++ 124 :: a
  | [], h => absurd rfl h
  | [x], _ => rfl
  | x :: y :: l, _ => by
    show x ++ 124 :: altL (y :: l ++ [a]) = (x ++ 124 :: altL (y :: l)) ++ 124 :: a
    rw [altL_snoc a (y :: l) (by simp)]
    simp
/-- A tree as a pattern, down to a depth. -/
def shL : Nat → Nd → List Int
  | 0, _ => []
  | k + 1, n =>
    if Td.kind n = 1 then [40, 63, 58, 41] else
    if Td.kind n = 2 then noneL else
    if Td.kind n = 3 then setL (Td.set n) else
    if Td.kind n = 4 then [92, 67] else
    if Td.kind n = 5 then aboutL (Td.num n) else
    if Td.kind n = 6 then openL (Td.name n) ++ (Td.subs n).flatMap (shL k) ++ [41] else
    if Td.kind n = 7 then (Td.subs n).flatMap (fun m => wrapL (wrapB 7 (Td.kind m)) (shL k m)) else
    if Td.kind n = 8 then altL ((Td.subs n).map fun m => wrapL (wrapB 8 (Td.kind m)) (shL k m)) else
    (Td.subs n).flatMap (fun m => wrapL (wrapB 9 (Td.kind m)) (shL k m)) ++ timesL (Td.mn n) (Td.mx n) (Td.lazy n)
def partL (k : Nat) (K : Int) (m : Nd) : List Int := wrapL (wrapB K (Td.kind m)) (shL k m)
end Go.Proofs.YtecmeeobabadeaaDoor.Sh
namespace Go.Proofs.YtecmeeobabadeaaDoor
open Go.RowKit
set_option linter.unusedVariables false
/-- A node's eight cells, each by its form. -/
structure NdForm (n : Nd) (u0 u1 u2 u3 u4 u5 u6 u7 : Value) (sa : Option Addr) (sc : Nat) (a : Option Addr) (c : Nat) : Prop where
  e0 : u0 = .int .i64 (Td.kind n)
  e1 : u1 = .slice sa (Td.set n).length sc
  e2 : u2 = .int .i64 (Td.num n)
  e3 : u3 = .string (Td.name n)
  e4 : u4 = .int .i64 (Td.mn n)
  e5 : u5 = .int .i64 (Td.mx n)
  e6 : u6 = .bool (Td.lazy n)
  e7 : u7 = .slice a (Td.subs n).length c
theorem NdIs.form {W : World} {n : Nd} {u0 u1 u2 u3 u4 u5 u6 u7 : Value} (h : NdIs W n [u0, u1, u2, u3, u4, u5, u6, u7]) : ∃ sa sc a c, NdForm n u0 u1 u2 u3 u4 u5 u6 u7 sa sc a c := by
  obtain ⟨vs, a, cap, C, hC⟩ := h.cells
  obtain ⟨sa, sc, hvs, _⟩ := hC.set
  have e := hC.eq
  simp only [List.cons.injEq, and_true] at e
  obtain ⟨e0, e1, e2, e3, e4, e5, e6, e7⟩ := e
  exact ⟨sa, sc, a, cap, e0, e1.trans hvs, e2, e3, e4, e5, e6, e7⟩
theorem NdIs.form_of {W : World} {n : Nd} {cs : List Value} (h : NdIs W n cs) : ∃ u0 u1 u2 u3 u4 u5 u6 u7 sa sc a c, cs = [u0, u1, u2, u3, u4, u5, u6, u7] ∧ NdForm n u0 u1 u2 u3 u4 u5 u6 u7 sa sc a c := by
  match cs, h.len with
  | [u0, u1, u2, u3, u4, u5, u6, u7], _ =>
    obtain ⟨sa, sc, a, c, hf⟩ := h.form
    exact ⟨u0, u1, u2, u3, u4, u5, u6, u7, sa, sc, a, c, rfl, hf⟩
end Go.Proofs.YtecmeeobabadeaaDoor
namespace Go.Proofs.YtecmeeobabadeaaDoor
open Go.RowKit
set_option linter.unusedVariables false
theorem flat8_at : ∀ (X : List (List Value)), (∀ x ∈ X, x.length = 8) → ∀ (j q : Nat) (x : List Value), X[j]? = some x → q < 8 → X.flatten[j * 8 + q]? = x[q]?
  | [], _, j, q, x, hx, _ => by simp at hx
  | y :: X, h, 0, q, x, hx, hq => by
    simp at hx
    subst hx
    rw [List.flatten_cons, Nat.zero_mul, Nat.zero_add, List.getElem?_append_left (by rw [h y (by simp)]; exact hq)]
  | y :: X, h, j + 1, q, x, hx, hq => by
    have hy := h y (by simp)
    rw [List.flatten_cons, List.getElem?_append_right (by rw [hy]; omega), hy]
    have e : (j + 1) * 8 + q - 8 = j * 8 + q := by omega
    rw [e]
    exact flat8_at X (fun z hz => h z (List.mem_cons_of_mem _ hz)) j q x (by simpa using hx) hq
/-- The cells of nodes, one behind another. -/
def NdsIs (W : World) (L : List Nd) (X : List (List Value)) : Prop := X.length = L.length ∧ ∀ j (h : j < L.length), ∃ x, X[j]? = some x ∧ NdIs W L[j] x
theorem NdsIs.len8 {W : World} {L : List Nd} {X : List (List Value)} (h : NdsIs W L X) : ∀ x ∈ X, x.length = 8 := fun x hx => by
  obtain ⟨j, hj, rfl⟩ := List.getElem_of_mem hx
  obtain ⟨y, hy, hn⟩ := h.2 j (by rw [← h.1]; exact hj)
  rw [List.getElem?_eq_getElem hj] at hy
  rw [Option.some.inj hy]; exact hn.len
theorem NdsIs.kept {W W' : World} {L : List Nd} {X : List (List Value)} (h : NdsIs W L X) (hb : Below W.heap.size W W') : NdsIs W' L X := ⟨h.1, fun j hj => by
  obtain ⟨x, hx, hn⟩ := h.2 j hj
  exact ⟨x, hx, hn.kept hb⟩⟩
theorem NdsIs.nil (W : World) : NdsIs W [] [] := ⟨rfl, fun j h => absurd h (by simp)⟩
theorem NdsIs.snoc {W : World} {L : List Nd} {X : List (List Value)} (h : NdsIs W L X) {n : Nd} {cs : List Value} (hn : NdIs W n cs) : NdsIs W (L ++ [n]) (X ++ [cs]) := by
  refine ⟨by simp [h.1], fun j hj => ?_⟩
  by_cases hlt : j < L.length
  · obtain ⟨x, hx, hx2⟩ := h.2 j hlt
    refine ⟨x, ?_, by rw [List.getElem_append_left hlt]; exact hx2⟩
    rw [List.getElem?_append_left (by rw [h.1]; exact hlt)]; exact hx
  · have e : j = L.length := by rw [List.length_append] at hj; simp at hj; omega
    subst e
    refine ⟨cs, ?_, ?_⟩
    · rw [List.getElem?_append_right (by rw [h.1]; exact Nat.le_refl _), h.1]; simp
    · rw [List.getElem_append_right (Nat.le_refl _)]; simpa using hn
/-- A node whose parts are a row that begins a block. -/
theorem NdIs.row {W : World} {L : List Nd} {X : List (List Value)} (h : NdsIs W L X) {g : Nat} {cur : Array Value} {t : TypeId} {fr : Nat × Nat} (hg : W.heap[g]? = some (.cells cur t fr)) (hcur : ∀ j, j < X.flatten.length → cur[j]? = X.flatten[j]?)
    (hlen : L.length ≤ 8796093022208) {k num mn mx : Int} {set : List (Int × Int)} {name : ByteArray} {lz : Bool} {vs : Value} {cap : Nat} (hk : I64 k ∧ I64 num ∧ I64 mn ∧ I64 mx) (hset : RRow W vs set) (hname : name.size ≤ 140737488351232) :
    NdIs W (.mk k set num name mn mx lz L) [.int .i64 k, vs, .int .i64 num, .string name, .int .i64 mn, .int .i64 mx, .bool lz, .slice (some ⟨g, 0, none⟩) L.length cap] := by
  refine .mk (fun j => X.getD j []) hk hset hname hlen (fun j hj => ?_) (fun j hj => ?_)
  · obtain ⟨x, hx, hn⟩ := h.2 j hj
    have ex : X.getD j [] = x := by rw [List.getD, hx]; rfl
    refine ⟨g, 0, rfl, (Array.getElem?_eq_some_iff.1 hg).1, by rw [ex]; exact hn.len, fun i hi => ?_⟩
    have hfl := flat8_at X h.len8 j i x hx hi
    have hxi : i < x.length := by rw [hn.len]; exact hi
    have hlt : j * 8 + i < X.flatten.length := by
      rw [List.getElem?_eq_getElem hxi] at hfl
      exact (List.getElem?_eq_some_iff.1 hfl).1
    rw [ex, ← hfl, ← hcur _ hlt, Nat.zero_add]
    simp [World.cell?, hg]
  · obtain ⟨x, hx, hn⟩ := h.2 j hj
    have ex : X.getD j [] = x := by rw [List.getD, hx]; rfl
    rw [ex]; exact hn
end Go.Proofs.YtecmeeobabadeaaDoor
