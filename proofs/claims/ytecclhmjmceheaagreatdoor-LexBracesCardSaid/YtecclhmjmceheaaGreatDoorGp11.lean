/- The plain mathematics of trees: depth, all nodes, weight, nullable, the same; a node's cells. · The reference's tree (burinref06): letter, Name. · Mathematics of lex: the token at the front of a text, and all tokens of a text. -/
import Derived.Test.YtecclhmjmceheaaGreatDoorGp10
import Derived.IntWalk
import Derived.Test.YtecclhmjmceheaaGreatDoorGp8
import Derived.Test.YtecclhmjmceheaaGreatDoorGp9
namespace Go.Proofs.YtecclhmjmceheaaGreatDoor
open Go.RowKit
set_option linter.unusedVariables false
namespace Td
def subs : Nd → List Nd | .mk _ _ _ _ _ _ _ s => s
def kind : Nd → Int | .mk k _ _ _ _ _ _ _ => k
def num : Nd → Int | .mk _ _ n _ _ _ _ _ => n
def name : Nd → ByteArray | .mk _ _ _ n _ _ _ _ => n
def set : Nd → List (Int × Int) | .mk _ s _ _ _ _ _ _ => s
def mn : Nd → Int | .mk _ _ _ _ m _ _ _ => m
def mx : Nd → Int | .mk _ _ _ _ _ m _ _ => m
def lazy : Nd → Bool | .mk _ _ _ _ _ _ l _ => l
/-- The depth, at most so much. -/
def dep : Nat → Nd → Nat
  | 0, _ => 0
  | k + 1, n => ((subs n).map (dep k)).foldl max 0 + 1
theorem foldl_max_succ (l : List Nat) (k : Nat) (hk : k < l.length) : (l.take (k + 1)).foldl max 0 = max ((l.take k).foldl max 0) l[k] := by
  rw [List.take_succ_eq_append_getElem hk, List.foldl_append]; rfl
theorem foldl_max_le : ∀ (l : List Nat) (a b : Nat), (∀ x ∈ l, x ≤ b) → a ≤ b → l.foldl max a ≤ b
  | [], a, b, _, h => h
  | x :: l, a, b, hl, h => by
    have := hl x (by simp)
    exact foldl_max_le l (max a x) b (fun y hy => hl y (List.mem_cons_of_mem _ hy)) (by omega)
theorem dep_le : ∀ (k : Nat) (n : Nd), dep k n ≤ k
  | 0, _ => Nat.le_refl _
  | k + 1, n => by
    have := foldl_max_le ((subs n).map (dep k)) 0 k (fun x hx => by
      obtain ⟨m, _, rfl⟩ := List.mem_map.1 hx
      exact dep_le k m) (by omega)
    rw [dep]; omega
/-- All nodes that are not too deep, with their depths. -/
def all : Nat → Nat → Nd → List (Nat × Nd)
  | 0, _, _ => []
  | k + 1, d, n => (d, n) :: (subs n).flatMap (all k (d + 1))
end Td
/-- A node's cells, laid open. -/
structure NdCells (W : World) (cs : List Value) (n : Nd) (vs : Value) (a : Option Addr) (cap : Nat) (C : Nat → List Value) : Prop where
  eq : cs = [.int .i64 (Td.kind n), vs, .int .i64 (Td.num n), .string (Td.name n), .int .i64 (Td.mn n), .int .i64 (Td.mx n), .bool (Td.lazy n), .slice a (Td.subs n).length cap]
  bd : I64 (Td.kind n) ∧ I64 (Td.num n) ∧ I64 (Td.mn n) ∧ I64 (Td.mx n)
  set : RRow W vs (Td.set n)
  name : (Td.name n).size ≤ 140737488351232
  len : (Td.subs n).length ≤ 8796093022208
  sub : ∀ j, j < (Td.subs n).length → ∃ b off m u0 u1 u2 u3 u4 u5 u6 u7, a = some ⟨b, off, none⟩ ∧ b < W.heap.size ∧ (Td.subs n)[j]? = some m ∧ NdIs W m [u0, u1, u2, u3, u4, u5, u6, u7] ∧
    W.cell? ⟨b, off + j * 8, none⟩ = some u0 ∧ W.cell? ⟨b, off + j * 8 + 1, none⟩ = some u1 ∧ W.cell? ⟨b, off + j * 8 + 2, none⟩ = some u2 ∧ W.cell? ⟨b, off + j * 8 + 3, none⟩ = some u3 ∧
    W.cell? ⟨b, off + j * 8 + 4, none⟩ = some u4 ∧ W.cell? ⟨b, off + j * 8 + 5, none⟩ = some u5 ∧ W.cell? ⟨b, off + j * 8 + 6, none⟩ = some u6 ∧ W.cell? ⟨b, off + j * 8 + 7, none⟩ = some u7
theorem NdIs.cells {W : World} {n : Nd} {cs : List Value} (h : NdIs W n cs) : ∃ vs a cap C, NdCells W cs n vs a cap C := by
  cases h with
  | mk C hk hset hname hlen hrow hsub =>
    refine ⟨_, _, _, C, rfl, hk, hset, hname, hlen, fun j hj => ?_⟩
    obtain ⟨b, off, ha, hb, hl, hc⟩ := hrow j hj
    have hs := hsub j hj
    match hC : C j, hl with
    | [u0, u1, u2, u3, u4, u5, u6, u7], _ =>
      rw [hC] at hs hc
      exact ⟨b, off, _, u0, u1, u2, u3, u4, u5, u6, u7, ha, hb, List.getElem?_eq_getElem hj, hs, hc 0 (by omega), hc 1 (by omega), hc 2 (by omega), hc 3 (by omega), hc 4 (by omega), hc 5 (by omega), hc 6 (by omega), hc 7 (by omega)⟩
end Go.Proofs.YtecclhmjmceheaaGreatDoor
namespace Go.Proofs.YtecclhmjmceheaaGreatDoor
open Go.RowKit
set_option linter.unusedVariables false
namespace Td
/-- May a byte stand in a name? -/
def letC (c : Int) : Bool := decide (65 ≤ c ∧ c ≤ 90 ∨ 97 ≤ c ∧ c ≤ 122 ∨ 48 ≤ c ∧ c ≤ 57 ∨ c = 95)
def bytes (s : ByteArray) : List Int := s.data.toList.map (fun b => (b.toNat : Int))
theorem bytes_len (s : ByteArray) : (bytes s).length = s.size := by simp [bytes]
theorem bytes_at (s : ByteArray) (k : Nat) (h : k < s.size) : (bytes s)[k]? = some (s[k].toNat : Int) := by
  have h' : k < s.data.size := h
  simp only [bytes, List.getElem?_map, Array.getElem?_toList]
  rw [Array.getElem?_eq_getElem h']
  rfl
/-- Is it a name? -/
def nameB (s : ByteArray) : Bool := (bytes s).all letC && decide (1 ≤ s.size ∧ s.size ≤ 32 ∧ ((bytes s).getD 0 0 < 48 ∨ 57 < (bytes s).getD 0 0))
end Td
set_option maxRecDepth 100000 in
set_option maxHeartbeats 2000000 in
theorem letter_any (W : World) (c : Int) (h0 : 0 ≤ c) (h1 : c ≤ 255) : Calls Tryz.prog 147 #[.int .u8 c] W fun e w' => e = .returned (.bool (Td.letC c)) ∧ W = w' := by
  have done : ∀ b : Bool, (b = true ↔ (65 ≤ c ∧ c ≤ 90 ∨ 97 ≤ c ∧ c ≤ 122 ∨ 48 ≤ c ∧ c ≤ 57 ∨ c = 95)) → Td.letC c = b := fun b hb => by
    unfold Td.letC
    cases b
    · exact decide_eq_false (fun h => by have := hb.2 h; cases this)
    · exact decide_eq_true (hb.1 rfl)
  by_cases z0 : c < 48
  · have e := Lib.hid (done (c == 95) ⟨fun h => .inr (.inr (.inr (eq_of_beq h))), fun h => absurd h (by omega)⟩)
    have a0 : ¬ 65 ≤ c := by omega
    have a1 : c ≤ 90 := by omega
    have a2 : ¬ 97 ≤ c := by omega
    have a3 : c ≤ 122 := by omega
    have a4 : ¬ 48 ≤ c := by omega
    have a5 : c ≤ 57 := by omega
    have a6 : ¬ c = 95 := by omega
    clear done
    go_enter Tryz.func147, Tryz.ntmps147
    go_wp2
    go_ret
    first | (rw [e.out]; exact ⟨rfl, rfl⟩) | exact ⟨rfl, rfl⟩
  by_cases z50 : c < 58
  · have e := Lib.hid (done true ⟨fun _ => (by omega), fun _ => rfl⟩)
    have a0 : ¬ 65 ≤ c := by omega
    have a1 : c ≤ 90 := by omega
    have a2 : ¬ 97 ≤ c := by omega
    have a3 : c ≤ 122 := by omega
    have a4 : 48 ≤ c := by omega
    have a5 : c ≤ 57 := by omega
    have a6 : ¬ c = 95 := by omega
    clear done
    go_enter Tryz.func147, Tryz.ntmps147
    go_wp2
    go_ret
    first | (rw [e.out]; exact ⟨rfl, rfl⟩) | exact ⟨rfl, rfl⟩
  by_cases z60 : c < 65
  · have e := Lib.hid (done (c == 95) ⟨fun h => .inr (.inr (.inr (eq_of_beq h))), fun h => absurd h (by omega)⟩)
    have a0 : ¬ 65 ≤ c := by omega
    have a1 : c ≤ 90 := by omega
    have a2 : ¬ 97 ≤ c := by omega
    have a3 : c ≤ 122 := by omega
    have a4 : 48 ≤ c := by omega
    have a5 : ¬ c ≤ 57 := by omega
    have a6 : ¬ c = 95 := by omega
    clear done
    go_enter Tryz.func147, Tryz.ntmps147
    go_wp2
    go_ret
    first | (rw [e.out]; exact ⟨rfl, rfl⟩) | exact ⟨rfl, rfl⟩
  by_cases z70 : c < 91
  · have e := Lib.hid (done true ⟨fun _ => (by omega), fun _ => rfl⟩)
    have a0 : 65 ≤ c := by omega
    have a1 : c ≤ 90 := by omega
    have a2 : ¬ 97 ≤ c := by omega
    have a3 : c ≤ 122 := by omega
    have a4 : 48 ≤ c := by omega
    have a5 : ¬ c ≤ 57 := by omega
    have a6 : ¬ c = 95 := by omega
    clear done
    go_enter Tryz.func147, Tryz.ntmps147
    go_wp2
    go_ret
    first | (rw [e.out]; exact ⟨rfl, rfl⟩) | exact ⟨rfl, rfl⟩
  by_cases z92 : c < 95
  · have e := Lib.hid (done (c == 95) ⟨fun h => .inr (.inr (.inr (eq_of_beq h))), fun h => absurd h (by omega)⟩)
    have a0 : 65 ≤ c := by omega
    have a1 : ¬ c ≤ 90 := by omega
    have a2 : ¬ 97 ≤ c := by omega
    have a3 : c ≤ 122 := by omega
    have a4 : 48 ≤ c := by omega
    have a5 : ¬ c ≤ 57 := by omega
    have a6 : ¬ c = 95 := by omega
    clear done
    go_enter Tryz.func147, Tryz.ntmps147
    go_wp2
    go_ret
    first | (rw [e.out]; exact ⟨rfl, rfl⟩) | exact ⟨rfl, rfl⟩
  by_cases z95 : c = 95
  · have e := Lib.hid (done true ⟨fun _ => (by omega), fun _ => rfl⟩)
    have a0 : 65 ≤ c := by omega
    have a1 : ¬ c ≤ 90 := by omega
    have a2 : ¬ 97 ≤ c := by omega
    have a3 : c ≤ 122 := by omega
    have a4 : 48 ≤ c := by omega
    have a5 : ¬ c ≤ 57 := by omega
    have a6 : c = 95 := by omega
    clear done
    go_enter Tryz.func147, Tryz.ntmps147
    go_wp2
    go_ret
    first | (rw [e.out]; exact ⟨rfl, rfl⟩) | exact ⟨rfl, rfl⟩
  by_cases z96 : c < 97
  · have e := Lib.hid (done (c == 95) ⟨fun h => .inr (.inr (.inr (eq_of_beq h))), fun h => absurd h (by omega)⟩)
    have a0 : 65 ≤ c := by omega
    have a1 : ¬ c ≤ 90 := by omega
    have a2 : ¬ 97 ≤ c := by omega
    have a3 : c ≤ 122 := by omega
    have a4 : 48 ≤ c := by omega
    have a5 : ¬ c ≤ 57 := by omega
    have a6 : ¬ c = 95 := by omega
    clear done
    go_enter Tryz.func147, Tryz.ntmps147
    go_wp2
    go_ret
    first | (rw [e.out]; exact ⟨rfl, rfl⟩) | exact ⟨rfl, rfl⟩
  by_cases z100 : c < 123
  · have e := Lib.hid (done true ⟨fun _ => (by omega), fun _ => rfl⟩)
    have a0 : 65 ≤ c := by omega
    have a1 : ¬ c ≤ 90 := by omega
    have a2 : 97 ≤ c := by omega
    have a3 : c ≤ 122 := by omega
    have a4 : 48 ≤ c := by omega
    have a5 : ¬ c ≤ 57 := by omega
    have a6 : ¬ c = 95 := by omega
    clear done
    go_enter Tryz.func147, Tryz.ntmps147
    go_wp2
    go_ret
    first | (rw [e.out]; exact ⟨rfl, rfl⟩) | exact ⟨rfl, rfl⟩
  have e := Lib.hid (done (c == 95) ⟨fun h => .inr (.inr (.inr (eq_of_beq h))), fun h => absurd h (by omega)⟩)
  have a0 : 65 ≤ c := by omega
  have a1 : ¬ c ≤ 90 := by omega
  have a2 : 97 ≤ c := by omega
  have a3 : ¬ c ≤ 122 := by omega
  have a4 : 48 ≤ c := by omega
  have a5 : ¬ c ≤ 57 := by omega
  have a6 : ¬ c = 95 := by omega
  clear done
  go_enter Tryz.func147, Tryz.ntmps147
  go_wp2
  go_ret
  first | (rw [e.out]; exact ⟨rfl, rfl⟩) | exact ⟨rfl, rfl⟩
set_option maxRecDepth 100000 in
set_option maxHeartbeats 4000000 in
theorem refName_any (W : World) (s : ByteArray) (hm : s.size ≤ 140737488351232) : Calls Tryz.prog 110 #[.string s] W fun e w' => e = .returned (.bool (Td.nameB s)) ∧ W = w' := by
  go_enter Tryz.func110, Tryz.ntmps110
  go_wp2
  go_loop [3] (fun iv => ∃ k : Nat, k ≤ s.size ∧ iv = .int .i64 (k : Int) ∧ ((Td.bytes s).take k).all Td.letC = true) (fun iv => s.size - (intOf iv).toNat)
  case atStart => exact ⟨0, Nat.zero_le _, rfl, rfl⟩
  case round =>
    obtain ⟨k, hk, rfl, HA⟩ := hrel
    by_cases hlt : k < s.size
    · have hb : s[k].toNat < 256 := UInt8.toNat_lt _
      have HK := Lib.hid (Td.bytes_at s k hlt)
      have HAA := Lib.hid HA
      clear HA
      go_wp2_with fail
      refine (letter_any _ _ (by omega) (by omega)).mono ?_
      rintro e w' ⟨rfl, rfl⟩
      obtain ⟨x, hx⟩ : ∃ x, Td.letC (s[k].toNat : Int) = x := ⟨_, rfl⟩
      have HX := Lib.hid hx
      rw [hx]
      clear hx
      cases x
      · have hE : Hid (Td.nameB s = false) := Lib.hid (by
          have h1 : (Td.bytes s).all Td.letC = false := by
            rw [List.all_eq_false]
            exact ⟨_, List.mem_of_getElem? HK.out, by rw [HX.out]; decide⟩
          unfold Td.nameB; rw [h1]; rfl)
        go_wp2
        go_ret
        rw [hE.out]; exact ⟨rfl, rfl⟩
      · go_wp2
        go_round
        case rel =>
          refine ⟨k + 1, by omega, by go_num, ?_⟩
          obtain ⟨h, h2⟩ := List.getElem?_eq_some_iff.1 HK.out
          rw [List.take_succ_eq_append_getElem h, List.all_append, HAA.out, h2]
          simp [HX.out]
        case measure => simp [intOf]; omega
    · obtain rfl : k = s.size := by omega
      rw [List.take_of_length_le (by rw [Td.bytes_len]; exact Nat.le_refl _)] at HA
      have hE : Hid (Td.nameB s = decide (1 ≤ s.size ∧ s.size ≤ 32 ∧ ((Td.bytes s).getD 0 0 < 48 ∨ 57 < (Td.bytes s).getD 0 0))) := Lib.hid (by unfold Td.nameB; rw [HA]; rfl)
      clear HA
      by_cases c1 : (1 : Int) ≤ (s.size : Int)
      · have c1' : 0 < s.size := by omega
        have hz : (Td.bytes s).getD 0 0 = (s[0].toNat : Int) := by rw [List.getD, Td.bytes_at s 0 c1']; rfl
        rw [hz] at hE
        clear hz
        by_cases c2 : (s.size : Int) ≤ 32
        · by_cases c3 : (s[0].toNat : Int) < 48
          · go_wp2
            go_ret
            exact ⟨by rw [hE.out, decide_eq_true (by omega)]; rfl, rfl⟩
          · by_cases c4 : (57 : Int) < (s[0].toNat : Int)
            · go_wp2
              go_ret
              exact ⟨by rw [hE.out, decide_eq_true (by omega)]; rfl, rfl⟩
            · go_wp2
              go_ret
              exact ⟨by rw [hE.out, decide_eq_false (by omega)]; rfl, rfl⟩
        · go_wp2
          go_ret
          exact ⟨by rw [hE.out, decide_eq_false (by omega)]; rfl, rfl⟩
      · go_wp2
        go_ret
        exact ⟨by rw [hE.out, decide_eq_false (by omega)]; rfl, rfl⟩
end Go.Proofs.YtecclhmjmceheaaGreatDoor
namespace Go.Proofs.YtecclhmjmceheaaGreatDoor.Lx
set_option linter.unusedVariables false
/-- A token, without its place. -/
structure Tk where
  kind : Int := 0
  num : Int := 0
  name : ByteArray := ⟨#[]⟩
  mn : Int := 0
  mx : Int := 0
  lazy : Bool := false
  cls : Br.Cls := none
inductive TR where
  | bad (n code : Int)
  | ok (t : Tk) (n : Nat)
def runeT (r : Int) : Tk := { kind := 1, num := r }
def charX (l : List Int) : TR := if (Utf.dec l).1 < 0 then .bad 0 3 else .ok (runeT (Utf.dec l).1) (Utf.dec l).2.toNat
/-- The escapes that are no class and no number. -/
def shortX (c : Int) : Option Tk :=
  if c = 65 then some { kind := 5, num := 1 } else if c = 122 then some { kind := 5, num := 2 } else if c = 98 then some { kind := 5, num := 5 } else
  if c = 66 then some { kind := 5, num := 6 } else if c = 67 then some { kind := 4 } else none
def numX (l : List Int) : TR := if (Br.num l).2.2 = 0 then .ok (runeT (Br.num l).1) (Br.num l).2.1.toNat else .bad 0 (Br.num l).2.2
def setX (s : ByteArray) : TR :=
  if (Br.set s).2.2 = 0 then .ok { kind := 2, cls := (Br.set s).1 } (Br.set s).2.1.toNat else
  if (Br.set s).2.2 = 5 then numX (Utf.nums s) else .bad 0 (Br.set s).2.2
def escX (s : ByteArray) : TR :=
  match shortX ((Utf.nums s)[1]?.getD 0) with
  | some t => .ok t 2
  | none => setX s
def brackX (s : ByteArray) : TR :=
  match Br.brack s with
  | .bad o c => .bad o c
  | .ok _ e => .ok { kind := 13, name := s.extract 0 (e + 1) } (e + 1)
def decB (c : Int) : Bool := decide (48 ≤ c) && decide (c ≤ 57)
def dval (l : List Int) : Int := l.foldl (fun a c => a * 10 + (c - 48)) 0
/-- A number of one to four digits. -/
def cntX (l : List Int) : Option Int := if 1 ≤ l.length ∧ l.length ≤ 4 ∧ l.all decB = true then some (dval l) else none
/-- The numbers between the braces, and the whole length. -/
def bodyX (b : List Int) : Option (Int × Int) :=
  match cntX (b.take (Br.upTo 44 b)) with
  | none => none
  | some lo =>
    if Br.upTo 44 b = b.length then some (lo, lo) else
    if Br.upTo 44 b + 1 = b.length then some (lo, -1) else
    match cntX (b.drop (Br.upTo 44 b + 1)) with
    | none => none
    | some hi => some (lo, hi)
def countsX (l : List Int) : Int × Int × Nat :=
  if Br.upTo 125 (l.drop 1) = (l.drop 1).length then (0, 0, 0) else
  match bodyX ((l.drop 1).take (Br.upTo 125 (l.drop 1))) with
  | none => (0, 0, 0)
  | some (lo, hi) => (lo, hi, Br.upTo 125 (l.drop 1) + 2)
def boundsX (l : List Int) : Int × Int × Nat :=
  if l[0]?.getD 0 = 63 then (0, 1, 1) else if l[0]?.getD 0 = 43 then (1, -1, 1) else if l[0]?.getD 0 = 42 then (0, -1, 1) else countsX l
def repOf (lo hi : Int) (n : Nat) (l : List Int) : TR :=
  if 1000 < lo ∨ 1000 < hi ∨ (hi ≠ -1 ∧ hi < lo) then .bad 0 81 else
  if l[n]?.getD 0 = 63 then .ok { kind := 8, mn := lo, mx := hi, lazy := true } (n + 1) else .ok { kind := 8, mn := lo, mx := hi } n
def repX (l : List Int) : TR := repOf (boundsX l).1 (boundsX l).2.1 (boundsX l).2.2 l
/-- One flag's letter. -/
def flagB (c : Int) : Int := if c = 105 then 1 else if c = 109 then 2 else if c = 115 then 4 else if c = 85 then 8 else 0
def flagsOfX : List Int → Int → Option Int
  | [], a => some a
  | c :: l, a => if flagB c = 0 then none else flagsOfX l (bits .or .i64 a (flagB c))
def flagsX (l : List Int) : Option (Int × Int) :=
  match flagsOfX (l.take (Br.upTo 45 l)) 0, flagsOfX (l.drop (Br.upTo 45 l + 1)) 0 with
  | some a, some c => if l = [] ∨ Br.upTo 45 l + 1 = l.length then none else some (bits .andNot .i64 a c, c)
  | _, _ => none
/-- Where the first colon or closing bracket stands (all, where there is none). -/
def upToC : List Int → Nat
  | [] => 0
  | c :: l => if c = 58 ∨ c = 41 then 0 else upToC l + 1
/-- What stands ahead of a name, if one is begun. -/
def nameAt (l : List Int) : Nat :=
  if l.take 4 = [40, 63, 80, 60] then 4 else if l.take 3 = [40, 63, 60] then 3 else 0
def nameX (s : ByteArray) : Option (ByteArray × Nat) :=
  let l := Utf.nums s
  let p := nameAt l
  if p = 0 then none else
  if Br.upTo 62 (l.drop p) = (l.drop p).length then none else
  if Td.nameB (s.extract p (p + Br.upTo 62 (l.drop p))) = true then some (s.extract p (p + Br.upTo 62 (l.drop p)), p + Br.upTo 62 (l.drop p) + 1) else none
def flagX (l : List Int) : TR :=
  if upToC l = l.length then .bad 0 90 else
  if upToC l = 2 ∧ l[2]?.getD 0 = 58 then .ok { kind := 9 } 3 else
  match flagsX ((l.drop 2).take (upToC l - 2)) with
  | none => .bad 0 90
  | some (a, c) => if l[upToC l]?.getD 0 = 58 then .ok { kind := 9, mn := a, mx := c } (upToC l + 1) else .ok { kind := 10, mn := a, mx := c } (upToC l + 1)
def openX (s : ByteArray) : TR :=
  if ¬ (Utf.nums s)[1]?.getD 0 = 63 then .ok { kind := 9, num := 1 } 1 else
  match nameX s with
  | some (nm, n) => .ok { kind := 9, num := 1, name := nm } n
  | none => flagX (Utf.nums s)
/-- The token at the front of a text, outside of quotations. -/
def tokX (s : ByteArray) : TR :=
  let c := (Utf.nums s)[0]?.getD 0
  if c = 46 then .ok { kind := 3 } 1 else if c = 94 then .ok { kind := 6 } 1 else if c = 36 then .ok { kind := 7 } 1 else
  if c = 41 then .ok { kind := 11 } 1 else if c = 124 then .ok { kind := 12 } 1 else
  if c = 92 then escX s else if c = 91 then brackX s else if c = 40 then openX s else
  if c = 123 then (if (countsX (Utf.nums s)).2.2 = 0 then charX (Utf.nums s) else repX (Utf.nums s)) else
  if c = 42 ∨ c = 43 ∨ c = 63 then repX (Utf.nums s) else charX (Utf.nums s)
inductive LR where
  | bad (at_ code : Int)
  | ok (l : List (Int × Tk))
/-- Does a quotation begin, or end, here? -/
def turnB (q : Bool) (l : List Int) : Bool := decide (l[0]?.getD 0 = 92) && decide (l[1]?.getD 0 = if q then 69 else 81)
/-- All tokens of a text from a place on. -/
def lexF (s : ByteArray) : Nat → Nat → Bool → List (Int × Tk) → LR
  | 0, _, _, _ => .bad 0 0
  | f + 1, at_, q, T =>
    if s.size ≤ at_ then .ok T else
    if turnB q ((Utf.nums s).drop at_) = true then lexF s f (at_ + 2) (!q) T else
    match (if q then charX ((Utf.nums s).drop at_) else tokX (s.extract at_ s.size)) with
    | .bad n c => .bad (at_ + n) c
    | .ok t n => lexF s f (at_ + n) q (T ++ [((at_ : Int), t)])
end Go.Proofs.YtecclhmjmceheaaGreatDoor.Lx
