/- The reference's tree (burinref06): Depth. · The reference's tree (burinref06): letter, Name. -/
import Derived.Test.YthhijakclinjaaaGp4
import Derived.IntWalk
namespace Go.Proofs.Ythhijakclinjaaa
open Go.RowKit
set_option linter.unusedVariables false
def DepOk (k : Nat) : Prop := ∀ (W : World) (n : Nd) (cs : List Value), NdIs W n cs → Calls Try.prog 22 #[.agg cs.toArray, .int .i64 (k : Int)] W fun e w' => e = .returned (.int .i64 (Td.dep k n : Nat)) ∧ Below W.heap.size W w'
set_option maxRecDepth 100000 in
set_option maxHeartbeats 4000000 in
theorem dep_step (k M : Nat) (hM : M = k + 1) (hk : k ≤ 100000) (ih : DepOk k) : DepOk M := by
  intro W n cs h
  have hM1 : (M : Int) - 1 = (k : Int) := by omega
  have HM0 := Lib.hid hM
  have HN := Lib.hid h
  obtain ⟨vs, a, cap, C, hC⟩ := h.cells
  obtain ⟨N, hN⟩ : ∃ N, (Td.subs n).length = N := ⟨_, rfl⟩
  have hcs := hC.eq
  have hlen := hC.len
  rw [hN] at hcs hlen
  subst hcs
  have HC := Lib.hid hC
  have HNN := Lib.hid hN
  obtain ⟨D, hD⟩ : ∃ D : Nat, Td.dep M n = D := ⟨_, rfl⟩
  have HD := Lib.hid hD
  rw [hD]
  have IH := Lib.hid ih
  clear h hC hN hD ih hM
  have D1 := Lib.hid (Td.dep_le M n)
  obtain ⟨W1, hW1⟩ : ∃ W1, W.alloc (.cells #[.int .i64 (Td.kind n), vs, .int .i64 (Td.num n), .string (Td.name n), .int .i64 (Td.mn n), .int .i64 (Td.mx n), .bool (Td.lazy n), .slice a N cap] 25) = W1 := ⟨_, rfl⟩
  have B1 := Lib.hid (hW1 ▸ (Below.refl W.heap.size W).alloc (Nat.le_refl _) (.cells #[.int .i64 (Td.kind n), vs, .int .i64 (Td.num n), .string (Td.name n), .int .i64 (Td.mn n), .int .i64 (Td.mx n), .bool (Td.lazy n), .slice a N cap] 25) : Below W.heap.size W W1)
  have hbx : W1.cell? ⟨W.heap.size, 7, none⟩ = some (.slice a N cap) := by rw [← hW1]; simp
  have hsz1 : W1.heap.size = W.heap.size + 1 := by rw [← hW1]; simp
  have HBX := Lib.hid hbx
  have HSZ := Lib.hid hsz1
  have HW1 := Lib.hid hW1
  clear hbx hsz1 hW1
  go_enter Try.func22, Try.ntmps22
  go_wp2
  · have h1 : D = 1 := by
      have := D1.out
      rw [HD.out] at this
      have h2 := HD.out
      rw [HM0.out, Td.dep] at h2
      omega
    have hk0 : M = 1 := by omega
    rw [HW1.out]
    go_ret
    exact ⟨by rw [h1, hk0]; rfl, B1.out⟩
  · go_loopw [5, 6] (fun dv iv wr => ∃ i d : Nat, i ≤ N ∧ dv = .int .i64 (d : Int) ∧ iv = .int .i64 (i : Int) ∧ d ≤ k ∧ Hid (d = (((Td.subs n).map (Td.dep k)).take i).foldl max 0) ∧ Hid (Below W1.heap.size W1 wr)) (fun _ iv _ => N - (intOf iv).toNat)
    case atStart => exact ⟨0, 0, Nat.zero_le _, rfl, rfl, Nat.zero_le _, Lib.hid (by simp), Lib.hid (by rw [← HW1.out]; exact Below.refl _ _)⟩
    case round =>
      obtain ⟨i, d, hi, rfl, rfl, hd, HD2, HB⟩ := hrel
      have hbx : wr.cell? ⟨W.heap.size, 7, none⟩ = some (.slice a N cap) := (HB.out.cell (p := ⟨W.heap.size, 7, none⟩) (by rw [HSZ.out]; simp)).trans HBX.out
      have hbs : W.heap.size < wr.heap.size := by have := HB.out.size; rw [HSZ.out] at this; omega
      by_cases hlt : i < N
      · obtain ⟨b, off, m, u0, u1, u2, u3, u4, u5, u6, u7, rfl, hb, hm, hnd, q0, q1, q2, q3, q4, q5, q6, q7⟩ := HC.out.sub i (by rw [HNN.out]; exact hlt)
        have hbw : Below W.heap.size W wr := B1.out.trans (HB.out.mono B1.out.size)
        have kc : ∀ o v, W.cell? ⟨b, o, none⟩ = some v → wr.cell? ⟨b, o, none⟩ = some v := fun o v h => (hbw.cell (p := ⟨b, o, none⟩) hb).trans h
        replace q0 := kc _ _ q0; replace q1 := kc _ _ q1; replace q2 := kc _ _ q2; replace q3 := kc _ _ q3
        replace q4 := kc _ _ q4; replace q5 := kc _ _ q5; replace q6 := kc _ _ q6; replace q7 := kc _ _ q7
        have hbl : b < wr.heap.size := Nat.lt_of_lt_of_le hb hbw.size
        have HND := Lib.hid (hnd.kept hbw)
        have HM := Lib.hid hm
        have HBW := Lib.hid hbw
        clear kc hm hnd hbw
        go_wp2_with fail
        refine (IH.out _ _ _ HND.out).mono ?_
        rintro e w5 ⟨rfl, hb5⟩
        obtain ⟨x, hx⟩ : ∃ x : Nat, Td.dep k m = x := ⟨_, rfl⟩
        have hxk : x ≤ k := by rw [← hx]; exact Td.dep_le k m
        have HB5 := Lib.hid (HB.out.trans (hb5.mono HB.out.size))
        have hMX : Hid (max d x = (((Td.subs n).map (Td.dep k)).take (i + 1)).foldl max 0) := Lib.hid (by
          have hi' : i < ((Td.subs n).map (Td.dep k)).length := by rw [List.length_map, HNN.out]; exact hlt
          rw [Td.foldl_max_succ _ _ hi', ← HD2.out]
          have e1 : ((Td.subs n).map (Td.dep k))[i] = x := by
            rw [List.getElem_map]
            have h2 := HM.out
            rw [List.getElem?_eq_getElem (by rw [HNN.out]; exact hlt)] at h2
            rw [Option.some.inj h2, hx]
          rw [e1])
        rw [hx]
        clear hb5 hx HD2
        by_cases hgt : d < x
        · rw [Nat.max_eq_right (by omega)] at hMX
          go_wp2
          go_roundw
          case rel => exact ⟨i + 1, x, by omega, rfl, by go_num, hxk, hMX, HB5⟩
          case measure => simp [intOf]; omega
        · rw [Nat.max_eq_left (by omega)] at hMX
          go_wp2
          go_roundw
          case rel => exact ⟨i + 1, d, by omega, rfl, by go_num, hd, hMX, HB5⟩
          case measure => simp [intOf]; omega
      · obtain rfl : i = N := by omega
        have hE : Hid (D = d + 1) := Lib.hid (by
          rw [← HD.out, HM0.out, HD2.out, Td.dep, List.take_of_length_le (by rw [List.length_map, HNN.out]; exact Nat.le_refl _)])
        go_wp2
        go_ret
        exact ⟨by rw [hE.out]; rfl, B1.out.trans (HB.out.mono B1.out.size)⟩
theorem refDepth_any : ∀ k : Nat, k ≤ 100000 → DepOk k
  | 0, _ => by
    intro W n cs h
    obtain ⟨vs, a, cap, C, hC⟩ := h.cells
    have hcs := hC.eq
    subst hcs
    clear hC h
    go_enter Try.func22, Try.ntmps22
    go_wp2
    go_ret
    exact ⟨rfl, (Below.refl _ _).alloc (Nat.le_refl _) _⟩
  | k + 1, h => dep_step k _ rfl (by omega) (refDepth_any k (by omega))
end Go.Proofs.Ythhijakclinjaaa
namespace Go.Proofs.Ythhijakclinjaaa
open Go.RowKit
set_option linter.unusedVariables false
namespace Td
/-- May a byte stand in a name? -/
def letC (c : Int) : Bool := decide (65 ≤ c ∧ c ≤ 90 ∨ 97 ≤ c ∧ c ≤ 122 ∨ 48 ≤ c ∧ c ≤ 57 ∨ c = 95)
def bytes (s : ByteArray) : List Int := s.data.toList.map (fun b => (b.toNat : Int))
theorem bytes_len (s : ByteArray) : (bytes s).length = s.size := by simp [bytes]
theorem bytes_at (s : ByteArray) (k : Nat) (h : k < s.size) : (bytes s)[k]? = some (s[k].toNat : Int) := by
  have h' : k < s.data.size := h
  simp only [bytes, List.getElem?_map, Array.getElem?_toList]
  rw [Array.getElem?_eq_getElem h']
  rfl
/-- Is it a name? -/
def nameB (s : ByteArray) : Bool := (bytes s).all letC && decide (1 ≤ s.size ∧ s.size ≤ 32 ∧ ((bytes s).getD 0 0 < 48 ∨ 57 < (bytes s).getD 0 0))
end Td
set_option maxRecDepth 100000 in
set_option maxHeartbeats 2000000 in
theorem letter_any (W : World) (c : Int) (h0 : 0 ≤ c) (h1 : c ≤ 255) : Calls Try.prog 37 #[.int .u8 c] W fun e w' => e = .returned (.bool (Td.letC c)) ∧ W = w' := by
  have done : ∀ b : Bool, (b = true ↔ (65 ≤ c ∧ c ≤ 90 ∨ 97 ≤ c ∧ c ≤ 122 ∨ 48 ≤ c ∧ c ≤ 57 ∨ c = 95)) → Td.letC c = b := fun b hb => by
    unfold Td.letC
    cases b
    · exact decide_eq_false (fun h => by have := hb.2 h; cases this)
    · exact decide_eq_true (hb.1 rfl)
  by_cases z0 : c < 48
  · have e := Lib.hid (done (c == 95) ⟨fun h => .inr (.inr (.inr (eq_of_beq h))), fun h => absurd h (by omega)⟩)
    have a0 : ¬ 65 ≤ c := by omega
    have a1 : c ≤ 90 := by omega
    have a2 : ¬ 97 ≤ c := by omega
    have a3 : c ≤ 122 := by omega
    have a4 : ¬ 48 ≤ c := by omega
    have a5 : c ≤ 57 := by omega
    have a6 : ¬ c = 95 := by omega
    clear done
    go_enter Try.func37, Try.ntmps37
    go_wp2
    go_ret
    first | (rw [e.out]; exact ⟨rfl, rfl⟩) | exact ⟨rfl, rfl⟩
  by_cases z50 : c < 58
  · have e := Lib.hid (done true ⟨fun _ => (by omega), fun _ => rfl⟩)
    have a0 : ¬ 65 ≤ c := by omega
    have a1 : c ≤ 90 := by omega
    have a2 : ¬ 97 ≤ c := by omega
    have a3 : c ≤ 122 := by omega
    have a4 : 48 ≤ c := by omega
    have a5 : c ≤ 57 := by omega
    have a6 : ¬ c = 95 := by omega
    clear done
    go_enter Try.func37, Try.ntmps37
    go_wp2
    go_ret
    first | (rw [e.out]; exact ⟨rfl, rfl⟩) | exact ⟨rfl, rfl⟩
  by_cases z60 : c < 65
  · have e := Lib.hid (done (c == 95) ⟨fun h => .inr (.inr (.inr (eq_of_beq h))), fun h => absurd h (by omega)⟩)
    have a0 : ¬ 65 ≤ c := by omega
    have a1 : c ≤ 90 := by omega
    have a2 : ¬ 97 ≤ c := by omega
    have a3 : c ≤ 122 := by omega
    have a4 : 48 ≤ c := by omega
    have a5 : ¬ c ≤ 57 := by omega
    have a6 : ¬ c = 95 := by omega
    clear done
    go_enter Try.func37, Try.ntmps37
    go_wp2
    go_ret
    first | (rw [e.out]; exact ⟨rfl, rfl⟩) | exact ⟨rfl, rfl⟩
  by_cases z70 : c < 91
  · have e := Lib.hid (done true ⟨fun _ => (by omega), fun _ => rfl⟩)
    have a0 : 65 ≤ c := by omega
    have a1 : c ≤ 90 := by omega
    have a2 : ¬ 97 ≤ c := by omega
    have a3 : c ≤ 122 := by omega
    have a4 : 48 ≤ c := by omega
    have a5 : ¬ c ≤ 57 := by omega
    have a6 : ¬ c = 95 := by omega
    clear done
    go_enter Try.func37, Try.ntmps37
    go_wp2
    go_ret
    first | (rw [e.out]; exact ⟨rfl, rfl⟩) | exact ⟨rfl, rfl⟩
  by_cases z92 : c < 95
  · have e := Lib.hid (done (c == 95) ⟨fun h => .inr (.inr (.inr (eq_of_beq h))), fun h => absurd h (by omega)⟩)
    have a0 : 65 ≤ c := by omega
    have a1 : ¬ c ≤ 90 := by omega
    have a2 : ¬ 97 ≤ c := by omega
    have a3 : c ≤ 122 := by omega
    have a4 : 48 ≤ c := by omega
    have a5 : ¬ c ≤ 57 := by omega
    have a6 : ¬ c = 95 := by omega
    clear done
    go_enter Try.func37, Try.ntmps37
    go_wp2
    go_ret
    first | (rw [e.out]; exact ⟨rfl, rfl⟩) | exact ⟨rfl, rfl⟩
  by_cases z95 : c = 95
  · have e := Lib.hid (done true ⟨fun _ => (by omega), fun _ => rfl⟩)
    have a0 : 65 ≤ c := by omega
    have a1 : ¬ c ≤ 90 := by omega
    have a2 : ¬ 97 ≤ c := by omega
    have a3 : c ≤ 122 := by omega
    have a4 : 48 ≤ c := by omega
    have a5 : ¬ c ≤ 57 := by omega
    have a6 : c = 95 := by omega
    clear done
    go_enter Try.func37, Try.ntmps37
    go_wp2
    go_ret
    first | (rw [e.out]; exact ⟨rfl, rfl⟩) | exact ⟨rfl, rfl⟩
  by_cases z96 : c < 97
  · have e := Lib.hid (done (c == 95) ⟨fun h => .inr (.inr (.inr (eq_of_beq h))), fun h => absurd h (by omega)⟩)
    have a0 : 65 ≤ c := by omega
    have a1 : ¬ c ≤ 90 := by omega
    have a2 : ¬ 97 ≤ c := by omega
    have a3 : c ≤ 122 := by omega
    have a4 : 48 ≤ c := by omega
    have a5 : ¬ c ≤ 57 := by omega
    have a6 : ¬ c = 95 := by omega
    clear done
    go_enter Try.func37, Try.ntmps37
    go_wp2
    go_ret
    first | (rw [e.out]; exact ⟨rfl, rfl⟩) | exact ⟨rfl, rfl⟩
  by_cases z100 : c < 123
  · have e := Lib.hid (done true ⟨fun _ => (by omega), fun _ => rfl⟩)
    have a0 : 65 ≤ c := by omega
    have a1 : ¬ c ≤ 90 := by omega
    have a2 : 97 ≤ c := by omega
    have a3 : c ≤ 122 := by omega
    have a4 : 48 ≤ c := by omega
    have a5 : ¬ c ≤ 57 := by omega
    have a6 : ¬ c = 95 := by omega
    clear done
    go_enter Try.func37, Try.ntmps37
    go_wp2
    go_ret
    first | (rw [e.out]; exact ⟨rfl, rfl⟩) | exact ⟨rfl, rfl⟩
  have e := Lib.hid (done (c == 95) ⟨fun h => .inr (.inr (.inr (eq_of_beq h))), fun h => absurd h (by omega)⟩)
  have a0 : 65 ≤ c := by omega
  have a1 : ¬ c ≤ 90 := by omega
  have a2 : 97 ≤ c := by omega
  have a3 : ¬ c ≤ 122 := by omega
  have a4 : 48 ≤ c := by omega
  have a5 : ¬ c ≤ 57 := by omega
  have a6 : ¬ c = 95 := by omega
  clear done
  go_enter Try.func37, Try.ntmps37
  go_wp2
  go_ret
  first | (rw [e.out]; exact ⟨rfl, rfl⟩) | exact ⟨rfl, rfl⟩
set_option maxRecDepth 100000 in
set_option maxHeartbeats 4000000 in
theorem refName_any (W : World) (s : ByteArray) (hm : s.size ≤ 140737488351232) : Calls Try.prog 14 #[.string s] W fun e w' => e = .returned (.bool (Td.nameB s)) ∧ W = w' := by
  go_enter Try.func14, Try.ntmps14
  go_wp2
  go_loop [3] (fun iv => ∃ k : Nat, k ≤ s.size ∧ iv = .int .i64 (k : Int) ∧ ((Td.bytes s).take k).all Td.letC = true) (fun iv => s.size - (intOf iv).toNat)
  case atStart => exact ⟨0, Nat.zero_le _, rfl, rfl⟩
  case round =>
    obtain ⟨k, hk, rfl, HA⟩ := hrel
    by_cases hlt : k < s.size
    · have hb : s[k].toNat < 256 := UInt8.toNat_lt _
      have HK := Lib.hid (Td.bytes_at s k hlt)
      have HAA := Lib.hid HA
      clear HA
      go_wp2_with fail
      refine (letter_any _ _ (by omega) (by omega)).mono ?_
      rintro e w' ⟨rfl, rfl⟩
      obtain ⟨x, hx⟩ : ∃ x, Td.letC (s[k].toNat : Int) = x := ⟨_, rfl⟩
      have HX := Lib.hid hx
      rw [hx]
      clear hx
      cases x
      · have hE : Hid (Td.nameB s = false) := Lib.hid (by
          have h1 : (Td.bytes s).all Td.letC = false := by
            rw [List.all_eq_false]
            exact ⟨_, List.mem_of_getElem? HK.out, by rw [HX.out]; decide⟩
          unfold Td.nameB; rw [h1]; rfl)
        go_wp2
        go_ret
        rw [hE.out]; exact ⟨rfl, rfl⟩
      · go_wp2
        go_round
        case rel =>
          refine ⟨k + 1, by omega, by go_num, ?_⟩
          obtain ⟨h, h2⟩ := List.getElem?_eq_some_iff.1 HK.out
          rw [List.take_succ_eq_append_getElem h, List.all_append, HAA.out, h2]
          simp [HX.out]
        case measure => simp [intOf]; omega
    · obtain rfl : k = s.size := by omega
      rw [List.take_of_length_le (by rw [Td.bytes_len]; exact Nat.le_refl _)] at HA
      have hE : Hid (Td.nameB s = decide (1 ≤ s.size ∧ s.size ≤ 32 ∧ ((Td.bytes s).getD 0 0 < 48 ∨ 57 < (Td.bytes s).getD 0 0))) := Lib.hid (by unfold Td.nameB; rw [HA]; rfl)
      clear HA
      by_cases c1 : (1 : Int) ≤ (s.size : Int)
      · have c1' : 0 < s.size := by omega
        have hz : (Td.bytes s).getD 0 0 = (s[0].toNat : Int) := by rw [List.getD, Td.bytes_at s 0 c1']; rfl
        rw [hz] at hE
        clear hz
        by_cases c2 : (s.size : Int) ≤ 32
        · by_cases c3 : (s[0].toNat : Int) < 48
          · go_wp2
            go_ret
            exact ⟨by rw [hE.out, decide_eq_true (by omega)]; rfl, rfl⟩
          · by_cases c4 : (57 : Int) < (s[0].toNat : Int)
            · go_wp2
              go_ret
              exact ⟨by rw [hE.out, decide_eq_true (by omega)]; rfl, rfl⟩
            · go_wp2
              go_ret
              exact ⟨by rw [hE.out, decide_eq_false (by omega)]; rfl, rfl⟩
        · go_wp2
          go_ret
          exact ⟨by rw [hE.out, decide_eq_false (by omega)]; rfl, rfl⟩
      · go_wp2
        go_ret
        exact ⟨by rw [hE.out, decide_eq_false (by omega)]; rfl, rfl⟩
end Go.Proofs.Ythhijakclinjaaa
