/- Rows of integers to be read; the contract of the reference's Valid, and of burinlaw01.same where the lists agree. -/
import Derived.Test.YtjeebamllahgkaaRef01D
import Derived.Test.YtjeebamllahgkaaUtfMathB
import Derived.Deep.QuietTactic
import Derived.BigQuiet
namespace Go.Proofs.Ytjeebamllahgkaa
open Go.RowKit
set_option linter.unusedVariables false
def IntRow (W : World) (v : Value) (xs : List Int) : Prop :=
  (v = .slice none 0 0 ∧ xs = []) ∨ ∃ g cap, v = .slice (some ⟨g, 0, none⟩) xs.length cap ∧ g < W.heap.size ∧ ∀ j, j < xs.length → W.cell? ⟨g, j, none⟩ = some (.int .i64 (xs[j]?.getD 0))
theorem IntRow.below {W W' : World} {v : Value} {xs : List Int} (h : IntRow W v xs) {B : Nat} (hB : W.heap.size ≤ B) (hb : Below B W W') : IntRow W' v xs := by
  rcases h with h | ⟨g, cap, hv, hg, hc⟩
  · exact .inl h
  · exact .inr ⟨g, cap, hv, Nat.lt_of_lt_of_le hg hb.size, fun j hj => (hb.cell (p := ⟨g, j, none⟩) (by show g < B; omega)).trans (hc j hj)⟩
theorem intRow_of {W : World} {base n : Nat} {v : Value} {xs : List Int} (hn : xs.length = n) (h : W.ownsRow base 3 1 v n (xs.map (Value.int .i64))) : IntRow W v xs := by
  rcases h.2 with ⟨hv, h0⟩ | ⟨g, cap, cur, hv, hb, hg, hnc, hcm, hcs, htake⟩
  · exact .inl ⟨hv, List.eq_nil_of_length_eq_zero (by omega)⟩
  · refine .inr ⟨g, cap, by rw [hn]; exact hv, (Array.getElem?_eq_some_iff.1 hg).1, fun j hj => ?_⟩
    rw [hv] at h
    rw [h.cellAt j (by omega), List.getElem?_map, List.getElem?_eq_getElem hj]
    rfl
set_option maxRecDepth 100000 in
set_option maxHeartbeats 1000000 in
theorem refValid_any (s : ByteArray) (hs : s.size ≤ 300) (w : World) : Calls Try.prog 21 #[.string s] w fun e W' =>
    e = .returned (.bool (okB (Utf.pieces (Utf.nums s)))) ∧ Below w.heap.size w W' := by
  have hpl := Utf.pieces_length (Utf.nums s) (Utf.nums_bytes s)
  rw [Utf.nums_length] at hpl
  obtain ⟨l, hl⟩ : ∃ l, Utf.pieces (Utf.nums s) = l := ⟨_, rfl⟩
  have hrp := refPieces_any s hs w
  rw [hl] at hrp hpl
  rw [hl]
  have HRP := Lib.hid hrp
  have hmx : (1000 : Nat) ≤ maxLen := by unfold maxLen; omega
  clear hrp hl
  go_enter Try.func21, Try.ntmps21
  go_wp2_with fail
  refine HRP.out.mono ?_
  rintro e wa ⟨v1, v2, rfl, hT, hB⟩
  have hlen : (l.map Prod.snd).length = l.length := List.length_map ..
  have hrow : IntRow wa v2 (l.map Prod.snd) := intRow_of hlen (by have := hT.2.1; rw [List.map_map]; exact this)
  clear hT
  rcases hrow with ⟨rfl, he⟩ | ⟨g, cap, rfl, hg, hcell⟩
  · have hl0 : l = [] := by simpa using he
    subst hl0
    go_wp2
    go_loop [2, 5] (fun r i => i = .int .i64 0) (fun _ _ => 0)
    case atStart => rfl
    case round =>
      subst hrel
      go_wp2
      go_ret
      exact ⟨rfl, hB⟩
  · rw [hlen] at hcell ⊢
    have HC := Lib.hid hcell
    clear hlen hcell
    go_wp2
    go_loop [2, 5] (fun r i => ∃ k : Nat, k ≤ l.length ∧ i = .int .i64 k ∧ Hid (∀ p ∈ l.take k, 0 ≤ p.2)) (fun _ i => l.length - (intOf i).toNat)
    case atStart => exact ⟨0, Nat.zero_le _, rfl, Lib.hid (by simp)⟩
    case round =>
      obtain ⟨k, hk, rfl, HA⟩ := hrel
      by_cases hlt : k < l.length
      · have hc := HC.out k hlt
        have hx : (l.map Prod.snd)[k]?.getD 0 = l[k].2 := by simp [hlt]
        rw [hx] at hc
        have HX : Hid (l[k].2 < 0 → okB l = false) := Lib.hid (fun hn => by
          unfold okB
          rw [List.all_eq_false]
          exact ⟨l[k], List.getElem_mem hlt, by simp; omega⟩)
        have HN : Hid (0 ≤ l[k].2 → ∀ p ∈ l.take (k + 1), 0 ≤ p.2) := Lib.hid (fun hn p hp => by
          rw [List.take_succ_eq_append_getElem hlt] at hp
          rcases List.mem_append.1 hp with hp | hp
          · exact HA.out p hp
          · simp at hp; subst hp; exact hn)
        generalize l[k].2 = x at *
        clear hx
        go_wp2
        · have hn : x < 0 := by assumption
          go_ret
          exact ⟨by rw [HX.out hn]; rfl, hB⟩
        · have hn : 0 ≤ x := by assumption
          go_round
          case rel => exact ⟨k + 1, by omega, by go_num, Lib.hid (HN.out hn)⟩
          case measure => simp [intOf]; omega
      · obtain rfl : k = l.length := by omega
        have hok : okB l = true := by
          unfold okB
          rw [List.all_eq_true]
          intro p hp
          have := HA.out p (by rw [List.take_length]; exact hp)
          simpa using this
        have HOK := Lib.hid hok
        clear hok
        go_wp2
        go_ret
        exact ⟨by rw [HOK.out]; rfl, hB⟩

theorem IntRow.opened {W : World} {v : Value} {xs : List Int} (h : IntRow W v xs) : ∃ a cap, v = .slice a xs.length cap ∧ ∀ j, j < xs.length → ∃ g, a = some ⟨g, 0, none⟩ ∧ W.cell? ⟨g, j, none⟩ = some (.int .i64 (xs[j]?.getD 0)) := by
  rcases h with ⟨hv, he⟩ | ⟨g, cap, hv, hg, hc⟩
  · exact ⟨none, 0, by rw [hv, he]; rfl, by rw [he]; intro j hj; simp at hj⟩
  · exact ⟨some ⟨g, 0, none⟩, cap, hv, fun j hj => ⟨g, rfl, hc j hj⟩⟩
/-- The first list is the second as far as so many: 'same' says yes. -/
theorem take_getD (ys : List Int) (m j : Nat) (hj : j < m) : (ys.take m)[j]?.getD 0 = ys[j]?.getD 0 := by
  rw [List.getElem?_take, if_pos hj]
set_option maxRecDepth 100000 in
set_option maxHeartbeats 1000000 in
theorem same_walk (W : World) (a b : Option Addr) (n p c q m : Nat) (x : Nat → Int) (hc : c ≤ 300) (hnc : n ≤ c) (hn : (m < c ∧ n = m) ∨ (¬ m < c ∧ n = c))
    (ha : ∀ j, j < n → ∃ g, a = some ⟨g, 0, none⟩ ∧ W.cell? ⟨g, j, none⟩ = some (.int .i64 (x j))) (hb : ∀ j, j < n → ∃ g, b = some ⟨g, 0, none⟩ ∧ W.cell? ⟨g, j, none⟩ = some (.int .i64 (x j))) :
    Calls Try.prog 18 #[.slice a n p, .slice b c q, .int .i64 m] W fun e W' => e = .returned (.bool true) ∧ ∃ k, W' = W.drewN k := by
  have HA := Lib.hid ha
  have HB := Lib.hid hb
  clear ha hb
  rcases hn with ⟨hmc, rfl⟩ | ⟨hmc, rfl⟩
  all_goals
    go_enter Try.func18, Try.ntmps18
    go_wp2
    go_loopw [6, 7] (fun r i wr => ∃ k : Nat, k ≤ n ∧ i = .int .i64 k ∧ ∃ d, wr = W.drewN d) (fun _ i _ => n - (intOf i).toNat)
    case atStart => exact ⟨0, Nat.zero_le _, rfl, 0, rfl⟩
    case round =>
      obtain ⟨k, hk, rfl, d, rfl⟩ := hrel
      by_cases hlt : k < n
      · obtain ⟨g, rfl, hc1⟩ := HA.out k hlt
        obtain ⟨g', rfl, hc2⟩ := HB.out k hlt
        have hkc := Nat.lt_of_lt_of_le hlt hnc
        have hc3 : (W.drewN d).cell? ⟨g, k, none⟩ = some (.int .i64 (x k)) := hc1
        have hc4 : (W.drewN d).cell? ⟨g', k, none⟩ = some (.int .i64 (x k)) := hc2
        go_wp2
        go_quiet (fail)
        go_wp2
        go_roundw
        case rel => exact ⟨k + 1, by omega, by go_num, _, rfl⟩
        case measure => simp [intOf]; omega
      · obtain rfl : k = n := by omega
        go_wp2
        go_ret
        exact ⟨rfl, _, rfl⟩
theorem same_true (W : World) (va vb : Value) (ys : List Int) (m : Nat) (hy : ys.length ≤ 300) (ha : IntRow W va (ys.take m)) (hb : IntRow W vb ys) :
    Calls Try.prog 18 #[va, vb, .int .i64 m] W fun e W' => e = .returned (.bool true) ∧ ∃ n, W' = W.drewN n := by
  have hlt : (ys.take m).length = min m ys.length := List.length_take
  obtain ⟨a, p, rfl, ha'⟩ := ha.opened
  obtain ⟨b, q, rfl, hb'⟩ := hb.opened
  refine same_walk W a b _ p _ q m (fun j => ys[j]?.getD 0) hy (by omega) (by omega) (fun j hj => ?_) (fun j hj => hb' j (by omega))
  obtain ⟨g, hg, hc⟩ := ha' j hj
  exact ⟨g, hg, by rw [hc, take_getD _ _ _ (by omega)]⟩
end Go.Proofs.Ytjeebamllahgkaa
