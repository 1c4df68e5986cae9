/- The landed bands: the sequence of a range that is not split. · Lists of sequences of ranges in memory; burinbook.SameSeqs. -/
import Derived.Test.YtfopcgbfbedcjaaGp8
import Derived.Test.YtfopcgbfbedcjaaGp9
import Derived.Deep.RegionHeld3
import Derived.Laws.MakeOwn
import Derived.Test.YtfopcgbfbedcjaaGp4
namespace Go.Proofs.Ytfopcgbfbedcjaa
open Go.RowKit
set_option linter.unusedVariables false
/-- The k-th range of a range's sequence, out of the two strings. -/
structure Bd.ZipIs (A B : ByteArray) (Q : List (Int × Int)) (n : Nat) : Prop where
  sa : A.size = n
  sb : B.size = n
  len : Q.length = n
  at_ : ∀ k, (ha : k < A.size) → (hb : k < B.size) → Q[k]?.getD (0, 0) = ((A[k].toNat : Int), (B[k].toNat : Int))
theorem Bd.zipIs {w : Nat} {lo hi : Int} {A B : ByteArray} (EA : Bd.EncIs A lo w) (EB : Bd.EncIs B hi w) : Bd.ZipIs A B (Bd.zipE lo hi) w := by
  have lA := EA.nums
  have lB := EB.nums
  refine ⟨EA.size, EB.size, ?_, fun k ha hb => ?_⟩
  · unfold Bd.zipE
    rw [List.length_zip, ← lA, ← lB, Utf.nums_length, Utf.nums_length, EA.size, EB.size]; omega
  · unfold Bd.zipE
    rw [← lA, ← lB]
    have h1 := Utf.nums_at A k ha
    have h2 := Utf.nums_at B k hb
    have g1 : k < (Utf.nums A).length := by rw [Utf.nums_length]; exact ha
    have g2 : k < (Utf.nums B).length := by rw [Utf.nums_length]; exact hb
    rw [List.getElem?_eq_getElem g1] at h1
    rw [List.getElem?_eq_getElem g2] at h2
    rw [List.getElem?_eq_getElem (by rw [List.length_zip]; omega), List.getElem_zip]
    simp only [Option.getD_some] at h1 h2 ⊢
    rw [h1, h2]
/-- The first k elements of a row of pairs are those of a list. -/
structure RowUp (cs : Array Value) (Q : List (Int × Int)) (n k : Nat) : Prop where
  size : cs.size = n * 2
  at_ : ∀ j, j < k → cs[j * 2]? = some (.int .i64 (Q[j]?.getD (0, 0)).1) ∧ cs[j * 2 + 1]? = some (.int .i64 (Q[j]?.getD (0, 0)).2)
theorem RowUp.step {cs : Array Value} {Q : List (Int × Int)} {n k : Nat} (h : RowUp cs Q n k) (hk : k < n) (a b : Int) (hq : Q[k]?.getD (0, 0) = (a, b)) : RowUp ((cs.setIfInBounds (k * 2) (.int .i64 a)).setIfInBounds (k * 2 + 1) (.int .i64 b)) Q n (k + 1) := by
  refine ⟨by simp [h.size], fun j hj => ?_⟩
  have hs := h.size
  by_cases e : j = k
  · subst e
    rw [hq]
    simp only [Array.getElem?_setIfInBounds, Array.size_setIfInBounds]
    constructor
    · rw [if_neg (by omega), if_pos trivial, if_pos (by omega)]
    · rw [if_pos trivial, if_pos (by omega)]
  · have h1 := h.at_ j (by omega)
    simp only [Array.getElem?_setIfInBounds, Array.size_setIfInBounds]
    rw [if_neg (by omega), if_neg (by omega), if_neg (by omega), if_neg (by omega)]
    exact h1
theorem RowUp.own {W : World} {cs : Array Value} {Q : List (Int × Int)} {n base g : Nat} (h : RowUp cs Q n n) (hq : Q.length = n) (hg : W.heap[g]? = some (.cells cs 44 (0, 0))) (hb : base ≤ g) (hn : n ≤ 4) : RgOwn W base (.slice (some ⟨g, 0, none⟩) n n) Q := by
  refine ⟨by rw [flat2_len], .inr ⟨g, n, cs, by rw [hq], hb, hg, by omega, by unfold maxLen; omega, h.size, ?_⟩⟩
  rw [hq]
  apply List.ext_getElem?
  intro i
  rw [List.getElem?_take]
  by_cases hi : i < n * 2
  · rw [if_pos hi, Array.getElem?_toList]
    obtain ⟨j, e⟩ : ∃ j, i = j * 2 ∨ i = j * 2 + 1 := ⟨i / 2, by omega⟩
    have hf := flat2_get Q j (by omega)
    have hc := h.at_ j (by omega)
    rcases e with rfl | rfl
    · rw [hf.1, hc.1]
    · rw [hf.2, hc.2]
  · rw [if_neg hi, List.getElem?_eq_none (by rw [flat2_len]; omega)]
set_option maxRecDepth 100000 in
set_option maxHeartbeats 4000000 in
theorem sequence_any (W : World) (n : Nat) (lo hi : Int) (h : Bd.Cls n lo hi) : Calls Try.prog 49 #[.agg #[.int .i64 lo, .int .i64 hi]] W fun e w' =>
    ∃ v, e = .returned v ∧ RgOwn w' W.heap.size v (Bd.zipE lo hi) ∧ Below W.heap.size W w' := by
  have mixed : Try.prog.follows .mixedOrders = true := by kernel_rfl
  obtain ⟨i0, hi0, hz0, hz1, hz2⟩ := info_parts Try.infoRange
  have wl := h.width (Int.le_refl lo) h.le
  have wh := h.width h.le (Int.le_refl hi)
  have hn : 1 ≤ n ∧ n ≤ 4 := by have := h.bd; omega
  have HEA := Lib.hid (encode_yes lo (by omega))
  have HEB := Lib.hid (encode_yes hi (by omega))
  have HZ := Lib.hid (Bd.zipIs (Bd.encIs wl) (Bd.encIs wh))
  obtain ⟨A, hA⟩ : ∃ A, strOfNums (Utf.encN lo) = A := ⟨_, rfl⟩
  obtain ⟨B, hB⟩ : ∃ B, strOfNums (Utf.encN hi) = B := ⟨_, rfl⟩
  obtain ⟨Q, hQ⟩ : ∃ Q, Bd.zipE lo hi = Q := ⟨_, rfl⟩
  rw [hA] at HEA HZ
  rw [hB] at HEB HZ
  rw [hQ] at HZ ⊢
  have hmk : ∀ w', (Instr.makeSlice 22 (.int .i64 (n : Int)) (.int .i64 (n : Int))).run Try.prog w' = .ok (.slice (some ⟨w'.heap.size, 0, none⟩) n n) (w'.alloc (.cells (madeCells (#[.int .i64 0, .int .i64 0] : Array Value) (n * 2)) 44)) := fun w' => by
    have := run_make (P := Try.prog) w' 22 44 i0 (.agg #[.int .i64 0, .int .i64 0]) Try.underlying22 hi0 hz0 .i64 .i64 (n : Int) (n : Int) (by omega) (Int.le_refl _) (by rw [hz2]; omega) (by omega)
    rw [hz1, Int.toNat_natCast] at this
    exact this
  have hsz := size_madeCells (#[.int .i64 0, .int .i64 0] : Array Value) (n * 2)
  obtain ⟨C, hC⟩ : ∃ C, madeCells (#[.int .i64 0, .int .i64 0] : Array Value) (n * 2) = C := ⟨_, rfl⟩
  rw [hC] at hmk hsz
  have HC := Lib.hid hsz
  have sA := HZ.out.sa
  have sB := HZ.out.sb
  clear wl wh hA hB hQ hC hsz h
  go_enter Try.func49, Try.ntmps49
  go_wp2_with fail
  refine (HEA.out _).mono ?_
  rintro e w1 ⟨rfl, hb1⟩
  have c2 : w1.cell? ⟨W.heap.size, 1, none⟩ = some (.int .i64 hi) := (hb1.cell (p := ⟨W.heap.size, 1, none⟩) (by simp)).trans (by simp)
  have HB1 := Lib.hid (((Below.refl W.heap.size W).alloc (Nat.le_refl _) _).trans (hb1.mono (by simp)))
  clear hb1
  go_wp2_with fail
  refine (HEB.out _).mono ?_
  rintro e w2 ⟨rfl, hb2⟩
  have HB2 := Lib.hid (HB1.out.trans (hb2.mono HB1.out.size))
  have hs2 := HB2.out.size
  clear hb2 HB1 c2 HEA HEB
  go_wp2
  go_loopw [26] (fun K wr => ∃ (k : Nat) (cs : Array Value), k ≤ n ∧ K = .int .i64 k ∧ Hid (wr.heap[w2.heap.size]? = some (.cells cs 44 (0, 0))) ∧ Hid (RowUp cs Q n k) ∧ Hid (Below W.heap.size W wr)) (fun K _ => n - (intOf K).toNat)
  case atStart => exact ⟨0, C, Nat.zero_le _, rfl, Lib.hid (heap_alloc_new _ _), Lib.hid ⟨HC.out, fun j hj => absurd hj (Nat.not_lt_zero _)⟩, Lib.hid (HB2.out.alloc hs2 _)⟩
  case round =>
    obtain ⟨k, cs, hk, rfl, HG, HU, HB⟩ := hrel
    by_cases hkl : k < n
    · have kA : k < A.size := by omega
      have kB : k < B.size := by omega
      have k0 : (0 : Int) ≤ (k : Int) := by omega
      have k1 : (k : Int) < (n : Int) := by omega
      have hus := HU.out.step hkl _ _ (HZ.out.at_ k kA kB)
      have b1 := A[k].toNat_lt
      have b2 := B[k].toNat_lt
      obtain ⟨v1, hv1⟩ := cell_in_row (i := k * 2) HG.out (by rw [HU.out.size]; omega)
      obtain ⟨v2, hv2⟩ := cell_in_row (i := k * 2 + 1) HG.out (by rw [HU.out.size]; omega)
      have hf1 := frozen_of_row _ w2.heap.size (k * 2) _ _ HG.out
      have hf2 := frozen_of_row _ w2.heap.size (k * 2 + 1) _ _ HG.out
      have ww1 : IntKind.i64.wrap (A[k].toNat : Int) = (A[k].toNat : Int) := by rw [IntKind.wrap_i64]; omega
      have ww2 : IntKind.i64.wrap (B[k].toNat : Int) = (B[k].toNat : Int) := by rw [IntKind.wrap_i64]; omega
      have HS := Lib.hid hus
      clear hus
      go_wp2
      go_region_held3 (fun _ => True) (trivial) (first | fail)
      all_goals
        go_wp2
        go_roundw
        case rel => exact ⟨k + 1, _, by omega, by go_num, Lib.hid (heap_setCell_same _ w2.heap.size _ _ _ _ (heap_setCell_same _ w2.heap.size _ _ _ _ HG.out)), HS, Lib.hid (below_drewN ((HB.out.setCell (p := ⟨w2.heap.size, k * 2, none⟩) hs2 _).setCell (p := ⟨w2.heap.size, k * 2 + 1, none⟩) hs2 _) 1)⟩
        case measure => simp [intOf]; omega
    · obtain rfl : k = n := by omega
      have hO := Lib.hid (HU.out.own HZ.out.len HG.out hs2 hn.2)
      go_wp2
      go_ret
      exact ⟨_, rfl, hO.out, HB.out⟩
end Go.Proofs.Ytfopcgbfbedcjaa
namespace Go.Proofs.Ytfopcgbfbedcjaa
open Go.RowKit
set_option linter.unusedVariables false
/-- A value that reads as a list of lists of ranges. -/
def QRow (W : World) (v : Value) (L : List (List (Int × Int))) : Prop :=
  ∃ a cap, v = .slice a L.length cap ∧ L.length ≤ 8796093022208 ∧ ∀ j, j < L.length → ∃ b off u, a = some ⟨b, off, none⟩ ∧ b < W.heap.size ∧ W.cell? ⟨b, off + j, none⟩ = some u ∧ RRow W u (L[j]?.getD [])
theorem QRow.below {W W' : World} {v : Value} {L : List (List (Int × Int))} (h : QRow W v L) (hb : Below W.heap.size W W') : QRow W' v L := by
  obtain ⟨a, cap, hv, hl, hc⟩ := h
  refine ⟨a, cap, hv, hl, fun j hj => ?_⟩
  obtain ⟨b, off, u, ha, hlt, h1, h2⟩ := hc j hj
  exact ⟨b, off, u, ha, Nat.lt_of_lt_of_le hlt hb.size, (hb.cell (p := ⟨b, off + j, none⟩) hlt).trans h1, h2.below (Nat.le_refl _) hb⟩
theorem take_succ_seq (l m : List (List (Int × Int))) (k : Nat) (hl : k < l.length) (hm : k < m.length) :
    l.take (k + 1) = m.take (k + 1) ↔ l.take k = m.take k ∧ l[k]?.getD [] = m[k]?.getD [] := by
  rw [List.take_succ_eq_append_getElem hl, List.take_succ_eq_append_getElem hm, List.getElem?_eq_getElem hl, List.getElem?_eq_getElem hm]
  constructor
  · intro h
    have := List.append_inj' h (by simp)
    exact ⟨this.1, by simpa using this.2⟩
  · rintro ⟨h1, h2⟩
    rw [h1]
    have : l[k] = m[k] := by simpa using h2
    rw [this]
theorem calls_quiet_add {P : Program} {f : FuncId} {args : Array Value} {W : World} {d n : Nat} {v : Value} (h : Calls P f args (W.drewN (d + n)) fun e w' => e = .returned v ∧ ∃ m, w' = (W.drewN (d + n)).drewN m) :
    Calls P f args (W.drewN (d + n)) fun e w'' => e = .returned v ∧ ∃ m, w'' = W.drewN (d + m) :=
  h.mono fun _ _ ⟨he, m, hm⟩ => ⟨he, n + m, by rw [hm, World.drewN_drewN, Nat.add_assoc]⟩
set_option maxRecDepth 100000 in
set_option maxHeartbeats 2000000 in
theorem same_seq_walk (W : World) (a b : Option Addr) (n p q : Nat) (l m : List (List (Int × Int))) (hn : n ≤ 8796093022208) (hl : l.length = n) (hm : m.length = n)
    (ha : ∀ j, j < n → ∃ g off u, a = some ⟨g, off, none⟩ ∧ g < W.heap.size ∧ W.cell? ⟨g, off + j, none⟩ = some u ∧ RRow W u (l[j]?.getD []))
    (hb : ∀ j, j < n → ∃ g off u, b = some ⟨g, off, none⟩ ∧ g < W.heap.size ∧ W.cell? ⟨g, off + j, none⟩ = some u ∧ RRow W u (m[j]?.getD [])) :
    Calls Try.prog 10 #[.slice a n p, .slice b n q] W fun e W' => e = .returned (.bool (decide (l = m))) ∧ ∃ d, W' = W.drewN d := by
  have HA := Lib.hid ha
  have HB := Lib.hid hb
  have HL := Lib.hid hl
  have HM := Lib.hid hm
  clear ha hb hl hm
  go_enter Try.func10, Try.ntmps10
  go_wp2
  go_loopw [5, 6] (fun s i wr => ∃ (k : Nat) (S : Bool), k ≤ n ∧ i = .int .i64 k ∧ s = .bool S ∧ Hid (S = decide (l.take k = m.take k)) ∧ ∃ d, wr = W.drewN d) (fun s i _ => (n - (intOf i).toNat) + (if s matches .bool true then 1 else 0))
  case atStart => exact ⟨0, true, Nat.zero_le _, rfl, by simp, Lib.hid (by simp), 0, rfl⟩
  case round =>
    obtain ⟨k, S, hk, rfl, rfl, HS, d, rfl⟩ := hrel
    cases S with
    | false =>
      have HF : Hid (decide (l = m) = false) := Lib.hid (by rw [decide_eq_false_iff_not]; intro e; have := HS.out; rw [e] at this; simp at this)
      go_wp2
      go_ret
      exact ⟨by rw [HF.out]; rfl, _, rfl⟩
    | true =>
      by_cases hlt : k < n
      · obtain ⟨g, off, x, rfl, hg, hc1, hx⟩ := HA.out k hlt
        obtain ⟨g', off', y, rfl, hg', hc3, hy⟩ := HB.out k hlt
        have hT := take_succ_seq l m k (by rw [HL.out]; exact hlt) (by rw [HM.out]; exact hlt)
        obtain ⟨X, eX⟩ : ∃ X, l[k]?.getD [] = X := ⟨_, rfl⟩
        obtain ⟨Y, eY⟩ : ∃ Y, m[k]?.getD [] = Y := ⟨_, rfl⟩
        rw [eX] at hx hT
        rw [eY] at hy hT
        have hsr := fun w' hwx hwy => same_rg w' x y X Y hwx hwy
        obtain ⟨xa, xc, rfl, _⟩ := id hx
        obtain ⟨ya, yc, rfl, _⟩ := id hy
        obtain ⟨Q, hQ⟩ : ∃ Q, decide (X = Y) = Q := ⟨_, rfl⟩
        rw [hQ] at hsr
        have HSR : Hid (∀ d, Calls Try.prog 25 #[.slice xa X.length xc, .slice ya Y.length yc] (W.drewN d) fun e w' => e = .returned (.bool Q) ∧ ∃ m, w' = (W.drewN d).drewN m) := Lib.hid (fun d => hsr _ (hx.drewN d) (hy.drewN d))
        have HT : Hid (Q = decide (l.take (k + 1) = m.take (k + 1))) := Lib.hid (by
          have h0 : l.take k = m.take k := by have := HS.out; simpa using this
          rw [← hQ, Bool.eq_iff_iff, decide_eq_true_eq, decide_eq_true_eq, hT]
          exact ⟨fun h => ⟨h0, h⟩, fun h => h.2⟩)
        have k0 : (0 : Int) ≤ (k : Int) := by omega
        have k1 : (k : Int) < (n : Int) := by omega
        clear hT hx hy hsr hQ eX eY
        go_wp2
        go_quiet ((go_at_call 25; exact calls_quiet_add (HSR.out _)))
        go_wp2
        go_round
        case rel => exact ⟨k + 1, Q, by omega, by go_num, rfl, HT, _, rfl⟩
        case measure => cases Q <;> (simp [intOf]; try omega)
      · obtain rfl : k = n := by omega
        have HE : Hid (decide (l = m) = true) := Lib.hid (by
          have := HS.out
          rw [List.take_of_length_le (by rw [HL.out]; exact Nat.le_refl _), List.take_of_length_le (by rw [HM.out]; exact Nat.le_refl _)] at this
          exact this.symm)
        go_wp2
        go_ret
        exact ⟨by rw [HE.out]; rfl, _, rfl⟩
theorem same_seq_eq (W : World) (va vb : Value) (l : List (List (Int × Int))) (ha : QRow W va l) (hb : QRow W vb l) :
    Calls Try.prog 10 #[va, vb] W fun e W' => e = .returned (.bool true) ∧ Below W.heap.size W W' := by
  obtain ⟨a, p, rfl, hl, hca⟩ := ha
  obtain ⟨b, q, rfl, _, hcb⟩ := hb
  refine (same_seq_walk W a b _ p q l l hl rfl rfl hca hcb).mono ?_
  rintro e w' ⟨rfl, d, rfl⟩
  exact ⟨by rw [decide_eq_true rfl], below_drewN (Below.refl _ _) d⟩
end Go.Proofs.Ytfopcgbfbedcjaa
