/- burinbook.KeptRanges and SpoilRanges. · The landed bands: the sequence of a range that is not split. · Lists of sequences of ranges in memory; burinbook.SameSeqs. · Lists of sequences of ranges that a call owns: the outer row and each inner one. · The plain mathematics of bands: the classes of runes, Split and Of; no program. -/
import Derived.Test.YtfopcgbfbedcjaaPk4
import Derived.Deep.RegionHeld3
import Derived.Laws.MakeOwn
import Derived.Test.YtfopcgbfbedcjaaPk2
import Derived.Deep.AppendLies
namespace Go.Proofs.Ytfopcgbfbedcjaa
open Go.RowKit
set_option linter.unusedVariables false
set_option maxRecDepth 100000 in
set_option maxHeartbeats 1000000 in
theorem kept_walk (W : World) (vb : Value) (g n cap : Nat) (l : List (Int × Int)) (hn : l.length = n) (ha : RRow W (.slice (some ⟨g, 0, none⟩) n cap) l) (hb : RRow W vb l)
    (hcap : n + 1 ≤ cap) (hn2 : n ≤ 8796093022208) (h1 : W.cell? ⟨g, n * 2, none⟩ = some (.int .i64 7)) (h2 : W.cell? ⟨g, n * 2 + 1, none⟩ = some (.int .i64 0)) :
    Calls Try.prog 15 #[.slice (some ⟨g, 0, none⟩) n cap, vb] W fun e w' => e = .returned (.bool true) ∧ ∃ d, w' = W.drewN d := by
  have HA := Lib.hid ha
  have HB := Lib.hid hb
  clear ha hb hn
  go_enter Try.func15, Try.ntmps15
  go_wp2_with fail
  refine (same_rg _ _ _ l l HA.out HB.out).mono ?_
  rintro e wa ⟨rfl, d, rfl⟩
  rw [decide_eq_true (rfl : l = l)]
  go_wp2
  go_ret
  exact ⟨rfl, _, rfl⟩
set_option maxRecDepth 100000 in
set_option maxHeartbeats 1000000 in
theorem spoil_nil (W : World) :
    Calls Try.prog 21 #[.slice none 0 0] W fun e w' => e = .returned (.tuple #[]) ∧ Below W.heap.size W w' := by
  go_enter Try.func21, Try.ntmps21
  go_wp2
  refine wp_loop_rounds 1 ?_
  rw [rounds_succ]
  go_wp2
  exact ⟨rfl, .tuple #[], by simp [results, Try.func21, go_sem], And.intro rfl (Below.refl _ _)⟩
theorem cell_in_row {w : World} {g i : Nat} {cs : Array Value} {t : TypeId} (hg : w.heap[g]? = some (.cells cs t (0, 0))) (hi : i < cs.size) : ∃ v, w.cell? ⟨g, i, none⟩ = some v := by
  simp [World.cell?, hg, hi]
set_option maxRecDepth 100000 in
set_option maxHeartbeats 1000000 in
theorem spoil_walk (W : World) (g n cap B : Nat) (cs : Array Value) (hB : B ≤ g) (hg : W.heap[g]? = some (.cells cs 44 (0, 0))) (hcs : cs.size = cap * 2) (hnc : n ≤ cap) (hcap : cap ≤ 9223372036854775807) :
    Calls Try.prog 21 #[.slice (some ⟨g, 0, none⟩) n cap] W fun e w' => e = .returned (.tuple #[]) ∧ Below B W w' := by
  have HG := Lib.hid hg
  have HCS := Lib.hid hcs
  clear hg hcs
  go_enter Try.func21, Try.ntmps21
  go_wp2
  go_loopw [9] (fun R wr => ∃ (k : Nat) (cs' : Array Value), k ≤ cap ∧ R = .int .i64 k ∧ Hid (wr.heap[g]? = some (.cells cs' 44 (0, 0))) ∧ Hid (cs'.size = cap * 2) ∧ Hid (Below B W wr)) (fun R _ => cap - (intOf R).toNat)
  case atStart => exact ⟨0, cs, Nat.zero_le _, rfl, HG, HCS, Lib.hid (Below.refl _ _)⟩
  case round =>
    obtain ⟨k, cs', hk, rfl, HG', HCS', HB⟩ := hrel
    clear HG HCS
    by_cases hlt : k < cap
    · obtain ⟨v1, hv1⟩ := cell_in_row (i := k * 2) HG'.out (by rw [HCS'.out]; omega)
      obtain ⟨v2, hv2⟩ := cell_in_row (i := k * 2 + 1) HG'.out (by rw [HCS'.out]; omega)
      have hf1 := frozen_of_row _ g (k * 2) _ _ HG'.out
      have hf2 := frozen_of_row _ g (k * 2 + 1) _ _ HG'.out
      go_wp2
      refine ⟨⟨k + 1, _, by omega, by go_num, Lib.hid (heap_setCell_same _ g _ _ _ _ (heap_setCell_same _ g _ _ _ _ HG'.out)), Lib.hid (by simp [HCS'.out]), Lib.hid ((HB.out.setCell (p := ⟨g, k * 2, none⟩) hB _).setCell (p := ⟨g, k * 2 + 1, none⟩) hB _)⟩, by simp [intOf]; omega⟩
    · obtain rfl : k = cap := by omega
      go_wp2
      exact ⟨rfl, .tuple #[], by simp [results, Try.func21, go_sem], And.intro rfl (HB.out)⟩
/-- What a call owns is spoilt. -/
theorem spoil_own (W : World) (base : Nat) (v : Value) (l : List (Int × Int)) (h : RgOwn W base v l) (hb : base ≤ W.heap.size) :
    Calls Try.prog 21 #[v] W fun e w' => e = .returned (.tuple #[]) ∧ Below base W w' := by
  rcases h.2 with ⟨rfl, _⟩ | ⟨g, cap, cur, rfl, hbg, hg, hnc, hcm, hcs, _⟩
  · exact (spoil_nil W).mono fun e w' h => ⟨h.1, h.2.mono hb⟩
  · exact spoil_walk W g _ cap base cur hbg hg hcs hnc (by simpa [maxLen] using hcm)
end Go.Proofs.Ytfopcgbfbedcjaa
namespace Go.Proofs.Ytfopcgbfbedcjaa
open Go.RowKit
set_option linter.unusedVariables false
/-- The k-th range of a range's sequence, out of the two strings. -/
structure Bd.ZipIs (A B : ByteArray) (Q : List (Int × Int)) (n : Nat) : Prop where
  sa : A.size = n
  sb : B.size = n
  len : Q.length = n
  at_ : ∀ k, (ha : k < A.size) → (hb : k < B.size) → Q[k]?.getD (0, 0) = ((A[k].toNat : Int), (B[k].toNat : Int))
theorem Bd.zipIs {w : Nat} {lo hi : Int} {A B : ByteArray} (EA : Bd.EncIs A lo w) (EB : Bd.EncIs B hi w) : Bd.ZipIs A B (Bd.zipE lo hi) w := by
  have lA := EA.nums
  have lB := EB.nums
  refine ⟨EA.size, EB.size, ?_, fun k ha hb => ?_⟩
  · unfold Bd.zipE
    rw [List.length_zip, ← lA, ← lB, Utf.nums_length, Utf.nums_length, EA.size, EB.size]; omega
  · unfold Bd.zipE
    rw [← lA, ← lB]
    have h1 := Utf.nums_at A k ha
    have h2 := Utf.nums_at B k hb
    have g1 : k < (Utf.nums A).length := by rw [Utf.nums_length]; exact ha
    have g2 : k < (Utf.nums B).length := by rw [Utf.nums_length]; exact hb
    rw [List.getElem?_eq_getElem g1] at h1
    rw [List.getElem?_eq_getElem g2] at h2
    rw [List.getElem?_eq_getElem (by rw [List.length_zip]; omega), List.getElem_zip]
    simp only [Option.getD_some] at h1 h2 ⊢
    rw [h1, h2]
/-- The first k elements of a row of pairs are those of a list. -/
structure RowUp (cs : Array Value) (Q : List (Int × Int)) (n k : Nat) : Prop where
  size : cs.size = n * 2
  at_ : ∀ j, j < k → cs[j * 2]? = some (.int .i64 (Q[j]?.getD (0, 0)).1) ∧ cs[j * 2 + 1]? = some (.int .i64 (Q[j]?.getD (0, 0)).2)
theorem RowUp.step {cs : Array Value} {Q : List (Int × Int)} {n k : Nat} (h : RowUp cs Q n k) (hk : k < n) (a b : Int) (hq : Q[k]?.getD (0, 0) = (a, b)) : RowUp ((cs.setIfInBounds (k * 2) (.int .i64 a)).setIfInBounds (k * 2 + 1) (.int .i64 b)) Q n (k + 1) := by
  refine ⟨by simp [h.size], fun j hj => ?_⟩
  have hs := h.size
  by_cases e : j = k
  · subst e
    rw [hq]
    simp only [Array.getElem?_setIfInBounds, Array.size_setIfInBounds]
    constructor
    · rw [if_neg (by omega), if_pos trivial, if_pos (by omega)]
    · rw [if_pos trivial, if_pos (by omega)]
  · have h1 := h.at_ j (by omega)
    simp only [Array.getElem?_setIfInBounds, Array.size_setIfInBounds]
    rw [if_neg (by omega), if_neg (by omega), if_neg (by omega), if_neg (by omega)]
    exact h1
theorem RowUp.own {W : World} {cs : Array Value} {Q : List (Int × Int)} {n base g : Nat} (h : RowUp cs Q n n) (hq : Q.length = n) (hg : W.heap[g]? = some (.cells cs 44 (0, 0))) (hb : base ≤ g) (hn : n ≤ 4) : RgOwn W base (.slice (some ⟨g, 0, none⟩) n n) Q := by
  refine ⟨by rw [flat2_len], .inr ⟨g, n, cs, by rw [hq], hb, hg, by omega, by unfold maxLen; omega, h.size, ?_⟩⟩
  rw [hq]
  apply List.ext_getElem?
  intro i
  rw [List.getElem?_take]
  by_cases hi : i < n * 2
  · rw [if_pos hi, Array.getElem?_toList]
    obtain ⟨j, e⟩ : ∃ j, i = j * 2 ∨ i = j * 2 + 1 := ⟨i / 2, by omega⟩
    have hf := flat2_get Q j (by omega)
    have hc := h.at_ j (by omega)
    rcases e with rfl | rfl
    · rw [hf.1, hc.1]
    · rw [hf.2, hc.2]
  · rw [if_neg hi, List.getElem?_eq_none (by rw [flat2_len]; omega)]
set_option maxRecDepth 100000 in
set_option maxHeartbeats 4000000 in
theorem sequence_any (W : World) (n : Nat) (lo hi : Int) (h : Bd.Cls n lo hi) : Calls Try.prog 49 #[.agg #[.int .i64 lo, .int .i64 hi]] W fun e w' =>
    ∃ v, e = .returned v ∧ RgOwn w' W.heap.size v (Bd.zipE lo hi) ∧ Below W.heap.size W w' := by
  have mixed : Try.prog.follows .mixedOrders = true := by kernel_rfl
  obtain ⟨i0, hi0, hz0, hz1, hz2⟩ := info_parts Try.infoRange
  have wl := h.width (Int.le_refl lo) h.le
  have wh := h.width h.le (Int.le_refl hi)
  have hn : 1 ≤ n ∧ n ≤ 4 := by have := h.bd; omega
  have HEA := Lib.hid (encode_yes lo (by omega))
  have HEB := Lib.hid (encode_yes hi (by omega))
  have HZ := Lib.hid (Bd.zipIs (Bd.encIs wl) (Bd.encIs wh))
  obtain ⟨A, hA⟩ : ∃ A, strOfNums (Utf.encN lo) = A := ⟨_, rfl⟩
  obtain ⟨B, hB⟩ : ∃ B, strOfNums (Utf.encN hi) = B := ⟨_, rfl⟩
  obtain ⟨Q, hQ⟩ : ∃ Q, Bd.zipE lo hi = Q := ⟨_, rfl⟩
  rw [hA] at HEA HZ
  rw [hB] at HEB HZ
  rw [hQ] at HZ ⊢
  have hmk : ∀ w', (Instr.makeSlice 22 (.int .i64 (n : Int)) (.int .i64 (n : Int))).run Try.prog w' = .ok (.slice (some ⟨w'.heap.size, 0, none⟩) n n) (w'.alloc (.cells (madeCells (#[.int .i64 0, .int .i64 0] : Array Value) (n * 2)) 44)) := fun w' => by
    have := run_make (P := Try.prog) w' 22 44 i0 (.agg #[.int .i64 0, .int .i64 0]) Try.underlying22 hi0 hz0 .i64 .i64 (n : Int) (n : Int) (by omega) (Int.le_refl _) (by rw [hz2]; omega) (by omega)
    rw [hz1, Int.toNat_natCast] at this
    exact this
  have hsz := size_madeCells (#[.int .i64 0, .int .i64 0] : Array Value) (n * 2)
  obtain ⟨C, hC⟩ : ∃ C, madeCells (#[.int .i64 0, .int .i64 0] : Array Value) (n * 2) = C := ⟨_, rfl⟩
  rw [hC] at hmk hsz
  have HC := Lib.hid hsz
  have sA := HZ.out.sa
  have sB := HZ.out.sb
  clear wl wh hA hB hQ hC hsz h
  go_enter Try.func49, Try.ntmps49
  go_wp2_with fail
  refine (HEA.out _).mono ?_
  rintro e w1 ⟨rfl, hb1⟩
  have c2 : w1.cell? ⟨W.heap.size, 1, none⟩ = some (.int .i64 hi) := (hb1.cell (p := ⟨W.heap.size, 1, none⟩) (by simp)).trans (by simp)
  have HB1 := Lib.hid (((Below.refl W.heap.size W).alloc (Nat.le_refl _) _).trans (hb1.mono (by simp)))
  clear hb1
  go_wp2_with fail
  refine (HEB.out _).mono ?_
  rintro e w2 ⟨rfl, hb2⟩
  have HB2 := Lib.hid (HB1.out.trans (hb2.mono HB1.out.size))
  have hs2 := HB2.out.size
  clear hb2 HB1 c2 HEA HEB
  go_wp2
  go_loopw [26] (fun K wr => ∃ (k : Nat) (cs : Array Value), k ≤ n ∧ K = .int .i64 k ∧ Hid (wr.heap[w2.heap.size]? = some (.cells cs 44 (0, 0))) ∧ Hid (RowUp cs Q n k) ∧ Hid (Below W.heap.size W wr)) (fun K _ => n - (intOf K).toNat)
  case atStart => exact ⟨0, C, Nat.zero_le _, rfl, Lib.hid (heap_alloc_new _ _), Lib.hid ⟨HC.out, fun j hj => absurd hj (Nat.not_lt_zero _)⟩, Lib.hid (HB2.out.alloc hs2 _)⟩
  case round =>
    obtain ⟨k, cs, hk, rfl, HG, HU, HB⟩ := hrel
    by_cases hkl : k < n
    · have kA : k < A.size := by omega
      have kB : k < B.size := by omega
      have k0 : (0 : Int) ≤ (k : Int) := by omega
      have k1 : (k : Int) < (n : Int) := by omega
      have hus := HU.out.step hkl _ _ (HZ.out.at_ k kA kB)
      have b1 := A[k].toNat_lt
      have b2 := B[k].toNat_lt
      obtain ⟨v1, hv1⟩ := cell_in_row (i := k * 2) HG.out (by rw [HU.out.size]; omega)
      obtain ⟨v2, hv2⟩ := cell_in_row (i := k * 2 + 1) HG.out (by rw [HU.out.size]; omega)
      have hf1 := frozen_of_row _ w2.heap.size (k * 2) _ _ HG.out
      have hf2 := frozen_of_row _ w2.heap.size (k * 2 + 1) _ _ HG.out
      have ww1 : IntKind.i64.wrap (A[k].toNat : Int) = (A[k].toNat : Int) := by rw [IntKind.wrap_i64]; omega
      have ww2 : IntKind.i64.wrap (B[k].toNat : Int) = (B[k].toNat : Int) := by rw [IntKind.wrap_i64]; omega
      have HS := Lib.hid hus
      clear hus
      go_wp2
      go_region_held3 (fun _ => True) (trivial) (first | fail)
      all_goals
        go_wp2
        go_roundw
        case rel => exact ⟨k + 1, _, by omega, by go_num, Lib.hid (heap_setCell_same _ w2.heap.size _ _ _ _ (heap_setCell_same _ w2.heap.size _ _ _ _ HG.out)), HS, Lib.hid (below_drewN ((HB.out.setCell (p := ⟨w2.heap.size, k * 2, none⟩) hs2 _).setCell (p := ⟨w2.heap.size, k * 2 + 1, none⟩) hs2 _) 1)⟩
        case measure => simp [intOf]; omega
    · obtain rfl : k = n := by omega
      have hO := Lib.hid (HU.out.own HZ.out.len HG.out hs2 hn.2)
      go_wp2
      go_ret
      exact ⟨_, rfl, hO.out, HB.out⟩
end Go.Proofs.Ytfopcgbfbedcjaa
namespace Go.Proofs.Ytfopcgbfbedcjaa
open Go.RowKit
set_option linter.unusedVariables false
/-- A value that reads as a list of lists of ranges. -/
def QRow (W : World) (v : Value) (L : List (List (Int × Int))) : Prop :=
  ∃ a cap, v = .slice a L.length cap ∧ L.length ≤ 8796093022208 ∧ ∀ j, j < L.length → ∃ b off u, a = some ⟨b, off, none⟩ ∧ b < W.heap.size ∧ W.cell? ⟨b, off + j, none⟩ = some u ∧ RRow W u (L[j]?.getD [])
theorem QRow.below {W W' : World} {v : Value} {L : List (List (Int × Int))} (h : QRow W v L) (hb : Below W.heap.size W W') : QRow W' v L := by
  obtain ⟨a, cap, hv, hl, hc⟩ := h
  refine ⟨a, cap, hv, hl, fun j hj => ?_⟩
  obtain ⟨b, off, u, ha, hlt, h1, h2⟩ := hc j hj
  exact ⟨b, off, u, ha, Nat.lt_of_lt_of_le hlt hb.size, (hb.cell (p := ⟨b, off + j, none⟩) hlt).trans h1, h2.below (Nat.le_refl _) hb⟩
theorem take_succ_seq (l m : List (List (Int × Int))) (k : Nat) (hl : k < l.length) (hm : k < m.length) :
    l.take (k + 1) = m.take (k + 1) ↔ l.take k = m.take k ∧ l[k]?.getD [] = m[k]?.getD [] := by
  rw [List.take_succ_eq_append_getElem hl, List.take_succ_eq_append_getElem hm, List.getElem?_eq_getElem hl, List.getElem?_eq_getElem hm]
  constructor
  · intro h
    have := List.append_inj' h (by simp)
    exact ⟨this.1, by simpa using this.2⟩
  · rintro ⟨h1, h2⟩
    rw [h1]
    have : l[k] = m[k] := by simpa using h2
    rw [this]
theorem calls_quiet_add {P : Program} {f : FuncId} {args : Array Value} {W : World} {d n : Nat} {v : Value} (h : Calls P f args (W.drewN (d + n)) fun e w' => e = .returned v ∧ ∃ m, w' = (W.drewN (d + n)).drewN m) :
    Calls P f args (W.drewN (d + n)) fun e w'' => e = .returned v ∧ ∃ m, w'' = W.drewN (d + m) :=
  h.mono fun _ _ ⟨he, m, hm⟩ => ⟨he, n + m, by rw [hm, World.drewN_drewN, Nat.add_assoc]⟩
set_option maxRecDepth 100000 in
set_option maxHeartbeats 2000000 in
theorem same_seq_walk (W : World) (a b : Option Addr) (n p q : Nat) (l m : List (List (Int × Int))) (hn : n ≤ 8796093022208) (hl : l.length = n) (hm : m.length = n)
    (ha : ∀ j, j < n → ∃ g off u, a = some ⟨g, off, none⟩ ∧ g < W.heap.size ∧ W.cell? ⟨g, off + j, none⟩ = some u ∧ RRow W u (l[j]?.getD []))
    (hb : ∀ j, j < n → ∃ g off u, b = some ⟨g, off, none⟩ ∧ g < W.heap.size ∧ W.cell? ⟨g, off + j, none⟩ = some u ∧ RRow W u (m[j]?.getD [])) :
    Calls Try.prog 10 #[.slice a n p, .slice b n q] W fun e W' => e = .returned (.bool (decide (l = m))) ∧ ∃ d, W' = W.drewN d := by
  have HA := Lib.hid ha
  have HB := Lib.hid hb
  have HL := Lib.hid hl
  have HM := Lib.hid hm
  clear ha hb hl hm
  go_enter Try.func10, Try.ntmps10
  go_wp2
  go_loopw [5, 6] (fun s i wr => ∃ (k : Nat) (S : Bool), k ≤ n ∧ i = .int .i64 k ∧ s = .bool S ∧ Hid (S = decide (l.take k = m.take k)) ∧ ∃ d, wr = W.drewN d) (fun s i _ => (n - (intOf i).toNat) + (if s matches .bool true then 1 else 0))
  case atStart => exact ⟨0, true, Nat.zero_le _, rfl, by simp, Lib.hid (by simp), 0, rfl⟩
  case round =>
    obtain ⟨k, S, hk, rfl, rfl, HS, d, rfl⟩ := hrel
    cases S with
    | false =>
      have HF : Hid (decide (l = m) = false) := Lib.hid (by rw [decide_eq_false_iff_not]; intro e; have := HS.out; rw [e] at this; simp at this)
      go_wp2
      go_ret
      exact ⟨by rw [HF.out]; rfl, _, rfl⟩
    | true =>
      by_cases hlt : k < n
      · obtain ⟨g, off, x, rfl, hg, hc1, hx⟩ := HA.out k hlt
        obtain ⟨g', off', y, rfl, hg', hc3, hy⟩ := HB.out k hlt
        have hT := take_succ_seq l m k (by rw [HL.out]; exact hlt) (by rw [HM.out]; exact hlt)
        obtain ⟨X, eX⟩ : ∃ X, l[k]?.getD [] = X := ⟨_, rfl⟩
        obtain ⟨Y, eY⟩ : ∃ Y, m[k]?.getD [] = Y := ⟨_, rfl⟩
        rw [eX] at hx hT
        rw [eY] at hy hT
        have hsr := fun w' hwx hwy => same_rg w' x y X Y hwx hwy
        obtain ⟨xa, xc, rfl, _⟩ := id hx
        obtain ⟨ya, yc, rfl, _⟩ := id hy
        obtain ⟨Q, hQ⟩ : ∃ Q, decide (X = Y) = Q := ⟨_, rfl⟩
        rw [hQ] at hsr
        have HSR : Hid (∀ d, Calls Try.prog 25 #[.slice xa X.length xc, .slice ya Y.length yc] (W.drewN d) fun e w' => e = .returned (.bool Q) ∧ ∃ m, w' = (W.drewN d).drewN m) := Lib.hid (fun d => hsr _ (hx.drewN d) (hy.drewN d))
        have HT : Hid (Q = decide (l.take (k + 1) = m.take (k + 1))) := Lib.hid (by
          have h0 : l.take k = m.take k := by have := HS.out; simpa using this
          rw [← hQ, Bool.eq_iff_iff, decide_eq_true_eq, decide_eq_true_eq, hT]
          exact ⟨fun h => ⟨h0, h⟩, fun h => h.2⟩)
        have k0 : (0 : Int) ≤ (k : Int) := by omega
        have k1 : (k : Int) < (n : Int) := by omega
        clear hT hx hy hsr hQ eX eY
        go_wp2
        go_quiet ((go_at_call 25; exact calls_quiet_add (HSR.out _)))
        go_wp2
        go_round
        case rel => exact ⟨k + 1, Q, by omega, by go_num, rfl, HT, _, rfl⟩
        case measure => cases Q <;> (simp [intOf]; try omega)
      · obtain rfl : k = n := by omega
        have HE : Hid (decide (l = m) = true) := Lib.hid (by
          have := HS.out
          rw [List.take_of_length_le (by rw [HL.out]; exact Nat.le_refl _), List.take_of_length_le (by rw [HM.out]; exact Nat.le_refl _)] at this
          exact this.symm)
        go_wp2
        go_ret
        exact ⟨by rw [HE.out]; rfl, _, rfl⟩
theorem same_seq_eq (W : World) (va vb : Value) (l : List (List (Int × Int))) (ha : QRow W va l) (hb : QRow W vb l) :
    Calls Try.prog 10 #[va, vb] W fun e W' => e = .returned (.bool true) ∧ Below W.heap.size W W' := by
  obtain ⟨a, p, rfl, hl, hca⟩ := ha
  obtain ⟨b, q, rfl, _, hcb⟩ := hb
  refine (same_seq_walk W a b _ p q l l hl rfl rfl hca hcb).mono ?_
  rintro e w' ⟨rfl, d, rfl⟩
  exact ⟨by rw [decide_eq_true rfl], below_drewN (Below.refl _ _) d⟩
end Go.Proofs.Ytfopcgbfbedcjaa
namespace Go.Proofs.Ytfopcgbfbedcjaa
open Go.RowKit
set_option linter.unusedVariables false
theorem Try.infoSeq : (Try.prog.info? 22).map (fun i => (i.zero, i.size, i.bytes)) = some (some (.slice none 0 0), 1, 24) := by kernel_rfl
abbrev nilV : Value := .slice none 0 0
/-- No two of these values share a block of their own, nor with v. -/
structure QApart (v : Value) (us : List Value) : Prop where
  inner : ∀ i j, i < j → j < us.length → ∀ b, (us[i]?.getD nilV).ownBlock = some b → (us[j]?.getD nilV).ownBlock ≠ some b
  outer : ∀ j, j < us.length → ∀ b, (us[j]?.getD nilV).ownBlock = some b → v.ownBlock ≠ some b
def QOwnU (W : World) (base : Nat) (v : Value) (us : List Value) (L : List (List (Int × Int))) : Prop :=
  us.length = L.length ∧ W.ownsRow base 22 1 v us.length us ∧ (∀ j, j < us.length → RgOwn W base (us[j]?.getD nilV) (L[j]?.getD [])) ∧ QApart v us
def QOwn (W : World) (base : Nat) (v : Value) (L : List (List (Int × Int))) : Prop := ∃ us, QOwnU W base v us L
theorem RgOwn.lt {W : World} {base : Nat} {v : Value} {l : List (Int × Int)} (h : RgOwn W base v l) {b : Nat} (hb : v.ownBlock = some b) : base ≤ b ∧ b < W.heap.size := World.ownsRow.lt h b hb
theorem RgOwn.below2 {W W' : World} {base : Nat} {v : Value} {l : List (Int × Int)} (h : RgOwn W base v l) (hb : Below W.heap.size W W') : RgOwn W' base v l :=
  h.kept ⟨hb.os, hb.tape, hb.output, hb.size, fun k hk _ => hb.block k hk⟩ (row := none) (by cases hv : v.ownBlock <;> simp)
theorem QOwnU.nil {W : World} {base : Nat} : QOwnU W base nilV [] [] :=
  ⟨rfl, World.ownsRow_nil _ _ _ _, fun j h => absurd h (Nat.not_lt_zero _), ⟨fun i j _ h => absurd h (Nat.not_lt_zero _), fun j h => absurd h (Nat.not_lt_zero _)⟩⟩
theorem QOwnU.below {W W' : World} {base : Nat} {v : Value} {us : List Value} {L : List (List (Int × Int))} (h : QOwnU W base v us L) (hb : Below W.heap.size W W') : QOwnU W' base v us L :=
  ⟨h.1, h.2.1.kept ⟨hb.os, hb.tape, hb.output, hb.size, fun k hk _ => hb.block k hk⟩ (row := none) (by cases hv : v.ownBlock <;> simp), fun j hj => (h.2.2.1 j hj).below2 hb, h.2.2.2⟩
theorem QOwnU.alloc {W : World} {base : Nat} {v : Value} {us : List Value} {L : List (List (Int × Int))} (h : QOwnU W base v us L) (o : Obj) : QOwnU (W.alloc o) base v us L :=
  h.below ((Below.refl _ _).alloc (Nat.le_refl _) o)
theorem QOwnU.lower {W : World} {base base' : Nat} {v : Value} {us : List Value} {L : List (List (Int × Int))} (h : QOwnU W base v us L) (hb : base' ≤ base) : QOwnU W base' v us L :=
  ⟨h.1, ⟨h.2.1.1, h.2.1.2.imp id (fun ⟨g, cap, cur, h1, h2, h3⟩ => ⟨g, cap, cur, h1, Nat.le_trans hb h2, h3⟩)⟩, fun j hj => ⟨(h.2.2.1 j hj).1, (h.2.2.1 j hj).2.imp id (fun ⟨g, cap, cur, h1, h2, h3⟩ => ⟨g, cap, cur, h1, Nat.le_trans hb h2, h3⟩)⟩, h.2.2.2⟩
/-- A world in which only the row of v has turned: an inner row stays owned. -/
theorem RgOwn.grown {W W' : World} {base : Nat} {u v : Value} {l : List (Int × Int)} (h : RgOwn W base u l) (hg : W.grownBy W' v.ownBlock) (ha : ∀ b, u.ownBlock = some b → v.ownBlock ≠ some b) : RgOwn W' base u l :=
  h.kept hg (by
    cases hu : u.ownBlock with
    | none => exact .inl rfl
    | some b => exact .inr (Ne.symm (ha b hu)))
/-- One more sequence at the end. -/
theorem QOwnU.snoc {W W' : World} {base : Nat} {v u : Value} {us : List Value} {L : List (List (Int × Int))} {q : List (Int × Int)} {gg cap1 : Nat} (h : QOwnU W base v us L) (hu : RgOwn W base u q)
    (hua : ∀ j, j < us.length → ∀ b, (us[j]?.getD nilV).ownBlock = some b → u.ownBlock ≠ some b) (huv : ∀ b, u.ownBlock = some b → v.ownBlock ≠ some b)
    (hown : W'.ownsRow base 22 1 (.slice (some ⟨gg, 0, none⟩) (us.length + 1) cap1) (us.length + 1) (us ++ [u])) (hg : W.grownBy W' v.ownBlock) (hat : v.ownBlock = some gg ∨ W.heap.size ≤ gg) :
    QOwnU W' base (.slice (some ⟨gg, 0, none⟩) (us.length + 1) cap1) (us ++ [u]) (L ++ [q]) := by
  have hgu : ∀ x b, x < us.length → (us[x]?.getD nilV).ownBlock = some b → gg ≠ b := by
    intro x b hx hb e
    subst e
    rcases hat with h1 | h1
    · exact h.2.2.2.outer x hx _ hb h1
    · have := (h.2.2.1 x hx).lt hb; omega
  have hguu : ∀ b, u.ownBlock = some b → gg ≠ b := by
    intro b hb e
    subst e
    rcases hat with h1 | h1
    · exact huv _ hb h1
    · have := hu.lt hb; omega
  refine ⟨by simp [h.1], by rw [List.length_append]; exact hown, fun j hj => ?_, fun i j hij hj b hb => ?_, fun j hj b hb => ?_⟩
  · rw [List.length_append, List.length_singleton] at hj
    by_cases e : j < us.length
    · rw [List.getElem?_append_left e, List.getElem?_append_left (by rw [← h.1]; exact e)]
      exact (h.2.2.1 j e).grown hg (h.2.2.2.outer j e)
    · obtain rfl : j = us.length := by omega
      rw [List.getElem?_append_right (Nat.le_refl _), List.getElem?_append_right (by rw [h.1]; exact Nat.le_refl _), h.1]
      simp only [Nat.sub_self, List.getElem?_cons_zero, Option.getD_some]
      exact hu.grown hg huv
  · rw [List.length_append, List.length_singleton] at hj
    have hi : i < us.length := by omega
    rw [List.getElem?_append_left hi] at hb
    by_cases e : j < us.length
    · rw [List.getElem?_append_left e]; exact h.2.2.2.inner i j hij e b hb
    · obtain rfl : j = us.length := by omega
      rw [List.getElem?_append_right (Nat.le_refl _)]
      simp only [Nat.sub_self, List.getElem?_cons_zero, Option.getD_some]
      exact hua i hi b hb
  · rw [List.length_append, List.length_singleton] at hj
    show (some gg : Option Nat) ≠ some b
    intro e2
    injection e2 with e2
    by_cases e : j < us.length
    · rw [List.getElem?_append_left e] at hb
      exact hgu j b e hb e2
    · obtain rfl : j = us.length := by omega
      rw [List.getElem?_append_right (Nat.le_refl _)] at hb
      simp only [Nat.sub_self, List.getElem?_cons_zero, Option.getD_some] at hb
      exact hguu b hb e2
/-- What is owned reads as it is. -/
theorem QOwnU.row {W : World} {base : Nat} {v : Value} {us : List Value} {L : List (List (Int × Int))} (h : QOwnU W base v us L) (hl : L.length ≤ 8796093022208) (hw : ∀ q ∈ L, q.length ≤ 8796093022208 ∧ Wide64 q) : QRow W v L := by
  obtain ⟨h1, h2, h3, h4⟩ := h
  have hown := h2
  rcases h2.2 with ⟨hv, h0⟩ | ⟨g, cap, cur, rfl, hb, hg, hnc, hcm, hcs, _⟩
  · exact ⟨none, 0, by rw [← h1, h0]; exact hv, hl, fun j hj => by omega⟩
  · refine ⟨_, cap, by rw [h1], hl, fun j hj => ?_⟩
    have hj' : j < us.length := by omega
    refine ⟨g, 0, us[j]?.getD nilV, rfl, (Array.getElem?_eq_some_iff.1 hg).1, ?_, ?_⟩
    · rw [Nat.zero_add, World.ownsRow.cellAt hown j (by omega), List.getElem?_eq_getElem hj']; rfl
    · have hm : L[j]?.getD [] ∈ L := by rw [List.getElem?_eq_getElem hj]; exact List.getElem_mem _
      exact (h3 j hj').row (hw _ hm).1 (hw _ hm).2
end Go.Proofs.Ytfopcgbfbedcjaa
namespace Go.Proofs.Ytfopcgbfbedcjaa
set_option linter.unusedVariables false
namespace Bd
open Go.Proofs.Ytfopcgbfbedcjaa.Rg
/-- The classes of runes: from, to, width. -/
def clsT : List (Int × Int × Nat) := [(0, 127, 1), (128, 2047, 2), (2048, 55295, 3), (57344, 65535, 3), (65536, 1114111, 4)]
def endsT : List Int := [0, 127, 128, 2047, 2048, 55295, 57344, 65535, 65536, 1114111]
def part (lo hi : Int) (c : Int × Int × Nat) : List (List (Int × Int)) := if max lo c.1 ≤ min hi c.2.1 then oneL (max lo c.1) (min hi c.2.1) else []
def splitK (lo hi : Int) (k : Nat) : List (List (Int × Int)) := (clsT.take k).flatMap (part lo hi)
def splitL (lo hi : Int) : List (List (Int × Int)) := clsT.flatMap (part lo hi)
theorem cls_at (k : Nat) (hk : k < 5) : endsT[k * 2]?.getD 0 = (clsT[k]?.getD (0, 0, 0)).1 ∧ endsT[k * 2 + 1]?.getD 0 = (clsT[k]?.getD (0, 0, 0)).2.1 := by
  rcases (by omega : k = 0 ∨ k = 1 ∨ k = 2 ∨ k = 3 ∨ k = 4) with rfl | rfl | rfl | rfl | rfl <;> exact ⟨rfl, rfl⟩
theorem cls_ok (k : Nat) (hk : k < 5) (a b : Int) (h1 : (clsT[k]?.getD (0, 0, 0)).1 ≤ a) (h2 : b ≤ (clsT[k]?.getD (0, 0, 0)).2.1) (h3 : a ≤ b) : Cls (clsT[k]?.getD (0, 0, 0)).2.2 a b := by
  refine ⟨h3, ?_⟩
  rcases (by omega : k = 0 ∨ k = 1 ∨ k = 2 ∨ k = 3 ∨ k = 4) with rfl | rfl | rfl | rfl | rfl <;> simp [clsT] at h1 h2 ⊢ <;> omega
theorem cls_bd (k : Nat) (hk : k < 5) : 0 ≤ (clsT[k]?.getD (0, 0, 0)).1 ∧ (clsT[k]?.getD (0, 0, 0)).1 ≤ 1114111 ∧ 0 ≤ (clsT[k]?.getD (0, 0, 0)).2.1 ∧ (clsT[k]?.getD (0, 0, 0)).2.1 ≤ 1114111 := by
  rcases (by omega : k = 0 ∨ k = 1 ∨ k = 2 ∨ k = 3 ∨ k = 4) with rfl | rfl | rfl | rfl | rfl <;> decide
structure SplitSt (lo hi : Int) (k : Nat) (c : Int × Int × Nat) : Prop where
  eq : splitK lo hi (k + 1) = splitK lo hi k ++ part lo hi c
theorem splitSt (lo hi : Int) (k : Nat) (hk : k < 5) (c : Int × Int × Nat) (hc : clsT[k]?.getD (0, 0, 0) = c) : SplitSt lo hi k c := by
  refine ⟨?_⟩
  have hl : k < clsT.length := hk
  unfold splitK
  rw [List.take_succ_eq_append_getElem hl, List.flatMap_append]
  rw [List.getElem?_eq_getElem hl] at hc
  rw [← hc]; simp
theorem part_len (lo hi : Int) (c : Int × Int × Nat) (h : 0 ≤ c.1 ∧ c.2.1 ≤ 1114111) : (part lo hi c).length ≤ 1114112 := by
  unfold part
  split
  · rename_i h1
    have := oneL_len h1
    omega
  · simp
theorem splitK_len (lo hi : Int) : ∀ k, k ≤ 5 → (splitK lo hi k).length ≤ k * 1114112
  | 0, _ => by simp [splitK]
  | k + 1, h => by
    have h1 := splitK_len lo hi k (by omega)
    have hb := cls_bd k (by omega)
    have h2 := part_len lo hi _ ⟨hb.1, hb.2.2.2⟩
    rw [(splitSt lo hi k (by omega) _ rfl).eq, List.length_append]
    omega
theorem part_len2 (lo hi : Int) (c : Int × Int × Nat) : ((part lo hi c).length : Int) ≤ max 0 (min hi c.2.1 - max lo c.1 + 1) := by
  unfold part
  split
  · rename_i h1
    have := oneL_len h1
    omega
  · simp; omega
theorem splitL_len {lo hi : Int} (h0 : 0 ≤ lo) (h1 : lo ≤ hi) (h2 : hi ≤ 1114111) : ((splitL lo hi).length : Int) ≤ hi - lo + 1 := by
  have a := part_len2 lo hi (0, 127, 1)
  have b := part_len2 lo hi (128, 2047, 2)
  have c := part_len2 lo hi (2048, 55295, 3)
  have d := part_len2 lo hi (57344, 65535, 3)
  have e := part_len2 lo hi (65536, 1114111, 4)
  have h : (splitL lo hi).length = (part lo hi (0, 127, 1)).length + ((part lo hi (128, 2047, 2)).length + ((part lo hi (2048, 55295, 3)).length + ((part lo hi (57344, 65535, 3)).length + (part lo hi (65536, 1114111, 4)).length))) := by
    simp [splitL, clsT]
  dsimp only at a b c d e
  omega
def ofL (B : List R) : List (List R) := B.flatMap fun p => splitL p.1 p.2
theorem ofL_succ (B : List R) (j : Nat) (hj : j < B.length) (p : R) (hp : B[j]?.getD (0, 0) = p) : ofL (B.take (j + 1)) = ofL (B.take j) ++ splitL p.1 p.2 := by
  unfold ofL
  rw [List.take_succ_eq_append_getElem hj, List.flatMap_append]
  rw [List.getElem?_eq_getElem hj] at hp
  rw [← hp]; simp
theorem ofL_len : ∀ (B : List R) (lo : Int) (k : Nat), NormFrom lo B → 0 ≤ lo → lo ≤ 1114113 → ((ofL (B.take k)).length : Int) ≤ 1114113 - lo
  | [], lo, k, _, _, h => by simp [ofL]; omega
  | p :: B, lo, 0, _, _, h => by simp [ofL]; omega
  | p :: B, lo, k + 1, ⟨h1, h2, h3, h4⟩, h0, h => by
    have ih := ofL_len B (p.2 + 2) k h4 (by omega) (by omega)
    have hs := splitL_len (lo := p.1) (hi := p.2) (by omega) h2 h3
    have e : ofL ((p :: B).take (k + 1)) = splitL p.1 p.2 ++ ofL (B.take k) := by simp [ofL]
    rw [e, List.length_append]
    push_cast
    omega
end Bd
end Go.Proofs.Ytfopcgbfbedcjaa
