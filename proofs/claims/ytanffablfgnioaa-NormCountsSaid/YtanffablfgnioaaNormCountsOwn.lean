/- burinlaw11.NormCounts: mathematics. · Rows of texts that come from without; the book's Few and Below. · burinlaw11.NormCounts, walked. -/
import Derived.Test.YtanffablfgnioaaGp39
import Derived.Test.YtanffablfgnioaaGp3
import Derived.IntWalk
import Derived.Test.YtanffablfgnioaaGp40
namespace Go.Proofs.Ytanffablfgnioaa
open Go.RowKit
open Go.Proofs.Ytanffablfgnioaa.Nm
set_option linter.unusedVariables false
namespace Nm
def repN (A B : Nat) (lz : Bool) : Nd := .mk 9 [] 0 ⟨#[]⟩ (A : Int) (B : Int) lz [la]
def optN (D : Nat) (lz : Bool) : Nd := .mk 9 [] 0 ⟨#[]⟩ 0 (D : Int) lz [la]
theorem repN_all (A B : Nat) (lz : Bool) : Td.all 1000 1 (repN A B lz) = [(1, repN A B lz), (2, la)] := rfl
theorem chk_repN {A B : Nat} (lz : Bool) (hA : A ≤ B) (hB : B ≤ 1000) : Td.checkN (repN A B lz) = 0 := by
  unfold Td.checkN
  rw [show Td.dep 1001 (repN A B lz) = 2 from rfl, if_neg (by omega), repN_all]
  refine chkF_leaves _ _ (fun p hp => ?_)
  simp only [List.mem_cons, List.not_mem_nil, or_false] at hp
  rcases hp with rfl | rfl
  · exact ⟨fitsB_rep (by omega) (by omega) (.inr (by omega)), by simp [repN, Td.kind]⟩
  · exact ⟨fitsl 97 (by omega), by simp [la, letN, Td.kind]⟩
theorem hgt_la : hgt la = 1 := by rw [hgt_eq]; rfl
theorem wt_la : wtI la = 1 := wt_1 (by simp [la, letN, Td.kind])
theorem wt_repN {A D : Nat} (lz : Bool) (hA : A + D ≤ 1000) : wtN 1000 (repN A (A + D) lz) = 1 + A + 3 * D := by
  have hh : hgt (repN A (A + D) lz) ≤ 2 := hgt_le (fun m hm => by
    have : m = la := by simpa [repN, Td.subs] using hm
    rw [this, hgt_la]; omega)
  rw [wt_st 1000 _ (by omega)]
  by_cases h0 : A = 0 ∧ D = 0
  · obtain ⟨rfl, rfl⟩ := h0
    exact wt_rep0 (by simp)
  · show wtI (.mk 9 [] 0 ⟨#[]⟩ (A : Int) ((A + D : Nat) : Int) lz [la]) = _
    rw [wt_rep (by omega), wt_la, show min 4001 1 = 1 from rfl]
    unfold repW
    rw [if_neg (by omega)]
    split
    · rw [show min ((A : Int)).toNat 4001 = A by omega, show min (((A + D : Nat) : Int) - max (A : Int) 0).toNat 4001 = D by omega]; omega
    · rw [show min ((A : Int)).toNat 4001 = A by omega]; omega
theorem catL_rep : ∀ k : Nat, catL (List.replicate k la) = List.replicate k la
  | 0 => rfl
  | k + 1 => by
    rw [List.replicate_succ, catL_cons, catL_rep k]; rfl
/-- What the core of so many letters is. -/
def cntN (A D : Nat) (lz : Bool) : List Nd := List.replicate A la ++ (if D = 0 then [] else [optN D lz])
theorem cntN_len (A D : Nat) (lz : Bool) : (cntN A D lz).length = A + if D = 0 then 0 else 1 := by
  unfold cntN
  rw [List.length_append, List.length_replicate]
  split <;> rfl
theorem core_repN (A D : Nat) (lz : Bool) : (cntN A D lz = [] → coreI (repN A (A + D) lz) = leaf1) ∧ (∀ x, cntN A D lz = [x] → coreI (repN A (A + D) lz) = x) ∧ (2 ≤ (cntN A D lz).length → coreI (repN A (A + D) lz) = .mk 7 [] 0 ⟨#[]⟩ 0 0 false (cntN A D lz)) := by
  have e : coreI (repN A (A + D) lz) = repS (repN A (A + D) lz) la := by
    rw [coreI_eq]
    show coreS (repN A (A + D) lz) [coreI la] = _
    rw [show coreI la = la from core_let 97]; rfl
  rw [e]
  have hc : A + D ≠ 0 → repS (repN A (A + D) lz) la = catN (if D = 0 then List.replicate A la else List.replicate A la ++ [optN D lz]) := fun h0 => by
    unfold repS
    rw [if_neg (by show ¬ ((A + D : Nat) : Int) = 0; omega), if_neg (by simp [la, letN, Td.kind])]
    by_cases hD : D = 0
    · rw [if_pos (by show ((A + D : Nat) : Int) = (A : Int); omega), if_pos hD]
      show catN (List.replicate ((A : Int)).toNat la) = _
      rw [Int.toNat_natCast]
    · rw [if_neg (by show ¬ ((A + D : Nat) : Int) = (A : Int); omega), if_neg hD]
      show catN (List.replicate ((A : Int)).toNat la ++ [restN (repN A (A + D) lz) la]) = _
      rw [Int.toNat_natCast]
      have : restN (repN A (A + D) lz) la = optN D lz := by
        show Nd.mk 9 [] 0 ⟨#[]⟩ 0 (if ((A + D : Nat) : Int) = -1 then -1 else ((A + D : Nat) : Int) - (A : Int)) lz [la] = Nd.mk 9 [] 0 ⟨#[]⟩ 0 (D : Int) lz [la]
        rw [if_neg (by omega), show ((A + D : Nat) : Int) - (A : Int) = (D : Int) by omega]
      rw [this]
  have hcl : A + D ≠ 0 → catL (if D = 0 then List.replicate A la else List.replicate A la ++ [optN D lz]) = cntN A D lz := fun h0 => by
    unfold cntN
    by_cases hD : D = 0
    · rw [if_pos hD, if_pos hD, catL_rep, List.append_nil]
    · rw [if_neg hD, if_neg hD]
      rw [catL_snoc, catL_rep]; rfl
  have hz : A + D = 0 → cntN A D lz = [] := fun h => by
    obtain ⟨rfl, rfl⟩ : A = 0 ∧ D = 0 := by omega
    rfl
  refine ⟨fun h => ?_, fun x h => ?_, fun h => ?_⟩
  · by_cases h0 : A + D = 0
    · obtain ⟨rfl, rfl⟩ : A = 0 ∧ D = 0 := by omega
      rfl
    · have := congrArg List.length h
      rw [cntN_len] at this
      simp only [List.length_nil] at this
      split at this <;> omega
  · have h0 : A + D ≠ 0 := fun h0 => by rw [hz h0] at h; cases h
    rw [hc h0]
    exact catN_one (by rw [hcl h0, h]; rfl) x (by rw [hcl h0, h]; rfl)
  · have h0 : A + D ≠ 0 := fun h0 => by rw [hz h0] at h; simp at h
    rw [hc h0, catN_more (by rw [hcl h0]; exact h), hcl h0]
theorem coreF_repN {A D : Nat} (lz : Bool) (hA : A + D ≤ 1000) : CoreF (repN A (A + D) lz) = if 4000 < 1 + A + 3 * D then (nil0, 110) else (coreI (repN A (A + D) lz), 0) := by
  unfold CoreF
  rw [chk_repN lz (by omega) hA, if_neg (by simp), wt_repN lz hA]
end Nm
end Go.Proofs.Ytanffablfgnioaa
namespace Go.Proofs.Ytanffablfgnioaa
open Go.RowKit
set_option linter.unusedVariables false
/-- A value that reads as a list of texts, wherever it begins. -/
def SRow (W : World) (v : Value) (L : List ByteArray) : Prop :=
  ∃ a cap, v = .slice a L.length cap ∧ L.length ≤ 8796093022208 ∧ ∀ j (hj : j < L.length), ∃ b off, a = some ⟨b, off, none⟩ ∧ b < W.heap.size ∧ W.cell? ⟨b, off + j, none⟩ = some (.string L[j]) ∧ L[j].size ≤ 140737488351232
theorem SRow.below {W W' : World} {v : Value} {L : List ByteArray} (h : SRow W v L) {B : Nat} (hB : W.heap.size ≤ B) (hb : Below B W W') : SRow W' v L := by
  obtain ⟨a, cap, hv, h1, hc⟩ := h
  refine ⟨a, cap, hv, h1, fun j hj => ?_⟩
  obtain ⟨b, off, ha, hlt, hcell, hs⟩ := hc j hj
  exact ⟨b, off, ha, Nat.lt_of_lt_of_le hlt hb.size, (hb.cell (p := ⟨b, off + j, none⟩) (by show b < B; omega)).trans hcell, hs⟩
set_option maxRecDepth 100000 in
set_option maxHeartbeats 2000000 in
theorem below_any (W : World) (n most : Int) (h0 : 1 ≤ most) (h1 : most ≤ 1000000000) (hn : I64 n) :
    Calls Try.prog 21 #[.int .i64 n, .int .i64 most] W fun e w' => ∃ k : Nat, e = .returned (.int .i64 (k : Int)) ∧ (k : Int) < most ∧ W = w' := by
  obtain ⟨hn0, hn1⟩ := hn
  have hm0 : ¬ most < 1 := by omega
  have hmz : ¬ most = 0 := by omega
  obtain ⟨r, hr⟩ : ∃ r, n.tmod most = r := ⟨_, rfl⟩
  have hr1 : r < most ∧ -most < r := by
    rw [← hr]
    have a1 := Int.tmod_lt_of_pos n (show 0 < most by omega)
    have a2 : -most < n.tmod most := by
      have a3 := Int.tmod_lt_of_pos (-n) (show 0 < most by omega)
      rw [Int.neg_tmod] at a3
      omega
    omega
  by_cases hneg : r < 0
  · obtain ⟨k, hk⟩ : ∃ k : Nat, r + most = (k : Int) := ⟨(r + most).toNat, by omega⟩
    have HK := Lib.hid hk
    go_enter Try.func21, Try.ntmps21
    go_wp2
    go_ret
    exact ⟨k, rfl, by have := HK.out; omega, rfl⟩
  · obtain ⟨k, hk⟩ : ∃ k : Nat, r = (k : Int) := ⟨r.toNat, by omega⟩
    have HK := Lib.hid hk
    go_enter Try.func21, Try.ntmps21
    go_wp2
    go_ret
    exact ⟨k, by rw [← HK.out]; rfl, by have := HK.out; omega, rfl⟩
end Go.Proofs.Ytanffablfgnioaa
namespace Go.Proofs.Ytanffablfgnioaa
open Go.RowKit
open Go.Proofs.Ytanffablfgnioaa.Nm
set_option linter.unusedVariables false
set_option linter.unusedSimpArgs false
theorem i64_of_wf11 {a : Int} (hm : (Lit.int .i64 a).wf = true) : I64 a := by
  have q1 : IntKind.i64.min = -9223372036854775808 := rfl
  have q2 : IntKind.i64.max = 9223372036854775807 := rfl
  simp [Lit.wf, q1, q2] at hm
  exact hm
theorem lst_la (j : Nat) (l : List Nd) (h : l = List.replicate (j + 1) la) : l[j]? = some la := by rw [h]; simp
theorem lst_opt (j D : Nat) (lz : Bool) (l : List Nd) (h : l = List.replicate j la ++ [optN D lz]) : l[j]? = some (optN D lz) := by rw [h]; simp
set_option maxRecDepth 100000 in
set_option maxHeartbeats 16000000 in
theorem walkNormCounts (W : World) (a b : Int) (lz : Bool) (ha : (Lit.int .i64 a).wf = true) (hb : (Lit.int .i64 b).wf = true) : Calls Try.prog 6 #[.int .i64 a, .int .i64 b, .bool lz] W fun e w' => e = .returned (.bool true) ∧ Below W.heap.size W w' := by
  have ha2 := i64_of_wf11 ha
  have hb2 := i64_of_wf11 hb
  have i97 : I64 97 := by unfold I64; omega
  have HBL := Lib.hid (fun w => below_any w a 1001 (by omega) (by omega) ha2)
  have HBL2 := Lib.hid (fun w (A : Nat) (hA : A ≤ 1000) => below_any w b (1001 - (A : Int)) (by omega) (by omega) hb2)
  clear ha hb ha2 hb2
  go_enter Try.func6, Try.ntmps6
  go_wp2_with fail
  refine (works11_any W).mono ?_
  rintro e w1 ⟨rfl, hb1⟩
  have HB1 := Lib.hid hb1
  clear hb1
  go_wp2_with fail
  refine (HBL.out w1).mono ?_
  rintro e wa ⟨A, rfl, hA, rfl⟩
  have hA1 : A ≤ 1000 := by omega
  have wA : IntKind.i64.wrap (1001 - (A : Int)) = 1001 - (A : Int) := by rw [IntKind.wrap_i64]; omega
  go_wp2_with fail
  refine (HBL2.out w1 A hA1).mono ?_
  rintro e wa ⟨D, rfl, hD, rfl⟩
  have hAD : A + D ≤ 1000 := by omega
  obtain ⟨B, hB⟩ : ∃ B : Nat, A + D = B := ⟨_, rfl⟩
  have wD : IntKind.i64.wrap ((A : Int) + (D : Int)) = (B : Int) := by rw [IntKind.wrap_i64]; omega
  have HBD := Lib.hid hB
  have HAD := Lib.hid hAD
  clear hB hAD
  go_wp2_with fail
  refine (let11_any w1 97 i97).mono ?_
  rintro e w2 ⟨rfl, hn2, hb2⟩
  obtain ⟨W3, hW3⟩ : ∃ W3, w2.alloc (.cells #[.int .i64 3, .slice (some ⟨w1.heap.size + 1, 0, none⟩) 1 1, .int .i64 0, .string ⟨#[]⟩, .int .i64 0, .int .i64 0, .bool false, .slice none 0 0] 25) = W3 := ⟨_, rfl⟩
  have hb3 : Below w2.heap.size w2 W3 := by rw [← hW3]; exact (Below.refl _ _).alloc (Nat.le_refl _) _
  have HB3 := Lib.hid ((HB1.out.trans (hb2.mono HB1.out.size)).trans (hb3.mono (HB1.out.trans (hb2.mono HB1.out.size)).size))
  have hs3 : W3.heap.size = w2.heap.size + 1 := by rw [← hW3]; simp
  have HNA := hn2.kept hb3
  have HR3 := row_alloc (one_row HNA) 9 (A : Int) ((A + D : Nat) : Int) lz (i64_s (by omega)) (i64_s (by omega)) (i64_s (by have := HAD.out; omega)) #[.int .i64 3, .slice (some ⟨w1.heap.size + 1, 0, none⟩) 1 1, .int .i64 0, .string ⟨#[]⟩, .int .i64 0, .int .i64 0, .bool false, .slice none 0 0] rfl (by simp) 1 rfl
  have HCO := Lib.hid (bigCore_any _ (repN A (A + D) lz) _ HR3 (by rw [repN_all]; simp))
  rw [coreF_repN lz HAD.out, hs3, HBD.out, ← hW3] at HCO
  have HB4 : Hid (Below W.heap.size W (W3.alloc (.cells #[.int .i64 3, .slice (some ⟨w1.heap.size + 1, 0, none⟩) 1 1, .int .i64 0, .string ⟨#[]⟩, .int .i64 0, .int .i64 0, .bool false, .slice none 0 0] 25))) := Lib.hid (HB3.out.alloc HB3.out.size _)
  rw [← hW3] at HB4
  clear hW3 hb3 hs3 HNA HR3 hn2 hb2 HB3 HB1 HBL HBL2 wA hA hD
  have w1x : IntKind.i64.wrap (1 + (A : Int)) = 1 + (A : Int) := by rw [IntKind.wrap_i64]; omega
  have hB := HBD.out
  have hAD := HAD.out
  have w2x : IntKind.i64.wrap ((B : Int) - (A : Int)) = (D : Int) := by rw [IntKind.wrap_i64]; omega
  have w3x : IntKind.i64.wrap (3 * (D : Int)) = 3 * (D : Int) := by rw [IntKind.wrap_i64]; omega
  have w4x : IntKind.i64.wrap (1 + (A : Int) + 3 * (D : Int)) = 1 + (A : Int) + 3 * (D : Int) := by rw [IntKind.wrap_i64]; omega
  have HCR := Lib.hid (core_repN A D lz)
  rw [hB] at HCR
  have hBi : (B : Int) = (A : Int) + (D : Int) := by omega
  have HBI := Lib.hid hBi
  clear hBi
  by_cases hw : 4000 < 1 + A + 3 * D
  · rw [if_pos hw] at HCO
    have hw' : (4000 : Int) < 1 + (A : Int) + 3 * (D : Int) := by omega
    clear hAD hB
    go_wp2_with fail
    refine HCO.out.mono ?_
    rintro e w4 ⟨c4, rfl, hn4, hb4⟩
    obtain ⟨vs4, a4, cap4, Y4, hxe4, hset4, -, -⟩ := hn4.parts
    obtain ⟨ta, tk, tc, rfl⟩ : ∃ a k c, vs4 = .slice a k c := by obtain ⟨a, c, h, -⟩ := hset4.1; exact ⟨a, _, c, h⟩
    subst hxe4
    have HB5 := Lib.hid (HB4.out.trans (hb4.mono HB4.out.size))
    clear hn4 hb4 hset4
    go_wp2
    go_ret
    exact ⟨rfl, HB5.out.alloc HB5.out.size _⟩
  rw [if_neg hw] at HCO
  have hw' : ¬ (4000 : Int) < 1 + (A : Int) + 3 * (D : Int) := by omega
  by_cases hD0 : D = 0
  · subst hD0
    obtain rfl : A = B := by omega
    have d0 : ¬ (A : Int) < (A : Int) := by omega
    by_cases hA0 : A = 0
    · subst hA0
      have HTE : Hid (coreI (repN 0 0 lz) = leaf1) := Lib.hid (HCR.out.1 rfl)
      rw [HTE.out] at HCO
      clear hAD hB
      go_wp2_with fail
      refine HCO.out.mono ?_
      rintro e w4 ⟨c4, rfl, hn4, hb4⟩
      obtain ⟨vs4, a4, cap4, Y4, hxe4, hset4, -, -⟩ := hn4.parts
      obtain ⟨ta, tk, tc, rfl⟩ : ∃ a k c, vs4 = .slice a k c := by obtain ⟨a, c, h, -⟩ := hset4.1; exact ⟨a, _, c, h⟩
      replace hxe4 : c4 = ([.int .i64 1, .slice ta tk tc, .int .i64 0, .string ⟨#[]⟩, .int .i64 0, .int .i64 0, .bool false, .slice a4 0 cap4] : List Value) := hxe4
      subst hxe4
      have HB5 := Lib.hid (HB4.out.trans (hb4.mono HB4.out.size))
      clear hn4 hb4 hset4
      go_wp2
      go_ret
      exact ⟨rfl, HB5.out.alloc HB5.out.size _⟩
    by_cases hA1' : A = 1
    · subst hA1'
      have HTE : Hid (coreI (repN 1 1 lz) = la) := Lib.hid (HCR.out.2.1 la rfl)
      rw [HTE.out] at HCO
      clear hAD hB
      go_wp2_with fail
      refine HCO.out.mono ?_
      rintro e w4 ⟨c4, rfl, hn4, hb4⟩
      obtain ⟨vs4, a4, cap4, Y4, hxe4, hset4, -, -⟩ := hn4.parts
      obtain ⟨ta, tk, tc, rfl⟩ : ∃ a k c, vs4 = .slice a k c := by obtain ⟨a, c, h, -⟩ := hset4.1; exact ⟨a, _, c, h⟩
      replace hxe4 : c4 = ([.int .i64 3, .slice ta tk tc, .int .i64 0, .string ⟨#[]⟩, .int .i64 0, .int .i64 0, .bool false, .slice a4 0 cap4] : List Value) := hxe4
      subst hxe4
      have HB5 := Lib.hid (HB4.out.trans (hb4.mono HB4.out.size))
      clear hn4 hb4 hset4
      go_wp2
      go_ret
      exact ⟨rfl, HB5.out.alloc HB5.out.size _⟩
    · obtain ⟨j, hj⟩ : ∃ j, A = j + 1 := ⟨A - 1, by omega⟩
      subst hj
      have hj1 : 1 ≤ j := by omega
      have z0 : ¬ ((j + 1 : Nat) : Int) = 0 := by omega
      have z1 : ¬ ((j + 1 : Nat) : Int) = 1 := by omega
      have wj : IntKind.i64.wrap (((j + 1 : Nat) : Int) - 1) = (j : Int) := by rw [IntKind.wrap_i64]; omega
      have j0 : (0 : Int) ≤ (j : Int) := by omega
      have j1 : (j : Int) < ((j + 1 : Nat) : Int) := by omega
      have HTE : Hid (coreI (repN (j + 1) (j + 1) lz) = .mk 7 [] 0 ⟨#[]⟩ 0 0 false (List.replicate (j + 1) la)) := Lib.hid (by
        have h9 : cntN (j + 1) 0 lz = List.replicate (j + 1) la := by unfold cntN; rw [if_pos rfl, List.append_nil]
        have := HCR.out.2.2 (by rw [h9, List.length_replicate]; omega)
        rw [h9] at this; exact this)
      rw [HTE.out] at HCO
      clear hAD hB
      go_wp2_with fail
      refine HCO.out.mono ?_
      rintro e w4 ⟨c4, rfl, hn4, hb4⟩
      obtain ⟨vs4, a4, cap4, Y4, hxe4, hset4, -, -⟩ := hn4.parts
      obtain ⟨ta, tk, tc, rfl⟩ : ∃ a k c, vs4 = .slice a k c := by obtain ⟨a, c, h, -⟩ := hset4.1; exact ⟨a, _, c, h⟩
      replace hxe4 : c4 = ([.int .i64 7, .slice ta tk tc, .int .i64 0, .string ⟨#[]⟩, .int .i64 0, .int .i64 0, .bool false, .slice a4 (j + 1) cap4] : List Value) := by rw [hxe4]; show _ = _; simp [Td.kind, Td.num, Td.name, Td.mn, Td.mx, Td.lazy, Td.subs]
      subst hxe4
      have HB5 := Lib.hid (HB4.out.trans (hb4.mono HB4.out.size))
      obtain ⟨W5, hW5⟩ : ∃ W5, w4.alloc (.cells #[.int .i64 7, .slice ta tk tc, .int .i64 0, .string ⟨#[]⟩, .int .i64 0, .int .i64 0, .bool false, .slice a4 (j + 1) cap4] 25) = W5 := ⟨_, rfl⟩
      have hb5 : Below w4.heap.size w4 W5 := by rw [← hW5]; exact (Below.refl _ _).alloc (Nat.le_refl _) _
      have hn5 := hn4.is.kept hb5
      obtain ⟨vs', a', cap', C', hC'⟩ := hn5.cells
      obtain ⟨g, off, m', u0, u1, u2, u3, u4, u5, u6, u7, ha', hg, hm', hnd, q0, q1, q2, q3, q4, q5, q6, q7⟩ := hC'.sub j (by show j < (List.replicate (j + 1) la).length; simp)
      have hea : a4 = a' := by
        have := hC'.eq
        simp only [List.cons.injEq, Value.slice.injEq] at this
        exact this.2.2.2.2.2.2.2.1.1
      rw [ha'] at hea
      subst hea
      obtain rfl : m' = la := by
        have h9 : (List.replicate (j + 1) la)[j]? = some la := lst_la j _ rfl
        exact (Option.some.inj (h9.symm.trans hm')).symm
      obtain ⟨e1, e2, e3, e4, F1⟩ := hnd.form
      obtain ⟨rfl, rfl, rfl, rfl, rfl, rfl, rfl, rfl⟩ := F1
      replace q0 : W5.cell? ⟨g, off + j * 8, none⟩ = some (.int .i64 3) := q0
      replace q2 : W5.cell? ⟨g, off + j * 8 + 2, none⟩ = some (.int .i64 0) := q2
      replace q3 : W5.cell? ⟨g, off + j * 8 + 3, none⟩ = some (.string ⟨#[]⟩) := q3
      replace q4 : W5.cell? ⟨g, off + j * 8 + 4, none⟩ = some (.int .i64 0) := q4
      replace q5 : W5.cell? ⟨g, off + j * 8 + 5, none⟩ = some (.int .i64 0) := q5
      replace q6 : W5.cell? ⟨g, off + j * 8 + 6, none⟩ = some (.bool false) := q6
      have hx5 : W5.heap[w4.heap.size]? = some (.cells #[.int .i64 7, .slice ta tk tc, .int .i64 0, .string ⟨#[]⟩, .int .i64 0, .int .i64 0, .bool false, .slice (some ⟨g, off, none⟩) (j + 1) cap4] 25 (0, 0)) := by rw [← hW5]; exact heap_alloc_new _ _
      obtain ⟨p0, p1, p2, p3, p4, p5, p6, p7⟩ := nbox_cells hx5
      rw [← hW5] at p0 p1 p2 p3 p4 p5 p6 p7 q0 q1 q2 q3 q4 q5 q6 q7
      clear hW5 hb5 hn5 hC' hx5 hnd hm' hg
      clear hn4 hb4 hset4
      go_wp2
      go_ret
      exact ⟨rfl, (HB5.out.alloc HB5.out.size _).alloc (by have := HB5.out.size; simp; omega) _⟩
  have dp : (A : Int) < (B : Int) := by omega
  by_cases hA0 : A = 0
  · subst hA0
    obtain rfl : D = B := by omega
    have hDi : ¬ (D : Int) = 0 := by omega
    have HTE : Hid (coreI (repN 0 D lz) = optN D lz) := Lib.hid (HCR.out.2.1 (optN D lz) (by unfold cntN; rw [if_neg hD0]; rfl))
    rw [HTE.out] at HCO
    clear hAD hB
    go_wp2_with fail
    refine HCO.out.mono ?_
    rintro e w4 ⟨c4, rfl, hn4, hb4⟩
    obtain ⟨vs4, a4, cap4, Y4, hxe4, hset4, -, -⟩ := hn4.parts
    obtain ⟨ta, tk, tc, rfl⟩ : ∃ a k c, vs4 = .slice a k c := by obtain ⟨a, c, h, -⟩ := hset4.1; exact ⟨a, _, c, h⟩
    replace hxe4 : c4 = ([.int .i64 9, .slice ta tk tc, .int .i64 0, .string ⟨#[]⟩, .int .i64 0, .int .i64 (D : Int), .bool lz, .slice a4 1 cap4] : List Value) := hxe4
    subst hxe4
    have HB5 := Lib.hid (HB4.out.trans (hb4.mono HB4.out.size))
    clear hn4 hb4 hset4
    go_wp2
    go_ret
    exact ⟨rfl, HB5.out.alloc HB5.out.size _⟩
  · obtain ⟨j, hj⟩ : ∃ j, A = j := ⟨A, rfl⟩
    subst hj
    have hj1 : 1 ≤ A := by omega
    have wA1 : IntKind.i64.wrap ((A : Int) + 1) = ((A + 1 : Nat) : Int) := by rw [IntKind.wrap_i64]; omega
    have z0 : ¬ ((A + 1 : Nat) : Int) = 0 := by omega
    have z1 : ¬ ((A + 1 : Nat) : Int) = 1 := by omega
    have wj : IntKind.i64.wrap (((A + 1 : Nat) : Int) - 1) = (A : Int) := by rw [IntKind.wrap_i64]; omega
    have j0 : (0 : Int) ≤ (A : Int) := by omega
    have j1 : (A : Int) < ((A + 1 : Nat) : Int) := by omega
    have dne : ¬ (B : Int) = (A : Int) := by omega
    have HTE : Hid (coreI (repN A B lz) = .mk 7 [] 0 ⟨#[]⟩ 0 0 false (List.replicate A la ++ [optN D lz])) := Lib.hid (by
      have h9 : cntN A D lz = List.replicate A la ++ [optN D lz] := by unfold cntN; rw [if_neg hD0]
      have := HCR.out.2.2 (by rw [h9]; simp; omega)
      rw [h9] at this; exact this)
    rw [HTE.out] at HCO
    clear hAD hB
    go_wp2_with fail
    refine HCO.out.mono ?_
    rintro e w4 ⟨c4, rfl, hn4, hb4⟩
    obtain ⟨vs4, a4, cap4, Y4, hxe4, hset4, -, -⟩ := hn4.parts
    obtain ⟨ta, tk, tc, rfl⟩ : ∃ a k c, vs4 = .slice a k c := by obtain ⟨a, c, h, -⟩ := hset4.1; exact ⟨a, _, c, h⟩
    replace hxe4 : c4 = ([.int .i64 7, .slice ta tk tc, .int .i64 0, .string ⟨#[]⟩, .int .i64 0, .int .i64 0, .bool false, .slice a4 (A + 1) cap4] : List Value) := by rw [hxe4]; show _ = _; simp [Td.kind, Td.num, Td.name, Td.mn, Td.mx, Td.lazy, Td.subs]
    subst hxe4
    have HB5 := Lib.hid (HB4.out.trans (hb4.mono HB4.out.size))
    obtain ⟨W5, hW5⟩ : ∃ W5, w4.alloc (.cells #[.int .i64 7, .slice ta tk tc, .int .i64 0, .string ⟨#[]⟩, .int .i64 0, .int .i64 0, .bool false, .slice a4 (A + 1) cap4] 25) = W5 := ⟨_, rfl⟩
    have hb5 : Below w4.heap.size w4 W5 := by rw [← hW5]; exact (Below.refl _ _).alloc (Nat.le_refl _) _
    have hn5 := hn4.is.kept hb5
    obtain ⟨vs', a', cap', C', hC'⟩ := hn5.cells
    obtain ⟨g, off, m', u0, u1, u2, u3, u4, u5, u6, u7, ha', hg, hm', hnd, q0, q1, q2, q3, q4, q5, q6, q7⟩ := hC'.sub A (by show A < (List.replicate A la ++ [optN D lz]).length; simp)
    have hea : a4 = a' := by
      have := hC'.eq
      simp only [List.cons.injEq, Value.slice.injEq] at this
      exact this.2.2.2.2.2.2.2.1.1
    rw [ha'] at hea
    subst hea
    obtain rfl : m' = (optN D lz) := by
      have h9 : (List.replicate A la ++ [optN D lz])[A]? = some (optN D lz) := lst_opt A D lz _ rfl
      exact (Option.some.inj (h9.symm.trans hm')).symm
    obtain ⟨e1, e2, e3, e4, F1⟩ := hnd.form
    obtain ⟨rfl, rfl, rfl, rfl, rfl, rfl, rfl, rfl⟩ := F1
    replace q0 : W5.cell? ⟨g, off + A * 8, none⟩ = some (.int .i64 9) := q0
    replace q2 : W5.cell? ⟨g, off + A * 8 + 2, none⟩ = some (.int .i64 0) := q2
    replace q3 : W5.cell? ⟨g, off + A * 8 + 3, none⟩ = some (.string ⟨#[]⟩) := q3
    replace q4 : W5.cell? ⟨g, off + A * 8 + 4, none⟩ = some (.int .i64 0) := q4
    replace q5 : W5.cell? ⟨g, off + A * 8 + 5, none⟩ = some (.int .i64 (D : Int)) := q5
    replace q6 : W5.cell? ⟨g, off + A * 8 + 6, none⟩ = some (.bool lz) := q6
    have hx5 : W5.heap[w4.heap.size]? = some (.cells #[.int .i64 7, .slice ta tk tc, .int .i64 0, .string ⟨#[]⟩, .int .i64 0, .int .i64 0, .bool false, .slice (some ⟨g, off, none⟩) (A + 1) cap4] 25 (0, 0)) := by rw [← hW5]; exact heap_alloc_new _ _
    obtain ⟨p0, p1, p2, p3, p4, p5, p6, p7⟩ := nbox_cells hx5
    rw [← hW5] at p0 p1 p2 p3 p4 p5 p6 p7 q0 q1 q2 q3 q4 q5 q6 q7
    clear hW5 hb5 hn5 hC' hx5 hnd hm' hg
    clear hn4 hb4 hset4
    go_wp2
    go_ret
    exact ⟨rfl, (HB5.out.alloc HB5.out.size _).alloc (by have := HB5.out.size; simp; omega) _⟩
end Go.Proofs.Ytanffablfgnioaa
