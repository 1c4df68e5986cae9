/- The landed lex: the numbers in braces. -/
import Derived.Test.YtanffablfgnioaaGreatDoorGp34
namespace Go.Proofs.YtanffablfgnioaaGreatDoor
open Go.RowKit
open Lx (Tk TR)
set_option linter.unusedVariables false
theorem drop_extract' (s : ByteArray) (k : Nat) : (⟨(s.data.toList.drop k).toArray⟩ : ByteArray) = s.extract k s.size := by
  apply ByteArray.ext
  rw [ByteArray.data_extract]
  apply Array.toList_inj.1
  rw [Array.toList_extract, List.extract_eq_take_drop, List.take_of_length_le (by simp)]
/-- What Cut at one byte hands back, both parts told. -/
theorem cut_1r (W : World) (s : ByteArray) (hs : s.size ≤ 100000) (c : UInt8) (hE : Ev W) : Calls Tryz.prog 60 #[.string s, .string ⟨#[c]⟩] W fun e w' =>
    e = .returned (.tuple #[.string (s.extract 0 (Br.upTo (c.toNat : Int) (Utf.nums s))), .string (s.extract (Br.upTo (c.toNat : Int) (Utf.nums s) + 1) s.size), .bool (decide (Br.upTo (c.toNat : Int) (Utf.nums s) ≠ s.size))]) ∧ ∃ n, w' = W.drewN n := by
  obtain ⟨m, hm⟩ := hE.max
  have h9 := Any.strings_Cut (P := Tryz.prog) Tryz.layCut s ⟨#[c]⟩ m W (by omega) hm
  change Calls Tryz.prog 60 _ _ _ at h9
  refine h9.mono ?_
  rintro e w' ⟨he, hw⟩
  refine ⟨?_, hw⟩
  have hc := Br.cut_of1 s c
  have hle := Br.upTo_le (c.toNat : Int) (Utf.nums s)
  rw [Utf.nums_length] at hle
  obtain ⟨k, hk⟩ : ∃ k, Br.upTo (c.toNat : Int) (Utf.nums s) = k := ⟨_, rfl⟩
  rw [hk] at hc hle ⊢
  by_cases h : k = s.size
  · rw [hc.1 h] at he
    rw [he, h, extract_all, decide_eq_false (by simp), ← drop_extract' s (s.size + 1), List.drop_of_length_le (by rw [show s.data.toList.length = s.size from Array.length_toList]; omega)]
  · obtain ⟨b, hb⟩ := hc.2 h
    have hb2 : b = s.data.toList.drop (k + 1) := by
      have hi : 0 ≤ Lib.index s.data.toList [c] := by
        unfold Lib.cut at hb
        by_cases h0 : 0 ≤ Lib.index s.data.toList [c]
        · exact h0
        · rw [if_neg h0] at hb; simp at hb
      unfold Lib.cut at hb
      rw [if_pos hi] at hb
      have h1 := congrArg Prod.fst hb
      have h2 := congrArg (fun p => p.2.1) hb
      dsimp only at h1 h2
      have hl : s.data.toList.length = s.size := Array.length_toList
      have e : (Lib.index s.data.toList [c]).toNat = k := by
        have l1 := congrArg List.length h1
        rw [List.length_take, List.length_take, hl] at l1
        have l2 := congrArg List.length h2
        rw [List.length_drop, hl] at l2
        rcases Nat.lt_or_ge (Lib.index s.data.toList [c]).toNat s.size with g | g
        · omega
        · exfalso
          omega
      rw [← h2, e]; rfl
    rw [hb] at he
    rw [he, decide_eq_true h, ← Br.take_extract, ← drop_extract', hb2]
def partsX (j m k n : Nat) (x1 x2 : Option Int) : Int × Int × Nat :=
  if j = m then (0, 0, 0) else
  match x1 with
  | none => (0, 0, 0)
  | some lo => if k = n then (lo, lo, j + 2) else if k + 1 = n then (lo, -1, j + 2) else
    match x2 with
    | none => (0, 0, 0)
    | some hi => (lo, hi, j + 2)
/-- The numbers in braces, by their parts. -/
theorem countsX_parts (l : List Int) (j k : Nat) (B : List Int) (hj : Br.upTo 125 (l.drop 1) = j) (hB : (l.drop 1).take j = B) (hk : Br.upTo 44 B = k) :
    Lx.countsX l = partsX j (l.drop 1).length k B.length (Lx.cntX (B.take k)) (Lx.cntX (B.drop (k + 1))) := by
  unfold Lx.countsX Lx.bodyX partsX
  rw [hj, hB, hk]
  by_cases h : j = (l.drop 1).length
  · rw [if_pos h, if_pos h]
  · rw [if_neg h, if_neg h]
    cases Lx.cntX (B.take k) with
    | none => rfl
    | some lo =>
      dsimp only
      by_cases h1 : k = B.length
      · rw [if_pos h1, if_pos h1]
      · rw [if_neg h1, if_neg h1]
        by_cases h2 : k + 1 = B.length
        · rw [if_pos h2, if_pos h2]
        · rw [if_neg h2, if_neg h2]
          cases Lx.cntX (B.drop (k + 1)) with
          | none => rfl
          | some hi => rfl
set_option maxRecDepth 100000 in
set_option maxHeartbeats 8000000 in
theorem counts_any (W : World) (s : ByteArray) (hs : s.size ≤ 4096) (h1 : 1 ≤ s.size) (hE : Ev W) : Calls Tryz.prog 33 #[.string s] W fun e w' =>
    e = .returned (.tuple #[.int .i64 (Lx.countsX (Utf.nums s)).1, .int .i64 (Lx.countsX (Utf.nums s)).2.1, .int .i64 ((Lx.countsX (Utf.nums s)).2.2 : Nat)]) ∧ Below W.heap.size W w' := by
  have HE := Lib.hid hE
  have h1i : (1 : Int) ≤ (s.size : Int) := by omega
  obtain ⟨r, hr⟩ : ∃ r, s.extract 1 s.size = r := ⟨_, rfl⟩
  have hnr : Utf.nums r = (Utf.nums s).drop 1 := by rw [← hr]; exact tail_drop s 1
  have hzr : r.size = s.size - 1 := by rw [← hr, ByteArray.size_extract]; omega
  obtain ⟨j, hj⟩ : ∃ j, Br.upTo 125 (Utf.nums r) = j := ⟨_, rfl⟩
  have hjl := Br.upTo_le 125 (Utf.nums r)
  rw [Utf.nums_length, hj] at hjl
  obtain ⟨b, hb⟩ : ∃ b, r.extract 0 j = b := ⟨_, rfl⟩
  have hzb : b.size = j := by rw [← hb, ByteArray.size_extract]; omega
  have hnb : Utf.nums b = ((Utf.nums s).drop 1).take j := by rw [← hb, Utf.nums_extract, ← hnr]; simp
  obtain ⟨k, hk⟩ : ∃ k, Br.upTo 44 (Utf.nums b) = k := ⟨_, rfl⟩
  have hkl := Br.upTo_le 44 (Utf.nums b)
  rw [Utf.nums_length, hk, hzb] at hkl
  have hcp := countsX_parts (Utf.nums s) j k (Utf.nums b) (by rw [← hnr]; exact hj) hnb.symm hk
  rw [← hnr, Utf.nums_length, Utf.nums_length, hzb] at hcp
  obtain ⟨f, hf⟩ : ∃ f, b.extract 0 k = f := ⟨_, rfl⟩
  obtain ⟨g, hg⟩ : ∃ g, b.extract (k + 1) b.size = g := ⟨_, rfl⟩
  have hnf : Utf.nums f = (Utf.nums b).take k := by rw [← hf, Utf.nums_extract]; simp
  have hng : Utf.nums g = (Utf.nums b).drop (k + 1) := by rw [← hg]; exact tail_drop b (k + 1)
  have hzf : f.size ≤ 4096 := by rw [← hf, ByteArray.size_extract]; omega
  have hzg : g.size = j - (k + 1) := by rw [← hg, ByteArray.size_extract]; omega
  rw [← hnf, ← hng] at hcp
  have HC1 := Lib.hid (fun w (hw : Ev w) => cut_1r w r (by omega) 125 hw)
  rw [show (((125 : UInt8).toNat : Nat) : Int) = 125 from rfl, hj, hb] at HC1
  have HC2 := Lib.hid (fun w (hw : Ev w) => cut_1r w b (by omega) 44 hw)
  rw [show (((44 : UInt8).toNat : Nat) : Int) = 44 from rfl, hk, hf, hg, hzb] at HC2
  have HN1 := Lib.hid (fun w => count_any w f hzf)
  have HN2 := Lib.hid (fun w => count_any w g (by omega))
  obtain ⟨R, hR⟩ : ∃ R, Lx.countsX (Utf.nums s) = R := ⟨_, rfl⟩
  rw [hR] at hcp ⊢
  obtain ⟨x1, hx1⟩ : ∃ x, Lx.cntX (Utf.nums f) = x := ⟨_, rfl⟩
  obtain ⟨x2, hx2⟩ : ∃ x, Lx.cntX (Utf.nums g) = x := ⟨_, rfl⟩
  rw [hx1] at hcp HN1
  rw [hx2] at hcp HN2
  obtain ⟨rest, hrest⟩ : ∃ q, r.extract (j + 1) r.size = q := ⟨_, rfl⟩
  rw [hrest] at HC1
  have HCP := Lib.hid hcp
  have HR9 := Lib.hid hr
  have hjw : -9223372036854775808 ≤ (j : Int) ∧ (j : Int) ≤ 10000 := by omega
  have HZB : Hid (b.size = j) := Lib.hid hzb
  clear hnr hj hb hnb hk hcp hf hnf hng hR hx1 hx2 hrest hE hg
  by_cases e1 : j = r.size
  · have qE : decide (j ≠ r.size) = false := by simp [e1]
    rw [qE] at HC1
    by_cases e2 : k = j
    · have qC : decide (k ≠ j) = false := by simp [e2]
      rw [qC] at HC2
      have hg0 : g = ⟨#[]⟩ := by
        apply Br.nums_inj'
        rw [List.length_eq_zero_iff.1 ((Utf.nums_length g).trans (by omega))]; rfl
      subst hg0
      cases x1 with
      | none =>
        cases x2 with
        | none =>
          have HRR : Hid (R = (0, 0, 0)) := Lib.hid (HCP.out.trans (by simp [partsX, e1]))
          clear HCP qE qC e1 e2
          go_enter Tryz.func33, Tryz.ntmps33
          go_wp2_with fail
          refine (HC1.out _ HE.out).mono ?_
          rintro e w1 ⟨rfl, n1, rfl⟩
          go_wp2_with fail
          refine (HC2.out _ (HE.out.drewN n1)).mono ?_
          rintro e w1 ⟨rfl, n2, rfl⟩
          go_wp2_with fail
          refine (HN1.out _).mono ?_
          rintro e w1 ⟨rfl, hb1⟩
          have HB1 := Lib.hid ((below_drewNr (Below.refl W.heap.size W) (n1 + n2)).trans (hb1.mono (Nat.le_refl _)))
          clear hb1
          go_wp2_with fail
          refine (HN2.out _).mono ?_
          rintro e w2 ⟨rfl, hb2⟩
          have HB2 := Lib.hid (HB1.out.trans (hb2.mono HB1.out.size))
          clear hb2
          go_wp2
          go_ret3
          exact ⟨by rw [HRR.out]; rfl, HB2.out⟩
        | some hi =>
          have HRR : Hid (R = (0, 0, 0)) := Lib.hid (HCP.out.trans (by simp [partsX, e1]))
          clear HCP qE qC e1 e2
          go_enter Tryz.func33, Tryz.ntmps33
          go_wp2_with fail
          refine (HC1.out _ HE.out).mono ?_
          rintro e w1 ⟨rfl, n1, rfl⟩
          go_wp2_with fail
          refine (HC2.out _ (HE.out.drewN n1)).mono ?_
          rintro e w1 ⟨rfl, n2, rfl⟩
          go_wp2_with fail
          refine (HN1.out _).mono ?_
          rintro e w1 ⟨rfl, hb1⟩
          have HB1 := Lib.hid ((below_drewNr (Below.refl W.heap.size W) (n1 + n2)).trans (hb1.mono (Nat.le_refl _)))
          clear hb1
          go_wp2_with fail
          refine (HN2.out _).mono ?_
          rintro e w2 ⟨rfl, hb2⟩
          have HB2 := Lib.hid (HB1.out.trans (hb2.mono HB1.out.size))
          clear hb2
          go_wp2
          go_ret3
          exact ⟨by rw [HRR.out]; rfl, HB2.out⟩
      | some lo =>
        cases x2 with
        | none =>
          have HRR : Hid (R = (0, 0, 0)) := Lib.hid (HCP.out.trans (by simp [partsX, e1]))
          clear HCP qE qC e1 e2
          go_enter Tryz.func33, Tryz.ntmps33
          go_wp2_with fail
          refine (HC1.out _ HE.out).mono ?_
          rintro e w1 ⟨rfl, n1, rfl⟩
          go_wp2_with fail
          refine (HC2.out _ (HE.out.drewN n1)).mono ?_
          rintro e w1 ⟨rfl, n2, rfl⟩
          go_wp2_with fail
          refine (HN1.out _).mono ?_
          rintro e w1 ⟨rfl, hb1⟩
          have HB1 := Lib.hid ((below_drewNr (Below.refl W.heap.size W) (n1 + n2)).trans (hb1.mono (Nat.le_refl _)))
          clear hb1
          go_wp2_with fail
          refine (HN2.out _).mono ?_
          rintro e w2 ⟨rfl, hb2⟩
          have HB2 := Lib.hid (HB1.out.trans (hb2.mono HB1.out.size))
          clear hb2
          go_wp2
          go_ret3
          exact ⟨by rw [HRR.out]; rfl, HB2.out⟩
        | some hi =>
          have HRR : Hid (R = (0, 0, 0)) := Lib.hid (HCP.out.trans (by simp [partsX, e1]))
          clear HCP qE qC e1 e2
          go_enter Tryz.func33, Tryz.ntmps33
          go_wp2_with fail
          refine (HC1.out _ HE.out).mono ?_
          rintro e w1 ⟨rfl, n1, rfl⟩
          go_wp2_with fail
          refine (HC2.out _ (HE.out.drewN n1)).mono ?_
          rintro e w1 ⟨rfl, n2, rfl⟩
          go_wp2_with fail
          refine (HN1.out _).mono ?_
          rintro e w1 ⟨rfl, hb1⟩
          have HB1 := Lib.hid ((below_drewNr (Below.refl W.heap.size W) (n1 + n2)).trans (hb1.mono (Nat.le_refl _)))
          clear hb1
          go_wp2_with fail
          refine (HN2.out _).mono ?_
          rintro e w2 ⟨rfl, hb2⟩
          have HB2 := Lib.hid (HB1.out.trans (hb2.mono HB1.out.size))
          clear hb2
          go_wp2
          go_ret3
          exact ⟨by rw [HRR.out]; rfl, HB2.out⟩
    have qC : decide (k ≠ j) = true := by simp [e2]
    rw [qC] at HC2
    by_cases e3 : k + 1 = j
    · have hg0 : g = ⟨#[]⟩ := by
        apply Br.nums_inj'
        rw [List.length_eq_zero_iff.1 ((Utf.nums_length g).trans (by omega))]; rfl
      subst hg0
      cases x1 with
      | none =>
        cases x2 with
        | none =>
          have HRR : Hid (R = (0, 0, 0)) := Lib.hid (HCP.out.trans (by simp [partsX, e1]))
          clear HCP qE qC e1 e2 e3
          go_enter Tryz.func33, Tryz.ntmps33
          go_wp2_with fail
          refine (HC1.out _ HE.out).mono ?_
          rintro e w1 ⟨rfl, n1, rfl⟩
          go_wp2_with fail
          refine (HC2.out _ (HE.out.drewN n1)).mono ?_
          rintro e w1 ⟨rfl, n2, rfl⟩
          go_wp2_with fail
          refine (HN1.out _).mono ?_
          rintro e w1 ⟨rfl, hb1⟩
          have HB1 := Lib.hid ((below_drewNr (Below.refl W.heap.size W) (n1 + n2)).trans (hb1.mono (Nat.le_refl _)))
          clear hb1
          go_wp2_with fail
          refine (HN2.out _).mono ?_
          rintro e w2 ⟨rfl, hb2⟩
          have HB2 := Lib.hid (HB1.out.trans (hb2.mono HB1.out.size))
          clear hb2
          go_wp2
          go_ret3
          exact ⟨by rw [HRR.out]; rfl, HB2.out⟩
        | some hi =>
          have HRR : Hid (R = (0, 0, 0)) := Lib.hid (HCP.out.trans (by simp [partsX, e1]))
          clear HCP qE qC e1 e2 e3
          go_enter Tryz.func33, Tryz.ntmps33
          go_wp2_with fail
          refine (HC1.out _ HE.out).mono ?_
          rintro e w1 ⟨rfl, n1, rfl⟩
          go_wp2_with fail
          refine (HC2.out _ (HE.out.drewN n1)).mono ?_
          rintro e w1 ⟨rfl, n2, rfl⟩
          go_wp2_with fail
          refine (HN1.out _).mono ?_
          rintro e w1 ⟨rfl, hb1⟩
          have HB1 := Lib.hid ((below_drewNr (Below.refl W.heap.size W) (n1 + n2)).trans (hb1.mono (Nat.le_refl _)))
          clear hb1
          go_wp2_with fail
          refine (HN2.out _).mono ?_
          rintro e w2 ⟨rfl, hb2⟩
          have HB2 := Lib.hid (HB1.out.trans (hb2.mono HB1.out.size))
          clear hb2
          go_wp2
          go_ret3
          exact ⟨by rw [HRR.out]; rfl, HB2.out⟩
      | some lo =>
        cases x2 with
        | none =>
          have HRR : Hid (R = (0, 0, 0)) := Lib.hid (HCP.out.trans (by simp [partsX, e1]))
          clear HCP qE qC e1 e2 e3
          go_enter Tryz.func33, Tryz.ntmps33
          go_wp2_with fail
          refine (HC1.out _ HE.out).mono ?_
          rintro e w1 ⟨rfl, n1, rfl⟩
          go_wp2_with fail
          refine (HC2.out _ (HE.out.drewN n1)).mono ?_
          rintro e w1 ⟨rfl, n2, rfl⟩
          go_wp2_with fail
          refine (HN1.out _).mono ?_
          rintro e w1 ⟨rfl, hb1⟩
          have HB1 := Lib.hid ((below_drewNr (Below.refl W.heap.size W) (n1 + n2)).trans (hb1.mono (Nat.le_refl _)))
          clear hb1
          go_wp2_with fail
          refine (HN2.out _).mono ?_
          rintro e w2 ⟨rfl, hb2⟩
          have HB2 := Lib.hid (HB1.out.trans (hb2.mono HB1.out.size))
          clear hb2
          go_wp2
          go_ret3
          exact ⟨by rw [HRR.out]; rfl, HB2.out⟩
        | some hi =>
          have HRR : Hid (R = (0, 0, 0)) := Lib.hid (HCP.out.trans (by simp [partsX, e1]))
          clear HCP qE qC e1 e2 e3
          go_enter Tryz.func33, Tryz.ntmps33
          go_wp2_with fail
          refine (HC1.out _ HE.out).mono ?_
          rintro e w1 ⟨rfl, n1, rfl⟩
          go_wp2_with fail
          refine (HC2.out _ (HE.out.drewN n1)).mono ?_
          rintro e w1 ⟨rfl, n2, rfl⟩
          go_wp2_with fail
          refine (HN1.out _).mono ?_
          rintro e w1 ⟨rfl, hb1⟩
          have HB1 := Lib.hid ((below_drewNr (Below.refl W.heap.size W) (n1 + n2)).trans (hb1.mono (Nat.le_refl _)))
          clear hb1
          go_wp2_with fail
          refine (HN2.out _).mono ?_
          rintro e w2 ⟨rfl, hb2⟩
          have HB2 := Lib.hid (HB1.out.trans (hb2.mono HB1.out.size))
          clear hb2
          go_wp2
          go_ret3
          exact ⟨by rw [HRR.out]; rfl, HB2.out⟩
    · obtain ⟨hne, hne2⟩ := toList_ne (s := g) (by omega)
      cases x1 with
      | none =>
        cases x2 with
        | none =>
          have HRR : Hid (R = (0, 0, 0)) := Lib.hid (HCP.out.trans (by simp [partsX, e1]))
          clear HCP qE qC e1 e2 e3
          go_enter Tryz.func33, Tryz.ntmps33
          go_wp2_with fail
          refine (HC1.out _ HE.out).mono ?_
          rintro e w1 ⟨rfl, n1, rfl⟩
          go_wp2_with fail
          refine (HC2.out _ (HE.out.drewN n1)).mono ?_
          rintro e w1 ⟨rfl, n2, rfl⟩
          go_wp2_with fail
          refine (HN1.out _).mono ?_
          rintro e w1 ⟨rfl, hb1⟩
          have HB1 := Lib.hid ((below_drewNr (Below.refl W.heap.size W) (n1 + n2)).trans (hb1.mono (Nat.le_refl _)))
          clear hb1
          go_wp2_with fail
          refine (HN2.out _).mono ?_
          rintro e w2 ⟨rfl, hb2⟩
          have HB2 := Lib.hid (HB1.out.trans (hb2.mono HB1.out.size))
          clear hb2
          go_wp2
          go_ret3
          exact ⟨by rw [HRR.out]; rfl, HB2.out⟩
        | some hi =>
          have HRR : Hid (R = (0, 0, 0)) := Lib.hid (HCP.out.trans (by simp [partsX, e1]))
          clear HCP qE qC e1 e2 e3
          go_enter Tryz.func33, Tryz.ntmps33
          go_wp2_with fail
          refine (HC1.out _ HE.out).mono ?_
          rintro e w1 ⟨rfl, n1, rfl⟩
          go_wp2_with fail
          refine (HC2.out _ (HE.out.drewN n1)).mono ?_
          rintro e w1 ⟨rfl, n2, rfl⟩
          go_wp2_with fail
          refine (HN1.out _).mono ?_
          rintro e w1 ⟨rfl, hb1⟩
          have HB1 := Lib.hid ((below_drewNr (Below.refl W.heap.size W) (n1 + n2)).trans (hb1.mono (Nat.le_refl _)))
          clear hb1
          go_wp2_with fail
          refine (HN2.out _).mono ?_
          rintro e w2 ⟨rfl, hb2⟩
          have HB2 := Lib.hid (HB1.out.trans (hb2.mono HB1.out.size))
          clear hb2
          go_wp2
          go_ret3
          exact ⟨by rw [HRR.out]; rfl, HB2.out⟩
      | some lo =>
        cases x2 with
        | none =>
          have HRR : Hid (R = (0, 0, 0)) := Lib.hid (HCP.out.trans (by simp [partsX, e1]))
          clear HCP qE qC e1 e2 e3
          go_enter Tryz.func33, Tryz.ntmps33
          go_wp2_with fail
          refine (HC1.out _ HE.out).mono ?_
          rintro e w1 ⟨rfl, n1, rfl⟩
          go_wp2_with fail
          refine (HC2.out _ (HE.out.drewN n1)).mono ?_
          rintro e w1 ⟨rfl, n2, rfl⟩
          go_wp2_with fail
          refine (HN1.out _).mono ?_
          rintro e w1 ⟨rfl, hb1⟩
          have HB1 := Lib.hid ((below_drewNr (Below.refl W.heap.size W) (n1 + n2)).trans (hb1.mono (Nat.le_refl _)))
          clear hb1
          go_wp2_with fail
          refine (HN2.out _).mono ?_
          rintro e w2 ⟨rfl, hb2⟩
          have HB2 := Lib.hid (HB1.out.trans (hb2.mono HB1.out.size))
          clear hb2
          go_wp2
          go_ret3
          exact ⟨by rw [HRR.out]; rfl, HB2.out⟩
        | some hi =>
          have HRR : Hid (R = (0, 0, 0)) := Lib.hid (HCP.out.trans (by simp [partsX, e1]))
          clear HCP qE qC e1 e2 e3
          go_enter Tryz.func33, Tryz.ntmps33
          go_wp2_with fail
          refine (HC1.out _ HE.out).mono ?_
          rintro e w1 ⟨rfl, n1, rfl⟩
          go_wp2_with fail
          refine (HC2.out _ (HE.out.drewN n1)).mono ?_
          rintro e w1 ⟨rfl, n2, rfl⟩
          go_wp2_with fail
          refine (HN1.out _).mono ?_
          rintro e w1 ⟨rfl, hb1⟩
          have HB1 := Lib.hid ((below_drewNr (Below.refl W.heap.size W) (n1 + n2)).trans (hb1.mono (Nat.le_refl _)))
          clear hb1
          go_wp2_with fail
          refine (HN2.out _).mono ?_
          rintro e w2 ⟨rfl, hb2⟩
          have HB2 := Lib.hid (HB1.out.trans (hb2.mono HB1.out.size))
          clear hb2
          go_wp2
          go_ret3
          exact ⟨by rw [HRR.out]; rfl, HB2.out⟩
  · have qE : decide (j ≠ r.size) = true := by simp [e1]
    rw [qE] at HC1
    by_cases e2 : k = j
    · have qC : decide (k ≠ j) = false := by simp [e2]
      rw [qC] at HC2
      have hg0 : g = ⟨#[]⟩ := by
        apply Br.nums_inj'
        rw [List.length_eq_zero_iff.1 ((Utf.nums_length g).trans (by omega))]; rfl
      subst hg0
      cases x1 with
      | none =>
        cases x2 with
        | none =>
          have HRR : Hid (R = (0, 0, 0)) := Lib.hid (HCP.out.trans (by simp [partsX, e1, e2]))
          clear HCP qE qC e1 e2
          go_enter Tryz.func33, Tryz.ntmps33
          go_wp2_with fail
          refine (HC1.out _ HE.out).mono ?_
          rintro e w1 ⟨rfl, n1, rfl⟩
          go_wp2_with fail
          refine (HC2.out _ (HE.out.drewN n1)).mono ?_
          rintro e w1 ⟨rfl, n2, rfl⟩
          go_wp2_with fail
          refine (HN1.out _).mono ?_
          rintro e w1 ⟨rfl, hb1⟩
          have HB1 := Lib.hid ((below_drewNr (Below.refl W.heap.size W) (n1 + n2)).trans (hb1.mono (Nat.le_refl _)))
          clear hb1
          go_wp2_with fail
          refine (HN2.out _).mono ?_
          rintro e w2 ⟨rfl, hb2⟩
          have HB2 := Lib.hid (HB1.out.trans (hb2.mono HB1.out.size))
          clear hb2
          go_wp2
          go_ret3
          exact ⟨by rw [HRR.out]; rfl, HB2.out⟩
        | some hi =>
          have HRR : Hid (R = (0, 0, 0)) := Lib.hid (HCP.out.trans (by simp [partsX, e1, e2]))
          clear HCP qE qC e1 e2
          go_enter Tryz.func33, Tryz.ntmps33
          go_wp2_with fail
          refine (HC1.out _ HE.out).mono ?_
          rintro e w1 ⟨rfl, n1, rfl⟩
          go_wp2_with fail
          refine (HC2.out _ (HE.out.drewN n1)).mono ?_
          rintro e w1 ⟨rfl, n2, rfl⟩
          go_wp2_with fail
          refine (HN1.out _).mono ?_
          rintro e w1 ⟨rfl, hb1⟩
          have HB1 := Lib.hid ((below_drewNr (Below.refl W.heap.size W) (n1 + n2)).trans (hb1.mono (Nat.le_refl _)))
          clear hb1
          go_wp2_with fail
          refine (HN2.out _).mono ?_
          rintro e w2 ⟨rfl, hb2⟩
          have HB2 := Lib.hid (HB1.out.trans (hb2.mono HB1.out.size))
          clear hb2
          go_wp2
          go_ret3
          exact ⟨by rw [HRR.out]; rfl, HB2.out⟩
      | some lo =>
        cases x2 with
        | none =>
          have HRR : Hid (R = (lo, lo, j + 2)) := Lib.hid (HCP.out.trans (by simp [partsX, e1, e2]))
          have hw : IntKind.i64.wrap (1 + (j : Int)) = 1 + (j : Int) := by rw [IntKind.wrap_i64]; omega
          have hw2 : IntKind.i64.wrap (1 + (j : Int) + 1) = (j : Int) + 2 := by rw [IntKind.wrap_i64]; omega
          have hzj : b.size = j := HZB.out
          clear HCP qE qC e1 e2
          go_enter Tryz.func33, Tryz.ntmps33
          go_wp2_with fail
          refine (HC1.out _ HE.out).mono ?_
          rintro e w1 ⟨rfl, n1, rfl⟩
          go_wp2_with fail
          refine (HC2.out _ (HE.out.drewN n1)).mono ?_
          rintro e w1 ⟨rfl, n2, rfl⟩
          go_wp2_with fail
          refine (HN1.out _).mono ?_
          rintro e w1 ⟨rfl, hb1⟩
          have HB1 := Lib.hid ((below_drewNr (Below.refl W.heap.size W) (n1 + n2)).trans (hb1.mono (Nat.le_refl _)))
          clear hb1
          go_wp2_with fail
          refine (HN2.out _).mono ?_
          rintro e w2 ⟨rfl, hb2⟩
          have HB2 := Lib.hid (HB1.out.trans (hb2.mono HB1.out.size))
          clear hb2
          go_wp2
          go_ret3
          exact ⟨by rw [HRR.out]; simp [HZB.out], HB2.out⟩
        | some hi =>
          have HRR : Hid (R = (lo, lo, j + 2)) := Lib.hid (HCP.out.trans (by simp [partsX, e1, e2]))
          have hw : IntKind.i64.wrap (1 + (j : Int)) = 1 + (j : Int) := by rw [IntKind.wrap_i64]; omega
          have hw2 : IntKind.i64.wrap (1 + (j : Int) + 1) = (j : Int) + 2 := by rw [IntKind.wrap_i64]; omega
          have hzj : b.size = j := HZB.out
          clear HCP qE qC e1 e2
          go_enter Tryz.func33, Tryz.ntmps33
          go_wp2_with fail
          refine (HC1.out _ HE.out).mono ?_
          rintro e w1 ⟨rfl, n1, rfl⟩
          go_wp2_with fail
          refine (HC2.out _ (HE.out.drewN n1)).mono ?_
          rintro e w1 ⟨rfl, n2, rfl⟩
          go_wp2_with fail
          refine (HN1.out _).mono ?_
          rintro e w1 ⟨rfl, hb1⟩
          have HB1 := Lib.hid ((below_drewNr (Below.refl W.heap.size W) (n1 + n2)).trans (hb1.mono (Nat.le_refl _)))
          clear hb1
          go_wp2_with fail
          refine (HN2.out _).mono ?_
          rintro e w2 ⟨rfl, hb2⟩
          have HB2 := Lib.hid (HB1.out.trans (hb2.mono HB1.out.size))
          clear hb2
          go_wp2
          go_ret3
          exact ⟨by rw [HRR.out]; simp [HZB.out], HB2.out⟩
    have qC : decide (k ≠ j) = true := by simp [e2]
    rw [qC] at HC2
    by_cases e3 : k + 1 = j
    · have hg0 : g = ⟨#[]⟩ := by
        apply Br.nums_inj'
        rw [List.length_eq_zero_iff.1 ((Utf.nums_length g).trans (by omega))]; rfl
      subst hg0
      cases x1 with
      | none =>
        cases x2 with
        | none =>
          have HRR : Hid (R = (0, 0, 0)) := Lib.hid (HCP.out.trans (by simp [partsX, e1, e2, e3]))
          clear HCP qE qC e1 e2 e3
          go_enter Tryz.func33, Tryz.ntmps33
          go_wp2_with fail
          refine (HC1.out _ HE.out).mono ?_
          rintro e w1 ⟨rfl, n1, rfl⟩
          go_wp2_with fail
          refine (HC2.out _ (HE.out.drewN n1)).mono ?_
          rintro e w1 ⟨rfl, n2, rfl⟩
          go_wp2_with fail
          refine (HN1.out _).mono ?_
          rintro e w1 ⟨rfl, hb1⟩
          have HB1 := Lib.hid ((below_drewNr (Below.refl W.heap.size W) (n1 + n2)).trans (hb1.mono (Nat.le_refl _)))
          clear hb1
          go_wp2_with fail
          refine (HN2.out _).mono ?_
          rintro e w2 ⟨rfl, hb2⟩
          have HB2 := Lib.hid (HB1.out.trans (hb2.mono HB1.out.size))
          clear hb2
          go_wp2
          go_ret3
          exact ⟨by rw [HRR.out]; rfl, HB2.out⟩
        | some hi =>
          have HRR : Hid (R = (0, 0, 0)) := Lib.hid (HCP.out.trans (by simp [partsX, e1, e2, e3]))
          clear HCP qE qC e1 e2 e3
          go_enter Tryz.func33, Tryz.ntmps33
          go_wp2_with fail
          refine (HC1.out _ HE.out).mono ?_
          rintro e w1 ⟨rfl, n1, rfl⟩
          go_wp2_with fail
          refine (HC2.out _ (HE.out.drewN n1)).mono ?_
          rintro e w1 ⟨rfl, n2, rfl⟩
          go_wp2_with fail
          refine (HN1.out _).mono ?_
          rintro e w1 ⟨rfl, hb1⟩
          have HB1 := Lib.hid ((below_drewNr (Below.refl W.heap.size W) (n1 + n2)).trans (hb1.mono (Nat.le_refl _)))
          clear hb1
          go_wp2_with fail
          refine (HN2.out _).mono ?_
          rintro e w2 ⟨rfl, hb2⟩
          have HB2 := Lib.hid (HB1.out.trans (hb2.mono HB1.out.size))
          clear hb2
          go_wp2
          go_ret3
          exact ⟨by rw [HRR.out]; rfl, HB2.out⟩
      | some lo =>
        cases x2 with
        | none =>
          have HRR : Hid (R = (lo, -1, j + 2)) := Lib.hid (HCP.out.trans (by simp [partsX, e1, e2, e3]))
          have hw : IntKind.i64.wrap (1 + (j : Int)) = 1 + (j : Int) := by rw [IntKind.wrap_i64]; omega
          have hw2 : IntKind.i64.wrap (1 + (j : Int) + 1) = (j : Int) + 2 := by rw [IntKind.wrap_i64]; omega
          have hzj : b.size = j := HZB.out
          clear HCP qE qC e1 e2 e3
          go_enter Tryz.func33, Tryz.ntmps33
          go_wp2_with fail
          refine (HC1.out _ HE.out).mono ?_
          rintro e w1 ⟨rfl, n1, rfl⟩
          go_wp2_with fail
          refine (HC2.out _ (HE.out.drewN n1)).mono ?_
          rintro e w1 ⟨rfl, n2, rfl⟩
          go_wp2_with fail
          refine (HN1.out _).mono ?_
          rintro e w1 ⟨rfl, hb1⟩
          have HB1 := Lib.hid ((below_drewNr (Below.refl W.heap.size W) (n1 + n2)).trans (hb1.mono (Nat.le_refl _)))
          clear hb1
          go_wp2_with fail
          refine (HN2.out _).mono ?_
          rintro e w2 ⟨rfl, hb2⟩
          have HB2 := Lib.hid (HB1.out.trans (hb2.mono HB1.out.size))
          clear hb2
          go_wp2
          go_ret3
          exact ⟨by rw [HRR.out]; simp [HZB.out], HB2.out⟩
        | some hi =>
          have HRR : Hid (R = (lo, -1, j + 2)) := Lib.hid (HCP.out.trans (by simp [partsX, e1, e2, e3]))
          have hw : IntKind.i64.wrap (1 + (j : Int)) = 1 + (j : Int) := by rw [IntKind.wrap_i64]; omega
          have hw2 : IntKind.i64.wrap (1 + (j : Int) + 1) = (j : Int) + 2 := by rw [IntKind.wrap_i64]; omega
          have hzj : b.size = j := HZB.out
          clear HCP qE qC e1 e2 e3
          go_enter Tryz.func33, Tryz.ntmps33
          go_wp2_with fail
          refine (HC1.out _ HE.out).mono ?_
          rintro e w1 ⟨rfl, n1, rfl⟩
          go_wp2_with fail
          refine (HC2.out _ (HE.out.drewN n1)).mono ?_
          rintro e w1 ⟨rfl, n2, rfl⟩
          go_wp2_with fail
          refine (HN1.out _).mono ?_
          rintro e w1 ⟨rfl, hb1⟩
          have HB1 := Lib.hid ((below_drewNr (Below.refl W.heap.size W) (n1 + n2)).trans (hb1.mono (Nat.le_refl _)))
          clear hb1
          go_wp2_with fail
          refine (HN2.out _).mono ?_
          rintro e w2 ⟨rfl, hb2⟩
          have HB2 := Lib.hid (HB1.out.trans (hb2.mono HB1.out.size))
          clear hb2
          go_wp2
          go_ret3
          exact ⟨by rw [HRR.out]; simp [HZB.out], HB2.out⟩
    · obtain ⟨hne, hne2⟩ := toList_ne (s := g) (by omega)
      cases x1 with
      | none =>
        cases x2 with
        | none =>
          have HRR : Hid (R = (0, 0, 0)) := Lib.hid (HCP.out.trans (by simp [partsX, e1, e2, e3]))
          clear HCP qE qC e1 e2 e3
          go_enter Tryz.func33, Tryz.ntmps33
          go_wp2_with fail
          refine (HC1.out _ HE.out).mono ?_
          rintro e w1 ⟨rfl, n1, rfl⟩
          go_wp2_with fail
          refine (HC2.out _ (HE.out.drewN n1)).mono ?_
          rintro e w1 ⟨rfl, n2, rfl⟩
          go_wp2_with fail
          refine (HN1.out _).mono ?_
          rintro e w1 ⟨rfl, hb1⟩
          have HB1 := Lib.hid ((below_drewNr (Below.refl W.heap.size W) (n1 + n2)).trans (hb1.mono (Nat.le_refl _)))
          clear hb1
          go_wp2_with fail
          refine (HN2.out _).mono ?_
          rintro e w2 ⟨rfl, hb2⟩
          have HB2 := Lib.hid (HB1.out.trans (hb2.mono HB1.out.size))
          clear hb2
          go_wp2
          go_ret3
          exact ⟨by rw [HRR.out]; rfl, HB2.out⟩
        | some hi =>
          have HRR : Hid (R = (0, 0, 0)) := Lib.hid (HCP.out.trans (by simp [partsX, e1, e2, e3]))
          clear HCP qE qC e1 e2 e3
          go_enter Tryz.func33, Tryz.ntmps33
          go_wp2_with fail
          refine (HC1.out _ HE.out).mono ?_
          rintro e w1 ⟨rfl, n1, rfl⟩
          go_wp2_with fail
          refine (HC2.out _ (HE.out.drewN n1)).mono ?_
          rintro e w1 ⟨rfl, n2, rfl⟩
          go_wp2_with fail
          refine (HN1.out _).mono ?_
          rintro e w1 ⟨rfl, hb1⟩
          have HB1 := Lib.hid ((below_drewNr (Below.refl W.heap.size W) (n1 + n2)).trans (hb1.mono (Nat.le_refl _)))
          clear hb1
          go_wp2_with fail
          refine (HN2.out _).mono ?_
          rintro e w2 ⟨rfl, hb2⟩
          have HB2 := Lib.hid (HB1.out.trans (hb2.mono HB1.out.size))
          clear hb2
          go_wp2
          go_ret3
          exact ⟨by rw [HRR.out]; rfl, HB2.out⟩
      | some lo =>
        cases x2 with
        | none =>
          have HRR : Hid (R = (0, 0, 0)) := Lib.hid (HCP.out.trans (by simp [partsX, e1, e2, e3]))
          clear HCP qE qC e1 e2 e3
          go_enter Tryz.func33, Tryz.ntmps33
          go_wp2_with fail
          refine (HC1.out _ HE.out).mono ?_
          rintro e w1 ⟨rfl, n1, rfl⟩
          go_wp2_with fail
          refine (HC2.out _ (HE.out.drewN n1)).mono ?_
          rintro e w1 ⟨rfl, n2, rfl⟩
          go_wp2_with fail
          refine (HN1.out _).mono ?_
          rintro e w1 ⟨rfl, hb1⟩
          have HB1 := Lib.hid ((below_drewNr (Below.refl W.heap.size W) (n1 + n2)).trans (hb1.mono (Nat.le_refl _)))
          clear hb1
          go_wp2_with fail
          refine (HN2.out _).mono ?_
          rintro e w2 ⟨rfl, hb2⟩
          have HB2 := Lib.hid (HB1.out.trans (hb2.mono HB1.out.size))
          clear hb2
          go_wp2
          go_ret3
          exact ⟨by rw [HRR.out]; rfl, HB2.out⟩
        | some hi =>
          have HRR : Hid (R = (lo, hi, j + 2)) := Lib.hid (HCP.out.trans (by simp [partsX, e1, e2, e3]))
          have hw : IntKind.i64.wrap (1 + (j : Int)) = 1 + (j : Int) := by rw [IntKind.wrap_i64]; omega
          have hw2 : IntKind.i64.wrap (1 + (j : Int) + 1) = (j : Int) + 2 := by rw [IntKind.wrap_i64]; omega
          have hzj : b.size = j := HZB.out
          clear HCP qE qC e1 e2 e3
          go_enter Tryz.func33, Tryz.ntmps33
          go_wp2_with fail
          refine (HC1.out _ HE.out).mono ?_
          rintro e w1 ⟨rfl, n1, rfl⟩
          go_wp2_with fail
          refine (HC2.out _ (HE.out.drewN n1)).mono ?_
          rintro e w1 ⟨rfl, n2, rfl⟩
          go_wp2_with fail
          refine (HN1.out _).mono ?_
          rintro e w1 ⟨rfl, hb1⟩
          have HB1 := Lib.hid ((below_drewNr (Below.refl W.heap.size W) (n1 + n2)).trans (hb1.mono (Nat.le_refl _)))
          clear hb1
          go_wp2_with fail
          refine (HN2.out _).mono ?_
          rintro e w2 ⟨rfl, hb2⟩
          have HB2 := Lib.hid (HB1.out.trans (hb2.mono HB1.out.size))
          clear hb2
          go_wp2
          go_ret3
          exact ⟨by rw [HRR.out]; simp [HZB.out], HB2.out⟩
end Go.Proofs.YtanffablfgnioaaGreatDoor
