/- The landed lex: repetitions. -/
import Derived.Test.YtdcielcniboloaaGreatDoorGp33
namespace Go.Proofs.YtdcielcniboloaaGreatDoor
open Go.RowKit
open Lx (Tk TR)
set_option linter.unusedVariables false
set_option maxRecDepth 100000 in
set_option maxHeartbeats 4000000 in
theorem bounds_any (W : World) (s : ByteArray) (hs : s.size ≤ 4096) (h1 : 1 ≤ s.size) (hE : Ev W) : Calls Tryz.prog 106 #[.string s] W fun e w' =>
    e = .returned (.tuple #[.int .i64 (Lx.boundsX (Utf.nums s)).1, .int .i64 (Lx.boundsX (Utf.nums s)).2.1, .int .i64 ((Lx.boundsX (Utf.nums s)).2.2 : Nat)]) ∧ Below W.heap.size W w' := by
  have HC := Lib.hid (counts_any W s hs h1 hE)
  have h0 : 0 < s.size := h1
  have h0i : (0 : Int) < (s.size : Int) := by omega
  have hat : (Utf.nums s)[0]?.getD 0 = ((s[0]'h0).toNat : Int) := Utf.nums_at s 0 h0
  unfold Lx.boundsX
  rw [hat]
  clear hE hat
  by_cases e63 : ((s[0]'h0).toNat : Int) = 63
  · have b63 : (((s[0]'h0).toNat : Int) == 63) = true := by simp [e63]
    rw [if_pos e63]
    clear e63 HC
    go_enter Tryz.func106, Tryz.ntmps106
    go_wp2
    go_ret3
    exact ⟨rfl, Below.refl _ _⟩
  have b63 : (((s[0]'h0).toNat : Int) == 63) = false := by simpa using e63
  rw [if_neg e63]
  clear e63
  by_cases e43 : ((s[0]'h0).toNat : Int) = 43
  · have b43 : (((s[0]'h0).toNat : Int) == 43) = true := by simp [e43]
    rw [if_pos e43]
    clear e43 HC
    go_enter Tryz.func106, Tryz.ntmps106
    go_wp2
    go_ret3
    exact ⟨rfl, Below.refl _ _⟩
  have b43 : (((s[0]'h0).toNat : Int) == 43) = false := by simpa using e43
  rw [if_neg e43]
  clear e43
  by_cases e42 : ((s[0]'h0).toNat : Int) = 42
  · have b42 : (((s[0]'h0).toNat : Int) == 42) = true := by simp [e42]
    rw [if_pos e42]
    clear e42 HC
    go_enter Tryz.func106, Tryz.ntmps106
    go_wp2
    go_ret3
    exact ⟨rfl, Below.refl _ _⟩
  have b42 : (((s[0]'h0).toNat : Int) == 42) = false := by simpa using e42
  rw [if_neg e42]
  clear e42
  go_enter Tryz.func106, Tryz.ntmps106
  go_wp2_with fail
  refine HC.out.mono ?_
  rintro e w1 ⟨rfl, hb⟩
  have HB := Lib.hid hb
  clear hb
  go_wp2
  go_ret3
  exact ⟨rfl, HB.out⟩
theorem box45 {w : World} {B : Nat} {u0 u1 u2 u3 u4 u5 u6 u7 a b : Value} {t : TypeId} (h : w.heap[B]? = some (.cells #[u0, u1, u2, u3, u4, u5, u6, u7] t (0, 0))) :
    ((w.setCell ⟨B, 4, none⟩ a).setCell ⟨B, 5, none⟩ b).heap[B]? = some (.cells #[u0, u1, u2, u3, a, b, u6, u7] t (0, 0)) := by
  have h4 := heap_setCell_same w B 4 _ t a h
  have h5 := heap_setCell_same _ B 5 _ t b h4
  simpa using h5
theorem box6 {w : World} {B : Nat} {u0 u1 u2 u3 u4 u5 u6 u7 a : Value} {t : TypeId} (h : w.heap[B]? = some (.cells #[u0, u1, u2, u3, u4, u5, u6, u7] t (0, 0))) :
    (w.setCell ⟨B, 6, none⟩ a).heap[B]? = some (.cells #[u0, u1, u2, u3, u4, u5, a, u7] t (0, 0)) := by
  have h4 := heap_setCell_same w B 6 _ t a h
  simpa using h4
theorem parts_bd (j m k n : Nat) (x1 x2 : Option Int) (h1 : ∀ v, x1 = some v → 0 ≤ v ∧ v < 10000) (h2 : ∀ v, x2 = some v → 0 ≤ v ∧ v < 10000) (hj : j ≤ m) :
    0 ≤ (partsX j m k n x1 x2).1 ∧ (partsX j m k n x1 x2).1 < 10000 ∧ -1 ≤ (partsX j m k n x1 x2).2.1 ∧ (partsX j m k n x1 x2).2.1 < 10000 ∧ (partsX j m k n x1 x2).2.2 ≤ m + 1 := by
  unfold partsX
  by_cases e : j = m
  · rw [if_pos e]; simp
  · rw [if_neg e]
    cases x1 with
    | none => simp
    | some lo =>
      have b1 := h1 lo rfl
      dsimp only
      by_cases e2 : k = n
      · rw [if_pos e2]; dsimp only; omega
      · rw [if_neg e2]
        by_cases e3 : k + 1 = n
        · rw [if_pos e3]; dsimp only; omega
        · rw [if_neg e3]
          cases x2 with
          | none => simp
          | some hi =>
            have b2 := h2 hi rfl
            dsimp only; omega
theorem counts_bd (l : List Int) (h : 1 ≤ l.length) : 0 ≤ (Lx.countsX l).1 ∧ (Lx.countsX l).1 < 10000 ∧ -1 ≤ (Lx.countsX l).2.1 ∧ (Lx.countsX l).2.1 < 10000 ∧ (Lx.countsX l).2.2 ≤ l.length := by
  rw [countsX_parts l _ _ _ rfl rfl rfl]
  have hj := Br.upTo_le 125 (l.drop 1)
  have := parts_bd (Br.upTo 125 (l.drop 1)) (l.drop 1).length (Br.upTo 44 ((l.drop 1).take (Br.upTo 125 (l.drop 1)))) ((l.drop 1).take (Br.upTo 125 (l.drop 1))).length
    (Lx.cntX (((l.drop 1).take (Br.upTo 125 (l.drop 1))).take (Br.upTo 44 ((l.drop 1).take (Br.upTo 125 (l.drop 1)))))) (Lx.cntX (((l.drop 1).take (Br.upTo 125 (l.drop 1))).drop (Br.upTo 44 ((l.drop 1).take (Br.upTo 125 (l.drop 1))) + 1)))
    (fun v hv => cnt_bd hv) (fun v hv => cnt_bd hv) hj
  have hd : (l.drop 1).length = l.length - 1 := List.length_drop
  refine ⟨this.1, this.2.1, this.2.2.1, this.2.2.2.1, ?_⟩
  have h5 := this.2.2.2.2
  omega
theorem bounds_bd (l : List Int) (h : 1 ≤ l.length) : 0 ≤ (Lx.boundsX l).1 ∧ (Lx.boundsX l).1 < 10000 ∧ -1 ≤ (Lx.boundsX l).2.1 ∧ (Lx.boundsX l).2.1 < 10000 ∧ (Lx.boundsX l).2.2 ≤ l.length := by
  unfold Lx.boundsX
  have hc := counts_bd l h
  split
  · dsimp only; omega
  · split
    · dsimp only; omega
    · split
      · dsimp only; omega
      · exact hc
set_option maxRecDepth 100000 in
set_option maxHeartbeats 8000000 in
theorem repeat_any (W : World) (s : ByteArray) (hs : s.size ≤ 4096) (h1 : 1 ≤ s.size) (hE : Ev W) : Calls Tryz.prog 66 #[.string s] W (TokPost (Lx.repX (Utf.nums s)) W) := by
  obtain ⟨X, hX⟩ : ∃ X, Lx.repX (Utf.nums s) = X := ⟨_, rfl⟩
  rw [hX]
  unfold Lx.repX at hX
  have HBD := Lib.hid (fun w (hw : Ev w) => bounds_any w s hs h1 hw)
  have hbd := bounds_bd (Utf.nums s) (by rw [Utf.nums_length]; exact h1)
  rw [Utf.nums_length] at hbd
  obtain ⟨⟨lo, hi, n⟩, hq⟩ : ∃ p, Lx.boundsX (Utf.nums s) = p := ⟨_, rfl⟩
  rw [hq] at HBD hX hbd
  dsimp only at HBD hX hbd
  unfold Lx.repOf at hX
  have HP := Lib.hid (fun w => hasPre1 w (s.extract n s.size) 63 (by decide))
  rw [show (((63 : UInt8).toNat : Nat) : Int) = 63 from rfl, tail_drop, List.getElem?_drop, Nat.add_zero] at HP
  have HE := Lib.hid hE
  clear hq hE
  have hni : (n : Int) ≤ (s.size : Int) := by omega
  have hn0 : (0 : Int) ≤ (n : Int) := by omega
  obtain ⟨n1, hn1⟩ : ∃ n1, n + 1 = n1 := ⟨_, rfl⟩
  have hw : IntKind.i64.wrap ((n : Int) + 1) = (n1 : Int) := by rw [IntKind.wrap_i64]; omega
  rw [hn1] at hX
  have HX := Lib.hid hX.symm
  have HBD2 := Lib.hid hbd
  clear hX hbd hn1
  by_cases cA : 1000 < lo ∨ 1000 < hi
  · have HR : Hid (X = .bad 0 81) := Lib.hid (by rw [HX.out, if_pos (by omega)])
    clear HX
    by_cases hm : lo < hi
    · have hm2 : (1000 : Int) < hi := by omega
      clear cA
      go_enter Tryz.func66, Tryz.ntmps66
      go_wp2_with fail
      refine (HBD.out _ (HE.out.below (Nat.le_refl _) ((Below.refl _ W).alloc (Nat.le_refl _) _))).mono ?_
      rintro e w1 ⟨rfl, hb1⟩
      have HBX := Lib.hid (box_kept hb1)
      have HB1 := Lib.hid (below_of_alloc hb1)
      obtain ⟨d0, d1, d2, d3, d4, d5, d6, d7, g0, g1, g2, g3, g4, g5, g6, g7⟩ := box_facts HBX.out
      clear hb1
      go_wp2
      (try simp only [Exit.inBlock, Exit.then])
      refine ret_tk rfl W.heap.size _ rfl (set8_blk _ _ _ _ _ _ _ _ _ _ (box45 HBX.out)) rfl rfl ?_
      exact ⟨set8_below ((HB1.out.setCell (p := ⟨W.heap.size, 4, none⟩) (Nat.le_refl _) _).setCell (p := ⟨W.heap.size, 5, none⟩) (Nat.le_refl _) _) _ (Nat.le_refl _) _ _ _ _ _ _ _ _, .inl ⟨0, _, _, HR.out, rfl⟩⟩
    · have hm2 : (1000 : Int) < lo := by omega
      clear cA
      go_enter Tryz.func66, Tryz.ntmps66
      go_wp2_with fail
      refine (HBD.out _ (HE.out.below (Nat.le_refl _) ((Below.refl _ W).alloc (Nat.le_refl _) _))).mono ?_
      rintro e w1 ⟨rfl, hb1⟩
      have HBX := Lib.hid (box_kept hb1)
      have HB1 := Lib.hid (below_of_alloc hb1)
      obtain ⟨d0, d1, d2, d3, d4, d5, d6, d7, g0, g1, g2, g3, g4, g5, g6, g7⟩ := box_facts HBX.out
      clear hb1
      go_wp2
      (try simp only [Exit.inBlock, Exit.then])
      refine ret_tk rfl W.heap.size _ rfl (set8_blk _ _ _ _ _ _ _ _ _ _ (box45 HBX.out)) rfl rfl ?_
      exact ⟨set8_below ((HB1.out.setCell (p := ⟨W.heap.size, 4, none⟩) (Nat.le_refl _) _).setCell (p := ⟨W.heap.size, 5, none⟩) (Nat.le_refl _) _) _ (Nat.le_refl _) _ _ _ _ _ _ _ _, .inl ⟨0, _, _, HR.out, rfl⟩⟩
  by_cases cB : hi ≠ -1 ∧ hi < lo
  · have HR : Hid (X = .bad 0 81) := Lib.hid (by rw [HX.out, if_pos (.inr (.inr cB))])
    have hm : ¬ lo < hi := by omega
    have hm2 : ¬ (1000 : Int) < lo := by omega
    have hm3 : (hi != -1) = true := by simpa using cB.1
    have hm4 : hi < lo := cB.2
    clear HX cA cB
    go_enter Tryz.func66, Tryz.ntmps66
    go_wp2_with fail
    refine (HBD.out _ (HE.out.below (Nat.le_refl _) ((Below.refl _ W).alloc (Nat.le_refl _) _))).mono ?_
    rintro e w1 ⟨rfl, hb1⟩
    have HBX := Lib.hid (box_kept hb1)
    have HB1 := Lib.hid (below_of_alloc hb1)
    obtain ⟨d0, d1, d2, d3, d4, d5, d6, d7, g0, g1, g2, g3, g4, g5, g6, g7⟩ := box_facts HBX.out
    clear hb1
    go_wp2
    (try simp only [Exit.inBlock, Exit.then])
    refine ret_tk rfl W.heap.size _ rfl (set8_blk _ _ _ _ _ _ _ _ _ _ (box45 HBX.out)) rfl rfl ?_
    exact ⟨set8_below ((HB1.out.setCell (p := ⟨W.heap.size, 4, none⟩) (Nat.le_refl _) _).setCell (p := ⟨W.heap.size, 5, none⟩) (Nat.le_refl _) _) _ (Nat.le_refl _) _ _ _ _ _ _ _ _, .inl ⟨0, _, _, HR.out, rfl⟩⟩
  have hX2 := HX.out
  rw [if_neg (by omega)] at hX2
  have HX2 := Lib.hid hX2
  clear hX2 HX
  by_cases cL : (Utf.nums s)[n]?.getD 0 = 63
  · have hX3 := HX2.out
    rw [if_pos cL] at hX3
    have HR := Lib.hid hX3
    rw [decide_eq_true cL] at HP
    clear hX3 HX2 cL
    by_cases hz : hi = -1
    · subst hz
      have hm3 : ((-1 : Int) != -1) = false := rfl
      have hm : ¬ lo < -1 := by have := HBD2.out; omega
      have hm2 : ¬ (1000 : Int) < lo := by omega
      clear cA cB
      go_enter Tryz.func66, Tryz.ntmps66
      go_wp2_with fail
      refine (HBD.out _ (HE.out.below (Nat.le_refl _) ((Below.refl _ W).alloc (Nat.le_refl _) _))).mono ?_
      rintro e w1 ⟨rfl, hb1⟩
      have HBX := Lib.hid (box_kept hb1)
      have HB1 := Lib.hid (below_of_alloc hb1)
      obtain ⟨d0, d1, d2, d3, d4, d5, d6, d7, g0, g1, g2, g3, g4, g5, g6, g7⟩ := box_facts HBX.out
      clear hb1
      go_wp2_with fail
      refine (HP.out _).mono ?_
      rintro e w2 ⟨rfl, rfl⟩
      go_wp2
      (try simp only [Exit.inBlock, Exit.then])
      refine ret_tk rfl W.heap.size _ rfl (set8_blk _ _ _ _ _ _ _ _ _ _ (box6 (box45 HBX.out))) rfl rfl ?_
      exact tokPost_plain (set8_below (((HB1.out.setCell (p := ⟨W.heap.size, 4, none⟩) (Nat.le_refl _) _).setCell (p := ⟨W.heap.size, 5, none⟩) (Nat.le_refl _) _).setCell (p := ⟨W.heap.size, 6, none⟩) (Nat.le_refl _) _) _ (Nat.le_refl _) _ _ _ _ _ _ _ _) HR.out rfl rfl
    · have hm3 : (hi != -1) = true := by simpa using hz
      have hm4 : ¬ hi < lo := by omega
      by_cases hm : lo < hi
      · have hm2 : ¬ (1000 : Int) < hi := by omega
        clear cA cB hz
        go_enter Tryz.func66, Tryz.ntmps66
        go_wp2_with fail
        refine (HBD.out _ (HE.out.below (Nat.le_refl _) ((Below.refl _ W).alloc (Nat.le_refl _) _))).mono ?_
        rintro e w1 ⟨rfl, hb1⟩
        have HBX := Lib.hid (box_kept hb1)
        have HB1 := Lib.hid (below_of_alloc hb1)
        obtain ⟨d0, d1, d2, d3, d4, d5, d6, d7, g0, g1, g2, g3, g4, g5, g6, g7⟩ := box_facts HBX.out
        clear hb1
        go_wp2_with fail
        refine (HP.out _).mono ?_
        rintro e w2 ⟨rfl, rfl⟩
        go_wp2
        (try simp only [Exit.inBlock, Exit.then])
        refine ret_tk rfl W.heap.size _ rfl (set8_blk _ _ _ _ _ _ _ _ _ _ (box6 (box45 HBX.out))) rfl rfl ?_
        exact tokPost_plain (set8_below (((HB1.out.setCell (p := ⟨W.heap.size, 4, none⟩) (Nat.le_refl _) _).setCell (p := ⟨W.heap.size, 5, none⟩) (Nat.le_refl _) _).setCell (p := ⟨W.heap.size, 6, none⟩) (Nat.le_refl _) _) _ (Nat.le_refl _) _ _ _ _ _ _ _ _) HR.out rfl rfl
      · have hm2 : ¬ (1000 : Int) < lo := by omega
        clear cA cB hz
        go_enter Tryz.func66, Tryz.ntmps66
        go_wp2_with fail
        refine (HBD.out _ (HE.out.below (Nat.le_refl _) ((Below.refl _ W).alloc (Nat.le_refl _) _))).mono ?_
        rintro e w1 ⟨rfl, hb1⟩
        have HBX := Lib.hid (box_kept hb1)
        have HB1 := Lib.hid (below_of_alloc hb1)
        obtain ⟨d0, d1, d2, d3, d4, d5, d6, d7, g0, g1, g2, g3, g4, g5, g6, g7⟩ := box_facts HBX.out
        clear hb1
        go_wp2_with fail
        refine (HP.out _).mono ?_
        rintro e w2 ⟨rfl, rfl⟩
        go_wp2
        (try simp only [Exit.inBlock, Exit.then])
        refine ret_tk rfl W.heap.size _ rfl (set8_blk _ _ _ _ _ _ _ _ _ _ (box6 (box45 HBX.out))) rfl rfl ?_
        exact tokPost_plain (set8_below (((HB1.out.setCell (p := ⟨W.heap.size, 4, none⟩) (Nat.le_refl _) _).setCell (p := ⟨W.heap.size, 5, none⟩) (Nat.le_refl _) _).setCell (p := ⟨W.heap.size, 6, none⟩) (Nat.le_refl _) _) _ (Nat.le_refl _) _ _ _ _ _ _ _ _) HR.out rfl rfl
  · have hX3 := HX2.out
    rw [if_neg cL] at hX3
    have HR := Lib.hid hX3
    rw [decide_eq_false cL] at HP
    clear hX3 HX2 cL
    by_cases hz : hi = -1
    · subst hz
      have hm3 : ((-1 : Int) != -1) = false := rfl
      have hm : ¬ lo < -1 := by have := HBD2.out; omega
      have hm2 : ¬ (1000 : Int) < lo := by omega
      clear cA cB
      go_enter Tryz.func66, Tryz.ntmps66
      go_wp2_with fail
      refine (HBD.out _ (HE.out.below (Nat.le_refl _) ((Below.refl _ W).alloc (Nat.le_refl _) _))).mono ?_
      rintro e w1 ⟨rfl, hb1⟩
      have HBX := Lib.hid (box_kept hb1)
      have HB1 := Lib.hid (below_of_alloc hb1)
      obtain ⟨d0, d1, d2, d3, d4, d5, d6, d7, g0, g1, g2, g3, g4, g5, g6, g7⟩ := box_facts HBX.out
      clear hb1
      go_wp2_with fail
      refine (HP.out _).mono ?_
      rintro e w2 ⟨rfl, rfl⟩
      go_wp2
      (try simp only [Exit.inBlock, Exit.then])
      refine ret_tk rfl W.heap.size _ rfl (set8_blk _ _ _ _ _ _ _ _ _ _ (box45 HBX.out)) rfl rfl ?_
      exact tokPost_plain (set8_below ((HB1.out.setCell (p := ⟨W.heap.size, 4, none⟩) (Nat.le_refl _) _).setCell (p := ⟨W.heap.size, 5, none⟩) (Nat.le_refl _) _) _ (Nat.le_refl _) _ _ _ _ _ _ _ _) HR.out rfl rfl
    · have hm3 : (hi != -1) = true := by simpa using hz
      have hm4 : ¬ hi < lo := by omega
      by_cases hm : lo < hi
      · have hm2 : ¬ (1000 : Int) < hi := by omega
        clear cA cB hz
        go_enter Tryz.func66, Tryz.ntmps66
        go_wp2_with fail
        refine (HBD.out _ (HE.out.below (Nat.le_refl _) ((Below.refl _ W).alloc (Nat.le_refl _) _))).mono ?_
        rintro e w1 ⟨rfl, hb1⟩
        have HBX := Lib.hid (box_kept hb1)
        have HB1 := Lib.hid (below_of_alloc hb1)
        obtain ⟨d0, d1, d2, d3, d4, d5, d6, d7, g0, g1, g2, g3, g4, g5, g6, g7⟩ := box_facts HBX.out
        clear hb1
        go_wp2_with fail
        refine (HP.out _).mono ?_
        rintro e w2 ⟨rfl, rfl⟩
        go_wp2
        (try simp only [Exit.inBlock, Exit.then])
        refine ret_tk rfl W.heap.size _ rfl (set8_blk _ _ _ _ _ _ _ _ _ _ (box45 HBX.out)) rfl rfl ?_
        exact tokPost_plain (set8_below ((HB1.out.setCell (p := ⟨W.heap.size, 4, none⟩) (Nat.le_refl _) _).setCell (p := ⟨W.heap.size, 5, none⟩) (Nat.le_refl _) _) _ (Nat.le_refl _) _ _ _ _ _ _ _ _) HR.out rfl rfl
      · have hm2 : ¬ (1000 : Int) < lo := by omega
        clear cA cB hz
        go_enter Tryz.func66, Tryz.ntmps66
        go_wp2_with fail
        refine (HBD.out _ (HE.out.below (Nat.le_refl _) ((Below.refl _ W).alloc (Nat.le_refl _) _))).mono ?_
        rintro e w1 ⟨rfl, hb1⟩
        have HBX := Lib.hid (box_kept hb1)
        have HB1 := Lib.hid (below_of_alloc hb1)
        obtain ⟨d0, d1, d2, d3, d4, d5, d6, d7, g0, g1, g2, g3, g4, g5, g6, g7⟩ := box_facts HBX.out
        clear hb1
        go_wp2_with fail
        refine (HP.out _).mono ?_
        rintro e w2 ⟨rfl, rfl⟩
        go_wp2
        (try simp only [Exit.inBlock, Exit.then])
        refine ret_tk rfl W.heap.size _ rfl (set8_blk _ _ _ _ _ _ _ _ _ _ (box45 HBX.out)) rfl rfl ?_
        exact tokPost_plain (set8_below ((HB1.out.setCell (p := ⟨W.heap.size, 4, none⟩) (Nat.le_refl _) _).setCell (p := ⟨W.heap.size, 5, none⟩) (Nat.le_refl _) _) _ (Nat.le_refl _) _ _ _ _ _ _ _ _) HR.out rfl rfl
end Go.Proofs.YtdcielcniboloaaGreatDoor
