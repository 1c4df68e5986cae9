/- The landed lex: repetitions. · strings.IndexAny at a colon and a closing bracket, at any text. -/
import Derived.Test.YtanffablfgnioaaGreatDoorGp35
import Derived.Test.YtanffablfgnioaaGreatDoorGp34
import Derived.Laws.RangeAny
import Derived.Laws.Runes
import Derived.Lib.OthersKept
import Derived.Test.YtanffablfgnioaaGreatDoorGp1
import Derived.Shelf.Strings.Runes
namespace Go.Proofs.YtanffablfgnioaaGreatDoor
open Go.RowKit
open Lx (Tk TR)
set_option linter.unusedVariables false
set_option maxRecDepth 100000 in
set_option maxHeartbeats 4000000 in
theorem bounds_any (W : World) (s : ByteArray) (hs : s.size ≤ 4096) (h1 : 1 ≤ s.size) (hE : Ev W) : Calls Tryz.prog 62 #[.string s] W fun e w' =>
    e = .returned (.tuple #[.int .i64 (Lx.boundsX (Utf.nums s)).1, .int .i64 (Lx.boundsX (Utf.nums s)).2.1, .int .i64 ((Lx.boundsX (Utf.nums s)).2.2 : Nat)]) ∧ Below W.heap.size W w' := by
  have HC := Lib.hid (counts_any W s hs h1 hE)
  have h0 : 0 < s.size := h1
  have h0i : (0 : Int) < (s.size : Int) := by omega
  have hat : (Utf.nums s)[0]?.getD 0 = ((s[0]'h0).toNat : Int) := Utf.nums_at s 0 h0
  unfold Lx.boundsX
  rw [hat]
  clear hE hat
  by_cases e63 : ((s[0]'h0).toNat : Int) = 63
  · have b63 : (((s[0]'h0).toNat : Int) == 63) = true := by simp [e63]
    rw [if_pos e63]
    clear e63 HC
    go_enter Tryz.func62, Tryz.ntmps62
    go_wp2
    go_ret3
    exact ⟨rfl, Below.refl _ _⟩
  have b63 : (((s[0]'h0).toNat : Int) == 63) = false := by simpa using e63
  rw [if_neg e63]
  clear e63
  by_cases e43 : ((s[0]'h0).toNat : Int) = 43
  · have b43 : (((s[0]'h0).toNat : Int) == 43) = true := by simp [e43]
    rw [if_pos e43]
    clear e43 HC
    go_enter Tryz.func62, Tryz.ntmps62
    go_wp2
    go_ret3
    exact ⟨rfl, Below.refl _ _⟩
  have b43 : (((s[0]'h0).toNat : Int) == 43) = false := by simpa using e43
  rw [if_neg e43]
  clear e43
  by_cases e42 : ((s[0]'h0).toNat : Int) = 42
  · have b42 : (((s[0]'h0).toNat : Int) == 42) = true := by simp [e42]
    rw [if_pos e42]
    clear e42 HC
    go_enter Tryz.func62, Tryz.ntmps62
    go_wp2
    go_ret3
    exact ⟨rfl, Below.refl _ _⟩
  have b42 : (((s[0]'h0).toNat : Int) == 42) = false := by simpa using e42
  rw [if_neg e42]
  clear e42
  go_enter Tryz.func62, Tryz.ntmps62
  go_wp2_with fail
  refine HC.out.mono ?_
  rintro e w1 ⟨rfl, hb⟩
  have HB := Lib.hid hb
  clear hb
  go_wp2
  go_ret3
  exact ⟨rfl, HB.out⟩
theorem box45 {w : World} {B : Nat} {u0 u1 u2 u3 u4 u5 u6 u7 a b : Value} {t : TypeId} (h : w.heap[B]? = some (.cells #[u0, u1, u2, u3, u4, u5, u6, u7] t (0, 0))) :
    ((w.setCell ⟨B, 4, none⟩ a).setCell ⟨B, 5, none⟩ b).heap[B]? = some (.cells #[u0, u1, u2, u3, a, b, u6, u7] t (0, 0)) := by
  have h4 := heap_setCell_same w B 4 _ t a h
  have h5 := heap_setCell_same _ B 5 _ t b h4
  simpa using h5
theorem box6 {w : World} {B : Nat} {u0 u1 u2 u3 u4 u5 u6 u7 a : Value} {t : TypeId} (h : w.heap[B]? = some (.cells #[u0, u1, u2, u3, u4, u5, u6, u7] t (0, 0))) :
    (w.setCell ⟨B, 6, none⟩ a).heap[B]? = some (.cells #[u0, u1, u2, u3, u4, u5, a, u7] t (0, 0)) := by
  have h4 := heap_setCell_same w B 6 _ t a h
  simpa using h4
theorem parts_bd (j m k n : Nat) (x1 x2 : Option Int) (h1 : ∀ v, x1 = some v → 0 ≤ v ∧ v < 10000) (h2 : ∀ v, x2 = some v → 0 ≤ v ∧ v < 10000) (hj : j ≤ m) :
    0 ≤ (partsX j m k n x1 x2).1 ∧ (partsX j m k n x1 x2).1 < 10000 ∧ -1 ≤ (partsX j m k n x1 x2).2.1 ∧ (partsX j m k n x1 x2).2.1 < 10000 ∧ (partsX j m k n x1 x2).2.2 ≤ m + 1 := by
  unfold partsX
  by_cases e : j = m
  · rw [if_pos e]; simp
  · rw [if_neg e]
    cases x1 with
    | none => simp
    | some lo =>
      have b1 := h1 lo rfl
      dsimp only
      by_cases e2 : k = n
      · rw [if_pos e2]; dsimp only; omega
      · rw [if_neg e2]
        by_cases e3 : k + 1 = n
        · rw [if_pos e3]; dsimp only; omega
        · rw [if_neg e3]
          cases x2 with
          | none => simp
          | some hi =>
            have b2 := h2 hi rfl
            dsimp only; omega
theorem counts_bd (l : List Int) (h : 1 ≤ l.length) : 0 ≤ (Lx.countsX l).1 ∧ (Lx.countsX l).1 < 10000 ∧ -1 ≤ (Lx.countsX l).2.1 ∧ (Lx.countsX l).2.1 < 10000 ∧ (Lx.countsX l).2.2 ≤ l.length := by
  rw [countsX_parts l _ _ _ rfl rfl rfl]
  have hj := Br.upTo_le 125 (l.drop 1)
  have := parts_bd (Br.upTo 125 (l.drop 1)) (l.drop 1).length (Br.upTo 44 ((l.drop 1).take (Br.upTo 125 (l.drop 1)))) ((l.drop 1).take (Br.upTo 125 (l.drop 1))).length
    (Lx.cntX (((l.drop 1).take (Br.upTo 125 (l.drop 1))).take (Br.upTo 44 ((l.drop 1).take (Br.upTo 125 (l.drop 1)))))) (Lx.cntX (((l.drop 1).take (Br.upTo 125 (l.drop 1))).drop (Br.upTo 44 ((l.drop 1).take (Br.upTo 125 (l.drop 1))) + 1)))
    (fun v hv => cnt_bd hv) (fun v hv => cnt_bd hv) hj
  have hd : (l.drop 1).length = l.length - 1 := List.length_drop
  refine ⟨this.1, this.2.1, this.2.2.1, this.2.2.2.1, ?_⟩
  have h5 := this.2.2.2.2
  omega
theorem bounds_bd (l : List Int) (h : 1 ≤ l.length) : 0 ≤ (Lx.boundsX l).1 ∧ (Lx.boundsX l).1 < 10000 ∧ -1 ≤ (Lx.boundsX l).2.1 ∧ (Lx.boundsX l).2.1 < 10000 ∧ (Lx.boundsX l).2.2 ≤ l.length := by
  unfold Lx.boundsX
  have hc := counts_bd l h
  split
  · dsimp only; omega
  · split
    · dsimp only; omega
    · split
      · dsimp only; omega
      · exact hc
set_option maxRecDepth 100000 in
set_option maxHeartbeats 8000000 in
theorem repeat_any (W : World) (s : ByteArray) (hs : s.size ≤ 4096) (h1 : 1 ≤ s.size) (hE : Ev W) : Calls Tryz.prog 34 #[.string s] W (TokPost (Lx.repX (Utf.nums s)) W) := by
  obtain ⟨X, hX⟩ : ∃ X, Lx.repX (Utf.nums s) = X := ⟨_, rfl⟩
  rw [hX]
  unfold Lx.repX at hX
  have HBD := Lib.hid (fun w (hw : Ev w) => bounds_any w s hs h1 hw)
  have hbd := bounds_bd (Utf.nums s) (by rw [Utf.nums_length]; exact h1)
  rw [Utf.nums_length] at hbd
  obtain ⟨⟨lo, hi, n⟩, hq⟩ : ∃ p, Lx.boundsX (Utf.nums s) = p := ⟨_, rfl⟩
  rw [hq] at HBD hX hbd
  dsimp only at HBD hX hbd
  unfold Lx.repOf at hX
  have HP := Lib.hid (fun w => hasPre1 w (s.extract n s.size) 63 (by decide))
  rw [show (((63 : UInt8).toNat : Nat) : Int) = 63 from rfl, tail_drop, List.getElem?_drop, Nat.add_zero] at HP
  have HE := Lib.hid hE
  clear hq hE
  have hni : (n : Int) ≤ (s.size : Int) := by omega
  have hn0 : (0 : Int) ≤ (n : Int) := by omega
  obtain ⟨n1, hn1⟩ : ∃ n1, n + 1 = n1 := ⟨_, rfl⟩
  have hw : IntKind.i64.wrap ((n : Int) + 1) = (n1 : Int) := by rw [IntKind.wrap_i64]; omega
  rw [hn1] at hX
  have HX := Lib.hid hX.symm
  have HBD2 := Lib.hid hbd
  clear hX hbd hn1
  by_cases cA : 1000 < lo ∨ 1000 < hi
  · have HR : Hid (X = .bad 0 81) := Lib.hid (by rw [HX.out, if_pos (by omega)])
    clear HX
    by_cases hm : lo < hi
    · have hm2 : (1000 : Int) < hi := by omega
      clear cA
      go_enter Tryz.func34, Tryz.ntmps34
      go_wp2_with fail
      refine (HBD.out _ (HE.out.below (Nat.le_refl _) ((Below.refl _ W).alloc (Nat.le_refl _) _))).mono ?_
      rintro e w1 ⟨rfl, hb1⟩
      have HBX := Lib.hid (box_kept hb1)
      have HB1 := Lib.hid (below_of_alloc hb1)
      obtain ⟨d0, d1, d2, d3, d4, d5, d6, d7, g0, g1, g2, g3, g4, g5, g6, g7⟩ := box_facts HBX.out
      clear hb1
      go_wp2
      (try simp only [Exit.inBlock, Exit.then])
      refine ret_tk rfl W.heap.size _ rfl (set8_blk _ _ _ _ _ _ _ _ _ _ (box45 HBX.out)) rfl rfl ?_
      exact ⟨set8_below ((HB1.out.setCell (p := ⟨W.heap.size, 4, none⟩) (Nat.le_refl _) _).setCell (p := ⟨W.heap.size, 5, none⟩) (Nat.le_refl _) _) _ (Nat.le_refl _) _ _ _ _ _ _ _ _, .inl ⟨0, _, _, HR.out, rfl⟩⟩
    · have hm2 : (1000 : Int) < lo := by omega
      clear cA
      go_enter Tryz.func34, Tryz.ntmps34
      go_wp2_with fail
      refine (HBD.out _ (HE.out.below (Nat.le_refl _) ((Below.refl _ W).alloc (Nat.le_refl _) _))).mono ?_
      rintro e w1 ⟨rfl, hb1⟩
      have HBX := Lib.hid (box_kept hb1)
      have HB1 := Lib.hid (below_of_alloc hb1)
      obtain ⟨d0, d1, d2, d3, d4, d5, d6, d7, g0, g1, g2, g3, g4, g5, g6, g7⟩ := box_facts HBX.out
      clear hb1
      go_wp2
      (try simp only [Exit.inBlock, Exit.then])
      refine ret_tk rfl W.heap.size _ rfl (set8_blk _ _ _ _ _ _ _ _ _ _ (box45 HBX.out)) rfl rfl ?_
      exact ⟨set8_below ((HB1.out.setCell (p := ⟨W.heap.size, 4, none⟩) (Nat.le_refl _) _).setCell (p := ⟨W.heap.size, 5, none⟩) (Nat.le_refl _) _) _ (Nat.le_refl _) _ _ _ _ _ _ _ _, .inl ⟨0, _, _, HR.out, rfl⟩⟩
  by_cases cB : hi ≠ -1 ∧ hi < lo
  · have HR : Hid (X = .bad 0 81) := Lib.hid (by rw [HX.out, if_pos (.inr (.inr cB))])
    have hm : ¬ lo < hi := by omega
    have hm2 : ¬ (1000 : Int) < lo := by omega
    have hm3 : (hi != -1) = true := by simpa using cB.1
    have hm4 : hi < lo := cB.2
    clear HX cA cB
    go_enter Tryz.func34, Tryz.ntmps34
    go_wp2_with fail
    refine (HBD.out _ (HE.out.below (Nat.le_refl _) ((Below.refl _ W).alloc (Nat.le_refl _) _))).mono ?_
    rintro e w1 ⟨rfl, hb1⟩
    have HBX := Lib.hid (box_kept hb1)
    have HB1 := Lib.hid (below_of_alloc hb1)
    obtain ⟨d0, d1, d2, d3, d4, d5, d6, d7, g0, g1, g2, g3, g4, g5, g6, g7⟩ := box_facts HBX.out
    clear hb1
    go_wp2
    (try simp only [Exit.inBlock, Exit.then])
    refine ret_tk rfl W.heap.size _ rfl (set8_blk _ _ _ _ _ _ _ _ _ _ (box45 HBX.out)) rfl rfl ?_
    exact ⟨set8_below ((HB1.out.setCell (p := ⟨W.heap.size, 4, none⟩) (Nat.le_refl _) _).setCell (p := ⟨W.heap.size, 5, none⟩) (Nat.le_refl _) _) _ (Nat.le_refl _) _ _ _ _ _ _ _ _, .inl ⟨0, _, _, HR.out, rfl⟩⟩
  have hX2 := HX.out
  rw [if_neg (by omega)] at hX2
  have HX2 := Lib.hid hX2
  clear hX2 HX
  by_cases cL : (Utf.nums s)[n]?.getD 0 = 63
  · have hX3 := HX2.out
    rw [if_pos cL] at hX3
    have HR := Lib.hid hX3
    rw [decide_eq_true cL] at HP
    clear hX3 HX2 cL
    by_cases hz : hi = -1
    · subst hz
      have hm3 : ((-1 : Int) != -1) = false := rfl
      have hm : ¬ lo < -1 := by have := HBD2.out; omega
      have hm2 : ¬ (1000 : Int) < lo := by omega
      clear cA cB
      go_enter Tryz.func34, Tryz.ntmps34
      go_wp2_with fail
      refine (HBD.out _ (HE.out.below (Nat.le_refl _) ((Below.refl _ W).alloc (Nat.le_refl _) _))).mono ?_
      rintro e w1 ⟨rfl, hb1⟩
      have HBX := Lib.hid (box_kept hb1)
      have HB1 := Lib.hid (below_of_alloc hb1)
      obtain ⟨d0, d1, d2, d3, d4, d5, d6, d7, g0, g1, g2, g3, g4, g5, g6, g7⟩ := box_facts HBX.out
      clear hb1
      go_wp2_with fail
      refine (HP.out _).mono ?_
      rintro e w2 ⟨rfl, rfl⟩
      go_wp2
      (try simp only [Exit.inBlock, Exit.then])
      refine ret_tk rfl W.heap.size _ rfl (set8_blk _ _ _ _ _ _ _ _ _ _ (box6 (box45 HBX.out))) rfl rfl ?_
      exact tokPost_plain (set8_below (((HB1.out.setCell (p := ⟨W.heap.size, 4, none⟩) (Nat.le_refl _) _).setCell (p := ⟨W.heap.size, 5, none⟩) (Nat.le_refl _) _).setCell (p := ⟨W.heap.size, 6, none⟩) (Nat.le_refl _) _) _ (Nat.le_refl _) _ _ _ _ _ _ _ _) HR.out rfl rfl
    · have hm3 : (hi != -1) = true := by simpa using hz
      have hm4 : ¬ hi < lo := by omega
      by_cases hm : lo < hi
      · have hm2 : ¬ (1000 : Int) < hi := by omega
        clear cA cB hz
        go_enter Tryz.func34, Tryz.ntmps34
        go_wp2_with fail
        refine (HBD.out _ (HE.out.below (Nat.le_refl _) ((Below.refl _ W).alloc (Nat.le_refl _) _))).mono ?_
        rintro e w1 ⟨rfl, hb1⟩
        have HBX := Lib.hid (box_kept hb1)
        have HB1 := Lib.hid (below_of_alloc hb1)
        obtain ⟨d0, d1, d2, d3, d4, d5, d6, d7, g0, g1, g2, g3, g4, g5, g6, g7⟩ := box_facts HBX.out
        clear hb1
        go_wp2_with fail
        refine (HP.out _).mono ?_
        rintro e w2 ⟨rfl, rfl⟩
        go_wp2
        (try simp only [Exit.inBlock, Exit.then])
        refine ret_tk rfl W.heap.size _ rfl (set8_blk _ _ _ _ _ _ _ _ _ _ (box6 (box45 HBX.out))) rfl rfl ?_
        exact tokPost_plain (set8_below (((HB1.out.setCell (p := ⟨W.heap.size, 4, none⟩) (Nat.le_refl _) _).setCell (p := ⟨W.heap.size, 5, none⟩) (Nat.le_refl _) _).setCell (p := ⟨W.heap.size, 6, none⟩) (Nat.le_refl _) _) _ (Nat.le_refl _) _ _ _ _ _ _ _ _) HR.out rfl rfl
      · have hm2 : ¬ (1000 : Int) < lo := by omega
        clear cA cB hz
        go_enter Tryz.func34, Tryz.ntmps34
        go_wp2_with fail
        refine (HBD.out _ (HE.out.below (Nat.le_refl _) ((Below.refl _ W).alloc (Nat.le_refl _) _))).mono ?_
        rintro e w1 ⟨rfl, hb1⟩
        have HBX := Lib.hid (box_kept hb1)
        have HB1 := Lib.hid (below_of_alloc hb1)
        obtain ⟨d0, d1, d2, d3, d4, d5, d6, d7, g0, g1, g2, g3, g4, g5, g6, g7⟩ := box_facts HBX.out
        clear hb1
        go_wp2_with fail
        refine (HP.out _).mono ?_
        rintro e w2 ⟨rfl, rfl⟩
        go_wp2
        (try simp only [Exit.inBlock, Exit.then])
        refine ret_tk rfl W.heap.size _ rfl (set8_blk _ _ _ _ _ _ _ _ _ _ (box6 (box45 HBX.out))) rfl rfl ?_
        exact tokPost_plain (set8_below (((HB1.out.setCell (p := ⟨W.heap.size, 4, none⟩) (Nat.le_refl _) _).setCell (p := ⟨W.heap.size, 5, none⟩) (Nat.le_refl _) _).setCell (p := ⟨W.heap.size, 6, none⟩) (Nat.le_refl _) _) _ (Nat.le_refl _) _ _ _ _ _ _ _ _) HR.out rfl rfl
  · have hX3 := HX2.out
    rw [if_neg cL] at hX3
    have HR := Lib.hid hX3
    rw [decide_eq_false cL] at HP
    clear hX3 HX2 cL
    by_cases hz : hi = -1
    · subst hz
      have hm3 : ((-1 : Int) != -1) = false := rfl
      have hm : ¬ lo < -1 := by have := HBD2.out; omega
      have hm2 : ¬ (1000 : Int) < lo := by omega
      clear cA cB
      go_enter Tryz.func34, Tryz.ntmps34
      go_wp2_with fail
      refine (HBD.out _ (HE.out.below (Nat.le_refl _) ((Below.refl _ W).alloc (Nat.le_refl _) _))).mono ?_
      rintro e w1 ⟨rfl, hb1⟩
      have HBX := Lib.hid (box_kept hb1)
      have HB1 := Lib.hid (below_of_alloc hb1)
      obtain ⟨d0, d1, d2, d3, d4, d5, d6, d7, g0, g1, g2, g3, g4, g5, g6, g7⟩ := box_facts HBX.out
      clear hb1
      go_wp2_with fail
      refine (HP.out _).mono ?_
      rintro e w2 ⟨rfl, rfl⟩
      go_wp2
      (try simp only [Exit.inBlock, Exit.then])
      refine ret_tk rfl W.heap.size _ rfl (set8_blk _ _ _ _ _ _ _ _ _ _ (box45 HBX.out)) rfl rfl ?_
      exact tokPost_plain (set8_below ((HB1.out.setCell (p := ⟨W.heap.size, 4, none⟩) (Nat.le_refl _) _).setCell (p := ⟨W.heap.size, 5, none⟩) (Nat.le_refl _) _) _ (Nat.le_refl _) _ _ _ _ _ _ _ _) HR.out rfl rfl
    · have hm3 : (hi != -1) = true := by simpa using hz
      have hm4 : ¬ hi < lo := by omega
      by_cases hm : lo < hi
      · have hm2 : ¬ (1000 : Int) < hi := by omega
        clear cA cB hz
        go_enter Tryz.func34, Tryz.ntmps34
        go_wp2_with fail
        refine (HBD.out _ (HE.out.below (Nat.le_refl _) ((Below.refl _ W).alloc (Nat.le_refl _) _))).mono ?_
        rintro e w1 ⟨rfl, hb1⟩
        have HBX := Lib.hid (box_kept hb1)
        have HB1 := Lib.hid (below_of_alloc hb1)
        obtain ⟨d0, d1, d2, d3, d4, d5, d6, d7, g0, g1, g2, g3, g4, g5, g6, g7⟩ := box_facts HBX.out
        clear hb1
        go_wp2_with fail
        refine (HP.out _).mono ?_
        rintro e w2 ⟨rfl, rfl⟩
        go_wp2
        (try simp only [Exit.inBlock, Exit.then])
        refine ret_tk rfl W.heap.size _ rfl (set8_blk _ _ _ _ _ _ _ _ _ _ (box45 HBX.out)) rfl rfl ?_
        exact tokPost_plain (set8_below ((HB1.out.setCell (p := ⟨W.heap.size, 4, none⟩) (Nat.le_refl _) _).setCell (p := ⟨W.heap.size, 5, none⟩) (Nat.le_refl _) _) _ (Nat.le_refl _) _ _ _ _ _ _ _ _) HR.out rfl rfl
      · have hm2 : ¬ (1000 : Int) < lo := by omega
        clear cA cB hz
        go_enter Tryz.func34, Tryz.ntmps34
        go_wp2_with fail
        refine (HBD.out _ (HE.out.below (Nat.le_refl _) ((Below.refl _ W).alloc (Nat.le_refl _) _))).mono ?_
        rintro e w1 ⟨rfl, hb1⟩
        have HBX := Lib.hid (box_kept hb1)
        have HB1 := Lib.hid (below_of_alloc hb1)
        obtain ⟨d0, d1, d2, d3, d4, d5, d6, d7, g0, g1, g2, g3, g4, g5, g6, g7⟩ := box_facts HBX.out
        clear hb1
        go_wp2_with fail
        refine (HP.out _).mono ?_
        rintro e w2 ⟨rfl, rfl⟩
        go_wp2
        (try simp only [Exit.inBlock, Exit.then])
        refine ret_tk rfl W.heap.size _ rfl (set8_blk _ _ _ _ _ _ _ _ _ _ (box45 HBX.out)) rfl rfl ?_
        exact tokPost_plain (set8_below ((HB1.out.setCell (p := ⟨W.heap.size, 4, none⟩) (Nat.le_refl _) _).setCell (p := ⟨W.heap.size, 5, none⟩) (Nat.le_refl _) _) _ (Nat.le_refl _) _ _ _ _ _ _ _ _) HR.out rfl rfl
end Go.Proofs.YtanffablfgnioaaGreatDoor
namespace Go.Proofs.YtanffablfgnioaaGreatDoor
open Go.RowKit
set_option linter.unusedVariables false
theorem decode_conts (s : ByteArray) (pos : Nat) (h : pos < s.size) (ha : 128 ≤ (s[pos]'h).toNat) (k : Nat) (hk : k < (Utf8.decode s pos).2) : pos + k < s.size ∧ 128 ≤ (s.get! (pos + k)).toNat := by
  have hn : ¬ (s[pos]'h).toNat < 128 := by omega
  have h0 : pos + 0 < s.size ∧ 128 ≤ (s.get! (pos + 0)).toNat := ⟨by omega, by rw [get_at s pos h]; exact ha⟩
  have key : (Utf8.decode s pos).2 = 1 ∨ ((Utf8.decode s pos).2 = 2 ∧ pos + 1 < s.size ∧ 128 ≤ (s.get! (pos + 1)).toNat) ∨
      ((Utf8.decode s pos).2 = 3 ∧ pos + 1 < s.size ∧ 128 ≤ (s.get! (pos + 1)).toNat ∧ pos + 2 < s.size ∧ 128 ≤ (s.get! (pos + 2)).toNat) ∨
      ((Utf8.decode s pos).2 = 4 ∧ pos + 1 < s.size ∧ 128 ≤ (s.get! (pos + 1)).toNat ∧ pos + 2 < s.size ∧ 128 ≤ (s.get! (pos + 2)).toNat ∧ pos + 3 < s.size ∧ 128 ≤ (s.get! (pos + 3)).toNat) := by
    simp only [Utf8.decode, get_at s pos h, hn, if_false]
    repeat' split
    all_goals simp_all
    all_goals omega
  rcases key with e | ⟨e, a1, b1⟩ | ⟨e, a1, b1, a2, b2⟩ | ⟨e, a1, b1, a2, b2, a3, b3⟩ <;> rw [e] at hk
  · obtain rfl : k = 0 := by omega
    exact h0
  · rcases (show k = 0 ∨ k = 1 by omega) with rfl | rfl
    · exact h0
    · exact ⟨a1, b1⟩
  · rcases (show k = 0 ∨ k = 1 ∨ k = 2 by omega) with rfl | rfl | rfl
    · exact h0
    · exact ⟨a1, b1⟩
    · exact ⟨a2, b2⟩
  · rcases (show k = 0 ∨ k = 1 ∨ k = 2 ∨ k = 3 by omega) with rfl | rfl | rfl | rfl
    · exact h0
    · exact ⟨a1, b1⟩
    · exact ⟨a2, b2⟩
    · exact ⟨a3, b3⟩
set_option maxRecDepth 100000 in
set_option maxHeartbeats 4000000 in
theorem idxRune_err (w : World) : Calls Tryz.prog 118 #[.string ⟨#[58, 41]⟩, .int .i32 65533] w fun e w' => e = .returned (.int .i64 (-1)) ∧ Below w.heap.size w w' := by
  go_enter Tryz.func118, Tryz.ntmps118
  go_wp2
  go_loopg [] 2 (fun g wx => ∃ i : Nat, i + g = 2 ∧ wx = w.iter ⟨#[58, 41]⟩ i)
  case atStart => exact ⟨0, rfl, rfl⟩
  case round =>
    obtain ⟨i, hi, rfl⟩ := hrel
    cases gk with
    | zero =>
      obtain rfl : i = 2 := by omega
      have hnx := run_next_end (P := Tryz.prog) w ⟨#[58, 41]⟩ 2
      go_wp2
      go_ret
      exact ⟨rfl, (Below.refl _ _).alloc (Nat.le_refl _) _⟩
    | succ g =>
      have hlt : i < (ByteArray.mk #[58, 41]).size := by show i < 2; omega
      obtain ⟨x, hx⟩ : ∃ x : UInt8, (ByteArray.mk #[58, 41])[i]'hlt = x := ⟨_, rfl⟩
      have hx128 : x.toNat < 128 := by
        rw [← hx]
        rcases (show i = 0 ∨ i = 1 by omega) with rfl | rfl
        · show (58 : UInt8).toNat < 128; decide
        · show (41 : UInt8).toNat < 128; decide
      have hnx := fun ty => run_next_ascii (P := Tryz.prog) w ⟨#[58, 41]⟩ i ty hlt (by rw [hx]; exact hx128)
      rw [hx] at hnx
      have hne : ((x.toNat : Int) == 65533) = false := beq_eq_false_iff_ne.2 (by omega)
      go_wp2
      go_roundg g
      case measure => omega
      case rel => exact ⟨i + 1, by omega, rfl⟩
theorem idxByte_nil (w : World) (s : ByteArray) (b : Int) (h : s.data.toList = []) : Calls Tryz.prog 154 #[.string s, .int .u8 b] w fun e w' => e = .returned (.int .i64 (-1)) ∧ w' = w := by
  have h9 := Any.strings_IndexByte (P := Tryz.prog) Tryz.layIdxByte s b w
  change Calls Tryz.prog 154 _ _ _ at h9
  rw [h] at h9
  exact h9
set_option maxRecDepth 100000 in
set_option maxHeartbeats 4000000 in
theorem idxRune_high' (w : World) (c : ByteArray) (hc2 : c.size = 2) (hcb : ∀ h : 1 < c.size, ((c[1]'h).toNat : Int) = 41) (r : Int) (h0 : 128 ≤ r) (h1 : r ≤ 2147483647) (h2 : r ≠ 65533) : Calls Tryz.prog 118 #[.string c, .int .i32 r] w fun e w' => e = .returned (.int .i64 (-1)) ∧ Below w.heap.size w w' := by
  have a0 : (0 : Int) ≤ r := by omega
  have a1 : ¬ r < 128 := by omega
  have a2 : (r == 65533) = false := by simpa using h2
  have hcv := fun w => run_convert_int_string (P := Tryz.prog) w 21 9 .i32 r (by kernel_rfl) (by kernel_rfl)
  have hinv : r < 55296 ∨ (¬ r < 55296 ∧ 57343 < r ∧ r ≤ 1114111) ∨ (¬ r < 55296 ∧ ¬ 57343 < r) ∨ (¬ r < 55296 ∧ 57343 < r ∧ ¬ r ≤ 1114111) := by omega
  have hval : r < 55296 ∨ (57343 < r ∧ r ≤ 1114111) → Utf8.valid r = true := fun h => by unfold Utf8.valid; simp; omega
  have hsz : r < 55296 ∨ (57343 < r ∧ r ≤ 1114111) → 2 ≤ (Utf8.encode r).size ∧ (Utf8.encode r).size ≤ 4 ∧ ∀ h : (Utf8.encode r).size - 1 < (Utf8.encode r).size, 128 ≤ ((Utf8.encode r)[(Utf8.encode r).size - 1]'h).toNat := fun h => encode_facts r (hval h) h0
  obtain ⟨q, hq⟩ : ∃ q, Utf8.encode r = q := ⟨_, rfl⟩
  rw [hq] at hcv hsz
  clear hval hq h0 h2
  rcases hinv with b1 | ⟨b1, b2, b3⟩ | ⟨b1, b2⟩ | ⟨b1, b2, b3⟩
  · obtain ⟨e1, e2, e3⟩ := hsz (by omega)
    by_cases hz : q.size = 2
    · have hy := e3 (by omega)
      have hq1 : 1 < q.size := by omega
      have hc1 : 1 < c.size := by omega
      have hyl : 128 ≤ (q[1]'hq1).toNat := by
        have h9 : q.size - 1 = 1 := by omega
        simpa [h9] using hy
      have hne : (((c[1]'hc1).toNat : Int) != ((q[1]'hq1).toNat : Int)) = true := by rw [hcb hc1]; simp; omega
      have HB := Lib.hid (fun (w : World) (b : Int) => idxByte_nil w ByteArray.empty b rfl)
      have HBQ := Lib.hid (fun (d k : Nat) (b : Int) => calls_quiet_add (P := Tryz.prog) (W := w) (d := d) (n := k) (v := .int .i64 (-1)) ((HB.out (w.drewN (d + k)) b).mono fun e w' h => ⟨h.1, 0, h.2⟩))
      clear hsz e1 e2 e3 hy hyl hcb
      go_enter Tryz.func118, Tryz.ntmps118
      go_wp2
      go_step3
      go_wp2
      go_loop [9] (fun A => A = .int .i64 1) (fun _ => 1)
      case atStart => rfl
      case round =>
        obtain rfl := hrel
        go_wp2
        go_step3
        go_wp2
        go_quiet (fail)
        go_wp2
        go_quiet ((go_at_call 154; exact HBQ.out _ _ _))
        go_wp2
        repeat (first | rw [Exit.noGoto_ret] | simp only [Exit.inBlock, Exit.then] | change Exit.noGoto _ Exit.ret _ _ | change Exit.inBlock _ _ Exit.ret _ _ | change Exit.then _ _ Exit.ret _ _)
        go_ret
        exact ⟨rfl, below_drewNr (Below.refl _ _) _⟩
    · obtain ⟨m, hm⟩ : ∃ m, q.size = m + 1 := ⟨q.size - 1, by omega⟩
      have hw : IntKind.i64.wrap ((q.size : Int) - 1) = (m : Int) := by rw [IntKind.wrap_i64]; omega
      have hlt : ¬ (m : Int) < 2 := by omega
      clear hsz hz e1 e2 e3 hm
      go_enter Tryz.func118, Tryz.ntmps118
      go_wp2
      go_step3
      go_wp2
      go_loop [9] (fun A => A = .int .i64 (m : Int)) (fun _ => 1)
      case atStart => rfl
      case round =>
        obtain rfl := hrel
        go_wp2
        go_ret
        exact ⟨rfl, Below.refl _ _⟩
  · obtain ⟨e1, e2, e3⟩ := hsz (by omega)
    by_cases hz : q.size = 2
    · have hy := e3 (by omega)
      have hq1 : 1 < q.size := by omega
      have hc1 : 1 < c.size := by omega
      have hyl : 128 ≤ (q[1]'hq1).toNat := by
        have h9 : q.size - 1 = 1 := by omega
        simpa [h9] using hy
      have hne : (((c[1]'hc1).toNat : Int) != ((q[1]'hq1).toNat : Int)) = true := by rw [hcb hc1]; simp; omega
      have HB := Lib.hid (fun (w : World) (b : Int) => idxByte_nil w ByteArray.empty b rfl)
      have HBQ := Lib.hid (fun (d k : Nat) (b : Int) => calls_quiet_add (P := Tryz.prog) (W := w) (d := d) (n := k) (v := .int .i64 (-1)) ((HB.out (w.drewN (d + k)) b).mono fun e w' h => ⟨h.1, 0, h.2⟩))
      clear hsz e1 e2 e3 hy hyl hcb
      go_enter Tryz.func118, Tryz.ntmps118
      go_wp2
      go_step3
      go_wp2
      go_loop [9] (fun A => A = .int .i64 1) (fun _ => 1)
      case atStart => rfl
      case round =>
        obtain rfl := hrel
        go_wp2
        go_step3
        go_wp2
        go_quiet (fail)
        go_wp2
        go_quiet ((go_at_call 154; exact HBQ.out _ _ _))
        go_wp2
        repeat (first | rw [Exit.noGoto_ret] | simp only [Exit.inBlock, Exit.then] | change Exit.noGoto _ Exit.ret _ _ | change Exit.inBlock _ _ Exit.ret _ _ | change Exit.then _ _ Exit.ret _ _)
        go_ret
        exact ⟨rfl, below_drewNr (Below.refl _ _) _⟩
    · obtain ⟨m, hm⟩ : ∃ m, q.size = m + 1 := ⟨q.size - 1, by omega⟩
      have hw : IntKind.i64.wrap ((q.size : Int) - 1) = (m : Int) := by rw [IntKind.wrap_i64]; omega
      have hlt : ¬ (m : Int) < 2 := by omega
      clear hsz hz e1 e2 e3 hm
      go_enter Tryz.func118, Tryz.ntmps118
      go_wp2
      go_step3
      go_wp2
      go_loop [9] (fun A => A = .int .i64 (m : Int)) (fun _ => 1)
      case atStart => rfl
      case round =>
        obtain rfl := hrel
        go_wp2
        go_ret
        exact ⟨rfl, Below.refl _ _⟩
  · clear hsz
    go_enter Tryz.func118, Tryz.ntmps118
    go_wp2
    go_ret
    exact ⟨rfl, Below.refl _ _⟩
  · clear hsz
    go_enter Tryz.func118, Tryz.ntmps118
    go_wp2
    go_ret
    exact ⟨rfl, Below.refl _ _⟩
theorem idxAny_eq : ∀ l : List UInt8, Lib.indexAny l [58, 41] = if Lx.upToC (l.map (fun b => (b.toNat : Int))) = l.length then -1 else (Lx.upToC (l.map (fun b => (b.toNat : Int))) : Int)
  | [] => rfl
  | b :: l => by
    have ih := idxAny_eq l
    have hle : Lx.upToC (l.map (fun b => (b.toNat : Int))) ≤ l.length := by
      clear ih
      induction l with
      | nil => simp [Lx.upToC]
      | cons a l ih => simp only [List.map_cons, Lx.upToC]; split <;> simp <;> omega
    unfold Lib.indexAny
    simp only [List.map_cons, Lx.upToC]
    by_cases h : (b.toNat : Int) = 58 ∨ (b.toNat : Int) = 41
    · have hc : ([58, 41] : List UInt8).contains b = true := by
        rcases h with h | h
        · rw [show b = 58 from UInt8.toNat_inj.1 (by have h9 : (58 : UInt8).toNat = 58 := rfl; omega)]; rfl
        · rw [show b = 41 from UInt8.toNat_inj.1 (by have h9 : (41 : UInt8).toNat = 41 := rfl; omega)]; rfl
      rw [if_pos hc, if_pos h, if_neg (by simp)]; rfl
    · have hc : ([58, 41] : List UInt8).contains b = false := by
        rw [Bool.eq_false_iff]
        intro e
        simp at e
        exact h (by rcases e with e | e <;> rw [e] <;> decide)
      rw [if_neg (by rw [hc]; decide), if_neg h, ih]
      by_cases e : Lx.upToC (l.map (fun b => (b.toNat : Int))) = l.length
      · rw [if_pos e]; simp [e]
      · have h8 : ¬ Lx.upToC (l.map (fun b => (b.toNat : Int))) + 1 = (b :: l).length := by simp only [List.length_cons]; omega
        rw [if_neg e, if_neg h8, if_neg (by simp only [beq_iff_eq]; omega)]
        omega
theorem upToC_le : ∀ l : List Int, Lx.upToC l ≤ l.length
  | [] => Nat.le_refl _
  | c :: l => by unfold Lx.upToC; have := upToC_le l; split <;> simp <;> omega
theorem upToC_at : ∀ l : List Int, Lx.upToC l < l.length → l[Lx.upToC l]?.getD 0 = 58 ∨ l[Lx.upToC l]?.getD 0 = 41
  | [], h => by simp [Lx.upToC] at h
  | c :: l, h => by
    unfold Lx.upToC at h ⊢
    split
    · rename_i hc; simpa using hc
    · rename_i hc
      rw [if_neg hc] at h
      simpa using upToC_at l (by simpa using h)
theorem upToC_no : ∀ (l : List Int) (k : Nat), k < Lx.upToC l → ¬ (l[k]?.getD 0 = 58 ∨ l[k]?.getD 0 = 41)
  | [], k, h => by simp
  | c :: l, k, h => by
    unfold Lx.upToC at h
    split at h
    · omega
    · rename_i hc
      cases k with
      | zero => simpa using hc
      | succ k => simpa using upToC_no l k (by omega)
theorem upToC_is (l : List Int) (k : Nat) (hk : k < l.length) (h1 : l[k]?.getD 0 = 58 ∨ l[k]?.getD 0 = 41) (h2 : ∀ j, j < k → ¬ (l[j]?.getD 0 = 58 ∨ l[j]?.getD 0 = 41)) : Lx.upToC l = k := by
  have h3 := upToC_le l
  rcases Nat.lt_trichotomy (Lx.upToC l) k with h | h | h
  · exact absurd (upToC_at l (by omega)) (h2 _ h)
  · exact h
  · exact absurd h1 (upToC_no l k h)
theorem upToC_none (l : List Int) (h2 : ∀ j, j < l.length → ¬ (l[j]?.getD 0 = 58 ∨ l[j]?.getD 0 = 41)) : Lx.upToC l = l.length := by
  have h3 := upToC_le l
  rcases Nat.lt_or_ge (Lx.upToC l) l.length with h | h
  · exact absurd (upToC_at l h) (h2 _ h)
  · omega
theorem idxRune_hi (w : World) (r : Nat) (h0 : 128 ≤ r) (h1 : r ≤ 2147483647) : Calls Tryz.prog 118 #[.string ⟨#[58, 41]⟩, .int .i32 (r : Int)] w fun e w' => e = .returned (.int .i64 (-1)) ∧ Below w.heap.size w w' := by
  by_cases h : r = 65533
  · subst h; exact idxRune_err w
  · exact idxRune_high' w ⟨#[58, 41]⟩ rfl (fun _ => rfl) (r : Int) (by omega) (by omega) (by omega)
def idxV (s : ByteArray) : Int := if Lx.upToC (Utf.nums s) = (Utf.nums s).length then -1 else (Lx.upToC (Utf.nums s) : Int)
theorem idxRune_low (w : World) (x : UInt8) (hx : x.toNat < 128) : Calls Tryz.prog 118 #[.string ⟨#[58, 41]⟩, .int .i32 (x.toNat : Int)] w fun e w' => e = .returned (.int .i64 (if (x.toNat : Int) = 58 then 0 else if (x.toNat : Int) = 41 then 1 else -1)) ∧ w' = w := by
  have h9 := Any.strings_IndexRune_ascii (P := Tryz.prog) { Tryz.layIndexAny with } ⟨#[58, 41]⟩ (x.toNat : Int) w (by omega) (by omega)
  change Calls Tryz.prog 118 _ _ _ at h9
  refine h9.mono ?_
  rintro e w' ⟨rfl, hw⟩
  refine ⟨?_, hw⟩
  have e1 : ((x.toNat : Int)).toNat.toUInt8 = x := by simp
  rw [e1]
  have e2 : Lib.indexByte [58, 41] x = if (x.toNat : Int) = 58 then 0 else if (x.toNat : Int) = 41 then 1 else -1 := by
    have h : ∀ n : Fin 256, Lib.indexByte [58, 41] (UInt8.ofNat n.val) = if ((UInt8.ofNat n.val).toNat : Int) = 58 then 0 else if ((UInt8.ofNat n.val).toNat : Int) = 41 then 1 else -1 := by decide +kernel
    have := h ⟨x.toNat, UInt8.toNat_lt x⟩
    simpa using this
  rw [← e2]
theorem shouldSet_any (w : World) (s : ByteArray) : Calls Tryz.prog 119 #[.int .i64 (s.size : Int)] w fun e w' => e = .returned (.bool (decide ((8 : Int) < (s.size : Int)))) ∧ w' = w := by
  have h9 := Any.strings_shouldUseASCIISet (P := Tryz.prog) { Tryz.layIndexAny with } (s.size : Int) w
  exact h9
theorem below_iterAt (w : World) (k : Nat) (s : ByteArray) (p : Nat) : Below k w (w.iterAt k s p) :=
  ⟨rfl, rfl, rfl, by simp [World.iterAt], fun j hj => by simp [World.iterAt, Array.getElem?_setIfInBounds, Nat.ne_of_gt hj]⟩
set_option maxRecDepth 100000 in
set_option maxHeartbeats 8000000 in
theorem idxAny_any (w : World) (s : ByteArray) (hs : s.size ≤ 4096) : Calls Tryz.prog 88 #[.string s, .string ⟨#[58, 41]⟩] w fun e w' => e = .returned (.int .i64 (idxV s)) ∧ Below w.heap.size w w' := by
  by_cases h8 : 8 < s.size
  · have h116 : (Tryz.prog.info? (Tryz.layIndexAny_ren.t 116)).map (fun i => (i.zero, i.size)) = some (some (.agg (Array.replicate 256 (.bool false))), 256) := by kernel_rfl
    have h9 := Any.strings_IndexAny_long (P := Tryz.prog) Tryz.layIndexAny (zero_of_info h116).1 (zero_of_info h116).2 s ⟨#[58, 41]⟩ w (by decide) h8 (by omega) (by decide) (ascii_of_all (by decide +kernel))
    change Calls Tryz.prog 88 _ _ _ at h9
    refine h9.mono ?_
    rintro e w' ⟨rfl, rfl⟩
    refine ⟨?_, ((Below.refl _ _).alloc (Nat.le_refl _) _).alloc (by simp) _⟩
    unfold idxV
    rw [show (ByteArray.mk #[58, 41]).data.toList = [58, 41] from rfl, idxAny_eq, Utf.nums_length]
    rfl
  have h8z : decide ((8 : Int) < (s.size : Int)) = false := decide_eq_false (by omega)
  have HSS := Lib.hid (fun w => shouldSet_any w s)
  rw [h8z] at HSS
  have HV : Hid (Lx.upToC (Utf.nums s) = Lx.upToC (Utf.nums s)) := Lib.hid rfl
  clear h8z h8
  go_enter Tryz.func88, Tryz.ntmps88
  go_wp2_with fail
  refine (HSS.out _).mono ?_
  rintro e w' ⟨rfl, rfl⟩
  go_wp2
  go_loopg [9, 10] s.size (fun g _ _ wx => ∃ i : Nat, i + g = s.size ∧ Below w'.heap.size w' wx ∧ wx.heap[w'.heap.size]? = some (.stringIter s i) ∧ ∀ j, j < i → ¬ ((Utf.nums s)[j]?.getD 0 = 58 ∨ (Utf.nums s)[j]?.getD 0 = 41))
  case atStart => exact ⟨0, by omega, (Below.refl _ _).alloc (Nat.le_refl _) _, heap_alloc_new _ _, fun j hj => absurd hj (by omega)⟩
  case round =>
    obtain ⟨i, hig, hb, hit, hno⟩ := hrel
    have HB := Lib.hid hb
    have HIT := Lib.hid hit
    have HNO := Lib.hid hno
    clear hb hno
    by_cases hlt : i < s.size
    · have hnx := fun ty => Lib.run_next_any_at (P := Tryz.prog) wr w'.heap.size s i ty hit hlt
      have hst : ∀ p, (wr.iterAt w'.heap.size s p).heap[w'.heap.size]? = some (.stringIter s p) := fun p => Lib.iterAt_heap wr w'.heap.size s i p hit
      have hbb : ∀ p, Below w'.heap.size w' (wr.iterAt w'.heap.size s p) := fun p => HB.out.trans (below_iterAt _ _ _ _)
      by_cases hlow : (s[i]'hlt).toNat < 128
      · obtain ⟨x, hx⟩ : ∃ x : UInt8, s[i]'hlt = x := ⟨_, rfl⟩
        rw [decode_ascii s i hlt hlow] at hnx
        have hxx : (Utf.nums s)[i]?.getD 0 = (x.toNat : Int) := by rw [← hx]; exact Utf.nums_at s i hlt
        rw [hx] at hnx hlow
        have HL := Lib.hid (fun w => idxRune_low w x hlow)
        by_cases hc : (x.toNat : Int) = 58 ∨ (x.toNat : Int) = 41
        · have hv : idxV s = (i : Int) := by
            unfold idxV
            have := upToC_is (Utf.nums s) i (by rw [Utf.nums_length]; exact hlt) (by rw [hxx]; exact hc) HNO.out
            rw [this, if_neg (by rw [Utf.nums_length]; omega)]
          have HVV := Lib.hid hv
          have hge : (0 : Int) ≤ (if (x.toNat : Int) = 58 then 0 else if (x.toNat : Int) = 41 then 1 else -1) := by
            rcases hc with h | h
            · rw [if_pos h]; decide
            · rw [if_neg (by omega), if_pos h]; decide
          obtain ⟨V, hV⟩ : ∃ V : Int, (if (x.toNat : Int) = 58 then 0 else if (x.toNat : Int) = 41 then 1 else -1) = V := ⟨_, rfl⟩
          rw [hV] at HL hge
          have HBB := Lib.hid (hbb (i + 1))
          clear hit hst hbb hV hc hv hxx hx
          go_wp2_with fail
          refine (HL.out _).mono ?_
          rintro e w2 ⟨rfl, rfl⟩
          go_wp2
          go_ret
          exact ⟨by rw [HVV.out]; rfl, HBB.out⟩
        · have hge : ¬ (0 : Int) ≤ -1 := by decide
          rw [show (if (x.toNat : Int) = 58 then (0 : Int) else if (x.toNat : Int) = 41 then 1 else -1) = -1 from by rw [if_neg (fun h => hc (.inl h)), if_neg (fun h => hc (.inr h))]] at HL
          have HBB := Lib.hid (hbb (i + 1))
          have HST := Lib.hid (hst (i + 1))
          have HN2 : Hid (∀ j, j < i + 1 → ¬ ((Utf.nums s)[j]?.getD 0 = 58 ∨ (Utf.nums s)[j]?.getD 0 = 41)) := Lib.hid (fun j hj => by
            rcases Nat.lt_or_ge j i with h | h
            · exact HNO.out j h
            · obtain rfl : j = i := by omega
              rw [hxx]; exact hc)
          obtain ⟨g, rfl⟩ : ∃ g, gk = g + 1 := ⟨gk - 1, by omega⟩
          clear hit hst hbb hxx hc hx
          go_wp2_with fail
          refine (HL.out _).mono ?_
          rintro e w2 ⟨rfl, rfl⟩
          go_wp2
          go_roundg g
          case measure => omega
          case rel => exact ⟨i + 1, by omega, HBB.out, HST.out, HN2.out⟩
      · have hdh := decode_high s i hlt (by omega)
        have hdl := decode_le s i
        have hdc := decode_conts s i hlt (by omega)
        obtain ⟨⟨r, n⟩, hD⟩ : ∃ p, Utf8.decode s i = p := ⟨_, rfl⟩
        rw [hD] at hnx hdh hdl hdc
        dsimp only at hnx hdh hdl hdc
        have hin : i + n ≤ s.size := by have := (hdc (n - 1) (by omega)).1; omega
        have HL := Lib.hid (fun w => idxRune_hi w r hdh.1 hdl)
        have hge : ¬ (0 : Int) ≤ -1 := by decide
        have HBB := Lib.hid (hbb (i + n))
        have HST := Lib.hid (hst (i + n))
        have HN2 : Hid (∀ j, j < i + n → ¬ ((Utf.nums s)[j]?.getD 0 = 58 ∨ (Utf.nums s)[j]?.getD 0 = 41)) := Lib.hid (fun j hj => by
          rcases Nat.lt_or_ge j i with h | h
          · exact HNO.out j h
          · have h2 := hdc (j - i) (by omega)
            have h3 : j < s.size := by omega
            rw [show i + (j - i) = j by omega] at h2
            have h4 := Utf.nums_at s j h3
            have h5 : s.get! j = s[j]'h3 := by have := get_at s j h3; simpa using this
            rw [h5] at h2
            omega)
        obtain ⟨g, hg⟩ : ∃ g, i + n + g = s.size := ⟨s.size - (i + n), by omega⟩
        have hsz := HIT.out
        have hsz2 : w'.heap.size < wr.heap.size := (Array.getElem?_eq_some_iff.1 hsz).1
        have hgk : g < gk := by omega
        clear hit hst hbb hdh hdl hdc hlow hD hsz
        go_wp2_with fail
        refine (HL.out _).mono ?_
        rintro e w2 ⟨rfl, hb2⟩
        have hb3 : Below w'.heap.size w' w2 := HBB.out.trans (hb2.mono (by simp [World.iterAt]; omega))
        have hh3 : w2.heap[w'.heap.size]? = some (.stringIter s (i + n)) := (hb2.block _ (by simp [World.iterAt]; omega)).trans HST.out
        have HB3 := Lib.hid hb3
        have HH3 := Lib.hid hh3
        clear hb2 hb3 hh3
        go_wp2
        go_roundg g
        case measure => omega
        case rel => exact ⟨i + n, hg, HB3.out, HH3.out, HN2.out⟩
    · have hnx := fun ty => Lib.run_next_end_at (P := Tryz.prog) wr w'.heap.size s i ty hit hlt
      have hv : idxV s = -1 := by
        unfold idxV
        rw [if_pos]
        exact upToC_none (Utf.nums s) (fun j hj => HNO.out j (by rw [Utf.nums_length] at hj; omega))
      have HVV := Lib.hid hv
      clear hv hit hlt
      go_wp2
      go_ret
      exact ⟨by rw [HVV.out]; rfl, HB.out⟩
end Go.Proofs.YtanffablfgnioaaGreatDoor
