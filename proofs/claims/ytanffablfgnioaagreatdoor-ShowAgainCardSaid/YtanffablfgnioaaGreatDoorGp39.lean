/- The landed lex: the token at the front. -/
import Derived.Test.YtanffablfgnioaaGreatDoorGp38
namespace Go.Proofs.YtanffablfgnioaaGreatDoor
open Go.RowKit
open Lx (Tk TR)
set_option linter.unusedVariables false
set_option maxRecDepth 100000 in
set_option maxHeartbeats 8000000 in
theorem tok_46 (W : World) (s : ByteArray) (hs : s.size ≤ 4096) (h0 : 0 < s.size) (hv : ((s[0]'h0).toNat : Int) = 46) (hE : Ev W) : Calls Tryz.prog 14 #[.string s] W (TokPost (Lx.tokX s) W) := by
  have HE := Lib.hid hE
  clear hE
  have h0i : (0 : Int) < (s.size : Int) := by omega
  have hat : (Utf.nums s)[0]?.getD 0 = ((s[0]'h0).toNat : Int) := Utf.nums_at s 0 h0
  obtain ⟨X, hX⟩ : ∃ X, Lx.tokX s = X := ⟨_, rfl⟩
  rw [hX]
  have HX : Hid (X = .ok { kind := 3 } 1) := Lib.hid (by rw [← hX]; unfold Lx.tokX; rw [hat, hv]; rfl)
  have b46 : (((s[0]'h0).toNat : Int) == 46) = true := by rw [hv]; rfl
  have b94 : (((s[0]'h0).toNat : Int) == 94) = false := by rw [hv]; rfl
  have b36 : (((s[0]'h0).toNat : Int) == 36) = false := by rw [hv]; rfl
  have b41 : (((s[0]'h0).toNat : Int) == 41) = false := by rw [hv]; rfl
  have b124 : (((s[0]'h0).toNat : Int) == 124) = false := by rw [hv]; rfl
  have b92 : (((s[0]'h0).toNat : Int) == 92) = false := by rw [hv]; rfl
  have b91 : (((s[0]'h0).toNat : Int) == 91) = false := by rw [hv]; rfl
  have b40 : (((s[0]'h0).toNat : Int) == 40) = false := by rw [hv]; rfl
  have b123 : (((s[0]'h0).toNat : Int) == 123) = false := by rw [hv]; rfl
  have b42 : (((s[0]'h0).toNat : Int) == 42) = false := by rw [hv]; rfl
  have b43 : (((s[0]'h0).toNat : Int) == 43) = false := by rw [hv]; rfl
  have b63 : (((s[0]'h0).toNat : Int) == 63) = false := by rw [hv]; rfl
  clear hX hat hv
  go_enter Tryz.func14, Tryz.ntmps14
  go_wp2
  (try simp only [Exit.inBlock, Exit.then])
  refine ret_tk rfl W.heap.size _ rfl (heap_alloc_new W _) rfl rfl ?_
  exact tokPost_plain ((Below.refl _ _).alloc (Nat.le_refl _) _) HX.out rfl rfl
set_option maxRecDepth 100000 in
set_option maxHeartbeats 8000000 in
theorem tok_94 (W : World) (s : ByteArray) (hs : s.size ≤ 4096) (h0 : 0 < s.size) (hv : ((s[0]'h0).toNat : Int) = 94) (hE : Ev W) : Calls Tryz.prog 14 #[.string s] W (TokPost (Lx.tokX s) W) := by
  have HE := Lib.hid hE
  clear hE
  have h0i : (0 : Int) < (s.size : Int) := by omega
  have hat : (Utf.nums s)[0]?.getD 0 = ((s[0]'h0).toNat : Int) := Utf.nums_at s 0 h0
  obtain ⟨X, hX⟩ : ∃ X, Lx.tokX s = X := ⟨_, rfl⟩
  rw [hX]
  have HX : Hid (X = .ok { kind := 6 } 1) := Lib.hid (by rw [← hX]; unfold Lx.tokX; rw [hat, hv]; rfl)
  have b46 : (((s[0]'h0).toNat : Int) == 46) = false := by rw [hv]; rfl
  have b94 : (((s[0]'h0).toNat : Int) == 94) = true := by rw [hv]; rfl
  have b36 : (((s[0]'h0).toNat : Int) == 36) = false := by rw [hv]; rfl
  have b41 : (((s[0]'h0).toNat : Int) == 41) = false := by rw [hv]; rfl
  have b124 : (((s[0]'h0).toNat : Int) == 124) = false := by rw [hv]; rfl
  have b92 : (((s[0]'h0).toNat : Int) == 92) = false := by rw [hv]; rfl
  have b91 : (((s[0]'h0).toNat : Int) == 91) = false := by rw [hv]; rfl
  have b40 : (((s[0]'h0).toNat : Int) == 40) = false := by rw [hv]; rfl
  have b123 : (((s[0]'h0).toNat : Int) == 123) = false := by rw [hv]; rfl
  have b42 : (((s[0]'h0).toNat : Int) == 42) = false := by rw [hv]; rfl
  have b43 : (((s[0]'h0).toNat : Int) == 43) = false := by rw [hv]; rfl
  have b63 : (((s[0]'h0).toNat : Int) == 63) = false := by rw [hv]; rfl
  clear hX hat hv
  go_enter Tryz.func14, Tryz.ntmps14
  go_wp2
  (try simp only [Exit.inBlock, Exit.then])
  refine ret_tk rfl W.heap.size _ rfl (heap_alloc_new W _) rfl rfl ?_
  exact tokPost_plain ((Below.refl _ _).alloc (Nat.le_refl _) _) HX.out rfl rfl
set_option maxRecDepth 100000 in
set_option maxHeartbeats 8000000 in
theorem tok_36 (W : World) (s : ByteArray) (hs : s.size ≤ 4096) (h0 : 0 < s.size) (hv : ((s[0]'h0).toNat : Int) = 36) (hE : Ev W) : Calls Tryz.prog 14 #[.string s] W (TokPost (Lx.tokX s) W) := by
  have HE := Lib.hid hE
  clear hE
  have h0i : (0 : Int) < (s.size : Int) := by omega
  have hat : (Utf.nums s)[0]?.getD 0 = ((s[0]'h0).toNat : Int) := Utf.nums_at s 0 h0
  obtain ⟨X, hX⟩ : ∃ X, Lx.tokX s = X := ⟨_, rfl⟩
  rw [hX]
  have HX : Hid (X = .ok { kind := 7 } 1) := Lib.hid (by rw [← hX]; unfold Lx.tokX; rw [hat, hv]; rfl)
  have b46 : (((s[0]'h0).toNat : Int) == 46) = false := by rw [hv]; rfl
  have b94 : (((s[0]'h0).toNat : Int) == 94) = false := by rw [hv]; rfl
  have b36 : (((s[0]'h0).toNat : Int) == 36) = true := by rw [hv]; rfl
  have b41 : (((s[0]'h0).toNat : Int) == 41) = false := by rw [hv]; rfl
  have b124 : (((s[0]'h0).toNat : Int) == 124) = false := by rw [hv]; rfl
  have b92 : (((s[0]'h0).toNat : Int) == 92) = false := by rw [hv]; rfl
  have b91 : (((s[0]'h0).toNat : Int) == 91) = false := by rw [hv]; rfl
  have b40 : (((s[0]'h0).toNat : Int) == 40) = false := by rw [hv]; rfl
  have b123 : (((s[0]'h0).toNat : Int) == 123) = false := by rw [hv]; rfl
  have b42 : (((s[0]'h0).toNat : Int) == 42) = false := by rw [hv]; rfl
  have b43 : (((s[0]'h0).toNat : Int) == 43) = false := by rw [hv]; rfl
  have b63 : (((s[0]'h0).toNat : Int) == 63) = false := by rw [hv]; rfl
  clear hX hat hv
  go_enter Tryz.func14, Tryz.ntmps14
  go_wp2
  (try simp only [Exit.inBlock, Exit.then])
  refine ret_tk rfl W.heap.size _ rfl (heap_alloc_new W _) rfl rfl ?_
  exact tokPost_plain ((Below.refl _ _).alloc (Nat.le_refl _) _) HX.out rfl rfl
set_option maxRecDepth 100000 in
set_option maxHeartbeats 8000000 in
theorem tok_41 (W : World) (s : ByteArray) (hs : s.size ≤ 4096) (h0 : 0 < s.size) (hv : ((s[0]'h0).toNat : Int) = 41) (hE : Ev W) : Calls Tryz.prog 14 #[.string s] W (TokPost (Lx.tokX s) W) := by
  have HE := Lib.hid hE
  clear hE
  have h0i : (0 : Int) < (s.size : Int) := by omega
  have hat : (Utf.nums s)[0]?.getD 0 = ((s[0]'h0).toNat : Int) := Utf.nums_at s 0 h0
  obtain ⟨X, hX⟩ : ∃ X, Lx.tokX s = X := ⟨_, rfl⟩
  rw [hX]
  have HX : Hid (X = .ok { kind := 11 } 1) := Lib.hid (by rw [← hX]; unfold Lx.tokX; rw [hat, hv]; rfl)
  have b46 : (((s[0]'h0).toNat : Int) == 46) = false := by rw [hv]; rfl
  have b94 : (((s[0]'h0).toNat : Int) == 94) = false := by rw [hv]; rfl
  have b36 : (((s[0]'h0).toNat : Int) == 36) = false := by rw [hv]; rfl
  have b41 : (((s[0]'h0).toNat : Int) == 41) = true := by rw [hv]; rfl
  have b124 : (((s[0]'h0).toNat : Int) == 124) = false := by rw [hv]; rfl
  have b92 : (((s[0]'h0).toNat : Int) == 92) = false := by rw [hv]; rfl
  have b91 : (((s[0]'h0).toNat : Int) == 91) = false := by rw [hv]; rfl
  have b40 : (((s[0]'h0).toNat : Int) == 40) = false := by rw [hv]; rfl
  have b123 : (((s[0]'h0).toNat : Int) == 123) = false := by rw [hv]; rfl
  have b42 : (((s[0]'h0).toNat : Int) == 42) = false := by rw [hv]; rfl
  have b43 : (((s[0]'h0).toNat : Int) == 43) = false := by rw [hv]; rfl
  have b63 : (((s[0]'h0).toNat : Int) == 63) = false := by rw [hv]; rfl
  clear hX hat hv
  go_enter Tryz.func14, Tryz.ntmps14
  go_wp2
  (try simp only [Exit.inBlock, Exit.then])
  refine ret_tk rfl W.heap.size _ rfl (heap_alloc_new W _) rfl rfl ?_
  exact tokPost_plain ((Below.refl _ _).alloc (Nat.le_refl _) _) HX.out rfl rfl
set_option maxRecDepth 100000 in
set_option maxHeartbeats 8000000 in
theorem tok_124 (W : World) (s : ByteArray) (hs : s.size ≤ 4096) (h0 : 0 < s.size) (hv : ((s[0]'h0).toNat : Int) = 124) (hE : Ev W) : Calls Tryz.prog 14 #[.string s] W (TokPost (Lx.tokX s) W) := by
  have HE := Lib.hid hE
  clear hE
  have h0i : (0 : Int) < (s.size : Int) := by omega
  have hat : (Utf.nums s)[0]?.getD 0 = ((s[0]'h0).toNat : Int) := Utf.nums_at s 0 h0
  obtain ⟨X, hX⟩ : ∃ X, Lx.tokX s = X := ⟨_, rfl⟩
  rw [hX]
  have HX : Hid (X = .ok { kind := 12 } 1) := Lib.hid (by rw [← hX]; unfold Lx.tokX; rw [hat, hv]; rfl)
  have b46 : (((s[0]'h0).toNat : Int) == 46) = false := by rw [hv]; rfl
  have b94 : (((s[0]'h0).toNat : Int) == 94) = false := by rw [hv]; rfl
  have b36 : (((s[0]'h0).toNat : Int) == 36) = false := by rw [hv]; rfl
  have b41 : (((s[0]'h0).toNat : Int) == 41) = false := by rw [hv]; rfl
  have b124 : (((s[0]'h0).toNat : Int) == 124) = true := by rw [hv]; rfl
  have b92 : (((s[0]'h0).toNat : Int) == 92) = false := by rw [hv]; rfl
  have b91 : (((s[0]'h0).toNat : Int) == 91) = false := by rw [hv]; rfl
  have b40 : (((s[0]'h0).toNat : Int) == 40) = false := by rw [hv]; rfl
  have b123 : (((s[0]'h0).toNat : Int) == 123) = false := by rw [hv]; rfl
  have b42 : (((s[0]'h0).toNat : Int) == 42) = false := by rw [hv]; rfl
  have b43 : (((s[0]'h0).toNat : Int) == 43) = false := by rw [hv]; rfl
  have b63 : (((s[0]'h0).toNat : Int) == 63) = false := by rw [hv]; rfl
  clear hX hat hv
  go_enter Tryz.func14, Tryz.ntmps14
  go_wp2
  (try simp only [Exit.inBlock, Exit.then])
  refine ret_tk rfl W.heap.size _ rfl (heap_alloc_new W _) rfl rfl ?_
  exact tokPost_plain ((Below.refl _ _).alloc (Nat.le_refl _) _) HX.out rfl rfl
set_option maxRecDepth 100000 in
set_option maxHeartbeats 8000000 in
theorem tok_92 (W : World) (s : ByteArray) (hs : s.size ≤ 4096) (h0 : 0 < s.size) (hv : ((s[0]'h0).toNat : Int) = 92) (hE : Ev W) : Calls Tryz.prog 14 #[.string s] W (TokPost (Lx.tokX s) W) := by
  have HE := Lib.hid hE
  clear hE
  have h0i : (0 : Int) < (s.size : Int) := by omega
  have hat : (Utf.nums s)[0]?.getD 0 = ((s[0]'h0).toNat : Int) := Utf.nums_at s 0 h0
  obtain ⟨X, hX⟩ : ∃ X, Lx.tokX s = X := ⟨_, rfl⟩
  rw [hX]
  have HX0 : Hid (X = Lx.escX s) := Lib.hid (by rw [← hX]; unfold Lx.tokX; rw [hat, hv]; rfl)
  have b46 : (((s[0]'h0).toNat : Int) == 46) = false := by rw [hv]; rfl
  have b94 : (((s[0]'h0).toNat : Int) == 94) = false := by rw [hv]; rfl
  have b36 : (((s[0]'h0).toNat : Int) == 36) = false := by rw [hv]; rfl
  have b41 : (((s[0]'h0).toNat : Int) == 41) = false := by rw [hv]; rfl
  have b124 : (((s[0]'h0).toNat : Int) == 124) = false := by rw [hv]; rfl
  have b92 : (((s[0]'h0).toNat : Int) == 92) = true := by rw [hv]; rfl
  have b91 : (((s[0]'h0).toNat : Int) == 91) = false := by rw [hv]; rfl
  have b40 : (((s[0]'h0).toNat : Int) == 40) = false := by rw [hv]; rfl
  have b123 : (((s[0]'h0).toNat : Int) == 123) = false := by rw [hv]; rfl
  have b42 : (((s[0]'h0).toNat : Int) == 42) = false := by rw [hv]; rfl
  have b43 : (((s[0]'h0).toNat : Int) == 43) = false := by rw [hv]; rfl
  have b63 : (((s[0]'h0).toNat : Int) == 63) = false := by rw [hv]; rfl
  clear hX hat hv
  go_enter Tryz.func14, Tryz.ntmps14
  go_wp2_with fail
  refine (escape_any _ s (by omega) h0 (HE.out.below (Nat.le_refl _) ((Below.refl _ W).alloc (Nat.le_refl _) _))).mono ?_
  intro e9 w1 hp
  obtain ⟨hb1, hp⟩ := hp
  have HBX := Lib.hid (box_kept hb1)
  have HB1 := Lib.hid (below_of_alloc hb1)
  obtain ⟨d0, d1, d2, d3, d4, d5, d6, d7, g0, g1, g2, g3, g4, g5, g6, g7⟩ := box_facts HBX.out
  rcases hp with ⟨k, o, c, hx, rfl⟩ | ⟨t, m, vs, out, hx, rfl, hi, ho⟩
  · have HX := Lib.hid (HX0.out.trans hx)
    clear hb1 hx
    unfold tkV
    go_wp2
    (try simp only [Exit.inBlock, Exit.then])
    refine ret_tk rfl W.heap.size _ rfl (set8_blk _ _ _ _ _ _ _ _ _ _ HBX.out) rfl rfl ?_
    exact ⟨set8_below HB1.out _ (Nat.le_refl _) _ _ _ _ _ _ _ _, .inl ⟨k, _, _, HX.out, rfl⟩⟩
  · obtain ⟨va, vc, rfl⟩ := own_slice ho
    have HX := Lib.hid (HX0.out.trans hx)
    have HI := Lib.hid hi
    have HO := Lib.hid (ho.lower (base' := W.heap.size + 1) (by simp))
    clear hb1 hx hi ho
    unfold tkV
    go_wp2
    (try simp only [Exit.inBlock, Exit.then])
    refine ret_tk rfl W.heap.size _ rfl (set8_blk _ _ _ _ _ _ _ _ _ _ HBX.out) rfl rfl ?_
    exact ⟨set8_below HB1.out _ (Nat.le_refl _) _ _ _ _ _ _ _ _, .inr ⟨t, m, _, out, HX.out, rfl, HI.out, (own_set8 HO.out (by omega) _ _ _ _ _ _ _ _).lower (by omega)⟩⟩
set_option maxRecDepth 100000 in
set_option maxHeartbeats 8000000 in
theorem tok_91 (W : World) (s : ByteArray) (hs : s.size ≤ 4096) (h0 : 0 < s.size) (hv : ((s[0]'h0).toNat : Int) = 91) (hE : Ev W) : Calls Tryz.prog 14 #[.string s] W (TokPost (Lx.tokX s) W) := by
  have HE := Lib.hid hE
  clear hE
  have h0i : (0 : Int) < (s.size : Int) := by omega
  have hat : (Utf.nums s)[0]?.getD 0 = ((s[0]'h0).toNat : Int) := Utf.nums_at s 0 h0
  obtain ⟨X, hX⟩ : ∃ X, Lx.tokX s = X := ⟨_, rfl⟩
  rw [hX]
  have HX0 : Hid (X = Lx.brackX s) := Lib.hid (by rw [← hX]; unfold Lx.tokX; rw [hat, hv]; rfl)
  have b46 : (((s[0]'h0).toNat : Int) == 46) = false := by rw [hv]; rfl
  have b94 : (((s[0]'h0).toNat : Int) == 94) = false := by rw [hv]; rfl
  have b36 : (((s[0]'h0).toNat : Int) == 36) = false := by rw [hv]; rfl
  have b41 : (((s[0]'h0).toNat : Int) == 41) = false := by rw [hv]; rfl
  have b124 : (((s[0]'h0).toNat : Int) == 124) = false := by rw [hv]; rfl
  have b92 : (((s[0]'h0).toNat : Int) == 92) = false := by rw [hv]; rfl
  have b91 : (((s[0]'h0).toNat : Int) == 91) = true := by rw [hv]; rfl
  have b40 : (((s[0]'h0).toNat : Int) == 40) = false := by rw [hv]; rfl
  have b123 : (((s[0]'h0).toNat : Int) == 123) = false := by rw [hv]; rfl
  have b42 : (((s[0]'h0).toNat : Int) == 42) = false := by rw [hv]; rfl
  have b43 : (((s[0]'h0).toNat : Int) == 43) = false := by rw [hv]; rfl
  have b63 : (((s[0]'h0).toNat : Int) == 63) = false := by rw [hv]; rfl
  clear hX hat hv
  go_enter Tryz.func14, Tryz.ntmps14
  go_wp2_with fail
  refine (brackets_any _ s hs (HE.out.below (Nat.le_refl _) ((Below.refl _ W).alloc (Nat.le_refl _) _))).mono ?_
  intro e9 w1 hp
  obtain ⟨hb1, hp⟩ := hp
  have HBX := Lib.hid (box_kept hb1)
  have HB1 := Lib.hid (below_of_alloc hb1)
  obtain ⟨d0, d1, d2, d3, d4, d5, d6, d7, g0, g1, g2, g3, g4, g5, g6, g7⟩ := box_facts HBX.out
  rcases hp with ⟨k, o, c, hx, rfl⟩ | ⟨t, m, vs, out, hx, rfl, hi, ho⟩
  · have HX := Lib.hid (HX0.out.trans hx)
    clear hb1 hx
    unfold tkV
    go_wp2
    (try simp only [Exit.inBlock, Exit.then])
    refine ret_tk rfl W.heap.size _ rfl (set8_blk _ _ _ _ _ _ _ _ _ _ HBX.out) rfl rfl ?_
    exact ⟨set8_below HB1.out _ (Nat.le_refl _) _ _ _ _ _ _ _ _, .inl ⟨k, _, _, HX.out, rfl⟩⟩
  · obtain ⟨va, vc, rfl⟩ := own_slice ho
    have HX := Lib.hid (HX0.out.trans hx)
    have HI := Lib.hid hi
    have HO := Lib.hid (ho.lower (base' := W.heap.size + 1) (by simp))
    clear hb1 hx hi ho
    unfold tkV
    go_wp2
    (try simp only [Exit.inBlock, Exit.then])
    refine ret_tk rfl W.heap.size _ rfl (set8_blk _ _ _ _ _ _ _ _ _ _ HBX.out) rfl rfl ?_
    exact ⟨set8_below HB1.out _ (Nat.le_refl _) _ _ _ _ _ _ _ _, .inr ⟨t, m, _, out, HX.out, rfl, HI.out, (own_set8 HO.out (by omega) _ _ _ _ _ _ _ _).lower (by omega)⟩⟩
set_option maxRecDepth 100000 in
set_option maxHeartbeats 8000000 in
theorem tok_40 (W : World) (s : ByteArray) (hs : s.size ≤ 4096) (h0 : 0 < s.size) (hv : ((s[0]'h0).toNat : Int) = 40) (hE : Ev W) : Calls Tryz.prog 14 #[.string s] W (TokPost (Lx.tokX s) W) := by
  have HE := Lib.hid hE
  clear hE
  have h0i : (0 : Int) < (s.size : Int) := by omega
  have hat : (Utf.nums s)[0]?.getD 0 = ((s[0]'h0).toNat : Int) := Utf.nums_at s 0 h0
  obtain ⟨X, hX⟩ : ∃ X, Lx.tokX s = X := ⟨_, rfl⟩
  rw [hX]
  have HX0 : Hid (X = Lx.openX s) := Lib.hid (by rw [← hX]; unfold Lx.tokX; rw [hat, hv]; rfl)
  have H40 : Hid ((Utf.nums s)[0]?.getD 0 = 40) := Lib.hid (by rw [hat, hv])
  have b46 : (((s[0]'h0).toNat : Int) == 46) = false := by rw [hv]; rfl
  have b94 : (((s[0]'h0).toNat : Int) == 94) = false := by rw [hv]; rfl
  have b36 : (((s[0]'h0).toNat : Int) == 36) = false := by rw [hv]; rfl
  have b41 : (((s[0]'h0).toNat : Int) == 41) = false := by rw [hv]; rfl
  have b124 : (((s[0]'h0).toNat : Int) == 124) = false := by rw [hv]; rfl
  have b92 : (((s[0]'h0).toNat : Int) == 92) = false := by rw [hv]; rfl
  have b91 : (((s[0]'h0).toNat : Int) == 91) = false := by rw [hv]; rfl
  have b40 : (((s[0]'h0).toNat : Int) == 40) = true := by rw [hv]; rfl
  have b123 : (((s[0]'h0).toNat : Int) == 123) = false := by rw [hv]; rfl
  have b42 : (((s[0]'h0).toNat : Int) == 42) = false := by rw [hv]; rfl
  have b43 : (((s[0]'h0).toNat : Int) == 43) = false := by rw [hv]; rfl
  have b63 : (((s[0]'h0).toNat : Int) == 63) = false := by rw [hv]; rfl
  clear hX hat hv
  go_enter Tryz.func14, Tryz.ntmps14
  go_wp2_with fail
  refine (open_any _ s hs H40.out (HE.out.below (Nat.le_refl _) ((Below.refl _ W).alloc (Nat.le_refl _) _))).mono ?_
  intro e9 w1 hp
  obtain ⟨hb1, hp⟩ := hp
  have HBX := Lib.hid (box_kept hb1)
  have HB1 := Lib.hid (below_of_alloc hb1)
  obtain ⟨d0, d1, d2, d3, d4, d5, d6, d7, g0, g1, g2, g3, g4, g5, g6, g7⟩ := box_facts HBX.out
  rcases hp with ⟨k, o, c, hx, rfl⟩ | ⟨t, m, vs, out, hx, rfl, hi, ho⟩
  · have HX := Lib.hid (HX0.out.trans hx)
    clear hb1 hx
    unfold tkV
    go_wp2
    (try simp only [Exit.inBlock, Exit.then])
    refine ret_tk rfl W.heap.size _ rfl (set8_blk _ _ _ _ _ _ _ _ _ _ HBX.out) rfl rfl ?_
    exact ⟨set8_below HB1.out _ (Nat.le_refl _) _ _ _ _ _ _ _ _, .inl ⟨k, _, _, HX.out, rfl⟩⟩
  · obtain ⟨va, vc, rfl⟩ := own_slice ho
    have HX := Lib.hid (HX0.out.trans hx)
    have HI := Lib.hid hi
    have HO := Lib.hid (ho.lower (base' := W.heap.size + 1) (by simp))
    clear hb1 hx hi ho
    unfold tkV
    go_wp2
    (try simp only [Exit.inBlock, Exit.then])
    refine ret_tk rfl W.heap.size _ rfl (set8_blk _ _ _ _ _ _ _ _ _ _ HBX.out) rfl rfl ?_
    exact ⟨set8_below HB1.out _ (Nat.le_refl _) _ _ _ _ _ _ _ _, .inr ⟨t, m, _, out, HX.out, rfl, HI.out, (own_set8 HO.out (by omega) _ _ _ _ _ _ _ _).lower (by omega)⟩⟩
set_option maxRecDepth 100000 in
set_option maxHeartbeats 8000000 in
theorem tok_42 (W : World) (s : ByteArray) (hs : s.size ≤ 4096) (h0 : 0 < s.size) (hv : ((s[0]'h0).toNat : Int) = 42) (hE : Ev W) : Calls Tryz.prog 14 #[.string s] W (TokPost (Lx.tokX s) W) := by
  have HE := Lib.hid hE
  clear hE
  have h0i : (0 : Int) < (s.size : Int) := by omega
  have hat : (Utf.nums s)[0]?.getD 0 = ((s[0]'h0).toNat : Int) := Utf.nums_at s 0 h0
  obtain ⟨X, hX⟩ : ∃ X, Lx.tokX s = X := ⟨_, rfl⟩
  rw [hX]
  have HX0 : Hid (X = Lx.repX (Utf.nums s)) := Lib.hid (by rw [← hX]; unfold Lx.tokX; rw [hat, hv]; rfl)
  have b46 : (((s[0]'h0).toNat : Int) == 46) = false := by rw [hv]; rfl
  have b94 : (((s[0]'h0).toNat : Int) == 94) = false := by rw [hv]; rfl
  have b36 : (((s[0]'h0).toNat : Int) == 36) = false := by rw [hv]; rfl
  have b41 : (((s[0]'h0).toNat : Int) == 41) = false := by rw [hv]; rfl
  have b124 : (((s[0]'h0).toNat : Int) == 124) = false := by rw [hv]; rfl
  have b92 : (((s[0]'h0).toNat : Int) == 92) = false := by rw [hv]; rfl
  have b91 : (((s[0]'h0).toNat : Int) == 91) = false := by rw [hv]; rfl
  have b40 : (((s[0]'h0).toNat : Int) == 40) = false := by rw [hv]; rfl
  have b123 : (((s[0]'h0).toNat : Int) == 123) = false := by rw [hv]; rfl
  have b42 : (((s[0]'h0).toNat : Int) == 42) = true := by rw [hv]; rfl
  have b43 : (((s[0]'h0).toNat : Int) == 43) = false := by rw [hv]; rfl
  have b63 : (((s[0]'h0).toNat : Int) == 63) = false := by rw [hv]; rfl
  clear hX hat hv
  go_enter Tryz.func14, Tryz.ntmps14
  go_wp2_with fail
  refine (repeat_any _ s hs h0 (HE.out.below (Nat.le_refl _) ((Below.refl _ W).alloc (Nat.le_refl _) _))).mono ?_
  intro e9 w1 hp
  obtain ⟨hb1, hp⟩ := hp
  have HBX := Lib.hid (box_kept hb1)
  have HB1 := Lib.hid (below_of_alloc hb1)
  obtain ⟨d0, d1, d2, d3, d4, d5, d6, d7, g0, g1, g2, g3, g4, g5, g6, g7⟩ := box_facts HBX.out
  rcases hp with ⟨k, o, c, hx, rfl⟩ | ⟨t, m, vs, out, hx, rfl, hi, ho⟩
  · have HX := Lib.hid (HX0.out.trans hx)
    clear hb1 hx
    unfold tkV
    go_wp2
    (try simp only [Exit.inBlock, Exit.then])
    refine ret_tk rfl W.heap.size _ rfl (set8_blk _ _ _ _ _ _ _ _ _ _ HBX.out) rfl rfl ?_
    exact ⟨set8_below HB1.out _ (Nat.le_refl _) _ _ _ _ _ _ _ _, .inl ⟨k, _, _, HX.out, rfl⟩⟩
  · obtain ⟨va, vc, rfl⟩ := own_slice ho
    have HX := Lib.hid (HX0.out.trans hx)
    have HI := Lib.hid hi
    have HO := Lib.hid (ho.lower (base' := W.heap.size + 1) (by simp))
    clear hb1 hx hi ho
    unfold tkV
    go_wp2
    (try simp only [Exit.inBlock, Exit.then])
    refine ret_tk rfl W.heap.size _ rfl (set8_blk _ _ _ _ _ _ _ _ _ _ HBX.out) rfl rfl ?_
    exact ⟨set8_below HB1.out _ (Nat.le_refl _) _ _ _ _ _ _ _ _, .inr ⟨t, m, _, out, HX.out, rfl, HI.out, (own_set8 HO.out (by omega) _ _ _ _ _ _ _ _).lower (by omega)⟩⟩
set_option maxRecDepth 100000 in
set_option maxHeartbeats 8000000 in
theorem tok_43 (W : World) (s : ByteArray) (hs : s.size ≤ 4096) (h0 : 0 < s.size) (hv : ((s[0]'h0).toNat : Int) = 43) (hE : Ev W) : Calls Tryz.prog 14 #[.string s] W (TokPost (Lx.tokX s) W) := by
  have HE := Lib.hid hE
  clear hE
  have h0i : (0 : Int) < (s.size : Int) := by omega
  have hat : (Utf.nums s)[0]?.getD 0 = ((s[0]'h0).toNat : Int) := Utf.nums_at s 0 h0
  obtain ⟨X, hX⟩ : ∃ X, Lx.tokX s = X := ⟨_, rfl⟩
  rw [hX]
  have HX0 : Hid (X = Lx.repX (Utf.nums s)) := Lib.hid (by rw [← hX]; unfold Lx.tokX; rw [hat, hv]; rfl)
  have b46 : (((s[0]'h0).toNat : Int) == 46) = false := by rw [hv]; rfl
  have b94 : (((s[0]'h0).toNat : Int) == 94) = false := by rw [hv]; rfl
  have b36 : (((s[0]'h0).toNat : Int) == 36) = false := by rw [hv]; rfl
  have b41 : (((s[0]'h0).toNat : Int) == 41) = false := by rw [hv]; rfl
  have b124 : (((s[0]'h0).toNat : Int) == 124) = false := by rw [hv]; rfl
  have b92 : (((s[0]'h0).toNat : Int) == 92) = false := by rw [hv]; rfl
  have b91 : (((s[0]'h0).toNat : Int) == 91) = false := by rw [hv]; rfl
  have b40 : (((s[0]'h0).toNat : Int) == 40) = false := by rw [hv]; rfl
  have b123 : (((s[0]'h0).toNat : Int) == 123) = false := by rw [hv]; rfl
  have b42 : (((s[0]'h0).toNat : Int) == 42) = false := by rw [hv]; rfl
  have b43 : (((s[0]'h0).toNat : Int) == 43) = true := by rw [hv]; rfl
  have b63 : (((s[0]'h0).toNat : Int) == 63) = false := by rw [hv]; rfl
  clear hX hat hv
  go_enter Tryz.func14, Tryz.ntmps14
  go_wp2_with fail
  refine (repeat_any _ s hs h0 (HE.out.below (Nat.le_refl _) ((Below.refl _ W).alloc (Nat.le_refl _) _))).mono ?_
  intro e9 w1 hp
  obtain ⟨hb1, hp⟩ := hp
  have HBX := Lib.hid (box_kept hb1)
  have HB1 := Lib.hid (below_of_alloc hb1)
  obtain ⟨d0, d1, d2, d3, d4, d5, d6, d7, g0, g1, g2, g3, g4, g5, g6, g7⟩ := box_facts HBX.out
  rcases hp with ⟨k, o, c, hx, rfl⟩ | ⟨t, m, vs, out, hx, rfl, hi, ho⟩
  · have HX := Lib.hid (HX0.out.trans hx)
    clear hb1 hx
    unfold tkV
    go_wp2
    (try simp only [Exit.inBlock, Exit.then])
    refine ret_tk rfl W.heap.size _ rfl (set8_blk _ _ _ _ _ _ _ _ _ _ HBX.out) rfl rfl ?_
    exact ⟨set8_below HB1.out _ (Nat.le_refl _) _ _ _ _ _ _ _ _, .inl ⟨k, _, _, HX.out, rfl⟩⟩
  · obtain ⟨va, vc, rfl⟩ := own_slice ho
    have HX := Lib.hid (HX0.out.trans hx)
    have HI := Lib.hid hi
    have HO := Lib.hid (ho.lower (base' := W.heap.size + 1) (by simp))
    clear hb1 hx hi ho
    unfold tkV
    go_wp2
    (try simp only [Exit.inBlock, Exit.then])
    refine ret_tk rfl W.heap.size _ rfl (set8_blk _ _ _ _ _ _ _ _ _ _ HBX.out) rfl rfl ?_
    exact ⟨set8_below HB1.out _ (Nat.le_refl _) _ _ _ _ _ _ _ _, .inr ⟨t, m, _, out, HX.out, rfl, HI.out, (own_set8 HO.out (by omega) _ _ _ _ _ _ _ _).lower (by omega)⟩⟩
set_option maxRecDepth 100000 in
set_option maxHeartbeats 8000000 in
theorem tok_63 (W : World) (s : ByteArray) (hs : s.size ≤ 4096) (h0 : 0 < s.size) (hv : ((s[0]'h0).toNat : Int) = 63) (hE : Ev W) : Calls Tryz.prog 14 #[.string s] W (TokPost (Lx.tokX s) W) := by
  have HE := Lib.hid hE
  clear hE
  have h0i : (0 : Int) < (s.size : Int) := by omega
  have hat : (Utf.nums s)[0]?.getD 0 = ((s[0]'h0).toNat : Int) := Utf.nums_at s 0 h0
  obtain ⟨X, hX⟩ : ∃ X, Lx.tokX s = X := ⟨_, rfl⟩
  rw [hX]
  have HX0 : Hid (X = Lx.repX (Utf.nums s)) := Lib.hid (by rw [← hX]; unfold Lx.tokX; rw [hat, hv]; rfl)
  have b46 : (((s[0]'h0).toNat : Int) == 46) = false := by rw [hv]; rfl
  have b94 : (((s[0]'h0).toNat : Int) == 94) = false := by rw [hv]; rfl
  have b36 : (((s[0]'h0).toNat : Int) == 36) = false := by rw [hv]; rfl
  have b41 : (((s[0]'h0).toNat : Int) == 41) = false := by rw [hv]; rfl
  have b124 : (((s[0]'h0).toNat : Int) == 124) = false := by rw [hv]; rfl
  have b92 : (((s[0]'h0).toNat : Int) == 92) = false := by rw [hv]; rfl
  have b91 : (((s[0]'h0).toNat : Int) == 91) = false := by rw [hv]; rfl
  have b40 : (((s[0]'h0).toNat : Int) == 40) = false := by rw [hv]; rfl
  have b123 : (((s[0]'h0).toNat : Int) == 123) = false := by rw [hv]; rfl
  have b42 : (((s[0]'h0).toNat : Int) == 42) = false := by rw [hv]; rfl
  have b43 : (((s[0]'h0).toNat : Int) == 43) = false := by rw [hv]; rfl
  have b63 : (((s[0]'h0).toNat : Int) == 63) = true := by rw [hv]; rfl
  clear hX hat hv
  go_enter Tryz.func14, Tryz.ntmps14
  go_wp2_with fail
  refine (repeat_any _ s hs h0 (HE.out.below (Nat.le_refl _) ((Below.refl _ W).alloc (Nat.le_refl _) _))).mono ?_
  intro e9 w1 hp
  obtain ⟨hb1, hp⟩ := hp
  have HBX := Lib.hid (box_kept hb1)
  have HB1 := Lib.hid (below_of_alloc hb1)
  obtain ⟨d0, d1, d2, d3, d4, d5, d6, d7, g0, g1, g2, g3, g4, g5, g6, g7⟩ := box_facts HBX.out
  rcases hp with ⟨k, o, c, hx, rfl⟩ | ⟨t, m, vs, out, hx, rfl, hi, ho⟩
  · have HX := Lib.hid (HX0.out.trans hx)
    clear hb1 hx
    unfold tkV
    go_wp2
    (try simp only [Exit.inBlock, Exit.then])
    refine ret_tk rfl W.heap.size _ rfl (set8_blk _ _ _ _ _ _ _ _ _ _ HBX.out) rfl rfl ?_
    exact ⟨set8_below HB1.out _ (Nat.le_refl _) _ _ _ _ _ _ _ _, .inl ⟨k, _, _, HX.out, rfl⟩⟩
  · obtain ⟨va, vc, rfl⟩ := own_slice ho
    have HX := Lib.hid (HX0.out.trans hx)
    have HI := Lib.hid hi
    have HO := Lib.hid (ho.lower (base' := W.heap.size + 1) (by simp))
    clear hb1 hx hi ho
    unfold tkV
    go_wp2
    (try simp only [Exit.inBlock, Exit.then])
    refine ret_tk rfl W.heap.size _ rfl (set8_blk _ _ _ _ _ _ _ _ _ _ HBX.out) rfl rfl ?_
    exact ⟨set8_below HB1.out _ (Nat.le_refl _) _ _ _ _ _ _ _ _, .inr ⟨t, m, _, out, HX.out, rfl, HI.out, (own_set8 HO.out (by omega) _ _ _ _ _ _ _ _).lower (by omega)⟩⟩
set_option maxRecDepth 100000 in
set_option maxHeartbeats 8000000 in
theorem tok_123 (W : World) (s : ByteArray) (hs : s.size ≤ 4096) (h0 : 0 < s.size) (hv : ((s[0]'h0).toNat : Int) = 123) (hE : Ev W) : Calls Tryz.prog 14 #[.string s] W (TokPost (Lx.tokX s) W) := by
  have HE := Lib.hid hE
  clear hE
  have h0i : (0 : Int) < (s.size : Int) := by omega
  have hat : (Utf.nums s)[0]?.getD 0 = ((s[0]'h0).toNat : Int) := Utf.nums_at s 0 h0
  obtain ⟨X, hX⟩ : ∃ X, Lx.tokX s = X := ⟨_, rfl⟩
  rw [hX]
  have HX0 : Hid (X = if (Lx.countsX (Utf.nums s)).2.2 = 0 then Lx.charX (Utf.nums s) else Lx.repX (Utf.nums s)) := Lib.hid (by rw [← hX]; unfold Lx.tokX; rw [hat, hv]; rfl)
  have b46 : (((s[0]'h0).toNat : Int) == 46) = false := by rw [hv]; rfl
  have b94 : (((s[0]'h0).toNat : Int) == 94) = false := by rw [hv]; rfl
  have b36 : (((s[0]'h0).toNat : Int) == 36) = false := by rw [hv]; rfl
  have b41 : (((s[0]'h0).toNat : Int) == 41) = false := by rw [hv]; rfl
  have b124 : (((s[0]'h0).toNat : Int) == 124) = false := by rw [hv]; rfl
  have b92 : (((s[0]'h0).toNat : Int) == 92) = false := by rw [hv]; rfl
  have b91 : (((s[0]'h0).toNat : Int) == 91) = false := by rw [hv]; rfl
  have b40 : (((s[0]'h0).toNat : Int) == 40) = false := by rw [hv]; rfl
  have b123 : (((s[0]'h0).toNat : Int) == 123) = true := by rw [hv]; rfl
  have b42 : (((s[0]'h0).toNat : Int) == 42) = false := by rw [hv]; rfl
  have b43 : (((s[0]'h0).toNat : Int) == 43) = false := by rw [hv]; rfl
  have b63 : (((s[0]'h0).toNat : Int) == 63) = false := by rw [hv]; rfl
  have HC := Lib.hid (fun w (hw : Ev w) => counts_any w s hs h0 hw)
  obtain ⟨⟨lo, hi, n⟩, hq⟩ : ∃ p, Lx.countsX (Utf.nums s) = p := ⟨_, rfl⟩
  rw [hq] at HC HX0
  dsimp only at HC HX0
  clear hX hat hv hq
  by_cases hn : n = 0
  · have HX1 : Hid (X = Lx.charX (Utf.nums s)) := Lib.hid (by rw [HX0.out, if_pos hn])
    subst hn
    clear HX0
    go_enter Tryz.func14, Tryz.ntmps14
    go_wp2_with fail
    refine (HC.out _ (HE.out.below (Nat.le_refl _) ((Below.refl _ W).alloc (Nat.le_refl _) _))).mono ?_
    rintro e9 w0 ⟨rfl, hb0⟩
    have HBX0 := Lib.hid (box_kept hb0)
    have HSZ0 := size_of_alloc hb0
    have HB0 := Lib.hid (below_of_alloc hb0)
    clear hb0
    go_wp2_with fail
    refine (character_any _ s (by omega)).mono ?_
    intro e9 w1 hp
    obtain ⟨hb1, hp⟩ := hp
    have HBX := Lib.hid (box_on HBX0.out HSZ0 hb1)
    have HB1 := Lib.hid (HB0.out.trans (hb1.mono HB0.out.size))
    obtain ⟨d0, d1, d2, d3, d4, d5, d6, d7, g0, g1, g2, g3, g4, g5, g6, g7⟩ := box_facts HBX.out
    rcases hp with ⟨k, o, c, hx, rfl⟩ | ⟨t, m, vs, out, hx, rfl, hi, ho⟩
    · have HX := Lib.hid (HX1.out.trans hx)
      clear hb1 hx
      unfold tkV
      go_wp2
      (try simp only [Exit.inBlock, Exit.then])
      refine ret_tk rfl W.heap.size _ rfl (set8_blk _ _ _ _ _ _ _ _ _ _ HBX.out) rfl rfl ?_
      exact ⟨set8_below HB1.out _ (Nat.le_refl _) _ _ _ _ _ _ _ _, .inl ⟨k, _, _, HX.out, rfl⟩⟩
    · obtain ⟨va, vc, rfl⟩ := own_slice ho
      have HX := Lib.hid (HX1.out.trans hx)
      have HI := Lib.hid hi
      have HO := Lib.hid (ho.lower (base' := W.heap.size + 1) (by omega))
      clear hb1 hx hi ho
      unfold tkV
      go_wp2
      (try simp only [Exit.inBlock, Exit.then])
      refine ret_tk rfl W.heap.size _ rfl (set8_blk _ _ _ _ _ _ _ _ _ _ HBX.out) rfl rfl ?_
      exact ⟨set8_below HB1.out _ (Nat.le_refl _) _ _ _ _ _ _ _ _, .inr ⟨t, m, _, out, HX.out, rfl, HI.out, (own_set8 HO.out (by omega) _ _ _ _ _ _ _ _).lower (by omega)⟩⟩
  · have HX1 : Hid (X = Lx.repX (Utf.nums s)) := Lib.hid (by rw [HX0.out, if_neg hn])
    have hnz : ((n : Int) == 0) = false := by simpa using hn
    clear HX0 hn
    go_enter Tryz.func14, Tryz.ntmps14
    go_wp2_with fail
    refine (HC.out _ (HE.out.below (Nat.le_refl _) ((Below.refl _ W).alloc (Nat.le_refl _) _))).mono ?_
    rintro e9 w0 ⟨rfl, hb0⟩
    have HBX0 := Lib.hid (box_kept hb0)
    have HSZ0 := size_of_alloc hb0
    have HB0 := Lib.hid (below_of_alloc hb0)
    clear hb0
    go_wp2_with fail
    refine (repeat_any _ s hs h0 (HE.out.below (Nat.le_refl _) HB0.out)).mono ?_
    intro e9 w1 hp
    obtain ⟨hb1, hp⟩ := hp
    have HBX := Lib.hid (box_on HBX0.out HSZ0 hb1)
    have HB1 := Lib.hid (HB0.out.trans (hb1.mono HB0.out.size))
    obtain ⟨d0, d1, d2, d3, d4, d5, d6, d7, g0, g1, g2, g3, g4, g5, g6, g7⟩ := box_facts HBX.out
    rcases hp with ⟨k, o, c, hx, rfl⟩ | ⟨t, m, vs, out, hx, rfl, hi, ho⟩
    · have HX := Lib.hid (HX1.out.trans hx)
      clear hb1 hx
      unfold tkV
      go_wp2
      (try simp only [Exit.inBlock, Exit.then])
      refine ret_tk rfl W.heap.size _ rfl (set8_blk _ _ _ _ _ _ _ _ _ _ HBX.out) rfl rfl ?_
      exact ⟨set8_below HB1.out _ (Nat.le_refl _) _ _ _ _ _ _ _ _, .inl ⟨k, _, _, HX.out, rfl⟩⟩
    · obtain ⟨va, vc, rfl⟩ := own_slice ho
      have HX := Lib.hid (HX1.out.trans hx)
      have HI := Lib.hid hi
      have HO := Lib.hid (ho.lower (base' := W.heap.size + 1) (by omega))
      clear hb1 hx hi ho
      unfold tkV
      go_wp2
      (try simp only [Exit.inBlock, Exit.then])
      refine ret_tk rfl W.heap.size _ rfl (set8_blk _ _ _ _ _ _ _ _ _ _ HBX.out) rfl rfl ?_
      exact ⟨set8_below HB1.out _ (Nat.le_refl _) _ _ _ _ _ _ _ _, .inr ⟨t, m, _, out, HX.out, rfl, HI.out, (own_set8 HO.out (by omega) _ _ _ _ _ _ _ _).lower (by omega)⟩⟩
set_option maxRecDepth 100000 in
set_option maxHeartbeats 8000000 in
theorem tok_else (W : World) (s : ByteArray) (hs : s.size ≤ 4096) (h0 : 0 < s.size) (n46 : ¬ ((s[0]'h0).toNat : Int) = 46) (n94 : ¬ ((s[0]'h0).toNat : Int) = 94) (n36 : ¬ ((s[0]'h0).toNat : Int) = 36) (n41 : ¬ ((s[0]'h0).toNat : Int) = 41) (n124 : ¬ ((s[0]'h0).toNat : Int) = 124) (n92 : ¬ ((s[0]'h0).toNat : Int) = 92) (n91 : ¬ ((s[0]'h0).toNat : Int) = 91) (n40 : ¬ ((s[0]'h0).toNat : Int) = 40) (n123 : ¬ ((s[0]'h0).toNat : Int) = 123) (n42 : ¬ ((s[0]'h0).toNat : Int) = 42) (n43 : ¬ ((s[0]'h0).toNat : Int) = 43) (n63 : ¬ ((s[0]'h0).toNat : Int) = 63) (hE : Ev W) : Calls Tryz.prog 14 #[.string s] W (TokPost (Lx.tokX s) W) := by
  have HE := Lib.hid hE
  clear hE
  have h0i : (0 : Int) < (s.size : Int) := by omega
  have hat : (Utf.nums s)[0]?.getD 0 = ((s[0]'h0).toNat : Int) := Utf.nums_at s 0 h0
  obtain ⟨X, hX⟩ : ∃ X, Lx.tokX s = X := ⟨_, rfl⟩
  rw [hX]
  have HX0 : Hid (X = Lx.charX (Utf.nums s)) := Lib.hid (by rw [← hX]; unfold Lx.tokX; rw [hat]; dsimp only; rw [if_neg n46, if_neg n94, if_neg n36, if_neg n41, if_neg n124, if_neg n92, if_neg n91, if_neg n40, if_neg n123, if_neg (by omega)])
  have b46 : (((s[0]'h0).toNat : Int) == 46) = false := by simpa using n46
  have b94 : (((s[0]'h0).toNat : Int) == 94) = false := by simpa using n94
  have b36 : (((s[0]'h0).toNat : Int) == 36) = false := by simpa using n36
  have b41 : (((s[0]'h0).toNat : Int) == 41) = false := by simpa using n41
  have b124 : (((s[0]'h0).toNat : Int) == 124) = false := by simpa using n124
  have b92 : (((s[0]'h0).toNat : Int) == 92) = false := by simpa using n92
  have b91 : (((s[0]'h0).toNat : Int) == 91) = false := by simpa using n91
  have b40 : (((s[0]'h0).toNat : Int) == 40) = false := by simpa using n40
  have b123 : (((s[0]'h0).toNat : Int) == 123) = false := by simpa using n123
  have b42 : (((s[0]'h0).toNat : Int) == 42) = false := by simpa using n42
  have b43 : (((s[0]'h0).toNat : Int) == 43) = false := by simpa using n43
  have b63 : (((s[0]'h0).toNat : Int) == 63) = false := by simpa using n63
  clear hX hat n46 n94 n36 n41 n124 n92 n91 n40 n123 n42 n43 n63
  go_enter Tryz.func14, Tryz.ntmps14
  go_wp2_with fail
  refine (character_any _ s (by omega)).mono ?_
  intro e9 w1 hp
  obtain ⟨hb1, hp⟩ := hp
  have HBX := Lib.hid (box_kept hb1)
  have HB1 := Lib.hid (below_of_alloc hb1)
  obtain ⟨d0, d1, d2, d3, d4, d5, d6, d7, g0, g1, g2, g3, g4, g5, g6, g7⟩ := box_facts HBX.out
  rcases hp with ⟨k, o, c, hx, rfl⟩ | ⟨t, m, vs, out, hx, rfl, hi, ho⟩
  · have HX := Lib.hid (HX0.out.trans hx)
    clear hb1 hx
    unfold tkV
    go_wp2
    (try simp only [Exit.inBlock, Exit.then])
    refine ret_tk rfl W.heap.size _ rfl (set8_blk _ _ _ _ _ _ _ _ _ _ HBX.out) rfl rfl ?_
    exact ⟨set8_below HB1.out _ (Nat.le_refl _) _ _ _ _ _ _ _ _, .inl ⟨k, _, _, HX.out, rfl⟩⟩
  · obtain ⟨va, vc, rfl⟩ := own_slice ho
    have HX := Lib.hid (HX0.out.trans hx)
    have HI := Lib.hid hi
    have HO := Lib.hid (ho.lower (base' := W.heap.size + 1) (by simp))
    clear hb1 hx hi ho
    unfold tkV
    go_wp2
    (try simp only [Exit.inBlock, Exit.then])
    refine ret_tk rfl W.heap.size _ rfl (set8_blk _ _ _ _ _ _ _ _ _ _ HBX.out) rfl rfl ?_
    exact ⟨set8_below HB1.out _ (Nat.le_refl _) _ _ _ _ _ _ _ _, .inr ⟨t, m, _, out, HX.out, rfl, HI.out, (own_set8 HO.out (by omega) _ _ _ _ _ _ _ _).lower (by omega)⟩⟩
theorem token_any (W : World) (s : ByteArray) (hs : s.size ≤ 4096) (h0 : 0 < s.size) (hE : Ev W) : Calls Tryz.prog 14 #[.string s] W (TokPost (Lx.tokX s) W) := by
  by_cases n46 : ((s[0]'h0).toNat : Int) = 46
  · exact tok_46 W s hs h0 n46 hE
  by_cases n94 : ((s[0]'h0).toNat : Int) = 94
  · exact tok_94 W s hs h0 n94 hE
  by_cases n36 : ((s[0]'h0).toNat : Int) = 36
  · exact tok_36 W s hs h0 n36 hE
  by_cases n41 : ((s[0]'h0).toNat : Int) = 41
  · exact tok_41 W s hs h0 n41 hE
  by_cases n124 : ((s[0]'h0).toNat : Int) = 124
  · exact tok_124 W s hs h0 n124 hE
  by_cases n92 : ((s[0]'h0).toNat : Int) = 92
  · exact tok_92 W s hs h0 n92 hE
  by_cases n91 : ((s[0]'h0).toNat : Int) = 91
  · exact tok_91 W s hs h0 n91 hE
  by_cases n40 : ((s[0]'h0).toNat : Int) = 40
  · exact tok_40 W s hs h0 n40 hE
  by_cases n123 : ((s[0]'h0).toNat : Int) = 123
  · exact tok_123 W s hs h0 n123 hE
  by_cases n42 : ((s[0]'h0).toNat : Int) = 42
  · exact tok_42 W s hs h0 n42 hE
  by_cases n43 : ((s[0]'h0).toNat : Int) = 43
  · exact tok_43 W s hs h0 n43 hE
  by_cases n63 : ((s[0]'h0).toNat : Int) = 63
  · exact tok_63 W s hs h0 n63 hE
  exact tok_else W s hs h0 n46 n94 n36 n41 n124 n92 n91 n40 n123 n42 n43 n63 hE
end Go.Proofs.YtanffablfgnioaaGreatDoor
