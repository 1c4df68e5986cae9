/- burinlaw11.works: the chapter's example. -/
import Derived.Test.YthhdlcckboiecaaGp35
namespace Go.Proofs.Ythhdlcckboiecaa
open Go.RowKit
open Go.Proofs.Ythhdlcckboiecaa.Nm
set_option linter.unusedVariables false
set_option linter.unusedSimpArgs false
theorem one_row {w : World} {n : Nd} {c : List Value} (h : NdIs w n c) : NdsIs w [n] [c] := (NdsIs.nil w).snoc h
theorem row_alloc {w : World} {L : List Nd} {X : List (List Value)} (h : NdsIs w L X) (k mn mx : Int) (lz : Bool) (hk : I64 k) (hmn : I64 mn) (hmx : I64 mx) (cur : Array Value) (hcur : cur.toList = X.flatten) (hl : L.length ≤ 1000000) (N : Nat) (hN : L.length = N) :
    NdIs (w.alloc (.cells cur 25)) (.mk k [] 0 ⟨#[]⟩ mn mx lz L) [.int .i64 k, .slice none 0 0, .int .i64 0, .string ⟨#[]⟩, .int .i64 mn, .int .i64 mx, .bool lz, .slice (some ⟨w.heap.size, 0, none⟩) N N] := by
  subst hN
  exact NdIs.row (h.kept ((Below.refl _ _).alloc (Nat.le_refl _) _)) (heap_alloc_new w _) (fun j hj => by rw [← hcur]; simp) (by omega) ⟨hk, i64_0, hmn, hmx⟩ (RRow.nil _) (Nat.zero_le _)
theorem row_at {w : World} {L : List Nd} {X : List (List Value)} (h : NdsIs w L X) (k mn mx : Int) (lz : Bool) (hk : I64 k) (hmn : I64 mn) (hmx : I64 mx) (g : Nat) (cur : Array Value) (hg : w.heap[g]? = some (.cells cur 25 (0, 0))) (hcur : cur.toList = X.flatten) (hl : L.length ≤ 1000000) (N : Nat) (hN : L.length = N) :
    NdIs w (.mk k [] 0 ⟨#[]⟩ mn mx lz L) [.int .i64 k, .slice none 0 0, .int .i64 0, .string ⟨#[]⟩, .int .i64 mn, .int .i64 mx, .bool lz, .slice (some ⟨g, 0, none⟩) N N] := by
  subst hN
  exact NdIs.row h hg (fun j hj => by rw [← hcur]; simp) (by omega) ⟨hk, i64_0, hmn, hmx⟩ (RRow.nil _) (Nat.zero_le _)
theorem i64_s {k : Int} (h : 0 ≤ k ∧ k ≤ 1000) : I64 k := by unfold I64; omega
theorem cab_at {V : World} {ga gb r2 : Nat} (ha : NdIs V la [.int .i64 3, .slice (some ⟨ga, 0, none⟩) 1 1, .int .i64 0, .string ⟨#[]⟩, .int .i64 0, .int .i64 0, .bool false, .slice none 0 0]) (hb : NdIs V (letN 98) [.int .i64 3, .slice (some ⟨gb, 0, none⟩) 1 1, .int .i64 0, .string ⟨#[]⟩, .int .i64 0, .int .i64 0, .bool false, .slice none 0 0]) (hr : V.heap[r2]? = some (.cells #[.int .i64 3, .slice (some ⟨ga, 0, none⟩) 1 1, .int .i64 0, .string ⟨#[]⟩, .int .i64 0, .int .i64 0, .bool false, .slice none 0 0, .int .i64 3, .slice (some ⟨gb, 0, none⟩) 1 1, .int .i64 0, .string ⟨#[]⟩, .int .i64 0, .int .i64 0, .bool false, .slice none 0 0] 25 (0, 0))) : NdIs V catab [.int .i64 7, .slice none 0 0, .int .i64 0, .string ⟨#[]⟩, .int .i64 0, .int .i64 0, .bool false, .slice (some ⟨r2, 0, none⟩) 2 2] :=
  row_at (L := [la, letN 98]) ((one_row ha).snoc hb) 7 0 0 false (i64_s (by omega)) i64_0 i64_0 r2 _ hr rfl (by simp) 2 rfl
theorem cat2_at {V : World} {gc r2 h : Nat} (hab : NdIs V catab [.int .i64 7, .slice none 0 0, .int .i64 0, .string ⟨#[]⟩, .int .i64 0, .int .i64 0, .bool false, .slice (some ⟨r2, 0, none⟩) 2 2]) (hc : NdIs V (letN 99) [.int .i64 3, .slice (some ⟨gc, 0, none⟩) 1 1, .int .i64 0, .string ⟨#[]⟩, .int .i64 0, .int .i64 0, .bool false, .slice none 0 0]) (h5 : V.heap[h]? = some (.cells #[.int .i64 7, .slice none 0 0, .int .i64 0, .string ⟨#[]⟩, .int .i64 0, .int .i64 0, .bool false, .slice (some ⟨r2, 0, none⟩) 2 2, .int .i64 3, .slice (some ⟨gc, 0, none⟩) 1 1, .int .i64 0, .string ⟨#[]⟩, .int .i64 0, .int .i64 0, .bool false, .slice none 0 0] 25 (0, 0))) : NdIs V cat2 [.int .i64 7, .slice none 0 0, .int .i64 0, .string ⟨#[]⟩, .int .i64 0, .int .i64 0, .bool false, .slice (some ⟨h, 0, none⟩) 2 2] :=
  row_at (L := [catab, letN 99]) ((one_row hab).snoc hc) 7 0 0 false (i64_s (by omega)) i64_0 i64_0 h _ h5 rfl (by simp) 2 rfl
theorem heap2a (w : World) (o p : Obj) : ((w.alloc o).alloc p).heap[w.heap.size]? = some o := (Below.heap_alloc _ _ _ (by simp)).trans (heap_alloc_new _ _)
theorem heap3a (w : World) (o p q : Obj) : (((w.alloc o).alloc p).alloc q).heap[w.heap.size]? = some o := (Below.heap_alloc _ _ _ (by simp; omega)).trans (heap2a _ _ _)
theorem heap3b (w : World) (o p q : Obj) : (((w.alloc o).alloc p).alloc q).heap[w.heap.size + 1]? = some p := (Below.heap_alloc _ _ _ (by simp)).trans (alloc2_new _ _ _)
theorem heap3c (w : World) (o p q : Obj) : (((w.alloc o).alloc p).alloc q).heap[w.heap.size + 1 + 1]? = some q := by
  have := alloc2_new (w.alloc o) p q
  rwa [show (w.alloc o).heap.size = w.heap.size + 1 by simp] at this
theorem let11_ex (W : World) (c : Int) (hc : I64 c) : Calls Try.prog 12 #[.int .i64 c] W fun e w' => ∃ g, e = .returned (.agg #[.int .i64 3, .slice (some ⟨g, 0, none⟩) 1 1, .int .i64 0, .string ⟨#[]⟩, .int .i64 0, .int .i64 0, .bool false, .slice none 0 0]) ∧ NdIs w' (letN c) [.int .i64 3, .slice (some ⟨g, 0, none⟩) 1 1, .int .i64 0, .string ⟨#[]⟩, .int .i64 0, .int .i64 0, .bool false, .slice none 0 0] ∧ Below W.heap.size W w' :=
  (let11_any W c hc).mono fun e w' h => ⟨_, h⟩
theorem below_alloc_to {x w w' : World} {o : Obj} (h : Below x.heap.size x w) (hb : Below (w.alloc o).heap.size (w.alloc o) w') : Below x.heap.size x w' := (h.alloc h.size o).trans (hb.mono (h.alloc h.size o).size)
set_option maxRecDepth 100000 in
set_option maxHeartbeats 16000000 in
theorem works11_any (W : World) : Calls Try.prog 6 #[] W fun e w' => e = .returned (.bool true) ∧ Below W.heap.size W w' := by
  have i97 : I64 97 := by unfold I64; omega
  have i98 : I64 98 := by unfold I64; omega
  have i99 : I64 99 := by unfold I64; omega
  go_enter Try.func6, Try.ntmps6
  go_wp2_with fail
  refine (let11_any W 97 i97).mono ?_
  rintro e w1 ⟨rfl, hn1, hb1⟩
  obtain ⟨W2, hW2⟩ : ∃ W2, w1.alloc (.cells #[.int .i64 3, .slice (some ⟨W.heap.size + 1, 0, none⟩) 1 1, .int .i64 0, .string ⟨#[]⟩, .int .i64 0, .int .i64 0, .bool false, .slice none 0 0] 25) = W2 := ⟨_, rfl⟩
  have hb2 : Below w1.heap.size w1 W2 := by rw [← hW2]; exact (Below.refl _ _).alloc (Nat.le_refl _) _
  have HA2 : Hid (W2.heap[w1.heap.size]? = some (.cells #[.int .i64 3, .slice (some ⟨W.heap.size + 1, 0, none⟩) 1 1, .int .i64 0, .string ⟨#[]⟩, .int .i64 0, .int .i64 0, .bool false, .slice none 0 0] 25 (0, 0))) := Lib.hid (by rw [← hW2]; exact heap_alloc_new _ _)
  have HNA := Lib.hid (hn1.kept hb2)
  have HB2 := Lib.hid (hb1.trans (hb2.mono hb1.size))
  have hs2 : W2.heap.size = w1.heap.size + 1 := by rw [← hW2]; simp
  have hs1 := hb1.size
  have HR3 := Lib.hid (row_alloc (one_row HNA.out) 9 2 4 false (i64_s (by omega)) (i64_s (by omega)) (i64_s (by omega)) #[.int .i64 3, .slice (some ⟨W.heap.size + 1, 0, none⟩) 1 1, .int .i64 0, .string ⟨#[]⟩, .int .i64 0, .int .i64 0, .bool false, .slice none 0 0] rfl (by simp) 1 rfl)
  have HCR1 := Lib.hid (bigCore_any _ rep24 _ HR3.out (by rw [show Td.all 1000 1 rep24 = [(1, rep24), (2, la)] from rfl]; simp))
  rw [coreF_rep24, hs2, ← hW2] at HCR1
  have HW2 := Lib.hid hW2
  clear hW2 hn1 hb1 hb2 HR3
  go_wp2_with fail
  refine HCR1.out.mono ?_
  rintro e w4 ⟨cs', rfl, hnw, hb4⟩
  rw [HW2.out] at hnw hb4
  obtain ⟨ws, a9, cap9, Y, hxe, hset, -, -⟩ := hnw.parts
  obtain ⟨ta, tk, tc, rfl⟩ : ∃ a k c, ws = .slice a k c := by obtain ⟨a, c, h, -⟩ := hset.1; exact ⟨a, _, c, h⟩
  replace hxe : cs' = [.int .i64 7, .slice ta tk tc, .int .i64 0, .string ⟨#[]⟩, .int .i64 0, .int .i64 0, .bool false, .slice a9 3 cap9] := hxe
  subst hxe
  have HN4 : Hid (NdIs w4 wantN [.int .i64 7, .slice ta tk tc, .int .i64 0, .string ⟨#[]⟩, .int .i64 0, .int .i64 0, .bool false, .slice a9 3 cap9]) := Lib.hid hnw.is
  have HB4 := Lib.hid (HB2.out.trans (((Below.refl _ _).alloc (Nat.le_refl _) _ : Below W2.heap.size W2 (W2.alloc (.cells #[.int .i64 3, .slice (some ⟨W.heap.size + 1, 0, none⟩) 1 1, .int .i64 0, .string ⟨#[]⟩, .int .i64 0, .int .i64 0, .bool false, .slice none 0 0] 25))).trans (hb4.mono (by simp)) |>.mono HB2.out.size))
  have hb24 : Below W2.heap.size W2 w4 := ((Below.refl _ _).alloc (Nat.le_refl _) _ : Below W2.heap.size W2 (W2.alloc (.cells #[.int .i64 3, .slice (some ⟨W.heap.size + 1, 0, none⟩) 1 1, .int .i64 0, .string ⟨#[]⟩, .int .i64 0, .int .i64 0, .bool false, .slice none 0 0] 25))).trans (hb4.mono (by simp))
  have HA4 : Hid (w4.heap[w1.heap.size]? = some (.cells #[.int .i64 3, .slice (some ⟨W.heap.size + 1, 0, none⟩) 1 1, .int .i64 0, .string ⟨#[]⟩, .int .i64 0, .int .i64 0, .bool false, .slice none 0 0] 25 (0, 0))) := Lib.hid ((hb24.block _ (by omega)).trans HA2.out)
  have HNA4 := Lib.hid (HNA.out.kept hb24)
  have hs4 := hb24.size
  clear hset hnw hb4 hb24 HW2 HCR1 HA2 HNA HB2
  obtain ⟨W6, hW6⟩ : ∃ W6, (((w4.alloc (.cells #[.int .i64 7, .slice ta tk tc, .int .i64 0, .string ⟨#[]⟩, .int .i64 0, .int .i64 0, .bool false, .slice a9 3 cap9] 25)).alloc (.cells #[.int .i64 3, .slice (some ⟨W.heap.size + 1, 0, none⟩) 1 1, .int .i64 0, .string ⟨#[]⟩, .int .i64 0, .int .i64 0, .bool false, .slice none 0 0] 25)).alloc (.cells #[.int .i64 3, .slice (some ⟨W.heap.size + 1, 0, none⟩) 1 1, .int .i64 0, .string ⟨#[]⟩, .int .i64 0, .int .i64 0, .bool false, .slice none 0 0, .int .i64 3, .slice (some ⟨W.heap.size + 1, 0, none⟩) 1 1, .int .i64 0, .string ⟨#[]⟩, .int .i64 0, .int .i64 0, .bool false, .slice none 0 0, .int .i64 9, .slice none 0 0, .int .i64 0, .string ⟨#[]⟩, .int .i64 0, .int .i64 2, .bool false, .slice (some ⟨w4.heap.size + 1, 0, none⟩) 1 1] 25)).alloc (.cells #[.int .i64 7, .slice none 0 0, .int .i64 0, .string ⟨#[]⟩, .int .i64 0, .int .i64 0, .bool false, .slice (some ⟨w4.heap.size + 1 + 1, 0, none⟩) 3 3] 25) = W6 := ⟨_, rfl⟩
  have hb46 : Below w4.heap.size w4 W6 := by rw [← hW6]; exact ((((Below.refl _ _).alloc (Nat.le_refl _) _).alloc (by simp) _).alloc (by simp; omega) _).alloc (by simp; omega) _
  have hs6 : W6.heap.size = w4.heap.size + 4 := by rw [← hW6]; simp
  have HX6 : Hid (W6.heap[w4.heap.size]? = some (.cells #[.int .i64 7, .slice ta tk tc, .int .i64 0, .string ⟨#[]⟩, .int .i64 0, .int .i64 0, .bool false, .slice a9 3 cap9] 25 (0, 0))) := Lib.hid (by rw [← hW6]; exact (Below.heap_alloc _ _ _ (by simp; omega)).trans ((Below.heap_alloc _ _ _ (by simp; omega)).trans ((Below.heap_alloc _ _ _ (by simp)).trans (heap_alloc_new _ _))))
  have HZ6 : Hid (W6.heap[w4.heap.size + 1 + 1 + 1]? = some (.cells #[.int .i64 7, .slice none 0 0, .int .i64 0, .string ⟨#[]⟩, .int .i64 0, .int .i64 0, .bool false, .slice (some ⟨w4.heap.size + 1 + 1, 0, none⟩) 3 3] 25 (0, 0))) := Lib.hid (by
    rw [← hW6]
    have := heap_alloc_new (((w4.alloc (.cells #[.int .i64 7, .slice ta tk tc, .int .i64 0, .string ⟨#[]⟩, .int .i64 0, .int .i64 0, .bool false, .slice a9 3 cap9] 25)).alloc (.cells #[.int .i64 3, .slice (some ⟨W.heap.size + 1, 0, none⟩) 1 1, .int .i64 0, .string ⟨#[]⟩, .int .i64 0, .int .i64 0, .bool false, .slice none 0 0] 25)).alloc (.cells #[.int .i64 3, .slice (some ⟨W.heap.size + 1, 0, none⟩) 1 1, .int .i64 0, .string ⟨#[]⟩, .int .i64 0, .int .i64 0, .bool false, .slice none 0 0, .int .i64 3, .slice (some ⟨W.heap.size + 1, 0, none⟩) 1 1, .int .i64 0, .string ⟨#[]⟩, .int .i64 0, .int .i64 0, .bool false, .slice none 0 0, .int .i64 9, .slice none 0 0, .int .i64 0, .string ⟨#[]⟩, .int .i64 0, .int .i64 2, .bool false, .slice (some ⟨w4.heap.size + 1, 0, none⟩) 1 1] 25)) (.cells #[.int .i64 7, .slice none 0 0, .int .i64 0, .string ⟨#[]⟩, .int .i64 0, .int .i64 0, .bool false, .slice (some ⟨w4.heap.size + 1 + 1, 0, none⟩) 3 3] 25)
    simpa using this)
  have HNW6 : Hid (NdIs W6 wantN [.int .i64 7, .slice none 0 0, .int .i64 0, .string ⟨#[]⟩, .int .i64 0, .int .i64 0, .bool false, .slice (some ⟨w4.heap.size + 1 + 1, 0, none⟩) 3 3]) := Lib.hid (by
    rw [← hW6]
    have hA : NdIs (w4.alloc (.cells #[.int .i64 7, .slice ta tk tc, .int .i64 0, .string ⟨#[]⟩, .int .i64 0, .int .i64 0, .bool false, .slice a9 3 cap9] 25)) la [.int .i64 3, .slice (some ⟨W.heap.size + 1, 0, none⟩) 1 1, .int .i64 0, .string ⟨#[]⟩, .int .i64 0, .int .i64 0, .bool false, .slice none 0 0] := HNA4.out.kept ((Below.refl _ _).alloc (Nat.le_refl _) _)
    have hO := row_alloc (one_row hA) 9 0 2 false (i64_s (by omega)) i64_0 (i64_s (by omega)) #[.int .i64 3, .slice (some ⟨W.heap.size + 1, 0, none⟩) 1 1, .int .i64 0, .string ⟨#[]⟩, .int .i64 0, .int .i64 0, .bool false, .slice none 0 0] rfl (by simp) 1 rfl
    rw [World.size_alloc] at hO
    have hA2 := hA.kept ((Below.refl _ _).alloc (Nat.le_refl _) (.cells #[.int .i64 3, .slice (some ⟨W.heap.size + 1, 0, none⟩) 1 1, .int .i64 0, .string ⟨#[]⟩, .int .i64 0, .int .i64 0, .bool false, .slice none 0 0] 25))
    have hT := row_alloc (((one_row hA2).snoc hA2).snoc hO) 7 0 0 false (i64_s (by omega)) i64_0 i64_0 #[.int .i64 3, .slice (some ⟨W.heap.size + 1, 0, none⟩) 1 1, .int .i64 0, .string ⟨#[]⟩, .int .i64 0, .int .i64 0, .bool false, .slice none 0 0, .int .i64 3, .slice (some ⟨W.heap.size + 1, 0, none⟩) 1 1, .int .i64 0, .string ⟨#[]⟩, .int .i64 0, .int .i64 0, .bool false, .slice none 0 0, .int .i64 9, .slice none 0 0, .int .i64 0, .string ⟨#[]⟩, .int .i64 0, .int .i64 2, .bool false, .slice (some ⟨w4.heap.size + 1, 0, none⟩) 1 1] rfl (by simp) 3 rfl
    rw [World.size_alloc, World.size_alloc] at hT
    exact hT.kept ((Below.refl _ _).alloc (Nat.le_refl _) _))
  have HA6 : Hid (W6.heap[w1.heap.size]? = some (.cells #[.int .i64 3, .slice (some ⟨W.heap.size + 1, 0, none⟩) 1 1, .int .i64 0, .string ⟨#[]⟩, .int .i64 0, .int .i64 0, .bool false, .slice none 0 0] 25 (0, 0))) := Lib.hid ((hb46.block _ (by omega)).trans HA4.out)
  have HNA6 := Lib.hid (HNA4.out.kept hb46)
  have HN6 := Lib.hid (HN4.out.kept hb46)
  have HB6 := Lib.hid (HB4.out.trans (hb46.mono HB4.out.size))
  have HW6 := Lib.hid hW6
  have HA5 : Hid ((w4.alloc (.cells #[.int .i64 7, .slice ta tk tc, .int .i64 0, .string ⟨#[]⟩, .int .i64 0, .int .i64 0, .bool false, .slice a9 3 cap9] 25)).heap[w1.heap.size]? = some (.cells #[.int .i64 3, .slice (some ⟨W.heap.size + 1, 0, none⟩) 1 1, .int .i64 0, .string ⟨#[]⟩, .int .i64 0, .int .i64 0, .bool false, .slice none 0 0] 25 (0, 0))) := Lib.hid ((Below.heap_alloc _ _ _ (by omega)).trans HA4.out)
  obtain ⟨p0, p1, p2, p3, p4, p5, p6, p7⟩ := nbox_cells HA5.out
  clear hb46 hW6 HA4 HNA4 HN4 HB4
  go_wp2
  rw [HW6.out]
  clear p0 p1 p2 p3 p4 p5 p6 p7 HW6 HA5
  obtain ⟨p0, p1, p2, p3, p4, p5, p6, p7⟩ := nbox_cells HA6.out
  have HKA : Hid (∀ w, Below W6.heap.size W6 w → w.heap[w1.heap.size]? = some (.cells #[.int .i64 3, .slice (some ⟨W.heap.size + 1, 0, none⟩) 1 1, .int .i64 0, .string ⟨#[]⟩, .int .i64 0, .int .i64 0, .bool false, .slice none 0 0] 25 (0, 0)) ∧ NdIs w la [.int .i64 3, .slice (some ⟨W.heap.size + 1, 0, none⟩) 1 1, .int .i64 0, .string ⟨#[]⟩, .int .i64 0, .int .i64 0, .bool false, .slice none 0 0]) := Lib.hid (fun w hw => ⟨(hw.block _ (by omega)).trans HA6.out, HNA6.out.kept hw⟩)
  have HL98 := Lib.hid (fun w => let11_ex w 98 i98)
  have HL99 := Lib.hid (fun w => let11_ex w 99 i99)
  have HCR2 : Hid (∀ w h, NdIs w cat2 [.int .i64 7, .slice none 0 0, .int .i64 0, .string ⟨#[]⟩, .int .i64 0, .int .i64 0, .bool false, .slice (some ⟨h, 0, none⟩) 2 2] → Calls Try.prog 13 #[.agg #[.int .i64 7, .slice none 0 0, .int .i64 0, .string ⟨#[]⟩, .int .i64 0, .int .i64 0, .bool false, .slice (some ⟨h, 0, none⟩) 2 2]] w fun e w' => ∃ cs' : List Value, e = .returned (.tuple #[.agg cs'.toArray, .int .i64 0]) ∧ NwP (fun b => w.heap.size ≤ b) w' cat3 cs' ∧ Below w.heap.size w w') := Lib.hid (fun w h hn => by
    have := bigCore_any w cat2 _ hn (by rw [show Td.all 1000 1 cat2 = [(1, cat2), (2, catab), (3, la), (3, letN 98), (2, letN 99)] from rfl]; simp)
    rw [coreF_cat2] at this
    exact this)
  have HSAME : Hid (∀ w c d, NdIs w wantN c → NdIs w wantN d → Calls Try.prog 14 #[.agg c.toArray, .agg d.toArray, .int .i64 9] w fun e w' => e = .returned (.bool true) ∧ Below w.heap.size w w') := Lib.hid (fun w c d hc hd => by
    have := sameNode_any 9 (by omega) w wantN wantN c d hc hd
    rw [same_want] at this
    exact this)
  have HSLOT : Hid (∀ w c, NdIs w cat3 c → Calls Try.prog 9 #[.agg c.toArray] w fun e w' => e = .returned (.int .i64 2) ∧ Below w.heap.size w w') := Lib.hid (fun w c hc => by
    have := callsIn_wide.1 (slots_in 3 (by omega) w cat3 c hc (by rw [slots_cat3]; omega))
    rw [slots_cat3] at this
    exact this)
  have HCHK : Hid (∀ w c, NdIs w wantN c → Calls Try.prog 7 #[.agg c.toArray] w fun e w' => e = .returned (.int .i64 0) ∧ Below w.heap.size w w') := Lib.hid (fun w c hc => by
    have hh : hgt wantN ≤ 2000 := hgt_of 2000 wantN (show Td.dep 2001 wantN ≤ 2000 by rw [show Td.dep 2001 wantN = 3 from rfl]; omega)
    have hl : (Td.all 2001 1 wantN).length = 5 := rfl
    have hn : cnt wantN = 5 := by rw [← all_cnt 2001 1 wantN (by omega), hl]
    have := callsIn_wide.1 (ncheck_in 3 (by omega) w wantN c hc (by rw [hl]; omega) (her_of (by rw [hn]; omega)))
    rw [checkC_want] at this
    exact this)
  have HS6 := Lib.hid hs6
  clear hs6
  obtain ⟨hxz, -⟩ := HKA.out (W6.drew.alloc (.cells #[.int .i64 0, .slice none 0 0, .int .i64 0, .string ⟨#[]⟩, .int .i64 0, .int .i64 0, .bool false, .slice none 0 0] 25)) ((Below.refl _ _).drew.alloc (Nat.le_refl _) _)
  obtain ⟨s0, s1, s2, s3, s4, s5, s6, s7⟩ := nbox_cells hxz
  obtain ⟨hxy, -⟩ := HKA.out (W6.alloc (.cells #[.int .i64 0, .slice none 0 0, .int .i64 0, .string ⟨#[]⟩, .int .i64 0, .int .i64 0, .bool false, .slice none 0 0] 25)) ((Below.refl _ _).alloc (Nat.le_refl _) _)
  obtain ⟨u0, u1, u2, u3, u4, u5, u6, u7⟩ := nbox_cells hxy
  clear hxz hxy
  go_region_law (first
    | (go_simp; go_at_call 12; refine (HL98.out _).mono ?_; rintro e wb ⟨gb, rfl, hnb, hbb⟩; have hB6 : Below W6.heap.size W6 wb := (by first | exact (Below.refl _ _).drew.trans hbb | exact below_alloc_to (Below.refl _ _).drew hbb); have HB6b := Lib.hid hB6; have hsb := hB6.size; (try have HZb : Hid (wb.heap[W6.heap.size]? = some (.cells #[.int .i64 0, .slice none 0 0, .int .i64 0, .string ⟨#[]⟩, .int .i64 0, .int .i64 0, .bool false, .slice none 0 0] 25 (0, 0))) := Lib.hid ((hbb.block W6.heap.size (by simp [World.drew] <;> omega)).trans (heap_alloc_new W6.drew _))); have HNB := Lib.hid hnb; obtain ⟨hxa, hna⟩ := HKA.out wb hB6; have HNAb := Lib.hid hna; obtain ⟨q0, q1, q2, q3, q4, q5, q6, q7⟩ := nbox_cells hxa; obtain ⟨hxz, -⟩ := HKA.out (wb.alloc (.cells #[.int .i64 0, .slice none 0 0, .int .i64 0, .string ⟨#[]⟩, .int .i64 0, .int .i64 0, .bool false, .slice none 0 0] 25)) (hB6.alloc hB6.size _); obtain ⟨sb0, sb1, sb2, sb3, sb4, sb5, sb6, sb7⟩ := nbox_cells hxz; clear hxz hxa hna hbb hnb hB6)
    | (go_simp; go_at_call 12; refine (HL99.out _).mono ?_; rintro e wc ⟨gc, rfl, hnc, hbc⟩; have hBc : Below wb.heap.size wb wc := (by first | exact hbc | exact below_alloc_to (Below.refl _ _) hbc | exact below_alloc_to ((Below.refl _ _).alloc (Nat.le_refl _) _) hbc | exact below_alloc_to (((Below.refl _ _).alloc (Nat.le_refl _) _).alloc (by simp <;> omega) _) hbc); have HB6c := Lib.hid (HB6b.out.trans (hBc.mono HB6b.out.size)); have hsc := hBc.size; have HNC := Lib.hid hnc; have HNBc := Lib.hid (HNB.out.kept hBc); obtain ⟨hxa, hna⟩ := HKA.out wc HB6c.out; have HNAc := Lib.hid hna; obtain ⟨r0, r1, r2, r3, r4, r5, r6, r7⟩ := nbox_cells hxa; obtain ⟨hxz, -⟩ := HKA.out (wc.alloc (.cells #[.int .i64 0, .slice none 0 0, .int .i64 0, .string ⟨#[]⟩, .int .i64 0, .int .i64 0, .bool false, .slice none 0 0] 25)) (HB6c.out.alloc HB6c.out.size _); obtain ⟨sc0, sc1, sc2, sc3, sc4, sc5, sc6, sc7⟩ := nbox_cells hxz; clear hxz; (try have HZc : Hid (wc.heap[W6.heap.size]? = some (.cells #[.int .i64 0, .slice none 0 0, .int .i64 0, .string ⟨#[]⟩, .int .i64 0, .int .i64 0, .bool false, .slice none 0 0] 25 (0, 0))) := Lib.hid ((hBc.block _ (by have := HZb.out; exact (Array.getElem?_eq_some_iff.1 this).1)).trans HZb.out)); (try have HZd : Hid (wc.heap[wb.heap.size]? = some (.cells #[.int .i64 0, .slice none 0 0, .int .i64 0, .string ⟨#[]⟩, .int .i64 0, .int .i64 0, .bool false, .slice none 0 0] 25 (0, 0))) := Lib.hid ((hbc.block wb.heap.size (by simp <;> omega)).trans (by first | exact heap_alloc_new _ _ | exact heap2a _ _ _ | exact alloc2_new _ _ _ | exact heap3a _ _ _ _ | exact heap3b _ _ _ _ | exact heap3c _ _ _ _))); (try have HZe : Hid (wc.heap[wb.heap.size + 1]? = some (.cells #[.int .i64 0, .slice none 0 0, .int .i64 0, .string ⟨#[]⟩, .int .i64 0, .int .i64 0, .bool false, .slice none 0 0] 25 (0, 0))) := Lib.hid ((hbc.block (wb.heap.size + 1) (by simp <;> omega)).trans (by first | exact heap_alloc_new _ _ | exact heap2a _ _ _ | exact alloc2_new _ _ _ | exact heap3a _ _ _ _ | exact heap3b _ _ _ _ | exact heap3c _ _ _ _))); (try have HCAB : Hid (NdIs wc catab [.int .i64 7, .slice none 0 0, .int .i64 0, .string ⟨#[]⟩, .int .i64 0, .int .i64 0, .bool false, .slice (some ⟨wb.heap.size, 0, none⟩) 2 2]) := Lib.hid (cab_at HNAc.out HNBc.out ((hbc.block (wb.heap.size) (by simp <;> omega)).trans (by first | exact heap_alloc_new _ _ | exact heap2a _ _ _ | exact alloc2_new _ _ _ | exact heap3a _ _ _ _ | exact heap3b _ _ _ _ | exact heap3c _ _ _ _)))); (try have HCAC : Hid (NdIs wc catab [.int .i64 7, .slice none 0 0, .int .i64 0, .string ⟨#[]⟩, .int .i64 0, .int .i64 0, .bool false, .slice (some ⟨wb.heap.size + 1, 0, none⟩) 2 2]) := Lib.hid (cab_at HNAc.out HNBc.out ((hbc.block (wb.heap.size + 1) (by simp <;> omega)).trans (by first | exact heap_alloc_new _ _ | exact heap2a _ _ _ | exact alloc2_new _ _ _ | exact heap3a _ _ _ _ | exact heap3b _ _ _ _ | exact heap3c _ _ _ _)))); clear hxa hna hbc hnc hBc)
    | (go_simp; go_at_call 13; refine (HCR2.out _ _ (by first | exact cat2_at (HCAB.out.kept (by first | exact (Below.refl _ _).alloc (Nat.le_refl _) _ | exact ((Below.refl _ _).alloc (Nat.le_refl _) _).alloc (by simp <;> omega) _ | exact (((Below.refl _ _).alloc (Nat.le_refl _) _).alloc (by simp <;> omega) _).alloc (by simp <;> omega) _)) (HNC.out.kept (by first | exact (Below.refl _ _).alloc (Nat.le_refl _) _ | exact ((Below.refl _ _).alloc (Nat.le_refl _) _).alloc (by simp <;> omega) _ | exact (((Below.refl _ _).alloc (Nat.le_refl _) _).alloc (by simp <;> omega) _).alloc (by simp <;> omega) _)) (by first | exact heap_alloc_new _ _ | exact heap2a _ _ _ | exact alloc2_new _ _ _ | exact heap3a _ _ _ _ | exact heap3b _ _ _ _ | exact heap3c _ _ _ _) | exact cat2_at (HCAC.out.kept (by first | exact (Below.refl _ _).alloc (Nat.le_refl _) _ | exact ((Below.refl _ _).alloc (Nat.le_refl _) _).alloc (by simp <;> omega) _ | exact (((Below.refl _ _).alloc (Nat.le_refl _) _).alloc (by simp <;> omega) _).alloc (by simp <;> omega) _)) (HNC.out.kept (by first | exact (Below.refl _ _).alloc (Nat.le_refl _) _ | exact ((Below.refl _ _).alloc (Nat.le_refl _) _).alloc (by simp <;> omega) _ | exact (((Below.refl _ _).alloc (Nat.le_refl _) _).alloc (by simp <;> omega) _).alloc (by simp <;> omega) _)) (by first | exact heap_alloc_new _ _ | exact heap2a _ _ _ | exact alloc2_new _ _ _ | exact heap3a _ _ _ _ | exact heap3b _ _ _ _ | exact heap3c _ _ _ _) | exact cat2_at (r2 := wc.heap.size) (cab_at (HNAc.out.kept (by first | exact (Below.refl _ _).alloc (Nat.le_refl _) _ | exact ((Below.refl _ _).alloc (Nat.le_refl _) _).alloc (by simp <;> omega) _ | exact (((Below.refl _ _).alloc (Nat.le_refl _) _).alloc (by simp <;> omega) _).alloc (by simp <;> omega) _)) (HNBc.out.kept (by first | exact (Below.refl _ _).alloc (Nat.le_refl _) _ | exact ((Below.refl _ _).alloc (Nat.le_refl _) _).alloc (by simp <;> omega) _ | exact (((Below.refl _ _).alloc (Nat.le_refl _) _).alloc (by simp <;> omega) _).alloc (by simp <;> omega) _)) (by first | exact heap_alloc_new _ _ | exact heap2a _ _ _ | exact alloc2_new _ _ _ | exact heap3a _ _ _ _ | exact heap3b _ _ _ _ | exact heap3c _ _ _ _)) (HNC.out.kept (by first | exact (Below.refl _ _).alloc (Nat.le_refl _) _ | exact ((Below.refl _ _).alloc (Nat.le_refl _) _).alloc (by simp <;> omega) _ | exact (((Below.refl _ _).alloc (Nat.le_refl _) _).alloc (by simp <;> omega) _).alloc (by simp <;> omega) _)) (by first | exact heap_alloc_new _ _ | exact heap2a _ _ _ | exact alloc2_new _ _ _ | exact heap3a _ _ _ _ | exact heap3b _ _ _ _ | exact heap3c _ _ _ _) | exact cat2_at (r2 := wc.heap.size + 1) (cab_at (HNAc.out.kept (by first | exact (Below.refl _ _).alloc (Nat.le_refl _) _ | exact ((Below.refl _ _).alloc (Nat.le_refl _) _).alloc (by simp <;> omega) _ | exact (((Below.refl _ _).alloc (Nat.le_refl _) _).alloc (by simp <;> omega) _).alloc (by simp <;> omega) _)) (HNBc.out.kept (by first | exact (Below.refl _ _).alloc (Nat.le_refl _) _ | exact ((Below.refl _ _).alloc (Nat.le_refl _) _).alloc (by simp <;> omega) _ | exact (((Below.refl _ _).alloc (Nat.le_refl _) _).alloc (by simp <;> omega) _).alloc (by simp <;> omega) _)) (by first | exact heap_alloc_new _ _ | exact heap2a _ _ _ | exact alloc2_new _ _ _ | exact heap3a _ _ _ _ | exact heap3b _ _ _ _ | exact heap3c _ _ _ _)) (HNC.out.kept (by first | exact (Below.refl _ _).alloc (Nat.le_refl _) _ | exact ((Below.refl _ _).alloc (Nat.le_refl _) _).alloc (by simp <;> omega) _ | exact (((Below.refl _ _).alloc (Nat.le_refl _) _).alloc (by simp <;> omega) _).alloc (by simp <;> omega) _)) (by first | exact heap_alloc_new _ _ | exact heap2a _ _ _ | exact alloc2_new _ _ _ | exact heap3a _ _ _ _ | exact heap3b _ _ _ _ | exact heap3c _ _ _ _))).mono ?_; rintro e w7 ⟨cs7, rfl, hn7, hb7⟩; have hBw : Below wc.heap.size wc w7 := (by first | exact hb7 | exact below_alloc_to (Below.refl _ _) hb7 | exact below_alloc_to ((Below.refl _ _).alloc (Nat.le_refl _) _) hb7 | exact below_alloc_to (((Below.refl _ _).alloc (Nat.le_refl _) _).alloc (by simp <;> omega) _) hb7); have HB67 : Hid (Below W6.heap.size W6 w7) := Lib.hid (HB6c.out.trans (hBw.mono HB6c.out.size)); have hs7 := hBw.size; have HN7 := Lib.hid hn7; (try (have hz : w7.heap[W6.heap.size]? = some (.cells #[.int .i64 0, .slice none 0 0, .int .i64 0, .string ⟨#[]⟩, .int .i64 0, .int .i64 0, .bool false, .slice none 0 0] 25 (0, 0)) := (hBw.block _ (by have := HZc.out; exact (Array.getElem?_eq_some_iff.1 this).1)).trans HZc.out; have HZ7 : Hid (w7.heap[W6.heap.size]? = some (.cells #[.int .i64 0, .slice none 0 0, .int .i64 0, .string ⟨#[]⟩, .int .i64 0, .int .i64 0, .bool false, .slice none 0 0] 25 (0, 0))) := Lib.hid hz; have HK7 : Hid (W6.heap.size < wc.heap.size) := Lib.hid (by have := HZc.out; exact (Array.getElem?_eq_some_iff.1 this).1); obtain ⟨y0, y1, y2, y3, y4, y5, y6, y7⟩ := nbox_cells hz; have g0 := nbox_frozen hz 0; have g1 := nbox_frozen hz 1; have g2 := nbox_frozen hz 2; have g3 := nbox_frozen hz 3; have g4 := nbox_frozen hz 4; have g5 := nbox_frozen hz 5; have g6 := nbox_frozen hz 6; have g7 := nbox_frozen hz 7; clear hz)); (try (have hz : w7.heap[wb.heap.size]? = some (.cells #[.int .i64 0, .slice none 0 0, .int .i64 0, .string ⟨#[]⟩, .int .i64 0, .int .i64 0, .bool false, .slice none 0 0] 25 (0, 0)) := (hBw.block _ (by have := HZd.out; exact (Array.getElem?_eq_some_iff.1 this).1)).trans HZd.out; have HZ7 : Hid (w7.heap[wb.heap.size]? = some (.cells #[.int .i64 0, .slice none 0 0, .int .i64 0, .string ⟨#[]⟩, .int .i64 0, .int .i64 0, .bool false, .slice none 0 0] 25 (0, 0))) := Lib.hid hz; have HK7 : Hid (wb.heap.size < wc.heap.size) := Lib.hid (by have := HZd.out; exact (Array.getElem?_eq_some_iff.1 this).1); obtain ⟨y0, y1, y2, y3, y4, y5, y6, y7⟩ := nbox_cells hz; have g0 := nbox_frozen hz 0; have g1 := nbox_frozen hz 1; have g2 := nbox_frozen hz 2; have g3 := nbox_frozen hz 3; have g4 := nbox_frozen hz 4; have g5 := nbox_frozen hz 5; have g6 := nbox_frozen hz 6; have g7 := nbox_frozen hz 7; clear hz)); (try (have hz : w7.heap[wb.heap.size + 1]? = some (.cells #[.int .i64 0, .slice none 0 0, .int .i64 0, .string ⟨#[]⟩, .int .i64 0, .int .i64 0, .bool false, .slice none 0 0] 25 (0, 0)) := (hBw.block _ (by have := HZe.out; exact (Array.getElem?_eq_some_iff.1 this).1)).trans HZe.out; have HZ7 : Hid (w7.heap[wb.heap.size + 1]? = some (.cells #[.int .i64 0, .slice none 0 0, .int .i64 0, .string ⟨#[]⟩, .int .i64 0, .int .i64 0, .bool false, .slice none 0 0] 25 (0, 0))) := Lib.hid hz; have HK7 : Hid (wb.heap.size + 1 < wc.heap.size) := Lib.hid (by have := HZe.out; exact (Array.getElem?_eq_some_iff.1 this).1); obtain ⟨y0, y1, y2, y3, y4, y5, y6, y7⟩ := nbox_cells hz; have g0 := nbox_frozen hz 0; have g1 := nbox_frozen hz 1; have g2 := nbox_frozen hz 2; have g3 := nbox_frozen hz 3; have g4 := nbox_frozen hz 4; have g5 := nbox_frozen hz 5; have g6 := nbox_frozen hz 6; have g7 := nbox_frozen hz 7; clear hz)); (try (have hz : w7.heap[wc.heap.size]? = some (.cells #[.int .i64 0, .slice none 0 0, .int .i64 0, .string ⟨#[]⟩, .int .i64 0, .int .i64 0, .bool false, .slice none 0 0] 25 (0, 0)) := (hb7.block (wc.heap.size) (by simp <;> omega)).trans (by first | exact heap_alloc_new _ _ | exact heap2a _ _ _ | exact alloc2_new _ _ _ | exact heap3a _ _ _ _ | exact heap3b _ _ _ _ | exact heap3c _ _ _ _); have HZ7 : Hid (w7.heap[wc.heap.size]? = some (.cells #[.int .i64 0, .slice none 0 0, .int .i64 0, .string ⟨#[]⟩, .int .i64 0, .int .i64 0, .bool false, .slice none 0 0] 25 (0, 0))) := Lib.hid hz; obtain ⟨y0, y1, y2, y3, y4, y5, y6, y7⟩ := nbox_cells hz; have g0 := nbox_frozen hz 0; have g1 := nbox_frozen hz 1; have g2 := nbox_frozen hz 2; have g3 := nbox_frozen hz 3; have g4 := nbox_frozen hz 4; have g5 := nbox_frozen hz 5; have g6 := nbox_frozen hz 6; have g7 := nbox_frozen hz 7; clear hz)); (try (have hz : w7.heap[wc.heap.size + 1]? = some (.cells #[.int .i64 0, .slice none 0 0, .int .i64 0, .string ⟨#[]⟩, .int .i64 0, .int .i64 0, .bool false, .slice none 0 0] 25 (0, 0)) := (hb7.block (wc.heap.size + 1) (by simp <;> omega)).trans (by first | exact heap_alloc_new _ _ | exact heap2a _ _ _ | exact alloc2_new _ _ _ | exact heap3a _ _ _ _ | exact heap3b _ _ _ _ | exact heap3c _ _ _ _); have HZ7 : Hid (w7.heap[wc.heap.size + 1]? = some (.cells #[.int .i64 0, .slice none 0 0, .int .i64 0, .string ⟨#[]⟩, .int .i64 0, .int .i64 0, .bool false, .slice none 0 0] 25 (0, 0))) := Lib.hid hz; obtain ⟨y0, y1, y2, y3, y4, y5, y6, y7⟩ := nbox_cells hz; have g0 := nbox_frozen hz 0; have g1 := nbox_frozen hz 1; have g2 := nbox_frozen hz 2; have g3 := nbox_frozen hz 3; have g4 := nbox_frozen hz 4; have g5 := nbox_frozen hz 5; have g6 := nbox_frozen hz 6; have g7 := nbox_frozen hz 7; clear hz)); (try (have hz : w7.heap[wc.heap.size + 1 + 1]? = some (.cells #[.int .i64 0, .slice none 0 0, .int .i64 0, .string ⟨#[]⟩, .int .i64 0, .int .i64 0, .bool false, .slice none 0 0] 25 (0, 0)) := (hb7.block (wc.heap.size + 1 + 1) (by simp <;> omega)).trans (by first | exact heap_alloc_new _ _ | exact heap2a _ _ _ | exact alloc2_new _ _ _ | exact heap3a _ _ _ _ | exact heap3b _ _ _ _ | exact heap3c _ _ _ _); have HZ7 : Hid (w7.heap[wc.heap.size + 1 + 1]? = some (.cells #[.int .i64 0, .slice none 0 0, .int .i64 0, .string ⟨#[]⟩, .int .i64 0, .int .i64 0, .bool false, .slice none 0 0] 25 (0, 0))) := Lib.hid hz; obtain ⟨y0, y1, y2, y3, y4, y5, y6, y7⟩ := nbox_cells hz; have g0 := nbox_frozen hz 0; have g1 := nbox_frozen hz 1; have g2 := nbox_frozen hz 2; have g3 := nbox_frozen hz 3; have g4 := nbox_frozen hz 4; have g5 := nbox_frozen hz 5; have g6 := nbox_frozen hz 6; have g7 := nbox_frozen hz 7; clear hz)); obtain ⟨xs7, b7, cap7, Y7, hxe7, hset7, -, -⟩ := hn7.parts; obtain ⟨xa, xk, xc, rfl⟩ : ∃ a k c, xs7 = .slice a k c := (by obtain ⟨a, c, h, -⟩ := hset7.1; exact ⟨a, _, c, h⟩); replace hxe7 : cs7 = ([.int .i64 7, .slice xa xk xc, .int .i64 0, .string ⟨#[]⟩, .int .i64 0, .int .i64 0, .bool false, .slice b7 3 cap7] : List Value) := hxe7; subst hxe7; clear hset7 hn7 hb7 hBw))
  all_goals (
    try clear r0 r1 r2 r3 r4 r5 r6 r7
    try clear sc0 sc1 sc2 sc3 sc4 sc5 sc6 sc7
    try clear sb0 sb1 sb2 sb3 sb4 sb5 sb6 sb7
    try clear s0 s1 s2 s3 s4 s5 s6 s7
    try clear u0 u1 u2 u3 u4 u5 u6 u7
    try clear q0 q1 q2 q3 q4 q5 q6 q7
    try clear p0 p1 p2 p3 p4 p5 p6 p7
    try clear y0 y1 y2 y3 y4 y5 y6 y7 g0 g1 g2 g3 g4 g5 g6 g7
    first
      | (obtain ⟨Wf, hWf⟩ : ∃ Wf, w7.alloc (.cells #[.int .i64 7, .slice xa xk xc, .int .i64 0, .string ⟨#[]⟩, .int .i64 0, .int .i64 0, .bool false, .slice b7 3 cap7] 25) = Wf := ⟨_, rfl⟩
         have hbf : Below w7.heap.size w7 Wf := by rw [← hWf]; exact (Below.refl _ _).alloc (Nat.le_refl _) _
         have HMf : Hid (Wf.heap[w7.heap.size]? = some (.cells #[.int .i64 7, .slice xa xk xc, .int .i64 0, .string ⟨#[]⟩, .int .i64 0, .int .i64 0, .bool false, .slice b7 3 cap7] 25 (0, 0))) := Lib.hid (by rw [← hWf]; exact heap_alloc_new _ _)
         have HNMf : Hid (NdIs Wf cat3 [.int .i64 7, .slice xa xk xc, .int .i64 0, .string ⟨#[]⟩, .int .i64 0, .int .i64 0, .bool false, .slice b7 3 cap7]) := Lib.hid (HN7.out.is.kept hbf)
         have HBf : Hid (Below W6.heap.size W6 Wf) := Lib.hid (HB67.out.trans (hbf.mono HB67.out.size))
         rw [hWf]
         clear hWf)
      | (obtain ⟨Wf, hWf⟩ : ∃ Wf, ((((((((w7.setCell ⟨W6.heap.size, 0, none⟩ (.int .i64 7)).setCell ⟨W6.heap.size, 1, none⟩ (.slice xa xk xc)).setCell ⟨W6.heap.size, 2, none⟩ (.int .i64 0)).setCell ⟨W6.heap.size, 3, none⟩ (.string ⟨#[]⟩)).setCell ⟨W6.heap.size, 4, none⟩ (.int .i64 0)).setCell ⟨W6.heap.size, 5, none⟩ (.int .i64 0)).setCell ⟨W6.heap.size, 6, none⟩ (.bool false)).setCell ⟨W6.heap.size, 7, none⟩ (.slice b7 3 cap7)) = Wf := ⟨_, rfl⟩
         have HMf : Hid (Wf.heap[W6.heap.size]? = some (.cells #[.int .i64 7, .slice xa xk xc, .int .i64 0, .string ⟨#[]⟩, .int .i64 0, .int .i64 0, .bool false, .slice b7 3 cap7] 25 (0, 0))) := Lib.hid (by rw [← hWf]; exact set8_blk _ _ _ _ _ _ _ _ _ _ HZ7.out)
         have HNMf : Hid (NdIs Wf cat3 [.int .i64 7, .slice xa xk xc, .int .i64 0, .string ⟨#[]⟩, .int .i64 0, .int .i64 0, .bool false, .slice b7 3 cap7]) := Lib.hid (by
           rw [← hWf]
           refine (NdOn.kept (by rw [set8_size]; exact Nat.le_refl _) (fun b hb _ => set8_other _ _ _ _ _ _ _ _ _ _ b ?_) HN7.out).is
           have h9 := hb.1
           simp at h9
           have h8 := HK7.out
           omega)
         have HBf : Hid (Below W6.heap.size W6 Wf) := Lib.hid (by rw [← hWf]; exact ((((((((HB67.out.setCell (p := ⟨W6.heap.size, 0, none⟩) (by show W6.heap.size ≤ W6.heap.size; omega) _).setCell (p := ⟨W6.heap.size, 1, none⟩) (by show W6.heap.size ≤ W6.heap.size; omega) _).setCell (p := ⟨W6.heap.size, 2, none⟩) (by show W6.heap.size ≤ W6.heap.size; omega) _).setCell (p := ⟨W6.heap.size, 3, none⟩) (by show W6.heap.size ≤ W6.heap.size; omega) _).setCell (p := ⟨W6.heap.size, 4, none⟩) (by show W6.heap.size ≤ W6.heap.size; omega) _).setCell (p := ⟨W6.heap.size, 5, none⟩) (by show W6.heap.size ≤ W6.heap.size; omega) _).setCell (p := ⟨W6.heap.size, 6, none⟩) (by show W6.heap.size ≤ W6.heap.size; omega) _).setCell (p := ⟨W6.heap.size, 7, none⟩) (by show W6.heap.size ≤ W6.heap.size; omega) _))
         rw [hWf]
         clear hWf)
      | (obtain ⟨Wf, hWf⟩ : ∃ Wf, ((((((((w7.setCell ⟨wb.heap.size, 0, none⟩ (.int .i64 7)).setCell ⟨wb.heap.size, 1, none⟩ (.slice xa xk xc)).setCell ⟨wb.heap.size, 2, none⟩ (.int .i64 0)).setCell ⟨wb.heap.size, 3, none⟩ (.string ⟨#[]⟩)).setCell ⟨wb.heap.size, 4, none⟩ (.int .i64 0)).setCell ⟨wb.heap.size, 5, none⟩ (.int .i64 0)).setCell ⟨wb.heap.size, 6, none⟩ (.bool false)).setCell ⟨wb.heap.size, 7, none⟩ (.slice b7 3 cap7)) = Wf := ⟨_, rfl⟩
         have HMf : Hid (Wf.heap[wb.heap.size]? = some (.cells #[.int .i64 7, .slice xa xk xc, .int .i64 0, .string ⟨#[]⟩, .int .i64 0, .int .i64 0, .bool false, .slice b7 3 cap7] 25 (0, 0))) := Lib.hid (by rw [← hWf]; exact set8_blk _ _ _ _ _ _ _ _ _ _ HZ7.out)
         have HNMf : Hid (NdIs Wf cat3 [.int .i64 7, .slice xa xk xc, .int .i64 0, .string ⟨#[]⟩, .int .i64 0, .int .i64 0, .bool false, .slice b7 3 cap7]) := Lib.hid (by
           rw [← hWf]
           refine (NdOn.kept (by rw [set8_size]; exact Nat.le_refl _) (fun b hb _ => set8_other _ _ _ _ _ _ _ _ _ _ b ?_) HN7.out).is
           have h9 := hb.1
           simp at h9
           have h8 := HK7.out
           omega)
         have HBf : Hid (Below W6.heap.size W6 Wf) := Lib.hid (by rw [← hWf]; exact ((((((((HB67.out.setCell (p := ⟨wb.heap.size, 0, none⟩) (by show W6.heap.size ≤ wb.heap.size; omega) _).setCell (p := ⟨wb.heap.size, 1, none⟩) (by show W6.heap.size ≤ wb.heap.size; omega) _).setCell (p := ⟨wb.heap.size, 2, none⟩) (by show W6.heap.size ≤ wb.heap.size; omega) _).setCell (p := ⟨wb.heap.size, 3, none⟩) (by show W6.heap.size ≤ wb.heap.size; omega) _).setCell (p := ⟨wb.heap.size, 4, none⟩) (by show W6.heap.size ≤ wb.heap.size; omega) _).setCell (p := ⟨wb.heap.size, 5, none⟩) (by show W6.heap.size ≤ wb.heap.size; omega) _).setCell (p := ⟨wb.heap.size, 6, none⟩) (by show W6.heap.size ≤ wb.heap.size; omega) _).setCell (p := ⟨wb.heap.size, 7, none⟩) (by show W6.heap.size ≤ wb.heap.size; omega) _))
         rw [hWf]
         clear hWf)
      | (obtain ⟨Wf, hWf⟩ : ∃ Wf, ((((((((w7.setCell ⟨wb.heap.size + 1, 0, none⟩ (.int .i64 7)).setCell ⟨wb.heap.size + 1, 1, none⟩ (.slice xa xk xc)).setCell ⟨wb.heap.size + 1, 2, none⟩ (.int .i64 0)).setCell ⟨wb.heap.size + 1, 3, none⟩ (.string ⟨#[]⟩)).setCell ⟨wb.heap.size + 1, 4, none⟩ (.int .i64 0)).setCell ⟨wb.heap.size + 1, 5, none⟩ (.int .i64 0)).setCell ⟨wb.heap.size + 1, 6, none⟩ (.bool false)).setCell ⟨wb.heap.size + 1, 7, none⟩ (.slice b7 3 cap7)) = Wf := ⟨_, rfl⟩
         have HMf : Hid (Wf.heap[wb.heap.size + 1]? = some (.cells #[.int .i64 7, .slice xa xk xc, .int .i64 0, .string ⟨#[]⟩, .int .i64 0, .int .i64 0, .bool false, .slice b7 3 cap7] 25 (0, 0))) := Lib.hid (by rw [← hWf]; exact set8_blk _ _ _ _ _ _ _ _ _ _ HZ7.out)
         have HNMf : Hid (NdIs Wf cat3 [.int .i64 7, .slice xa xk xc, .int .i64 0, .string ⟨#[]⟩, .int .i64 0, .int .i64 0, .bool false, .slice b7 3 cap7]) := Lib.hid (by
           rw [← hWf]
           refine (NdOn.kept (by rw [set8_size]; exact Nat.le_refl _) (fun b hb _ => set8_other _ _ _ _ _ _ _ _ _ _ b ?_) HN7.out).is
           have h9 := hb.1
           simp at h9
           have h8 := HK7.out
           omega)
         have HBf : Hid (Below W6.heap.size W6 Wf) := Lib.hid (by rw [← hWf]; exact ((((((((HB67.out.setCell (p := ⟨wb.heap.size + 1, 0, none⟩) (by show W6.heap.size ≤ wb.heap.size + 1; omega) _).setCell (p := ⟨wb.heap.size + 1, 1, none⟩) (by show W6.heap.size ≤ wb.heap.size + 1; omega) _).setCell (p := ⟨wb.heap.size + 1, 2, none⟩) (by show W6.heap.size ≤ wb.heap.size + 1; omega) _).setCell (p := ⟨wb.heap.size + 1, 3, none⟩) (by show W6.heap.size ≤ wb.heap.size + 1; omega) _).setCell (p := ⟨wb.heap.size + 1, 4, none⟩) (by show W6.heap.size ≤ wb.heap.size + 1; omega) _).setCell (p := ⟨wb.heap.size + 1, 5, none⟩) (by show W6.heap.size ≤ wb.heap.size + 1; omega) _).setCell (p := ⟨wb.heap.size + 1, 6, none⟩) (by show W6.heap.size ≤ wb.heap.size + 1; omega) _).setCell (p := ⟨wb.heap.size + 1, 7, none⟩) (by show W6.heap.size ≤ wb.heap.size + 1; omega) _))
         rw [hWf]
         clear hWf)
      | (obtain ⟨Wf, hWf⟩ : ∃ Wf, ((((((((w7.setCell ⟨wc.heap.size, 0, none⟩ (.int .i64 7)).setCell ⟨wc.heap.size, 1, none⟩ (.slice xa xk xc)).setCell ⟨wc.heap.size, 2, none⟩ (.int .i64 0)).setCell ⟨wc.heap.size, 3, none⟩ (.string ⟨#[]⟩)).setCell ⟨wc.heap.size, 4, none⟩ (.int .i64 0)).setCell ⟨wc.heap.size, 5, none⟩ (.int .i64 0)).setCell ⟨wc.heap.size, 6, none⟩ (.bool false)).setCell ⟨wc.heap.size, 7, none⟩ (.slice b7 3 cap7)) = Wf := ⟨_, rfl⟩
         have HMf : Hid (Wf.heap[wc.heap.size]? = some (.cells #[.int .i64 7, .slice xa xk xc, .int .i64 0, .string ⟨#[]⟩, .int .i64 0, .int .i64 0, .bool false, .slice b7 3 cap7] 25 (0, 0))) := Lib.hid (by rw [← hWf]; exact set8_blk _ _ _ _ _ _ _ _ _ _ HZ7.out)
         have HNMf : Hid (NdIs Wf cat3 [.int .i64 7, .slice xa xk xc, .int .i64 0, .string ⟨#[]⟩, .int .i64 0, .int .i64 0, .bool false, .slice b7 3 cap7]) := Lib.hid (by
           rw [← hWf]
           refine (NdOn.kept (by rw [set8_size]; exact Nat.le_refl _) (fun b hb _ => set8_other _ _ _ _ _ _ _ _ _ _ b ?_) HN7.out).is
           have h9 := hb.1
           simp at h9
           omega)
         have HBf : Hid (Below W6.heap.size W6 Wf) := Lib.hid (by rw [← hWf]; exact ((((((((HB67.out.setCell (p := ⟨wc.heap.size, 0, none⟩) (by show W6.heap.size ≤ wc.heap.size; omega) _).setCell (p := ⟨wc.heap.size, 1, none⟩) (by show W6.heap.size ≤ wc.heap.size; omega) _).setCell (p := ⟨wc.heap.size, 2, none⟩) (by show W6.heap.size ≤ wc.heap.size; omega) _).setCell (p := ⟨wc.heap.size, 3, none⟩) (by show W6.heap.size ≤ wc.heap.size; omega) _).setCell (p := ⟨wc.heap.size, 4, none⟩) (by show W6.heap.size ≤ wc.heap.size; omega) _).setCell (p := ⟨wc.heap.size, 5, none⟩) (by show W6.heap.size ≤ wc.heap.size; omega) _).setCell (p := ⟨wc.heap.size, 6, none⟩) (by show W6.heap.size ≤ wc.heap.size; omega) _).setCell (p := ⟨wc.heap.size, 7, none⟩) (by show W6.heap.size ≤ wc.heap.size; omega) _))
         rw [hWf]
         clear hWf)
      | (obtain ⟨Wf, hWf⟩ : ∃ Wf, ((((((((w7.setCell ⟨wc.heap.size + 1, 0, none⟩ (.int .i64 7)).setCell ⟨wc.heap.size + 1, 1, none⟩ (.slice xa xk xc)).setCell ⟨wc.heap.size + 1, 2, none⟩ (.int .i64 0)).setCell ⟨wc.heap.size + 1, 3, none⟩ (.string ⟨#[]⟩)).setCell ⟨wc.heap.size + 1, 4, none⟩ (.int .i64 0)).setCell ⟨wc.heap.size + 1, 5, none⟩ (.int .i64 0)).setCell ⟨wc.heap.size + 1, 6, none⟩ (.bool false)).setCell ⟨wc.heap.size + 1, 7, none⟩ (.slice b7 3 cap7)) = Wf := ⟨_, rfl⟩
         have HMf : Hid (Wf.heap[wc.heap.size + 1]? = some (.cells #[.int .i64 7, .slice xa xk xc, .int .i64 0, .string ⟨#[]⟩, .int .i64 0, .int .i64 0, .bool false, .slice b7 3 cap7] 25 (0, 0))) := Lib.hid (by rw [← hWf]; exact set8_blk _ _ _ _ _ _ _ _ _ _ HZ7.out)
         have HNMf : Hid (NdIs Wf cat3 [.int .i64 7, .slice xa xk xc, .int .i64 0, .string ⟨#[]⟩, .int .i64 0, .int .i64 0, .bool false, .slice b7 3 cap7]) := Lib.hid (by
           rw [← hWf]
           refine (NdOn.kept (by rw [set8_size]; exact Nat.le_refl _) (fun b hb _ => set8_other _ _ _ _ _ _ _ _ _ _ b ?_) HN7.out).is
           have h9 := hb.1
           simp at h9
           omega)
         have HBf : Hid (Below W6.heap.size W6 Wf) := Lib.hid (by rw [← hWf]; exact ((((((((HB67.out.setCell (p := ⟨wc.heap.size + 1, 0, none⟩) (by show W6.heap.size ≤ wc.heap.size + 1; omega) _).setCell (p := ⟨wc.heap.size + 1, 1, none⟩) (by show W6.heap.size ≤ wc.heap.size + 1; omega) _).setCell (p := ⟨wc.heap.size + 1, 2, none⟩) (by show W6.heap.size ≤ wc.heap.size + 1; omega) _).setCell (p := ⟨wc.heap.size + 1, 3, none⟩) (by show W6.heap.size ≤ wc.heap.size + 1; omega) _).setCell (p := ⟨wc.heap.size + 1, 4, none⟩) (by show W6.heap.size ≤ wc.heap.size + 1; omega) _).setCell (p := ⟨wc.heap.size + 1, 5, none⟩) (by show W6.heap.size ≤ wc.heap.size + 1; omega) _).setCell (p := ⟨wc.heap.size + 1, 6, none⟩) (by show W6.heap.size ≤ wc.heap.size + 1; omega) _).setCell (p := ⟨wc.heap.size + 1, 7, none⟩) (by show W6.heap.size ≤ wc.heap.size + 1; omega) _))
         rw [hWf]
         clear hWf)
      | (obtain ⟨Wf, hWf⟩ : ∃ Wf, ((((((((w7.setCell ⟨wc.heap.size + 1 + 1, 0, none⟩ (.int .i64 7)).setCell ⟨wc.heap.size + 1 + 1, 1, none⟩ (.slice xa xk xc)).setCell ⟨wc.heap.size + 1 + 1, 2, none⟩ (.int .i64 0)).setCell ⟨wc.heap.size + 1 + 1, 3, none⟩ (.string ⟨#[]⟩)).setCell ⟨wc.heap.size + 1 + 1, 4, none⟩ (.int .i64 0)).setCell ⟨wc.heap.size + 1 + 1, 5, none⟩ (.int .i64 0)).setCell ⟨wc.heap.size + 1 + 1, 6, none⟩ (.bool false)).setCell ⟨wc.heap.size + 1 + 1, 7, none⟩ (.slice b7 3 cap7)) = Wf := ⟨_, rfl⟩
         have HMf : Hid (Wf.heap[wc.heap.size + 1 + 1]? = some (.cells #[.int .i64 7, .slice xa xk xc, .int .i64 0, .string ⟨#[]⟩, .int .i64 0, .int .i64 0, .bool false, .slice b7 3 cap7] 25 (0, 0))) := Lib.hid (by rw [← hWf]; exact set8_blk _ _ _ _ _ _ _ _ _ _ HZ7.out)
         have HNMf : Hid (NdIs Wf cat3 [.int .i64 7, .slice xa xk xc, .int .i64 0, .string ⟨#[]⟩, .int .i64 0, .int .i64 0, .bool false, .slice b7 3 cap7]) := Lib.hid (by
           rw [← hWf]
           refine (NdOn.kept (by rw [set8_size]; exact Nat.le_refl _) (fun b hb _ => set8_other _ _ _ _ _ _ _ _ _ _ b ?_) HN7.out).is
           have h9 := hb.1
           simp at h9
           omega)
         have HBf : Hid (Below W6.heap.size W6 Wf) := Lib.hid (by rw [← hWf]; exact ((((((((HB67.out.setCell (p := ⟨wc.heap.size + 1 + 1, 0, none⟩) (by show W6.heap.size ≤ wc.heap.size + 1 + 1; omega) _).setCell (p := ⟨wc.heap.size + 1 + 1, 1, none⟩) (by show W6.heap.size ≤ wc.heap.size + 1 + 1; omega) _).setCell (p := ⟨wc.heap.size + 1 + 1, 2, none⟩) (by show W6.heap.size ≤ wc.heap.size + 1 + 1; omega) _).setCell (p := ⟨wc.heap.size + 1 + 1, 3, none⟩) (by show W6.heap.size ≤ wc.heap.size + 1 + 1; omega) _).setCell (p := ⟨wc.heap.size + 1 + 1, 4, none⟩) (by show W6.heap.size ≤ wc.heap.size + 1 + 1; omega) _).setCell (p := ⟨wc.heap.size + 1 + 1, 5, none⟩) (by show W6.heap.size ≤ wc.heap.size + 1 + 1; omega) _).setCell (p := ⟨wc.heap.size + 1 + 1, 6, none⟩) (by show W6.heap.size ≤ wc.heap.size + 1 + 1; omega) _).setCell (p := ⟨wc.heap.size + 1 + 1, 7, none⟩) (by show W6.heap.size ≤ wc.heap.size + 1 + 1; omega) _))
         rw [hWf]
         clear hWf)
    have hs6 := HS6.out
    have hXf : Wf.heap[w4.heap.size]? = some (.cells #[.int .i64 7, .slice ta tk tc, .int .i64 0, .string ⟨#[]⟩, .int .i64 0, .int .i64 0, .bool false, .slice a9 3 cap9] 25 (0, 0)) := (HBf.out.block _ (by omega)).trans HX6.out
    have hZf : Wf.heap[w4.heap.size + 1 + 1 + 1]? = some (.cells #[.int .i64 7, .slice none 0 0, .int .i64 0, .string ⟨#[]⟩, .int .i64 0, .int .i64 0, .bool false, .slice (some ⟨w4.heap.size + 1 + 1, 0, none⟩) 3 3] 25 (0, 0)) := (HBf.out.block _ (by omega)).trans HZ6.out
    have HS1 := Lib.hid (HSAME.out Wf _ _ (HN6.out.kept HBf.out) (HNW6.out.kept HBf.out))
    have HNWf := Lib.hid (HNW6.out.kept HBf.out)
    have HZf := Lib.hid hZf
    have hlt1 := (Array.getElem?_eq_some_iff.1 HMf.out).1
    have hlt2 := (Array.getElem?_eq_some_iff.1 hZf).1
    have HLT1 := Lib.hid hlt1
    have HLT2 := Lib.hid hlt2
    obtain ⟨x0, x1, x2, x3, x4, x5, x6, x7⟩ := nbox_cells hXf
    obtain ⟨v0, v1, v2, v3, v4, v5, v6, v7⟩ := nbox_cells hZf
    clear hs6 hXf hZf hlt1 hlt2
    go_wp2_with fail
    refine HS1.out.mono ?_
    rintro e wA ⟨rfl, hbA⟩
    have hMA := (hbA.block _ HLT1.out).trans HMf.out
    have hZA := (hbA.block _ HLT2.out).trans HZf.out
    have HMA := Lib.hid hMA
    have HZA := Lib.hid hZA
    have HLT3 := Lib.hid (Nat.lt_of_lt_of_le HLT2.out hbA.size)
    have HS2 := Lib.hid (HSLOT.out wA _ (HNMf.out.kept hbA))
    have HNWA := Lib.hid (HNWf.out.kept hbA)
    have HBA := Lib.hid (HBf.out.trans (hbA.mono HBf.out.size))
    obtain ⟨m0, m1, m2, m3, m4, m5, m6, m7⟩ := nbox_cells hMA
    clear x0 x1 x2 x3 x4 x5 x6 x7 v0 v1 v2 v3 v4 v5 v6 v7 hMA hZA hbA
    go_wp2_with fail
    refine HS2.out.mono ?_
    rintro e wB ⟨rfl, hbB⟩
    have hZB := (hbB.block _ HLT3.out).trans HZA.out
    have HS3 := Lib.hid (HCHK.out wB _ (HNWA.out.kept hbB))
    have HBB := Lib.hid (HBA.out.trans (hbB.mono HBA.out.size))
    obtain ⟨v0, v1, v2, v3, v4, v5, v6, v7⟩ := nbox_cells hZB
    clear m0 m1 m2 m3 m4 m5 m6 m7 hZB hbB
    go_wp2_with fail
    refine HS3.out.mono ?_
    rintro e wC ⟨rfl, hbC⟩
    have HBC := Lib.hid (HBB.out.trans (hbC.mono HBB.out.size))
    clear v0 v1 v2 v3 v4 v5 v6 v7 hbC
    go_wp2
    go_ret
    exact ⟨rfl, HB6.out.trans (HBC.out.mono HB6.out.size)⟩)
end Go.Proofs.Ythhdlcckboiecaa
