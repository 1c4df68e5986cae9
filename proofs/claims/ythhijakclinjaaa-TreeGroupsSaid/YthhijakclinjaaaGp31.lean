/- burinlaw06.TreeGroups, walked. -/
import Derived.Test.YthhijakclinjaaaGp28
import Derived.Test.YthhijakclinjaaaGp29
import Derived.Test.YthhijakclinjaaaGp22
import Derived.Test.YthhijakclinjaaaGp30
import Derived.Deep.RegionHeld3
import Derived.Deep.RegionLaw
import Derived.Deep.AppendLies
namespace Go.Proofs.Ythhijakclinjaaa
open Go.RowKit
set_option linter.unusedVariables false
theorem Try.infoNode : (Try.prog.info? 25).map (fun i => (i.zero, i.size, i.bytes)) = some (some (.agg #[.int .i64 0, .slice none 0 0, .int .i64 0, .string ⟨#[]⟩, .int .i64 0, .int .i64 0, .bool false, .slice none 0 0]), 8, 104) := by kernel_rfl
theorem Try.underNodes : Try.prog.underlying 23 = some (.slice 25) := by kernel_rfl
/-- The blocks that the groups' letters may lie in. -/
def GrS (B : Nat) (v : Value) (W : World) (b : Nat) : Prop := b ≠ B ∧ some b ≠ v.ownBlock ∧ b < W.heap.size
theorem let_on {W : World} {c : Int} {q : Nat} (h : NdIs W (letN c) [.int .i64 3, .slice (some ⟨q, 0, none⟩) 1 1, .int .i64 0, .string ⟨#[]⟩, .int .i64 0, .int .i64 0, .bool false, .slice none 0 0]) : NdOn (· = q) W (letN c) [.int .i64 3, .slice (some ⟨q, 0, none⟩) 1 1, .int .i64 0, .string ⟨#[]⟩, .int .i64 0, .int .i64 0, .bool false, .slice none 0 0] := by
  obtain ⟨vs, a, cap, C, hC⟩ := h.cells
  have hset := hC.set
  have e := hC.eq
  simp only [List.cons.injEq, and_true] at e
  obtain ⟨_, e1, _⟩ := e
  rw [← e1] at hset
  exact .mk (fun _ => []) hC.bd ⟨hset, fun g off len cap e _ => by injection e with e; injection e with e; injection e with e; exact e.symm⟩ (Nat.zero_le _) (by simp) (fun j hj => absurd hj (by simp)) (fun j hj => absurd hj (by simp))
theorem let_lt {W : World} {c : Int} {q : Nat} (h : NdIs W (letN c) [.int .i64 3, .slice (some ⟨q, 0, none⟩) 1 1, .int .i64 0, .string ⟨#[]⟩, .int .i64 0, .int .i64 0, .bool false, .slice none 0 0]) : q < W.heap.size := by
  obtain ⟨vs, a, cap, C, hC⟩ := h.cells
  have hset := hC.set
  have e := hC.eq
  simp only [List.cons.injEq, and_true] at e
  obtain ⟨_, e1, _⟩ := e
  rw [← e1] at hset
  obtain ⟨a', c', hv, _, _, h3⟩ := hset
  injection hv with hv _ _
  obtain ⟨b, off, ha, hb, _⟩ := h3 0 (by show 0 < 1; omega)
  rw [← hv] at ha
  injection ha with ha; injection ha with ha _ _
  rw [ha]; exact hb
set_option maxRecDepth 100000 in
set_option maxHeartbeats 16000000 in
theorem walkTreeGroups (W : World) (v : Value) (L : List ByteArray) (odd : Int) (h : TxIn W v L) (ho : (Lit.int .i64 odd).wf = true) : Calls Try.prog 8 #[v, .int .i64 odd] W fun e w' => e = .returned (.bool true) ∧ Below W.heap.size W w' := by
  have mixed : Try.prog.follows .mixedOrders = true := by kernel_rfl
  obtain ⟨i0, hi0, hz0, hz1, hz2⟩ := info_parts Try.infoNode
  have ho2 : I64 odd := by
    have q1 : IntKind.i64.min = -9223372036854775808 := rfl
    have q2 : IntKind.i64.max = 9223372036854775807 := rfl
    simp [Lit.wf, q1, q2] at ho
    exact ho
  have i97 : I64 97 := by unfold I64; omega
  have HROW := Lib.hid h.row
  obtain ⟨na, ncap, hv, hnl, hnc⟩ := h.row
  have hlc := h.fits _ _ _ hv
  subst hv
  have hnc2 : ∀ j, j < L.length → ∃ b off s, na = some ⟨b, off, none⟩ ∧ b < W.heap.size ∧ L[j]? = some s ∧ W.cell? ⟨b, off + j, none⟩ = some (.string s) ∧ s.size ≤ 140737488351232 := fun j hj => by
    obtain ⟨b, off, h1, h2, h3, h4⟩ := hnc j hj
    exact ⟨b, off, L[j], h1, h2, List.getElem?_eq_getElem hj, h3, h4⟩
  have HNC := Lib.hid hnc2
  obtain ⟨N, hN⟩ : ∃ N, L.length = N := ⟨_, rfl⟩
  rw [hN] at HNC HROW hnl hlc ⊢
  have HN := Lib.hid hN
  clear h hnc hnc2 hN ho
  go_enter Try.func8, Try.ntmps8
  go_wp2_with fail
  refine (works6_any W).mono ?_
  rintro e w0 ⟨rfl, hb0⟩
  have HB0 := Lib.hid hb0
  have HROW0 := Lib.hid (HROW.out.below (Nat.le_refl _) hb0)
  clear hb0
  go_wp2_with fail
  refine (few_any w0 _ L 40 100 HROW0.out).mono ?_
  rintro e w1 ⟨⟨bf, rfl, hfew⟩, rfl⟩
  cases bf with
  | false =>
    go_wp2
    go_ret
    exact ⟨rfl, HB0.out⟩
  | true =>
    have hN40 := (hfew rfl).1
    rw [HN.out] at hN40
    by_cases hN2 : (N : Int) < 2
    · go_wp2
      go_ret
      exact ⟨rfl, HB0.out⟩
    have hN2' : 2 ≤ N := by omega
    clear hfew
    have HX := Lib.hid (heap_alloc_new w0 (.cells #[.int .i64 7, .slice none 0 0, .int .i64 0, .string ⟨#[]⟩, .int .i64 0, .int .i64 0, .bool false, .slice none 0 0] 25))
    obtain ⟨W1, hW1⟩ : ∃ W1, w0.alloc (.cells #[.int .i64 7, .slice none 0 0, .int .i64 0, .string ⟨#[]⟩, .int .i64 0, .int .i64 0, .bool false, .slice none 0 0] 25) = W1 := ⟨_, rfl⟩
    have HB1 : Hid (Below W.heap.size W W1) := Lib.hid (by rw [← hW1]; exact HB0.out.alloc HB0.out.size _)
    have hs1 : W1.heap.size = w0.heap.size + 1 := by rw [← hW1]; simp
    have hBW : W.heap.size ≤ w0.heap.size := HB0.out.size
    obtain ⟨B, hBe⟩ : ∃ B, w0.heap.size = B := ⟨_, rfl⟩
    rw [hW1, hBe] at HX
    rw [hBe] at hs1 hBW
    have HW1 := Lib.hid hW1
    have HS1 := Lib.hid hs1
    have HBE := Lib.hid hBe
    clear hW1 hs1 hBe
    go_wp2
    rw [HW1.out, HBE.out]
    go_loopw [6, 7, 8, 9, 11, 27] (fun fv tv x8 x9 x11 iv wr => ∃ (i : Nat) (u : Value) (X : List (List Value)), i ≤ N ∧ fv = .bool ((L.take i).all Td.okS) ∧ tv = .bool (Td.twL L i) ∧ iv = .int .i64 (i : Int) ∧
        Hid (wr.ownsRow (B + 1) 25 8 u i X.flatten) ∧ Hid (NdsOn (GrS B u wr) wr (Td.grpsF none 0 (L.take i)) X) ∧ Hid (wr.heap[B]? = some (.cells #[.int .i64 7, .slice none 0 0, .int .i64 0, .string ⟨#[]⟩, .int .i64 0, .int .i64 0, .bool false, u] 25 (0, 0))) ∧ Hid (Below W.heap.size W wr)) (fun _ _ _ _ _ iv _ => N - (intOf iv).toNat)
    case atStart => exact ⟨0, .slice none 0 0, [], Nat.zero_le _, rfl, rfl, rfl, Lib.hid (World.ownsRow_nil _ _ _ _), Lib.hid (NdsOn.nil _ _), HX, HB1⟩
    case round =>
      obtain ⟨i, u, X, hi, rfl, rfl, rfl, HO, HG, HX, HB⟩ := hrel
      by_cases hlt : i < N
      · obtain ⟨g, off, s, rfl, hg, hls, hcs, hss⟩ := HNC.out i hlt
        have hWr := HB.out
        have hcs2 : wr.cell? ⟨g, off + i, none⟩ = some (.string s) := (hWr.cell (p := ⟨g, off + i, none⟩) hg).trans hcs
        have hgl : g < wr.heap.size := Nat.lt_of_lt_of_le hg hWr.size
        have b7 := blkc HX.out 7
        simp only [List.getElem?_toArray, List.getElem?_cons_zero, List.getElem?_cons_succ] at b7
        have f7 : wr.frozen? ⟨B, 7, none⟩ = false := by simp [World.frozen?, HX.out]
        have hBl : B < wr.heap.size := (Array.getElem?_eq_some_iff.1 HX.out).1
        have hw : IntKind.i64.wrap ((i : Int) + 1) = (i : Int) + 1 := by rw [IntKind.wrap_i64]; omega
        have hi40 : (i : Int) + 1 ≤ 41 := by omega
        obtain ⟨ua, uc, hu⟩ : ∃ ua uc, u = .slice ua i uc := by
          rcases HO.out.2 with ⟨e, e0⟩ | ⟨g', cap', cur', e, _⟩
          · exact ⟨none, 0, by rw [e, e0]⟩
          · exact ⟨_, _, e⟩
        subst hu
        clear hcs hg
        go_wp2
        have HBX := Lib.hid HX.out
        have HX8 : Hid (∀ w8, Below wr.heap.size wr w8 → w8.heap[B]? = some (.cells #[.int .i64 7, .slice none 0 0, .int .i64 0, .string ⟨#[]⟩, .int .i64 0, .int .i64 0, .bool false, .slice ua i uc] 25 (0, 0))) := Lib.hid (fun w8 hb => (hb.block _ hBl).trans HBX.out)
        have HC8 : Hid (∀ w8, Below wr.heap.size wr w8 → w8.cell? ⟨B, 7, none⟩ = some (.slice ua i uc)) := Lib.hid (fun w8 hb => by
          have := blkc (HX8.out w8 hb) 7
          simpa using this)
        have HO8 : Hid (∀ w8, Below wr.heap.size wr w8 → w8.ownsRow (B + 1) 25 8 (.slice ua i uc) i X.flatten) := Lib.hid (fun w8 hb => World.ownsRow.kept HO.out (grown_below hb) (by cases hv : (Value.slice ua i uc).ownBlock <;> simp))
        have hbs : B + 1 ≤ wr.heap.size := by omega
        have HNE : Hid (some B ≠ (Value.slice ua i uc).ownBlock) := Lib.hid (by
          rcases HO.out.2 with ⟨e, e0⟩ | ⟨g', cap', cur', e, hg', _⟩
          · rw [e]; simp [Value.ownBlock]
          · rw [e]; simp [Value.ownBlock]; omega)
        have HDR := Lib.hid (show Below wr.heap.size wr wr.drew from below_drewN (Below.refl _ _) 1)
        go_region_law (first
          | (go_simp; go_at_call 29; refine (let6_any _ 97 i97).mono ?_; rintro e w8 ⟨rfl, hn8, hb8⟩; have HN8 : Hid (NdIs w8 (letN 97) [.int .i64 3, .slice (some ⟨wr.heap.size + 1, 0, none⟩) 1 1, .int .i64 0, .string ⟨#[]⟩, .int .i64 0, .int .i64 0, .bool false, .slice none 0 0]) := Lib.hid hn8; have HB8 : Hid (Below wr.heap.size wr w8) := Lib.hid (HDR.out.trans hb8); have hc8 := HC8.out w8 HB8.out; have hz8 := HB8.out.size; have HLT8 : Hid (wr.heap.size + 1 < w8.heap.size) := Lib.hid (let_lt HN8.out); have hd8 := HC8.out _ (HB8.out.alloc hz8 (.cells #[.int .i64 3, .slice (some ⟨wr.heap.size + 1, 0, none⟩) 1 1, .int .i64 0, .string ⟨#[]⟩, .int .i64 0, .int .i64 0, .bool false, .slice none 0 0] 25)); have he8 := HC8.out _ ((HB8.out.alloc hz8 (.cells #[.int .i64 3, .slice (some ⟨wr.heap.size + 1, 0, none⟩) 1 1, .int .i64 0, .string ⟨#[]⟩, .int .i64 0, .int .i64 0, .bool false, .slice none 0 0] 25)).alloc (by simp; omega) (.cells #[.int .i64 6, .slice none 0 0, .int .i64 ((i : Int) + 1), .string s, .int .i64 0, .int .i64 0, .bool false, .slice (some ⟨w8.heap.size, 0, none⟩) 1 1] 25)); clear hn8 hb8)
          | (refine step_append_lies _ rfl _ _ 23 rfl (B + 1) 25 i0 _ 8 104 Try.underNodes hi0 hz0 hz1 hz2 rfl (by decide) _ i X.flatten rfl (((HO8.out _ HB8.out).alloc _).alloc _) ⟨w8.heap.size + 1, 0, none⟩ 1 1 [.int .i64 6, .slice none 0 0, .int .i64 ((i : Int) + 1), .string s, .int .i64 0, .int .i64 0, .bool false, .slice (some ⟨w8.heap.size, 0, none⟩) 1 1] rfl rfl (by have h9 := World.news_of_block (heap_alloc_new (w8.alloc (.cells #[.int .i64 3, .slice (some ⟨wr.heap.size + 1, 0, none⟩) 1 1, .int .i64 0, .string ⟨#[]⟩, .int .i64 0, .int .i64 0, .bool false, .slice none 0 0] 25)) (.cells #[.int .i64 6, .slice none 0 0, .int .i64 ((i : Int) + 1), .string s, .int .i64 0, .int .i64 0, .bool false, .slice (some ⟨w8.heap.size, 0, none⟩) 1 1] 25)); rw [World.size_alloc] at h9; exact h9) (by simp [Value.oneCell']) (by omega) (by unfold maxLen; omega) (by omega) (by simp; omega) (w8.heap.size + 2) (by simp) ?_; intro g9 cap9 w9 hown9 hgrow9 hat9 hlt9; have HOWN9 : Hid (w9.ownsRow (B + 1) 25 8 (.slice (some ⟨g9, 0, none⟩) (i + 1) cap9) (i + 1) (X.flatten ++ [.int .i64 6, .slice none 0 0, .int .i64 ((i : Int) + 1), .string s, .int .i64 0, .int .i64 0, .bool false, .slice (some ⟨w8.heap.size, 0, none⟩) 1 1])) := Lib.hid hown9; have HGROW9 : Hid (((w8.alloc (.cells #[.int .i64 3, .slice (some ⟨wr.heap.size + 1, 0, none⟩) 1 1, .int .i64 0, .string ⟨#[]⟩, .int .i64 0, .int .i64 0, .bool false, .slice none 0 0] 25)).alloc (.cells #[.int .i64 6, .slice none 0 0, .int .i64 ((i : Int) + 1), .string s, .int .i64 0, .int .i64 0, .bool false, .slice (some ⟨w8.heap.size, 0, none⟩) 1 1] 25)).grownBy w9 (Value.slice ua i uc).ownBlock) := Lib.hid hgrow9; have HAT9 : Hid ((Value.slice ua i uc).ownBlock = some g9 ∨ g9 = w8.heap.size + 2) := Lib.hid hat9; have hx9 := (hgrow9.block B (by simp; omega) HNE.out).trans (HX8.out _ ((HB8.out.alloc HB8.out.size _).alloc (by simp; omega) _)); have hc9 : w9.cell? ⟨B, 7, none⟩ = some (.slice ua i uc) := (by have := blkc hx9 7; simpa using this); have hf9 : w9.frozen? ⟨B, 7, none⟩ = false := (by simp [World.frozen?, hx9]); have HX9 := Lib.hid hx9; clear hown9 hgrow9 hat9 hx9))
        all_goals (
          have hwr8 := HB8.out.size
          have hlt8 := HLT8.out
          have hsz9 := HGROW9.out.size
          simp only [World.size_alloc] at hsz9
          have HOL : Hid (∀ k, (Value.slice ua i uc).ownBlock = some k → B + 1 ≤ k ∧ k < wr.heap.size) := Lib.hid (fun k e => by
            rcases HO.out.2 with ⟨e1, e0⟩ | ⟨g', cap', cur', e1, hg', hgb, _⟩
            · rw [e1] at e; simp [Value.ownBlock] at e
            · rw [e1] at e; simp [Value.ownBlock] at e; subst e; exact ⟨hg', (Array.getElem?_eq_some_iff.1 hgb).1⟩)
          have hg9 : B + 1 ≤ g9 ∧ (∀ b, some b ≠ (Value.slice ua i uc).ownBlock → b < w8.heap.size + 2 → b ≠ g9) := by
            rcases HAT9.out with e | e
            · exact ⟨(HOL.out _ e).1, fun b hb _ e2 => hb (by rw [e2, e])⟩
            · exact ⟨by omega, fun b _ hl e2 => by omega⟩
          obtain ⟨w10, hw10⟩ : ∃ w10, w9.setCell ⟨B, 7, none⟩ (.slice (some ⟨g9, 0, none⟩) (i + 1) cap9) = w10 := ⟨_, rfl⟩
          have hk10 : ∀ b, b ≠ B → some b ≠ (Value.slice ua i uc).ownBlock → b < w8.heap.size + 2 → w10.heap[b]? = ((w8.alloc (.cells #[.int .i64 3, .slice (some ⟨wr.heap.size + 1, 0, none⟩) 1 1, .int .i64 0, .string ⟨#[]⟩, .int .i64 0, .int .i64 0, .bool false, .slice none 0 0] 25)).alloc (.cells #[.int .i64 6, .slice none 0 0, .int .i64 ((i : Int) + 1), .string s, .int .i64 0, .int .i64 0, .bool false, .slice (some ⟨w8.heap.size, 0, none⟩) 1 1] 25)).heap[b]? := fun b h1 h2 h3 => by
            rw [← hw10, heap_setCell_other _ _ _ _ (by exact h1)]
            exact HGROW9.out.block b (by simp; omega) h2
          have hs10 : w10.heap.size = w9.heap.size := by rw [← hw10]; simp
          have hb10 : Below W.heap.size W w10 := by
            rw [← hw10]
            exact (((HB.out.trans (HB8.out.mono HB.out.size)).alloc (by have := HB.out.size; omega) _).alloc (by have := HB.out.size; simp; omega) _ |>.grown HGROW9.out (by have := HB.out.size; simp; omega) (fun k hk => by have := HOL.out k hk; omega)).setCell (p := ⟨B, 7, none⟩) hBW _
          have hx10 : w10.heap[B]? = some (.cells #[.int .i64 7, .slice none 0 0, .int .i64 0, .string ⟨#[]⟩, .int .i64 0, .int .i64 0, .bool false, .slice (some ⟨g9, 0, none⟩) (i + 1) cap9] 25 (0, 0)) := by
            rw [← hw10]
            have h9 := heap_setCell_same w9 B 7 _ _ (.slice (some ⟨g9, 0, none⟩) (i + 1) cap9) HX9.out
            simpa using h9
          have ho10 : w10.ownsRow (B + 1) 25 8 (.slice (some ⟨g9, 0, none⟩) (i + 1) cap9) (i + 1) (X ++ [([.int .i64 6, .slice none 0 0, .int .i64 ((i : Int) + 1), .string s, .int .i64 0, .int .i64 0, .bool false, .slice (some ⟨w8.heap.size, 0, none⟩) 1 1] : List Value)]).flatten := by
            rw [← hw10, List.flatten_append]
            exact ownsRow_setCell_below HOWN9.out (by simp) _
          have hlk : ∀ b, b < w8.heap.size → ((w8.alloc (.cells #[.int .i64 3, .slice (some ⟨wr.heap.size + 1, 0, none⟩) 1 1, .int .i64 0, .string ⟨#[]⟩, .int .i64 0, .int .i64 0, .bool false, .slice none 0 0] 25)).alloc (.cells #[.int .i64 6, .slice none 0 0, .int .i64 ((i : Int) + 1), .string s, .int .i64 0, .int .i64 0, .bool false, .slice (some ⟨w8.heap.size, 0, none⟩) 1 1] 25)).heap[b]? = w8.heap[b]? := fun b hb => (Below.heap_alloc _ _ _ (by simp; omega)).trans (Below.heap_alloc _ _ _ hb)
          have hS : ∀ b, GrS B (.slice ua i uc) wr b → GrS B (.slice (some ⟨g9, 0, none⟩) (i + 1) cap9) w10 b := fun b hb => ⟨hb.1, by
            simp only [Value.ownBlock]; intro e; injection e with e; exact hg9.2 b hb.2.1 (by have := hb.2.2; omega) e, by have := hb.2.2; omega⟩
          have hold : NdsOn (GrS B (.slice (some ⟨g9, 0, none⟩) (i + 1) cap9) w10) w10 (Td.grpsF none 0 (L.take i)) X :=
            (HG.out.kept (by omega) (fun b hb hl => (hk10 b hb.1 hb.2.1 (by omega)).trans ((hlk b (by omega)).trans (HB8.out.block b hl)))).mono hS
          have hnl : ∀ b, wr.heap.size ≤ b → some b ≠ (Value.slice ua i uc).ownBlock := fun b hb e => by have := (HOL.out b e.symm).2; omega
          have hq1 : GrS B (.slice (some ⟨g9, 0, none⟩) (i + 1) cap9) w10 (wr.heap.size + 1) := ⟨by omega, by
            simp only [Value.ownBlock]; intro e; injection e with e; exact hg9.2 _ (hnl _ (by omega)) (by omega) e, by omega⟩
          have hq2 : GrS B (.slice (some ⟨g9, 0, none⟩) (i + 1) cap9) w10 w8.heap.size := ⟨by omega, by
            simp only [Value.ownBlock]; intro e; injection e with e; exact hg9.2 _ (hnl _ (by omega)) (by omega) e, by omega⟩
          have hlet : NdOn (GrS B (.slice (some ⟨g9, 0, none⟩) (i + 1) cap9) w10) w10 (letN 97) [.int .i64 3, .slice (some ⟨wr.heap.size + 1, 0, none⟩) 1 1, .int .i64 0, .string ⟨#[]⟩, .int .i64 0, .int .i64 0, .bool false, .slice none 0 0] :=
            ((let_on HN8.out).kept (by omega) (fun b hb hl => by subst hb; exact (hk10 _ (by omega) (hnl _ (by omega)) (by omega)).trans (hlk _ hl))).mono (fun b hb => by subst hb; exact hq1)
          have hrw : w10.heap[w8.heap.size]? = some (.cells #[.int .i64 3, .slice (some ⟨wr.heap.size + 1, 0, none⟩) 1 1, .int .i64 0, .string ⟨#[]⟩, .int .i64 0, .int .i64 0, .bool false, .slice none 0 0] 25 (0, 0)) := (hk10 _ (by omega) (hnl _ (by omega)) (by omega)).trans ((Below.heap_alloc _ _ _ (by simp)).trans (heap_alloc_new w8 _))
          have hgrp : NdOn (GrS B (.slice (some ⟨g9, 0, none⟩) (i + 1) cap9) w10) w10 (Td.grpN ((i : Int) + 1) s) [.int .i64 6, .slice none 0 0, .int .i64 ((i : Int) + 1), .string s, .int .i64 0, .int .i64 0, .bool false, .slice (some ⟨w8.heap.size, 0, none⟩) 1 1] :=
            NdOn.row ((NdsOn.nil _ _).snoc hlet) hq2 hrw (fun j hj => by simp) (by simp) ⟨by unfold I64; omega, by unfold I64; omega, i64_0, i64_0⟩ RRowOn.nil hss
          have hlen : (L.take i).length = i := by rw [List.length_take, HN.out]; omega
          have htk : L.take (i + 1) = L.take i ++ [s] := by
            obtain ⟨hh, e⟩ := List.getElem?_eq_some_iff.1 hls
            rw [List.take_succ_eq_append_getElem hh, e]
          have hnew : NdsOn (GrS B (.slice (some ⟨g9, 0, none⟩) (i + 1) cap9) w10) w10 (Td.grpsF none 0 (L.take (i + 1))) (X ++ [([.int .i64 6, .slice none 0 0, .int .i64 ((i : Int) + 1), .string s, .int .i64 0, .int .i64 0, .bool false, .slice (some ⟨w8.heap.size, 0, none⟩) 1 1] : List Value)]) := by
            rw [htk, Td.grps_snoc, hlen, if_neg (by simp), Nat.zero_add]
            exact hold.snoc hgrp
          have HX10 := Lib.hid hx10
          have HO10 := Lib.hid ho10
          have HG10 := Lib.hid hnew
          have HB10 := Lib.hid hb10
          have HW10 := Lib.hid hw10
          have HTK := Lib.hid htk
          have HLS := Lib.hid hls
          have HOKS : Hid ((L.take (i + 1)).all Td.okS = ((L.take i).all Td.okS && Td.okS s)) := Lib.hid (by rw [htk, List.all_append]; simp)
          have HTW : Hid (Td.twL L (i + 1) = (Td.twL L i || Td.hit (L.take i) s)) := Lib.hid (by
            rw [Td.twL]
            have e : L.getD i ⟨#[]⟩ = s := by rw [List.getD, hls]; rfl
            rw [e])
          obtain ⟨F, hF⟩ : ∃ F, (L.take i).all Td.okS = F := ⟨_, rfl⟩
          obtain ⟨T0, hT0⟩ : ∃ T0, Td.twL L i = T0 := ⟨_, rfl⟩
          obtain ⟨M, hM⟩ : ∃ M, s.toList.isEmpty = M := ⟨_, rfl⟩
          obtain ⟨NB, hNB⟩ : ∃ NB, Td.nameB s = NB := ⟨_, rfl⟩
          rw [hF] at HOKS
          rw [hT0] at HTW
          rw [hw10, hF, hT0]
          have HNB := Lib.hid hNB
          have HOS : Hid (Td.okS s = (M || NB)) := Lib.hid (by unfold Td.okS; rw [hM, hNB])
          clear hw10 hx10 ho10 hnew hb10 htk hlen hgrp hrw hlet hq1 hq2 hnl hold hS hlk hk10 hs10 hg9 hsz9 hwr8 hlt8 HLT8 HOL HAT9 HGROW9 HOWN9 HX9 HN8 HB8 HG HO HX HBX HX8 HC8 HO8 hls hF hT0 hNB hcs2 b7 f7 hc8 hd8 he8 hc9 hf9 hz8
          have HTX : Hid (∀ k, k < N → ∃ t, L[k]? = some t ∧ w10.cell? ⟨g, off + k, none⟩ = some (.string t)) := Lib.hid (fun k hk => by
            obtain ⟨g', off', t, e, hg', hl', hc', _⟩ := HNC.out k hk
            injection e with e; injection e with e1 e2 _
            subst e1; subst e2
            exact ⟨t, hl', (HB10.out.cell (p := ⟨g, off + k, none⟩) hg').trans hc'⟩)
          have hic : (i : Int) ≤ (ncap : Int) := by omega
          have hgl10 : g < w10.heap.size := by
            have h5 := HB10.out.size
            obtain ⟨g', off', t, e, hg', _⟩ := HNC.out i hlt
            injection e with e; injection e with e1 e2 _
            omega
          have hi0 : (0 : Int) ≤ (i : Int) := by omega
          cases F with
          | false =>
            cases M with
            | false =>
              go_wp2
              go_loopw [7, 11, 56] (fun tv x11 kv wr' => ∃ k : Nat, k ≤ i ∧ tv = .bool (T0 || Td.hit (L.take k) s) ∧ kv = .int .i64 (k : Int) ∧ wr' = w10) (fun _ _ kv _ => i - (intOf kv).toNat)
              case atStart => exact ⟨0, Nat.zero_le _, by simp [Td.hit], rfl, rfl⟩
              case round =>
                obtain ⟨k, hk, rfl, rfl, rfl⟩ := hrel
                by_cases hkl : k < i
                · obtain ⟨t, hlt3, hct⟩ := HTX.out k (by omega)
                  have HST : Hid (Td.hit (L.take (k + 1)) s = (Td.hit (L.take k) s || ((s.toList == t.toList) && !false))) := Lib.hid (by
                    obtain ⟨hh, e⟩ := List.getElem?_eq_some_iff.1 hlt3
                    rw [List.take_succ_eq_append_getElem hh, e, hit_snoc, hM, Bool.beq_comm])
                  obtain ⟨Q, hQ⟩ : ∃ Q, (T0 || Td.hit (L.take k) s) = Q := ⟨_, rfl⟩
                  have HQ := Lib.hid hQ
                  rw [hQ]
                  have hki : (k : Int) < (i : Int) := by omega
                  have hk0 : (0 : Int) ≤ (k : Int) := by omega
                  clear hQ hlt3
                  cases Q with
                  | true =>
                    have HN1 : Hid ((T0 || Td.hit (L.take (k + 1)) s) = true) := Lib.hid (by rw [HST.out, ← Bool.or_assoc, HQ.out]; rfl)
                    go_wp2
                    go_roundw
                    case rel => exact ⟨k + 1, by omega, by rw [HN1.out], by go_num, trivial⟩
                    case measure => simp [intOf]; omega
                  | false =>
                    cases hE : (s.toList == t.toList) with
                    | true =>
                      have HN1 : Hid ((T0 || Td.hit (L.take (k + 1)) s) = !false) := Lib.hid (by rw [HST.out, ← Bool.or_assoc, HQ.out, hE]; rfl)
                      go_wp2
                      go_roundw
                      case rel => exact ⟨k + 1, by omega, by rw [HN1.out]; rfl, by go_num, trivial⟩
                      case measure => simp [intOf]; omega
                    | false =>
                      have HN1 : Hid ((T0 || Td.hit (L.take (k + 1)) s) = false) := Lib.hid (by rw [HST.out, ← Bool.or_assoc, HQ.out, hE]; rfl)
                      go_wp2
                      go_roundw
                      case rel => exact ⟨k + 1, by omega, by rw [HN1.out], by go_num, trivial⟩
                      case measure => simp [intOf]; omega
                · obtain rfl : k = i := by omega
                  go_wp2
                  go_roundw
                  case rel => exact ⟨k + 1, _, _, by omega, by rw [HOKS.out, HOS.out]; rfl, by rw [HTW.out], by go_num, HO10, HG10, HX10, HB10⟩
                  case measure => simp [intOf]; omega
            | true =>
              go_wp2
              go_loopw [7, 11, 56] (fun tv x11 kv wr' => ∃ k : Nat, k ≤ i ∧ tv = .bool (T0 || Td.hit (L.take k) s) ∧ kv = .int .i64 (k : Int) ∧ wr' = w10) (fun _ _ kv _ => i - (intOf kv).toNat)
              case atStart => exact ⟨0, Nat.zero_le _, by simp [Td.hit], rfl, rfl⟩
              case round =>
                obtain ⟨k, hk, rfl, rfl, rfl⟩ := hrel
                by_cases hkl : k < i
                · obtain ⟨t, hlt3, hct⟩ := HTX.out k (by omega)
                  have HST : Hid (Td.hit (L.take (k + 1)) s = (Td.hit (L.take k) s || ((s.toList == t.toList) && !true))) := Lib.hid (by
                    obtain ⟨hh, e⟩ := List.getElem?_eq_some_iff.1 hlt3
                    rw [List.take_succ_eq_append_getElem hh, e, hit_snoc, hM, Bool.beq_comm])
                  obtain ⟨Q, hQ⟩ : ∃ Q, (T0 || Td.hit (L.take k) s) = Q := ⟨_, rfl⟩
                  have HQ := Lib.hid hQ
                  rw [hQ]
                  have hki : (k : Int) < (i : Int) := by omega
                  have hk0 : (0 : Int) ≤ (k : Int) := by omega
                  clear hQ hlt3
                  cases Q with
                  | true =>
                    have HN1 : Hid ((T0 || Td.hit (L.take (k + 1)) s) = true) := Lib.hid (by rw [HST.out, ← Bool.or_assoc, HQ.out]; rfl)
                    go_wp2
                    go_roundw
                    case rel => exact ⟨k + 1, by omega, by rw [HN1.out], by go_num, trivial⟩
                    case measure => simp [intOf]; omega
                  | false =>
                    cases hE : (s.toList == t.toList) with
                    | true =>
                      have HN1 : Hid ((T0 || Td.hit (L.take (k + 1)) s) = !true) := Lib.hid (by rw [HST.out, ← Bool.or_assoc, HQ.out, hE]; rfl)
                      go_wp2
                      go_roundw
                      case rel => exact ⟨k + 1, by omega, by rw [HN1.out]; rfl, by go_num, trivial⟩
                      case measure => simp [intOf]; omega
                    | false =>
                      have HN1 : Hid ((T0 || Td.hit (L.take (k + 1)) s) = false) := Lib.hid (by rw [HST.out, ← Bool.or_assoc, HQ.out, hE]; rfl)
                      go_wp2
                      go_roundw
                      case rel => exact ⟨k + 1, by omega, by rw [HN1.out], by go_num, trivial⟩
                      case measure => simp [intOf]; omega
                · obtain rfl : k = i := by omega
                  go_wp2
                  go_roundw
                  case rel => exact ⟨k + 1, _, _, by omega, by rw [HOKS.out, HOS.out]; rfl, by rw [HTW.out], by go_num, HO10, HG10, HX10, HB10⟩
                  case measure => simp [intOf]; omega
          | true =>
            cases M with
            | true =>
              go_wp2
              go_loopw [7, 11, 56] (fun tv x11 kv wr' => ∃ k : Nat, k ≤ i ∧ tv = .bool (T0 || Td.hit (L.take k) s) ∧ kv = .int .i64 (k : Int) ∧ wr' = w10) (fun _ _ kv _ => i - (intOf kv).toNat)
              case atStart => exact ⟨0, Nat.zero_le _, by simp [Td.hit], rfl, rfl⟩
              case round =>
                obtain ⟨k, hk, rfl, rfl, rfl⟩ := hrel
                by_cases hkl : k < i
                · obtain ⟨t, hlt3, hct⟩ := HTX.out k (by omega)
                  have HST : Hid (Td.hit (L.take (k + 1)) s = (Td.hit (L.take k) s || ((s.toList == t.toList) && !true))) := Lib.hid (by
                    obtain ⟨hh, e⟩ := List.getElem?_eq_some_iff.1 hlt3
                    rw [List.take_succ_eq_append_getElem hh, e, hit_snoc, hM, Bool.beq_comm])
                  obtain ⟨Q, hQ⟩ : ∃ Q, (T0 || Td.hit (L.take k) s) = Q := ⟨_, rfl⟩
                  have HQ := Lib.hid hQ
                  rw [hQ]
                  have hki : (k : Int) < (i : Int) := by omega
                  have hk0 : (0 : Int) ≤ (k : Int) := by omega
                  clear hQ hlt3
                  cases Q with
                  | true =>
                    have HN1 : Hid ((T0 || Td.hit (L.take (k + 1)) s) = true) := Lib.hid (by rw [HST.out, ← Bool.or_assoc, HQ.out]; rfl)
                    go_wp2
                    go_roundw
                    case rel => exact ⟨k + 1, by omega, by rw [HN1.out], by go_num, trivial⟩
                    case measure => simp [intOf]; omega
                  | false =>
                    cases hE : (s.toList == t.toList) with
                    | true =>
                      have HN1 : Hid ((T0 || Td.hit (L.take (k + 1)) s) = !true) := Lib.hid (by rw [HST.out, ← Bool.or_assoc, HQ.out, hE]; rfl)
                      go_wp2
                      go_roundw
                      case rel => exact ⟨k + 1, by omega, by rw [HN1.out]; rfl, by go_num, trivial⟩
                      case measure => simp [intOf]; omega
                    | false =>
                      have HN1 : Hid ((T0 || Td.hit (L.take (k + 1)) s) = false) := Lib.hid (by rw [HST.out, ← Bool.or_assoc, HQ.out, hE]; rfl)
                      go_wp2
                      go_roundw
                      case rel => exact ⟨k + 1, by omega, by rw [HN1.out], by go_num, trivial⟩
                      case measure => simp [intOf]; omega
                · obtain rfl : k = i := by omega
                  go_wp2
                  go_roundw
                  case rel => exact ⟨k + 1, _, _, by omega, by rw [HOKS.out, HOS.out]; rfl, by rw [HTW.out], by go_num, HO10, HG10, HX10, HB10⟩
                  case measure => simp [intOf]; omega
            | false =>
              go_wp2_with fail
              refine (trName_any _ s hss).mono ?_
              rintro e wn ⟨rfl, rfl⟩
              rw [HNB.out]
              go_wp2
              go_loopw [7, 11, 56] (fun tv x11 kv wr' => ∃ k : Nat, k ≤ i ∧ tv = .bool (T0 || Td.hit (L.take k) s) ∧ kv = .int .i64 (k : Int) ∧ wr' = w10) (fun _ _ kv _ => i - (intOf kv).toNat)
              case atStart => exact ⟨0, Nat.zero_le _, by simp [Td.hit], rfl, rfl⟩
              case round =>
                obtain ⟨k, hk, rfl, rfl, rfl⟩ := hrel
                by_cases hkl : k < i
                · obtain ⟨t, hlt3, hct⟩ := HTX.out k (by omega)
                  have HST : Hid (Td.hit (L.take (k + 1)) s = (Td.hit (L.take k) s || ((s.toList == t.toList) && !false))) := Lib.hid (by
                    obtain ⟨hh, e⟩ := List.getElem?_eq_some_iff.1 hlt3
                    rw [List.take_succ_eq_append_getElem hh, e, hit_snoc, hM, Bool.beq_comm])
                  obtain ⟨Q, hQ⟩ : ∃ Q, (T0 || Td.hit (L.take k) s) = Q := ⟨_, rfl⟩
                  have HQ := Lib.hid hQ
                  rw [hQ]
                  have hki : (k : Int) < (i : Int) := by omega
                  have hk0 : (0 : Int) ≤ (k : Int) := by omega
                  clear hQ hlt3
                  cases Q with
                  | true =>
                    have HN1 : Hid ((T0 || Td.hit (L.take (k + 1)) s) = true) := Lib.hid (by rw [HST.out, ← Bool.or_assoc, HQ.out]; rfl)
                    go_wp2
                    go_roundw
                    case rel => exact ⟨k + 1, by omega, by rw [HN1.out], by go_num, trivial⟩
                    case measure => simp [intOf]; omega
                  | false =>
                    cases hE : (s.toList == t.toList) with
                    | true =>
                      have HN1 : Hid ((T0 || Td.hit (L.take (k + 1)) s) = !false) := Lib.hid (by rw [HST.out, ← Bool.or_assoc, HQ.out, hE]; rfl)
                      go_wp2
                      go_roundw
                      case rel => exact ⟨k + 1, by omega, by rw [HN1.out]; rfl, by go_num, trivial⟩
                      case measure => simp [intOf]; omega
                    | false =>
                      have HN1 : Hid ((T0 || Td.hit (L.take (k + 1)) s) = false) := Lib.hid (by rw [HST.out, ← Bool.or_assoc, HQ.out, hE]; rfl)
                      go_wp2
                      go_roundw
                      case rel => exact ⟨k + 1, by omega, by rw [HN1.out], by go_num, trivial⟩
                      case measure => simp [intOf]; omega
                · obtain rfl : k = i := by omega
                  go_wp2
                  go_roundw
                  case rel => exact ⟨k + 1, _, _, by omega, by rw [HOKS.out, HOS.out]; rfl, by rw [HTW.out], by go_num, HO10, HG10, HX10, HB10⟩
                  case measure => simp [intOf]; omega)
      · obtain rfl : i = N := by omega
        have hlen : L.length = i := HN.out
        have htk : L.take i = L := by rw [← hlen, List.take_length]
        rw [htk] at HG
        rw [htk]
        obtain ⟨g, cap, cur, rfl, hg1, hg2, hg3, hg4, hg5, hg6⟩ : ∃ g cap cur, u = .slice (some ⟨g, 0, none⟩) i cap ∧ B + 1 ≤ g ∧ wr.heap[g]? = some (.cells cur 25 (0, 0)) ∧ i ≤ cap ∧ cap ≤ maxLen ∧ cur.size = cap * 8 ∧ cur.toList.take (i * 8) = X.flatten := by
          rcases HO.out.2 with ⟨_, e0⟩ | h
          · omega
          · exact h
        have hfl : X.flatten.length = i * 8 := HO.out.1
        have hcur : ∀ j, j < X.flatten.length → cur[j]? = X.flatten[j]? := fun j hj => by
          rw [← hg6, List.getElem?_take, if_pos (by omega)]; simp
        have HR := Lib.hid (NdIs.row (k := 7) (num := 0) (mn := 0) (mx := 0) (set := []) (name := ⟨#[]⟩) (lz := false) (vs := .slice none 0 0) (cap := cap) HG.out.is hg2 hcur (by rw [Td.grps_len]; omega) ⟨by unfold I64; omega, i64_0, i64_0, i64_0⟩ (RRow.nil _) (Nat.zero_le _))
        rw [Td.grps_len, hlen] at HR
        have HG2 := Lib.hid hg2
        have HCUR := Lib.hid hcur
        have HSZ : Hid (X.flatten.length ≤ cur.size) := Lib.hid (by rw [hg5, hfl]; omega)
        have HCK := Lib.hid (Td.check_grps L (by omega))
        rw [hlen] at HCK
        obtain ⟨CK, hCK⟩ : ∃ CK, Td.checkN (Td.catG (Td.grpsF none 0 L)) = CK := ⟨_, rfl⟩
        have HCE := Lib.hid hCK
        rw [hCK] at HCK
        obtain ⟨F, hF⟩ : ∃ F, L.all Td.okS = F := ⟨_, rfl⟩
        obtain ⟨T, hT⟩ : ∃ T, Td.twL L i = T := ⟨_, rfl⟩
        rw [hF, hT] at HCK
        rw [hF, hT]
        clear hcur hg2 hg5 hg6 hfl htk hCK hF hT HO
        have hgl : g < wr.heap.size := (Array.getElem?_eq_some_iff.1 HG2.out).1
        have hBl : B < wr.heap.size := (Array.getElem?_eq_some_iff.1 HX.out).1
        have b0 := blkc HX.out 0
        have b1 := blkc HX.out 1
        have b2 := blkc HX.out 2
        have b3 := blkc HX.out 3
        have b4 := blkc HX.out 4
        have b5 := blkc HX.out 5
        have b6 := blkc HX.out 6
        have b7 := blkc HX.out 7
        simp only [List.getElem?_toArray, List.getElem?_cons_zero, List.getElem?_cons_succ] at b0 b1 b2 b3 b4 b5 b6 b7
        go_wp2_with fail
        refine (trCheck_any wr (Td.catG (Td.grpsF none 0 L)) _ HR.out (Td.len_catG none L 0 (by omega))).mono ?_
        rintro e w3 ⟨rfl, hb3⟩
        rw [HCE.out]
        have HB3 := Lib.hid (HB.out.trans (hb3.mono HB.out.size))
        have HX3 := Lib.hid ((hb3.block _ hBl).trans HX.out)
        have HG3 := Lib.hid (HG.out.kept hb3.size (fun b hb hl => hb3.block b hl))
        have HGB3 := Lib.hid ((hb3.block _ hgl).trans HG2.out)
        clear hb3 b0 b1 b2 b3 b4 b5 b6 b7 HX HG HB HR
        have hHCK : ((CK = 0) ↔ (F = true ∧ T = false ∧ i ≤ 31)) := by
          have h := HCK.out
          constructor
          · intro e; subst e; cases F <;> cases T <;> simp_all
          · rintro ⟨rfl, rfl, h31⟩
            simp [h31] at h
            exact h
        clear HCK
        rcases (by
          by_cases hc : CK = 0
          · obtain ⟨rfl, rfl, h31⟩ := hHCK.1 hc
            exact .inl ⟨hc, rfl, rfl, by omega⟩
          · have hn : ¬ (F = true ∧ T = false ∧ i ≤ 31) := fun h => hc (hHCK.2 h)
            cases F with
            | false => exact .inr (.inl ⟨hc, rfl⟩)
            | true =>
              cases T with
              | true => exact .inr (.inr (.inl ⟨hc, rfl, rfl⟩))
              | false => exact .inr (.inr (.inr ⟨hc, rfl, rfl, by have : ¬ i ≤ 31 := fun h => hn ⟨rfl, rfl, h⟩; omega, by have h5 : ¬ i ≤ 31 := fun h => hn ⟨rfl, rfl, h⟩; have h6 : ¬ (i : Int) ≤ 31 := (by omega); simp [hc, h6]⟩)) : (CK = 0 ∧ F = true ∧ T = false ∧ (i : Int) ≤ 31) ∨ (¬ CK = 0 ∧ F = false) ∨ (¬ CK = 0 ∧ F = true ∧ T = true) ∨ (¬ CK = 0 ∧ F = true ∧ T = false ∧ ¬ (i : Int) ≤ 31 ∧ (CK == 0) = decide ((i : Int) ≤ 31))) with ⟨hc, rfl, rfl, h31⟩ | ⟨hc, rfl⟩ | ⟨hc, rfl, rfl⟩ | ⟨hc, rfl, rfl, h31, hcd⟩
        all_goals (
          clear hHCK
          go_wp2_with fail
          refine (below_any _ odd (i : Int) (by omega) (by omega) ho2).mono ?_
          rintro e w4 ⟨k, rfl, hk, hw4⟩
          subst hw4
          obtain ⟨hc1, hn1⟩ := odd_world HG3.out (fun b hb => by have := hb.2.1; simp only [Value.ownBlock] at this; exact fun e => this (by rw [e])) HGB3.out HCUR.out HSZ.out (k := k) (by rw [HN.out]; omega) (by rw [HN.out]; omega) cap
          rw [HN.out] at hn1
          have b0 := blkc HX3.out 0
          have b1 := blkc HX3.out 1
          have b2 := blkc HX3.out 2
          have b3 := blkc HX3.out 3
          have b4 := blkc HX3.out 4
          have b5 := blkc HX3.out 5
          have b6 := blkc HX3.out 6
          have b7 := blkc HX3.out 7
          simp only [List.getElem?_toArray, List.getElem?_cons_zero, List.getElem?_cons_succ] at b0 b1 b2 b3 b4 b5 b6 b7
          have fg : w3.frozen? ⟨g, k * 8 + 2, none⟩ = false := by simp [World.frozen?, HGB3.out]
          have hw5 : IntKind.i64.wrap ((k : Int) + 1 + 5) = (k : Int) + 6 := by rw [IntKind.wrap_i64]; omega
          have hk0 : (0 : Int) ≤ (k : Int) := by omega
          have hki : (k : Int) < (i : Int) := hk
          obtain ⟨w5, hw5e⟩ : ∃ w5, w3.setCell ⟨g, k * 8 + 2, none⟩ (.int .i64 ((k : Int) + 6)) = w5 := ⟨_, rfl⟩
          rw [hw5e] at hn1
          have HN5 := Lib.hid hn1
          have hx5 : w5.heap[B]? = w3.heap[B]? := by rw [← hw5e]; exact heap_setCell_other _ _ _ _ (by show B ≠ g; omega)
          have HX5 := Lib.hid (hx5.trans HX3.out)
          have HB5 : Hid (Below W.heap.size W w5) := Lib.hid (by rw [← hw5e]; exact HB3.out.setCell (p := ⟨g, k * 8 + 2, none⟩) (by show W.heap.size ≤ g; omega) _)
          have HW5 := Lib.hid hw5e
          clear hn1 hx5 hw5e
          go_wp2_with fail
          rw [HW5.out]
          refine (trCheck_any w5 (Td.catG (Td.grpsF (some k) 0 L)) _ HN5.out (Td.len_catG (some k) L 0 (by rw [HN.out]; omega))).mono ?_
          rintro e w6 ⟨rfl, hb6⟩
          have hodd := Td.check_odd L (by rw [HN.out]; omega) k (by rw [HN.out]; omega)
          obtain ⟨CO, hCO⟩ : ∃ CO, Td.checkN (Td.catG (Td.grpsF (some k) 0 L)) = CO := ⟨_, rfl⟩
          rw [hCO] at hodd ⊢
          have hne : (CO != 0) = true := by simpa using hodd
          have HB6 := Lib.hid (HB5.out.trans (hb6.mono HB5.out.size))
          have hx6 := (hb6.block _ (Array.getElem?_eq_some_iff.1 HX5.out).1).trans HX5.out
          have HN6 := Lib.hid (HN5.out.kept hb6)
          clear b0 b1 b2 b3 b4 b5 b6 b7 hb6 hCO fg hc1
          have b0 := blkc hx6 0
          have b1 := blkc hx6 1
          have b2 := blkc hx6 2
          have b3 := blkc hx6 3
          have b4 := blkc hx6 4
          have b5 := blkc hx6 5
          have b6 := blkc hx6 6
          have b7 := blkc hx6 7
          simp only [List.getElem?_toArray, List.getElem?_cons_zero, List.getElem?_cons_succ] at b0 b1 b2 b3 b4 b5 b6 b7
          go_wp2_with fail
          refine (trGroups_any w6 (Td.catG (Td.grpsF (some k) 0 L)) _ HN6.out (Td.len_catG (some k) L 0 (by rw [HN.out]; omega))).mono ?_
          rintro e w7 ⟨gv, rfl, hgo, hb7⟩
          rw [Td.groups_catG] at hgo
          have HB7 := Lib.hid (HB6.out.trans (hb7.mono HB6.out.size))
          have HGO := Lib.hid hgo
          have HRO := Lib.hid (HROW.out.below (Nat.le_refl _) HB7.out)
          clear hgo hb7 b0 b1 b2 b3 b4 b5 b6 b7
          go_wp2_with fail
          refine (same_txt_in w7 _ gv _ L HGO.out HRO.out).mono ?_
          rintro e w8 ⟨rfl, hb8⟩
          have HB8 := Lib.hid (HB7.out.trans (hb8.mono HB7.out.size))
          clear hb8
          go_wp2
          go_ret
          exact ⟨rfl, HB8.out⟩)
end Go.Proofs.Ythhijakclinjaaa
