/- burinlaw10.ShowLong, walked. -/
import Derived.Test.YtdcielcniboloaaDoorGp26
import Derived.Test.YtdcielcniboloaaDoorGp27
import Derived.Deep.RegionHeld3
import Derived.Deep.RegionLaw
import Derived.Deep.AppendLies
namespace Go.Proofs.YtdcielcniboloaaDoor
open Go.RowKit
set_option linter.unusedVariables false
theorem Tryd.infoNodeS : (Tryd.prog.info? 25).map (fun i => (i.zero, i.size, i.bytes)) = some (some (.agg #[.int .i64 0, .slice none 0 0, .int .i64 0, .string ⟨#[]⟩, .int .i64 0, .int .i64 0, .bool false, .slice none 0 0]), 8, 104) := by kernel_rfl
theorem Tryd.underNodesS : Tryd.prog.underlying 23 = some (.slice 25) := by kernel_rfl
/-- So many letters, one behind the other. -/
def repN (k : Nat) : Nd := .mk 7 [] 0 ⟨#[]⟩ 0 0 false (List.replicate k (letN 97))
theorem all_rep (k : Nat) : Td.all 1000 1 (repN k) = (1, repN k) :: List.replicate k (2, letN 97) := by
  have e : ∀ j, (List.replicate j (letN 97)).flatMap (Td.all 999 2) = List.replicate j (2, letN 97) := by
    intro j
    induction j with
    | zero => rfl
    | succ j ih => rw [List.replicate_succ, List.flatMap_cons, ih, List.replicate_succ]; rfl
  rw [Td.all]
  show (1, repN k) :: (List.replicate k (letN 97)).flatMap (Td.all 999 2) = _
  rw [e]
theorem dep_rep (k : Nat) : Td.dep 1001 (repN k) ≤ 2 := by
  rw [Td.dep]
  have h := Td.foldl_max_le ((Td.subs (repN k)).map (Td.dep 1000)) 0 1 (fun x hx => by
    obtain ⟨m, hm, rfl⟩ := List.mem_map.1 hx
    have e : m = letN 97 := List.eq_of_mem_replicate hm
    rw [e]
    exact Nat.le_of_eq rfl) (by omega)
  omega
theorem fits_rep (k : Nat) (hk : 2 ≤ k) : Td.fitsB (repN k) = true := by
  rw [Td.told7 (.inl rfl)]
  show (decide (2 ≤ (((List.replicate k (letN 97)).length : Nat) : Int)) && Td.sameB 1000 (.mk 7 [] 0 ⟨#[]⟩ 0 0 false []) (Td.zeroN 7)) = true
  rw [Td.same_zero, isE0, List.length_replicate, decide_eq_true (by omega)]; rfl
theorem chk_lets : ∀ (k : Nat), Td.chkF [] (List.replicate k (2, letN 97)) = 0
  | 0 => rfl
  | k + 1 => by
    rw [List.replicate_succ, Td.chkF, if_neg (by rw [fits_let 97 (by omega)]; decide), if_pos (by decide)]
    exact chk_lets k
theorem chk_rep (k : Nat) (hk : 2 ≤ k) : Td.checkN (repN k) = 0 := by
  unfold Td.checkN
  have := dep_rep k
  rw [if_neg (by omega), all_rep, Td.chkF, if_neg (by rw [fits_rep k hk]; decide), if_pos (by show (7 : Int) ≠ 6; decide)]
  exact chk_lets k
theorem sh_rep (k : Nat) : (Sh.shL 1000 (repN k)).length = k := by
  rw [show (1000 : Nat) = 999 + 1 from rfl, sh_seven 999 (repN k) rfl]
  have e : ∀ j, ((List.replicate j (letN 97)).flatMap (Sh.partL 999 7)).length = j := by
    intro j
    induction j with
    | zero => rfl
    | succ j ih =>
      rw [List.replicate_succ, List.flatMap_cons, List.length_append, ih, show (Sh.partL 999 7 (letN 97)).length = 1 from by decide +kernel]
      omega
  exact e k
theorem is_rep {k : Nat} (hk : 2 ≤ k) {T : ByteArray} {c : Int} (h : ShowIs (repN k) T c) : (k ≤ 4096 ∧ c = 0 ∧ T.size = k) ∨ (4096 < k ∧ c = 2 ∧ T = ⟨#[]⟩) := by
  rcases h with ⟨h, _⟩ | ⟨_, h⟩
  · exact absurd (chk_rep k hk) h
  rcases h with ⟨h1, h2, h3⟩ | ⟨h1, h2, h3⟩
  · rw [sh_rep] at h1
    refine .inl ⟨h1, h3, ?_⟩
    rw [← Utf.nums_length, h2, sh_rep]
  · rw [sh_rep] at h1
    exact .inr ⟨h1, h3, h2⟩
/-- The blocks that the letters may lie in. -/
def LtS (B : Nat) (v : Value) (W : World) (b : Nat) : Prop := b ≠ B ∧ some b ≠ v.ownBlock ∧ b < W.heap.size
theorem lt_on {W : World} {c : Int} {q : Nat} (h : NdIs W (letN c) [.int .i64 3, .slice (some ⟨q, 0, none⟩) 1 1, .int .i64 0, .string ⟨#[]⟩, .int .i64 0, .int .i64 0, .bool false, .slice none 0 0]) : NdOn (· = q) W (letN c) [.int .i64 3, .slice (some ⟨q, 0, none⟩) 1 1, .int .i64 0, .string ⟨#[]⟩, .int .i64 0, .int .i64 0, .bool false, .slice none 0 0] := by
  obtain ⟨vs, a, cap, C, hC⟩ := h.cells
  have hset := hC.set
  have e := hC.eq
  simp only [List.cons.injEq, and_true] at e
  obtain ⟨_, e1, _⟩ := e
  rw [← e1] at hset
  exact .mk (fun _ => []) hC.bd ⟨hset, fun g off len cap e _ => by injection e with e; injection e with e; injection e with e; exact e.symm⟩ (Nat.zero_le _) (by simp) (fun j hj => absurd hj (by simp)) (fun j hj => absurd hj (by simp))
theorem lt_lt {W : World} {c : Int} {q : Nat} (h : NdIs W (letN c) [.int .i64 3, .slice (some ⟨q, 0, none⟩) 1 1, .int .i64 0, .string ⟨#[]⟩, .int .i64 0, .int .i64 0, .bool false, .slice none 0 0]) : q < W.heap.size := by
  obtain ⟨vs, a, cap, C, hC⟩ := h.cells
  have hset := hC.set
  have e := hC.eq
  simp only [List.cons.injEq, and_true] at e
  obtain ⟨_, e1, _⟩ := e
  rw [← e1] at hset
  obtain ⟨a', c', hv, _, _, h3⟩ := hset
  injection hv with hv _ _
  obtain ⟨b, off, ha, hb, _⟩ := h3 0 (by show 0 < 1; omega)
  rw [← hv] at ha
  injection ha with ha; injection ha with ha _ _
  rw [ha]; exact hb
set_option maxRecDepth 100000 in
set_option maxHeartbeats 8000000 in
theorem walkShowLong (W : World) (many : Int) (hm : (Lit.int .i64 many).wf = true) (hE : EvS W) : Calls Tryd.prog 4 #[.int .i64 many] W fun e w' => e = .returned (.bool true) ∧ Below W.heap.size W w' := by
  have mixed : Tryd.prog.follows .mixedOrders = true := by kernel_rfl
  obtain ⟨i0, hi0, hz0, hz1, hz2⟩ := info_parts Tryd.infoNodeS
  have hm2 : I64 many := by
    have q1 : IntKind.i64.min = -9223372036854775808 := rfl
    have q2 : IntKind.i64.max = 9223372036854775807 := rfl
    simp [Lit.wf, q1, q2] at hm
    exact hm
  have i97 : I64 97 := by unfold I64; omega
  have HE := Lib.hid hE
  clear hE hm
  go_enter Tryd.func4, Tryd.ntmps4
  go_wp2_with fail
  refine (works10_any W HE.out).mono ?_
  rintro e w0 ⟨rfl, hb0⟩
  have HB0 := Lib.hid hb0
  clear hb0
  go_wp2_with fail
  refine (below_any w0 many 201 (by omega) (by omega) hm2).mono ?_
  rintro e w1 ⟨k, rfl, hk, rfl⟩
  obtain ⟨N, hN⟩ : ∃ N : Nat, (4000 : Int) + (k : Int) = (N : Int) := ⟨4000 + k, by omega⟩
  have hN0 : 4000 ≤ N := by omega
  have hN1 : N ≤ 4200 := by omega
  have HX := Lib.hid (heap_alloc_new w0 (.cells #[.int .i64 7, .slice none 0 0, .int .i64 0, .string ⟨#[]⟩, .int .i64 0, .int .i64 0, .bool false, .slice none 0 0] 25))
  obtain ⟨W1, hW1⟩ : ∃ W1, w0.alloc (.cells #[.int .i64 7, .slice none 0 0, .int .i64 0, .string ⟨#[]⟩, .int .i64 0, .int .i64 0, .bool false, .slice none 0 0] 25) = W1 := ⟨_, rfl⟩
  have HB1 : Hid (Below W.heap.size W W1) := Lib.hid (by rw [← hW1]; exact HB0.out.alloc HB0.out.size _)
  have hs1 : W1.heap.size = w0.heap.size + 1 := by rw [← hW1]; simp
  have hBW : W.heap.size ≤ w0.heap.size := HB0.out.size
  obtain ⟨B, hBe⟩ : ∃ B, w0.heap.size = B := ⟨_, rfl⟩
  rw [hW1, hBe] at HX
  rw [hBe] at hs1 hBW
  have HW1 := Lib.hid hW1
  have HS1 := Lib.hid hs1
  have HBE := Lib.hid hBe
  clear hW1 hs1 hBe
  go_wp2
  rw [HW1.out, HBE.out]
  go_loopw [14] (fun iv wr => ∃ (i : Nat) (u : Value) (X : List (List Value)), i ≤ N ∧ iv = .int .i64 (i : Int) ∧
      Hid (wr.ownsRow (B + 1) 25 8 u i X.flatten) ∧ Hid (NdsOn (LtS B u wr) wr (List.replicate i (letN 97)) X) ∧ Hid (wr.heap[B]? = some (.cells #[.int .i64 7, .slice none 0 0, .int .i64 0, .string ⟨#[]⟩, .int .i64 0, .int .i64 0, .bool false, u] 25 (0, 0))) ∧ Hid (Below W.heap.size W wr)) (fun iv _ => N - (intOf iv).toNat)
  case atStart => exact ⟨0, .slice none 0 0, [], Nat.zero_le _, rfl, Lib.hid (World.ownsRow_nil _ _ _ _), Lib.hid (NdsOn.nil _ _), HX, HB1⟩
  case round =>
    obtain ⟨i, u, X, hi, rfl, HO, HG, HX, HB⟩ := hrel
    by_cases hlt : i < N
    · have b7 := blkc HX.out 7
      simp only [List.getElem?_toArray, List.getElem?_cons_zero, List.getElem?_cons_succ] at b7
      have f7 : wr.frozen? ⟨B, 7, none⟩ = false := by simp [World.frozen?, HX.out]
      have hBl : B < wr.heap.size := (Array.getElem?_eq_some_iff.1 HX.out).1
      obtain ⟨ua, uc, hu⟩ : ∃ ua uc, u = .slice ua i uc := by
        rcases HO.out.2 with ⟨e, e0⟩ | ⟨g', cap', cur', e, _⟩
        · exact ⟨none, 0, by rw [e, e0]⟩
        · exact ⟨_, _, e⟩
      subst hu
      have k1 : (i : Int) < (N : Int) := by omega
      go_wp2
      have HBX := Lib.hid HX.out
      have HX8 : Hid (∀ w8, Below wr.heap.size wr w8 → w8.heap[B]? = some (.cells #[.int .i64 7, .slice none 0 0, .int .i64 0, .string ⟨#[]⟩, .int .i64 0, .int .i64 0, .bool false, .slice ua i uc] 25 (0, 0))) := Lib.hid (fun w8 hb => (hb.block _ hBl).trans HBX.out)
      have HC8 : Hid (∀ w8, Below wr.heap.size wr w8 → w8.cell? ⟨B, 7, none⟩ = some (.slice ua i uc)) := Lib.hid (fun w8 hb => by
        have := blkc (HX8.out w8 hb) 7
        simpa using this)
      have HO8 : Hid (∀ w8, Below wr.heap.size wr w8 → w8.ownsRow (B + 1) 25 8 (.slice ua i uc) i X.flatten) := Lib.hid (fun w8 hb => World.ownsRow.kept HO.out (grown_below hb) (by cases hv : (Value.slice ua i uc).ownBlock <;> simp))
      have hbs : B + 1 ≤ wr.heap.size := by omega
      have HNE : Hid (some B ≠ (Value.slice ua i uc).ownBlock) := Lib.hid (by
        rcases HO.out.2 with ⟨e, e0⟩ | ⟨g', cap', cur', e, hg', _⟩
        · rw [e]; simp [Value.ownBlock]
        · rw [e]; simp [Value.ownBlock]; omega)
      have HDR := Lib.hid (show Below wr.heap.size wr wr.drew from below_drewNr (Below.refl _ _) 1)
      go_region_law (first
        | (go_simp; go_at_call 10; refine (let10_any _ 97 i97).mono ?_; rintro e w8 ⟨rfl, hn8, hb8⟩; have HN8 : Hid (NdIs w8 (letN 97) [.int .i64 3, .slice (some ⟨wr.heap.size + 1, 0, none⟩) 1 1, .int .i64 0, .string ⟨#[]⟩, .int .i64 0, .int .i64 0, .bool false, .slice none 0 0]) := Lib.hid hn8; have HB8 : Hid (Below wr.heap.size wr w8) := Lib.hid (HDR.out.trans hb8); have hc8 := HC8.out w8 HB8.out; have hz8 := HB8.out.size; have HLT8 : Hid (wr.heap.size + 1 < w8.heap.size) := Lib.hid (lt_lt HN8.out); have hd8 := HC8.out _ (HB8.out.alloc hz8 (.cells #[.int .i64 3, .slice (some ⟨wr.heap.size + 1, 0, none⟩) 1 1, .int .i64 0, .string ⟨#[]⟩, .int .i64 0, .int .i64 0, .bool false, .slice none 0 0] 25)); clear hn8 hb8)
        | (refine step_append_lies _ rfl _ _ 23 rfl (B + 1) 25 i0 _ 8 104 Tryd.underNodesS hi0 hz0 hz1 hz2 rfl (by decide) _ i X.flatten rfl ((HO8.out _ HB8.out).alloc _) ⟨w8.heap.size, 0, none⟩ 1 1 [.int .i64 3, .slice (some ⟨wr.heap.size + 1, 0, none⟩) 1 1, .int .i64 0, .string ⟨#[]⟩, .int .i64 0, .int .i64 0, .bool false, .slice none 0 0] rfl rfl (World.news_of_block (heap_alloc_new w8 (.cells #[.int .i64 3, .slice (some ⟨wr.heap.size + 1, 0, none⟩) 1 1, .int .i64 0, .string ⟨#[]⟩, .int .i64 0, .int .i64 0, .bool false, .slice none 0 0] 25))) (by simp [Value.oneCell']) (by omega) (by unfold maxLen; omega) (by omega) (by simp; omega) (w8.heap.size + 1) (by simp) ?_; intro g9 cap9 w9 hown9 hgrow9 hat9 hlt9; have HOWN9 : Hid (w9.ownsRow (B + 1) 25 8 (.slice (some ⟨g9, 0, none⟩) (i + 1) cap9) (i + 1) (X.flatten ++ [.int .i64 3, .slice (some ⟨wr.heap.size + 1, 0, none⟩) 1 1, .int .i64 0, .string ⟨#[]⟩, .int .i64 0, .int .i64 0, .bool false, .slice none 0 0])) := Lib.hid hown9; have HGROW9 : Hid ((w8.alloc (.cells #[.int .i64 3, .slice (some ⟨wr.heap.size + 1, 0, none⟩) 1 1, .int .i64 0, .string ⟨#[]⟩, .int .i64 0, .int .i64 0, .bool false, .slice none 0 0] 25)).grownBy w9 (Value.slice ua i uc).ownBlock) := Lib.hid hgrow9; have HAT9 : Hid ((Value.slice ua i uc).ownBlock = some g9 ∨ g9 = w8.heap.size + 1) := Lib.hid hat9; have hx9 := (hgrow9.block B (by simp; omega) HNE.out).trans (HX8.out _ (HB8.out.alloc HB8.out.size _)); have hc9 : w9.cell? ⟨B, 7, none⟩ = some (.slice ua i uc) := (by have := blkc hx9 7; simpa using this); have hf9 : w9.frozen? ⟨B, 7, none⟩ = false := (by simp [World.frozen?, hx9]); have HX9 := Lib.hid hx9; clear hown9 hgrow9 hat9 hx9))
      all_goals (
        have hwr8 := HB8.out.size
        have hlt8 := HLT8.out
        have hsz9 := HGROW9.out.size
        simp only [World.size_alloc] at hsz9
        have HOL : Hid (∀ k, (Value.slice ua i uc).ownBlock = some k → B + 1 ≤ k ∧ k < wr.heap.size) := Lib.hid (fun k e => by
          rcases HO.out.2 with ⟨e1, e0⟩ | ⟨g', cap', cur', e1, hg', hgb, _⟩
          · rw [e1] at e; simp [Value.ownBlock] at e
          · rw [e1] at e; simp [Value.ownBlock] at e; subst e; exact ⟨hg', (Array.getElem?_eq_some_iff.1 hgb).1⟩)
        have hg9 : B + 1 ≤ g9 ∧ (∀ b, some b ≠ (Value.slice ua i uc).ownBlock → b < w8.heap.size + 1 → b ≠ g9) := by
          rcases HAT9.out with e | e
          · exact ⟨(HOL.out _ e).1, fun b hb _ e2 => hb (by rw [e2, e])⟩
          · exact ⟨by omega, fun b _ hl e2 => by omega⟩
        obtain ⟨w10, hw10⟩ : ∃ w10, w9.setCell ⟨B, 7, none⟩ (.slice (some ⟨g9, 0, none⟩) (i + 1) cap9) = w10 := ⟨_, rfl⟩
        have hk10 : ∀ b, b ≠ B → some b ≠ (Value.slice ua i uc).ownBlock → b < w8.heap.size + 1 → w10.heap[b]? = (w8.alloc (.cells #[.int .i64 3, .slice (some ⟨wr.heap.size + 1, 0, none⟩) 1 1, .int .i64 0, .string ⟨#[]⟩, .int .i64 0, .int .i64 0, .bool false, .slice none 0 0] 25)).heap[b]? := fun b h1 h2 h3 => by
          rw [← hw10, heap_setCell_other _ _ _ _ (by exact h1)]
          exact HGROW9.out.block b (by simp; omega) h2
        have hs10 : w10.heap.size = w9.heap.size := by rw [← hw10]; simp
        have hb10 : Below W.heap.size W w10 := by
          rw [← hw10]
          exact (((HB.out.trans (HB8.out.mono HB.out.size)).alloc (by have := HB.out.size; omega) _).grown HGROW9.out (by have := HB.out.size; simp; omega) (fun k hk => by have := HOL.out k hk; omega)).setCell (p := ⟨B, 7, none⟩) hBW _
        have hx10 : w10.heap[B]? = some (.cells #[.int .i64 7, .slice none 0 0, .int .i64 0, .string ⟨#[]⟩, .int .i64 0, .int .i64 0, .bool false, .slice (some ⟨g9, 0, none⟩) (i + 1) cap9] 25 (0, 0)) := by
          rw [← hw10]
          have h9 := heap_setCell_same w9 B 7 _ _ (.slice (some ⟨g9, 0, none⟩) (i + 1) cap9) HX9.out
          simpa using h9
        have ho10 : w10.ownsRow (B + 1) 25 8 (.slice (some ⟨g9, 0, none⟩) (i + 1) cap9) (i + 1) (X ++ [([.int .i64 3, .slice (some ⟨wr.heap.size + 1, 0, none⟩) 1 1, .int .i64 0, .string ⟨#[]⟩, .int .i64 0, .int .i64 0, .bool false, .slice none 0 0] : List Value)]).flatten := by
          rw [← hw10, List.flatten_append]
          exact ownsRow_setCell_below HOWN9.out (by simp) _
        have hlk : ∀ b, b < w8.heap.size → (w8.alloc (.cells #[.int .i64 3, .slice (some ⟨wr.heap.size + 1, 0, none⟩) 1 1, .int .i64 0, .string ⟨#[]⟩, .int .i64 0, .int .i64 0, .bool false, .slice none 0 0] 25)).heap[b]? = w8.heap[b]? := fun b hb => Below.heap_alloc _ _ _ hb
        have hS : ∀ b, LtS B (.slice ua i uc) wr b → LtS B (.slice (some ⟨g9, 0, none⟩) (i + 1) cap9) w10 b := fun b hb => ⟨hb.1, by
          simp only [Value.ownBlock]; intro e; injection e with e; exact hg9.2 b hb.2.1 (by have := hb.2.2; omega) e, by have := hb.2.2; omega⟩
        have hold : NdsOn (LtS B (.slice (some ⟨g9, 0, none⟩) (i + 1) cap9) w10) w10 (List.replicate i (letN 97)) X :=
          (HG.out.kept (by omega) (fun b hb hl => (hk10 b hb.1 hb.2.1 (by omega)).trans ((hlk b (by omega)).trans (HB8.out.block b hl)))).mono hS
        have hnl : ∀ b, wr.heap.size ≤ b → some b ≠ (Value.slice ua i uc).ownBlock := fun b hb e => by have := (HOL.out b e.symm).2; omega
        have hq1 : LtS B (.slice (some ⟨g9, 0, none⟩) (i + 1) cap9) w10 (wr.heap.size + 1) := ⟨by omega, by
          simp only [Value.ownBlock]; intro e; injection e with e; exact hg9.2 _ (hnl _ (by omega)) (by omega) e, by omega⟩
        have hlet : NdOn (LtS B (.slice (some ⟨g9, 0, none⟩) (i + 1) cap9) w10) w10 (letN 97) [.int .i64 3, .slice (some ⟨wr.heap.size + 1, 0, none⟩) 1 1, .int .i64 0, .string ⟨#[]⟩, .int .i64 0, .int .i64 0, .bool false, .slice none 0 0] :=
          ((lt_on HN8.out).kept (by omega) (fun b hb hl => by subst hb; exact (hk10 _ (by omega) (hnl _ (by omega)) (by omega)).trans (hlk _ hl))).mono (fun b hb => by subst hb; exact hq1)
        have hnew : NdsOn (LtS B (.slice (some ⟨g9, 0, none⟩) (i + 1) cap9) w10) w10 (List.replicate (i + 1) (letN 97)) (X ++ [([.int .i64 3, .slice (some ⟨wr.heap.size + 1, 0, none⟩) 1 1, .int .i64 0, .string ⟨#[]⟩, .int .i64 0, .int .i64 0, .bool false, .slice none 0 0] : List Value)]) := by
          rw [List.replicate_succ']
          exact hold.snoc hlet
        have HX10 := Lib.hid hx10
        have HO10 := Lib.hid ho10
        have HG10 := Lib.hid hnew
        have HB10 := Lib.hid hb10
        rw [hw10]
        clear hw10 hx10 ho10 hnew hb10 hlet hq1 hnl hold hS hlk hk10 hs10 hg9 hsz9 hwr8 hlt8 HLT8 HOL HAT9 HGROW9 HOWN9 HX9 HN8 HB8 HG HO HX HBX HX8 HC8 HO8 b7 f7 hc8 hd8 hc9 hf9 hz8
        go_wp2
        go_roundw
        case rel => exact ⟨i + 1, _, _, by omega, by go_num, HO10, HG10, HX10, HB10⟩
        case measure => simp [intOf]; omega)
    · obtain rfl : i = N := by omega
      obtain ⟨g, cap, cur, rfl, hg1, hg2, hg3, hg4, hg5, hg6⟩ : ∃ g cap cur, u = .slice (some ⟨g, 0, none⟩) i cap ∧ B + 1 ≤ g ∧ wr.heap[g]? = some (.cells cur 25 (0, 0)) ∧ i ≤ cap ∧ cap ≤ maxLen ∧ cur.size = cap * 8 ∧ cur.toList.take (i * 8) = X.flatten := by
        rcases HO.out.2 with ⟨_, e0⟩ | h
        · omega
        · exact h
      have hfl : X.flatten.length = i * 8 := HO.out.1
      have hcur : ∀ j, j < X.flatten.length → cur[j]? = X.flatten[j]? := fun j hj => by
        rw [← hg6, List.getElem?_take, if_pos (by omega)]; simp
      have HR := Lib.hid (NdIs.row (k := 7) (num := 0) (mn := 0) (mx := 0) (set := []) (name := ⟨#[]⟩) (lz := false) (vs := .slice none 0 0) (cap := cap) HG.out.is hg2 hcur (by rw [List.length_replicate]; omega) ⟨by unfold I64; omega, i64_0, i64_0, i64_0⟩ (RRow.nil _) (Nat.zero_le _))
      rw [List.length_replicate] at HR
      clear hcur hg2 hg5 hg6 hfl HO HG
      obtain ⟨b0, b1, b2, b3, b4, b5, b6, b7⟩ := box_cells HX.out
      have hal : (Td.all 1000 1 (repN i)).length ≤ 1000000 := by rw [all_rep, List.length_cons, List.length_replicate]; omega
      go_wp2_with fail
      refine (show_any wr (repN i) _ HR.out (HE.out.below (Nat.le_refl _) HB.out) hal).mono ?_
      rintro e w3 ⟨T, c, rfl, hT, hb3⟩
      have HB3 := Lib.hid (HB.out.trans (hb3.mono HB.out.size))
      clear hb3 b0 b1 b2 b3 b4 b5 b6 b7 hal
      rcases is_rep (by omega) hT with ⟨h1, rfl, h2⟩ | ⟨h1, rfl, rfl⟩
      · have h3 : ¬ (4096 : Int) < (i : Int) := by omega
        have h4 : ((T.size : Int) == (i : Int)) = true := by rw [beq_iff_eq]; omega
        clear hT
        go_wp2
        go_ret
        exact ⟨rfl, HB3.out⟩
      · have h3 : (4096 : Int) < (i : Int) := by omega
        clear hT
        go_wp2
        go_ret
        exact ⟨rfl, HB3.out⟩
end Go.Proofs.YtdcielcniboloaaDoor
