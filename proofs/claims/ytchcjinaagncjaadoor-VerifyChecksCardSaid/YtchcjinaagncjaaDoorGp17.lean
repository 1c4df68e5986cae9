/- burinbook.SpoilInsts. · The landed verify: copies of programs. -/
import Derived.Test.YtchcjinaagncjaaDoorGp4
import Derived.Test.YtchcjinaagncjaaDoorGp12
import Derived.Laws.OwnMore
import Derived.Lib.SliceRun
namespace Go.Proofs.YtchcjinaagncjaaDoor
open Go.RowKit
set_option linter.unusedVariables false
namespace Pgm
set_option maxRecDepth 100000 in
set_option maxHeartbeats 1000000 in
theorem spoili_nil (W : World) :
    Calls Tryd.prog 22 #[.slice none 0 0] W fun e w' => e = .returned (.tuple #[]) ∧ Below W.heap.size W w' := by
  go_enter Tryd.func22, Tryd.ntmps22
  go_wp2
  refine wp_loop_rounds 1 ?_
  rw [rounds_succ]
  go_wp2
  exact ⟨rfl, .tuple #[], by simp [results, Tryd.func22, go_sem], And.intro rfl (Below.refl _ _)⟩
end Pgm
end Go.Proofs.YtchcjinaagncjaaDoor
namespace Go.Proofs.YtchcjinaagncjaaDoor
open Go.RowKit
set_option linter.unusedVariables false
set_option linter.unusedSimpArgs false
namespace Pgm
theorem in_keep {w w' : World} {base : Nat} {v : Value} {l : List In} (h : InOwn w base v l) (hk : ∀ g, v.ownBlock = some g → w'.heap[g]? = w.heap[g]?) : InOwn w' base v l := by
  refine ⟨h.1, ?_⟩
  rcases h.2 with e | ⟨g, cap, cur, e, h1, h2, h3⟩
  · exact .inl e
  · exact .inr ⟨g, cap, cur, e, h1, (hk g (by rw [e]; rfl)).trans h2, h3⟩
/-- A result that is a struct in a box. -/
theorem ret_cell {fn : Func} {p : Tmp} {ty : TypeId} {fs : Array Field} {R : Ending → World → Prop} {a : Act} {w : World} (h : fn.results = #[.cell p ty]) (g : Nat) (cs : Array Value) (hu : Tryd.prog.underlying ty = some (.struct fs)) (hi : (Tryd.prog.info? ty).map (·.size) = some cs.size)
    (hp : a.tmps.getD p undef = .pointer (some ⟨g, 0, none⟩)) (hg : w.heap[g]? = some (.cells cs ty (0, 0))) (hd : a.defers = [])
    (hR : R (.returned (.agg cs)) w) : bodyPost Tryd.prog fn R .ret a w := by
  have hl : (loadVar ty ⟨g, 0, none⟩).run Tryd.prog w = .ok (.agg cs) w := run_loadVar_row w g _ _ cs _ _ hg hu rfl hi
  refine ⟨hd, _, ?_, hR⟩
  have hp' : a.tmps[p]?.getD undef = .pointer (some ⟨g, 0, none⟩) := by simpa using hp
  simp [results, h, hp', asAddr, hl, Sem.run_bind]
set_option maxRecDepth 100000 in
set_option maxHeartbeats 4000000 in
theorem cloneIn_any (l : List In) (vs : Value) (W : World) (hr : InRow W vs l) (h0 : 1 ≤ l.length) (hN : l.length ≤ 4000) :
    Calls Tryd.prog 75 #[vs] W fun e w' => ∃ v, e = .returned v ∧ InOwn w' W.heap.size v l ∧ Below W.heap.size W w' := by
  obtain ⟨a, c, rfl, hl, hbd, hcs⟩ := hr
  obtain ⟨N, hNl⟩ : ∃ N, l.length = N := ⟨_, rfl⟩
  obtain ⟨b, off, rfl, hb, -⟩ := hcs 0 (by omega)
  have hc : ∀ j v, (l.flatMap In.cs)[j]? = some v → W.cell? ⟨b, off + j, none⟩ = some v := fun j v hv => by
    have hjl : j < l.length * 5 := by
      have := (List.getElem?_eq_some_iff.1 hv).1
      rwa [flatIn_len] at this
    obtain ⟨b', off', hab, hb', hq⟩ := hcs (j / 5) (by omega)
    injection hab with hab
    injection hab with e1 e2
    subst e1; subst e2
    have h1 := hq (j % 5) (by omega)
    have h2 := flatIn_at l (j / 5) l[j / 5] (j % 5) (List.getElem?_eq_getElem (by omega)) (by omega)
    have e : j / 5 * 5 + j % 5 = j := by omega
    rw [e] at h2
    rw [h2] at hv
    rw [show off + j / 5 * 5 + j % 5 = off + j by omega, hv] at h1
    exact h1
  have hz : (l.flatMap In.cs).length = N * 5 := by rw [flatIn_len, hNl]
  have h1 : ∀ v ∈ l.flatMap In.cs, v.oneCell' = true := fun v hv => by
    obtain ⟨i, _, hi⟩ := List.mem_flatMap.1 hv
    exact cs_one i v hi
  obtain ⟨i0, hi, hz0, hz1, hz2⟩ := info_parts infoInst
  obtain ⟨W1, hW1⟩ : ∃ W1, W.alloc (.cells #[] 60) = W1 := ⟨_, rfl⟩
  have hb1 : Below W.heap.size W W1 := by rw [← hW1]; exact (Below.refl _ _).alloc (Nat.le_refl _) _
  have hs1 : W1.heap.size = W.heap.size + 1 := by rw [← hW1]; simp
  have hown0 : W1.ownsRow W.heap.size 60 5 (.slice (some ⟨W.heap.size, 0, none⟩) 0 0) 0 [] := by
    rw [← hW1]
    have := World.ownsRow_lit (base := W.heap.size) (e := 60) (size := 5) W #[] 0 (Nat.le_refl _) (by unfold maxLen; omega) (by simp)
    simpa using this
  obtain ⟨gg, cap2, W2, hrun, hown, hgrow, hat, hlt2⟩ := run_append_lies (P := Tryd.prog) W1 44 44 W.heap.size 60 i0 _ 5 40 underInsts hi hz0 hz1 hz2 rfl (by omega) _ 0 [] hown0
    ⟨b, off, none⟩ N c (l.flatMap In.cs) hz (fun j u hu => by rw [Addr.add_lit]; exact (hb1.cell (p := ⟨b, off + j, none⟩) hb).trans (hc j u hu)) h1 (by omega) (by unfold maxLen; omega) (by omega) (by omega) _ rfl
  rw [Nat.zero_add, List.nil_append] at hown
  rw [Nat.zero_add] at hrun
  have hbel := hb1.trans ((Below.refl W.heap.size W1).grown hgrow (by omega) fun j ej => (World.ownsRow.lt hown0 j ej).1)
  rw [← hW1] at hrun
  have HRUN := Lib.hid hrun
  have HOWN : Hid (InOwn W2 W.heap.size (.slice (some ⟨gg, 0, none⟩) N cap2) l) := Lib.hid (by unfold InOwn; rw [hNl]; exact hown)
  have HB := Lib.hid hbel
  rw [hNl]
  clear hrun hown hbel hgrow hat hlt2 hown0 hs1 hb1 hW1 hc h1 hcs hz hbd hl
  have mixed : Tryd.prog.follows .mixedOrders = true := by kernel_rfl
  have qeq : ∀ (w : World) (a : Option Addr) (n c n' c' : Nat), (binOp .eql 44 (.slice a n c) (.slice none n' c')).run Tryd.prog w = .ok (.bool a.isNone) w := fun w a n c n' c' => Lib.run_eql_slice_nil w _ _ a n c n' c' underInsts
  go_enter Tryd.func75, Tryd.ntmps75
  go_wp2_with (at_builtin; (refine wpList_append_run rfl _ _ 44 rfl _ _ _ W2 rfl rfl HRUN.out ?_))
  go_ret
  exact ⟨_, rfl, HOWN.out, HB.out⟩
theorem blk3_set (w : World) (B : Nat) (u0 u1 u2 x : Value) (k : Nat) (t : TypeId) (h : w.heap[B]? = some (.cells #[u0, u1, u2] t (0, 0))) : (w.setCell ⟨B, k, none⟩ x).heap[B]? = some (.cells ((#[u0, u1, u2] : Array Value).setIfInBounds k x) t (0, 0)) := heap_setCell_same w B k _ _ _ h
set_option maxRecDepth 100000 in
set_option maxHeartbeats 8000000 in
theorem copied_any (l : List In) (st sl : Int) (vs : Value) (W : World) (hr : InRow W vs l) (h0 : 1 ≤ l.length) (hN : l.length ≤ 4000) :
    Calls Tryd.prog 48 #[.agg #[vs, .int .i64 st, .int .i64 sl]] W fun e w' => ∃ v, e = .returned (.agg #[v, .int .i64 st, .int .i64 sl]) ∧ InOwn w' (W.heap.size + 2) v l ∧ Below W.heap.size W w' := by
  obtain ⟨W1, hW1⟩ : ∃ W1, W.alloc (.cells #[vs, .int .i64 st, .int .i64 sl] 46) = W1 := ⟨_, rfl⟩
  have hx1 : W1.heap[W.heap.size]? = some (.cells #[vs, .int .i64 st, .int .i64 sl] 46 (0, 0)) := by rw [← hW1]; exact heap_alloc_new W _
  have hb1 : Below W.heap.size W W1 := by rw [← hW1]; exact (Below.refl _ _).alloc (Nat.le_refl _) _
  have hs1 : W1.heap.size = W.heap.size + 1 := by rw [← hW1]; simp
  obtain ⟨W2, hW2⟩ : ∃ W2, W1.alloc (.cells #[.slice none 0 0, .int .i64 0, .int .i64 0] 46) = W2 := ⟨_, rfl⟩
  have hx2 : W2.heap[W.heap.size]? = some (.cells #[vs, .int .i64 st, .int .i64 sl] 46 (0, 0)) := by rw [← hW2]; exact (Below.heap_alloc _ _ _ (by omega)).trans hx1
  have hy2 : W2.heap[W.heap.size + 1]? = some (.cells #[.slice none 0 0, .int .i64 0, .int .i64 0] 46 (0, 0)) := by rw [← hW2, ← hs1]; exact heap_alloc_new W1 _
  have hb2 : Below W.heap.size W W2 := by rw [← hW2]; exact hb1.alloc (by omega) _
  have hs2 : W2.heap.size = W.heap.size + 2 := by rw [← hW2]; simp [hs1]
  have HCL := Lib.hid (cloneIn_any l vs W2 (hr.below (Nat.le_refl _) hb2) h0 hN)
  have c0 := blkp hx2 0
  have c1 := blkp hx2 1
  have c2 := blkp hx2 2
  have y0 := blkp hy2 0
  have y1 := blkp hy2 1
  have y2 := blkp hy2 2
  simp only [List.getElem?_toArray, List.getElem?_cons_zero, List.getElem?_cons_succ] at c0 c1 c2 y0 y1 y2
  have HX2 := Lib.hid hx2
  have HY2 := Lib.hid hy2
  have HB2 := Lib.hid hb2
  have HW1 := Lib.hid hW1
  have HW2 := Lib.hid hW2
  have HS2 := Lib.hid hs2
  rw [hs2] at HCL
  obtain ⟨B, hB⟩ : ∃ B, W.heap.size = B := ⟨_, rfl⟩
  have HBS := Lib.hid hB
  obtain ⟨a, cap, rfl, -⟩ := hr
  obtain ⟨n, hn⟩ : ∃ n, l.length = n := ⟨_, rfl⟩
  have HN := Lib.hid hn
  rw [hn] at HCL HX2 HW1 c0
  rw [hn]
  rw [hB] at HCL HX2 HY2 HB2 HS2 c0 c1 c2 y0 y1 y2
  rw [hB]
  clear hW1 hW2 hx1 hx2 hy2 hb1 hb2 hs1 hs2 hB hn
  go_enter Tryd.func48, Tryd.ntmps48
  go_wp2_with fail
  rw [HW1.out, HW2.out, HBS.out]
  refine HCL.out.mono ?_
  rintro e w3 ⟨v3, rfl, ho3, hb3⟩
  obtain ⟨a3, d3, rfl⟩ := ho3.slice
  have hlt3 := ho3.lt
  have hs3 := hb3.size
  have hx3 := (hb3.block B (by omega)).trans HX2.out
  have hy3 := (hb3.block (B + 1) (by omega)).trans HY2.out
  have f0 : w3.frozen? ⟨B, 0, none⟩ = false := by simp [World.frozen?, hx3]
  have g0 : w3.frozen? ⟨B + 1, 0, none⟩ = false := by simp [World.frozen?, hy3]
  have g1 : w3.frozen? ⟨B + 1, 1, none⟩ = false := by simp [World.frozen?, hy3]
  have g2 : w3.frozen? ⟨B + 1, 2, none⟩ = false := by simp [World.frozen?, hy3]
  have d0 := blkp hx3 0
  have d1 := blkp hx3 1
  have d2 := blkp hx3 2
  have z0 := blkp hy3 0
  have z1 := blkp hy3 1
  have z2 := blkp hy3 2
  simp only [List.getElem?_toArray, List.getElem?_cons_zero, List.getElem?_cons_succ] at d0 d1 d2 z0 z1 z2
  have HX3 := Lib.hid hx3
  have HY3 := Lib.hid hy3
  have HO3 := Lib.hid ho3
  have HB3 := Lib.hid hb3
  have hne : ¬ B = B + 1 := by omega
  have HL3 := Lib.hid hlt3
  have hn3 : l.length = n := HN.out
  rw [HN.out]
  clear hx3 hy3 ho3 hb3 c0 c1 c2 y0 y1 y2 hlt3 hs3 hn3
  go_wp2
  have k1 : (w3.setCell ⟨B, 0, none⟩ (.slice a3 n d3)).heap[B + 1]? = some (.cells #[.slice none 0 0, .int .i64 0, .int .i64 0] 46 (0, 0)) := (heap_setCell_other w3 ⟨B, 0, none⟩ (B + 1) _ (by show ¬ B + 1 = B; omega)).trans HY3.out
  have k2 := blk3_set _ (B + 1) _ _ _ (.slice a3 n d3) 0 _ k1
  have k3 := heap_setCell_same _ (B + 1) 1 _ _ (.int .i64 st) k2
  have k4 := heap_setCell_same _ (B + 1) 2 _ _ (.int .i64 sl) k3
  have kb : ∀ b, b ≠ B → b ≠ B + 1 → ((((w3.setCell ⟨B, 0, none⟩ (.slice a3 n d3)).setCell ⟨B + 1, 0, none⟩ (.slice a3 n d3)).setCell ⟨B + 1, 1, none⟩ (.int .i64 st)).setCell ⟨B + 1, 2, none⟩ (.int .i64 sl)).heap[b]? = w3.heap[b]? := fun b h1 h2 => by
    rw [heap_setCell_other _ ⟨B + 1, 2, none⟩ b _ h2, heap_setCell_other _ ⟨B + 1, 1, none⟩ b _ h2, heap_setCell_other _ ⟨B + 1, 0, none⟩ b _ h2, heap_setCell_other _ ⟨B, 0, none⟩ b _ h1]
  have ho4 := HO3.out
  have hl4 := HL3.out
  rw [HN.out] at ho4 hl4
  refine ret_cell rfl (B + 1) #[.slice a3 n d3, .int .i64 st, .int .i64 sl] Tryd.underlying46 (by kernel_rfl) rfl k4 rfl ?_
  refine ⟨_, rfl, in_keep ho4 fun g e => ?_, ?_⟩
  · have := hl4 g e
    exact kb g (by omega) (by omega)
  · exact ((((HB2.out.trans (HB3.out.mono (by omega))).setCell (p := ⟨B, 0, none⟩) (Nat.le_refl _) _).setCell (p := ⟨B + 1, 0, none⟩) (Nat.le_succ _) _).setCell (p := ⟨B + 1, 1, none⟩) (Nat.le_succ _) _).setCell (p := ⟨B + 1, 2, none⟩) (Nat.le_succ _) _
end Pgm
end Go.Proofs.YtchcjinaagncjaaDoor
