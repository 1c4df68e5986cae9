/- The landed verify: New and the methods of a checked program. -/
import Derived.Test.YtchcjinaagncjaaDoorGp18
import Derived.Test.YtchcjinaagncjaaDoorGp20
namespace Go.Proofs.YtchcjinaagncjaaDoor
open Go.RowKit
set_option linter.unusedVariables false
set_option linter.unusedSimpArgs false
namespace Pgm
/-- A checked program in memory. -/
structure CkOn (w : World) (G : Nat) (v : Value) (l : List In) (st sl : Int) (base : Nat) : Prop where
  cell : w.heap[G]? = some (.cells #[v, .int .i64 st, .int .i64 sl] 91 (0, 0))
  own : InOwn w base v l
  lo : base ≤ G
  ok : chkV l st sl = 0
theorem chkV_ok {l : List In} {st sl : Int} (h : chkV l st sl = 0) : Ok l st sl ∧ tgB l st = true ∧ slB l sl = true ∧ (ordF l).length = l.length := by
  unfold chkV at h
  split at h
  · rename_i h1
    split at h
    · rename_i h2
      split at h
      · rename_i h3
        split at h
        · cases h
        · have := (ordF_inv l).len
          exact ⟨h1, h2, h3, by omega⟩
      · cases h
    · cases h
  · cases h
theorem fit_bd {i : In} (h : Fit i) : i.bd := by
  unfold Fit at h
  have : ∀ z : Int, -1 ≤ z → z ≤ 4000 → I64 z := fun z h1 h2 => ⟨by omega, by omega⟩
  rcases h with h | h | h | h | h <;> exact ⟨this _ (by omega) (by omega), this _ (by omega) (by omega), this _ (by omega) (by omega), this _ (by omega) (by omega), this _ (by omega) (by omega)⟩
theorem ok_bd {l : List In} {st sl : Int} (h : Ok l st sl) : ∀ i ∈ l, i.bd := fun i hi => fit_bd ((fitB_iff i).1 (List.all_eq_true.1 h.2.2.2.2.2.2 i hi))
theorem CkOn.row {w : World} {G : Nat} {v : Value} {l : List In} {st sl : Int} {base : Nat} (h : CkOn w G v l st sl base) : InRow w v l := by
  have hk := (chkV_ok h.ok).1
  exact h.own.row (by have := hk.2.1; omega) (ok_bd hk)
theorem CkOn.keep {w w' : World} {G : Nat} {v : Value} {l : List In} {st sl : Int} {base : Nat} (h : CkOn w G v l st sl base) (hG : w'.heap[G]? = w.heap[G]?) (hv : ∀ g, v.ownBlock = some g → w'.heap[g]? = w.heap[g]?) : CkOn w' G v l st sl base := ⟨hG.trans h.cell, in_keep h.own hv, h.lo, h.ok⟩
theorem CkOn.lt {w : World} {G : Nat} {v : Value} {l : List In} {st sl : Int} {base : Nat} (h : CkOn w G v l st sl base) : G < w.heap.size := (Array.getElem?_eq_some_iff.1 h.cell).1
theorem CkOn.below {w w' : World} {G : Nat} {v : Value} {l : List In} {st sl : Int} {base n : Nat} (h : CkOn w G v l st sl base) (hb : Below n w w') (hn : w.heap.size ≤ n) : CkOn w' G v l st sl base :=
  h.keep (hb.block G (Nat.lt_of_lt_of_le h.lt hn)) fun g e => hb.block g (Nat.lt_of_lt_of_le (h.own.lt g e).2 hn)
set_option maxRecDepth 100000 in
set_option maxHeartbeats 8000000 in
theorem new_no (l : List In) (st sl : Int) (vs : Value) (W : World) (hr : InRow W vs l) (hE : EvV W) (hc : chkV l st sl ≠ 0) :
    Calls Tryd.prog 18 #[.agg #[vs, .int .i64 st, .int .i64 sl]] W fun e w' => e = .returned (.tuple #[.pointer none, .int .i64 (chkV l st sl)]) ∧ Below W.heap.size W w' := by
  obtain ⟨W1, hW1⟩ : ∃ W1, W.alloc (.cells #[vs, .int .i64 st, .int .i64 sl] 46) = W1 := ⟨_, rfl⟩
  have hx1 : W1.heap[W.heap.size]? = some (.cells #[vs, .int .i64 st, .int .i64 sl] 46 (0, 0)) := by rw [← hW1]; exact heap_alloc_new W _
  have hb1 : Below W.heap.size W W1 := by rw [← hW1]; exact (Below.refl _ _).alloc (Nat.le_refl _) _
  have HCK := Lib.hid (vcheck_any l st sl vs W1 (hr.below (Nat.le_refl _) hb1) (hE.below (Nat.le_refl _) hb1))
  have c0 := blkp hx1 0
  have c1 := blkp hx1 1
  have c2 := blkp hx1 2
  simp only [List.getElem?_toArray, List.getElem?_cons_zero, List.getElem?_cons_succ] at c0 c1 c2
  have HB1 := Lib.hid hb1
  have HW1 := Lib.hid hW1
  obtain ⟨a, cap, rfl, -⟩ := hr
  obtain ⟨n, hn⟩ : ∃ n, l.length = n := ⟨_, rfl⟩
  rw [hn] at c0 HW1 HCK ⊢
  obtain ⟨Z, hZ⟩ : ∃ Z, chkV l st sl = Z := ⟨_, rfl⟩
  rw [hZ] at HCK hc ⊢
  have hc2 : ¬ Z = 0 := hc
  clear hW1 hx1 hb1 hE hn hZ hc
  go_enter Tryd.func18, Tryd.ntmps18
  go_wp2_with fail
  rw [HW1.out]
  refine HCK.out.mono ?_
  rintro e w2 ⟨rfl, hb2⟩
  have HB2 := Lib.hid (HB1.out.trans (hb2.mono HB1.out.size))
  clear hb2 c0 c1 c2
  go_wp2
  go_ret2
  exact ⟨rfl, HB2.out⟩
set_option maxRecDepth 100000 in
set_option maxHeartbeats 8000000 in
theorem new_yes (l : List In) (st sl : Int) (vs : Value) (W : World) (hr : InRow W vs l) (hE : EvV W) (hc : chkV l st sl = 0) :
    Calls Tryd.prog 18 #[.agg #[vs, .int .i64 st, .int .i64 sl]] W fun e w' => ∃ G v, e = .returned (.tuple #[.pointer (some ⟨G, 0, none⟩), .int .i64 0]) ∧ CkOn w' G v l st sl W.heap.size ∧ Below W.heap.size W w' := by
  obtain ⟨W1, hW1⟩ : ∃ W1, W.alloc (.cells #[vs, .int .i64 st, .int .i64 sl] 46) = W1 := ⟨_, rfl⟩
  have hx1 : W1.heap[W.heap.size]? = some (.cells #[vs, .int .i64 st, .int .i64 sl] 46 (0, 0)) := by rw [← hW1]; exact heap_alloc_new W _
  have hb1 : Below W.heap.size W W1 := by rw [← hW1]; exact (Below.refl _ _).alloc (Nat.le_refl _) _
  have hck := vcheck_any l st sl vs W1 (hr.below (Nat.le_refl _) hb1) (hE.below (Nat.le_refl _) hb1)
  rw [hc] at hck
  have HCK := Lib.hid hck
  have hk := (chkV_ok hc).1
  have HCP := Lib.hid (fun w (h : Below W.heap.size W w) => copied_any l st sl vs w (hr.below (Nat.le_refl _) h) hk.1 hk.2.1)
  have HOK := Lib.hid hc
  have c0 := blkp hx1 0
  have c1 := blkp hx1 1
  have c2 := blkp hx1 2
  simp only [List.getElem?_toArray, List.getElem?_cons_zero, List.getElem?_cons_succ] at c0 c1 c2
  have HB1 := Lib.hid hb1
  have HX1 := Lib.hid hx1
  have HW1 := Lib.hid hW1
  obtain ⟨a, cap, rfl, -⟩ := hr
  obtain ⟨n, hn⟩ : ∃ n, l.length = n := ⟨_, rfl⟩
  have HN := Lib.hid hn
  rw [hn] at c0 HW1 HCK HX1 HCP ⊢
  clear hW1 hx1 hb1 hE hn hc hck hk
  go_enter Tryd.func18, Tryd.ntmps18
  go_wp2_with fail
  rw [HW1.out]
  refine HCK.out.mono ?_
  rintro e w2 ⟨rfl, hb2⟩
  have HB2 := Lib.hid (HB1.out.trans (hb2.mono HB1.out.size))
  have hx2 := (hb2.block W.heap.size (Array.getElem?_eq_some_iff.1 HX1.out).1).trans HX1.out
  have d0 := blkp hx2 0
  have d1 := blkp hx2 1
  have d2 := blkp hx2 2
  simp only [List.getElem?_toArray, List.getElem?_cons_zero, List.getElem?_cons_succ] at d0 d1 d2
  clear hb2 c0 c1 c2 hx2
  go_wp2_with fail
  refine (HCP.out w2 HB2.out).mono ?_
  rintro e w3 ⟨v3, rfl, ho3, hb3⟩
  obtain ⟨a3, d3, e3⟩ := ho3.slice
  rw [HN.out] at e3
  subst e3
  have HO3 := Lib.hid ho3
  have HB3 := Lib.hid (HB2.out.trans (hb3.mono HB2.out.size))
  clear hb3 ho3 d0 d1 d2
  go_wp2
  go_ret2
  have hb4 : Below w3.heap.size w3 (w3.alloc (.cells #[.slice a3 n d3, .int .i64 st, .int .i64 sl] 91)) := (Below.refl _ _).alloc (Nat.le_refl _) _
  refine ⟨_, _, rfl, ⟨heap_alloc_new w3 _, in_keep (HO3.out.mono ?_) fun g e => hb4.block g (HO3.out.lt g e).2, HB3.out.size, HOK.out⟩, HB3.out.trans (hb4.mono HB3.out.size)⟩
  have := HB2.out.size
  omega
section
variable {w : World} {G : Nat} {v : Value} {l : List In} {st sl : Int} {base : Nat}
theorem CkOn.facts (h : CkOn w G v l st sl base) : ∃ a c, v = .slice a l.length c ∧ w.cell? ⟨G, 0, none⟩ = some (.slice a l.length c) ∧ w.cell? ⟨G, 1, none⟩ = some (.int .i64 st) ∧ w.cell? ⟨G, 2, none⟩ = some (.int .i64 sl) := by
  obtain ⟨a, c, e⟩ := h.own.slice
  have hc := h.cell
  have c0 := blkp hc 0
  have c1 := blkp hc 1
  have c2 := blkp hc 2
  simp only [List.getElem?_toArray, List.getElem?_cons_zero, List.getElem?_cons_succ] at c0 c1 c2
  exact ⟨a, c, e, e ▸ c0, c1, c2⟩
set_option maxRecDepth 100000 in
set_option maxHeartbeats 4000000 in
theorem vlen_any (h : CkOn w G v l st sl base) : Calls Tryd.prog 25 #[.pointer (some ⟨G, 0, none⟩)] w fun e w' => e = .returned (.int .i64 (l.length : Nat)) ∧ w' = w := by
  obtain ⟨a, c, rfl, c0, c1, c2⟩ := h.facts
  obtain ⟨n, hn⟩ : ∃ n, l.length = n := ⟨_, rfl⟩
  rw [hn] at c0 ⊢
  clear h hn
  go_enter Tryd.func25, Tryd.ntmps25
  go_wp2
  go_ret
  exact ⟨rfl, rfl⟩
set_option maxRecDepth 100000 in
set_option maxHeartbeats 4000000 in
theorem vstart_any (h : CkOn w G v l st sl base) : Calls Tryd.prog 26 #[.pointer (some ⟨G, 0, none⟩)] w fun e w' => e = .returned (.int .i64 st) ∧ w' = w := by
  obtain ⟨a, c, rfl, c0, c1, c2⟩ := h.facts
  clear h
  go_enter Tryd.func26, Tryd.ntmps26
  go_wp2
  go_ret
  exact ⟨rfl, rfl⟩
set_option maxRecDepth 100000 in
set_option maxHeartbeats 4000000 in
theorem vslots_any (h : CkOn w G v l st sl base) : Calls Tryd.prog 27 #[.pointer (some ⟨G, 0, none⟩)] w fun e w' => e = .returned (.int .i64 sl) ∧ w' = w := by
  obtain ⟨a, c, rfl, c0, c1, c2⟩ := h.facts
  clear h
  go_enter Tryd.func27, Tryd.ntmps27
  go_wp2
  go_ret
  exact ⟨rfl, rfl⟩
set_option maxRecDepth 100000 in
set_option maxHeartbeats 4000000 in
theorem vorder_any (h : CkOn w G v l st sl base) (hE : EvV w) : Calls Tryd.prog 28 #[.pointer (some ⟨G, 0, none⟩)] w fun e w' => ∃ u, e = .returned u ∧ IOwn w' w.heap.size u ((ordF l).map Int.ofNat) ∧ Below w.heap.size w w' := by
  obtain ⟨hk1, hk2, hk3, hk4⟩ := chkV_ok h.ok
  have HO := Lib.hid (order_any l v w h.row (tg_of hk1 hk2).1 hk1.2.1 hE.2)
  obtain ⟨a, c, rfl, c0, c1, c2⟩ := h.facts
  obtain ⟨n, hn⟩ : ∃ n, l.length = n := ⟨_, rfl⟩
  rw [hn] at c0 HO
  clear h hn hk1 hk2 hk3 hk4 hE
  go_enter Tryd.func28, Tryd.ntmps28
  go_wp2_with fail
  refine HO.out.mono ?_
  rintro e w2 ⟨u, rfl, ho, hb⟩
  have HU := Lib.hid ho
  have HB := Lib.hid hb
  clear ho hb c0 c1 c2
  go_wp2
  go_ret
  exact ⟨u, rfl, HU.out, HB.out⟩
set_option maxRecDepth 100000 in
set_option maxHeartbeats 4000000 in
theorem vreached_any (h : CkOn w G v l st sl base) : Calls Tryd.prog 29 #[.pointer (some ⟨G, 0, none⟩)] w fun e w' => ∃ u, e = .returned u ∧ IOwn w' w.heap.size u ((rchL l st.toNat).map Int.ofNat) ∧ Below w.heap.size w w' := by
  obtain ⟨hk1, hk2, hk3, hk4⟩ := chkV_ok h.ok
  obtain ⟨t1, t2, t3⟩ := tg_of hk1 hk2
  obtain ⟨s, hs⟩ : ∃ s : Nat, st = (s : Int) := ⟨st.toNat, by omega⟩
  have hr := h.row
  obtain ⟨a, c, rfl, c0, c1, c2⟩ := h.facts
  subst hs
  have HO := Lib.hid (reached_any l s sl _ w hr t1 hk1.2.1 (by omega))
  obtain ⟨n, hn⟩ : ∃ n, l.length = n := ⟨_, rfl⟩
  rw [hn] at c0 HO
  rw [Int.toNat_natCast]
  clear h hn hk1 hk2 hk3 hk4 t1 t2 t3 hr
  go_enter Tryd.func29, Tryd.ntmps29
  go_wp2_with fail
  refine HO.out.mono ?_
  rintro e w2 ⟨u, rfl, ho, hb⟩
  have HU := Lib.hid ho
  have HB := Lib.hid hb
  clear ho hb c0 c1 c2
  go_wp2
  go_ret
  exact ⟨u, rfl, HU.out, HB.out⟩
set_option maxRecDepth 100000 in
set_option maxHeartbeats 4000000 in
theorem vprog_any (h : CkOn w G v l st sl base) : Calls Tryd.prog 23 #[.pointer (some ⟨G, 0, none⟩)] w fun e w' => ∃ u, e = .returned (.agg #[u, .int .i64 st, .int .i64 sl]) ∧ InOwn w' w.heap.size u l ∧ Below w.heap.size w w' := by
  obtain ⟨hk1, hk2, hk3, hk4⟩ := chkV_ok h.ok
  obtain ⟨W1, hW1⟩ : ∃ W1, w.alloc (.cells #[.slice none 0 0, .int .i64 0, .int .i64 0] 46) = W1 := ⟨_, rfl⟩
  have hx1 : W1.heap[w.heap.size]? = some (.cells #[.slice none 0 0, .int .i64 0, .int .i64 0] 46 (0, 0)) := by rw [← hW1]; exact heap_alloc_new w _
  have hb1 : Below w.heap.size w W1 := by rw [← hW1]; exact (Below.refl _ _).alloc (Nat.le_refl _) _
  have hs1 : W1.heap.size = w.heap.size + 1 := by rw [← hW1]; simp
  have h1 := h.below hb1 (Nat.le_refl _)
  have hcp := copied_any l st sl v W1 h1.row hk1.1 hk1.2.1
  obtain ⟨a, c, rfl, f0, f1, f2⟩ := h.facts
  obtain ⟨n, hn⟩ : ∃ n, l.length = n := ⟨_, rfl⟩
  have HN := Lib.hid hn
  rw [hn] at f0 hcp
  have HCP := Lib.hid hcp
  have HX1 := Lib.hid hx1
  have HB1 := Lib.hid hb1
  have HW1 := Lib.hid hW1
  have HS1 := Lib.hid hs1
  have hG := h.lt
  have hne : ¬ G = w.heap.size := by omega
  clear h h1 hn hk1 hk2 hk3 hk4 hW1 hx1 hb1 hs1 hcp
  go_enter Tryd.func23, Tryd.ntmps23
  go_wp2_with fail
  rw [HW1.out]
  refine HCP.out.mono ?_
  rintro e w2 ⟨u, rfl, ho, hb⟩
  obtain ⟨a3, d3, e3⟩ := ho.slice
  rw [HN.out] at e3
  subst e3
  have hs1 := HS1.out
  have hx2 := (hb.block w.heap.size (by omega)).trans HX1.out
  have HO := Lib.hid ho
  have HB := Lib.hid (HB1.out.trans (hb.mono HB1.out.size))
  have HX2 := Lib.hid hx2
  have y0 := blkp hx2 0
  have y1 := blkp hx2 1
  have y2 := blkp hx2 2
  have g0 : w2.frozen? ⟨w.heap.size, 0, none⟩ = false := by simp [World.frozen?, hx2]
  have g1 : w2.frozen? ⟨w.heap.size, 1, none⟩ = false := by simp [World.frozen?, hx2]
  have g2 : w2.frozen? ⟨w.heap.size, 2, none⟩ = false := by simp [World.frozen?, hx2]
  simp only [List.getElem?_toArray, List.getElem?_cons_zero, List.getElem?_cons_succ] at y0 y1 y2
  clear ho hb hx2 f0 f1 f2 hs1
  go_wp2
  have k2 := blk3_set _ w.heap.size _ _ _ (.slice a3 n d3) 0 _ HX2.out
  have k3 := heap_setCell_same _ w.heap.size 1 _ _ (.int .i64 st) k2
  have k4 := heap_setCell_same _ w.heap.size 2 _ _ (.int .i64 sl) k3
  have kb : ∀ b, b ≠ w.heap.size → (((w2.setCell ⟨w.heap.size, 0, none⟩ (.slice a3 n d3)).setCell ⟨w.heap.size, 1, none⟩ (.int .i64 st)).setCell ⟨w.heap.size, 2, none⟩ (.int .i64 sl)).heap[b]? = w2.heap[b]? := fun b h2 => by
    rw [heap_setCell_other _ ⟨w.heap.size, 2, none⟩ b _ h2, heap_setCell_other _ ⟨w.heap.size, 1, none⟩ b _ h2, heap_setCell_other _ ⟨w.heap.size, 0, none⟩ b _ h2]
  have ho := HO.out
  refine ret_cell rfl w.heap.size #[.slice a3 n d3, .int .i64 st, .int .i64 sl] Tryd.underlying46 (by kernel_rfl) rfl k4 rfl ?_
  refine ⟨_, rfl, in_keep (ho.mono ?_) fun g e => kb g ?_, (((HB.out.setCell (p := ⟨w.heap.size, 0, none⟩) (Nat.le_refl _) _).setCell (p := ⟨w.heap.size, 1, none⟩) (Nat.le_refl _) _).setCell (p := ⟨w.heap.size, 2, none⟩) (Nat.le_refl _) _)⟩
  · have := HS1.out; omega
  · have h1 := (ho.lt g e).1
    have := HS1.out
    omega
theorem infoInst5 : (Tryd.prog.info? 60).map (·.size) = some 5 := by kernel_rfl
set_option maxRecDepth 100000 in
set_option maxHeartbeats 4000000 in
theorem vinst_out (at_ : Int) (h : CkOn w G v l st sl base) (ha : at_ < 0 ∨ (l.length : Int) ≤ at_) : Calls Tryd.prog 33 #[.pointer (some ⟨G, 0, none⟩), .int .i64 at_] w fun e w' => e = .returned (.agg #[.int .i64 0, .int .i64 0, .int .i64 0, .int .i64 0, .int .i64 0]) ∧ Below w.heap.size w w' := by
  obtain ⟨a, c, rfl, f0, f1, f2⟩ := h.facts
  have hG := h.lt
  have hne : ¬ G = w.heap.size := by omega
  obtain ⟨n, hn⟩ : ∃ n, l.length = n := ⟨_, rfl⟩
  rw [hn] at f0 ha
  clear h hn
  by_cases h1 : at_ < 0
  · clear ha
    go_enter Tryd.func33, Tryd.ntmps33
    go_wp2
    refine ret_cell rfl w.heap.size #[.int .i64 0, .int .i64 0, .int .i64 0, .int .i64 0, .int .i64 0] Tryd.underlying60 infoInst5 rfl (heap_alloc_new w _) rfl ?_
    exact ⟨rfl, (Below.refl _ _).alloc (Nat.le_refl _) _⟩
  · have h2 : (n : Int) ≤ at_ := by omega
    clear ha
    go_enter Tryd.func33, Tryd.ntmps33
    go_wp2
    refine ret_cell rfl w.heap.size #[.int .i64 0, .int .i64 0, .int .i64 0, .int .i64 0, .int .i64 0] Tryd.underlying60 infoInst5 rfl (heap_alloc_new w _) rfl ?_
    exact ⟨rfl, (Below.refl _ _).alloc (Nat.le_refl _) _⟩
set_option maxRecDepth 100000 in
set_option maxHeartbeats 4000000 in
theorem vinst_in (k : Nat) (h : CkOn w G v l st sl base) (i : In) (hi : l[k]? = some i) : Calls Tryd.prog 33 #[.pointer (some ⟨G, 0, none⟩), .int .i64 (k : Int)] w fun e w' => e = .returned (.agg #[.int .i64 i.op, .int .i64 i.lo, .int .i64 i.hi, .int .i64 i.x, .int .i64 i.y]) ∧ Below w.heap.size w w' := by
  have hkl : k < l.length := (List.getElem?_eq_some_iff.1 hi).1
  have h4 := (chkV_ok h.ok).1.2.1
  obtain ⟨a0, c0, e0, -, -, hcc⟩ := h.row
  obtain ⟨b, off, rfl, hbl, hq⟩ := hcc k hkl
  have hlk : l[k] = i := by rw [List.getElem?_eq_getElem hkl] at hi; exact Option.some.inj hi
  rw [hlk] at hq
  have q0 := hq 0 (by omega)
  have q1 := hq 1 (by omega)
  have q2 := hq 2 (by omega)
  have q3 := hq 3 (by omega)
  have q4 := hq 4 (by omega)
  simp only [In.cs, List.getElem?_cons_zero, List.getElem?_cons_succ, Nat.add_zero] at q0 q1 q2 q3 q4
  subst e0
  obtain ⟨a, c, e, f0, f1, f2⟩ := h.facts
  injection e with e1 e2 e3
  subst e1
  have hG := h.lt
  have hne : ¬ G = w.heap.size := by omega
  have hne2 : ¬ b = w.heap.size := by omega
  obtain ⟨n, hn⟩ : ∃ n, l.length = n := ⟨_, rfl⟩
  rw [hn] at f0 hkl h4
  have k0 : (0 : Int) ≤ (k : Int) := by omega
  have k1 : (k : Int) < (n : Int) := by omega
  have k2 : ¬ (n : Int) ≤ (k : Int) := by omega
  have k3 : ¬ (k : Int) < 0 := by omega
  clear h hn hcc hq hlk hi e2 e3
  go_enter Tryd.func33, Tryd.ntmps33
  go_wp2
  refine ret_cell rfl w.heap.size #[.int .i64 i.op, .int .i64 i.lo, .int .i64 i.hi, .int .i64 i.x, .int .i64 i.y] Tryd.underlying60 infoInst5 rfl (heap_alloc_new w _) rfl ?_
  exact ⟨rfl, (Below.refl _ _).alloc (Nat.le_refl _) _⟩
end
end Pgm
end Go.Proofs.YtchcjinaagncjaaDoor
