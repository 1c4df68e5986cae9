/- The landed norm: core of a group, and of what has no parts. · The landed norm: core of a repetition, given repeat. -/
import Derived.Test.YthhdlcckboiecaaGp28
namespace Go.Proofs.Ythhdlcckboiecaa
open Go.RowKit
open Go.Proofs.Ythhdlcckboiecaa.Nm
set_option linter.unusedVariables false
set_option linter.unusedSimpArgs false
set_option maxRecDepth 100000 in
set_option maxHeartbeats 8000000 in
theorem core_6 (good : Nd → Prop) (f : Nd → Nd) (ih : CoreOk good f) (W : World) (n : Nd) (cs : List Value) (hn : NdIs W n cs) (hk : Td.kind n = 6) (hl : (Td.subs n).length = 1) (hg : ∀ m ∈ Td.subs n, good m) :
    Calls Try.prog 22 #[.agg cs.toArray] W fun e w' => ∃ cs' : List Value, e = .returned (.agg cs'.toArray) ∧ NwP (fun b => W.heap.size ≤ b) w' (.mk 6 [] (Td.num n) ⟨#[]⟩ 0 0 false ((Td.subs n).map f)) cs' ∧ Below W.heap.size W w' := by
  obtain ⟨vs, a, cap, C, hC⟩ := hn.cells
  obtain ⟨sa, sk, sc, rfl⟩ : ∃ a k c, vs = .slice a k c := by obtain ⟨a, c, h, -⟩ := hC.set; exact ⟨a, _, c, h⟩
  have hcs := hC.eq
  rw [hk] at hcs
  have hr : RowIs W a (Td.subs n) := fun j hj => hC.sub j hj
  have hbd := hC.bd
  subst hcs
  have HCO := Lib.hid (fun (w : World) (hw : Below W.heap.size W w) => cores_any good f ih w (Td.subs n) a cap (by omega) (hr.kept hw) hg)
  have HLN := Lib.hid hl
  have HBD := Lib.hid hbd
  rw [hl] at HCO ⊢
  obtain ⟨W1, hW1⟩ : ∃ W1, (W.alloc (.cells #[.int .i64 6, .slice sa sk sc, .int .i64 (Td.num n), .string (Td.name n), .int .i64 (Td.mn n), .int .i64 (Td.mx n), .bool (Td.lazy n), .slice a 1 cap] 25)).alloc (.cells #[.int .i64 0, .slice none 0 0, .int .i64 0, .string ⟨#[]⟩, .int .i64 0, .int .i64 0, .bool false, .slice none 0 0] 25) = W1 := ⟨_, rfl⟩
  have HB1 : Hid (Below W.heap.size W W1) := Lib.hid (by rw [← hW1]; exact ((Below.refl _ _).alloc (Nat.le_refl _) _).alloc (by simp) _)
  have HX1 : Hid (W1.heap[W.heap.size]? = some (.cells #[.int .i64 6, .slice sa sk sc, .int .i64 (Td.num n), .string (Td.name n), .int .i64 (Td.mn n), .int .i64 (Td.mx n), .bool (Td.lazy n), .slice a 1 cap] 25 (0, 0))) := Lib.hid (by
    rw [← hW1]
    exact (Below.heap_alloc _ _ _ (by simp)).trans (heap_alloc_new _ _))
  have HY1 : Hid (W1.heap[W.heap.size + 1]? = some (.cells #[.int .i64 0, .slice none 0 0, .int .i64 0, .string ⟨#[]⟩, .int .i64 0, .int .i64 0, .bool false, .slice none 0 0] 25 (0, 0))) := Lib.hid (by rw [← hW1]; exact alloc2_new _ _ _)
  have hs1 : W1.heap.size = W.heap.size + 2 := by rw [← hW1]; simp
  have HW1 := Lib.hid hW1
  clear hW1
  have hBlt : W.heap.size < W1.heap.size := by omega
  have hBlt1 : W.heap.size + 1 < W1.heap.size := by omega
  have HQ : Hid (∀ w, Below W1.heap.size W1 w → (w.cell? ⟨W.heap.size, 2, none⟩ = some (.int .i64 (Td.num n)) ∧ w.cell? ⟨W.heap.size, 7, none⟩ = some (.slice a 1 cap)) ∧ w.heap[W.heap.size + 1]? = some (.cells #[.int .i64 0, .slice none 0 0, .int .i64 0, .string ⟨#[]⟩, .int .i64 0, .int .i64 0, .bool false, .slice none 0 0] 25 (0, 0))) := Lib.hid (fun w hw => by
    have h1 := (hw.block _ hBlt).trans HX1.out
    obtain ⟨-, -, e2, -, -, -, -, e7⟩ := nbox_cells h1
    exact ⟨⟨e2, e7⟩, (hw.block _ hBlt1).trans HY1.out⟩)
  obtain ⟨⟨p2, p7⟩, -⟩ := HQ.out W1 (Below.refl _ _)
  rw [← HW1.out] at p2 p7
  have HCW := Lib.hid (HCO.out W1.drew HB1.out.drew)
  rw [← HW1.out] at HCW
  clear hr hC hn hg hbd ih
  go_enter Try.func22, Try.ntmps22
  go_wp2
  go_region_law (go_simp; go_at_call 34; refine HCW.out.mono ?_; rintro e w2 ⟨v, rfl, hown, hb2⟩; rw [HW1.out] at hown hb2; replace hb2 : Below W1.heap.size W1 w2 := (Below.refl W1.heap.size W1).drew.trans hb2; have HOW := Lib.hid hown; have HB2 : Hid (Below W1.heap.size W1 w2) := Lib.hid hb2; obtain ⟨⟨p2b, p7b⟩, hy⟩ := HQ.out w2 hb2; have HY2 := Lib.hid hy; obtain ⟨c0, c1, c2, c3, c4, c5, c6, c7⟩ := nbox_cells hy; have f0 := nbox_frozen hy 0; have f1 := nbox_frozen hy 1; have f2 := nbox_frozen hy 2; have f3 := nbox_frozen hy 3; have f4 := nbox_frozen hy 4; have f5 := nbox_frozen hy 5; have f6 := nbox_frozen hy 6; have f7 := nbox_frozen hy 7; obtain ⟨va, vc, hvs⟩ := hown.slice; rw [List.length_map, HLN.out] at hvs; subst hvs; clear hown hb2 hy)
  all_goals (
    have hs5 := HB2.out.size
    have HND : Hid (NwP (fun b => W1.heap.size ≤ b) w2 (.mk 6 [] (Td.num n) ⟨#[]⟩ 0 0 false ((Td.subs n).map f)) [.int .i64 6, .slice none 0 0, .int .i64 (Td.num n), .string ⟨#[]⟩, .int .i64 0, .int .i64 0, .bool false, .slice va 1 vc]) := Lib.hid (HOW.out.node (fun b hb => hb) (by rw [List.length_map, HLN.out]; omega) (by rw [List.length_map, HLN.out]; omega) ⟨by unfold I64; omega, HBD.out.2.1, by unfold I64; omega, by unfold I64; omega⟩ (Nat.zero_le _))
    go_wp2
    (try simp only [Exit.inBlock, Exit.then])
    refine ret_ndN rfl (W.heap.size + 1) _ rfl (set8_blk _ _ _ _ _ _ _ _ _ _ HY2.out) rfl rfl ?_
    refine ⟨[_, _, _, _, _, _, _, _], rfl, ?_, set8_below (HB1.out.trans (HB2.out.mono HB1.out.size)) _ (by omega) _ _ _ _ _ _ _ _⟩
    exact nw_set8 _ _ _ _ _ _ _ _ HND.out (by omega) (by omega))
end Go.Proofs.Ythhdlcckboiecaa
namespace Go.Proofs.Ythhdlcckboiecaa
open Go.RowKit
open Go.Proofs.Ythhdlcckboiecaa.Nm
set_option linter.unusedVariables false
set_option linter.unusedSimpArgs false
set_option maxRecDepth 100000 in
set_option maxHeartbeats 8000000 in
theorem core_9 (W : World) (n : Nd) (cs : List Value) (hn : NdIs W n cs) (hk : Td.kind n = 9) (R : Nd)
    (hrep : ∀ w, Below W.heap.size W w → Calls Try.prog 37 #[.agg cs.toArray] w fun e w' => ∃ cs' : List Value, e = .returned (.agg cs'.toArray) ∧ NwP (fun b => w.heap.size ≤ b) w' R cs' ∧ Below w.heap.size w w') :
    Calls Try.prog 22 #[.agg cs.toArray] W fun e w' => ∃ cs' : List Value, e = .returned (.agg cs'.toArray) ∧ NwP (fun b => W.heap.size ≤ b) w' R cs' ∧ Below W.heap.size W w' := by
  obtain ⟨vs, a, cap, C, hC⟩ := hn.cells
  obtain ⟨sa, sk, sc, rfl⟩ : ∃ a k c, vs = .slice a k c := by obtain ⟨a, c, h, -⟩ := hC.set; exact ⟨a, _, c, h⟩
  have hcs := hC.eq
  rw [hk] at hcs
  subst hcs
  obtain ⟨L, hL9⟩ : ∃ L, (Td.subs n).length = L := ⟨_, rfl⟩
  rw [hL9] at hrep ⊢
  have HREP := Lib.hid hrep
  clear hL9 hrep hC hn
  obtain ⟨W1, hW1⟩ : ∃ W1, (W.alloc (.cells #[.int .i64 9, .slice sa sk sc, .int .i64 (Td.num n), .string (Td.name n), .int .i64 (Td.mn n), .int .i64 (Td.mx n), .bool (Td.lazy n), .slice a L cap] 25)).alloc (.cells #[.int .i64 0, .slice none 0 0, .int .i64 0, .string ⟨#[]⟩, .int .i64 0, .int .i64 0, .bool false, .slice none 0 0] 25) = W1 := ⟨_, rfl⟩
  have HB1 : Hid (Below W.heap.size W W1) := Lib.hid (by rw [← hW1]; exact ((Below.refl _ _).alloc (Nat.le_refl _) _).alloc (by simp) _)
  have HX1 : Hid (W1.heap[W.heap.size]? = some (.cells #[.int .i64 9, .slice sa sk sc, .int .i64 (Td.num n), .string (Td.name n), .int .i64 (Td.mn n), .int .i64 (Td.mx n), .bool (Td.lazy n), .slice a L cap] 25 (0, 0))) := Lib.hid (by
    rw [← hW1]
    exact (Below.heap_alloc _ _ _ (by simp)).trans (heap_alloc_new _ _))
  have HY1 : Hid (W1.heap[W.heap.size + 1]? = some (.cells #[.int .i64 0, .slice none 0 0, .int .i64 0, .string ⟨#[]⟩, .int .i64 0, .int .i64 0, .bool false, .slice none 0 0] 25 (0, 0))) := Lib.hid (by rw [← hW1]; exact alloc2_new _ _ _)
  have hs1 : W1.heap.size = W.heap.size + 2 := by rw [← hW1]; simp
  have HW1 := Lib.hid hW1
  clear hW1
  go_enter Try.func22, Try.ntmps22
  go_wp2_with fail
  rw [HW1.out]
  refine (HREP.out W1 HB1.out).mono ?_
  rintro e w5 ⟨cs5, rfl, hn5, hb5⟩
  have HB5 := Lib.hid (HB1.out.trans (hb5.mono HB1.out.size))
  have HY5 := Lib.hid ((hb5.block _ (by omega)).trans HY1.out)
  have HN5 := Lib.hid hn5
  obtain ⟨vs5, a5, cap5, Y5, hxe5, hset5, -, -⟩ := hn5.parts
  obtain ⟨pa, pk, pc, rfl⟩ : ∃ a k c, vs5 = .slice a k c := by obtain ⟨a, c, h, -⟩ := hset5.1; exact ⟨a, _, c, h⟩
  subst hxe5
  have hs5 := hb5.size
  clear hset5 hn5 hb5
  obtain ⟨c0, c1, c2, c3, c4, c5, c6, c7⟩ := nbox_cells HY5.out
  have f0 := nbox_frozen HY5.out 0
  have f1 := nbox_frozen HY5.out 1
  have f2 := nbox_frozen HY5.out 2
  have f3 := nbox_frozen HY5.out 3
  have f4 := nbox_frozen HY5.out 4
  have f5 := nbox_frozen HY5.out 5
  have f6 := nbox_frozen HY5.out 6
  have f7 := nbox_frozen HY5.out 7
  go_wp2
  (try simp only [Exit.inBlock, Exit.then])
  refine ret_ndN rfl (W.heap.size + 1) _ rfl (set8_blk _ _ _ _ _ _ _ _ _ _ HY5.out) rfl rfl ?_
  refine ⟨[_, _, _, _, _, _, _, _], rfl, ?_, set8_below HB5.out _ (by omega) _ _ _ _ _ _ _ _⟩
  exact nw_set8 _ _ _ _ _ _ _ _ HN5.out (by omega) (by omega)
end Go.Proofs.Ythhdlcckboiecaa
