/- The landed norm: core of what has no parts. · The landed norm: core of a group, and of what has no parts. · The landed norm: core of a repetition, given repeat. -/
import Derived.Test.YtanffablfgnioaaGp30
import Derived.Test.YtanffablfgnioaaGp24
import Derived.Test.YtanffablfgnioaaGp2
namespace Go.Proofs.Ytanffablfgnioaa
open Go.RowKit
open Go.Proofs.Ytanffablfgnioaa.Nm
set_option linter.unusedVariables false
set_option linter.unusedSimpArgs false
theorem step_append_runN {P : Program} {ops : Array Oper} {o : Oper} {a : Act} {w : World} {K : Act → World → Prop} {Q : Exit → Act → World → Prop} {E : Prop} (hgd : o.guard = none) (s x : Operand) (t : TypeId)
    (ho : o.op = .call { callee := .builtin .append, args := #[s, x], argTypes := #[t, t] }) (vs vx v' : Value) (w' : World) (hs : a.eval s = vs) (hx : a.eval x = vx)
    (hr : (Builtin.append_ #[t, t] o.type #[vs, vx]).run P w = .ok v' w') (h : K (a.put o.dst v') w') : if Region.wanted o (yielded ops a.tmps) = true then Oper.wp P o a w K Q else E := by
  rw [if_pos (by simp [Region.wanted, hgd])]
  unfold Oper.wp execOp
  simp only [ho, resolve, invoke, builtin, Sem.run_bind, Sem.run_pure, Result.andThen_ok, List.map_toArray, List.map_cons, List.map_nil, hs, hx, hr]
  exact h
theorem append_set (w : World) (vs : Value) (l : List (Int × Int)) (h : RRow w vs l) : ∃ v' w', (Builtin.append_ #[22, 22] 22 #[.slice none 0 0, vs]).run Try.prog w = .ok v' w' ∧
    RRowOn (fun b => w.heap.size ≤ b ∧ b < w'.heap.size) w' v' l ∧ Below w.heap.size w w' := by
  obtain ⟨i0, hi, hz0, hz1, hz2⟩ := info_parts Try.infoRangeC
  obtain ⟨a, cap, rfl, hl, hw, hc⟩ := h
  by_cases h0 : l.length = 0
  · have hle := List.eq_nil_of_length_eq_zero h0
    subst hle
    refine ⟨_, w, run_append_nothing (P := Try.prog) (w := w) w.heap.size 22 22 49 i0 2 Try.underRangesC hi _ 0 [] (World.ownsRow_nil _ _ _ _) a cap, RRowOn.nil, Below.refl _ _⟩
  · obtain ⟨b, off, rfl, hb, -, -⟩ := hc 0 (by omega)
    obtain ⟨gg, cap2, W2, hrun, hown, hgrow, hat, hlt2⟩ := run_append_lies (P := Try.prog) w 22 22 w.heap.size 49 i0 _ 2 16 Try.underRangesC hi hz0 hz1 hz2 rfl (by omega) _ 0 [] (World.ownsRow_nil _ _ _ _)
      ⟨b, off, none⟩ l.length cap (flat2 l) (flat2_len l) (fun j v hv => by
        have hj : j < l.length * 2 := by
          have := (List.getElem?_eq_some_iff.1 hv).1
          rwa [flat2_len] at this
        obtain ⟨b', off', ha', -, c0, c1⟩ := hc (j / 2) (by omega)
        cases ha'
        have hg := flat2_get l (j / 2) (by omega)
        rw [Addr.add_lit]
        rcases Nat.mod_two_eq_zero_or_one j with e | e
        · have ej : j / 2 * 2 = j := by omega
          rw [ej] at hg c0
          rw [← hv, hg.1]; exact c0
        · have ej : j / 2 * 2 + 1 = j := by omega
          rw [ej] at hg
          rw [Nat.add_assoc, ej] at c1
          rw [← hv, hg.2]; exact c1) (flat2_one l) (by omega) (by unfold maxLen; omega) (by omega) (Nat.le_refl _) _ rfl
    rw [Nat.zero_add, List.nil_append] at hown
    rw [Nat.zero_add] at hrun
    refine ⟨_, W2, hrun, ?_, (Below.refl w.heap.size w).grown hgrow (Nat.le_refl _) fun j ej => by simp [Value.ownBlock] at ej⟩
    have hr : RgOwn W2 w.heap.size _ l := hown
    exact ⟨hr.row hl hw, fun g off len cap e _ => World.ownsRow.lt hown g (by rw [e]; rfl)⟩
set_option maxRecDepth 100000 in
set_option maxHeartbeats 8000000 in
theorem core_leaf (W : World) (n : Nd) (cs : List Value) (hn : NdIs W n cs) (hk : Td.kind n ≠ 6 ∧ Td.kind n ≠ 7 ∧ Td.kind n ≠ 8 ∧ Td.kind n ≠ 9) :
    Calls Try.prog 29 #[.agg cs.toArray] W fun e w' => ∃ cs' : List Value, e = .returned (.agg cs'.toArray) ∧ NwP (fun b => W.heap.size ≤ b) w' (.mk (Td.kind n) (Td.set n) (Td.num n) ⟨#[]⟩ 0 0 false []) cs' ∧ Below W.heap.size W w' := by
  obtain ⟨vs, a, cap, C, hC⟩ := hn.cells
  obtain ⟨sa, sk, sc, rfl⟩ : ∃ a k c, vs = .slice a k c := by obtain ⟨a, c, h, -⟩ := hC.set; exact ⟨a, _, c, h⟩
  have hset := hC.set
  have hcs := hC.eq
  have hbd := hC.bd
  subst hcs
  have HBD := Lib.hid hbd
  obtain ⟨k6, k7, k8, k9⟩ := hk
  obtain ⟨L, hL9⟩ : ∃ L, (Td.subs n).length = L := ⟨_, rfl⟩
  rw [hL9]
  obtain ⟨K, hK⟩ : ∃ K, Td.kind n = K := ⟨_, rfl⟩
  rw [hK] at HBD k6 k7 k8 k9 ⊢
  clear hn hC hL9 hK hbd
  obtain ⟨W1, hW1⟩ : ∃ W1, (W.alloc (.cells #[.int .i64 K, .slice sa sk sc, .int .i64 (Td.num n), .string (Td.name n), .int .i64 (Td.mn n), .int .i64 (Td.mx n), .bool (Td.lazy n), .slice a L cap] 25)).alloc (.cells #[.int .i64 0, .slice none 0 0, .int .i64 0, .string ⟨#[]⟩, .int .i64 0, .int .i64 0, .bool false, .slice none 0 0] 25) = W1 := ⟨_, rfl⟩
  have HB1 : Hid (Below W.heap.size W W1) := Lib.hid (by rw [← hW1]; exact ((Below.refl _ _).alloc (Nat.le_refl _) _).alloc (by simp) _)
  have HX1 : Hid (W1.heap[W.heap.size]? = some (.cells #[.int .i64 K, .slice sa sk sc, .int .i64 (Td.num n), .string (Td.name n), .int .i64 (Td.mn n), .int .i64 (Td.mx n), .bool (Td.lazy n), .slice a L cap] 25 (0, 0))) := Lib.hid (by
    rw [← hW1]
    exact (Below.heap_alloc _ _ _ (by simp)).trans (heap_alloc_new _ _))
  have HY1 : Hid (W1.heap[W.heap.size + 1]? = some (.cells #[.int .i64 0, .slice none 0 0, .int .i64 0, .string ⟨#[]⟩, .int .i64 0, .int .i64 0, .bool false, .slice none 0 0] 25 (0, 0))) := Lib.hid (by rw [← hW1]; exact alloc2_new _ _ _)
  have hs1 : W1.heap.size = W.heap.size + 2 := by rw [← hW1]; simp
  have HW1 := Lib.hid hW1
  clear hW1
  obtain ⟨v9, w9, hrun, hon, hb9⟩ := append_set W1.drew _ (Td.set n) (hset.below (Nat.le_refl _) HB1.out.drew)
  replace hb9 : Below W1.heap.size W1 w9 := (Below.refl W1.heap.size W1).drew.trans hb9
  obtain ⟨ta, tk, tc, rfl⟩ : ∃ a k c, v9 = .slice a k c := by obtain ⟨a, c, h, -⟩ := hon.1; exact ⟨a, _, c, h⟩
  have HON := Lib.hid hon
  have HB9 := Lib.hid (HB1.out.trans (hb9.mono HB1.out.size))
  have HX9 := (hb9.block _ (by omega)).trans HX1.out
  have HY9 := Lib.hid ((hb9.block _ (by omega)).trans HY1.out)
  have hs9 := hb9.size
  obtain ⟨c0, c1, c2, c3, c4, c5, c6, c7⟩ := nbox_cells HY9.out
  have f0 := nbox_frozen HY9.out 0
  have f1 := nbox_frozen HY9.out 1
  have f2 := nbox_frozen HY9.out 2
  have f3 := nbox_frozen HY9.out 3
  have f4 := nbox_frozen HY9.out 4
  have f5 := nbox_frozen HY9.out 5
  have f6 := nbox_frozen HY9.out 6
  have f7 := nbox_frozen HY9.out 7
  obtain ⟨p0, p1, p2, p3, p4, p5, p6, p7⟩ := nbox_cells HX1.out
  obtain ⟨r0, r1, r2, r3, r4, r5, r6, r7⟩ := nbox_cells HX9
  rw [← HW1.out] at p0 p1 p2 p3 p4 p5 p6 p7 hrun
  have HNODE : Hid (NdOn (fun b => W1.heap.size ≤ b ∧ b < w9.heap.size) w9 (.mk K (Td.set n) (Td.num n) ⟨#[]⟩ 0 0 false []) [.int .i64 K, .slice ta tk tc, .int .i64 (Td.num n), .string ⟨#[]⟩, .int .i64 0, .int .i64 0, .bool false, .slice none 0 0]) := Lib.hid
    (NdOn.mk (fun _ => []) ⟨HBD.out.1, HBD.out.2.1, by unfold I64; omega, by unfold I64; omega⟩ (HON.out.mono (fun b hb => hb)) (Nat.zero_le _) (Nat.zero_le _) (fun j h => by cases h) (fun j h => by cases h))
  have HRUN := Lib.hid hrun
  clear HX9 hb9 hon hset hrun
  go_enter Try.func29, Try.ntmps29
  go_wp2
  go_region_law (refine step_append_runN (by rfl) _ _ 22 (by rfl) (.slice none 0 0) (.slice sa sk sc) (.slice ta tk tc) w9 (by rfl) (by rfl) HRUN.out ?_)
  all_goals (
    go_wp2
    (try simp only [Exit.inBlock, Exit.then])
    refine ret_ndN rfl (W.heap.size + 1) _ rfl (set8_blk _ _ _ _ _ _ _ _ _ _ HY9.out) rfl rfl ?_
    refine ⟨[_, _, _, _, _, _, _, _], rfl, ?_, set8_below HB9.out _ (by omega) _ _ _ _ _ _ _ _⟩
    exact nw_set8 _ _ _ _ _ _ _ _ HNODE.out (by omega) (by omega))
end Go.Proofs.Ytanffablfgnioaa
namespace Go.Proofs.Ytanffablfgnioaa
open Go.RowKit
open Go.Proofs.Ytanffablfgnioaa.Nm
set_option linter.unusedVariables false
set_option linter.unusedSimpArgs false
set_option maxRecDepth 100000 in
set_option maxHeartbeats 8000000 in
theorem core_6 (good : Nd → Prop) (f : Nd → Nd) (ih : CoreOk good f) (W : World) (n : Nd) (cs : List Value) (hn : NdIs W n cs) (hk : Td.kind n = 6) (hl : (Td.subs n).length = 1) (hg : ∀ m ∈ Td.subs n, good m) :
    Calls Try.prog 29 #[.agg cs.toArray] W fun e w' => ∃ cs' : List Value, e = .returned (.agg cs'.toArray) ∧ NwP (fun b => W.heap.size ≤ b) w' (.mk 6 [] (Td.num n) ⟨#[]⟩ 0 0 false ((Td.subs n).map f)) cs' ∧ Below W.heap.size W w' := by
  obtain ⟨vs, a, cap, C, hC⟩ := hn.cells
  obtain ⟨sa, sk, sc, rfl⟩ : ∃ a k c, vs = .slice a k c := by obtain ⟨a, c, h, -⟩ := hC.set; exact ⟨a, _, c, h⟩
  have hcs := hC.eq
  rw [hk] at hcs
  have hr : RowIs W a (Td.subs n) := fun j hj => hC.sub j hj
  have hbd := hC.bd
  subst hcs
  have HCO := Lib.hid (fun (w : World) (hw : Below W.heap.size W w) => cores_any good f ih w (Td.subs n) a cap (by omega) (hr.kept hw) hg)
  have HLN := Lib.hid hl
  have HBD := Lib.hid hbd
  rw [hl] at HCO ⊢
  obtain ⟨W1, hW1⟩ : ∃ W1, (W.alloc (.cells #[.int .i64 6, .slice sa sk sc, .int .i64 (Td.num n), .string (Td.name n), .int .i64 (Td.mn n), .int .i64 (Td.mx n), .bool (Td.lazy n), .slice a 1 cap] 25)).alloc (.cells #[.int .i64 0, .slice none 0 0, .int .i64 0, .string ⟨#[]⟩, .int .i64 0, .int .i64 0, .bool false, .slice none 0 0] 25) = W1 := ⟨_, rfl⟩
  have HB1 : Hid (Below W.heap.size W W1) := Lib.hid (by rw [← hW1]; exact ((Below.refl _ _).alloc (Nat.le_refl _) _).alloc (by simp) _)
  have HX1 : Hid (W1.heap[W.heap.size]? = some (.cells #[.int .i64 6, .slice sa sk sc, .int .i64 (Td.num n), .string (Td.name n), .int .i64 (Td.mn n), .int .i64 (Td.mx n), .bool (Td.lazy n), .slice a 1 cap] 25 (0, 0))) := Lib.hid (by
    rw [← hW1]
    exact (Below.heap_alloc _ _ _ (by simp)).trans (heap_alloc_new _ _))
  have HY1 : Hid (W1.heap[W.heap.size + 1]? = some (.cells #[.int .i64 0, .slice none 0 0, .int .i64 0, .string ⟨#[]⟩, .int .i64 0, .int .i64 0, .bool false, .slice none 0 0] 25 (0, 0))) := Lib.hid (by rw [← hW1]; exact alloc2_new _ _ _)
  have hs1 : W1.heap.size = W.heap.size + 2 := by rw [← hW1]; simp
  have HW1 := Lib.hid hW1
  clear hW1
  have hBlt : W.heap.size < W1.heap.size := by omega
  have hBlt1 : W.heap.size + 1 < W1.heap.size := by omega
  have HQ : Hid (∀ w, Below W1.heap.size W1 w → (w.cell? ⟨W.heap.size, 2, none⟩ = some (.int .i64 (Td.num n)) ∧ w.cell? ⟨W.heap.size, 7, none⟩ = some (.slice a 1 cap)) ∧ w.heap[W.heap.size + 1]? = some (.cells #[.int .i64 0, .slice none 0 0, .int .i64 0, .string ⟨#[]⟩, .int .i64 0, .int .i64 0, .bool false, .slice none 0 0] 25 (0, 0))) := Lib.hid (fun w hw => by
    have h1 := (hw.block _ hBlt).trans HX1.out
    obtain ⟨-, -, e2, -, -, -, -, e7⟩ := nbox_cells h1
    exact ⟨⟨e2, e7⟩, (hw.block _ hBlt1).trans HY1.out⟩)
  obtain ⟨⟨p2, p7⟩, -⟩ := HQ.out W1 (Below.refl _ _)
  rw [← HW1.out] at p2 p7
  have HCW := Lib.hid (HCO.out W1.drew HB1.out.drew)
  rw [← HW1.out] at HCW
  clear hr hC hn hg hbd ih
  go_enter Try.func29, Try.ntmps29
  go_wp2
  go_region_law (go_simp; go_at_call 42; refine HCW.out.mono ?_; rintro e w2 ⟨v, rfl, hown, hb2⟩; rw [HW1.out] at hown hb2; replace hb2 : Below W1.heap.size W1 w2 := (Below.refl W1.heap.size W1).drew.trans hb2; have HOW := Lib.hid hown; have HB2 : Hid (Below W1.heap.size W1 w2) := Lib.hid hb2; obtain ⟨⟨p2b, p7b⟩, hy⟩ := HQ.out w2 hb2; have HY2 := Lib.hid hy; obtain ⟨c0, c1, c2, c3, c4, c5, c6, c7⟩ := nbox_cells hy; have f0 := nbox_frozen hy 0; have f1 := nbox_frozen hy 1; have f2 := nbox_frozen hy 2; have f3 := nbox_frozen hy 3; have f4 := nbox_frozen hy 4; have f5 := nbox_frozen hy 5; have f6 := nbox_frozen hy 6; have f7 := nbox_frozen hy 7; obtain ⟨va, vc, hvs⟩ := hown.slice; rw [List.length_map, HLN.out] at hvs; subst hvs; clear hown hb2 hy)
  all_goals (
    have hs5 := HB2.out.size
    have HND : Hid (NwP (fun b => W1.heap.size ≤ b) w2 (.mk 6 [] (Td.num n) ⟨#[]⟩ 0 0 false ((Td.subs n).map f)) [.int .i64 6, .slice none 0 0, .int .i64 (Td.num n), .string ⟨#[]⟩, .int .i64 0, .int .i64 0, .bool false, .slice va 1 vc]) := Lib.hid (HOW.out.node (fun b hb => hb) (by rw [List.length_map, HLN.out]; omega) (by rw [List.length_map, HLN.out]; omega) ⟨by unfold I64; omega, HBD.out.2.1, by unfold I64; omega, by unfold I64; omega⟩ (Nat.zero_le _))
    go_wp2
    (try simp only [Exit.inBlock, Exit.then])
    refine ret_ndN rfl (W.heap.size + 1) _ rfl (set8_blk _ _ _ _ _ _ _ _ _ _ HY2.out) rfl rfl ?_
    refine ⟨[_, _, _, _, _, _, _, _], rfl, ?_, set8_below (HB1.out.trans (HB2.out.mono HB1.out.size)) _ (by omega) _ _ _ _ _ _ _ _⟩
    exact nw_set8 _ _ _ _ _ _ _ _ HND.out (by omega) (by omega))
end Go.Proofs.Ytanffablfgnioaa
namespace Go.Proofs.Ytanffablfgnioaa
open Go.RowKit
open Go.Proofs.Ytanffablfgnioaa.Nm
set_option linter.unusedVariables false
set_option linter.unusedSimpArgs false
set_option maxRecDepth 100000 in
set_option maxHeartbeats 8000000 in
theorem core_9 (W : World) (n : Nd) (cs : List Value) (hn : NdIs W n cs) (hk : Td.kind n = 9) (R : Nd)
    (hrep : ∀ w, Below W.heap.size W w → Calls Try.prog 45 #[.agg cs.toArray] w fun e w' => ∃ cs' : List Value, e = .returned (.agg cs'.toArray) ∧ NwP (fun b => w.heap.size ≤ b) w' R cs' ∧ Below w.heap.size w w') :
    Calls Try.prog 29 #[.agg cs.toArray] W fun e w' => ∃ cs' : List Value, e = .returned (.agg cs'.toArray) ∧ NwP (fun b => W.heap.size ≤ b) w' R cs' ∧ Below W.heap.size W w' := by
  obtain ⟨vs, a, cap, C, hC⟩ := hn.cells
  obtain ⟨sa, sk, sc, rfl⟩ : ∃ a k c, vs = .slice a k c := by obtain ⟨a, c, h, -⟩ := hC.set; exact ⟨a, _, c, h⟩
  have hcs := hC.eq
  rw [hk] at hcs
  subst hcs
  obtain ⟨L, hL9⟩ : ∃ L, (Td.subs n).length = L := ⟨_, rfl⟩
  rw [hL9] at hrep ⊢
  have HREP := Lib.hid hrep
  clear hL9 hrep hC hn
  obtain ⟨W1, hW1⟩ : ∃ W1, (W.alloc (.cells #[.int .i64 9, .slice sa sk sc, .int .i64 (Td.num n), .string (Td.name n), .int .i64 (Td.mn n), .int .i64 (Td.mx n), .bool (Td.lazy n), .slice a L cap] 25)).alloc (.cells #[.int .i64 0, .slice none 0 0, .int .i64 0, .string ⟨#[]⟩, .int .i64 0, .int .i64 0, .bool false, .slice none 0 0] 25) = W1 := ⟨_, rfl⟩
  have HB1 : Hid (Below W.heap.size W W1) := Lib.hid (by rw [← hW1]; exact ((Below.refl _ _).alloc (Nat.le_refl _) _).alloc (by simp) _)
  have HX1 : Hid (W1.heap[W.heap.size]? = some (.cells #[.int .i64 9, .slice sa sk sc, .int .i64 (Td.num n), .string (Td.name n), .int .i64 (Td.mn n), .int .i64 (Td.mx n), .bool (Td.lazy n), .slice a L cap] 25 (0, 0))) := Lib.hid (by
    rw [← hW1]
    exact (Below.heap_alloc _ _ _ (by simp)).trans (heap_alloc_new _ _))
  have HY1 : Hid (W1.heap[W.heap.size + 1]? = some (.cells #[.int .i64 0, .slice none 0 0, .int .i64 0, .string ⟨#[]⟩, .int .i64 0, .int .i64 0, .bool false, .slice none 0 0] 25 (0, 0))) := Lib.hid (by rw [← hW1]; exact alloc2_new _ _ _)
  have hs1 : W1.heap.size = W.heap.size + 2 := by rw [← hW1]; simp
  have HW1 := Lib.hid hW1
  clear hW1
  go_enter Try.func29, Try.ntmps29
  go_wp2_with fail
  rw [HW1.out]
  refine (HREP.out W1 HB1.out).mono ?_
  rintro e w5 ⟨cs5, rfl, hn5, hb5⟩
  have HB5 := Lib.hid (HB1.out.trans (hb5.mono HB1.out.size))
  have HY5 := Lib.hid ((hb5.block _ (by omega)).trans HY1.out)
  have HN5 := Lib.hid hn5
  obtain ⟨vs5, a5, cap5, Y5, hxe5, hset5, -, -⟩ := hn5.parts
  obtain ⟨pa, pk, pc, rfl⟩ : ∃ a k c, vs5 = .slice a k c := by obtain ⟨a, c, h, -⟩ := hset5.1; exact ⟨a, _, c, h⟩
  subst hxe5
  have hs5 := hb5.size
  clear hset5 hn5 hb5
  obtain ⟨c0, c1, c2, c3, c4, c5, c6, c7⟩ := nbox_cells HY5.out
  have f0 := nbox_frozen HY5.out 0
  have f1 := nbox_frozen HY5.out 1
  have f2 := nbox_frozen HY5.out 2
  have f3 := nbox_frozen HY5.out 3
  have f4 := nbox_frozen HY5.out 4
  have f5 := nbox_frozen HY5.out 5
  have f6 := nbox_frozen HY5.out 6
  have f7 := nbox_frozen HY5.out 7
  go_wp2
  (try simp only [Exit.inBlock, Exit.then])
  refine ret_ndN rfl (W.heap.size + 1) _ rfl (set8_blk _ _ _ _ _ _ _ _ _ _ HY5.out) rfl rfl ?_
  refine ⟨[_, _, _, _, _, _, _, _], rfl, ?_, set8_below HB5.out _ (by omega) _ _ _ _ _ _ _ _⟩
  exact nw_set8 _ _ _ _ _ _ _ _ HN5.out (by omega) (by omega)
end Go.Proofs.Ytanffablfgnioaa
