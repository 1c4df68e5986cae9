/- The landed norm: repeat of nothing; boxes of nodes. · The landed norm: core of a sequence and of alternatives. · The landed norm: core of what has no parts. -/
import Derived.Test.YthhdlcckboiecaaGp24
import Derived.Test.YthhdlcckboiecaaGp27
import Derived.Test.YthhdlcckboiecaaGp21
import Derived.Test.YthhdlcckboiecaaGp2
namespace Go.Proofs.Ythhdlcckboiecaa
open Go.RowKit
open Go.Proofs.Ythhdlcckboiecaa.Nm
set_option linter.unusedVariables false
set_option linter.unusedSimpArgs false
theorem leaf1_on (S : Nat → Prop) (W : World) : NdOn S W leaf1 leafC :=
  NdOn.mk (fun _ => []) ⟨by unfold I64; omega, by unfold I64; omega, by unfold I64; omega, by unfold I64; omega⟩ RRowOn.nil (Nat.zero_le _) (Nat.zero_le _) (fun j h => by cases h) (fun j h => by cases h)
theorem alloc2_new (W : World) (o p : Obj) : ((W.alloc o).alloc p).heap[W.heap.size + 1]? = some p := by
  have := heap_alloc_new (W.alloc o) p
  rwa [show (W.alloc o).heap.size = W.heap.size + 1 by simp] at this
set_option maxRecDepth 100000 in
set_option maxHeartbeats 8000000 in
theorem repeat_0 (W : World) (k num mn mx : Int) (sa : Option Addr) (sk sc : Nat) (nm : ByteArray) (lz : Bool) (a : Option Addr) (L cap : Nat) (hmx : mx = 0) :
    Calls Try.prog 37 #[.agg #[.int .i64 k, .slice sa sk sc, .int .i64 num, .string nm, .int .i64 mn, .int .i64 mx, .bool lz, .slice a L cap]] W fun e w' => ∃ cs' : List Value, e = .returned (.agg cs'.toArray) ∧ NwP (fun b => W.heap.size ≤ b) w' leaf1 cs' ∧ Below W.heap.size W w' := by
  subst hmx
  go_enter Try.func37, Try.ntmps37
  go_wp2
  refine ret_ndN rfl (W.heap.size + 1) _ rfl (alloc2_new _ _ _) rfl rfl ?_
  exact ⟨leafC, rfl, leaf1_on _ _, ((Below.refl _ _).alloc (Nat.le_refl _) _).alloc (by simp) _⟩
/-- An owned row of nodes, laid open. -/
theorem NwOwn.lay {S : Nat → Prop} {W : World} {base : Nat} {v : Value} {A : List Nd} (h : NwOwn S W base v A) (h0 : 0 < A.length) : ∃ g cap X, v = .slice (some ⟨g, 0, none⟩) A.length cap ∧ base ≤ g ∧ g < W.heap.size ∧
    NdsOn (fun b => S b ∧ b < W.heap.size ∧ b ≠ g) W A X ∧ (∀ j u, X.flatten[j]? = some u → W.cell? ((⟨g, 0, none⟩ : Addr).add j) = some u) ∧ RowC W g A.length (fun j => X.getD j []) := by
  obtain ⟨X, h1, h2⟩ := h
  obtain ⟨g, cap, rfl, hg, hcap, hR⟩ := rowC_of h2 h0
  refine ⟨g, cap, X, rfl, hg, hR.lt, h1.mono (fun b hb => ⟨hb.1, hb.2.1, fun e => hb.2.2 (by rw [e]; rfl)⟩), fun j u hu => ?_, ?_⟩
  · rw [Addr.add_lit, Nat.zero_add]
    have hj := (List.getElem?_eq_some_iff.1 hu).1
    rw [World.ownsRow.cellAt h2 j (by rw [h2.1] at hj; exact hj)]
    exact hu
  · refine hR.congr (fun j hj => ?_)
    obtain ⟨x, hx, -⟩ := h1.2 j hj
    show (X.flatten.drop (j * 8)).take 8 = X.getD j []
    rw [drop_take8 X h1.is.len8 (by rw [h1.flatLen, h1.1]) j x hx, List.getD, hx]; rfl
theorem nbox_cells {w : World} {B : Nat} {v0 v1 v2 v3 v4 v5 v6 v7 : Value} {ty : TypeId} (h : w.heap[B]? = some (.cells #[v0, v1, v2, v3, v4, v5, v6, v7] ty (0, 0))) :
    w.cell? ⟨B, 0, none⟩ = some v0 ∧ w.cell? ⟨B, 1, none⟩ = some v1 ∧ w.cell? ⟨B, 2, none⟩ = some v2 ∧ w.cell? ⟨B, 3, none⟩ = some v3 ∧ w.cell? ⟨B, 4, none⟩ = some v4 ∧ w.cell? ⟨B, 5, none⟩ = some v5 ∧ w.cell? ⟨B, 6, none⟩ = some v6 ∧ w.cell? ⟨B, 7, none⟩ = some v7 := by
  refine ⟨?_, ?_, ?_, ?_, ?_, ?_, ?_, ?_⟩ <;> simp [World.cell?, h]
theorem nbox_frozen {w : World} {B : Nat} {cs : Array Value} {ty : TypeId} (h : w.heap[B]? = some (.cells cs ty (0, 0))) (o : Nat) : w.frozen? ⟨B, o, none⟩ = false := by simp [World.frozen?, h]
theorem nw_set8 {w : World} {lo n0 B : Nat} {R : Nd} {v0 v1 v2 v3 v4 v5 v6 v7 : Value} (x0 x1 x2 x3 x4 x5 x6 x7 : Value) (h : NdOn (fun b => lo ≤ b ∧ b < w.heap.size) w R [v0, v1, v2, v3, v4, v5, v6, v7]) (hB : B < lo) (hn : n0 ≤ lo) :
    NwP (fun b => n0 ≤ b) ((((((((w.setCell ⟨B, 0, none⟩ x0).setCell ⟨B, 1, none⟩ x1).setCell ⟨B, 2, none⟩ x2).setCell ⟨B, 3, none⟩ x3).setCell ⟨B, 4, none⟩ x4).setCell ⟨B, 5, none⟩ x5).setCell ⟨B, 6, none⟩ x6).setCell ⟨B, 7, none⟩ x7) R [v0, v1, v2, v3, v4, v5, v6, v7] :=
  NdOn.mono (fun b hb => ⟨Nat.le_trans hn hb.1, by rw [set8_size]; exact hb.2⟩) (NdOn.kept (by rw [set8_size]; exact Nat.le_refl _) (fun b hb _ => set8_other _ _ _ _ _ _ _ _ _ _ b (by have := hb.1; omega)) h)
theorem calls_keep {P : Program} {f : FuncId} {args : Array Value} {w w4 : World} {v : Value} (H : ∀ w, Below w4.heap.size w4 w → Calls P f args w fun e w' => e = .returned v ∧ Below w.heap.size w w') (hb : Below w4.heap.size w4 w) :
    Calls P f args w fun e w' => e = .returned v ∧ Below w.heap.size w w' ∧ Below w4.heap.size w4 w' := (H w hb).mono fun e w' ⟨he, hb'⟩ => ⟨he, hb', hb.trans (hb'.mono hb.size)⟩
end Go.Proofs.Ythhdlcckboiecaa
namespace Go.Proofs.Ythhdlcckboiecaa
open Go.RowKit
open Go.Proofs.Ythhdlcckboiecaa.Nm
set_option linter.unusedVariables false
set_option linter.unusedSimpArgs false
set_option maxRecDepth 100000 in
set_option maxHeartbeats 8000000 in
theorem core_7 (good : Nd → Prop) (f : Nd → Nd) (ih : CoreOk good f) (W : World) (n : Nd) (cs : List Value) (hn : NdIs W n cs) (hk : Td.kind n = 7) (hl : 0 < (Td.subs n).length) (hl2 : (Td.subs n).length ≤ 1000000) (hg : ∀ m ∈ Td.subs n, good m) (hh : ∀ m ∈ Td.subs n, Td.kind (f m) = 7 → 0 < (Td.subs (f m)).length) (hL : (catL ((Td.subs n).map f)).length ≤ 1000000) :
    Calls Try.prog 22 #[.agg cs.toArray] W fun e w' => ∃ cs' : List Value, e = .returned (.agg cs'.toArray) ∧ NwP (fun b => W.heap.size ≤ b) w' (catN ((Td.subs n).map f)) cs' ∧ Below W.heap.size W w' := by
  obtain ⟨vs, a, cap, C, hC⟩ := hn.cells
  obtain ⟨sa, sk, sc, rfl⟩ : ∃ a k c, vs = .slice a k c := by obtain ⟨a, c, h, -⟩ := hC.set; exact ⟨a, _, c, h⟩
  have hcs := hC.eq
  rw [hk] at hcs
  have hr : RowIs W a (Td.subs n) := fun j hj => hC.sub j hj
  have hbd := hC.bd
  subst hcs
  obtain ⟨L, hL9⟩ : ∃ L, (Td.subs n).length = L := ⟨_, rfl⟩
  have HLN := Lib.hid hL9
  have HCO := Lib.hid (fun (w : World) (hw : Below W.heap.size W w) => cores_any good f ih w (Td.subs n) a cap hl2 (hr.kept hw) hg)
  rw [hL9] at HCO hl ⊢
  clear hL9
  have hLb : L ≤ 1000000 := by rw [← HLN.out]; exact hl2
  obtain ⟨W1, hW1⟩ : ∃ W1, (W.alloc (.cells #[.int .i64 7, .slice sa sk sc, .int .i64 (Td.num n), .string (Td.name n), .int .i64 (Td.mn n), .int .i64 (Td.mx n), .bool (Td.lazy n), .slice a L cap] 25)).alloc (.cells #[.int .i64 0, .slice none 0 0, .int .i64 0, .string ⟨#[]⟩, .int .i64 0, .int .i64 0, .bool false, .slice none 0 0] 25) = W1 := ⟨_, rfl⟩
  have HB1 : Hid (Below W.heap.size W W1) := Lib.hid (by rw [← hW1]; exact ((Below.refl _ _).alloc (Nat.le_refl _) _).alloc (by simp) _)
  have HX1 : Hid (W1.heap[W.heap.size]? = some (.cells #[.int .i64 7, .slice sa sk sc, .int .i64 (Td.num n), .string (Td.name n), .int .i64 (Td.mn n), .int .i64 (Td.mx n), .bool (Td.lazy n), .slice a L cap] 25 (0, 0))) := Lib.hid (by
    rw [← hW1]
    exact (Below.heap_alloc _ _ _ (by simp)).trans (heap_alloc_new _ _))
  have HY1 : Hid (W1.heap[W.heap.size + 1]? = some (.cells #[.int .i64 0, .slice none 0 0, .int .i64 0, .string ⟨#[]⟩, .int .i64 0, .int .i64 0, .bool false, .slice none 0 0] 25 (0, 0))) := Lib.hid (by rw [← hW1]; exact alloc2_new _ _ _)
  have hs1 : W1.heap.size = W.heap.size + 2 := by rw [← hW1]; simp
  have HW1 := Lib.hid hW1
  clear hW1
  have HH := Lib.hid hh
  have HLL := Lib.hid hL
  clear hr hC hn hg hh hL hbd ih
  go_enter Try.func22, Try.ntmps22
  go_wp2_with fail
  rw [HW1.out]
  refine (HCO.out W1 HB1.out).mono ?_
  rintro e w2 ⟨v, rfl, hown, hb2⟩
  obtain ⟨g, gc, XX, hv, hg1, hg2, hnds, hrow, -⟩ := hown.lay (by rw [List.length_map, HLN.out]; exact hl)
  rw [List.length_map, HLN.out] at hv
  subst hv
  have HB4 := Lib.hid (HB1.out.trans (hb2.mono HB1.out.size))
  have HY4 := Lib.hid ((hb2.block _ (by omega)).trans HY1.out)
  have hs4 := hb2.size
  have HCC := Lib.hid (concatenate_any W1.heap.size w2 ((Td.subs n).map f) XX L (by rw [List.length_map, HLN.out]) hl hLb g 0 gc (hnds.mono (fun b hb => ⟨hb.1, hb.2.1⟩)) hg2 hrow (fun y hy => by
    obtain ⟨m, hm, rfl⟩ := List.mem_map.1 hy
    exact HH.out m hm) HLL.out (by omega))
  clear hnds hrow hown hb2 HCO HB1 HX1 HY1
  go_wp2_with fail
  refine HCC.out.mono ?_
  rintro e w5 ⟨cs5, rfl, hn5, hb5⟩
  have HB5 := Lib.hid (HB4.out.trans (hb5.mono HB4.out.size))
  have HY5 := Lib.hid ((hb5.block _ (by omega)).trans HY4.out)
  have HN5 := Lib.hid hn5
  obtain ⟨vs5, a5, cap5, Y5, hxe5, hset5, -, -⟩ := hn5.parts
  obtain ⟨pa, pk, pc, rfl⟩ : ∃ a k c, vs5 = .slice a k c := by obtain ⟨a, c, h, -⟩ := hset5.1; exact ⟨a, _, c, h⟩
  subst hxe5
  have hs5 := hb5.size
  clear hset5 hn5 hb5
  obtain ⟨R2, hR2⟩ : ∃ R2, catN ((Td.subs n).map f) = R2 := ⟨_, rfl⟩
  rw [hR2] at HN5 ⊢
  have HR2 := Lib.hid hR2
  clear hR2
  obtain ⟨c0, c1, c2, c3, c4, c5, c6, c7⟩ := nbox_cells HY5.out
  have f0 := nbox_frozen HY5.out 0
  have f1 := nbox_frozen HY5.out 1
  have f2 := nbox_frozen HY5.out 2
  have f3 := nbox_frozen HY5.out 3
  have f4 := nbox_frozen HY5.out 4
  have f5 := nbox_frozen HY5.out 5
  have f6 := nbox_frozen HY5.out 6
  have f7 := nbox_frozen HY5.out 7
  go_wp2
  (try simp only [Exit.inBlock, Exit.then])
  refine ret_ndN rfl (W.heap.size + 1) _ rfl (set8_blk _ _ _ _ _ _ _ _ _ _ HY5.out) rfl rfl ?_
  refine ⟨[_, _, _, _, _, _, _, _], rfl, ?_, set8_below HB5.out _ (by omega) _ _ _ _ _ _ _ _⟩
  rw [HR2.out]
  exact nw_set8 _ _ _ _ _ _ _ _ HN5.out (by omega) (by omega)
set_option maxRecDepth 100000 in
set_option maxHeartbeats 8000000 in
theorem core_8 (good : Nd → Prop) (f : Nd → Nd) (ih : CoreOk good f) (W : World) (n : Nd) (cs : List Value) (hn : NdIs W n cs) (hk : Td.kind n = 8) (hl : 0 < (Td.subs n).length) (hl2 : (Td.subs n).length ≤ 1000000) (hg : ∀ m ∈ Td.subs n, good m) (hh : ∀ m ∈ Td.subs n, Td.kind (f m) = 8 → 0 < (Td.subs (f m)).length) (hL : (altL ((Td.subs n).map f)).length ≤ 1000000) :
    Calls Try.prog 22 #[.agg cs.toArray] W fun e w' => ∃ cs' : List Value, e = .returned (.agg cs'.toArray) ∧ NwP (fun b => W.heap.size ≤ b) w' (.mk 8 [] 0 ⟨#[]⟩ 0 0 false (altL ((Td.subs n).map f))) cs' ∧ Below W.heap.size W w' := by
  obtain ⟨vs, a, cap, C, hC⟩ := hn.cells
  obtain ⟨sa, sk, sc, rfl⟩ : ∃ a k c, vs = .slice a k c := by obtain ⟨a, c, h, -⟩ := hC.set; exact ⟨a, _, c, h⟩
  have hcs := hC.eq
  rw [hk] at hcs
  have hr : RowIs W a (Td.subs n) := fun j hj => hC.sub j hj
  have hbd := hC.bd
  subst hcs
  obtain ⟨L, hL9⟩ : ∃ L, (Td.subs n).length = L := ⟨_, rfl⟩
  have HLN := Lib.hid hL9
  have HCO := Lib.hid (fun (w : World) (hw : Below W.heap.size W w) => cores_any good f ih w (Td.subs n) a cap hl2 (hr.kept hw) hg)
  rw [hL9] at HCO hl ⊢
  clear hL9
  have hLb : L ≤ 1000000 := by rw [← HLN.out]; exact hl2
  obtain ⟨W1, hW1⟩ : ∃ W1, (W.alloc (.cells #[.int .i64 8, .slice sa sk sc, .int .i64 (Td.num n), .string (Td.name n), .int .i64 (Td.mn n), .int .i64 (Td.mx n), .bool (Td.lazy n), .slice a L cap] 25)).alloc (.cells #[.int .i64 0, .slice none 0 0, .int .i64 0, .string ⟨#[]⟩, .int .i64 0, .int .i64 0, .bool false, .slice none 0 0] 25) = W1 := ⟨_, rfl⟩
  have HB1 : Hid (Below W.heap.size W W1) := Lib.hid (by rw [← hW1]; exact ((Below.refl _ _).alloc (Nat.le_refl _) _).alloc (by simp) _)
  have HX1 : Hid (W1.heap[W.heap.size]? = some (.cells #[.int .i64 8, .slice sa sk sc, .int .i64 (Td.num n), .string (Td.name n), .int .i64 (Td.mn n), .int .i64 (Td.mx n), .bool (Td.lazy n), .slice a L cap] 25 (0, 0))) := Lib.hid (by
    rw [← hW1]
    exact (Below.heap_alloc _ _ _ (by simp)).trans (heap_alloc_new _ _))
  have HY1 : Hid (W1.heap[W.heap.size + 1]? = some (.cells #[.int .i64 0, .slice none 0 0, .int .i64 0, .string ⟨#[]⟩, .int .i64 0, .int .i64 0, .bool false, .slice none 0 0] 25 (0, 0))) := Lib.hid (by rw [← hW1]; exact alloc2_new _ _ _)
  have hs1 : W1.heap.size = W.heap.size + 2 := by rw [← hW1]; simp
  have HW1 := Lib.hid hW1
  clear hW1
  have HH := Lib.hid hh
  have HLL := Lib.hid hL
  clear hr hC hn hg hh hL hbd ih
  go_enter Try.func22, Try.ntmps22
  go_wp2_with fail
  rw [HW1.out]
  refine (HCO.out W1 HB1.out).mono ?_
  rintro e w2 ⟨v, rfl, hown, hb2⟩
  obtain ⟨g, gc, XX, hv, hg1, hg2, hnds, hrow, -⟩ := hown.lay (by rw [List.length_map, HLN.out]; exact hl)
  rw [List.length_map, HLN.out] at hv
  subst hv
  have HB4 := Lib.hid (HB1.out.trans (hb2.mono HB1.out.size))
  have HY4 := Lib.hid ((hb2.block _ (by omega)).trans HY1.out)
  have hs4 := hb2.size
  have HCC := Lib.hid (alternate_any W1.heap.size w2 ((Td.subs n).map f) XX L (by rw [List.length_map, HLN.out]) hl hLb g 0 gc (hnds.mono (fun b hb => ⟨hb.1, hb.2.1⟩)) hg2 hrow (fun y hy => by
    obtain ⟨m, hm, rfl⟩ := List.mem_map.1 hy
    exact HH.out m hm) HLL.out (by omega))
  clear hnds hrow hown hb2 HCO HB1 HX1 HY1
  go_wp2_with fail
  refine HCC.out.mono ?_
  rintro e w5 ⟨cs5, rfl, hn5, hb5⟩
  have HB5 := Lib.hid (HB4.out.trans (hb5.mono HB4.out.size))
  have HY5 := Lib.hid ((hb5.block _ (by omega)).trans HY4.out)
  have HN5 := Lib.hid hn5
  obtain ⟨vs5, a5, cap5, Y5, hxe5, hset5, -, -⟩ := hn5.parts
  obtain ⟨pa, pk, pc, rfl⟩ : ∃ a k c, vs5 = .slice a k c := by obtain ⟨a, c, h, -⟩ := hset5.1; exact ⟨a, _, c, h⟩
  subst hxe5
  have hs5 := hb5.size
  clear hset5 hn5 hb5
  obtain ⟨R2, hR2⟩ : ∃ R2, Nd.mk 8 [] 0 ⟨#[]⟩ 0 0 false (altL ((Td.subs n).map f)) = R2 := ⟨_, rfl⟩
  rw [hR2] at HN5 ⊢
  have HR2 := Lib.hid hR2
  clear hR2
  obtain ⟨c0, c1, c2, c3, c4, c5, c6, c7⟩ := nbox_cells HY5.out
  have f0 := nbox_frozen HY5.out 0
  have f1 := nbox_frozen HY5.out 1
  have f2 := nbox_frozen HY5.out 2
  have f3 := nbox_frozen HY5.out 3
  have f4 := nbox_frozen HY5.out 4
  have f5 := nbox_frozen HY5.out 5
  have f6 := nbox_frozen HY5.out 6
  have f7 := nbox_frozen HY5.out 7
  go_wp2
  (try simp only [Exit.inBlock, Exit.then])
  refine ret_ndN rfl (W.heap.size + 1) _ rfl (set8_blk _ _ _ _ _ _ _ _ _ _ HY5.out) rfl rfl ?_
  refine ⟨[_, _, _, _, _, _, _, _], rfl, ?_, set8_below HB5.out _ (by omega) _ _ _ _ _ _ _ _⟩
  rw [HR2.out]
  exact nw_set8 _ _ _ _ _ _ _ _ HN5.out (by omega) (by omega)
end Go.Proofs.Ythhdlcckboiecaa
namespace Go.Proofs.Ythhdlcckboiecaa
open Go.RowKit
open Go.Proofs.Ythhdlcckboiecaa.Nm
set_option linter.unusedVariables false
set_option linter.unusedSimpArgs false
theorem step_append_runN {P : Program} {ops : Array Oper} {o : Oper} {a : Act} {w : World} {K : Act → World → Prop} {Q : Exit → Act → World → Prop} {E : Prop} (hgd : o.guard = none) (s x : Operand) (t : TypeId)
    (ho : o.op = .call { callee := .builtin .append, args := #[s, x], argTypes := #[t, t] }) (vs vx v' : Value) (w' : World) (hs : a.eval s = vs) (hx : a.eval x = vx)
    (hr : (Builtin.append_ #[t, t] o.type #[vs, vx]).run P w = .ok v' w') (h : K (a.put o.dst v') w') : if Region.wanted o (yielded ops a.tmps) = true then Oper.wp P o a w K Q else E := by
  rw [if_pos (by simp [Region.wanted, hgd])]
  unfold Oper.wp execOp
  simp only [ho, resolve, invoke, builtin, Sem.run_bind, Sem.run_pure, Result.andThen_ok, List.map_toArray, List.map_cons, List.map_nil, hs, hx, hr]
  exact h
theorem append_set (w : World) (vs : Value) (l : List (Int × Int)) (h : RRow w vs l) : ∃ v' w', (Builtin.append_ #[22, 22] 22 #[.slice none 0 0, vs]).run Try.prog w = .ok v' w' ∧
    RRowOn (fun b => w.heap.size ≤ b ∧ b < w'.heap.size) w' v' l ∧ Below w.heap.size w w' := by
  obtain ⟨i0, hi, hz0, hz1, hz2⟩ := info_parts Try.infoRangeC
  obtain ⟨a, cap, rfl, hl, hw, hc⟩ := h
  by_cases h0 : l.length = 0
  · have hle := List.eq_nil_of_length_eq_zero h0
    subst hle
    refine ⟨_, w, run_append_nothing (P := Try.prog) (w := w) w.heap.size 22 22 42 i0 2 Try.underRangesC hi _ 0 [] (World.ownsRow_nil _ _ _ _) a cap, RRowOn.nil, Below.refl _ _⟩
  · obtain ⟨b, off, rfl, hb, -, -⟩ := hc 0 (by omega)
    obtain ⟨gg, cap2, W2, hrun, hown, hgrow, hat, hlt2⟩ := run_append_lies (P := Try.prog) w 22 22 w.heap.size 42 i0 _ 2 16 Try.underRangesC hi hz0 hz1 hz2 rfl (by omega) _ 0 [] (World.ownsRow_nil _ _ _ _)
      ⟨b, off, none⟩ l.length cap (flat2 l) (flat2_len l) (fun j v hv => by
        have hj : j < l.length * 2 := by
          have := (List.getElem?_eq_some_iff.1 hv).1
          rwa [flat2_len] at this
        obtain ⟨b', off', ha', -, c0, c1⟩ := hc (j / 2) (by omega)
        cases ha'
        have hg := flat2_get l (j / 2) (by omega)
        rw [Addr.add_lit]
        rcases Nat.mod_two_eq_zero_or_one j with e | e
        · have ej : j / 2 * 2 = j := by omega
          rw [ej] at hg c0
          rw [← hv, hg.1]; exact c0
        · have ej : j / 2 * 2 + 1 = j := by omega
          rw [ej] at hg
          rw [Nat.add_assoc, ej] at c1
          rw [← hv, hg.2]; exact c1) (flat2_one l) (by omega) (by unfold maxLen; omega) (by omega) (Nat.le_refl _) _ rfl
    rw [Nat.zero_add, List.nil_append] at hown
    rw [Nat.zero_add] at hrun
    refine ⟨_, W2, hrun, ?_, (Below.refl w.heap.size w).grown hgrow (Nat.le_refl _) fun j ej => by simp [Value.ownBlock] at ej⟩
    have hr : RgOwn W2 w.heap.size _ l := hown
    exact ⟨hr.row hl hw, fun g off len cap e _ => World.ownsRow.lt hown g (by rw [e]; rfl)⟩
set_option maxRecDepth 100000 in
set_option maxHeartbeats 8000000 in
theorem core_leaf (W : World) (n : Nd) (cs : List Value) (hn : NdIs W n cs) (hk : Td.kind n ≠ 6 ∧ Td.kind n ≠ 7 ∧ Td.kind n ≠ 8 ∧ Td.kind n ≠ 9) :
    Calls Try.prog 22 #[.agg cs.toArray] W fun e w' => ∃ cs' : List Value, e = .returned (.agg cs'.toArray) ∧ NwP (fun b => W.heap.size ≤ b) w' (.mk (Td.kind n) (Td.set n) (Td.num n) ⟨#[]⟩ 0 0 false []) cs' ∧ Below W.heap.size W w' := by
  obtain ⟨vs, a, cap, C, hC⟩ := hn.cells
  obtain ⟨sa, sk, sc, rfl⟩ : ∃ a k c, vs = .slice a k c := by obtain ⟨a, c, h, -⟩ := hC.set; exact ⟨a, _, c, h⟩
  have hset := hC.set
  have hcs := hC.eq
  have hbd := hC.bd
  subst hcs
  have HBD := Lib.hid hbd
  obtain ⟨k6, k7, k8, k9⟩ := hk
  obtain ⟨L, hL9⟩ : ∃ L, (Td.subs n).length = L := ⟨_, rfl⟩
  rw [hL9]
  obtain ⟨K, hK⟩ : ∃ K, Td.kind n = K := ⟨_, rfl⟩
  rw [hK] at HBD k6 k7 k8 k9 ⊢
  clear hn hC hL9 hK hbd
  obtain ⟨W1, hW1⟩ : ∃ W1, (W.alloc (.cells #[.int .i64 K, .slice sa sk sc, .int .i64 (Td.num n), .string (Td.name n), .int .i64 (Td.mn n), .int .i64 (Td.mx n), .bool (Td.lazy n), .slice a L cap] 25)).alloc (.cells #[.int .i64 0, .slice none 0 0, .int .i64 0, .string ⟨#[]⟩, .int .i64 0, .int .i64 0, .bool false, .slice none 0 0] 25) = W1 := ⟨_, rfl⟩
  have HB1 : Hid (Below W.heap.size W W1) := Lib.hid (by rw [← hW1]; exact ((Below.refl _ _).alloc (Nat.le_refl _) _).alloc (by simp) _)
  have HX1 : Hid (W1.heap[W.heap.size]? = some (.cells #[.int .i64 K, .slice sa sk sc, .int .i64 (Td.num n), .string (Td.name n), .int .i64 (Td.mn n), .int .i64 (Td.mx n), .bool (Td.lazy n), .slice a L cap] 25 (0, 0))) := Lib.hid (by
    rw [← hW1]
    exact (Below.heap_alloc _ _ _ (by simp)).trans (heap_alloc_new _ _))
  have HY1 : Hid (W1.heap[W.heap.size + 1]? = some (.cells #[.int .i64 0, .slice none 0 0, .int .i64 0, .string ⟨#[]⟩, .int .i64 0, .int .i64 0, .bool false, .slice none 0 0] 25 (0, 0))) := Lib.hid (by rw [← hW1]; exact alloc2_new _ _ _)
  have hs1 : W1.heap.size = W.heap.size + 2 := by rw [← hW1]; simp
  have HW1 := Lib.hid hW1
  clear hW1
  obtain ⟨v9, w9, hrun, hon, hb9⟩ := append_set W1.drew _ (Td.set n) (hset.below (Nat.le_refl _) HB1.out.drew)
  replace hb9 : Below W1.heap.size W1 w9 := (Below.refl W1.heap.size W1).drew.trans hb9
  obtain ⟨ta, tk, tc, rfl⟩ : ∃ a k c, v9 = .slice a k c := by obtain ⟨a, c, h, -⟩ := hon.1; exact ⟨a, _, c, h⟩
  have HON := Lib.hid hon
  have HB9 := Lib.hid (HB1.out.trans (hb9.mono HB1.out.size))
  have HX9 := (hb9.block _ (by omega)).trans HX1.out
  have HY9 := Lib.hid ((hb9.block _ (by omega)).trans HY1.out)
  have hs9 := hb9.size
  obtain ⟨c0, c1, c2, c3, c4, c5, c6, c7⟩ := nbox_cells HY9.out
  have f0 := nbox_frozen HY9.out 0
  have f1 := nbox_frozen HY9.out 1
  have f2 := nbox_frozen HY9.out 2
  have f3 := nbox_frozen HY9.out 3
  have f4 := nbox_frozen HY9.out 4
  have f5 := nbox_frozen HY9.out 5
  have f6 := nbox_frozen HY9.out 6
  have f7 := nbox_frozen HY9.out 7
  obtain ⟨p0, p1, p2, p3, p4, p5, p6, p7⟩ := nbox_cells HX1.out
  obtain ⟨r0, r1, r2, r3, r4, r5, r6, r7⟩ := nbox_cells HX9
  rw [← HW1.out] at p0 p1 p2 p3 p4 p5 p6 p7 hrun
  have HNODE : Hid (NdOn (fun b => W1.heap.size ≤ b ∧ b < w9.heap.size) w9 (.mk K (Td.set n) (Td.num n) ⟨#[]⟩ 0 0 false []) [.int .i64 K, .slice ta tk tc, .int .i64 (Td.num n), .string ⟨#[]⟩, .int .i64 0, .int .i64 0, .bool false, .slice none 0 0]) := Lib.hid
    (NdOn.mk (fun _ => []) ⟨HBD.out.1, HBD.out.2.1, by unfold I64; omega, by unfold I64; omega⟩ (HON.out.mono (fun b hb => hb)) (Nat.zero_le _) (Nat.zero_le _) (fun j h => by cases h) (fun j h => by cases h))
  have HRUN := Lib.hid hrun
  clear HX9 hb9 hon hset hrun
  go_enter Try.func22, Try.ntmps22
  go_wp2
  go_region_law (refine step_append_runN (by rfl) _ _ 22 (by rfl) (.slice none 0 0) (.slice sa sk sc) (.slice ta tk tc) w9 (by rfl) (by rfl) HRUN.out ?_)
  all_goals (
    go_wp2
    (try simp only [Exit.inBlock, Exit.then])
    refine ret_ndN rfl (W.heap.size + 1) _ rfl (set8_blk _ _ _ _ _ _ _ _ _ _ HY9.out) rfl rfl ?_
    refine ⟨[_, _, _, _, _, _, _, _], rfl, ?_, set8_below HB9.out _ (by omega) _ _ _ _ _ _ _ _⟩
    exact nw_set8 _ _ _ _ _ _ _ _ HNODE.out (by omega) (by omega))
end Go.Proofs.Ythhdlcckboiecaa
