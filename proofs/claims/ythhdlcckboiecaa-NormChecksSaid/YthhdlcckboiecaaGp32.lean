/- The landed norm: Core. · The landed norm: descend: all nodes that are not too deep, in order (as in the landed tree). -/
import Derived.Test.YthhdlcckboiecaaGp31
import Derived.Test.YthhdlcckboiecaaGp18
import Derived.Test.YthhdlcckboiecaaGp8
namespace Go.Proofs.Ythhdlcckboiecaa
open Go.RowKit
open Go.Proofs.Ythhdlcckboiecaa.Nm
set_option linter.unusedVariables false
set_option linter.unusedSimpArgs false
theorem ret_ndC {fn : Func} {p u : Tmp} {R : Ending → World → Prop} {a : Act} {w : World} (h : fn.results = #[.cell p 25, .tmp u]) (g : Nat) (cs : Array Value) (c : Value)
    (hp : a.tmps.getD p undef = .pointer (some ⟨g, 0, none⟩)) (hc : a.tmps.getD u undef = c) (hg : w.heap[g]? = some (.cells cs 25 (0, 0))) (h8 : cs.size = 8) (hd : a.defers = [])
    (hR : R (.returned (.tuple #[.agg cs, c])) w) : bodyPost Try.prog fn R .ret a w := by
  have hi : (Try.prog.info? 25).map (·.size) = some cs.size := by rw [h8]; kernel_rfl
  have hl : (loadVar 25 ⟨g, 0, none⟩).run Try.prog w = .ok (.agg cs) w := run_loadVar_row w g _ _ cs _ _ hg Try.underlying25 rfl hi
  refine ⟨hd, _, ?_, hR⟩
  have hp' : a.tmps[p]?.getD undef = .pointer (some ⟨g, 0, none⟩) := by simpa using hp
  have hc' : a.tmps[u]?.getD undef = c := by simpa using hc
  simp [results, h, hp', hc', asAddr, hl, Sem.run_bind]
namespace Nm
/-- The zero node. -/
def nil0 : Nd := .mk 0 [] 0 ⟨#[]⟩ 0 0 false []
/-- What Core returns. -/
def CoreF (n : Nd) : Nd × Int := if Td.checkN n ≠ 0 then (nil0, Td.checkN n) else if 4000 < wtN 1000 n then (nil0, 110) else (coreI n, 0)
theorem chk_num : ∀ (l : List (Nat × Nd)) (T : List ByteArray), Td.chkF T l = 0 → ∀ p ∈ l, Td.kind p.2 = 6 → (T.length : Int) < Td.num p.2 ∧ Td.num p.2 ≤ 31 ∧ Td.num p.2 ≤ T.length + (Td.groups l).length
  | [], T, h, p, hp, _ => by cases hp
  | x :: l, T, h, p, hp, hk => by
    have hgr : Td.groups (x :: l) = (if Td.kind x.2 = 6 then [Td.name x.2] else []) ++ Td.groups l := by
      unfold Td.groups
      by_cases h6 : Td.kind x.2 = 6 <;> simp [h6]
    rw [Td.chkF] at h
    by_cases hf : Td.fitsB x.2 = false
    · rw [if_pos hf] at h; cases h
    rw [if_neg hf] at h
    by_cases h6 : Td.kind x.2 = 6
    · rw [if_neg (by omega)] at h
      by_cases h1 : Td.num x.2 ≠ (T.length : Int) + 1
      · rw [if_pos h1] at h; cases h
      rw [if_neg h1] at h
      by_cases h2 : 31 < Td.num x.2
      · rw [if_pos h2] at h; cases h
      rw [if_neg h2] at h
      by_cases h3 : Td.hit T (Td.name x.2) = true
      · rw [if_pos h3] at h; cases h
      rw [if_neg h3] at h
      rw [hgr, if_pos h6, List.length_append]
      rcases List.mem_cons.1 hp with rfl | hp
      · simp; omega
      · have := chk_num l _ h p hp hk
        simp at this ⊢
        omega
    · rw [if_pos h6] at h
      rw [hgr, if_neg h6]
      rcases List.mem_cons.1 hp with rfl | hp
      · exact absurd hk h6
      · exact chk_num l T h p hp hk
theorem chk_fits : ∀ (l : List (Nat × Nd)) (T : List ByteArray), Td.chkF T l = 0 → ∀ p ∈ l, Td.fitsB p.2 = true
  | [], T, h, p, hp => by cases hp
  | x :: l, T, h, p, hp => by
    rw [Td.chkF] at h
    by_cases hf : Td.fitsB x.2 = false
    · rw [if_pos hf] at h; cases h
    rw [if_neg hf] at h
    have hx : Td.fitsB x.2 = true := by simpa using hf
    rcases List.mem_cons.1 hp with rfl | hp
    · exact hx
    by_cases h6 : Td.kind x.2 = 6
    · rw [if_neg (by omega)] at h
      by_cases h1 : Td.num x.2 ≠ (T.length : Int) + 1
      · rw [if_pos h1] at h; cases h
      rw [if_neg h1] at h
      by_cases h2 : 31 < Td.num x.2
      · rw [if_pos h2] at h; cases h
      rw [if_neg h2] at h
      by_cases h3 : Td.hit T (Td.name x.2) = true
      · rw [if_pos h3] at h; cases h
      rw [if_neg h3] at h
      exact chk_fits l _ h p hp
    · rw [if_pos h6] at h
      exact chk_fits l T h p hp
/-- What a tree that Check takes is. -/
def Pg (G : Nat) (x : Int) : Prop := 1 ≤ x ∧ x ≤ 31 ∧ x ≤ G
theorem check_all {n : Nd} (h : Td.checkN n = 0) : AllN (Qt (Pg (Td.groups (Td.all 1000 1 n)).length)) n ∧ hgt n ≤ 1000 := by
  unfold Td.checkN at h
  by_cases hd : 1000 < Td.dep 1001 n
  · rw [if_pos hd] at h; cases h
  rw [if_neg hd] at h
  have hh := hgt_of 1000 n (show Td.dep 1001 n ≤ 1000 by omega)
  refine ⟨allN_of 1000 1 n hh (fun p hp => ⟨chk_fits _ _ h p hp, fun hk => ?_⟩), hh⟩
  have := chk_num _ _ h p hp hk
  simp at this
  exact ⟨by omega, by omega, by omega⟩
end Nm
theorem nil0_on (S : Nat → Prop) (W : World) : NdOn S W nil0 [.int .i64 0, .slice none 0 0, .int .i64 0, .string ⟨#[]⟩, .int .i64 0, .int .i64 0, .bool false, .slice none 0 0] :=
  NdOn.mk (fun _ => []) ⟨by unfold I64; omega, by unfold I64; omega, by unfold I64; omega, by unfold I64; omega⟩ RRowOn.nil (Nat.zero_le _) (Nat.zero_le _) (fun j h => by cases h) (fun j h => by cases h)
set_option maxRecDepth 100000 in
set_option maxHeartbeats 8000000 in
theorem bigCore_any (W : World) (n : Nd) (cs : List Value) (hn : NdIs W n cs) (hlen : (Td.all 1000 1 n).length ≤ 1000000) :
    Calls Try.prog 13 #[.agg cs.toArray] W fun e w' => ∃ cs' : List Value, e = .returned (.tuple #[.agg cs'.toArray, .int .i64 (CoreF n).2]) ∧ NwP (fun b => W.heap.size ≤ b) w' (CoreF n).1 cs' ∧ Below W.heap.size W w' := by
  obtain ⟨vs, a, cap, C, hC⟩ := hn.cells
  obtain ⟨sa, sk, sc, rfl⟩ : ∃ a k c, vs = .slice a k c := by obtain ⟨a, c, h, -⟩ := hC.set; exact ⟨a, _, c, h⟩
  have hcs := hC.eq
  subst hcs
  obtain ⟨L, hL9⟩ : ∃ L, (Td.subs n).length = L := ⟨_, rfl⟩
  rw [hL9] at hn ⊢
  have HCK := Lib.hid (fun (w : World) (hw : Below W.heap.size W w) => trCheck_any w n _ (hn.kept hw) hlen)
  have HWT := Lib.hid (fun (w : World) (hw : Below W.heap.size W w) => bigWeight_any w n _ (hn.kept hw))
  have HCO : Hid (Td.checkN n = 0 → wtN 1000 n ≤ 4000 → ∀ w, Below W.heap.size W w → Calls Try.prog 22 #[.agg #[.int .i64 (Td.kind n), .slice sa sk sc, .int .i64 (Td.num n), .string (Td.name n), .int .i64 (Td.mn n), .int .i64 (Td.mx n), .bool (Td.lazy n), .slice a L cap]] w fun e w' => ∃ cs' : List Value, e = .returned (.agg cs'.toArray) ∧ NwP (fun b => w.heap.size ≤ b) w' (coreI n) cs' ∧ Below w.heap.size w w') := Lib.hid (fun h0 h1 w hw => by
    obtain ⟨ha, hh⟩ := check_all h0
    rw [wt_st 1000 n hh] at h1
    exact coreOk _ (fun x hx => hx.2.1) 1000 w n _ ⟨ha, h1, hh⟩ (hn.kept hw))
  have HCF : Hid (CoreF n = if Td.checkN n ≠ 0 then (nil0, Td.checkN n) else if 4000 < wtN 1000 n then (nil0, 110) else (coreI n, 0)) := Lib.hid rfl
  obtain ⟨K, hK⟩ : ∃ K, Td.checkN n = K := ⟨_, rfl⟩
  obtain ⟨T, hT⟩ : ∃ T, wtN 1000 n = T := ⟨_, rfl⟩
  obtain ⟨R, hR⟩ : ∃ R, CoreF n = R := ⟨_, rfl⟩
  rw [hK] at HCK HCO HCF
  rw [hT] at HWT HCO HCF
  rw [hR] at HCF ⊢
  clear hK hT hR hn hC hL9 hlen
  obtain ⟨W1, hW1⟩ : ∃ W1, (W.alloc (.cells #[.int .i64 (Td.kind n), .slice sa sk sc, .int .i64 (Td.num n), .string (Td.name n), .int .i64 (Td.mn n), .int .i64 (Td.mx n), .bool (Td.lazy n), .slice a L cap] 25)).alloc (.cells #[.int .i64 0, .slice none 0 0, .int .i64 0, .string ⟨#[]⟩, .int .i64 0, .int .i64 0, .bool false, .slice none 0 0] 25) = W1 := ⟨_, rfl⟩
  have HB1 : Hid (Below W.heap.size W W1) := Lib.hid (by rw [← hW1]; exact ((Below.refl _ _).alloc (Nat.le_refl _) _).alloc (by simp) _)
  have HX1 : Hid (W1.heap[W.heap.size]? = some (.cells #[.int .i64 (Td.kind n), .slice sa sk sc, .int .i64 (Td.num n), .string (Td.name n), .int .i64 (Td.mn n), .int .i64 (Td.mx n), .bool (Td.lazy n), .slice a L cap] 25 (0, 0))) := Lib.hid (by
    rw [← hW1]
    exact (Below.heap_alloc _ _ _ (by simp)).trans (heap_alloc_new _ _))
  have HY1 : Hid (W1.heap[W.heap.size + 1]? = some (.cells #[.int .i64 0, .slice none 0 0, .int .i64 0, .string ⟨#[]⟩, .int .i64 0, .int .i64 0, .bool false, .slice none 0 0] 25 (0, 0))) := Lib.hid (by rw [← hW1]; exact alloc2_new _ _ _)
  have hs1 : W1.heap.size = W.heap.size + 2 := by rw [← hW1]; simp
  have HW1 := Lib.hid hW1
  clear hW1
  go_enter Try.func13, Try.ntmps13
  go_wp2_with fail
  rw [HW1.out]
  refine (HCK.out W1 HB1.out).mono ?_
  rintro e w2 ⟨rfl, hb2⟩
  have HB2 := Lib.hid (HB1.out.trans (hb2.mono HB1.out.size))
  have HX2 := Lib.hid ((hb2.block _ (by omega)).trans HX1.out)
  have HY2 := Lib.hid ((hb2.block _ (by omega)).trans HY1.out)
  have hs2 := hb2.size
  clear hb2 HB1 HX1 HY1 HCK
  by_cases hk : K = 0
  · subst hk
    obtain ⟨p0, p1, p2, p3, p4, p5, p6, p7⟩ := nbox_cells HX2.out
    rw [if_neg (by simp)] at HCF
    go_wp2_with fail
    refine (HWT.out w2 HB2.out).mono ?_
    rintro e w3 ⟨rfl, hb3⟩
    have HB3 := Lib.hid (HB2.out.trans (hb3.mono HB2.out.size))
    have HX3 := Lib.hid ((hb3.block _ (by omega)).trans HX2.out)
    have HY3 := Lib.hid ((hb3.block _ (by omega)).trans HY2.out)
    have hs3 := hb3.size
    clear hb3 HB2 HX2 HY2 HWT p0 p1 p2 p3 p4 p5 p6 p7
    by_cases hw : 4000 < T
    · rw [if_pos hw] at HCF
      have hw' : (4000 : Int) < (T : Int) := by omega
      obtain ⟨c0, c1, c2, c3, c4, c5, c6, c7⟩ := nbox_cells HY3.out
      have f0 := nbox_frozen HY3.out 0
      have f1 := nbox_frozen HY3.out 1
      have f2 := nbox_frozen HY3.out 2
      have f3 := nbox_frozen HY3.out 3
      have f4 := nbox_frozen HY3.out 4
      have f5 := nbox_frozen HY3.out 5
      have f6 := nbox_frozen HY3.out 6
      have f7 := nbox_frozen HY3.out 7
      go_wp2
      (try simp only [Exit.inBlock, Exit.then])
      refine ret_ndC rfl (W.heap.size + 1) _ _ rfl rfl (set8_blk _ _ _ _ _ _ _ _ _ _ HY3.out) rfl rfl ?_
      rw [HCF.out]
      refine ⟨[_, _, _, _, _, _, _, _], rfl, ?_, set8_below HB3.out _ (by omega) _ _ _ _ _ _ _ _⟩
      exact nil0_on _ _
    · rw [if_neg hw] at HCF
      have hw' : ¬ (4000 : Int) < (T : Int) := by omega
      obtain ⟨p0, p1, p2, p3, p4, p5, p6, p7⟩ := nbox_cells HX3.out
      have HC3 := Lib.hid (HCO.out (by first | exact trivial | rfl) (by omega) w3 HB3.out)
      clear HCO
      go_wp2_with fail
      refine HC3.out.mono ?_
      rintro e w5 ⟨cs5, rfl, hn5, hb5⟩
      have HB5 := Lib.hid (HB3.out.trans (hb5.mono HB3.out.size))
      have HY5 := Lib.hid ((hb5.block _ (by omega)).trans HY3.out)
      have HN5 := Lib.hid hn5
      obtain ⟨vs5, a5, cap5, Y5, hxe5, hset5, -, -⟩ := hn5.parts
      obtain ⟨pa, pk, pc, rfl⟩ : ∃ a k c, vs5 = .slice a k c := by obtain ⟨a, c, h, -⟩ := hset5.1; exact ⟨a, _, c, h⟩
      subst hxe5
      have hs5 := hb5.size
      clear hset5 hn5 hb5 p0 p1 p2 p3 p4 p5 p6 p7
      obtain ⟨c0, c1, c2, c3, c4, c5, c6, c7⟩ := nbox_cells HY5.out
      have f0 := nbox_frozen HY5.out 0
      have f1 := nbox_frozen HY5.out 1
      have f2 := nbox_frozen HY5.out 2
      have f3 := nbox_frozen HY5.out 3
      have f4 := nbox_frozen HY5.out 4
      have f5 := nbox_frozen HY5.out 5
      have f6 := nbox_frozen HY5.out 6
      have f7 := nbox_frozen HY5.out 7
      obtain ⟨R2, hR2⟩ : ∃ R2, coreI n = R2 := ⟨_, rfl⟩
      rw [hR2] at HN5 HCF ⊢
      clear hR2
      go_wp2
      (try simp only [Exit.inBlock, Exit.then])
      refine ret_ndC rfl (W.heap.size + 1) _ _ rfl rfl (set8_blk _ _ _ _ _ _ _ _ _ _ HY5.out) rfl rfl ?_
      rw [HCF.out]
      refine ⟨[_, _, _, _, _, _, _, _], rfl, ?_, set8_below HB5.out _ (by omega) _ _ _ _ _ _ _ _⟩
      exact nw_set8 _ _ _ _ _ _ _ _ HN5.out (by omega) (by omega)
  · rw [if_pos hk] at HCF
    obtain ⟨c0, c1, c2, c3, c4, c5, c6, c7⟩ := nbox_cells HY2.out
    have f0 := nbox_frozen HY2.out 0
    have f1 := nbox_frozen HY2.out 1
    have f2 := nbox_frozen HY2.out 2
    have f3 := nbox_frozen HY2.out 3
    have f4 := nbox_frozen HY2.out 4
    have f5 := nbox_frozen HY2.out 5
    have f6 := nbox_frozen HY2.out 6
    have f7 := nbox_frozen HY2.out 7
    go_wp2
    (try simp only [Exit.inBlock, Exit.then])
    refine ret_ndC rfl (W.heap.size + 1) _ _ rfl rfl (set8_blk _ _ _ _ _ _ _ _ _ _ HY2.out) rfl rfl ?_
    rw [HCF.out]
    refine ⟨[_, _, _, _, _, _, _, _], rfl, ?_, set8_below HB2.out _ (by omega) _ _ _ _ _ _ _ _⟩
    exact nil0_on _ _
end Go.Proofs.Ythhdlcckboiecaa
namespace Go.Proofs.Ythhdlcckboiecaa
open Go.RowKit Go.Shelf
attribute [local go_sem] Oper.semAt_some
set_option linter.unusedVariables false
def DescOkN (Wb : World) (l n1 N M : Nat) (J Jx : List (NdX Wb) → World → Prop) (Pd : Nd → Prop) (k : Nat) : Prop :=
  ∀ (d : Nat) (nd : Nd) (cs : List Value) (pre : List (NdX Wb)) (W : World), d + k = M + 1 → NdIs Wb nd cs → Pd nd → Below Wb.heap.size Wb W → J pre W → pre.length + (Td.all k d nd).length ≤ N → n1 ≤ W.heap.size →
    Calls Try.prog 25 #[.agg cs.toArray, .int .i64 (d : Int), .int .i64 (M : Int), .func (.yield l) #[] #[]] W (StopsAt Wb Wb.heap.size n1 k d nd J Jx pre W)
set_option maxRecDepth 100000 in
set_option maxHeartbeats 4000000 in
theorem desc_stepN (Wb : World) (l n1 N M : Nat) (hM : M ≤ 100000) (J Jx : List (NdX Wb) → World → Prop) (B0 : Nat) (hJ : AbidesFrom B0 J)
    (Pd : Nd → Prop) (hPd : ∀ n, Pd n → ∀ m ∈ Td.subs n, Pd m)
    (hY : ∀ pre (x : NdX Wb) W, J pre W → Pd x.1.2.1 → pre.length < N → YieldAt Fence.wide 0 Try.prog l (encN x) W fun e W' => (e = .returned (.bool true) ∧ J (pre ++ [x]) W' ∧ KpN Wb.heap.size n1 W W') ∨ (e = .returned (.bool false) ∧ Jx (pre ++ [x]) W'))
    (k : Nat) (ih : 1 ≤ k → DescOkN Wb l n1 N M J Jx Pd k) : DescOkN Wb l n1 N M J Jx Pd (k + 1) := by
  intro d nd cs pre W hd hnd hpn hb hJ0 hN hn1
  have HPS := Lib.hid (hPd nd hpn)
  have hbs := hb.size
  have hJa : ∀ pre W o, J pre W → J pre (W.alloc o) := fun pre W o h => hJ pre W _ none h (World.grownBy_alloc W o none) (fun r e => by cases e)
  obtain ⟨x, hx⟩ : ∃ x : NdX Wb, x = ⟨(d, nd, cs), hnd⟩ := ⟨_, rfl⟩
  have hallp : 1 ≤ (Td.all (k + 1) d nd).length := Td.all_len_pos k d nd
  have hy := yield_wide (100000) (hY pre x (W.alloc (.cells cs.toArray 25)) (hJa _ _ _ hJ0) (by rw [hx]; exact hpn) (by omega))
  have hxe : encN x = #[.int .i64 (d : Int), .agg cs.toArray] := by rw [hx]; rfl
  rw [hxe] at hy
  have HXP : Hid (ndP x = (d, nd)) := Lib.hid (by rw [hx]; rfl)
  have HALL : Hid (Td.all (k + 1) d nd = (d, nd) :: (Td.subs nd).flatMap (Td.all k (d + 1))) := Lib.hid (by rw [Td.all])
  have HBB := Lib.hid hb
  have HJA := Lib.hid hJa
  have HN := Lib.hid hN
  have IH := Lib.hid ih
  have HND := Lib.hid hnd
  obtain ⟨vs, a, cap, C, hC⟩ := hnd.cells
  have hcs := hC.eq
  have hlen := hC.len
  have HSUB := Lib.hid hC.sub
  have HNEW := Lib.hid (heap_alloc_new W (.cells cs.toArray 25))
  have HKA : Hid (KpN Wb.heap.size n1 W (W.alloc (.cells cs.toArray 25))) := Lib.hid (KpN.alloc W _ (by omega))
  clear hx hxe ih hJa hJ hY hC hb hJ0 hN hallp hnd hPd hpn
  subst hcs
  obtain ⟨L, hL⟩ : ∃ L, (Td.subs nd).length = L := ⟨_, rfl⟩
  rw [hL] at hlen HSUB HNEW hy HKA
  rw [hL]
  have HL := Lib.hid hL
  clear hL
  refine (callsIn_wide (n := 100001)).1 ?_
  refine callsIn_of_wp Try.func25 rfl trivial ?_ rfl
  simp only [Try.ntmps25, List.size_toArray, List.length_cons, List.length_nil, Nat.reduceAdd, Nat.reduceSub, Array.replicate_succ, Array.replicate_zero, List.push_toArray, List.append_toArray, List.nil_append, List.cons_append]
  obtain ⟨fn, tmps, assign, body, hyy, hR⟩ := hy
  gi_wp2
  refine hR.mono ?_
  clear hR hyy
  rintro e W3 (⟨rfl, hJ3, hk3⟩ | ⟨rfl, hJx3⟩)
  · have hbx : W3.cell? ⟨W.heap.size, 7, none⟩ = some (.slice a L cap) := by
      have := kp_box hk3 hn1 HNEW.out 7
      simpa using this
    have HJ3 := Lib.hid hJ3
    have HK3 := Lib.hid (kpN_t HKA.out hk3)
    have HB3 := Lib.hid (HBB.out.trans HK3.out.below)
    clear hJ3 hk3
    by_cases hk0 : k = 0
    · subst hk0
      have hdM : (d : Int) = (M : Int) := by omega
      have hdM' : d = M := by omega
      subst hdM'
      have HE : Hid (Td.all 1 d nd = [(d, nd)]) := Lib.hid (by rw [HALL.out]; simp [Td.all])
      gi_wp2
      go_ret
      exact .inl ⟨rfl, ⟨[x], by rw [HE.out]; simp [HXP.out], HJ3.out⟩, HK3.out⟩
    · have hdM : ¬ (d : Int) = (M : Int) := by omega
      have hdw : IntKind.i64.wrap ((d : Int) + 1) = ((d + 1 : Nat) : Int) := by rw [IntKind.wrap_i64]; omega
      have HIH := Lib.hid (IH.out (by omega))
      have hn3 : n1 ≤ W3.heap.size := by have := HK3.out.below.size; omega
      gi_wp2
      rw [show ((d : Int) == (M : Int)) = false from beq_eq_false_iff_ne.2 (by omega)]
      gi_loopw [10, 22] (fun bx iv wr => ∃ (i : Nat) (xs : List (NdX Wb)), i ≤ L ∧ iv = .int .i64 (i : Int) ∧ Hid (xs.map ndP = ((Td.subs nd).take i).flatMap (Td.all k (d + 1))) ∧ Hid (J (pre ++ (x :: xs)) wr) ∧ Hid (KpN Wb.heap.size n1 W wr)) (fun _ iv _ => L - (intOf iv).toNat)
      case atStart => exact ⟨0, [], Nat.zero_le _, rfl, Lib.hid (by simp), HJ3, HK3⟩
      case round =>
        obtain ⟨i, xs, hi, rfl, HXS, HJS, HKS⟩ := hrel
        by_cases hlt : i < L
        · obtain ⟨b, off, m, u0, u1, u2, u3, u4, u5, u6, u7, rfl, hbl, hm, hnd, q0, q1, q2, q3, q4, q5, q6, q7⟩ := HSUB.out i hlt
          have hbw : Below Wb.heap.size Wb wr := HBB.out.trans HKS.out.below
          have kc : ∀ o v, Wb.cell? ⟨b, o, none⟩ = some v → wr.cell? ⟨b, o, none⟩ = some v := fun o v h => (hbw.cell (p := ⟨b, o, none⟩) hbl).trans h
          replace q0 := kc _ _ q0; replace q1 := kc _ _ q1; replace q2 := kc _ _ q2; replace q3 := kc _ _ q3
          replace q4 := kc _ _ q4; replace q5 := kc _ _ q5; replace q6 := kc _ _ q6; replace q7 := kc _ _ q7
          have hbl2 : b < wr.heap.size := Nat.lt_of_lt_of_le hbl hbw.size
          obtain ⟨f1, f2, f3, f4, F1⟩ := hnd.form
          obtain ⟨rfl, rfl, rfl, rfl, rfl, rfl, rfl, rfl⟩ := F1
          have HFM := Lib.hid (Td.flat_succ (Td.subs nd) (Td.all k (d + 1)) i m hm)
          have hle : (pre ++ (x :: xs)).length + (Td.all k (d + 1) m).length ≤ N := by
            have h1 := HN.out
            have h2 := congrArg List.length HXS.out
            have h3 := congrArg List.length HFM.out
            have h4 := Td.flat_le (Td.subs nd) (Td.all k (d + 1)) (i + 1)
            rw [HALL.out, List.length_cons] at h1
            rw [List.length_map] at h2
            rw [List.length_append] at h3
            rw [List.length_append, List.length_cons]
            omega
          have hwr : n1 ≤ wr.heap.size := by have := HKS.out.below.size; omega
          have hcall := fun o => HIH.out (d + 1) m _ (pre ++ (x :: xs)) (wr.alloc o) (by omega) hnd (HPS.out m (List.mem_of_getElem? hm)) (hbw.alloc hbw.size o) (HJA.out _ _ o HJS.out) hle (by simp; omega)
          have HC := Lib.hid hcall
          have HKW : Hid (∀ o, KpN Wb.heap.size n1 wr (wr.alloc o)) := Lib.hid (fun o => KpN.alloc wr o hbw.size)
          clear kc hm hnd hbw hle hcall
          gi_wp2_with fail
          refine ⟨trivial, ?_⟩
          refine (callsIn_wide.2 (HC.out _)).mono ?_
          rintro e w5 (⟨rfl, ⟨ys, hys, hj5⟩, hk5⟩ | ⟨rfl, q, hq, hx5⟩)
          · have HYS : Hid ((xs ++ ys).map ndP = ((Td.subs nd).take (i + 1)).flatMap (Td.all k (d + 1))) := Lib.hid (by rw [List.map_append, HXS.out, hys, HFM.out])
            have HJ5 : Hid (J (pre ++ (x :: (xs ++ ys))) w5) := Lib.hid (by rw [List.append_assoc] at hj5; exact hj5)
            have HK5 := Lib.hid (kpN_t HKS.out (kpN_t (HKW.out _) hk5))
            clear hys hj5 hk5 q0 q1 q2 q3 q4 q5 q6 q7
            gi_wp2
            go_roundw
            case rel => exact ⟨i + 1, xs ++ ys, by omega, by go_num, HYS, HJ5, HK5⟩
            case measure => simp [intOf]; omega
          · have HQ : Hid ((x :: (xs ++ q)).map ndP <+: Td.all (k + 1) d nd) := Lib.hid (by
              rw [HALL.out, List.map_cons, HXP.out, List.map_append, HXS.out]
              refine List.cons_prefix_cons.2 ⟨rfl, ?_⟩
              refine List.IsPrefix.trans (List.prefix_append_right_inj _ |>.2 hq) ?_
              rw [← HFM.out]
              exact ⟨((Td.subs nd).drop (i + 1)).flatMap (Td.all k (d + 1)), by rw [← List.flatMap_append, List.take_append_drop]⟩)
            have HX5 : Hid (Jx (pre ++ (x :: (xs ++ q))) w5) := Lib.hid (by rw [List.append_assoc] at hx5; exact hx5)
            clear hq hx5 q0 q1 q2 q3 q4 q5 q6 q7
            gi_wp2
            go_ret
            exact .inr ⟨rfl, _, HQ.out, HX5.out⟩
        · obtain rfl : i = L := by omega
          have HE : Hid ((x :: xs).map ndP = Td.all (k + 1) d nd) := Lib.hid (by
            have := HXS.out
            rw [List.take_of_length_le (by rw [HL.out]; exact Nat.le_refl _)] at this
            rw [HALL.out, List.map_cons, HXP.out, this])
          gi_wp2
          go_ret
          exact .inl ⟨rfl, ⟨_, HE.out, HJS.out⟩, HKS.out⟩
  · have HX3 := Lib.hid hJx3
    have HQ : Hid ([x].map ndP <+: Td.all (k + 1) d nd) := Lib.hid (by
      rw [HALL.out, List.map_cons, HXP.out]
      exact List.cons_prefix_cons.2 ⟨rfl, List.nil_prefix⟩)
    clear hJx3
    gi_wp2
    go_ret
    exact .inr ⟨rfl, _, HQ.out, HX3.out⟩
end Go.Proofs.Ythhdlcckboiecaa
