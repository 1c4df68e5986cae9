/- The landed norm: concatenate. -/
import Derived.Test.YthhdlcckboiecaaGp6
import Derived.Test.YthhdlcckboiecaaGp19
namespace Go.Proofs.Ythhdlcckboiecaa
open Go.RowKit
set_option linter.unusedVariables false
set_option linter.unusedSimpArgs false
namespace Nm
/-- The parts of a core one after another. -/
def catL (A : List Nd) : List Nd := A.flatMap (fun n => if Td.kind n = 1 then [] else if Td.kind n = 7 then Td.subs n else [n])
/-- Trees one after another. -/
def catN (A : List Nd) : Nd := match catL A with
  | [] => leaf1
  | [x] => x
  | x :: y :: l => .mk 7 [] 0 ⟨#[]⟩ 0 0 false (x :: y :: l)
theorem catL_snoc (A : List Nd) (n : Nd) : catL (A ++ [n]) = catL A ++ (if Td.kind n = 1 then [] else if Td.kind n = 7 then Td.subs n else [n]) := by unfold catL; rw [List.flatMap_append]; simp
theorem catL_take (A : List Nd) (i : Nat) : (catL (A.take i)).length ≤ (catL A).length := by
  have h : catL A = catL (A.take i) ++ catL (A.drop i) := by
    unfold catL
    rw [← List.flatMap_append, List.take_append_drop]
  rw [h, List.length_append]
  omega
theorem catN_none {A : List Nd} (h : (catL A).length = 0) : catN A = leaf1 := by
  have e := List.eq_nil_of_length_eq_zero h
  unfold catN; rw [e]
theorem catN_one {A : List Nd} (h : (catL A).length = 1) (x : Nd) (hx : (catL A)[0]? = some x) : catN A = x := by
  match e : catL A, h, hx with
  | [y], _, hx =>
    have : y = x := by simpa using hx
    unfold catN; rw [e, this]
theorem catN_more {A : List Nd} (h : 2 ≤ (catL A).length) : catN A = .mk 7 [] 0 ⟨#[]⟩ 0 0 false (catL A) := by
  match e : catL A, h with
  | x :: y :: l, _ => unfold catN; rw [e]
end Nm
/-- An owned row's nodes, laid open. -/
theorem NwOwn.at {S : Nat → Prop} {W : World} {base : Nat} {v : Value} {A : List Nd} (h : NwOwn S W base v A) (h0 : 0 < A.length) : ∃ g cap, v = .slice (some ⟨g, 0, none⟩) A.length cap ∧ base ≤ g ∧ g < W.heap.size ∧ A.length ≤ cap ∧
    ∀ j (hj : j < A.length), ∃ cs, NwP S W A[j] cs ∧ ∀ q, q < 8 → W.cell? ⟨g, j * 8 + q, none⟩ = cs[q]? := by
  obtain ⟨X, h1, h2⟩ := h
  have h2' := h2
  rcases h2.2 with ⟨_, e⟩ | ⟨g, cap, cur, e, hb, hg, h3, h4, _⟩
  · omega
  · subst e
    refine ⟨g, cap, rfl, hb, (Array.getElem?_eq_some_iff.1 hg).1, h3, fun j hj => ?_⟩
    obtain ⟨x, hx, hn⟩ := h1.2 j hj
    refine ⟨x, hn.mono (fun b hb => ⟨hb.1, hb.2.1⟩), fun q hq => ?_⟩
    have := World.ownsRow.cellAt h2' (j * 8 + q) (by omega)
    rw [this]
    exact flat8_at X h1.is.len8 j q x hx hq
set_option maxRecDepth 100000 in
set_option maxHeartbeats 8000000 in
theorem concatenate_any (lo : Nat) (W : World) (A : List Nd) (X : List (List Value)) (N : Nat) (hN : A.length = N) (h0 : 0 < N) (hN1 : N ≤ 1000000) (b off cap : Nat) (hA : NdsOn (fun b => lo ≤ b ∧ b < W.heap.size) W A X) (hb : b < W.heap.size)
    (hrow : ∀ j u, X.flatten[j]? = some u → W.cell? ((⟨b, off, none⟩ : Addr).add j) = some u) (h8 : ∀ m ∈ A, Td.kind m = 7 → 0 < (Td.subs m).length) (hL : (Nm.catL A).length ≤ 1000000) (hlo : lo ≤ W.heap.size) :
    Calls Try.prog 35 #[.slice (some ⟨b, off, none⟩) N cap] W fun e w' => ∃ cs : List Value, e = .returned (.agg cs.toArray) ∧ NwP (fun b => lo ≤ b) w' (Nm.catN A) cs ∧ Below W.heap.size W w' := by
  have HAA := Lib.hid hA
  have HROW := Lib.hid hrow
  have HH8 := Lib.hid h8
  have HLL := Lib.hid hL
  have HNN := Lib.hid hN
  clear hA hrow h8 hL hN
  go_enter Try.func35, Try.ntmps35
  go_wp2
  go_loopw [3, 8] (fun cv iv wr => ∃ (i : Nat), i ≤ N ∧ iv = .int .i64 (i : Int) ∧ Hid (NwOwn (fun b => lo ≤ b ∧ b ≠ W.heap.size) wr (W.heap.size + 1) cv (Nm.catL (A.take i))) ∧ Hid (wr.heap[W.heap.size]? = some (.cells #[.int .i64 0, .slice none 0 0, .int .i64 0, .string ⟨#[]⟩, .int .i64 0, .int .i64 0, .bool false, .slice none 0 0] 25 (0, 0))) ∧ Hid (Below W.heap.size W wr) ∧ W.heap.size + 1 ≤ wr.heap.size) (fun _ iv _ => N - (intOf iv).toNat)
  case atStart => exact ⟨0, Nat.zero_le _, rfl, Lib.hid (NwOwn.nil _ _ _), Lib.hid (heap_alloc_new W _), Lib.hid ((Below.refl _ _).alloc (Nat.le_refl _) _), by simp⟩
  case round =>
    obtain ⟨i, hi, rfl, HO, HR, HB, hsz⟩ := hrel
    by_cases hlt : i < N
    · obtain ⟨x, hx, hn⟩ := HAA.out.2 i (by rw [HNN.out]; exact hlt)
      obtain ⟨m, hm⟩ : ∃ m, A[i]'(by rw [HNN.out]; exact hlt) = m := ⟨_, rfl⟩
      have hsnoc : A.take (i + 1) = A.take i ++ [m] := by rw [List.take_succ_eq_append_getElem (by rw [HNN.out]; exact hlt), hm]
      rw [hm] at hn
      have hlen9 := Nat.le_trans (Nm.catL_take A (i + 1)) HLL.out
      rw [hsnoc, Nm.catL_snoc, List.length_append] at hlen9
      have HSN : Hid (Nm.catL (A.take (i + 1)) = Nm.catL (A.take i) ++ (if Td.kind m = 1 then [] else if Td.kind m = 7 then Td.subs m else [m])) := Lib.hid (by rw [hsnoc, Nm.catL_snoc])
      have hm8 : Td.kind m = 7 → 0 < (Td.subs m).length := HH8.out m (by rw [← hm]; exact List.getElem_mem _)
      obtain ⟨vs, a8, cap8, Y, hxe, hset, hY, hYr⟩ := hn.parts
      have hnw : NdOn (fun b => (lo ≤ b ∧ b ≠ W.heap.size) ∧ b < W.heap.size) wr m x := (NdOn.kept HB.out.size (fun b hb _ => HB.out.block b hb.2) hn).mono (fun b hb => ⟨⟨hb.1, by omega⟩, hb.2⟩)
      have hYw : NdsOn (fun b => (lo ≤ b ∧ b ≠ W.heap.size) ∧ b < W.heap.size) wr (Td.subs m) Y := (NdsOn.kept HB.out.size (fun b hb _ => HB.out.block b hb.2) hY).mono (fun b hb => ⟨⟨hb.1, by omega⟩, hb.2⟩)
      have hx8 : x.length = 8 := hn.is.len
      have hq : ∀ k, k < 8 → wr.cell? ⟨b, off + i * 8 + k, none⟩ = x[k]? := fun k hk => by
        have e1 := flat8_at X HAA.out.is.len8 i k x hx hk
        have e2 : x[k]? = some x[k] := List.getElem?_eq_getElem (by omega)
        have e3 := HROW.out (i * 8 + k) x[k] (by rw [e1, e2])
        rw [Addr.add_lit] at e3
        rw [e2, Nat.add_assoc]
        exact (HB.out.cell (p := ⟨b, off + (i * 8 + k), none⟩) hb).trans e3
      have hlt1 := HO.out.lt
      obtain ⟨cA, cC, rfl⟩ := HO.out.slice
      subst hxe
      obtain ⟨sa, sk, sc, rfl⟩ : ∃ a k c, vs = .slice a k c := by obtain ⟨a, c, h, -⟩ := hset.1; exact ⟨a, _, c, h⟩
      have q0 := hq 0 (by omega)
      have q1 := hq 1 (by omega)
      have q2 := hq 2 (by omega)
      have q3 := hq 3 (by omega)
      have q4 := hq 4 (by omega)
      have q5 := hq 5 (by omega)
      have q6 := hq 6 (by omega)
      have q7 := hq 7 (by omega)
      simp only [Nat.add_zero, List.getElem?_cons_zero, List.getElem?_cons_succ] at q0 q1 q2 q3 q4 q5 q6 q7
      have hbl : b < wr.heap.size := Nat.lt_of_lt_of_le hb HB.out.size
      have k0 : (0 : Int) ≤ (i : Int) := by omega
      have k1 : (i : Int) < (N : Int) := by omega
      obtain ⟨wr1, hwr1⟩ : ∃ wr1, wr.alloc (.cells #[.int .i64 (Td.kind m), .slice sa sk sc, .int .i64 (Td.num m), .string (Td.name m), .int .i64 (Td.mn m), .int .i64 (Td.mx m), .bool (Td.lazy m), .slice a8 (Td.subs m).length cap8] 25) = wr1 := ⟨_, rfl⟩
      have hb1 : Below wr.heap.size wr wr1 := by rw [← hwr1]; exact (Below.refl _ _).alloc (Nat.le_refl _) _
      have hs1 : wr1.heap.size = wr.heap.size + 1 := by rw [← hwr1]; simp
      have HO1 := HO.out.below hb1
      have hR1 := (hb1.block W.heap.size (by omega)).trans HR.out
      have HB1 := HB.out.trans (hb1.mono HB.out.size)
      by_cases hk1 : Td.kind m = 1
      · have HOW : Hid (NwOwn (fun b => lo ≤ b ∧ b ≠ W.heap.size) wr1 (W.heap.size + 1) (.slice cA (Nm.catL (A.take i)).length cC) (Nm.catL (A.take (i + 1)))) := Lib.hid (by rw [HSN.out, if_pos hk1, List.append_nil]; exact HO1)
        have HRW := Lib.hid hR1
        have HBW := Lib.hid HB1
        have hsW : W.heap.size + 1 ≤ wr1.heap.size := by omega
        have HW1 := Lib.hid hwr1
        clear hR1 HB1 HO1 hs1 hb1 hwr1 hYr hnw hYw hn hY hset hx hx8 hq hlt1
        rw [← HW1.out] at HOW HRW HBW hsW
        rw [hk1] at HOW HRW HBW hsW
        go_wp2
        go_roundw
        case rel => exact ⟨i + 1, by omega, by go_num, HOW, HRW, HBW, hsW⟩
        case measure => simp [intOf]; omega
      · by_cases hk8 : Td.kind m = 7
        · obtain ⟨b8, off8, rfl, hS8, hb8, hc8⟩ := hYr (hm8 hk8)
          rw [if_neg hk1, if_pos hk8] at hlen9
          obtain ⟨v', W', hrun, hown', hbel', -⟩ := append_nw (S := fun b => lo ≤ b ∧ b ≠ W.heap.size) wr1 (W.heap.size + 1) _ _ HO1 (by omega) (by omega) (Td.subs m) Y _ rfl (hm8 hk8) (by omega) ⟨b8, off8, none⟩
            (fun j u hu => by
              have h9 := hc8 j u hu
              rw [Addr.add_lit] at h9 ⊢
              exact (HB1.cell (p := ⟨b8, off8 + j, none⟩) hb8).trans h9)
            ((NdsOn.kept hb1.size (fun b hb' hl => hb1.block b hl) hYw).mono (fun b hb' => ⟨hb'.1, by omega, fun e => by have := (hlt1 b e).1; omega⟩)) cap8
          have HOW : Hid (NwOwn (fun b => lo ≤ b ∧ b ≠ W.heap.size) W' (W.heap.size + 1) v' (Nm.catL (A.take (i + 1)))) := Lib.hid (by rw [HSN.out, if_neg hk1, if_pos hk8]; exact hown')
          have HRW := Lib.hid ((hbel'.block W.heap.size (by omega)).trans hR1)
          have HBW := Lib.hid (HB1.trans (hbel'.mono (by omega)))
          have hsW : W.heap.size + 1 ≤ W'.heap.size := by have := hbel'.size; omega
          rw [← hwr1, hk8] at hrun
          have HRUN := Lib.hid hrun
          clear hrun hR1 HB1 HO1 hbel' hown' hs1 hb1 hwr1 hYr hc8 hnw hYw hn hY hset hx hx8 hq hlt1
          go_wp2_with (at_builtin; (refine wpList_append_run rfl _ _ 23 rfl _ _ v' W' rfl rfl HRUN.out ?_))
          go_roundw
          case rel => exact ⟨i + 1, by omega, by go_num, HOW, HRW, HBW, hsW⟩
          case measure => simp [intOf]; omega
        · rw [if_neg hk1, if_neg hk8] at hlen9
          obtain ⟨wr2, hwr2⟩ : ∃ wr2, wr1.alloc (.cells #[.int .i64 (Td.kind m), .slice sa sk sc, .int .i64 (Td.num m), .string (Td.name m), .int .i64 (Td.mn m), .int .i64 (Td.mx m), .bool (Td.lazy m), .slice a8 (Td.subs m).length cap8] 25) = wr2 := ⟨_, rfl⟩
          have hb2 : Below wr1.heap.size wr1 wr2 := by rw [← hwr2]; exact (Below.refl _ _).alloc (Nat.le_refl _) _
          have hs2 : wr2.heap.size = wr1.heap.size + 1 := by rw [← hwr2]; simp
          have HO2 := HO1.below hb2
          have hR2 := (hb2.block W.heap.size (by omega)).trans hR1
          have HB2 := HB1.trans (hb2.mono HB1.size)
          have hX2 : wr2.heap[wr1.heap.size]? = some (.cells #[.int .i64 (Td.kind m), .slice sa sk sc, .int .i64 (Td.num m), .string (Td.name m), .int .i64 (Td.mn m), .int .i64 (Td.mx m), .bool (Td.lazy m), .slice a8 (Td.subs m).length cap8] 25 (0, 0)) := by rw [← hwr2]; exact heap_alloc_new _ _
          have hnw2 : NdOn (fun b => (lo ≤ b ∧ b ≠ W.heap.size) ∧ b < W.heap.size) wr2 m _ := NdOn.kept hb2.size (fun b hb' hl => hb2.block b hl) (NdOn.kept hb1.size (fun b hb' hl => hb1.block b hl) hnw)
          obtain ⟨v', W', hrun, hown', hbel', -⟩ := append_nw (S := fun b => lo ≤ b ∧ b ≠ W.heap.size) wr2 (W.heap.size + 1) _ _ HO2 (by omega) (by omega) [m] [_] 1 rfl (by omega) (by omega) ⟨wr1.heap.size, 0, none⟩
            (fun j u hu => by
              rw [Addr.add_lit, Nat.zero_add]
              simp only [World.cell?, hX2]
              simpa using hu)
            (((NdsOn.nil _ wr2).snoc hnw2).mono (fun b hb' => ⟨hb'.1, by omega, fun e => by have := (hlt1 b e).1; omega⟩)) 1
          have HOW : Hid (NwOwn (fun b => lo ≤ b ∧ b ≠ W.heap.size) W' (W.heap.size + 1) v' (Nm.catL (A.take (i + 1)))) := Lib.hid (by rw [HSN.out, if_neg hk1, if_neg hk8]; exact hown')
          have HRW := Lib.hid ((hbel'.block W.heap.size (by omega)).trans hR2)
          have HBW := Lib.hid (HB2.trans (hbel'.mono (by omega)))
          have hsW : W.heap.size + 1 ≤ W'.heap.size := by have := hbel'.size; omega
          rw [hs1, ← hwr2, ← hwr1] at hrun
          have HRUN := Lib.hid hrun
          clear hrun hR1 HB1 HO1 hbel' hown' hs1 hb1 hwr1 hYr hnw hYw hn hY hset hx hx8 hq hlt1 hwr2 hb2 hs2 HO2 hR2 HB2 hX2 hnw2
          go_wp2_with (at_builtin; (refine wpList_append_run rfl _ _ 23 rfl _ _ v' W' rfl rfl HRUN.out ?_))
          go_roundw
          case rel => exact ⟨i + 1, by omega, by go_num, HOW, HRW, HBW, hsW⟩
          case measure => simp [intOf]; omega
    · obtain rfl : i = N := by omega
      have hAN : A.take i = A := List.take_of_length_le (by rw [HNN.out]; exact Nat.le_refl _)
      rw [hAN] at HO
      obtain ⟨L9, hL9⟩ : ∃ L9, (Nm.catL A).length = L9 := ⟨_, rfl⟩
      by_cases z0 : L9 = 0
      · obtain ⟨cA, cC, hcv⟩ := HO.out.slice
        rw [hL9] at hcv
        subst hcv
        have HNODE : Hid (∀ w : World, NwP (fun b => lo ≤ b) w (Nm.catN A) leafC) := Lib.hid (fun w => by
          rw [Nm.catN_none (by rw [hL9]; exact z0)]
          exact NdOn.mk (fun _ => []) ⟨by unfold I64; omega, by unfold I64; omega, by unfold I64; omega, by unfold I64; omega⟩ RRowOn.nil (Nat.zero_le _) (Nat.zero_le _) (fun j h => by cases h) (fun j h => by cases h))
        have z0i : (L9 : Int) = 0 := by omega
        have c0 : wr.cell? ⟨W.heap.size, 0, none⟩ = some (.int .i64 0) := by simp [World.cell?, HR.out]
        have f0 : wr.frozen? ⟨W.heap.size, 0, none⟩ = false := by simp [World.frozen?, HR.out]
        have c1 : wr.cell? ⟨W.heap.size, 1, none⟩ = some (.slice none 0 0) := by simp [World.cell?, HR.out]
        have f1 : wr.frozen? ⟨W.heap.size, 1, none⟩ = false := by simp [World.frozen?, HR.out]
        have c2 : wr.cell? ⟨W.heap.size, 2, none⟩ = some (.int .i64 0) := by simp [World.cell?, HR.out]
        have f2 : wr.frozen? ⟨W.heap.size, 2, none⟩ = false := by simp [World.frozen?, HR.out]
        have c3 : wr.cell? ⟨W.heap.size, 3, none⟩ = some (.string ⟨#[]⟩) := by simp [World.cell?, HR.out]
        have f3 : wr.frozen? ⟨W.heap.size, 3, none⟩ = false := by simp [World.frozen?, HR.out]
        have c4 : wr.cell? ⟨W.heap.size, 4, none⟩ = some (.int .i64 0) := by simp [World.cell?, HR.out]
        have f4 : wr.frozen? ⟨W.heap.size, 4, none⟩ = false := by simp [World.frozen?, HR.out]
        have c5 : wr.cell? ⟨W.heap.size, 5, none⟩ = some (.int .i64 0) := by simp [World.cell?, HR.out]
        have f5 : wr.frozen? ⟨W.heap.size, 5, none⟩ = false := by simp [World.frozen?, HR.out]
        have c6 : wr.cell? ⟨W.heap.size, 6, none⟩ = some (.bool false) := by simp [World.cell?, HR.out]
        have f6 : wr.frozen? ⟨W.heap.size, 6, none⟩ = false := by simp [World.frozen?, HR.out]
        have c7 : wr.cell? ⟨W.heap.size, 7, none⟩ = some (.slice none 0 0) := by simp [World.cell?, HR.out]
        have f7 : wr.frozen? ⟨W.heap.size, 7, none⟩ = false := by simp [World.frozen?, HR.out]
        go_wp2
        (try simp only [Exit.inBlock, Exit.then])
        refine ret_ndN rfl W.heap.size _ rfl (set8_blk _ _ _ _ _ _ _ _ _ _ HR.out) rfl rfl ?_
        refine ⟨[_, _, _, _, _, _, _, _], rfl, ?_, set8_below HB.out _ (Nat.le_refl _) _ _ _ _ _ _ _ _⟩
        exact HNODE.out _
      · by_cases z1 : L9 = 1
        · obtain ⟨g, cap9, hcv, hg, hgl, hcap, hat⟩ := HO.out.at (by rw [hL9]; omega)
          rw [hL9] at hcv hcap
          subst hcv
          obtain ⟨y, hy, hyc⟩ := hat 0 (by rw [hL9]; omega)
          have HNODE : Hid (NwP (fun b => lo ≤ b ∧ b ≠ W.heap.size) wr (Nm.catN A) y) := Lib.hid (by
            rw [Nm.catN_one (by rw [hL9]; exact z1) _ (List.getElem?_eq_getElem (by rw [hL9]; omega))]
            exact hy)
          obtain ⟨vs, a8, cap8, Y, hxe, hset, hY, hYr⟩ := hy.parts
          subst hxe
          obtain ⟨sa, sk, sc, rfl⟩ : ∃ a k c, vs = .slice a k c := by obtain ⟨a, c, h, -⟩ := hset.1; exact ⟨a, _, c, h⟩
          have z1i : (L9 : Int) = 1 := by omega
          have y0 := hyc 0 (by omega)
          have y1 := hyc 1 (by omega)
          have y2 := hyc 2 (by omega)
          have y3 := hyc 3 (by omega)
          have y4 := hyc 4 (by omega)
          have y5 := hyc 5 (by omega)
          have y6 := hyc 6 (by omega)
          have y7 := hyc 7 (by omega)
          simp only [Nat.zero_mul, Nat.zero_add, List.getElem?_cons_zero, List.getElem?_cons_succ] at y0 y1 y2 y3 y4 y5 y6 y7
          clear hY hYr hset hy hyc hat
          have c0 : wr.cell? ⟨W.heap.size, 0, none⟩ = some (.int .i64 0) := by simp [World.cell?, HR.out]
          have f0 : wr.frozen? ⟨W.heap.size, 0, none⟩ = false := by simp [World.frozen?, HR.out]
          have c1 : wr.cell? ⟨W.heap.size, 1, none⟩ = some (.slice none 0 0) := by simp [World.cell?, HR.out]
          have f1 : wr.frozen? ⟨W.heap.size, 1, none⟩ = false := by simp [World.frozen?, HR.out]
          have c2 : wr.cell? ⟨W.heap.size, 2, none⟩ = some (.int .i64 0) := by simp [World.cell?, HR.out]
          have f2 : wr.frozen? ⟨W.heap.size, 2, none⟩ = false := by simp [World.frozen?, HR.out]
          have c3 : wr.cell? ⟨W.heap.size, 3, none⟩ = some (.string ⟨#[]⟩) := by simp [World.cell?, HR.out]
          have f3 : wr.frozen? ⟨W.heap.size, 3, none⟩ = false := by simp [World.frozen?, HR.out]
          have c4 : wr.cell? ⟨W.heap.size, 4, none⟩ = some (.int .i64 0) := by simp [World.cell?, HR.out]
          have f4 : wr.frozen? ⟨W.heap.size, 4, none⟩ = false := by simp [World.frozen?, HR.out]
          have c5 : wr.cell? ⟨W.heap.size, 5, none⟩ = some (.int .i64 0) := by simp [World.cell?, HR.out]
          have f5 : wr.frozen? ⟨W.heap.size, 5, none⟩ = false := by simp [World.frozen?, HR.out]
          have c6 : wr.cell? ⟨W.heap.size, 6, none⟩ = some (.bool false) := by simp [World.cell?, HR.out]
          have f6 : wr.frozen? ⟨W.heap.size, 6, none⟩ = false := by simp [World.frozen?, HR.out]
          have c7 : wr.cell? ⟨W.heap.size, 7, none⟩ = some (.slice none 0 0) := by simp [World.cell?, HR.out]
          have f7 : wr.frozen? ⟨W.heap.size, 7, none⟩ = false := by simp [World.frozen?, HR.out]
          go_wp2
          (try simp only [Exit.inBlock, Exit.then])
          refine ret_ndN rfl W.heap.size _ rfl (set8_blk _ _ _ _ _ _ _ _ _ _ HR.out) rfl rfl ?_
          refine ⟨[_, _, _, _, _, _, _, _], rfl, ?_, set8_below HB.out _ (Nat.le_refl _) _ _ _ _ _ _ _ _⟩
          exact NdOn.mono (fun b hb => ⟨hb.1.1, by rw [set8_size]; exact hb.2⟩) (NdOn.kept (by rw [set8_size]; exact Nat.le_refl _) (fun b hb _ => set8_other _ _ _ _ _ _ _ _ _ _ b hb.1.2) HNODE.out)
        · have HNODE := Lib.hid (HO.out.node (k := 7) (num := 0) (mn := 0) (mx := 0) (name := ⟨#[]⟩) (lz := false) (fun b hb => ⟨by omega, by omega⟩) (by rw [hL9]; omega) (by have := HLL.out; omega) ⟨by unfold I64; omega, by unfold I64; omega, by unfold I64; omega, by unfold I64; omega⟩ (Nat.zero_le _))
          rw [← Nm.catN_more (by rw [hL9]; omega)] at HNODE
          obtain ⟨cA, cC, hcv⟩ := HO.out.slice
          rw [hL9] at hcv
          subst hcv
          have z0i : ¬ (L9 : Int) = 0 := by omega
          have z1i : ¬ (L9 : Int) = 1 := by omega
          have c0 : wr.cell? ⟨W.heap.size, 0, none⟩ = some (.int .i64 0) := by simp [World.cell?, HR.out]
          have f0 : wr.frozen? ⟨W.heap.size, 0, none⟩ = false := by simp [World.frozen?, HR.out]
          have c1 : wr.cell? ⟨W.heap.size, 1, none⟩ = some (.slice none 0 0) := by simp [World.cell?, HR.out]
          have f1 : wr.frozen? ⟨W.heap.size, 1, none⟩ = false := by simp [World.frozen?, HR.out]
          have c2 : wr.cell? ⟨W.heap.size, 2, none⟩ = some (.int .i64 0) := by simp [World.cell?, HR.out]
          have f2 : wr.frozen? ⟨W.heap.size, 2, none⟩ = false := by simp [World.frozen?, HR.out]
          have c3 : wr.cell? ⟨W.heap.size, 3, none⟩ = some (.string ⟨#[]⟩) := by simp [World.cell?, HR.out]
          have f3 : wr.frozen? ⟨W.heap.size, 3, none⟩ = false := by simp [World.frozen?, HR.out]
          have c4 : wr.cell? ⟨W.heap.size, 4, none⟩ = some (.int .i64 0) := by simp [World.cell?, HR.out]
          have f4 : wr.frozen? ⟨W.heap.size, 4, none⟩ = false := by simp [World.frozen?, HR.out]
          have c5 : wr.cell? ⟨W.heap.size, 5, none⟩ = some (.int .i64 0) := by simp [World.cell?, HR.out]
          have f5 : wr.frozen? ⟨W.heap.size, 5, none⟩ = false := by simp [World.frozen?, HR.out]
          have c6 : wr.cell? ⟨W.heap.size, 6, none⟩ = some (.bool false) := by simp [World.cell?, HR.out]
          have f6 : wr.frozen? ⟨W.heap.size, 6, none⟩ = false := by simp [World.frozen?, HR.out]
          have c7 : wr.cell? ⟨W.heap.size, 7, none⟩ = some (.slice none 0 0) := by simp [World.cell?, HR.out]
          have f7 : wr.frozen? ⟨W.heap.size, 7, none⟩ = false := by simp [World.frozen?, HR.out]
          go_wp2
          (try simp only [Exit.inBlock, Exit.then])
          refine ret_ndN rfl W.heap.size _ rfl (set8_blk _ _ _ _ _ _ _ _ _ _ HR.out) rfl rfl ?_
          refine ⟨[_, _, _, _, _, _, _, _], rfl, ?_, set8_below HB.out _ (Nat.le_refl _) _ _ _ _ _ _ _ _⟩
          exact NdOn.mono (fun b hb => ⟨hb.1.1, by rw [set8_size]; exact hb.2⟩) (NdOn.kept (by rw [set8_size]; exact Nat.le_refl _) (fun b hb _ => set8_other _ _ _ _ _ _ _ _ _ _ b hb.1.2) HNODE.out)
end Go.Proofs.Ythhdlcckboiecaa
