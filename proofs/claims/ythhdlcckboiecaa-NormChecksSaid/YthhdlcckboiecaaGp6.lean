/- The landed norm: alternate: the walk. · The landed norm: slices.Repeat of one node, in a row of its own. -/
import Derived.Test.YthhdlcckboiecaaGp5
import Derived.IntWalk
import Derived.Test.YthhdlcckboiecaaGp2
import Derived.Shelf.Spec.SlicesInsert
namespace Go.Proofs.Ythhdlcckboiecaa
open Go.RowKit
set_option linter.unusedVariables false
set_option linter.unusedSimpArgs false
namespace Nm
/-- The choices of a core's alternative. -/
def altL (A : List Nd) : List Nd := A.flatMap (fun n => if Td.kind n = 8 then Td.subs n else [n])
theorem altL_snoc (A : List Nd) (n : Nd) : altL (A ++ [n]) = altL A ++ (if Td.kind n = 8 then Td.subs n else [n]) := by unfold altL; rw [List.flatMap_append]; simp
theorem altL_take (A : List Nd) (i : Nat) : (altL (A.take i)).length ≤ (altL A).length := by
  have h : altL A = altL (A.take i) ++ altL (A.drop i) := by
    unfold altL
    rw [← List.flatMap_append, List.take_append_drop]
  rw [h, List.length_append]
  omega
end Nm
/-- A node whose parts are an owned row. -/
theorem NwOwn.node {S : Nat → Prop} {W : World} {base : Nat} {v : Value} {A : List Nd} (h : NwOwn S W base v A) (hlo : ∀ b, base ≤ b → S b) (h0 : 0 < A.length) (hlen : A.length ≤ 8796093022208) {k num mn mx : Int} {name : ByteArray} {lz : Bool} (hk : I64 k ∧ I64 num ∧ I64 mn ∧ I64 mx) (hname : name.size ≤ 140737488351232) :
    NwP S W (.mk k [] num name mn mx lz A) [.int .i64 k, .slice none 0 0, .int .i64 num, .string name, .int .i64 mn, .int .i64 mx, .bool lz, v] := by
  obtain ⟨X, h1, h2⟩ := h
  rcases h2.2 with ⟨_, e⟩ | ⟨g, cap, cur, e, hb, hg, h3, h4, h5, h6⟩
  · omega
  · subst e
    refine NdOn.row (X := X) (h1.mono (fun b hb => ⟨hb.1, hb.2.1⟩)) (S := fun b => S b ∧ b < W.heap.size) (g := g) ⟨hlo g hb, (Array.getElem?_eq_some_iff.1 hg).1⟩ hg (fun j hj => ?_) hlen hk RRowOn.nil hname
    rw [← h6]
    have hl := h2.1
    rw [List.getElem?_take_of_lt (by omega)]
    simp
set_option maxRecDepth 100000 in
set_option maxHeartbeats 8000000 in
theorem alternate_any (lo : Nat) (W : World) (A : List Nd) (X : List (List Value)) (N : Nat) (hN : A.length = N) (h0 : 0 < N) (hN1 : N ≤ 1000000) (b off cap : Nat) (hA : NdsOn (fun b => lo ≤ b ∧ b < W.heap.size) W A X) (hb : b < W.heap.size)
    (hrow : ∀ j u, X.flatten[j]? = some u → W.cell? ((⟨b, off, none⟩ : Addr).add j) = some u) (h8 : ∀ m ∈ A, Td.kind m = 8 → 0 < (Td.subs m).length) (hL : (Nm.altL A).length ≤ 1000000) (hlo : lo ≤ W.heap.size) :
    Calls Try.prog 36 #[.slice (some ⟨b, off, none⟩) N cap] W fun e w' => ∃ cs : List Value, e = .returned (.agg cs.toArray) ∧ NwP (fun b => lo ≤ b) w' (.mk 8 [] 0 ⟨#[]⟩ 0 0 false (Nm.altL A)) cs ∧ Below W.heap.size W w' := by
  have HAA := Lib.hid hA
  have HROW := Lib.hid hrow
  have HH8 := Lib.hid h8
  have HLL := Lib.hid hL
  have HNN := Lib.hid hN
  clear hA hrow h8 hL hN
  go_enter Try.func36, Try.ntmps36
  go_wp2
  go_loopw [3, 8] (fun cv iv wr => ∃ (i : Nat), i ≤ N ∧ iv = .int .i64 (i : Int) ∧ Hid (NwOwn (fun b => lo ≤ b ∧ b ≠ W.heap.size) wr (W.heap.size + 1) cv (Nm.altL (A.take i))) ∧ Hid (wr.heap[W.heap.size]? = some (.cells #[.int .i64 0, .slice none 0 0, .int .i64 0, .string ⟨#[]⟩, .int .i64 0, .int .i64 0, .bool false, .slice none 0 0] 25 (0, 0))) ∧ Hid (Below W.heap.size W wr) ∧ W.heap.size + 1 ≤ wr.heap.size) (fun _ iv _ => N - (intOf iv).toNat)
  case atStart => exact ⟨0, Nat.zero_le _, rfl, Lib.hid (NwOwn.nil _ _ _), Lib.hid (heap_alloc_new W _), Lib.hid ((Below.refl _ _).alloc (Nat.le_refl _) _), by simp⟩
  case round =>
    obtain ⟨i, hi, rfl, HO, HR, HB, hsz⟩ := hrel
    by_cases hlt : i < N
    · obtain ⟨x, hx, hn⟩ := HAA.out.2 i (by rw [HNN.out]; exact hlt)
      obtain ⟨m, hm⟩ : ∃ m, A[i]'(by rw [HNN.out]; exact hlt) = m := ⟨_, rfl⟩
      have hsnoc : A.take (i + 1) = A.take i ++ [m] := by rw [List.take_succ_eq_append_getElem (by rw [HNN.out]; exact hlt), hm]
      rw [hm] at hn
      have hlen9 := Nat.le_trans (Nm.altL_take A (i + 1)) HLL.out
      rw [hsnoc, Nm.altL_snoc, List.length_append] at hlen9
      have HSN : Hid (Nm.altL (A.take (i + 1)) = Nm.altL (A.take i) ++ (if Td.kind m = 8 then Td.subs m else [m])) := Lib.hid (by rw [hsnoc, Nm.altL_snoc])
      have hm8 : Td.kind m = 8 → 0 < (Td.subs m).length := HH8.out m (by rw [← hm]; exact List.getElem_mem _)
      obtain ⟨vs, a8, cap8, Y, hxe, hset, hY, hYr⟩ := hn.parts
      have hnw : NdOn (fun b => (lo ≤ b ∧ b ≠ W.heap.size) ∧ b < W.heap.size) wr m x := (NdOn.kept HB.out.size (fun b hb _ => HB.out.block b hb.2) hn).mono (fun b hb => ⟨⟨hb.1, by omega⟩, hb.2⟩)
      have hYw : NdsOn (fun b => (lo ≤ b ∧ b ≠ W.heap.size) ∧ b < W.heap.size) wr (Td.subs m) Y := (NdsOn.kept HB.out.size (fun b hb _ => HB.out.block b hb.2) hY).mono (fun b hb => ⟨⟨hb.1, by omega⟩, hb.2⟩)
      have hx8 : x.length = 8 := hn.is.len
      have hq : ∀ k, k < 8 → wr.cell? ⟨b, off + i * 8 + k, none⟩ = x[k]? := fun k hk => by
        have e1 := flat8_at X HAA.out.is.len8 i k x hx hk
        have e2 : x[k]? = some x[k] := List.getElem?_eq_getElem (by omega)
        have e3 := HROW.out (i * 8 + k) x[k] (by rw [e1, e2])
        rw [Addr.add_lit] at e3
        rw [e2, Nat.add_assoc]
        exact (HB.out.cell (p := ⟨b, off + (i * 8 + k), none⟩) hb).trans e3
      have hlt1 := HO.out.lt
      obtain ⟨cA, cC, rfl⟩ := HO.out.slice
      subst hxe
      obtain ⟨sa, sk, sc, rfl⟩ : ∃ a k c, vs = .slice a k c := by obtain ⟨a, c, h, -⟩ := hset.1; exact ⟨a, _, c, h⟩
      have q0 := hq 0 (by omega)
      have q1 := hq 1 (by omega)
      have q2 := hq 2 (by omega)
      have q3 := hq 3 (by omega)
      have q4 := hq 4 (by omega)
      have q5 := hq 5 (by omega)
      have q6 := hq 6 (by omega)
      have q7 := hq 7 (by omega)
      simp only [Nat.add_zero, List.getElem?_cons_zero, List.getElem?_cons_succ] at q0 q1 q2 q3 q4 q5 q6 q7
      have hbl : b < wr.heap.size := Nat.lt_of_lt_of_le hb HB.out.size
      have k0 : (0 : Int) ≤ (i : Int) := by omega
      have k1 : (i : Int) < (N : Int) := by omega
      obtain ⟨wr1, hwr1⟩ : ∃ wr1, wr.alloc (.cells #[.int .i64 (Td.kind m), .slice sa sk sc, .int .i64 (Td.num m), .string (Td.name m), .int .i64 (Td.mn m), .int .i64 (Td.mx m), .bool (Td.lazy m), .slice a8 (Td.subs m).length cap8] 25) = wr1 := ⟨_, rfl⟩
      have hb1 : Below wr.heap.size wr wr1 := by rw [← hwr1]; exact (Below.refl _ _).alloc (Nat.le_refl _) _
      have hs1 : wr1.heap.size = wr.heap.size + 1 := by rw [← hwr1]; simp
      have HO1 := HO.out.below hb1
      have hR1 := (hb1.block W.heap.size (by omega)).trans HR.out
      have HB1 := HB.out.trans (hb1.mono HB.out.size)
      by_cases hk8 : Td.kind m = 8
      · obtain ⟨b8, off8, rfl, hS8, hb8, hc8⟩ := hYr (hm8 hk8)
        rw [if_pos hk8] at hlen9
        obtain ⟨v', W', hrun, hown', hbel', -⟩ := append_nw (S := fun b => lo ≤ b ∧ b ≠ W.heap.size) wr1 (W.heap.size + 1) _ _ HO1 (by omega) (by omega) (Td.subs m) Y _ rfl (hm8 hk8) (by omega) ⟨b8, off8, none⟩
          (fun j u hu => by
            have h9 := hc8 j u hu
            rw [Addr.add_lit] at h9 ⊢
            exact (HB1.cell (p := ⟨b8, off8 + j, none⟩) hb8).trans h9)
          ((NdsOn.kept hb1.size (fun b hb' hl => hb1.block b hl) hYw).mono (fun b hb' => ⟨hb'.1, by omega, fun e => by have := (hlt1 b e).1; omega⟩)) cap8
        have HOW : Hid (NwOwn (fun b => lo ≤ b ∧ b ≠ W.heap.size) W' (W.heap.size + 1) v' (Nm.altL (A.take (i + 1)))) := Lib.hid (by rw [HSN.out, if_pos hk8]; exact hown')
        have HRW := Lib.hid ((hbel'.block W.heap.size (by omega)).trans hR1)
        have HBW := Lib.hid (HB1.trans (hbel'.mono (by omega)))
        have hsW : W.heap.size + 1 ≤ W'.heap.size := by have := hbel'.size; omega
        rw [← hwr1, hk8] at hrun
        have HRUN := Lib.hid hrun
        clear hrun hR1 HB1 HO1 hbel' hown' hs1 hb1 hwr1 hYr hc8 hnw hYw hn hY hset hx hx8 hq hlt1
        go_wp2_with (at_builtin; (refine wpList_append_run rfl _ _ 23 rfl _ _ v' W' rfl rfl HRUN.out ?_))
        go_roundw
        case rel => exact ⟨i + 1, by omega, by go_num, HOW, HRW, HBW, hsW⟩
        case measure => simp [intOf]; omega
      · rw [if_neg hk8] at hlen9
        obtain ⟨wr2, hwr2⟩ : ∃ wr2, wr1.alloc (.cells #[.int .i64 (Td.kind m), .slice sa sk sc, .int .i64 (Td.num m), .string (Td.name m), .int .i64 (Td.mn m), .int .i64 (Td.mx m), .bool (Td.lazy m), .slice a8 (Td.subs m).length cap8] 25) = wr2 := ⟨_, rfl⟩
        have hb2 : Below wr1.heap.size wr1 wr2 := by rw [← hwr2]; exact (Below.refl _ _).alloc (Nat.le_refl _) _
        have hs2 : wr2.heap.size = wr1.heap.size + 1 := by rw [← hwr2]; simp
        have HO2 := HO1.below hb2
        have hR2 := (hb2.block W.heap.size (by omega)).trans hR1
        have HB2 := HB1.trans (hb2.mono HB1.size)
        have hX2 : wr2.heap[wr1.heap.size]? = some (.cells #[.int .i64 (Td.kind m), .slice sa sk sc, .int .i64 (Td.num m), .string (Td.name m), .int .i64 (Td.mn m), .int .i64 (Td.mx m), .bool (Td.lazy m), .slice a8 (Td.subs m).length cap8] 25 (0, 0)) := by rw [← hwr2]; exact heap_alloc_new _ _
        have hnw2 : NdOn (fun b => (lo ≤ b ∧ b ≠ W.heap.size) ∧ b < W.heap.size) wr2 m _ := NdOn.kept hb2.size (fun b hb' hl => hb2.block b hl) (NdOn.kept hb1.size (fun b hb' hl => hb1.block b hl) hnw)
        obtain ⟨v', W', hrun, hown', hbel', -⟩ := append_nw (S := fun b => lo ≤ b ∧ b ≠ W.heap.size) wr2 (W.heap.size + 1) _ _ HO2 (by omega) (by omega) [m] [_] 1 rfl (by omega) (by omega) ⟨wr1.heap.size, 0, none⟩
          (fun j u hu => by
            rw [Addr.add_lit, Nat.zero_add]
            simp only [World.cell?, hX2]
            simpa using hu)
          (((NdsOn.nil _ wr2).snoc hnw2).mono (fun b hb' => ⟨hb'.1, by omega, fun e => by have := (hlt1 b e).1; omega⟩)) 1
        have HOW : Hid (NwOwn (fun b => lo ≤ b ∧ b ≠ W.heap.size) W' (W.heap.size + 1) v' (Nm.altL (A.take (i + 1)))) := Lib.hid (by rw [HSN.out, if_neg hk8]; exact hown')
        have HRW := Lib.hid ((hbel'.block W.heap.size (by omega)).trans hR2)
        have HBW := Lib.hid (HB2.trans (hbel'.mono (by omega)))
        have hsW : W.heap.size + 1 ≤ W'.heap.size := by have := hbel'.size; omega
        rw [hs1, ← hwr2, ← hwr1] at hrun
        have HRUN := Lib.hid hrun
        clear hrun hR1 HB1 HO1 hbel' hown' hs1 hb1 hwr1 hYr hnw hYw hn hY hset hx hx8 hq hlt1 hwr2 hb2 hs2 HO2 hR2 HB2 hX2 hnw2
        go_wp2_with (at_builtin; (refine wpList_append_run rfl _ _ 23 rfl _ _ v' W' rfl rfl HRUN.out ?_))
        go_roundw
        case rel => exact ⟨i + 1, by omega, by go_num, HOW, HRW, HBW, hsW⟩
        case measure => simp [intOf]; omega
    · obtain rfl : i = N := by omega
      have hAN : A.take i = A := List.take_of_length_le (by rw [HNN.out]; exact Nat.le_refl _)
      rw [hAN] at HO
      obtain ⟨cA, cC, rfl⟩ := HO.out.slice
      have h8l : 0 < (Nm.altL A).length := by
        have h9 := HAA.out.1
        match hA : A, HNN.out with
        | [], e => simp at e; omega
        | m :: A', _ =>
          have h6 := HH8.out m (by simp)
          unfold Nm.altL
          rw [List.flatMap_cons, List.length_append]
          by_cases hk : Td.kind m = 8
          · have := h6 hk; rw [if_pos hk]; omega
          · rw [if_neg hk]; simp; omega
      have HNODE := Lib.hid (HO.out.node (k := 8) (num := 0) (mn := 0) (mx := 0) (name := ⟨#[]⟩) (lz := false) (fun b hb => ⟨by omega, by omega⟩) h8l (by have := HLL.out; omega) ⟨by unfold I64; omega, by unfold I64; omega, by unfold I64; omega, by unfold I64; omega⟩ (Nat.zero_le _))
      have c0 : wr.cell? ⟨W.heap.size, 0, none⟩ = some (.int .i64 0) := by simp [World.cell?, HR.out]
      have f0 : wr.frozen? ⟨W.heap.size, 0, none⟩ = false := by simp [World.frozen?, HR.out]
      have c1 : wr.cell? ⟨W.heap.size, 1, none⟩ = some (.slice none 0 0) := by simp [World.cell?, HR.out]
      have f1 : wr.frozen? ⟨W.heap.size, 1, none⟩ = false := by simp [World.frozen?, HR.out]
      have c2 : wr.cell? ⟨W.heap.size, 2, none⟩ = some (.int .i64 0) := by simp [World.cell?, HR.out]
      have f2 : wr.frozen? ⟨W.heap.size, 2, none⟩ = false := by simp [World.frozen?, HR.out]
      have c3 : wr.cell? ⟨W.heap.size, 3, none⟩ = some (.string ⟨#[]⟩) := by simp [World.cell?, HR.out]
      have f3 : wr.frozen? ⟨W.heap.size, 3, none⟩ = false := by simp [World.frozen?, HR.out]
      have c4 : wr.cell? ⟨W.heap.size, 4, none⟩ = some (.int .i64 0) := by simp [World.cell?, HR.out]
      have f4 : wr.frozen? ⟨W.heap.size, 4, none⟩ = false := by simp [World.frozen?, HR.out]
      have c5 : wr.cell? ⟨W.heap.size, 5, none⟩ = some (.int .i64 0) := by simp [World.cell?, HR.out]
      have f5 : wr.frozen? ⟨W.heap.size, 5, none⟩ = false := by simp [World.frozen?, HR.out]
      have c6 : wr.cell? ⟨W.heap.size, 6, none⟩ = some (.bool false) := by simp [World.cell?, HR.out]
      have f6 : wr.frozen? ⟨W.heap.size, 6, none⟩ = false := by simp [World.frozen?, HR.out]
      have c7 : wr.cell? ⟨W.heap.size, 7, none⟩ = some (.slice none 0 0) := by simp [World.cell?, HR.out]
      have f7 : wr.frozen? ⟨W.heap.size, 7, none⟩ = false := by simp [World.frozen?, HR.out]
      go_wp2
      (try simp only [Exit.inBlock, Exit.then])
      refine ret_ndN rfl W.heap.size _ rfl (set8_blk _ _ _ _ _ _ _ _ _ _ HR.out) rfl rfl ?_
      refine ⟨[_, _, _, _, _, _, _, _], rfl, ?_, set8_below HB.out _ (Nat.le_refl _) _ _ _ _ _ _ _ _⟩
      refine NdOn.mono (fun b hb => ⟨hb.1.1, by rw [set8_size]; exact hb.2⟩) (NdOn.kept (by rw [set8_size]; exact Nat.le_refl _) (fun b hb _ => set8_other _ _ _ _ _ _ _ _ _ _ b hb.1.2) HNODE.out)
end Go.Proofs.Ythhdlcckboiecaa
namespace Go.Proofs.Ythhdlcckboiecaa
open Go.RowKit
set_option linter.unusedVariables false
set_option linter.unusedSimpArgs false
/-- So many times the cells of one element. -/
def repsL (z : List Value) (k : Nat) : List Value := (List.replicate k z).flatten
theorem repsL_len (z : List Value) (hz : z.length = 8) : ∀ k, (repsL z k).length = k * 8
  | 0 => rfl
  | k + 1 => by
    have ih := repsL_len z hz k
    unfold repsL at ih ⊢
    rw [List.replicate_succ, List.flatten_cons, List.length_append, ih, hz]; omega
theorem repsL_add (z : List Value) (a b : Nat) : repsL z (a + b) = repsL z a ++ repsL z b := by
  unfold repsL
  rw [← List.replicate_append_replicate, List.flatten_append]
theorem repsL_one (z : List Value) : repsL z 1 = z := by simp [repsL]
theorem repsL_mem {z : List Value} {k : Nat} {v : Value} (h : v ∈ repsL z k) : v ∈ z := by
  unfold repsL at h
  obtain ⟨l, hl, hv⟩ := List.mem_flatten.mp h
  rw [(List.mem_replicate.mp hl).2] at hv
  exact hv
theorem repsL_get (z : List Value) (hz : z.length = 8) (k j : Nat) (hj : j < k * 8) : (repsL z k)[j]? = z[j % 8]? := by
  induction k generalizing j with
  | zero => omega
  | succ k ih =>
    rw [repsL_add, repsL_one]
    by_cases h : j < k * 8
    · rw [List.getElem?_append_left (by rw [repsL_len z hz]; exact h)]; exact ih j h
    · rw [List.getElem?_append_right (by rw [repsL_len z hz]; omega), repsL_len z hz]
      congr 1; omega
/-- The row's first k elements are there. -/
structure RepTo (cur : Array Value) (z : List Value) (N k : Nat) : Prop where
  size : cur.size = N * 8
  front : cur.toList.take (k * 8) = repsL z k
theorem RepTo.step {cur : Array Value} {z : List Value} {N k k' : Nat} (h : RepTo cur z N k) (hz : z.length = 8) (hk : k + k' ≤ N) :
    RepTo (cur.toList.take (k * 8) ++ repsL z k' ++ cur.toList.drop (k * 8 + (repsL z k').length)).toArray z N (k + k') := by
  have h1 : (cur.toList.take (k * 8)).length = k * 8 := by rw [h.front, repsL_len z hz]
  have h2 := repsL_len z hz k'
  have h3 : cur.toList.length = N * 8 := h.size
  refine ⟨?_, ?_⟩
  · simp only [List.size_toArray, List.length_append, h1, h2, List.length_drop, h3]; omega
  · have h5 : (cur.toList.take (k * 8) ++ repsL z k').length = (k + k') * 8 := by rw [List.length_append, h1, h2]; omega
    rw [List.toList_toArray, List.take_append_of_le_length (by rw [h5]; exact Nat.le_refl _), List.take_of_length_le (by rw [h5]; exact Nat.le_refl _), h.front, ← repsL_add]
theorem RepTo.all {cur : Array Value} {z : List Value} {N : Nat} (h : RepTo cur z N N) : cur = (repsL z N).toArray := by
  have h1 := h.front
  rw [List.take_of_length_le (by rw [Array.length_toList, h.size]; exact Nat.le_refl _)] at h1
  rw [← h1]
theorem RepTo.get {cur : Array Value} {z : List Value} {N k k' : Nat} (h : RepTo cur z N k) (hz : z.length = 8) (hk : k' ≤ k) (j : Nat) (v : Value) (hv : (repsL z k')[j]? = some v) : cur[j]? = some v := by
  have hj : j < k' * 8 := by
    obtain ⟨h1, -⟩ := List.getElem?_eq_some_iff.mp hv
    rwa [repsL_len z hz] at h1
  have e1 : (repsL z k)[j]? = some v := by
    rw [repsL_get z hz k j (by omega), ← hv, repsL_get z hz k' j hj]
  rw [← h.front] at e1
  rw [List.getElem?_take_of_lt (by omega)] at e1
  simpa using e1
theorem cellrowN {W : World} {g : Nat} {cur : Array Value} {t : TypeId} (h : W.heap[g]? = some (.cells cur t (0, 0))) (j : Nat) : W.cell? ⟨g, j, none⟩ = cur[j]? := by
  simp [World.cell?, h]
end Go.Proofs.Ythhdlcckboiecaa
