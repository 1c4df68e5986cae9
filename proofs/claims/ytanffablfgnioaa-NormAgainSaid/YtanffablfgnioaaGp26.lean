/- The landed norm: copies. · The landed norm: optional. -/
import Derived.Test.YtanffablfgnioaaGp23
import Derived.Test.YtanffablfgnioaaGp25
import Derived.Test.YtanffablfgnioaaGp3
import Derived.IntWalk
namespace Go.Proofs.Ytanffablfgnioaa
open Go.RowKit
set_option linter.unusedVariables false
set_option linter.unusedSimpArgs false
theorem rep_snoc (x : Nd) (j : Nat) : List.replicate (j + 1) x = List.replicate j x ++ [x] := by rw [List.replicate_succ']
set_option maxRecDepth 100000 in
set_option maxHeartbeats 8000000 in
theorem copies_any (lo d : Nat) (W : World) (x : Nd) (cs : List Value) (m : Nat) (hx : NdOn (fun b => lo ≤ b ∧ b < W.heap.size) W x cs) (hlo : lo ≤ W.heap.size) (hS : Shal d x) (h1 : 1 ≤ m) (hm : m ≤ 2000) :
    Calls Try.prog 63 #[.agg cs.toArray, .int .i64 (m : Int)] W fun e w' => ∃ v, e = .returned v ∧ NwOwn (fun b => lo ≤ b) w' (W.heap.size + 1) v (List.replicate m x) ∧ Below W.heap.size W w' := by
  obtain ⟨vs, a8, cap8, Y, hxe, hset, -, -⟩ := hx.parts
  obtain ⟨sa, sk, sc, rfl⟩ : ∃ a k c, vs = .slice a k c := by obtain ⟨a, c, h, -⟩ := hset.1; exact ⟨a, _, c, h⟩
  subst hxe
  have HX := Lib.hid hx
  have HS := Lib.hid hS
  clear hset hx hS
  obtain ⟨O, hO⟩ : ∃ O : Obj, (.cells #[.int .i64 (Td.kind x), .slice sa sk sc, .int .i64 (Td.num x), .string (Td.name x), .int .i64 (Td.mn x), .int .i64 (Td.mx x), .bool (Td.lazy x), .slice a8 (Td.subs x).length cap8] 25 : Obj) = O := ⟨_, rfl⟩
  have HOW : Hid (NwOwn (fun b => lo ≤ b) ((W.alloc O).alloc O) (W.heap.size + 1) (.slice (some ⟨W.heap.size + 1, 0, none⟩) 1 1) (List.replicate 1 x)) := Lib.hid (by
    have h9 := World.ownsRow_lit (base := W.heap.size + 1) (e := 25) (size := 8) (W.alloc O) #[.int .i64 (Td.kind x), .slice sa sk sc, .int .i64 (Td.num x), .string (Td.name x), .int .i64 (Td.mn x), .int .i64 (Td.mx x), .bool (Td.lazy x), .slice a8 (Td.subs x).length cap8] 1 (by simp) (by unfold maxLen; omega) (by simp)
    rw [hO] at h9
    have e1 : (W.alloc O).heap.size = W.heap.size + 1 := by simp
    rw [e1] at h9
    refine ⟨[_], (NdsOn.nil _ _).snoc ((HX.out.kept (W' := (W.alloc O).alloc O) (by simp; omega) (fun b hb hl => ?_)).mono (fun b hb => ⟨hb.1, by simp; omega, fun e => ?_⟩)), by simpa using h9⟩
    · exact (Below.heap_alloc _ _ _ (by simp; omega)).trans (Below.heap_alloc _ _ _ hl)
    · simp only [Value.ownBlock] at e; injection e with e; omega)
  have HBX : Hid (((W.alloc O).alloc O).heap[W.heap.size]? = some O) := Lib.hid ((Below.heap_alloc _ _ _ (by simp)).trans (heap_alloc_new W O))
  have HB0 : Hid (Below W.heap.size W ((W.alloc O).alloc O)) := Lib.hid (((Below.refl _ _).alloc (Nat.le_refl _) _).alloc (by simp) _)
  go_enter Try.func63, Try.ntmps63
  subst hO
  go_wp2
  go_loopw [5] (fun ov wr => ∃ (j : Nat) (cA : Option Addr) (cC : Nat), 1 ≤ j ∧ j ≤ m ∧ ov = .slice cA j cC ∧ Hid (NwOwn (fun b => lo ≤ b) wr (W.heap.size + 1) (.slice cA j cC) (List.replicate j x)) ∧ Hid (wr.heap[W.heap.size]? = some (.cells #[.int .i64 (Td.kind x), .slice sa sk sc, .int .i64 (Td.num x), .string (Td.name x), .int .i64 (Td.mn x), .int .i64 (Td.mx x), .bool (Td.lazy x), .slice a8 (Td.subs x).length cap8] 25 (0, 0))) ∧ Hid (Below W.heap.size W wr) ∧ W.heap.size + 2 ≤ wr.heap.size) (fun ov _ => m - (match ov with | .slice _ n _ => n | _ => 0))
  case atStart => exact ⟨1, _, _, by omega, by omega, rfl, HOW, HBX, HB0, by simp⟩
  case round =>
    obtain ⟨j, cA, cC, j1, jm, rfl, HO, HR, HB, hsz⟩ := hrel
    by_cases hlt : j < m
    · have hlt' : (j : Int) < (m : Int) := by omega
      have b0 := rowcell HR.out 0
      have b1 := rowcell HR.out 1
      have b2 := rowcell HR.out 2
      have b3 := rowcell HR.out 3
      have b4 := rowcell HR.out 4
      have b5 := rowcell HR.out 5
      have b6 := rowcell HR.out 6
      have b7 := rowcell HR.out 7
      simp only [List.getElem?_toArray, List.getElem?_cons_zero, List.getElem?_cons_succ] at b0 b1 b2 b3 b4 b5 b6 b7
      have HC := Lib.hid (clone_any d wr x [.int .i64 (Td.kind x), .slice sa sk sc, .int .i64 (Td.num x), .string (Td.name x), .int .i64 (Td.mn x), .int .i64 (Td.mx x), .bool (Td.lazy x), .slice a8 (Td.subs x).length cap8] HS.out (HX.out.is.kept HB.out))
      have HL1 := Lib.hid HO.out.lt
      go_wp2_with fail
      refine HC.out.mono ?_
      rintro e w5 ⟨cs', rfl, hnw, hb5⟩
      have HO5 := HO.out.below hb5
      have HB5 := HB.out.trans (hb5.mono HB.out.size)
      have HR5 : w5.heap[W.heap.size]? = some (.cells #[.int .i64 (Td.kind x), .slice sa sk sc, .int .i64 (Td.num x), .string (Td.name x), .int .i64 (Td.mn x), .int .i64 (Td.mx x), .bool (Td.lazy x), .slice a8 (Td.subs x).length cap8] 25 (0, 0)) := (hb5.block _ (by omega)).trans HR.out
      have hs5 := hb5.size
      obtain ⟨vs, a9, cap9, Y, hxe, hset, -, -⟩ := hnw.parts
      obtain ⟨ta, tk, tc, rfl⟩ : ∃ a k c, vs = .slice a k c := by obtain ⟨a, c, h, -⟩ := hset.1; exact ⟨a, _, c, h⟩
      subst hxe
      clear hset
      obtain ⟨wr2, hwr2⟩ : ∃ wr2, w5.alloc (.cells #[.int .i64 (Td.kind x), .slice ta tk tc, .int .i64 (Td.num x), .string (Td.name x), .int .i64 (Td.mn x), .int .i64 (Td.mx x), .bool (Td.lazy x), .slice a9 (Td.subs x).length cap9] 25) = wr2 := ⟨_, rfl⟩
      have hb2 : Below w5.heap.size w5 wr2 := by rw [← hwr2]; exact (Below.refl _ _).alloc (Nat.le_refl _) _
      have hs2 : wr2.heap.size = w5.heap.size + 1 := by rw [← hwr2]; simp
      have HO2 := HO5.below hb2
      have HB2 := HB5.trans (hb2.mono HB5.size)
      have HR2 : wr2.heap[W.heap.size]? = some (.cells #[.int .i64 (Td.kind x), .slice sa sk sc, .int .i64 (Td.num x), .string (Td.name x), .int .i64 (Td.mn x), .int .i64 (Td.mx x), .bool (Td.lazy x), .slice a8 (Td.subs x).length cap8] 25 (0, 0)) := (hb2.block _ (by omega)).trans HR5
      have hX2 : wr2.heap[w5.heap.size]? = some (.cells #[.int .i64 (Td.kind x), .slice ta tk tc, .int .i64 (Td.num x), .string (Td.name x), .int .i64 (Td.mn x), .int .i64 (Td.mx x), .bool (Td.lazy x), .slice a9 (Td.subs x).length cap9] 25 (0, 0)) := by rw [← hwr2]; exact heap_alloc_new _ _
      have hnw2 : NdOn (fun b => wr.heap.size ≤ b ∧ b < w5.heap.size) wr2 x _ := NdOn.kept hb2.size (fun b hb' hl => hb2.block b hl) hnw
      obtain ⟨v', W', hrun, hown', hbel', -⟩ := append_nw (S := fun b => lo ≤ b) wr2 (W.heap.size + 1) _ _ HO2 (by omega) (by rw [List.length_replicate]; omega) [x] [_] 1 rfl (by omega) (by omega) ⟨w5.heap.size, 0, none⟩
        (fun j u hu => by
          rw [Addr.add_lit, Nat.zero_add]
          simp only [World.cell?, hX2]
          simpa using hu)
        (((NdsOn.nil _ wr2).snoc hnw2).mono (fun b hb' => ⟨by omega, by omega, fun e => by have := (HL1.out b e).2; omega⟩)) 1
      obtain ⟨cA', cC', hv'⟩ := hown'.slice
      have hl' : (List.replicate j x ++ [x]).length = j + 1 := by simp
      rw [hl'] at hv'
      subst hv'
      have HOW2 : Hid (NwOwn (fun b => lo ≤ b) W' (W.heap.size + 1) (.slice cA' (j + 1) cC') (List.replicate (j + 1) x)) := Lib.hid (by rw [rep_snoc]; exact hown')
      have HBW := Lib.hid (HB2.trans (hbel'.mono (by omega)))
      have HRW : Hid (W'.heap[W.heap.size]? = some (.cells #[.int .i64 (Td.kind x), .slice sa sk sc, .int .i64 (Td.num x), .string (Td.name x), .int .i64 (Td.mn x), .int .i64 (Td.mx x), .bool (Td.lazy x), .slice a8 (Td.subs x).length cap8] 25 (0, 0))) := Lib.hid ((hbel'.block _ (by omega)).trans HR2)
      have hsW := hbel'.size
      rw [← hwr2] at hrun
      have HRUN := Lib.hid hrun
      have hz9 : W.heap.size + 2 ≤ W'.heap.size := by omega
      clear hrun hown' hbel' hnw2 hX2 HB2 HO2 hs2 hb2 hwr2 hnw HO5 HB5 HO hb5 HR2 HR5 hl' hsW
      go_wp2_with (at_builtin; (refine wpList_append_run rfl _ _ 23 rfl _ _ _ W' rfl rfl HRUN.out ?_))
      go_roundw
      case rel => exact ⟨j + 1, _, _, by omega, by omega, rfl, HOW2, HRW, HBW, hz9⟩
      case measure => simp; omega
    · obtain rfl : j = m := by omega
      go_wp2
      go_ret
      exact ⟨_, rfl, HO.out, HB.out⟩
end Go.Proofs.Ytanffablfgnioaa
namespace Go.Proofs.Ytanffablfgnioaa
open Go.RowKit
set_option linter.unusedVariables false
set_option maxRecDepth 100000 in
set_option maxHeartbeats 4000000 in
theorem optional_any (W : World) (n : Nd) (cs : List Value) (h : NdIs W n cs) (h0 : 0 ≤ Td.mn n) (h1 : Td.mn n ≤ Td.mx n ∨ Td.mx n = -1) :
    Calls Try.prog 64 #[.agg cs.toArray] W fun e w' => e = .returned (.int .i64 (if Td.mx n = -1 then -1 else Td.mx n - Td.mn n)) ∧ Below W.heap.size W w' := by
  obtain ⟨vs, a, cap, C, hC⟩ := h.cells
  have hcs := hC.eq
  have hb := hC.bd.2.2
  unfold I64 at hb
  subst hcs
  clear hC h
  obtain ⟨X, hX⟩ : ∃ X, Td.mn n = X := ⟨_, rfl⟩
  obtain ⟨Y, hY⟩ : ∃ Y, Td.mx n = Y := ⟨_, rfl⟩
  rw [hX] at h0 h1 hb ⊢
  rw [hY] at h1 hb ⊢
  have HB := Lib.hid ((Below.refl W.heap.size W).alloc (Nat.le_refl _) (.cells #[.int .i64 (Td.kind n), vs, .int .i64 (Td.num n), .string (Td.name n), .int .i64 X, .int .i64 Y, .bool (Td.lazy n), .slice a (Td.subs n).length cap] 25))
  clear hX hY
  have hw : IntKind.i64.wrap (Y - X) = if Y = -1 then IntKind.i64.wrap (Y - X) else Y - X := by
    split
    · rfl
    · rw [IntKind.wrap_i64]; omega
  by_cases hy : Y = -1
  · subst hy
    go_enter Try.func64, Try.ntmps64
    go_wp2
    go_ret
    exact ⟨by simp, HB.out⟩
  · rw [if_neg hy] at hw ⊢
    go_enter Try.func64, Try.ntmps64
    go_wp2
    go_ret
    exact ⟨by first | rfl | rw [hw], HB.out⟩
end Go.Proofs.Ytanffablfgnioaa
