/- The landed norm: copies. · The landed norm: optional. · The landed norm: isAnyOf. -/
import Derived.Test.YthhdlcckboiecaaGp21
import Derived.Test.YthhdlcckboiecaaGp23
import Derived.Test.YthhdlcckboiecaaGp2
import Derived.Test.YthhdlcckboiecaaGp3
import Derived.IntWalk
import Derived.Test.YthhdlcckboiecaaGp4
namespace Go.Proofs.Ythhdlcckboiecaa
open Go.RowKit
set_option linter.unusedVariables false
set_option linter.unusedSimpArgs false
theorem rep_snoc (x : Nd) (j : Nat) : List.replicate (j + 1) x = List.replicate j x ++ [x] := by rw [List.replicate_succ']
set_option maxRecDepth 100000 in
set_option maxHeartbeats 8000000 in
theorem copies_any (lo d : Nat) (W : World) (x : Nd) (cs : List Value) (m : Nat) (hx : NdOn (fun b => lo ≤ b ∧ b < W.heap.size) W x cs) (hlo : lo ≤ W.heap.size) (hS : Shal d x) (h1 : 1 ≤ m) (hm : m ≤ 2000) :
    Calls Try.prog 53 #[.agg cs.toArray, .int .i64 (m : Int)] W fun e w' => ∃ v, e = .returned v ∧ NwOwn (fun b => lo ≤ b) w' (W.heap.size + 1) v (List.replicate m x) ∧ Below W.heap.size W w' := by
  obtain ⟨vs, a8, cap8, Y, hxe, hset, -, -⟩ := hx.parts
  obtain ⟨sa, sk, sc, rfl⟩ : ∃ a k c, vs = .slice a k c := by obtain ⟨a, c, h, -⟩ := hset.1; exact ⟨a, _, c, h⟩
  subst hxe
  have HX := Lib.hid hx
  have HS := Lib.hid hS
  clear hset hx hS
  obtain ⟨O, hO⟩ : ∃ O : Obj, (.cells #[.int .i64 (Td.kind x), .slice sa sk sc, .int .i64 (Td.num x), .string (Td.name x), .int .i64 (Td.mn x), .int .i64 (Td.mx x), .bool (Td.lazy x), .slice a8 (Td.subs x).length cap8] 25 : Obj) = O := ⟨_, rfl⟩
  have HOW : Hid (NwOwn (fun b => lo ≤ b) ((W.alloc O).alloc O) (W.heap.size + 1) (.slice (some ⟨W.heap.size + 1, 0, none⟩) 1 1) (List.replicate 1 x)) := Lib.hid (by
    have h9 := World.ownsRow_lit (base := W.heap.size + 1) (e := 25) (size := 8) (W.alloc O) #[.int .i64 (Td.kind x), .slice sa sk sc, .int .i64 (Td.num x), .string (Td.name x), .int .i64 (Td.mn x), .int .i64 (Td.mx x), .bool (Td.lazy x), .slice a8 (Td.subs x).length cap8] 1 (by simp) (by unfold maxLen; omega) (by simp)
    rw [hO] at h9
    have e1 : (W.alloc O).heap.size = W.heap.size + 1 := by simp
    rw [e1] at h9
    refine ⟨[_], (NdsOn.nil _ _).snoc ((HX.out.kept (W' := (W.alloc O).alloc O) (by simp; omega) (fun b hb hl => ?_)).mono (fun b hb => ⟨hb.1, by simp; omega, fun e => ?_⟩)), by simpa using h9⟩
    · exact (Below.heap_alloc _ _ _ (by simp; omega)).trans (Below.heap_alloc _ _ _ hl)
    · simp only [Value.ownBlock] at e; injection e with e; omega)
  have HBX : Hid (((W.alloc O).alloc O).heap[W.heap.size]? = some O) := Lib.hid ((Below.heap_alloc _ _ _ (by simp)).trans (heap_alloc_new W O))
  have HB0 : Hid (Below W.heap.size W ((W.alloc O).alloc O)) := Lib.hid (((Below.refl _ _).alloc (Nat.le_refl _) _).alloc (by simp) _)
  go_enter Try.func53, Try.ntmps53
  subst hO
  go_wp2
  go_loopw [5] (fun ov wr => ∃ (j : Nat) (cA : Option Addr) (cC : Nat), 1 ≤ j ∧ j ≤ m ∧ ov = .slice cA j cC ∧ Hid (NwOwn (fun b => lo ≤ b) wr (W.heap.size + 1) (.slice cA j cC) (List.replicate j x)) ∧ Hid (wr.heap[W.heap.size]? = some (.cells #[.int .i64 (Td.kind x), .slice sa sk sc, .int .i64 (Td.num x), .string (Td.name x), .int .i64 (Td.mn x), .int .i64 (Td.mx x), .bool (Td.lazy x), .slice a8 (Td.subs x).length cap8] 25 (0, 0))) ∧ Hid (Below W.heap.size W wr) ∧ W.heap.size + 2 ≤ wr.heap.size) (fun ov _ => m - (match ov with | .slice _ n _ => n | _ => 0))
  case atStart => exact ⟨1, _, _, by omega, by omega, rfl, HOW, HBX, HB0, by simp⟩
  case round =>
    obtain ⟨j, cA, cC, j1, jm, rfl, HO, HR, HB, hsz⟩ := hrel
    by_cases hlt : j < m
    · have hlt' : (j : Int) < (m : Int) := by omega
      have b0 := rowcell HR.out 0
      have b1 := rowcell HR.out 1
      have b2 := rowcell HR.out 2
      have b3 := rowcell HR.out 3
      have b4 := rowcell HR.out 4
      have b5 := rowcell HR.out 5
      have b6 := rowcell HR.out 6
      have b7 := rowcell HR.out 7
      simp only [List.getElem?_toArray, List.getElem?_cons_zero, List.getElem?_cons_succ] at b0 b1 b2 b3 b4 b5 b6 b7
      have HC := Lib.hid (clone_any d wr x [.int .i64 (Td.kind x), .slice sa sk sc, .int .i64 (Td.num x), .string (Td.name x), .int .i64 (Td.mn x), .int .i64 (Td.mx x), .bool (Td.lazy x), .slice a8 (Td.subs x).length cap8] HS.out (HX.out.is.kept HB.out))
      have HL1 := Lib.hid HO.out.lt
      go_wp2_with fail
      refine HC.out.mono ?_
      rintro e w5 ⟨cs', rfl, hnw, hb5⟩
      have HO5 := HO.out.below hb5
      have HB5 := HB.out.trans (hb5.mono HB.out.size)
      have HR5 : w5.heap[W.heap.size]? = some (.cells #[.int .i64 (Td.kind x), .slice sa sk sc, .int .i64 (Td.num x), .string (Td.name x), .int .i64 (Td.mn x), .int .i64 (Td.mx x), .bool (Td.lazy x), .slice a8 (Td.subs x).length cap8] 25 (0, 0)) := (hb5.block _ (by omega)).trans HR.out
      have hs5 := hb5.size
      obtain ⟨vs, a9, cap9, Y, hxe, hset, -, -⟩ := hnw.parts
      obtain ⟨ta, tk, tc, rfl⟩ : ∃ a k c, vs = .slice a k c := by obtain ⟨a, c, h, -⟩ := hset.1; exact ⟨a, _, c, h⟩
      subst hxe
      clear hset
      obtain ⟨wr2, hwr2⟩ : ∃ wr2, w5.alloc (.cells #[.int .i64 (Td.kind x), .slice ta tk tc, .int .i64 (Td.num x), .string (Td.name x), .int .i64 (Td.mn x), .int .i64 (Td.mx x), .bool (Td.lazy x), .slice a9 (Td.subs x).length cap9] 25) = wr2 := ⟨_, rfl⟩
      have hb2 : Below w5.heap.size w5 wr2 := by rw [← hwr2]; exact (Below.refl _ _).alloc (Nat.le_refl _) _
      have hs2 : wr2.heap.size = w5.heap.size + 1 := by rw [← hwr2]; simp
      have HO2 := HO5.below hb2
      have HB2 := HB5.trans (hb2.mono HB5.size)
      have HR2 : wr2.heap[W.heap.size]? = some (.cells #[.int .i64 (Td.kind x), .slice sa sk sc, .int .i64 (Td.num x), .string (Td.name x), .int .i64 (Td.mn x), .int .i64 (Td.mx x), .bool (Td.lazy x), .slice a8 (Td.subs x).length cap8] 25 (0, 0)) := (hb2.block _ (by omega)).trans HR5
      have hX2 : wr2.heap[w5.heap.size]? = some (.cells #[.int .i64 (Td.kind x), .slice ta tk tc, .int .i64 (Td.num x), .string (Td.name x), .int .i64 (Td.mn x), .int .i64 (Td.mx x), .bool (Td.lazy x), .slice a9 (Td.subs x).length cap9] 25 (0, 0)) := by rw [← hwr2]; exact heap_alloc_new _ _
      have hnw2 : NdOn (fun b => wr.heap.size ≤ b ∧ b < w5.heap.size) wr2 x _ := NdOn.kept hb2.size (fun b hb' hl => hb2.block b hl) hnw
      obtain ⟨v', W', hrun, hown', hbel', -⟩ := append_nw (S := fun b => lo ≤ b) wr2 (W.heap.size + 1) _ _ HO2 (by omega) (by rw [List.length_replicate]; omega) [x] [_] 1 rfl (by omega) (by omega) ⟨w5.heap.size, 0, none⟩
        (fun j u hu => by
          rw [Addr.add_lit, Nat.zero_add]
          simp only [World.cell?, hX2]
          simpa using hu)
        (((NdsOn.nil _ wr2).snoc hnw2).mono (fun b hb' => ⟨by omega, by omega, fun e => by have := (HL1.out b e).2; omega⟩)) 1
      obtain ⟨cA', cC', hv'⟩ := hown'.slice
      have hl' : (List.replicate j x ++ [x]).length = j + 1 := by simp
      rw [hl'] at hv'
      subst hv'
      have HOW2 : Hid (NwOwn (fun b => lo ≤ b) W' (W.heap.size + 1) (.slice cA' (j + 1) cC') (List.replicate (j + 1) x)) := Lib.hid (by rw [rep_snoc]; exact hown')
      have HBW := Lib.hid (HB2.trans (hbel'.mono (by omega)))
      have HRW : Hid (W'.heap[W.heap.size]? = some (.cells #[.int .i64 (Td.kind x), .slice sa sk sc, .int .i64 (Td.num x), .string (Td.name x), .int .i64 (Td.mn x), .int .i64 (Td.mx x), .bool (Td.lazy x), .slice a8 (Td.subs x).length cap8] 25 (0, 0))) := Lib.hid ((hbel'.block _ (by omega)).trans HR2)
      have hsW := hbel'.size
      rw [← hwr2] at hrun
      have HRUN := Lib.hid hrun
      have hz9 : W.heap.size + 2 ≤ W'.heap.size := by omega
      clear hrun hown' hbel' hnw2 hX2 HB2 HO2 hs2 hb2 hwr2 hnw HO5 HB5 HO hb5 HR2 HR5 hl' hsW
      go_wp2_with (at_builtin; (refine wpList_append_run rfl _ _ 23 rfl _ _ _ W' rfl rfl HRUN.out ?_))
      go_roundw
      case rel => exact ⟨j + 1, _, _, by omega, by omega, rfl, HOW2, HRW, HBW, hz9⟩
      case measure => simp; omega
    · obtain rfl : j = m := by omega
      go_wp2
      go_ret
      exact ⟨_, rfl, HO.out, HB.out⟩
end Go.Proofs.Ythhdlcckboiecaa
namespace Go.Proofs.Ythhdlcckboiecaa
open Go.RowKit
set_option linter.unusedVariables false
set_option maxRecDepth 100000 in
set_option maxHeartbeats 4000000 in
theorem optional_any (W : World) (n : Nd) (cs : List Value) (h : NdIs W n cs) (h0 : 0 ≤ Td.mn n) (h1 : Td.mn n ≤ Td.mx n ∨ Td.mx n = -1) :
    Calls Try.prog 54 #[.agg cs.toArray] W fun e w' => e = .returned (.int .i64 (if Td.mx n = -1 then -1 else Td.mx n - Td.mn n)) ∧ Below W.heap.size W w' := by
  obtain ⟨vs, a, cap, C, hC⟩ := h.cells
  have hcs := hC.eq
  have hb := hC.bd.2.2
  unfold I64 at hb
  subst hcs
  clear hC h
  obtain ⟨X, hX⟩ : ∃ X, Td.mn n = X := ⟨_, rfl⟩
  obtain ⟨Y, hY⟩ : ∃ Y, Td.mx n = Y := ⟨_, rfl⟩
  rw [hX] at h0 h1 hb ⊢
  rw [hY] at h1 hb ⊢
  have HB := Lib.hid ((Below.refl W.heap.size W).alloc (Nat.le_refl _) (.cells #[.int .i64 (Td.kind n), vs, .int .i64 (Td.num n), .string (Td.name n), .int .i64 X, .int .i64 Y, .bool (Td.lazy n), .slice a (Td.subs n).length cap] 25))
  clear hX hY
  have hw : IntKind.i64.wrap (Y - X) = if Y = -1 then IntKind.i64.wrap (Y - X) else Y - X := by
    split
    · rfl
    · rw [IntKind.wrap_i64]; omega
  by_cases hy : Y = -1
  · subst hy
    go_enter Try.func54, Try.ntmps54
    go_wp2
    go_ret
    exact ⟨by simp, HB.out⟩
  · rw [if_neg hy] at hw ⊢
    go_enter Try.func54, Try.ntmps54
    go_wp2
    go_ret
    exact ⟨by first | rfl | rw [hw], HB.out⟩
end Go.Proofs.Ythhdlcckboiecaa
namespace Go.Proofs.Ythhdlcckboiecaa
open Go.RowKit
open Go.Proofs.Ythhdlcckboiecaa.Nm
set_option linter.unusedVariables false
set_option maxRecDepth 100000 in
set_option maxHeartbeats 4000000 in
theorem index_intsN (W : World) (b n cap : Nat) (l : List Int) (k : Int) (hn : l.length = n) (hn9 : n ≤ 100) (hc : ∀ j (h : j < l.length), W.cell? ⟨b, j, none⟩ = some (.int .i64 l[j])) :
    Calls Try.prog 56 #[.slice (some ⟨b, 0, none⟩) n cap, .int .i64 k] W fun e w' => (∃ r : Int, e = .returned (.int .i64 r) ∧ (0 ≤ r ↔ k ∈ l)) ∧ W = w' := by
  have HC := Lib.hid hc
  have HN := Lib.hid hn
  clear hc hn
  go_enter Try.func56, Try.ntmps56
  go_wp2
  go_loop [8] (fun I => ∃ i : Nat, i ≤ n ∧ I = .int .i64 (i : Int) ∧ Hid (∀ j (h : j < l.length), j < i → k ≠ l[j])) (fun I => n - (intOf I).toNat)
  case atStart => exact ⟨0, by omega, rfl, Lib.hid (fun j _ h => absurd h (by omega))⟩
  case round =>
    obtain ⟨i, hi, rfl, HNO⟩ := hrel
    by_cases hlt : i < n
    · have hil : i < l.length := by rw [HN.out]; exact hlt
      have hx := HC.out i hil
      obtain ⟨z, hz⟩ : ∃ z, l[i] = z := ⟨_, rfl⟩
      rw [hz] at hx
      have HZ := Lib.hid hz
      have k0 : (0 : Int) ≤ (i : Int) := by omega
      have k1 : (i : Int) < (n : Int) := by omega
      clear hz
      by_cases hk : k = z
      · subst hk
        go_wp2
        go_ret
        exact ⟨⟨(i : Int), rfl, fun _ => by rw [← HZ.out]; exact List.getElem_mem hil, fun _ => by omega⟩, rfl⟩
      · have hkz : (k == z) = false := by rw [beq_eq_false_iff_ne]; exact hk
        have HKZ := Lib.hid hk
        clear hk
        go_wp2
        go_round
        case rel =>
          refine ⟨i + 1, by omega, by go_num, Lib.hid (fun j hj hji => ?_)⟩
          rcases Nat.lt_or_ge j i with h | h
          · exact HNO.out j hj h
          · obtain rfl : j = i := by omega
            rw [HZ.out]; exact HKZ.out
        case measure => simp [intOf]; omega
    · obtain rfl : i = n := by omega
      go_wp2
      go_ret
      refine ⟨⟨-1, rfl, fun h => absurd h (by decide), fun h => ?_⟩, rfl⟩
      obtain ⟨j, hj, e⟩ := List.getElem_of_mem h
      exact absurd e.symm (HNO.out j hj (by rw [← HN.out]; exact hj))
set_option maxRecDepth 100000 in
set_option maxHeartbeats 4000000 in
theorem contains_intsN (W : World) (b n cap : Nat) (l : List Int) (k : Int) (hn : l.length = n) (hn9 : n ≤ 100) (hc : ∀ j (h : j < l.length), W.cell? ⟨b, j, none⟩ = some (.int .i64 l[j])) :
    Calls Try.prog 40 #[.slice (some ⟨b, 0, none⟩) n cap, .int .i64 k] W fun e w' => e = .returned (.bool (decide (k ∈ l))) ∧ W = w' := by
  have HI := Lib.hid (index_intsN W b n cap l k hn hn9 hc)
  clear hc hn
  go_enter Try.func40, Try.ntmps40
  go_wp2_with fail
  refine HI.out.mono ?_
  rintro e w' ⟨⟨r, rfl, hr⟩, rfl⟩
  have hd : decide (0 ≤ r) = decide (k ∈ l) := decide_eq_decide.2 hr
  clear hr
  go_wp2
  go_ret
  exact ⟨by first | rw [hd] | rfl, rfl⟩
set_option maxRecDepth 100000 in
set_option maxHeartbeats 4000000 in
theorem any1_any (W : World) (Bk b m c : Nat) (ks : List Int) (hks : ks.length = m) (hm9 : m ≤ 100) (hk : W.cell? ⟨Bk, 0, none⟩ = some (.slice (some ⟨b, 0, none⟩) m c)) (hBk : Bk < W.heap.size) (hb : b < W.heap.size)
    (hc : ∀ j (h : j < ks.length), W.cell? ⟨b, j, none⟩ = some (.int .i64 ks[j])) (x : Nd) (cs : List Value) (h : NdIs W x cs) :
    Calls Try.prog 39 #[.agg cs.toArray, .pointer (some ⟨Bk, 0, none⟩)] W fun e w' => e = .returned (.bool (decide (Td.kind x ∈ ks))) ∧ Below W.heap.size W w' := by
  have hb1 : Below W.heap.size W (W.alloc (.cells cs.toArray 25)) := (Below.refl W.heap.size W).alloc (Nat.le_refl _) _
  have HCT := Lib.hid (contains_intsN (W.alloc (.cells cs.toArray 25)) b m c ks (Td.kind x) hks hm9 (fun j hj => (hb1.cell (p := ⟨b, j, none⟩) hb).trans (hc j hj)))
  obtain ⟨u0, u1, u2, u3, u4, u5, u6, u7, sa, sc, a, cp, hcs, F⟩ := h.form_of
  subst hcs
  obtain ⟨rfl, rfl, rfl, rfl, rfl, rfl, rfl, rfl⟩ := F
  have HB1 := Lib.hid hb1
  clear h hc hb1 hks
  go_enter Try.func39, Try.ntmps39
  go_wp2_with fail
  refine HCT.out.mono ?_
  rintro e w' ⟨rfl, rfl⟩
  go_wp2
  go_ret
  exact ⟨rfl, HB1.out⟩
set_option maxRecDepth 100000 in
set_option maxHeartbeats 4000000 in
theorem ixfN_any (W : World) (Bk b m c : Nat) (ks : List Int) (hks : ks.length = m) (hm9 : m ≤ 100) (hk : W.cell? ⟨Bk, 0, none⟩ = some (.slice (some ⟨b, 0, none⟩) m c)) (hBk : Bk < W.heap.size) (hb : b < W.heap.size)
    (hc : ∀ j (h : j < ks.length), W.cell? ⟨b, j, none⟩ = some (.int .i64 ks[j])) (l : List Nd) (a : Option Addr) (cap : Nat) (hlen : l.length ≤ 8796093022208) (hr : RowIs W a l) :
    Calls Try.prog 55 #[.slice a l.length cap, .func (.func 39) #[] #[.pointer (some ⟨Bk, 0, none⟩)]] W
      fun e w' => ∃ r : Int, e = .returned (.int .i64 r) ∧ (decide (0 ≤ r) = l.any (fun x => decide (Td.kind x ∈ ks))) ∧ Below W.heap.size W w' := by
  have HSUB := Lib.hid hr
  have HCL := Lib.hid (fun (w : World) (hw : Below W.heap.size W w) (x : Nd) (cs : List Value) (h : NdIs w x cs) => any1_any w Bk b m c ks hks hm9 ((hw.cell (p := ⟨Bk, 0, none⟩) hBk).trans hk) (Nat.lt_of_lt_of_le hBk hw.size) (Nat.lt_of_lt_of_le hb hw.size) (fun j hj => (hw.cell (p := ⟨b, j, none⟩) hb).trans (hc j hj)) x cs h)
  obtain ⟨L, eL⟩ : ∃ L, l.length = L := ⟨_, rfl⟩
  rw [eL] at hlen
  rw [eL]
  have HL := Lib.hid eL
  clear eL hr hk hc hks hm9 hBk hb
  go_enter Try.func55, Try.ntmps55
  go_wp2
  go_loopw [5, 8] (fun jv iv wr => ∃ i : Nat, i ≤ L ∧ iv = .int .i64 (i : Int) ∧ Hid ((l.take i).any (fun x => decide (Td.kind x ∈ ks)) = false) ∧ Hid (Below W.heap.size W wr)) (fun _ iv _ => L - (intOf iv).toNat)
  case atStart => exact ⟨0, Nat.zero_le _, rfl, Lib.hid (by simp), Lib.hid (Below.refl _ _)⟩
  case round =>
    obtain ⟨i, hi, rfl, HA, HB⟩ := hrel
    by_cases hlt : i < L
    · obtain ⟨g, off, x, u0, u1, u2, u3, u4, u5, u6, u7, rfl, hb, hm, hnd, q0, q1, q2, q3, q4, q5, q6, q7⟩ := HSUB.out i (by rw [HL.out]; exact hlt)
      have hbw := HB.out
      have kc : ∀ o v, W.cell? ⟨g, o, none⟩ = some v → wr.cell? ⟨g, o, none⟩ = some v := fun o v h => (hbw.cell (p := ⟨g, o, none⟩) hb).trans h
      replace q0 := kc _ _ q0; replace q1 := kc _ _ q1; replace q2 := kc _ _ q2; replace q3 := kc _ _ q3
      replace q4 := kc _ _ q4; replace q5 := kc _ _ q5; replace q6 := kc _ _ q6; replace q7 := kc _ _ q7
      have hbl : g < wr.heap.size := Nat.lt_of_lt_of_le hb hbw.size
      have HND := Lib.hid (hnd.kept hbw)
      have HSZ := Lib.hid hbw.size
      obtain ⟨Q, hQ⟩ : ∃ Q, decide (Td.kind x ∈ ks) = Q := ⟨_, rfl⟩
      have HYES : Hid ((l.take (i + 1)).any (fun x => decide (Td.kind x ∈ ks)) = Q) := Lib.hid (by
        obtain ⟨hi2, e2⟩ := List.getElem?_eq_some_iff.1 hm
        rw [List.take_succ_eq_append_getElem hi2, List.any_append, HA.out, e2]
        simp only [List.any_cons, List.any_nil, Bool.or_false, Bool.false_or]
        exact hQ)
      have HNO : Hid (Q = true → l.any (fun x => decide (Td.kind x ∈ ks)) = true) := Lib.hid (fun e => by
        rw [List.any_eq_true]; exact ⟨x, List.mem_of_getElem? hm, by rw [hQ]; exact e⟩)
      have HQ := Lib.hid hQ
      clear kc hm hnd hbw hQ
      go_wp2_with fail
      refine (HCL.out _ HB.out x _ HND.out).mono ?_
      rintro e w5 ⟨rfl, hb5⟩
      have HB5 := Lib.hid (HB.out.trans (hb5.mono HSZ.out))
      rw [HQ.out]
      clear hb5 q0 q1 q2 q3 q4 q5 q6 q7
      cases Q with
      | false =>
        go_wp2
        go_roundw
        case rel => exact ⟨i + 1, by omega, by go_num, HYES, HB5⟩
        case measure => simp [intOf]; omega
      | true =>
        have HF := Lib.hid (HNO.out rfl)
        go_wp2
        go_ret
        exact ⟨(i : Int), rfl, by rw [HF.out]; simp, HB5.out⟩
    · obtain rfl : i = L := by omega
      have HE : Hid (l.any (fun x => decide (Td.kind x ∈ ks)) = false) := Lib.hid (by
        have := HA.out
        rwa [List.take_of_length_le (by rw [HL.out]; exact Nat.le_refl _)] at this)
      go_wp2
      go_ret
      exact ⟨-1, rfl, by rw [HE.out]; rfl, HB.out⟩
set_option maxRecDepth 100000 in
set_option maxHeartbeats 4000000 in
theorem cnfN_any (W : World) (Bk b m c : Nat) (ks : List Int) (hks : ks.length = m) (hm9 : m ≤ 100) (hk : W.cell? ⟨Bk, 0, none⟩ = some (.slice (some ⟨b, 0, none⟩) m c)) (hBk : Bk < W.heap.size) (hb : b < W.heap.size)
    (hc : ∀ j (h : j < ks.length), W.cell? ⟨b, j, none⟩ = some (.int .i64 ks[j])) (l : List Nd) (a : Option Addr) (cap : Nat) (hlen : l.length ≤ 8796093022208) (hr : RowIs W a l) :
    Calls Try.prog 38 #[.slice a l.length cap, .func (.func 39) #[] #[.pointer (some ⟨Bk, 0, none⟩)]] W
      fun e w' => e = .returned (.bool (l.any (fun x => decide (Td.kind x ∈ ks)))) ∧ Below W.heap.size W w' := by
  have HX := Lib.hid (ixfN_any W Bk b m c ks hks hm9 hk hBk hb hc l a cap hlen hr)
  clear hr hk hc hks
  go_enter Try.func38, Try.ntmps38
  go_wp2_with fail
  refine HX.out.mono ?_
  rintro e w5 ⟨r, rfl, hr, hb5⟩
  have HR := Lib.hid hr
  have HB := Lib.hid hb5
  clear hr hb5
  go_wp2
  go_ret
  exact ⟨by rw [← HR.out]; rfl, HB.out⟩
set_option maxRecDepth 100000 in
set_option maxHeartbeats 4000000 in
theorem anyOf_any (W : World) (b m c : Nat) (ks : List Int) (hks : ks.length = m) (hm9 : m ≤ 100) (hb : b < W.heap.size)
    (hc : ∀ j (h : j < ks.length), W.cell? ⟨b, j, none⟩ = some (.int .i64 ks[j])) (l : List Nd) (a : Option Addr) (cap : Nat) (hlen : l.length ≤ 8796093022208) (hr : RowIs W a l) :
    Calls Try.prog 26 #[.slice a l.length cap, .slice (some ⟨b, 0, none⟩) m c] W fun e w' => e = .returned (.bool (l.any (fun x => decide (Td.kind x ∈ ks)))) ∧ Below W.heap.size W w' := by
  obtain ⟨W1, hW1⟩ : ∃ W1, W.alloc (.cells #[.slice (some ⟨b, 0, none⟩) m c] 53) = W1 := ⟨_, rfl⟩
  have hb1 : Below W.heap.size W W1 := by rw [← hW1]; exact (Below.refl _ _).alloc (Nat.le_refl _) _
  have hk1 : W1.cell? ⟨W.heap.size, 0, none⟩ = some (.slice (some ⟨b, 0, none⟩) m c) := by rw [← hW1]; simp
  have hs1 : W.heap.size < W1.heap.size := by rw [← hW1]; simp
  have HX := Lib.hid (cnfN_any W1 W.heap.size b m c ks hks hm9 hk1 hs1 (Nat.lt_of_lt_of_le hb hb1.size) (fun j hj => (hb1.cell (p := ⟨b, j, none⟩) hb).trans (hc j hj)) l a cap hlen (hr.kept hb1))
  have HB1 := Lib.hid hb1
  have HW1 := Lib.hid hW1
  obtain ⟨L, eL⟩ : ∃ L, l.length = L := ⟨_, rfl⟩
  rw [eL] at HX ⊢
  clear hr hc hks hb1 hk1 hs1 hW1 eL hlen
  go_enter Try.func26, Try.ntmps26
  go_wp2_with fail
  rw [HW1.out]
  refine HX.out.mono ?_
  rintro e w5 ⟨rfl, hb5⟩
  have HB := Lib.hid (HB1.out.trans (hb5.mono HB1.out.size))
  clear hb5
  go_wp2
  go_ret
  exact ⟨rfl, HB.out⟩
end Go.Proofs.Ythhdlcckboiecaa
