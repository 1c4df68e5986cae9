/- The landed norm: cores, given what core does. · The landed norm: slices.Clone of nodes and of ranges. · The landed norm: a row of nodes, one of which is written. · The landed norm: slices.Clone of a set's ranges. -/
import Derived.Test.YthhdlcckboiecaaGp20
import Derived.Test.YthhdlcckboiecaaGp4
import Derived.Test.YthhdlcckboiecaaGp5
import Derived.Test.YthhdlcckboiecaaGp2
import Derived.Laws.OwnMore
import Derived.Lib.SliceRun
namespace Go.Proofs.Ythhdlcckboiecaa
open Go.RowKit
set_option linter.unusedVariables false
set_option linter.unusedSimpArgs false
/-- What core is to do, of the trees that are good. -/
def CoreOk (good : Nd → Prop) (f : Nd → Nd) : Prop := ∀ (W : World) (n : Nd) (cs : List Value), good n → NdIs W n cs →
  Calls Try.prog 22 #[.agg cs.toArray] W fun e w' => ∃ cs' : List Value, e = .returned (.agg cs'.toArray) ∧ NwP (fun b => W.heap.size ≤ b) w' (f n) cs' ∧ Below W.heap.size W w'
set_option maxRecDepth 100000 in
set_option maxHeartbeats 8000000 in
theorem cores_any (good : Nd → Prop) (f : Nd → Nd) (ih : CoreOk good f) (W : World) (l : List Nd) (a : Option Addr) (cap : Nat) (hlen : l.length ≤ 1000000) (hr : Nm.RowIs W a l) (hg : ∀ n ∈ l, good n) :
    Calls Try.prog 34 #[.slice a l.length cap] W fun e w' => ∃ v, e = .returned v ∧ NwOwn (fun b => W.heap.size ≤ b) w' W.heap.size v (l.map f) ∧ Below W.heap.size W w' := by
  obtain ⟨N, hN⟩ : ∃ N, l.length = N := ⟨_, rfl⟩
  rw [hN] at hlen ⊢
  have HNN := Lib.hid hN
  have HR := Lib.hid hr
  have HGD := Lib.hid hg
  have IH := Lib.hid ih
  clear hN hr hg ih
  go_enter Try.func34, Try.ntmps34
  go_wp2
  go_loopw [3, 8] (fun cv iv wr => ∃ (i : Nat), i ≤ N ∧ iv = .int .i64 (i : Int) ∧ Hid (NwOwn (fun b => W.heap.size ≤ b) wr W.heap.size cv ((l.take i).map f)) ∧ Hid (Below W.heap.size W wr)) (fun _ iv _ => N - (intOf iv).toNat)
  case atStart => exact ⟨0, Nat.zero_le _, rfl, Lib.hid (NwOwn.nil _ _ _), Lib.hid (Below.refl _ _)⟩
  case round =>
    obtain ⟨i, hi, rfl, HO, HB⟩ := hrel
    by_cases hlt : i < N
    · obtain ⟨b, off, m, u0, u1, u2, u3, u4, u5, u6, u7, rfl, hb, hm, hnd, q0, q1, q2, q3, q4, q5, q6, q7⟩ := HR.out i (by rw [HNN.out]; exact hlt)
      have kc : ∀ o v, W.cell? ⟨b, o, none⟩ = some v → wr.cell? ⟨b, o, none⟩ = some v := fun o v h => (HB.out.cell (p := ⟨b, o, none⟩) hb).trans h
      replace q0 := kc _ _ q0; replace q1 := kc _ _ q1; replace q2 := kc _ _ q2; replace q3 := kc _ _ q3
      replace q4 := kc _ _ q4; replace q5 := kc _ _ q5; replace q6 := kc _ _ q6; replace q7 := kc _ _ q7
      have hbl : b < wr.heap.size := Nat.lt_of_lt_of_le hb HB.out.size
      have hmem : m ∈ l := List.mem_of_getElem? hm
      have HSN : Hid ((l.take (i + 1)).map f = (l.take i).map f ++ [f m]) := Lib.hid (by
        have hi' : i < l.length := by rw [HNN.out]; exact hlt
        rw [List.take_succ_eq_append_getElem hi', List.map_append]
        rw [List.getElem?_eq_getElem hi'] at hm
        rw [Option.some.inj hm]; rfl)
      obtain ⟨f1, f2, f3, f4, F1⟩ := hnd.form
      obtain ⟨rfl, rfl, rfl, rfl, rfl, rfl, rfl, rfl⟩ := F1
      have hlen9 : ((l.take i).map f).length = i := by rw [List.length_map, List.length_take, HNN.out]; omega
      have HC := Lib.hid (fun (w : World) (hw : Below W.heap.size W w) => IH.out w m _ (HGD.out m hmem) (hnd.kept hw))
      have hlt1 := HO.out.lt
      obtain ⟨cA, cC, hcv⟩ := HO.out.slice
      rw [hlen9] at hcv
      subst hcv
      have k0 : (0 : Int) ≤ (i : Int) := by omega
      have k1 : (i : Int) < (N : Int) := by omega
      have HBA : Hid (∀ o : Obj, Below W.heap.size W (wr.alloc o)) := Lib.hid (fun o => HB.out.alloc HB.out.size o)
      have HOA : Hid (∀ o : Obj, NwOwn (fun b => W.heap.size ≤ b) (wr.alloc o) W.heap.size (.slice cA i cC) ((l.take i).map f)) := Lib.hid (fun o => HO.out.below ((Below.refl _ _).alloc (Nat.le_refl _) _))
      have hw0 := HB.out.size
      have HL1 := Lib.hid hlt1
      have HL9 := Lib.hid hlen9
      clear kc hm hnd hb hmem hlt1 hlen9
      go_wp2_with fail
      obtain ⟨w4, hw4⟩ : ∃ w4, wr.alloc (.cells #[.int .i64 (Td.kind m), .slice f1 (Td.set m).length f2, .int .i64 (Td.num m), .string (Td.name m), .int .i64 (Td.mn m), .int .i64 (Td.mx m), .bool (Td.lazy m), .slice f3 (Td.subs m).length f4] 25) = w4 := ⟨_, rfl⟩
      have HB4 : Hid (Below W.heap.size W w4) := Lib.hid (by rw [← hw4]; exact HBA.out _)
      have HO4 := HOA.out (.cells #[.int .i64 (Td.kind m), .slice f1 (Td.set m).length f2, .int .i64 (Td.num m), .string (Td.name m), .int .i64 (Td.mn m), .int .i64 (Td.mx m), .bool (Td.lazy m), .slice f3 (Td.subs m).length f4] 25)
      have hs4 : w4.heap.size = wr.heap.size + 1 := by rw [← hw4]; simp
      rw [hw4] at HO4 ⊢
      clear hw4
      refine (HC.out w4 HB4.out).mono ?_
      rintro e w5 ⟨cs', rfl, hnw, hb5⟩
      have HO5 := HO4.below hb5
      have HB5 := HB4.out.trans (hb5.mono HB4.out.size)
      have hs5 := hb5.size
      obtain ⟨vs, a8, cap8, Y, hxe, hset, -, -⟩ := hnw.parts
      obtain ⟨sa, sk, sc, rfl⟩ : ∃ a k c, vs = .slice a k c := by obtain ⟨a, c, h, -⟩ := hset.1; exact ⟨a, _, c, h⟩
      obtain ⟨m', hm'⟩ : ∃ m', f m = m' := ⟨_, rfl⟩
      rw [hm'] at hnw hxe HSN
      clear hset
      subst hxe
      obtain ⟨wr2, hwr2⟩ : ∃ wr2, w5.alloc (.cells #[.int .i64 (Td.kind m'), .slice sa sk sc, .int .i64 (Td.num m'), .string (Td.name m'), .int .i64 (Td.mn m'), .int .i64 (Td.mx m'), .bool (Td.lazy m'), .slice a8 (Td.subs m').length cap8] 25) = wr2 := ⟨_, rfl⟩
      have hb2 : Below w5.heap.size w5 wr2 := by rw [← hwr2]; exact (Below.refl _ _).alloc (Nat.le_refl _) _
      have hs2 : wr2.heap.size = w5.heap.size + 1 := by rw [← hwr2]; simp
      have HO2 := HO5.below hb2
      have HB2 := HB5.trans (hb2.mono HB5.size)
      have hX2 : wr2.heap[w5.heap.size]? = some (.cells #[.int .i64 (Td.kind m'), .slice sa sk sc, .int .i64 (Td.num m'), .string (Td.name m'), .int .i64 (Td.mn m'), .int .i64 (Td.mx m'), .bool (Td.lazy m'), .slice a8 (Td.subs m').length cap8] 25 (0, 0)) := by rw [← hwr2]; exact heap_alloc_new _ _
      have hnw2 : NdOn (fun b => w4.heap.size ≤ b ∧ b < w5.heap.size) wr2 m' _ := NdOn.kept hb2.size (fun b hb' hl => hb2.block b hl) hnw
      obtain ⟨v', W', hrun, hown', hbel', -⟩ := append_nw (S := fun b => W.heap.size ≤ b) wr2 W.heap.size _ _ HO2 (by omega) (by rw [HL9.out]; omega) [m'] [_] 1 rfl (by omega) (by omega) ⟨w5.heap.size, 0, none⟩
        (fun j u hu => by
          rw [Addr.add_lit, Nat.zero_add]
          simp only [World.cell?, hX2]
          simpa using hu)
        (((NdsOn.nil _ wr2).snoc hnw2).mono (fun b hb' => ⟨by omega, by omega, fun e => by have := (HL1.out b e).2; omega⟩)) 1
      have HOW : Hid (NwOwn (fun b => W.heap.size ≤ b) W' W.heap.size v' ((l.take (i + 1)).map f)) := Lib.hid (by rw [HSN.out]; exact hown')
      have HBW := Lib.hid (HB2.trans (hbel'.mono (Nat.le_refl _)))
      rw [← hwr2] at hrun
      have HRUN := Lib.hid hrun
      clear hrun hown' hbel' hnw2 hX2 HB2 HO2 hs2 hb2 hwr2 hnw HO5 HB5 HO4 hb5
      go_wp2_with (at_builtin; (refine wpList_append_run rfl _ _ 23 rfl _ _ v' W' rfl rfl HRUN.out ?_))
      go_roundw
      case rel => exact ⟨i + 1, by omega, by go_num, HOW, HBW⟩
      case measure => simp [intOf]; omega
    · obtain rfl : i = N := by omega
      have hAN : l.take i = l := List.take_of_length_le (by rw [HNN.out]; exact Nat.le_refl _)
      rw [hAN] at HO
      go_wp2
      go_ret
      exact ⟨_, rfl, HO.out, HB.out⟩
end Go.Proofs.Ythhdlcckboiecaa
namespace Go.Proofs.Ythhdlcckboiecaa
open Go.RowKit
set_option linter.unusedVariables false
set_option linter.unusedSimpArgs false
theorem Try.infoRangeC : (Try.prog.info? 42).map (fun i => (i.zero, i.size, i.bytes)) = some (some (.agg #[.int .i64 0, .int .i64 0]), 2, 16) := by kernel_rfl
theorem Try.underRangesC : Try.prog.underlying 22 = some (.slice 42) := by kernel_rfl
set_option maxRecDepth 100000 in
set_option maxHeartbeats 4000000 in
theorem cloneNd_any (W : World) (b off N c : Nat) (Z : List Value) (hz : Z.length = N * 8) (h0 : 0 < N) (hN : N ≤ 1000000) (h1 : ∀ v ∈ Z, v.oneCell' = true) (hc : ∀ j v, Z[j]? = some v → W.cell? ⟨b, off + j, none⟩ = some v) (hb : b < W.heap.size) :
    Calls Try.prog 71 #[.slice (some ⟨b, off, none⟩) N c] W fun e w' => ∃ v, e = .returned v ∧ w'.ownsRow W.heap.size 25 8 v N Z ∧ Below W.heap.size W w' := by
  obtain ⟨i0, hi, hz0, hz1, hz2⟩ := info_parts Try.infoNodeR
  obtain ⟨W1, hW1⟩ : ∃ W1, W.alloc (.cells #[] 25) = W1 := ⟨_, rfl⟩
  have hb1 : Below W.heap.size W W1 := by rw [← hW1]; exact (Below.refl _ _).alloc (Nat.le_refl _) _
  have hs1 : W1.heap.size = W.heap.size + 1 := by rw [← hW1]; simp
  have hown0 : W1.ownsRow W.heap.size 25 8 (.slice (some ⟨W.heap.size, 0, none⟩) 0 0) 0 [] := by
    rw [← hW1]
    have := World.ownsRow_lit (base := W.heap.size) (e := 25) (size := 8) W #[] 0 (Nat.le_refl _) (by unfold maxLen; omega) (by simp)
    simpa using this
  obtain ⟨gg, cap2, W2, hrun, hown, hgrow, hat, hlt2⟩ := run_append_lies (P := Try.prog) W1 23 23 W.heap.size 25 i0 _ 8 104 Try.underNodesR hi hz0 hz1 hz2 rfl (by omega) _ 0 [] hown0
    ⟨b, off, none⟩ N c Z hz (fun j u hu => by rw [Addr.add_lit]; exact (hb1.cell (p := ⟨b, off + j, none⟩) hb).trans (hc j u hu)) h1 h0 (by unfold maxLen; omega) (by omega) (by omega) _ rfl
  rw [Nat.zero_add, List.nil_append] at hown
  rw [Nat.zero_add] at hrun
  have hbel := hb1.trans ((Below.refl W.heap.size W1).grown hgrow (by omega) fun j ej => (World.ownsRow.lt hown0 j ej).1)
  rw [← hW1] at hrun
  have HRUN := Lib.hid hrun
  have HOWN := Lib.hid hown
  have HB := Lib.hid hbel
  clear hrun hown hbel hgrow hat hlt2 hown0 hs1 hb1 hW1 hc h1
  have mixed : Try.prog.follows .mixedOrders = true := by kernel_rfl
  have qeq : ∀ (w : World) (a : Option Addr) (n c n' c' : Nat), (binOp .eql 23 (.slice a n c) (.slice none n' c')).run Try.prog w = .ok (.bool a.isNone) w := fun w a n c n' c' => Lib.run_eql_slice_nil w _ _ a n c n' c' Try.underNodesR
  go_enter Try.func71, Try.ntmps71
  go_wp2_with (at_builtin; (refine wpList_append_run rfl _ _ 23 rfl _ _ _ W2 rfl rfl HRUN.out ?_))
  go_ret
  exact ⟨_, rfl, HOWN.out, HB.out⟩
set_option maxRecDepth 100000 in
set_option maxHeartbeats 4000000 in
theorem cloneRg_any (W : World) (b off N c : Nat) (Z : List Value) (hz : Z.length = N * 2) (h0 : 0 < N) (hN : N ≤ 8796093022208) (h1 : ∀ v ∈ Z, v.oneCell' = true) (hc : ∀ j v, Z[j]? = some v → W.cell? ⟨b, off + j, none⟩ = some v) (hb : b < W.heap.size) :
    Calls Try.prog 70 #[.slice (some ⟨b, off, none⟩) N c] W fun e w' => ∃ v, e = .returned v ∧ w'.ownsRow W.heap.size 42 2 v N Z ∧ Below W.heap.size W w' := by
  obtain ⟨i0, hi, hz0, hz1, hz2⟩ := info_parts Try.infoRangeC
  obtain ⟨W1, hW1⟩ : ∃ W1, W.alloc (.cells #[] 42) = W1 := ⟨_, rfl⟩
  have hb1 : Below W.heap.size W W1 := by rw [← hW1]; exact (Below.refl _ _).alloc (Nat.le_refl _) _
  have hs1 : W1.heap.size = W.heap.size + 1 := by rw [← hW1]; simp
  have hown0 : W1.ownsRow W.heap.size 42 2 (.slice (some ⟨W.heap.size, 0, none⟩) 0 0) 0 [] := by
    rw [← hW1]
    have := World.ownsRow_lit (base := W.heap.size) (e := 42) (size := 2) W #[] 0 (Nat.le_refl _) (by unfold maxLen; omega) (by simp)
    simpa using this
  obtain ⟨gg, cap2, W2, hrun, hown, hgrow, hat, hlt2⟩ := run_append_lies (P := Try.prog) W1 22 22 W.heap.size 42 i0 _ 2 16 Try.underRangesC hi hz0 hz1 hz2 rfl (by omega) _ 0 [] hown0
    ⟨b, off, none⟩ N c Z hz (fun j u hu => by rw [Addr.add_lit]; exact (hb1.cell (p := ⟨b, off + j, none⟩) hb).trans (hc j u hu)) h1 h0 (by unfold maxLen; omega) (by omega) (by omega) _ rfl
  rw [Nat.zero_add, List.nil_append] at hown
  rw [Nat.zero_add] at hrun
  have hbel := hb1.trans ((Below.refl W.heap.size W1).grown hgrow (by omega) fun j ej => (World.ownsRow.lt hown0 j ej).1)
  rw [← hW1] at hrun
  have HRUN := Lib.hid hrun
  have HOWN := Lib.hid hown
  have HB := Lib.hid hbel
  clear hrun hown hbel hgrow hat hlt2 hown0 hs1 hb1 hW1 hc h1
  have mixed : Try.prog.follows .mixedOrders = true := by kernel_rfl
  have qeq : ∀ (w : World) (a : Option Addr) (n c n' c' : Nat), (binOp .eql 22 (.slice a n c) (.slice none n' c')).run Try.prog w = .ok (.bool a.isNone) w := fun w a n c n' c' => Lib.run_eql_slice_nil w _ _ a n c n' c' Try.underRangesC
  go_enter Try.func70, Try.ntmps70
  go_wp2_with (at_builtin; (refine wpList_append_run rfl _ _ 22 rfl _ _ _ W2 rfl rfl HRUN.out ?_))
  go_ret
  exact ⟨_, rfl, HOWN.out, HB.out⟩
set_option maxRecDepth 100000 in
set_option maxHeartbeats 4000000 in
theorem cloneNd_zero (W : World) (a : Addr) (c : Nat) : Calls Try.prog 71 #[.slice (some a) 0 c] W fun e w' => ∃ v, e = .returned v ∧ w'.ownsRow W.heap.size 25 8 v 0 [] ∧ Below W.heap.size W w' := by
  obtain ⟨i0, hi, hz0, hz1, hz2⟩ := info_parts Try.infoNodeR
  have mixed : Try.prog.follows .mixedOrders = true := by kernel_rfl
  have qeq : ∀ (w : World) (a : Option Addr) (n c n' c' : Nat), (binOp .eql 23 (.slice a n c) (.slice none n' c')).run Try.prog w = .ok (.bool a.isNone) w := fun w a n c n' c' => Lib.run_eql_slice_nil w _ _ a n c n' c' Try.underNodesR
  go_enter Try.func71, Try.ntmps71
  go_wp2_with (at_builtin; refine wpList_append_own _ rfl _ _ 23 rfl W.heap.size 25 i0 _ 8 104 Try.underNodesR hi hz0 hz1 hz2 rfl (by decide) _ _ _ rfl (World.ownsRow_made W #[] 0 (Nat.le_refl _) (Nat.zero_le _) rfl) a 0 c [] rfl rfl (by intro j u hj; simp at hj) (by intro u hu; cases hu) (by unfold maxLen; omega) (by omega) (by simp) ?_)
  intro v' w1 hown hgrow hnil
  go_wp2
  go_ret
  exact ⟨v', rfl, by simpa using hown, ((Below.refl _ W).alloc (Nat.le_refl _) _).grown hgrow (by simp) (by intro k hk; simp [Value.ownBlock] at hk; omega)⟩
set_option maxRecDepth 100000 in
set_option maxHeartbeats 4000000 in
theorem cloneRg_zero (W : World) (a : Addr) (c : Nat) : Calls Try.prog 70 #[.slice (some a) 0 c] W fun e w' => ∃ v, e = .returned v ∧ w'.ownsRow W.heap.size 42 2 v 0 [] ∧ Below W.heap.size W w' := by
  obtain ⟨i0, hi, hz0, hz1, hz2⟩ := info_parts Try.infoRangeC
  have mixed : Try.prog.follows .mixedOrders = true := by kernel_rfl
  have qeq : ∀ (w : World) (a : Option Addr) (n c n' c' : Nat), (binOp .eql 22 (.slice a n c) (.slice none n' c')).run Try.prog w = .ok (.bool a.isNone) w := fun w a n c n' c' => Lib.run_eql_slice_nil w _ _ a n c n' c' Try.underRangesC
  go_enter Try.func70, Try.ntmps70
  go_wp2_with (at_builtin; refine wpList_append_own _ rfl _ _ 22 rfl W.heap.size 42 i0 _ 2 16 Try.underRangesC hi hz0 hz1 hz2 rfl (by decide) _ _ _ rfl (World.ownsRow_made W #[] 0 (Nat.le_refl _) (Nat.zero_le _) rfl) a 0 c [] rfl rfl (by intro j u hj; simp at hj) (by intro u hu; cases hu) (by unfold maxLen; omega) (by omega) (by simp) ?_)
  intro v' w1 hown hgrow hnil
  go_wp2
  go_ret
  exact ⟨v', rfl, by simpa using hown, ((Below.refl _ W).alloc (Nat.le_refl _) _).grown hgrow (by simp) (by intro k hk; simp [Value.ownBlock] at hk; omega)⟩
end Go.Proofs.Ythhdlcckboiecaa
namespace Go.Proofs.Ythhdlcckboiecaa
open Go.RowKit
set_option linter.unusedVariables false
/-- A block that is a row of N nodes' cells. -/
def RowC (W : World) (g N : Nat) (F : Nat → List Value) : Prop := ∃ cur : Array Value, W.heap[g]? = some (.cells cur 25 (0, 0)) ∧ N * 8 ≤ cur.size ∧ ∀ j, j < N → ∀ q, q < 8 → cur[j * 8 + q]? = (F j)[q]?
theorem RowC.cell {W : World} {g N : Nat} {F : Nat → List Value} (h : RowC W g N F) (j q : Nat) (hj : j < N) (hq : q < 8) : W.cell? ⟨g, j * 8 + q, none⟩ = (F j)[q]? := by
  obtain ⟨cur, h1, -, h3⟩ := h
  rw [← h3 j hj q hq]
  simp [World.cell?, h1]
theorem RowC.frozen {W : World} {g N : Nat} {F : Nat → List Value} (h : RowC W g N F) (o : Nat) : W.frozen? ⟨g, o, none⟩ = false := by
  obtain ⟨cur, h1, -, -⟩ := h
  simp [World.frozen?, h1]
theorem RowC.lt {W : World} {g N : Nat} {F : Nat → List Value} (h : RowC W g N F) : g < W.heap.size := by
  obtain ⟨cur, h1, -, -⟩ := h
  exact (Array.getElem?_eq_some_iff.1 h1).1
theorem RowC.kept {W W' : World} {g N : Nat} {F : Nat → List Value} (h : RowC W g N F) (hk : W'.heap[g]? = W.heap[g]?) : RowC W' g N F := by
  obtain ⟨cur, h1, h2, h3⟩ := h
  exact ⟨cur, hk.trans h1, h2, h3⟩
theorem RowC.set1 {W : World} {g N : Nat} {F : Nat → List Value} (h : RowC W g N F) (h8 : ∀ j, j < N → (F j).length = 8) (i p : Nat) (hi : i < N) (hp : p < 8) (v : Value) :
    RowC (W.setCell ⟨g, i * 8 + p, none⟩ v) g N (fun j => if j = i then (F j).set p v else F j) := by
  obtain ⟨cur, h1, h2, h3⟩ := h
  refine ⟨_, heap_setCell_same W g (i * 8 + p) _ _ v h1, by simpa using h2, fun j hj q hq => ?_⟩
  by_cases hji : j = i
  · subst hji
    show _ = (if j = j then (F j).set p v else F j)[q]?
    rw [if_pos rfl]
    by_cases hqp : q = p
    · subst hqp
      have e1 : j * 8 + q < cur.size := by omega
      have e2 : q < (F j).length := by rw [h8 j hj]; exact hq
      simp [e1, e2]
    · rw [Array.getElem?_setIfInBounds, if_neg (by omega), List.getElem?_set, if_neg (by omega)]
      exact h3 j hj q hq
  · simp only [if_neg hji]
    rw [Array.getElem?_setIfInBounds, if_neg (by omega)]
    exact h3 j hj q hq
/-- An owned row is such a block. -/
theorem rowC_of {W : World} {base : Nat} {v : Value} {N : Nat} {Z : List Value} (h : W.ownsRow base 25 8 v N Z) (h0 : 0 < N) : ∃ g cap, v = .slice (some ⟨g, 0, none⟩) N cap ∧ base ≤ g ∧ N ≤ cap ∧ RowC W g N (fun j => (Z.drop (j * 8)).take 8) := by
  have h' := h
  rcases h.2 with ⟨_, e⟩ | ⟨g, cap, cur, e, hb, hg, h3, h4, h5, h6⟩
  · omega
  · subst e
    refine ⟨g, cap, rfl, hb, h3, cur, hg, ?_, fun j hj q hq => ?_⟩
    · have := h'.1
      have h7 := congrArg List.length h6
      rw [List.length_take, this] at h7
      simp at h7
      omega
    · have h7 := World.ownsRow.cellAt h' (j * 8 + q) (by omega)
      rw [show W.cell? ⟨g, j * 8 + q, none⟩ = cur[j * 8 + q]? by simp [World.cell?, hg]] at h7
      rw [h7, List.getElem?_take_of_lt hq, List.getElem?_drop]
end Go.Proofs.Ythhdlcckboiecaa
namespace Go.Proofs.Ythhdlcckboiecaa
open Go.RowKit
set_option linter.unusedVariables false
set_option maxRecDepth 100000 in
set_option maxHeartbeats 4000000 in
theorem cloneRg_nilc (W : World) (n c : Nat) : Calls Try.prog 70 #[.slice none n c] W fun e w' => e = .returned (.slice none 0 0) ∧ w' = W := by
  have qeq : ∀ (w : World) (a : Option Addr) (n c n' c' : Nat), (binOp .eql 22 (.slice a n c) (.slice none n' c')).run Try.prog w = .ok (.bool a.isNone) w := fun w a n c n' c' => Lib.run_eql_slice_nil w _ _ a n c n' c' Try.underRangesC
  go_enter Try.func70, Try.ntmps70
  go_wp2
  go_ret
  exact ⟨rfl, rfl⟩
set_option maxRecDepth 100000 in
set_option maxHeartbeats 4000000 in
theorem cloneNd_nilc (W : World) (n c : Nat) : Calls Try.prog 71 #[.slice none n c] W fun e w' => e = .returned (.slice none 0 0) ∧ w' = W := by
  have qeq : ∀ (w : World) (a : Option Addr) (n c n' c' : Nat), (binOp .eql 23 (.slice a n c) (.slice none n' c')).run Try.prog w = .ok (.bool a.isNone) w := fun w a n c n' c' => Lib.run_eql_slice_nil w _ _ a n c n' c' Try.underNodesR
  go_enter Try.func71, Try.ntmps71
  go_wp2
  go_ret
  exact ⟨rfl, rfl⟩
/-- A set, in new memory. -/
theorem cloneRg_set (W : World) (vs : Value) (l : List (Int × Int)) (h : RRow W vs l) :
    Calls Try.prog 70 #[vs] W fun e w' => ∃ v, e = .returned v ∧ RRowOn (fun b => W.heap.size ≤ b ∧ b < w'.heap.size) w' v l ∧ Below W.heap.size W w' := by
  obtain ⟨a, cap, rfl, hl, hw, hc⟩ := h
  have key : ∀ (w' : World) (v : Value), w'.ownsRow W.heap.size 42 2 v l.length (flat2 l) → RRowOn (fun b => W.heap.size ≤ b ∧ b < w'.heap.size) w' v l := fun w' v ho => by
    have hr : RgOwn w' W.heap.size v l := ho
    exact ⟨hr.row hl hw, fun g off len cap e _ => World.ownsRow.lt ho g (by rw [e]; rfl)⟩
  by_cases h0 : l.length = 0
  · have hle := List.eq_nil_of_length_eq_zero h0
    subst hle
    cases a with
    | none =>
      refine (cloneRg_nilc W _ _).mono ?_
      rintro e w' ⟨rfl, rfl⟩
      exact ⟨_, rfl, RRowOn.nil, Below.refl _ _⟩
    | some ad =>
      refine (cloneRg_zero W ad cap).mono ?_
      rintro e w' ⟨v, rfl, ho, hb⟩
      exact ⟨v, rfl, key w' v ho, hb⟩
  · obtain ⟨b, off, rfl, hb, -, -⟩ := hc 0 (by omega)
    refine (cloneRg_any W b off l.length cap (flat2 l) (flat2_len l) (by omega) hl (flat2_one l) (fun j v hv => ?_) hb).mono ?_
    · have hj : j < l.length * 2 := by
        have := (List.getElem?_eq_some_iff.1 hv).1
        rwa [flat2_len] at this
      obtain ⟨b', off', ha', -, c0, c1⟩ := hc (j / 2) (by omega)
      cases ha'
      have hg := flat2_get l (j / 2) (by omega)
      rcases Nat.mod_two_eq_zero_or_one j with e | e
      · have ej : j / 2 * 2 = j := by omega
        rw [ej] at hg c0
        rw [← hv, hg.1]; exact c0
      · have ej : j / 2 * 2 + 1 = j := by omega
        rw [ej] at hg
        rw [Nat.add_assoc, ej] at c1
        rw [← hv, hg.2]; exact c1
    · rintro e w' ⟨v, rfl, ho, hb'⟩
      exact ⟨v, rfl, key w' v ho, hb'⟩
end Go.Proofs.Ythhdlcckboiecaa
