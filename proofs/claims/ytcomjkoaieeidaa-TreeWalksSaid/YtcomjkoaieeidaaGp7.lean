/- The reference's tree (burinref06): All: the nodes of a tree, in an owned row of steps (nine cells each). · The eight cells of a node, each by its form. -/
import Derived.Test.YtcomjkoaieeidaaGp6
import Derived.Test.YtcomjkoaieeidaaGp4
import Derived.IntWalk
import Derived.WalkSmall
import Derived.Maps.Range
import Derived.Deep.RegionHeld3
import Derived.Deep.AppendLies
namespace Go.Proofs.Ytcomjkoaieeidaa
open Go.RowKit
set_option linter.unusedVariables false
theorem Try.infoStep : (Try.prog.info? 34).map (fun i => (i.zero, i.size, i.bytes)) = some (some (.agg #[.int .i64 0, .int .i64 0, .slice none 0 0, .int .i64 0, .string ⟨#[]⟩, .int .i64 0, .int .i64 0, .bool false, .slice none 0 0]), 9, 112) := by kernel_rfl
theorem Try.underStep : Try.prog.underlying 28 = some (.slice 34) := by kernel_rfl
/-- A row of steps that a call owns; the nodes themselves lie in the world that the call began in. -/
def StOwn (Wb W : World) (v : Value) (L : List (Nat × Nd)) : Prop :=
  ∃ X : List (List Value), X.length = L.length ∧ W.ownsRow Wb.heap.size 34 9 v L.length X.flatten ∧
    ∀ j (h : j < L.length), ∃ cs, X[j]? = some (.int .i64 (L[j].1 : Int) :: cs) ∧ NdIs Wb L[j].2 cs
theorem StOwn.snoc {Wb W' : World} {v' : Value} {L : List (Nat × Nd)} {X : List (List Value)} (hX : X.length = L.length) (hc : ∀ j (h : j < L.length), ∃ cs, X[j]? = some (.int .i64 (L[j].1 : Int) :: cs) ∧ NdIs Wb L[j].2 cs)
    {d : Nat} {n : Nd} {cs : List Value} (hn : NdIs Wb n cs) (hown : W'.ownsRow Wb.heap.size 34 9 v' (L.length + 1) (X.flatten ++ (.int .i64 (d : Int) :: cs))) : StOwn Wb W' v' (L ++ [(d, n)]) := by
  refine ⟨X ++ [.int .i64 (d : Int) :: cs], by simp [hX], by simpa using hown, fun j h => ?_⟩
  by_cases hj : j < L.length
  · obtain ⟨c, h1, h2⟩ := hc j hj
    refine ⟨c, ?_, ?_⟩
    · rw [List.getElem?_append_left (by omega), List.getElem_append_left hj]; exact h1
    · rw [List.getElem_append_left hj]; exact h2
  · have hj2 : j = L.length := by simp at h; omega
    subst hj2
    refine ⟨cs, ?_, ?_⟩
    · rw [List.getElem?_append_right (by omega)]; simp [hX]
    · simpa using hn
theorem Td.flat_succ (l : List Nd) (f : Nd → List (Nat × Nd)) (k : Nat) (m : Nd) (hk : l[k]? = some m) : (l.take (k + 1)).flatMap f = (l.take k).flatMap f ++ f m := by
  obtain ⟨h, rfl⟩ := List.getElem?_eq_some_iff.1 hk
  rw [List.take_succ_eq_append_getElem h, List.flatMap_append]; simp
theorem Td.flat_le (l : List Nd) (f : Nd → List (Nat × Nd)) (k : Nat) : ((l.take k).flatMap f).length ≤ (l.flatMap f).length := by
  have h : l.flatMap f = (l.take k).flatMap f ++ (l.drop k).flatMap f := by rw [← List.flatMap_append, List.take_append_drop]
  rw [h, List.length_append]; omega
theorem Td.all_len_pos (k d : Nat) (n : Nd) : 1 ≤ (Td.all (k + 1) d n).length := by rw [Td.all]; simp
def AllOk (k : Nat) : Prop := ∀ (d : Nat) (Wb W : World) (v : Value) (L : List (Nat × Nd)) (n : Nd) (cs : List Value), d + k = 1001 → Below Wb.heap.size Wb W → StOwn Wb W v L → NdIs Wb n cs → L.length + (Td.all k d n).length ≤ 1000000 →
  Calls Try.prog 6 #[v, .agg cs.toArray, .int .i64 (d : Int)] W fun e w' => ∃ v', e = .returned v' ∧ StOwn Wb w' v' (L ++ Td.all k d n) ∧ W.grownBy w' v.ownBlock ∧ ∀ b, v'.ownBlock = some b → v.ownBlock = some b ∨ W.heap.size ≤ b
theorem all_zero : AllOk 0 := by
  intro d Wb W v L n cs hd hB hO h hL
  obtain ⟨vs, a, cap, C, hC⟩ := h.cells
  have hcs := hC.eq
  subst hcs
  have hd1 : (1000 : Int) < d := by omega
  have HO := Lib.hid hO
  clear hC h hO
  go_enter Try.func6, Try.ntmps6
  go_wp2
  go_ret
  obtain ⟨X, h1, h2, h3⟩ := HO.out
  exact ⟨v, rfl, ⟨X, by simpa [Td.all] using h1, by simpa [Td.all] using h2.alloc _, by simpa [Td.all] using h3⟩, World.grownBy_alloc _ _ _, fun b hb => .inl hb⟩
set_option maxRecDepth 100000 in
set_option maxHeartbeats 4000000 in
theorem all_step (k M : Nat) (hM : M = k + 1) (ih : AllOk k) : AllOk M := by
  intro d Wb W v L n cs hd hB hO h hL
  obtain ⟨i0, hi, hz0, hz1, hz2⟩ := info_parts Try.infoStep
  have hd0 : ¬ (1000 : Int) < d := by omega
  obtain ⟨d1, hd1⟩ : ∃ d1, d1 = d + 1 := ⟨_, rfl⟩
  have hd2 : (d : Int) + 1 = (d1 : Int) := by omega
  have hd3 : d1 + k = 1001 := by omega
  have HD1 := Lib.hid hd1
  have HM0 := Lib.hid hM
  have HN := Lib.hid h
  have HL := Lib.hid hL
  obtain ⟨vs, a, cap, C, hC⟩ := h.cells
  obtain ⟨N, hN⟩ : ∃ N, (Td.subs n).length = N := ⟨_, rfl⟩
  have hcs := hC.eq
  have hlen := hC.len
  rw [hN] at hcs hlen
  subst hcs
  have HC := Lib.hid hC
  have HNN := Lib.hid hN
  have IH := Lib.hid ih
  have HB := Lib.hid hB
  obtain ⟨X, hX1, hX2, hX3⟩ := hO
  have hlt : ∀ b, v.ownBlock = some b → Wb.heap.size ≤ b ∧ b < W.heap.size := fun b hb => World.ownsRow.lt hX2 b hb
  have HLT := Lib.hid hlt
  have HX1 := Lib.hid hX1
  have HX3 := Lib.hid hX3
  have hbase : Wb.heap.size ≤ W.heap.size := hB.size
  have hll : L.length + 1 ≤ 1000000 := by
    rw [hM] at hL
    have := Td.all_len_pos k d n
    omega
  obtain ⟨LN, hLN⟩ : ∃ LN, L.length = LN := ⟨_, rfl⟩
  have HLN := Lib.hid hLN
  obtain ⟨fs, hfs⟩ : ∃ fs, X.flatten = fs := ⟨_, rfl⟩
  have HFS := Lib.hid hfs
  rw [hLN] at hX2 hll
  rw [hfs] at hX2
  clear h hC hN ih hM hd1 hB hX1 hX3 hlt hLN hfs hL hd
  obtain ⟨W1, hW1⟩ : ∃ W1, W.alloc (.cells #[.int .i64 (Td.kind n), vs, .int .i64 (Td.num n), .string (Td.name n), .int .i64 (Td.mn n), .int .i64 (Td.mx n), .bool (Td.lazy n), .slice a N cap] 25) = W1 := ⟨_, rfl⟩
  have hbx : W1.cell? ⟨W.heap.size, 7, none⟩ = some (.slice a N cap) := by rw [← hW1]; simp
  have hsz1 : W1.heap.size = W.heap.size + 1 := by rw [← hW1]; simp
  have hG1 : W.grownBy W1 v.ownBlock := by rw [← hW1]; exact World.grownBy_alloc _ _ _
  have hnew := heap_alloc_new (W.alloc (.cells #[.int .i64 (Td.kind n), vs, .int .i64 (Td.num n), .string (Td.name n), .int .i64 (Td.mn n), .int .i64 (Td.mx n), .bool (Td.lazy n), .slice a N cap] 25)) (.cells #[.int .i64 (d : Int), .int .i64 (Td.kind n), vs, .int .i64 (Td.num n), .string (Td.name n), .int .i64 (Td.mn n), .int .i64 (Td.mx n), .bool (Td.lazy n), .slice a N cap] 34)
  rw [show (W.alloc (.cells #[.int .i64 (Td.kind n), vs, .int .i64 (Td.num n), .string (Td.name n), .int .i64 (Td.mn n), .int .i64 (Td.mx n), .bool (Td.lazy n), .slice a N cap] 25)).heap.size = W.heap.size + 1 from by simp] at hnew
  have HNEW := Lib.hid hnew
  have hvs1 : vs.oneCell' = true := by
    obtain ⟨_, _, e, _⟩ := HC.out.set
    rw [e]; rfl
  clear hnew
  have HBX := Lib.hid hbx
  have HSZ := Lib.hid hsz1
  have HW1 := Lib.hid hW1
  have HG1 := Lib.hid hG1
  clear hbx hsz1 hW1 hG1
  go_enter Try.func6, Try.ntmps6
  go_wp2_with (at_builtin; (refine wpList_append_lies _ (by rfl) _ _ 28 (by rfl) Wb.heap.size 34 i0 (.agg #[.int .i64 0, .int .i64 0, .slice none 0 0, .int .i64 0, .string ⟨#[]⟩, .int .i64 0, .int .i64 0, .bool false, .slice none 0 0]) 9 112 Try.underStep hi hz0 hz1 hz2 rfl (by decide) _ LN fs (by rfl) ((hX2.alloc _).alloc _) ⟨W.heap.size + 1, 0, none⟩ 1 1 [.int .i64 d, .int .i64 (Td.kind n), vs, .int .i64 (Td.num n), .string (Td.name n), .int .i64 (Td.mn n), .int .i64 (Td.mx n), .bool (Td.lazy n), .slice a N cap] (by rfl) rfl (World.news_of_block HNEW.out) (by simp [Value.oneCell']; exact hvs1) (by omega) (by unfold maxLen; omega) (by omega) (by simp; omega) (W.heap.size + 2) (by simp) ?_))
  intro g1 cap1 w1 hown' hgrow hat hlt1
  have HO1 : Hid (StOwn Wb w1 (.slice (some ⟨g1, 0, none⟩) (LN + 1) cap1) (L ++ [(d, n)])) := Lib.hid (StOwn.snoc HX1.out HX3.out HN.out (by rw [HLN.out, HFS.out]; exact hown'))
  rw [HW1.out] at hgrow
  have HG2 : Hid (W1.grownBy w1 v.ownBlock) := Lib.hid ((World.grownBy_alloc _ _ _).trans hgrow)
  have HOB : Hid (∀ b, (Value.slice (some ⟨g1, 0, none⟩) (LN + 1) cap1).ownBlock = some b → v.ownBlock = some b ∨ W1.heap.size ≤ b) := Lib.hid (fun b hb => by
    have hb' : g1 = b := by simpa [Value.ownBlock] using hb
    subst hb'
    rcases hat with h | h
    · exact .inl h
    · exact .inr (by rw [HSZ.out]; omega))
  clear hown' hgrow hat hlt1 hX2
  go_wp2
  go_loopw [0, 7] (fun lv iv wr => ∃ i : Nat, i ≤ N ∧ iv = .int .i64 (i : Int) ∧ Hid (StOwn Wb wr lv (L ++ ((d, n) :: ((Td.subs n).take i).flatMap (Td.all k d1)))) ∧ Hid (W1.grownBy wr v.ownBlock) ∧ Hid (∀ b, lv.ownBlock = some b → v.ownBlock = some b ∨ W1.heap.size ≤ b)) (fun _ iv _ => N - (intOf iv).toNat)
  case atStart => exact ⟨0, Nat.zero_le _, rfl, Lib.hid (by simpa using HO1.out), HG2, HOB⟩
  case round =>
    obtain ⟨i, hi, rfl, HS, HG, HA⟩ := hrel
    have HG0 := Lib.hid (HG1.out.trans HG.out)
    have hbx : wr.cell? ⟨W.heap.size, 7, none⟩ = some (.slice a N cap) := HG.out.cell HBX.out (fun e => by have := (HLT.out _ e.symm).2; simp at this)
    have hbs : W.heap.size < wr.heap.size := by have := HG.out.size; rw [HSZ.out] at this; omega
    by_cases hlt : i < N
    · obtain ⟨b, off, m, u0, u1, u2, u3, u4, u5, u6, u7, rfl, hb, hm, hnd, q0, q1, q2, q3, q4, q5, q6, q7⟩ := HC.out.sub i (by rw [HNN.out]; exact hlt)
      have hbw : Below Wb.heap.size Wb wr := HB.out.grown HG0.out hbase (fun q hq => (HLT.out q hq).1)
      have kc : ∀ o v, Wb.cell? ⟨b, o, none⟩ = some v → wr.cell? ⟨b, o, none⟩ = some v := fun o v h => (hbw.cell (p := ⟨b, o, none⟩) hb).trans h
      replace q0 := kc _ _ q0; replace q1 := kc _ _ q1; replace q2 := kc _ _ q2; replace q3 := kc _ _ q3
      replace q4 := kc _ _ q4; replace q5 := kc _ _ q5; replace q6 := kc _ _ q6; replace q7 := kc _ _ q7
      have hbl : b < wr.heap.size := Nat.lt_of_lt_of_le hb hbw.size
      have HND := Lib.hid hnd
      have HM := Lib.hid hm
      have HBW := Lib.hid hbw
      have hbound : Hid ((L ++ ((d, n) :: ((Td.subs n).take i).flatMap (Td.all k d1))).length + (Td.all k d1 m).length ≤ 1000000) := Lib.hid (by
        have h1 := HL.out
        rw [HM0.out, Td.all, ← HD1.out] at h1
        have h2 := Td.flat_le (Td.subs n) (Td.all k d1) (i + 1)
        rw [Td.flat_succ _ _ _ _ HM.out, List.length_append] at h2
        simp only [List.length_append, List.length_cons] at h1 ⊢
        omega)
      clear kc hm hnd hbw
      go_wp2_with fail
      refine (IH.out _ _ _ _ _ _ _ hd3 HBW.out HS.out HND.out hbound.out).mono ?_
      rintro e w5 ⟨v5, rfl, hs5, hg5, ha5⟩
      have HS5 : Hid (StOwn Wb w5 v5 (L ++ ((d, n) :: ((Td.subs n).take (i + 1)).flatMap (Td.all k d1)))) := Lib.hid (by
        rw [Td.flat_succ _ _ _ _ HM.out]
        simpa using hs5)
      have HG5 : Hid (W1.grownBy w5 v.ownBlock) := Lib.hid (HG.out.andThen hg5 (fun j hj => (HA.out j hj).symm))
      have HA5 : Hid (∀ b, v5.ownBlock = some b → v.ownBlock = some b ∨ W1.heap.size ≤ b) := Lib.hid (fun b hb => by
        rcases ha5 b hb with h | h
        · exact HA.out b h
        · exact .inr (by have := HG.out.size; omega))
      clear hs5 hg5 ha5 HS HG HA hbound
      go_wp2
      go_roundw
      case rel => exact ⟨i + 1, by omega, by go_num, HS5, HG5, HA5⟩
      case measure => simp [intOf]; omega
    · obtain rfl : i = N := by omega
      go_wp2
      go_ret
      refine ⟨_, rfl, ?_, HG0.out, fun b hb => ?_⟩
      · have h1 := HS.out
        rw [List.take_of_length_le (by rw [HNN.out]; exact Nat.le_refl _)] at h1
        rw [HM0.out, Td.all, ← HD1.out]; exact h1
      · rcases HA.out b hb with h | h
        · exact .inl h
        · exact .inr (by rw [HSZ.out] at h; omega)
theorem refAll_any : ∀ k : Nat, AllOk k
  | 0 => all_zero
  | k + 1 => all_step k _ rfl (refAll_any k)
end Go.Proofs.Ytcomjkoaieeidaa
namespace Go.Proofs.Ytcomjkoaieeidaa
open Go.RowKit
set_option linter.unusedVariables false
/-- A node's eight cells, each by its form. -/
structure NdForm (n : Nd) (u0 u1 u2 u3 u4 u5 u6 u7 : Value) (sa : Option Addr) (sc : Nat) (a : Option Addr) (c : Nat) : Prop where
  e0 : u0 = .int .i64 (Td.kind n)
  e1 : u1 = .slice sa (Td.set n).length sc
  e2 : u2 = .int .i64 (Td.num n)
  e3 : u3 = .string (Td.name n)
  e4 : u4 = .int .i64 (Td.mn n)
  e5 : u5 = .int .i64 (Td.mx n)
  e6 : u6 = .bool (Td.lazy n)
  e7 : u7 = .slice a (Td.subs n).length c
theorem NdIs.form {W : World} {n : Nd} {u0 u1 u2 u3 u4 u5 u6 u7 : Value} (h : NdIs W n [u0, u1, u2, u3, u4, u5, u6, u7]) : ∃ sa sc a c, NdForm n u0 u1 u2 u3 u4 u5 u6 u7 sa sc a c := by
  obtain ⟨vs, a, cap, C, hC⟩ := h.cells
  obtain ⟨sa, sc, hvs, _⟩ := hC.set
  have e := hC.eq
  simp only [List.cons.injEq, and_true] at e
  obtain ⟨e0, e1, e2, e3, e4, e5, e6, e7⟩ := e
  exact ⟨sa, sc, a, cap, e0, e1.trans hvs, e2, e3, e4, e5, e6, e7⟩
theorem NdIs.form_of {W : World} {n : Nd} {cs : List Value} (h : NdIs W n cs) : ∃ u0 u1 u2 u3 u4 u5 u6 u7 sa sc a c, cs = [u0, u1, u2, u3, u4, u5, u6, u7] ∧ NdForm n u0 u1 u2 u3 u4 u5 u6 u7 sa sc a c := by
  match cs, h.len with
  | [u0, u1, u2, u3, u4, u5, u6, u7], _ =>
    obtain ⟨sa, sc, a, c, hf⟩ := h.form
    exact ⟨u0, u1, u2, u3, u4, u5, u6, u7, sa, sc, a, c, rfl, hf⟩
end Go.Proofs.Ytcomjkoaieeidaa
