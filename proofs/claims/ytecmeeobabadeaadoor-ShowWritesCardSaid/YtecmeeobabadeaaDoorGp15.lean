/- The reference's tree (burinref06): All: the nodes of a tree, in an owned row of steps (nine cells each). · The reference's tree (burinref06): Groups; an owned row of texts. -/
import Derived.Test.YtecmeeobabadeaaDoorGp2
import Derived.Test.YtecmeeobabadeaaDoorGp1
import Derived.IntWalk
import Derived.WalkSmall
import Derived.Maps.Range
import Derived.Deep.RegionHeld3
import Derived.Deep.AppendLies
import Derived.Laws.OwnMore
namespace Go.Proofs.YtecmeeobabadeaaDoor
open Go.RowKit
set_option linter.unusedVariables false
theorem Tryd.infoStep : (Tryd.prog.info? 56).map (fun i => (i.zero, i.size, i.bytes)) = some (some (.agg #[.int .i64 0, .int .i64 0, .slice none 0 0, .int .i64 0, .string ⟨#[]⟩, .int .i64 0, .int .i64 0, .bool false, .slice none 0 0]), 9, 112) := by kernel_rfl
theorem Tryd.underStep : Tryd.prog.underlying 52 = some (.slice 56) := by kernel_rfl
/-- A row of steps that a call owns; the nodes themselves lie in the world that the call began in. -/
def StOwn (Wb W : World) (v : Value) (L : List (Nat × Nd)) : Prop :=
  ∃ X : List (List Value), X.length = L.length ∧ W.ownsRow Wb.heap.size 56 9 v L.length X.flatten ∧
    ∀ j (h : j < L.length), ∃ cs, X[j]? = some (.int .i64 (L[j].1 : Int) :: cs) ∧ NdIs Wb L[j].2 cs
theorem StOwn.snoc {Wb W' : World} {v' : Value} {L : List (Nat × Nd)} {X : List (List Value)} (hX : X.length = L.length) (hc : ∀ j (h : j < L.length), ∃ cs, X[j]? = some (.int .i64 (L[j].1 : Int) :: cs) ∧ NdIs Wb L[j].2 cs)
    {d : Nat} {n : Nd} {cs : List Value} (hn : NdIs Wb n cs) (hown : W'.ownsRow Wb.heap.size 56 9 v' (L.length + 1) (X.flatten ++ (.int .i64 (d : Int) :: cs))) : StOwn Wb W' v' (L ++ [(d, n)]) := by
  refine ⟨X ++ [.int .i64 (d : Int) :: cs], by simp [hX], by simpa using hown, fun j h => ?_⟩
  by_cases hj : j < L.length
  · obtain ⟨c, h1, h2⟩ := hc j hj
    refine ⟨c, ?_, ?_⟩
    · rw [List.getElem?_append_left (by omega), List.getElem_append_left hj]; exact h1
    · rw [List.getElem_append_left hj]; exact h2
  · have hj2 : j = L.length := by simp at h; omega
    subst hj2
    refine ⟨cs, ?_, ?_⟩
    · rw [List.getElem?_append_right (by omega)]; simp [hX]
    · simpa using hn
theorem Td.flat_succ (l : List Nd) (f : Nd → List (Nat × Nd)) (k : Nat) (m : Nd) (hk : l[k]? = some m) : (l.take (k + 1)).flatMap f = (l.take k).flatMap f ++ f m := by
  obtain ⟨h, rfl⟩ := List.getElem?_eq_some_iff.1 hk
  rw [List.take_succ_eq_append_getElem h, List.flatMap_append]; simp
theorem Td.flat_le (l : List Nd) (f : Nd → List (Nat × Nd)) (k : Nat) : ((l.take k).flatMap f).length ≤ (l.flatMap f).length := by
  have h : l.flatMap f = (l.take k).flatMap f ++ (l.drop k).flatMap f := by rw [← List.flatMap_append, List.take_append_drop]
  rw [h, List.length_append]; omega
theorem Td.all_len_pos (k d : Nat) (n : Nd) : 1 ≤ (Td.all (k + 1) d n).length := by rw [Td.all]; simp
def AllOk (k : Nat) : Prop := ∀ (d : Nat) (Wb W : World) (v : Value) (L : List (Nat × Nd)) (n : Nd) (cs : List Value), d + k = 1001 → Below Wb.heap.size Wb W → StOwn Wb W v L → NdIs Wb n cs → L.length + (Td.all k d n).length ≤ 1000000 →
  Calls Tryd.prog 20 #[v, .agg cs.toArray, .int .i64 (d : Int)] W fun e w' => ∃ v', e = .returned v' ∧ StOwn Wb w' v' (L ++ Td.all k d n) ∧ W.grownBy w' v.ownBlock ∧ ∀ b, v'.ownBlock = some b → v.ownBlock = some b ∨ W.heap.size ≤ b
theorem all_zero : AllOk 0 := by
  intro d Wb W v L n cs hd hB hO h hL
  obtain ⟨vs, a, cap, C, hC⟩ := h.cells
  have hcs := hC.eq
  subst hcs
  have hd1 : (1000 : Int) < d := by omega
  have HO := Lib.hid hO
  clear hC h hO
  go_enter Tryd.func20, Tryd.ntmps20
  go_wp2
  go_ret
  obtain ⟨X, h1, h2, h3⟩ := HO.out
  exact ⟨v, rfl, ⟨X, by simpa [Td.all] using h1, by simpa [Td.all] using h2.alloc _, by simpa [Td.all] using h3⟩, World.grownBy_alloc _ _ _, fun b hb => .inl hb⟩
set_option maxRecDepth 100000 in
set_option maxHeartbeats 4000000 in
theorem all_step (k M : Nat) (hM : M = k + 1) (ih : AllOk k) : AllOk M := by
  intro d Wb W v L n cs hd hB hO h hL
  obtain ⟨i0, hi, hz0, hz1, hz2⟩ := info_parts Tryd.infoStep
  have hd0 : ¬ (1000 : Int) < d := by omega
  obtain ⟨d1, hd1⟩ : ∃ d1, d1 = d + 1 := ⟨_, rfl⟩
  have hd2 : (d : Int) + 1 = (d1 : Int) := by omega
  have hd3 : d1 + k = 1001 := by omega
  have HD1 := Lib.hid hd1
  have HM0 := Lib.hid hM
  have HN := Lib.hid h
  have HL := Lib.hid hL
  obtain ⟨vs, a, cap, C, hC⟩ := h.cells
  obtain ⟨N, hN⟩ : ∃ N, (Td.subs n).length = N := ⟨_, rfl⟩
  have hcs := hC.eq
  have hlen := hC.len
  rw [hN] at hcs hlen
  subst hcs
  have HC := Lib.hid hC
  have HNN := Lib.hid hN
  have IH := Lib.hid ih
  have HB := Lib.hid hB
  obtain ⟨X, hX1, hX2, hX3⟩ := hO
  have hlt : ∀ b, v.ownBlock = some b → Wb.heap.size ≤ b ∧ b < W.heap.size := fun b hb => World.ownsRow.lt hX2 b hb
  have HLT := Lib.hid hlt
  have HX1 := Lib.hid hX1
  have HX3 := Lib.hid hX3
  have hbase : Wb.heap.size ≤ W.heap.size := hB.size
  have hll : L.length + 1 ≤ 1000000 := by
    rw [hM] at hL
    have := Td.all_len_pos k d n
    omega
  obtain ⟨LN, hLN⟩ : ∃ LN, L.length = LN := ⟨_, rfl⟩
  have HLN := Lib.hid hLN
  obtain ⟨fs, hfs⟩ : ∃ fs, X.flatten = fs := ⟨_, rfl⟩
  have HFS := Lib.hid hfs
  rw [hLN] at hX2 hll
  rw [hfs] at hX2
  clear h hC hN ih hM hd1 hB hX1 hX3 hlt hLN hfs hL hd
  obtain ⟨W1, hW1⟩ : ∃ W1, W.alloc (.cells #[.int .i64 (Td.kind n), vs, .int .i64 (Td.num n), .string (Td.name n), .int .i64 (Td.mn n), .int .i64 (Td.mx n), .bool (Td.lazy n), .slice a N cap] 25) = W1 := ⟨_, rfl⟩
  have hbx : W1.cell? ⟨W.heap.size, 7, none⟩ = some (.slice a N cap) := by rw [← hW1]; simp
  have hsz1 : W1.heap.size = W.heap.size + 1 := by rw [← hW1]; simp
  have hG1 : W.grownBy W1 v.ownBlock := by rw [← hW1]; exact World.grownBy_alloc _ _ _
  have hnew := heap_alloc_new (W.alloc (.cells #[.int .i64 (Td.kind n), vs, .int .i64 (Td.num n), .string (Td.name n), .int .i64 (Td.mn n), .int .i64 (Td.mx n), .bool (Td.lazy n), .slice a N cap] 25)) (.cells #[.int .i64 (d : Int), .int .i64 (Td.kind n), vs, .int .i64 (Td.num n), .string (Td.name n), .int .i64 (Td.mn n), .int .i64 (Td.mx n), .bool (Td.lazy n), .slice a N cap] 56)
  rw [show (W.alloc (.cells #[.int .i64 (Td.kind n), vs, .int .i64 (Td.num n), .string (Td.name n), .int .i64 (Td.mn n), .int .i64 (Td.mx n), .bool (Td.lazy n), .slice a N cap] 25)).heap.size = W.heap.size + 1 from by simp] at hnew
  have HNEW := Lib.hid hnew
  have hvs1 : vs.oneCell' = true := by
    obtain ⟨_, _, e, _⟩ := HC.out.set
    rw [e]; rfl
  clear hnew
  have HBX := Lib.hid hbx
  have HSZ := Lib.hid hsz1
  have HW1 := Lib.hid hW1
  have HG1 := Lib.hid hG1
  clear hbx hsz1 hW1 hG1
  go_enter Tryd.func20, Tryd.ntmps20
  go_wp2_with (at_builtin; (refine wpList_append_lies _ (by rfl) _ _ 52 (by rfl) Wb.heap.size 56 i0 (.agg #[.int .i64 0, .int .i64 0, .slice none 0 0, .int .i64 0, .string ⟨#[]⟩, .int .i64 0, .int .i64 0, .bool false, .slice none 0 0]) 9 112 Tryd.underStep hi hz0 hz1 hz2 rfl (by decide) _ LN fs (by rfl) ((hX2.alloc _).alloc _) ⟨W.heap.size + 1, 0, none⟩ 1 1 [.int .i64 d, .int .i64 (Td.kind n), vs, .int .i64 (Td.num n), .string (Td.name n), .int .i64 (Td.mn n), .int .i64 (Td.mx n), .bool (Td.lazy n), .slice a N cap] (by rfl) rfl (World.news_of_block HNEW.out) (by simp [Value.oneCell']; exact hvs1) (by omega) (by unfold maxLen; omega) (by omega) (by simp; omega) (W.heap.size + 2) (by simp) ?_))
  intro g1 cap1 w1 hown' hgrow hat hlt1
  have HO1 : Hid (StOwn Wb w1 (.slice (some ⟨g1, 0, none⟩) (LN + 1) cap1) (L ++ [(d, n)])) := Lib.hid (StOwn.snoc HX1.out HX3.out HN.out (by rw [HLN.out, HFS.out]; exact hown'))
  rw [HW1.out] at hgrow
  have HG2 : Hid (W1.grownBy w1 v.ownBlock) := Lib.hid ((World.grownBy_alloc _ _ _).trans hgrow)
  have HOB : Hid (∀ b, (Value.slice (some ⟨g1, 0, none⟩) (LN + 1) cap1).ownBlock = some b → v.ownBlock = some b ∨ W1.heap.size ≤ b) := Lib.hid (fun b hb => by
    have hb' : g1 = b := by simpa [Value.ownBlock] using hb
    subst hb'
    rcases hat with h | h
    · exact .inl h
    · exact .inr (by rw [HSZ.out]; omega))
  clear hown' hgrow hat hlt1 hX2
  go_wp2
  go_loopw [0, 7] (fun lv iv wr => ∃ i : Nat, i ≤ N ∧ iv = .int .i64 (i : Int) ∧ Hid (StOwn Wb wr lv (L ++ ((d, n) :: ((Td.subs n).take i).flatMap (Td.all k d1)))) ∧ Hid (W1.grownBy wr v.ownBlock) ∧ Hid (∀ b, lv.ownBlock = some b → v.ownBlock = some b ∨ W1.heap.size ≤ b)) (fun _ iv _ => N - (intOf iv).toNat)
  case atStart => exact ⟨0, Nat.zero_le _, rfl, Lib.hid (by simpa using HO1.out), HG2, HOB⟩
  case round =>
    obtain ⟨i, hi, rfl, HS, HG, HA⟩ := hrel
    have HG0 := Lib.hid (HG1.out.trans HG.out)
    have hbx : wr.cell? ⟨W.heap.size, 7, none⟩ = some (.slice a N cap) := HG.out.cell HBX.out (fun e => by have := (HLT.out _ e.symm).2; simp at this)
    have hbs : W.heap.size < wr.heap.size := by have := HG.out.size; rw [HSZ.out] at this; omega
    by_cases hlt : i < N
    · obtain ⟨b, off, m, u0, u1, u2, u3, u4, u5, u6, u7, rfl, hb, hm, hnd, q0, q1, q2, q3, q4, q5, q6, q7⟩ := HC.out.sub i (by rw [HNN.out]; exact hlt)
      have hbw : Below Wb.heap.size Wb wr := HB.out.grown HG0.out hbase (fun q hq => (HLT.out q hq).1)
      have kc : ∀ o v, Wb.cell? ⟨b, o, none⟩ = some v → wr.cell? ⟨b, o, none⟩ = some v := fun o v h => (hbw.cell (p := ⟨b, o, none⟩) hb).trans h
      replace q0 := kc _ _ q0; replace q1 := kc _ _ q1; replace q2 := kc _ _ q2; replace q3 := kc _ _ q3
      replace q4 := kc _ _ q4; replace q5 := kc _ _ q5; replace q6 := kc _ _ q6; replace q7 := kc _ _ q7
      have hbl : b < wr.heap.size := Nat.lt_of_lt_of_le hb hbw.size
      have HND := Lib.hid hnd
      have HM := Lib.hid hm
      have HBW := Lib.hid hbw
      have hbound : Hid ((L ++ ((d, n) :: ((Td.subs n).take i).flatMap (Td.all k d1))).length + (Td.all k d1 m).length ≤ 1000000) := Lib.hid (by
        have h1 := HL.out
        rw [HM0.out, Td.all, ← HD1.out] at h1
        have h2 := Td.flat_le (Td.subs n) (Td.all k d1) (i + 1)
        rw [Td.flat_succ _ _ _ _ HM.out, List.length_append] at h2
        simp only [List.length_append, List.length_cons] at h1 ⊢
        omega)
      clear kc hm hnd hbw
      go_wp2_with fail
      refine (IH.out _ _ _ _ _ _ _ hd3 HBW.out HS.out HND.out hbound.out).mono ?_
      rintro e w5 ⟨v5, rfl, hs5, hg5, ha5⟩
      have HS5 : Hid (StOwn Wb w5 v5 (L ++ ((d, n) :: ((Td.subs n).take (i + 1)).flatMap (Td.all k d1)))) := Lib.hid (by
        rw [Td.flat_succ _ _ _ _ HM.out]
        simpa using hs5)
      have HG5 : Hid (W1.grownBy w5 v.ownBlock) := Lib.hid (HG.out.andThen hg5 (fun j hj => (HA.out j hj).symm))
      have HA5 : Hid (∀ b, v5.ownBlock = some b → v.ownBlock = some b ∨ W1.heap.size ≤ b) := Lib.hid (fun b hb => by
        rcases ha5 b hb with h | h
        · exact HA.out b h
        · exact .inr (by have := HG.out.size; omega))
      clear hs5 hg5 ha5 HS HG HA hbound
      go_wp2
      go_roundw
      case rel => exact ⟨i + 1, by omega, by go_num, HS5, HG5, HA5⟩
      case measure => simp [intOf]; omega
    · obtain rfl : i = N := by omega
      go_wp2
      go_ret
      refine ⟨_, rfl, ?_, HG0.out, fun b hb => ?_⟩
      · have h1 := HS.out
        rw [List.take_of_length_le (by rw [HNN.out]; exact Nat.le_refl _)] at h1
        rw [HM0.out, Td.all, ← HD1.out]; exact h1
      · rcases HA.out b hb with h | h
        · exact .inl h
        · exact .inr (by rw [HSZ.out] at h; omega)
theorem refAll_any : ∀ k : Nat, AllOk k
  | 0 => all_zero
  | k + 1 => all_step k _ rfl (refAll_any k)
end Go.Proofs.YtecmeeobabadeaaDoor
namespace Go.Proofs.YtecmeeobabadeaaDoor
open Go.RowKit
set_option linter.unusedVariables false
theorem flat9_at : ∀ (X : List (List Value)), (∀ x ∈ X, x.length = 9) → ∀ (j q : Nat) (x : List Value), X[j]? = some x → q < 9 → X.flatten[j * 9 + q]? = x[q]?
  | [], _, j, q, x, hx, _ => by simp at hx
  | y :: X, h, 0, q, x, hx, hq => by
    simp at hx
    subst hx
    have hy := h y (by simp)
    rw [List.flatten_cons, List.getElem?_append_left (by omega)]; simp
  | y :: X, h, j + 1, q, x, hx, hq => by
    have hy := h y (by simp)
    rw [List.flatten_cons, List.getElem?_append_right (by omega)]
    have := flat9_at X (fun x hx => h x (List.mem_cons_of_mem _ hx)) j q x (by simpa using hx) hq
    rw [← this]; congr 1; omega
/-- A step of an owned row, laid open. -/
theorem StOwn.at {Wb W : World} {v : Value} {L : List (Nat × Nd)} (h : StOwn Wb W v L) (j : Nat) (hj : j < L.length) : ∃ g cap cs, v = .slice (some ⟨g, 0, none⟩) L.length cap ∧ Wb.heap.size ≤ g ∧ g < W.heap.size ∧
    W.cell? ⟨g, j * 9, none⟩ = some (.int .i64 (L[j].1 : Int)) ∧ NdIs Wb L[j].2 cs ∧ ∀ q, q < 8 → W.cell? ⟨g, j * 9 + 1 + q, none⟩ = cs[q]? := by
  obtain ⟨X, h1, h2, h3⟩ := h
  obtain ⟨g, cap, rfl, hb, hg⟩ := World.ownsRow.form h2 (by omega)
  obtain ⟨cs, hx, hn⟩ := h3 j hj
  have h9 : ∀ x ∈ X, x.length = 9 := fun x hx => by
    obtain ⟨i, hi, rfl⟩ := List.getElem_of_mem hx
    obtain ⟨c, e, hc⟩ := h3 i (by omega)
    rw [List.getElem?_eq_getElem hi] at e
    rw [Option.some.inj e]
    simp [hc.len]
  refine ⟨g, cap, cs, rfl, hb, hg, ?_, hn, fun q hq => ?_⟩
  · have := World.ownsRow.cellAt h2 (j * 9) (by omega)
    rw [this]
    have h5 := flat9_at X h9 j 0 _ hx (by omega)
    simpa using h5
  · have := World.ownsRow.cellAt h2 (j * 9 + 1 + q) (by omega)
    rw [this]
    have h5 := flat9_at X h9 j (1 + q) _ hx (by omega)
    rw [show j * 9 + 1 + q = j * 9 + (1 + q) from by omega, h5, show 1 + q = q + 1 from by omega]; simp
theorem StOwn.slice {Wb W : World} {v : Value} {L : List (Nat × Nd)} (h : StOwn Wb W v L) : ∃ a cap, v = .slice a L.length cap := by
  obtain ⟨X, h1, h2, h3⟩ := h
  rcases h2.2 with ⟨e, e0⟩ | ⟨g, cap, cur, e, _⟩
  · exact ⟨none, 0, by rw [e, e0]⟩
  · exact ⟨_, _, e⟩
theorem StOwn.nil (W : World) : StOwn W W (.slice none 0 0) [] := ⟨[], rfl, World.ownsRow_nil _ _ _ _, fun j h => absurd h (by simp)⟩
/-- A row of texts that a call owns. -/
def TxOwn (W : World) (base : Nat) (v : Value) (T : List ByteArray) : Prop := W.ownsRow base 9 1 v T.length (T.map Value.string)
theorem Tryd.infoText : (Tryd.prog.info? 9).map (fun i => (i.zero, i.size, i.bytes)) = some (some (.string ⟨#[]⟩), 1, 16) := by kernel_rfl
theorem Tryd.underText : Tryd.prog.underlying 54 = some (.slice 9) := by kernel_rfl
namespace Td
/-- The names of the groups among nodes. -/
def groups (l : List (Nat × Nd)) : List ByteArray := (l.filter (fun p => kind p.2 == 6)).map (fun p => name p.2)
end Td

























































































end Go.Proofs.YtecmeeobabadeaaDoor
