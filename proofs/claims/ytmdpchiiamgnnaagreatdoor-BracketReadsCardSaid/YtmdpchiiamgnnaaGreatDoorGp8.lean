/- The reference's Make (burinref02) for operation 1: the list of the set made of two. · Owned lists of ranges read as rows; the contracts of the reference's Norm, All, Not and Count (burinref02), and of burinbook.SameRanges on rows. · Small laws of append, on lists of ranges. · Lists of integers in memory, owned or read, and small laws on worlds. -/
import Derived.Test.YtmdpchiiamgnnaaGreatDoorGp4
import Derived.Test.YtmdpchiiamgnnaaGreatDoorGp7
import Derived.RangeFuncRecord
import Derived.Laws.MakeOwn
import Derived.Laws.OwnMore
namespace Go.Proofs.YtmdpchiiamgnnaaGreatDoor
open Go.RowKit
set_option linter.unusedVariables false
set_option maxRecDepth 100000 in
set_option maxHeartbeats 8000000 in
theorem refMake1 (W : World) (va vb : Value) (a b : List (Int × Int)) (ha : RRow W va a) (hb : RRow W vb b) :
    Calls Tryz.prog 50 #[.int .i64 1, va, vb] W (MakePost 1 a b W) := by
  obtain ⟨i0, hi, hz0, hz1, hz2⟩ := info_parts Tryz.infoRange
  have HA := Lib.hid ha
  have HB := Lib.hid hb
  clear ha hb
  go_enter Tryz.func50, Tryz.ntmps50
  go_wp2
  go_loopw [7, 8, 9, 10, 11, 12, 13] (fun V A r1 r2 r3 r4 r5 wr => ∃ (t : Int) (out : List (Int × Int)), 0 ≤ t ∧ t ≤ 1114112 ∧ A = .int .i64 t ∧ (out.length : Int) ≤ t ∧ Hid (Rg.MInv (fun q => Rg.opB 1 (Rg.hasB a q) (Rg.hasB b q)) t out) ∧ RgOwn wr W.heap.size V out ∧ Below W.heap.size W wr) (fun _ A _ _ _ _ _ _ => (1114112 - intOf A).toNat)
  case atStart => exact ⟨0, [], by omega, by omega, rfl, by simp, Lib.hid (Rg.MInv.start _), RgOwn.nil, Below.refl _ _⟩
  case round =>
    obtain ⟨t, out, ht0, ht1, rfl, hlen, HM, hO, hBl⟩ := hrel
    by_cases hlt : t ≤ 1114111
    · have HOwn := Lib.hid hO
      have HAw := Lib.hid (HA.out.below (Nat.le_refl _) hBl)
      have HBw := Lib.hid (HB.out.below (Nat.le_refl _) hBl)
      have hsz := hBl.size
      have he1 := Rg.edgeN_bd a t hlt
      have he2 := Rg.edgeN_bd b t hlt
      have hca := fun q => Rg.has_const a t q ht0
      have hcb := fun q => Rg.has_const b t q ht0
      obtain ⟨E1, hE1⟩ : ∃ E, Rg.edgeN a t = E := ⟨_, rfl⟩
      obtain ⟨E2, hE2⟩ : ∃ E, Rg.edgeN b t = E := ⟨_, rfl⟩
      obtain ⟨X, hX⟩ : ∃ X, Rg.hasB a t = X := ⟨_, rfl⟩
      obtain ⟨Y, hY⟩ : ∃ Y, Rg.hasB b t = Y := ⟨_, rfl⟩
      rw [hE1, hX] at hca
      rw [hE2, hY] at hcb
      rw [hE1] at he1
      rw [hE2] at he2
      have HC : Hid (∀ q, t ≤ q → q < E1 → q < E2 → (fun q => Rg.opB 1 (Rg.hasB a q) (Rg.hasB b q)) q = Rg.opB 1 X Y) := Lib.hid (fun q h1 h2 h3 => by show Rg.opB 1 (Rg.hasB a q) (Rg.hasB b q) = _; rw [hca q h1 h2 (by omega), hcb q h1 h3 (by omega)])
      have HF : Hid ((fun q => Rg.opB 1 (Rg.hasB a q) (Rg.hasB b q)) t = Rg.opB 1 X Y) := Lib.hid (HC.out t (Int.le_refl _) (by omega) (by omega))
      have HE1 := Lib.hid hE1
      have HE2 := Lib.hid hE2
      have HX := Lib.hid hX
      have HY := Lib.hid hY
      have HBl := Lib.hid hBl
      clear hO hca hcb hE1 hE2 hX hY hBl
      obtain ⟨N, hN1, hN2, hN3, hNE⟩ : ∃ N, N ≤ E1 ∧ N ≤ E2 ∧ t < N ∧ ((E2 < E1 ∧ N = E2) ∨ (¬ E2 < E1 ∧ N = E1)) := by
        by_cases h : E2 < E1
        · exact ⟨E2, by omega, by omega, by omega, .inl ⟨h, rfl⟩⟩
        · exact ⟨E1, by omega, by omega, by omega, .inr ⟨h, rfl⟩⟩
      rcases hNE with ⟨hEE, rfl⟩ | ⟨hEE, rfl⟩
      all_goals
        go_wp2_with fail
        refine (refEdge_at HAw.out ht0 hlt HE1.out).mono ?_
        rintro e w' ⟨rfl, rfl⟩
        go_wp2_with fail
        refine (refEdge_at HBw.out ht0 hlt HE2.out).mono ?_
        rintro e w' ⟨rfl, rfl⟩
        go_wp2_with fail
        refine (refHas_at HAw.out HX.out).mono ?_
        rintro e w' ⟨rfl, rfl⟩
        go_wp2_with fail
        refine (refHas_at HBw.out HY.out).mono ?_
        rintro e w' ⟨rfl, rfl⟩
        cases X <;> cases Y
        all_goals
          first
          | (have hf := HF.out.trans (show _ = false by decide)
             have HM' := Lib.hid (HM.out.skip hN3 (fun q h1 h2 => (HC.out q h1 (by omega) (by omega)).trans HF.out.symm) hf)
             clear hf
             go_wp2
             go_roundw
             case rel => exact ⟨_, out, by omega, by omega, rfl, by omega, HM', HOwn.out, HBl.out⟩
             case measure => simp [intOf]; omega)
          | (have hf := HF.out.trans (show _ = true by decide)
             have HK := Lib.hid (fun q (h1 : t ≤ q) (h2 : q < N) => (HC.out q h1 (by omega) (by omega)).trans HF.out.symm)
             have HT := Lib.hid hf
             clear hf
             rcases nil_or_snoc out with rfl | ⟨ini, p, rfl⟩
             · obtain ⟨a', cap', rfl⟩ := HOwn.out.empty
               have HM' := Lib.hid (HM.out.add ht0 hN3 (by omega) HK.out HT.out (fun p hp => by cases hp))
               have hown := HOwn.out
               unfold RgOwn at hown
               go_wp2_with (at_builtin; (refine wpList_append_lies _ (by rfl) _ _ 23 (by rfl) W.heap.size 47 i0 (.agg #[.int .i64 0, .int .i64 0]) 2 16 Tryz.underlying23 hi hz0 hz1 hz2 rfl (by decide) _ 0 [] (by rfl) (hown.alloc _) ⟨wr.heap.size, 0, none⟩ 1 1 [.int .i64 t, .int .i64 (N - 1)] (by rfl) rfl (World.news_of_block (cs := #[.int .i64 t, .int .i64 (N - 1)]) (heap_alloc_new wr _)) (by simp [Value.oneCell']) (by omega) (by unfold maxLen; omega) (by omega) (by simp; omega) (wr.heap.size + 1) (by simp) ?_))
               intro g1 cap1 w1 hown' hgrow _ _
               have hO2 : RgOwn w1 W.heap.size (.slice (some ⟨g1, 0, none⟩) (0 + 1) cap1) ([] ++ [(t, N - 1)]) := by unfold RgOwn; rw [List.length_append, flat2_snoc]; exact hown'
               have hB2 := (HBl.out.alloc hsz _).grown hgrow (by simp; omega) (fun q hq => (hown.lt q hq).1)
               have HO2 := Lib.hid hO2
               clear hO2 hown' hgrow hown
               go_wp2
               go_roundw
               case rel => exact ⟨_, _, by omega, by omega, rfl, by simp; omega, HM', HO2.out, hB2⟩
               case measure => simp [intOf]; omega
             · obtain ⟨g, cap', rfl, hgb, hgs⟩ := HOwn.out.form
               have hnn := Rg.norm_unsnoc ini 0 p HM.out.norm
               obtain ⟨_, _, hp1, hp2, hp3⟩ := hnn
               have hcell := HOwn.out.hi
               obtain ⟨hc1, hc2⟩ := hcell
               obtain ⟨m, hm⟩ : ∃ m, ini.length = m := ⟨_, rfl⟩
               have hlen' : (m : Int) + 1 ≤ t := by rw [List.length_append] at hlen; simp at hlen; omega
               rw [hm] at hc1 hc2
               have HMM := Lib.hid hm
               by_cases hpt : p.2 + 1 = t
               · have HM' := Lib.hid (HM.out.join ht0 hN3 (by omega) HK.out HT.out hpt)
                 have hO2 := HOwn.out.setHi (N - 1)
                 rw [hm] at hO2
                 have HO2 := Lib.hid hO2
                 have hbq : (p.2 + 1 == t) = true := by rw [hpt]; simp
                 have HPT := Lib.hid hpt
                 clear hO2 hpt hlen
                 rw [hm]
                 clear hm
                 go_wp2
                 go_roundw
                 case rel => exact ⟨_, _, by omega, by omega, rfl, by rw [List.length_append, HMM.out]; simp; omega, HM', HO2.out, HBl.out.setCell (p := ⟨g, m * 2 + 1, none⟩) hgb _⟩
                 case measure => simp [intOf]; omega
               · have HM' := Lib.hid (HM.out.add ht0 hN3 (by omega) HK.out HT.out (HM.out.last hpt))
                 have hbq : (p.2 + 1 == t) = false := by rw [beq_eq_false_iff_ne]; exact hpt
                 have hown := HOwn.out
                 unfold RgOwn at hown
                 rw [List.length_append, hm] at hown
                 clear hpt hlen
                 rw [hm]
                 clear hm
                 go_wp2_with (at_builtin; (refine wpList_append_lies _ (by rfl) _ _ 23 (by rfl) W.heap.size 47 i0 (.agg #[.int .i64 0, .int .i64 0]) 2 16 Tryz.underlying23 hi hz0 hz1 hz2 rfl (by decide) _ (m + 1) (flat2 (ini ++ [p])) (by rfl) (hown.alloc _) ⟨wr.heap.size, 0, none⟩ 1 1 [.int .i64 t, .int .i64 (N - 1)] (by rfl) rfl (World.news_of_block (cs := #[.int .i64 t, .int .i64 (N - 1)]) (heap_alloc_new wr _)) (by simp [Value.oneCell']) (by omega) (by unfold maxLen; omega) (by omega) (by simp; omega) (wr.heap.size + 1) (by simp) ?_))
                 intro g1 cap1 w1 hown' hgrow _ _
                 have hO2 : RgOwn w1 W.heap.size (.slice (some ⟨g1, 0, none⟩) (m + 1 + 1) cap1) ((ini ++ [p]) ++ [(t, N - 1)]) := by unfold RgOwn; rw [List.length_append, List.length_append, flat2_snoc, HMM.out]; simpa [flat2] using hown'
                 have hB2 := (HBl.out.alloc hsz _).grown hgrow (by simp; omega) (fun q hq => (hown.lt q hq).1)
                 have HO2 := Lib.hid hO2
                 clear hO2 hown' hgrow hown
                 go_wp2
                 go_roundw
                 case rel => exact ⟨_, _, by omega, by omega, rfl, by rw [List.length_append, List.length_append, HMM.out]; simp; omega, HM', HO2.out, hB2⟩
                 case measure => simp [intOf]; omega)
    · have HMd := Lib.hid (Rg.made_of HM.out (by omega))
      have HOwn := Lib.hid hO
      clear hO
      go_wp2
      go_ret
      exact ⟨_, out, rfl, HMd.out, HOwn.out, hBl⟩
end Go.Proofs.YtmdpchiiamgnnaaGreatDoor
namespace Go.Proofs.YtmdpchiiamgnnaaGreatDoor
open Go.RowKit
set_option linter.unusedVariables false
namespace Rg
theorem norm_len : ∀ (l : List R) (lo : Int), NormFrom lo l → lo ≤ 1114113 → (l.length : Int) + lo ≤ 1114113
  | [], lo, _, h => by simpa using h
  | p :: l, lo, ⟨h1, h2, h3, h4⟩, h => by
    have := norm_len l (p.2 + 2) h4 (by omega)
    rw [List.length_cons]; push_cast; omega
theorem norm_take : ∀ (l : List R) (lo : Int) (k : Nat), NormFrom lo l → NormFrom lo (l.take k)
  | _, _, 0, _ => by rw [List.take_zero]; trivial
  | [], _, k + 1, _ => trivial
  | p :: l, lo, k + 1, ⟨h1, h2, h3, h4⟩ => ⟨h1, h2, h3, norm_take l (p.2 + 2) k h4⟩
/-- How many numbers: of a normalized list. -/
def sumL (l : List R) : Int := (l.map fun p => p.2 - p.1 + 1).sum
theorem sumL_le : ∀ (l : List R) (lo : Int), NormFrom lo l → 0 ≤ sumL l ∧ (sumL l + lo ≤ 1114112 ∨ sumL l = 0)
  | [], lo, _ => ⟨Int.le_refl _, .inr rfl⟩
  | p :: l, lo, ⟨h1, h2, h3, h4⟩ => by
    have := sumL_le l (p.2 + 2) h4
    have e : sumL (p :: l) = p.2 - p.1 + 1 + sumL l := rfl
    omega
theorem sumL_take_succ (l : List R) (k : Nat) (hk : k < l.length) : sumL (l.take (k + 1)) = sumL (l.take k) + ((l[k]?.getD (0, 0)).2 - (l[k]?.getD (0, 0)).1 + 1) := by
  unfold sumL
  rw [List.take_succ_eq_append_getElem hk, List.map_append, List.sum_append]
  simp [hk]
theorem norm_get {l : List R} (h : NormL l) (k : Nat) (hk : k < l.length) : 0 ≤ (l[k]?.getD (0, 0)).1 ∧ (l[k]?.getD (0, 0)).1 ≤ (l[k]?.getD (0, 0)).2 ∧ (l[k]?.getD (0, 0)).2 ≤ 1114111 := by
  rw [List.getElem?_eq_getElem hk]
  exact norm_lo l 0 h _ (List.getElem_mem hk)
end Rg
theorem flat2_get : ∀ (l : List (Int × Int)) (j : Nat), j < l.length → (flat2 l)[j * 2]? = some (.int .i64 (l[j]?.getD (0, 0)).1) ∧ (flat2 l)[j * 2 + 1]? = some (.int .i64 (l[j]?.getD (0, 0)).2)
  | p :: l, 0, _ => ⟨rfl, rfl⟩
  | p :: l, j + 1, h => by
    have := flat2_get l j (by simpa using h)
    have e : flat2 (p :: l) = Value.int .i64 p.1 :: Value.int .i64 p.2 :: flat2 l := rfl
    rw [e, show (j + 1) * 2 = j * 2 + 1 + 1 by omega]
    simpa using this
abbrev Wide64 (l : List (Int × Int)) : Prop := ∀ p ∈ l, -9223372036854775808 ≤ p.1 ∧ p.1 ≤ 9223372036854775807 ∧ -9223372036854775808 ≤ p.2 ∧ p.2 ≤ 9223372036854775807
theorem RgOwn.row {W : World} {base : Nat} {v : Value} {l : List (Int × Int)} (h : RgOwn W base v l) (hl : l.length ≤ 8796093022208) (hw : Wide64 l) : RRow W v l := by
  obtain ⟨a, cap, rfl⟩ := h.slice
  refine ⟨a, cap, rfl, hl, hw, fun j hj => ?_⟩
  have hf := flat2_get l j hj
  have hln := flat2_len l
  rcases h.2 with ⟨hv, h0⟩ | ⟨g, cap', cur, hv, hb, hg, _⟩
  · omega
  · injection hv with hv _ _
    subst hv
    refine ⟨g, 0, rfl, (Array.getElem?_eq_some_iff.1 hg).1, ?_, ?_⟩
    · rw [Nat.zero_add, h.cellAt _ (by omega)]; exact hf.1
    · rw [Nat.zero_add, h.cellAt _ (by omega)]; exact hf.2
theorem RgOwn.normRow {W : World} {base : Nat} {v : Value} {l : List (Int × Int)} (h : RgOwn W base v l) (hn : Rg.NormL l) : RRow W v l := by
  refine h.row ?_ ?_
  · have := Rg.norm_len l 0 hn (by omega); omega
  · intro p hp; have := Rg.norm_lo l 0 hn p hp; omega
theorem RRow.nil (W : World) : RRow W (.slice none 0 0) [] := ⟨none, 0, rfl, Nat.zero_le _, (fun p h => by cases h), fun j h => by cases h⟩
theorem RRow.drewN {W : World} {v : Value} {l : List (Int × Int)} (h : RRow W v l) (d : Nat) : RRow (W.drewN d) v l := h
set_option maxRecDepth 100000 in
set_option maxHeartbeats 2000000 in
/-- The lists' lengths differ. -/
theorem same_rg_len (W : World) (a b : Option Addr) (n m p q : Nat) (hn : n ≤ 8796093022208) (hm : m ≤ 8796093022208) (hne : n ≠ m) :
    Calls Tryz.prog 11 #[.slice a n p, .slice b m q] W fun e W' => e = .returned (.bool false) ∧ ∃ d, W' = W.drewN d := by
  have hne' : ¬ (n : Int) = (m : Int) := by omega
  go_enter Tryz.func11, Tryz.ntmps11
  go_wp2
  refine wp_loop_rounds 1 ?_
  rw [rounds_succ]
  go_wp2
  go_ret
  exact ⟨congrArg (fun b => Ending.returned (.bool b)) (beq_eq_false_iff_ne.2 hne'), 0, rfl⟩
theorem same_rg (W : World) (va vb : Value) (l m : List (Int × Int)) (ha : RRow W va l) (hb : RRow W vb m) :
    Calls Tryz.prog 11 #[va, vb] W fun e W' => e = .returned (.bool (decide (l = m))) ∧ ∃ d, W' = W.drewN d := by
  obtain ⟨a, p, rfl, hl, _, hca⟩ := ha
  obtain ⟨b, q, rfl, hm, _, hcb⟩ := hb
  by_cases e : l.length = m.length
  · rw [← e] at hcb ⊢
    exact same_rg_walk W a b _ p q l m hl rfl e.symm hca hcb
  · rw [decide_eq_false (fun h => e (by rw [h]))]
    exact same_rg_len W a b _ _ p q hl hm e
set_option maxRecDepth 100000 in
set_option maxHeartbeats 2000000 in
theorem refNorm (W : World) (va : Value) (a : List (Int × Int)) (ha : RRow W va a) :
    Calls Tryz.prog 28 #[va] W (MakePost 1 a [] W) := by
  have HA := Lib.hid ha
  clear ha
  go_enter Tryz.func28, Tryz.ntmps28
  go_wp2_with fail
  refine (refMake1 _ _ _ a [] HA.out (RRow.nil _)).mono ?_
  rintro e wa ⟨v, out, rfl, hm, ho, hb⟩
  go_wp2
  go_ret
  exact ⟨v, out, rfl, hm, ho, hb⟩
end Go.Proofs.YtmdpchiiamgnnaaGreatDoor
namespace Go.Proofs.YtmdpchiiamgnnaaGreatDoor
open Go.RowKit
set_option linter.unusedVariables false
/-- An append whose run is known. -/
theorem wpList_append_run {P : Program} {ops : Array Oper} {rest : List Oper} {o : Oper} {a : Act} {w : World} {Q : Exit → Act → World → Prop} (hgd : o.guard = none) (s x : Operand) (t : TypeId)
    (ho : o.op = .call { callee := .builtin .append, args := #[s, x], argTypes := #[t, t] }) (vs vx v' : Value) (w' : World) (hs : a.eval s = vs) (hx : a.eval x = vx)
    (hr : (Builtin.append_ #[t, t] o.type #[vs, vx]).run P w = .ok v' w') (h : wpList P ops Q rest (a.put o.dst v') w') : wpList P ops Q (o :: rest) a w :=
  wpList_plain hgd fun _ hK => by
    unfold Oper.wp execOp
    simp only [ho, resolve, invoke, builtin, Sem.run_bind, Sem.run_pure, Result.andThen_ok, List.map_toArray, List.map_cons, List.map_nil, hs, hx, hr]
    exact hK _ _ h
theorem rg_news {W : World} {b off : Nat} {a : List (Int × Int)}
    (hc : ∀ j, j < a.length → W.cell? ⟨b, off + j * 2, none⟩ = some (.int .i64 (a[j]?.getD (0, 0)).1) ∧ W.cell? ⟨b, off + j * 2 + 1, none⟩ = some (.int .i64 (a[j]?.getD (0, 0)).2)) :
    ∀ j u, (flat2 a)[j]? = some u → W.cell? ((⟨b, off, none⟩ : Addr).add j) = some u := by
  intro j u hj
  have hlt : j < (flat2 a).length := by
    rcases Nat.lt_or_ge j (flat2 a).length with h | h
    · exact h
    · rw [List.getElem?_eq_none h] at hj; cases hj
  rw [flat2_len] at hlt
  have hadd : (⟨b, off, none⟩ : Addr).add j = ⟨b, off + j, none⟩ := by unfold Addr.add; split <;> simp_all
  rw [hadd]
  have hi := flat2_get a (j / 2) (by omega)
  have hh := hc (j / 2) (by omega)
  rcases Nat.mod_two_eq_zero_or_one j with h0 | h1
  · have e : j = j / 2 * 2 := by omega
    rw [e, hi.1] at hj
    rw [e, hh.1]; exact hj
  · have e : j = j / 2 * 2 + 1 := by omega
    rw [e, hi.2] at hj
    rw [e, ← Nat.add_assoc, hh.2]; exact hj
theorem flat2_one (a : List (Int × Int)) : ∀ u ∈ flat2 a, u.oneCell' = true := by
  intro u hu
  obtain ⟨p, _, hp⟩ := List.mem_flatMap.1 hu
  simp only [List.mem_cons, List.not_mem_nil, or_false] at hp
  rcases hp with rfl | rfl <;> rfl
/-- Nothing is appended. -/
theorem run_append_nothing {P : Program} {w : World} (base : Nat) (t ty e : TypeId) (i : TypeInfo) (size : Nat) (ht : P.underlying t = some (.slice e)) (hi : P.info? e = some i)
    (v : Value) (n : Nat) (xs : List Value) (hown : w.ownsRow base e size v n xs) (A : Option Addr) (c : Nat) :
    (Builtin.append_ #[t, t] ty #[v, .slice A 0 c]).run P w = .ok v w := by
  rcases hown.2 with ⟨rfl, rfl⟩ | ⟨g, cap, cur, rfl, _, _, hnc, _⟩
  · cases A <;> simp [Builtin.append_, run_underlying ht, sizeOf, typeInfo, hi, Builtin.lenOf, Builtin.firstCells, loadCells, loadCellsFrom]
  · cases A <;> simp [Builtin.append_, run_underlying ht, sizeOf, typeInfo, hi, Builtin.lenOf, Builtin.firstCells, hnc, storeCells, loadCells, loadCellsFrom]
end Go.Proofs.YtmdpchiiamgnnaaGreatDoor
namespace Go.Proofs.YtmdpchiiamgnnaaGreatDoor
open Go.RowKit
set_option linter.unusedVariables false
theorem rg_ret_bool {a b : Bool} (h : a = b) : Ending.returned (.bool a) = .returned (.bool b) := by rw [h]
theorem rg_ret_int {k : IntKind} {a b : Int} (h : a = b) : Ending.returned (.int k a) = .returned (.int k b) := by rw [h]
theorem heap_new2 (w : World) (a b : Obj) : ((w.alloc a).alloc b).heap[w.heap.size + 1]? = some b := by
  have := heap_alloc_new (w.alloc a) b
  rwa [show (w.alloc a).heap.size = w.heap.size + 1 from by simp] at this
theorem RgOwn.alloc {W : World} {base : Nat} {v : Value} {l : List (Int × Int)} (h : RgOwn W base v l) (o : Obj) : RgOwn (W.alloc o) base v l := World.ownsRow.alloc h o
theorem RgOwn.lower {W : World} {base base' : Nat} {v : Value} {l : List (Int × Int)} (h : RgOwn W base v l) (hb : base' ≤ base) : RgOwn W base' v l :=
  ⟨h.1, h.2.imp id (fun ⟨g, cap, cur, h1, h2, h3⟩ => ⟨g, cap, cur, h1, Nat.le_trans hb h2, h3⟩)⟩
theorem below_drewN {B : Nat} {w w' : World} (h : Below B w w') (d : Nat) : Below B w (w'.drewN d) := ⟨h.os, h.tape, h.output, h.size, h.block⟩
theorem Tryz.infoInt : (Tryz.prog.info? 3).map (fun i => (i.zero, i.size, i.bytes)) = some (some (.int .i64 0), 1, 8) := by kernel_rfl
abbrev flat1 (T : List Int) : List Value := T.map (Value.int .i64)
/-- A list of integers that a call owns. -/
def IOwn (W : World) (base : Nat) (v : Value) (T : List Int) : Prop := W.ownsRow base 3 1 v T.length (flat1 T)
/-- A value that reads as a list of integers. -/
def IRow (W : World) (v : Value) (T : List Int) : Prop :=
  ∃ a cap, v = .slice a T.length cap ∧ T.length ≤ cap ∧ cap ≤ 9223372036854775807 ∧ ∀ j, j < T.length → ∃ b, a = some ⟨b, 0, none⟩ ∧ b < W.heap.size ∧ W.cell? ⟨b, j, none⟩ = some (.int .i64 (T[j]?.getD 0))
theorem IOwn.nil {W : World} {base : Nat} : IOwn W base (.slice none 0 0) [] := World.ownsRow_nil _ _ _ _
theorem IOwn.below {W W' : World} {base : Nat} {v : Value} {T : List Int} (h : IOwn W base v T) (hb : Below W.heap.size W W') : IOwn W' base v T :=
  h.kept ⟨hb.os, hb.tape, hb.output, hb.size, fun k hk _ => hb.block k hk⟩ (row := none) (by cases hv : v.ownBlock <;> simp)
theorem IOwn.alloc {W : World} {base : Nat} {v : Value} {T : List Int} (h : IOwn W base v T) (o : Obj) : IOwn (W.alloc o) base v T := World.ownsRow.alloc h o
theorem IOwn.lower {W : World} {base base' : Nat} {v : Value} {T : List Int} (h : IOwn W base v T) (hb : base' ≤ base) : IOwn W base' v T :=
  ⟨h.1, h.2.imp id (fun ⟨g, cap, cur, h1, h2, h3⟩ => ⟨g, cap, cur, h1, Nat.le_trans hb h2, h3⟩)⟩
theorem IOwn.row {W : World} {base : Nat} {v : Value} {T : List Int} (h : IOwn W base v T) : IRow W v T := by
  rcases h.2 with ⟨hv, h0⟩ | ⟨g, cap, cur, hv, hb, hg, hnc, hcm, hcs, _⟩
  · exact ⟨none, 0, by rw [h0]; exact hv, by omega, by omega, fun j hj => by omega⟩
  · refine ⟨_, cap, hv, hnc, by simpa [maxLen] using hcm, fun j hj => ⟨g, rfl, (Array.getElem?_eq_some_iff.1 hg).1, ?_⟩⟩
    subst hv
    rw [World.ownsRow.cellAt h j (by omega)]
    simp [flat1, List.getElem?_eq_getElem hj]
theorem IRow.below {W W' : World} {v : Value} {T : List Int} (h : IRow W v T) {B : Nat} (hB : W.heap.size ≤ B) (hb : Below B W W') : IRow W' v T := by
  obtain ⟨a, cap, hv, h1, h2, hc⟩ := h
  refine ⟨a, cap, hv, h1, h2, fun j hj => ?_⟩
  obtain ⟨b, ha, hlt, hcell⟩ := hc j hj
  exact ⟨b, ha, Nat.lt_of_lt_of_le hlt hb.size, (hb.cell (p := ⟨b, j, none⟩) (by show b < B; omega)).trans hcell⟩
end Go.Proofs.YtmdpchiiamgnnaaGreatDoor
