/- The contract of the reference's Make (burinref02), from edge to edge. · The contracts of burinbook.SameRanges and of the reference's Check, Norm, Not and Count (burinref02). · The reference's Make (burinref02) for operation 1: the list of the set made of two. · Owned lists of ranges read as rows; the contracts of the reference's Norm, All, Not and Count (burinref02), and of burinbook.SameRanges on rows. -/
import Derived.Test.YtecclhmjmceheaaGreatDoorGp4
import Derived.Test.YtecclhmjmceheaaGreatDoorGp2
import Derived.Maps.AppendAt
import Derived.Deep.AppendLies
import Derived.Laws.OwnMore
import Derived.Laws.StructEq
import Derived.RangeFuncRecord
namespace Go.Proofs.YtecclhmjmceheaaGreatDoor
open Go.RowKit
set_option linter.unusedVariables false
theorem Tryz.infoRange : (Tryz.prog.info? 103).map (fun i => (i.zero, i.size, i.bytes)) = some (some (.agg #[.int .i64 0, .int .i64 0]), 2, 16) := by kernel_rfl
abbrev flat2 (l : List (Int × Int)) : List Value := l.flatMap fun p => [Value.int .i64 p.1, Value.int .i64 p.2]
theorem flat2_snoc (l : List (Int × Int)) (p : Int × Int) : flat2 (l ++ [p]) = flat2 l ++ [Value.int .i64 p.1, Value.int .i64 p.2] := by simp [flat2]
theorem flat2_len (l : List (Int × Int)) : (flat2 l).length = l.length * 2 := by
  induction l with
  | nil => rfl
  | cons p l ih => show ([_, _] ++ flat2 l).length = _; rw [List.length_append, ih]; simp; omega
/-- A list of ranges that a call owns. -/
def RgOwn (W : World) (base : Nat) (v : Value) (l : List (Int × Int)) : Prop := W.ownsRow base 103 2 v l.length (flat2 l)
theorem RgOwn.below {W W' : World} {base : Nat} {v : Value} {l : List (Int × Int)} (h : RgOwn W base v l) (hb : Below W.heap.size W W') : RgOwn W' base v l :=
  h.kept ⟨hb.os, hb.tape, hb.output, hb.size, fun k hk _ => hb.block k hk⟩ (row := none) (by cases hv : v.ownBlock <;> simp)
theorem RgOwn.hi {W : World} {base g cap : Nat} {l : List (Int × Int)} {p : Int × Int} (h : RgOwn W base (.slice (some ⟨g, 0, none⟩) (l.length + 1) cap) (l ++ [p])) :
    W.cell? ⟨g, l.length * 2 + 1, none⟩ = some (.int .i64 p.2) ∧ W.frozen? ⟨g, l.length * 2 + 1, none⟩ = false := by
  have h' : W.ownsRow base 103 2 (.slice (some ⟨g, 0, none⟩) (l.length + 1) cap) (l.length + 1) (flat2 l ++ [Value.int .i64 p.1, Value.int .i64 p.2]) := by
    have := h; unfold RgOwn at this; rw [List.length_append, flat2_snoc] at this; exact this
  refine ⟨?_, h'.frozenAt _⟩
  rw [h'.cellAt _ (by omega), List.getElem?_append_right (by rw [flat2_len]; omega), flat2_len]
  rw [show l.length * 2 + 1 - l.length * 2 = 1 from by omega]; rfl
theorem RgOwn.setHi {W : World} {base g cap : Nat} {l : List (Int × Int)} {p : Int × Int} (h : RgOwn W base (.slice (some ⟨g, 0, none⟩) (l.length + 1) cap) (l ++ [p])) (y : Int) :
    RgOwn (W.setCell ⟨g, l.length * 2 + 1, none⟩ (.int .i64 y)) base (.slice (some ⟨g, 0, none⟩) (l.length + 1) cap) (l ++ [(p.1, y)]) := by
  have h' : W.ownsRow base 103 2 (.slice (some ⟨g, 0, none⟩) (l.length + 1) cap) (l.length + 1) (flat2 l ++ [Value.int .i64 p.1, Value.int .i64 p.2]) := by
    have := h; unfold RgOwn at this; rw [List.length_append, flat2_snoc] at this; exact this
  have hs := (h'.stored (l.length * 2 + 1) (.int .i64 y)).1
  have e : (flat2 l ++ [Value.int .i64 p.1, Value.int .i64 p.2]).set (l.length * 2 + 1) (.int .i64 y) = flat2 (l ++ [(p.1, y)]) := by
    rw [flat2_snoc, List.set_append_right _ _ (by rw [flat2_len]; omega), flat2_len, show l.length * 2 + 1 - l.length * 2 = 1 from by omega]; rfl
  rw [e] at hs
  unfold RgOwn
  rw [List.length_append]
  exact hs
theorem RgOwn.form {W : World} {base : Nat} {v : Value} {l : List (Int × Int)} {p : Int × Int} (h : RgOwn W base v (l ++ [p])) : ∃ g cap, v = .slice (some ⟨g, 0, none⟩) (l.length + 1) cap ∧ base ≤ g ∧ g < W.heap.size := by
  unfold RgOwn at h
  rw [List.length_append] at h
  rcases h.2 with ⟨_, h0⟩ | ⟨g, cap, cur, hv, hb, hg, _⟩
  · simp at h0
  · exact ⟨g, cap, hv, hb, (Array.getElem?_eq_some_iff.1 hg).1⟩
theorem RgOwn.nil {W : World} {base : Nat} : RgOwn W base (.slice none 0 0) [] := World.ownsRow_nil _ _ _ _
theorem RgOwn.empty {W : World} {base : Nat} {v : Value} (h : RgOwn W base v []) : ∃ a cap, v = .slice a 0 cap := by
  rcases h.2 with ⟨hv, _⟩ | ⟨g, cap, cur, hv, _⟩
  · exact ⟨none, 0, hv⟩
  · exact ⟨_, cap, hv⟩

def MakePost (op : Int) (a b : List (Int × Int)) (W : World) (e : Ending) (w' : World) : Prop := ∃ v out, e = .returned v ∧ Rg.Made op a b out ∧ RgOwn w' W.heap.size v out ∧ Below W.heap.size W w'
theorem nil_or_snoc {α : Type} (l : List α) : l = [] ∨ ∃ ini p, l = ini ++ [p] := by
  rcases List.eq_nil_or_concat l with h | ⟨ini, p, h⟩
  · exact .inl h
  · exact .inr ⟨ini, p, by rw [h, List.concat_eq_append]⟩
theorem refEdge_at {W : World} {v : Value} {l : List (Int × Int)} {r E : Int} (h : RRow W v l) (hr0 : 0 ≤ r) (hr1 : r ≤ 1114111) (hE : Rg.edgeN l r = E) :
    Calls Tryz.prog 193 #[v, .int .i64 r] W fun e w' => e = .returned (.int .i64 E) ∧ W = w' := by
  obtain ⟨a, cap, rfl, hl, hw, hc⟩ := h
  rw [← hE]
  exact refEdge_walk W a _ cap l r rfl hl hc hw hr0 hr1
theorem refHas_at {W : World} {v : Value} {l : List (Int × Int)} {r : Int} {X : Bool} (h : RRow W v l) (hX : Rg.hasB l r = X) :
    Calls Tryz.prog 142 #[v, .int .i64 r] W fun e w' => e = .returned (.bool X) ∧ W = w' := by
  rw [← hX]; exact refHas_any W v l r h
theorem RgOwn.slice {W : World} {base : Nat} {v : Value} {l : List (Int × Int)} (h : RgOwn W base v l) : ∃ a cap, v = .slice a l.length cap := by
  rcases h.2 with ⟨hv, h0⟩ | ⟨g, cap, cur, hv, _⟩
  · exact ⟨none, 0, by rw [h0]; exact hv⟩
  · exact ⟨_, cap, hv⟩

end Go.Proofs.YtecclhmjmceheaaGreatDoor
namespace Go.Proofs.YtecclhmjmceheaaGreatDoor
open Go.RowKit
set_option linter.unusedVariables false
theorem take_succ_eq {α : Type} [Inhabited α] {d : α} (l m : List α) (k : Nat) (hl : k < l.length) (hm : k < m.length) :
    l.take (k + 1) = m.take (k + 1) ↔ l.take k = m.take k ∧ l[k]?.getD d = m[k]?.getD d := by
  rw [List.take_add_one, List.take_add_one, List.getElem?_eq_getElem hl, List.getElem?_eq_getElem hm]
  constructor
  · intro h
    have := List.append_inj h (by simp; omega)
    exact ⟨this.1, by simpa using this.2⟩
  · rintro ⟨h1, h2⟩
    rw [h1]
    simp only [Option.getD_some] at h2
    simp [h2]
set_option maxRecDepth 100000 in
set_option maxHeartbeats 2000000 in
theorem same_rg_walk (W : World) (a b : Option Addr) (n p q : Nat) (l m : List (Int × Int)) (hn : n ≤ 8796093022208) (hl : l.length = n) (hm : m.length = n)
    (ha : ∀ j, j < n → ∃ g off, a = some ⟨g, off, none⟩ ∧ g < W.heap.size ∧ W.cell? ⟨g, off + j * 2, none⟩ = some (.int .i64 (l[j]?.getD (0, 0)).1) ∧ W.cell? ⟨g, off + j * 2 + 1, none⟩ = some (.int .i64 (l[j]?.getD (0, 0)).2))
    (hb : ∀ j, j < n → ∃ g off, b = some ⟨g, off, none⟩ ∧ g < W.heap.size ∧ W.cell? ⟨g, off + j * 2, none⟩ = some (.int .i64 (m[j]?.getD (0, 0)).1) ∧ W.cell? ⟨g, off + j * 2 + 1, none⟩ = some (.int .i64 (m[j]?.getD (0, 0)).2)) :
    Calls Tryz.prog 42 #[.slice a n p, .slice b n q] W fun e W' => e = .returned (.bool (decide (l = m))) ∧ ∃ d, W' = W.drewN d := by
  have HA := Lib.hid ha
  have HB := Lib.hid hb
  have HL := Lib.hid hl
  have HM := Lib.hid hm
  clear ha hb hl hm
  go_enter Tryz.func42, Tryz.ntmps42
  go_wp2
  go_loopw [5, 6] (fun s i wr => ∃ (k : Nat) (S : Bool), k ≤ n ∧ i = .int .i64 k ∧ s = .bool S ∧ Hid (S = decide (l.take k = m.take k)) ∧ ∃ d, wr = W.drewN d) (fun s i _ => (n - (intOf i).toNat) + (if s matches .bool true then 1 else 0))
  case atStart => exact ⟨0, true, Nat.zero_le _, rfl, by simp, Lib.hid (by simp), 0, rfl⟩
  case round =>
    obtain ⟨k, S, hk, rfl, rfl, HS, d, rfl⟩ := hrel
    cases S with
    | false =>
      have HF : Hid (decide (l = m) = false) := Lib.hid (by rw [decide_eq_false_iff_not]; intro e; have := HS.out; rw [e] at this; simp at this)
      go_wp2
      go_ret
      exact ⟨by rw [HF.out]; rfl, _, rfl⟩
    | true =>
      by_cases hlt : k < n
      · obtain ⟨g, off, rfl, hg, hc1, hc2⟩ := HA.out k hlt
        obtain ⟨g', off', rfl, hg', hc3, hc4⟩ := HB.out k hlt
        have hkl : k < l.length := by rw [HL.out]; exact hlt
        have hkm : k < m.length := by rw [HM.out]; exact hlt
        by_cases e1 : (l[k]?.getD (0, 0)).1 = (m[k]?.getD (0, 0)).1
        · by_cases e2 : (l[k]?.getD (0, 0)).2 = (m[k]?.getD (0, 0)).2
          · have HT : Hid (true = decide (l.take (k + 1) = m.take (k + 1))) := Lib.hid (by
              have := HS.out
              simp only [Eq.comm (a := true), decide_eq_true_eq] at this ⊢
              exact (take_succ_eq l m k hkl hkm).mpr ⟨this, Prod.ext e1 e2⟩)
            clear hkl hkm
            go_wp2
            go_quiet (fail)
            go_wp2
            go_round
            case rel => exact ⟨k + 1, true, by omega, by go_num, rfl, HT, _, rfl⟩
            case measure => simp [intOf]; omega
          · have HT : Hid (false = decide (l.take (k + 1) = m.take (k + 1))) := Lib.hid (by
              symm; rw [decide_eq_false_iff_not]; intro e
              exact e2 (congrArg Prod.snd ((take_succ_eq l m k hkl hkm).mp e).2))
            clear hkl hkm
            go_wp2
            go_quiet (fail)
            go_wp2
            go_round
            case rel => exact ⟨k + 1, false, by omega, by go_num, rfl, HT, _, rfl⟩
            case measure => simp [intOf]; omega
        · have HT : Hid (false = decide (l.take (k + 1) = m.take (k + 1))) := Lib.hid (by
            symm; rw [decide_eq_false_iff_not]; intro e
            exact e1 (congrArg Prod.fst ((take_succ_eq l m k hkl hkm).mp e).2))
          clear hkl hkm
          go_wp2
          go_quiet (fail)
          go_wp2
          go_round
          case rel => exact ⟨k + 1, false, by omega, by go_num, rfl, HT, _, rfl⟩
          case measure => simp [intOf]; omega
      · obtain rfl : k = n := by omega
        have HE : Hid (decide (l = m) = true) := Lib.hid (by
          have := HS.out
          rw [List.take_of_length_le (by rw [HL.out]; exact Nat.le_refl _), List.take_of_length_le (by rw [HM.out]; exact Nat.le_refl _)] at this
          exact this.symm)
        go_wp2
        go_ret
        exact ⟨by rw [HE.out]; rfl, _, rfl⟩
end Go.Proofs.YtecclhmjmceheaaGreatDoor
namespace Go.Proofs.YtecclhmjmceheaaGreatDoor
open Go.RowKit
set_option linter.unusedVariables false
set_option maxRecDepth 100000 in
set_option maxHeartbeats 8000000 in
theorem refMake1 (W : World) (va vb : Value) (a b : List (Int × Int)) (ha : RRow W va a) (hb : RRow W vb b) :
    Calls Tryz.prog 143 #[.int .i64 1, va, vb] W (MakePost 1 a b W) := by
  obtain ⟨i0, hi, hz0, hz1, hz2⟩ := info_parts Tryz.infoRange
  have HA := Lib.hid ha
  have HB := Lib.hid hb
  clear ha hb
  go_enter Tryz.func143, Tryz.ntmps143
  go_wp2
  go_loopw [7, 8, 9, 10, 11, 12, 13] (fun V A r1 r2 r3 r4 r5 wr => ∃ (t : Int) (out : List (Int × Int)), 0 ≤ t ∧ t ≤ 1114112 ∧ A = .int .i64 t ∧ (out.length : Int) ≤ t ∧ Hid (Rg.MInv (fun q => Rg.opB 1 (Rg.hasB a q) (Rg.hasB b q)) t out) ∧ RgOwn wr W.heap.size V out ∧ Below W.heap.size W wr) (fun _ A _ _ _ _ _ _ => (1114112 - intOf A).toNat)
  case atStart => exact ⟨0, [], by omega, by omega, rfl, by simp, Lib.hid (Rg.MInv.start _), RgOwn.nil, Below.refl _ _⟩
  case round =>
    obtain ⟨t, out, ht0, ht1, rfl, hlen, HM, hO, hBl⟩ := hrel
    by_cases hlt : t ≤ 1114111
    · have HOwn := Lib.hid hO
      have HAw := Lib.hid (HA.out.below (Nat.le_refl _) hBl)
      have HBw := Lib.hid (HB.out.below (Nat.le_refl _) hBl)
      have hsz := hBl.size
      have he1 := Rg.edgeN_bd a t hlt
      have he2 := Rg.edgeN_bd b t hlt
      have hca := fun q => Rg.has_const a t q ht0
      have hcb := fun q => Rg.has_const b t q ht0
      obtain ⟨E1, hE1⟩ : ∃ E, Rg.edgeN a t = E := ⟨_, rfl⟩
      obtain ⟨E2, hE2⟩ : ∃ E, Rg.edgeN b t = E := ⟨_, rfl⟩
      obtain ⟨X, hX⟩ : ∃ X, Rg.hasB a t = X := ⟨_, rfl⟩
      obtain ⟨Y, hY⟩ : ∃ Y, Rg.hasB b t = Y := ⟨_, rfl⟩
      rw [hE1, hX] at hca
      rw [hE2, hY] at hcb
      rw [hE1] at he1
      rw [hE2] at he2
      have HC : Hid (∀ q, t ≤ q → q < E1 → q < E2 → (fun q => Rg.opB 1 (Rg.hasB a q) (Rg.hasB b q)) q = Rg.opB 1 X Y) := Lib.hid (fun q h1 h2 h3 => by show Rg.opB 1 (Rg.hasB a q) (Rg.hasB b q) = _; rw [hca q h1 h2 (by omega), hcb q h1 h3 (by omega)])
      have HF : Hid ((fun q => Rg.opB 1 (Rg.hasB a q) (Rg.hasB b q)) t = Rg.opB 1 X Y) := Lib.hid (HC.out t (Int.le_refl _) (by omega) (by omega))
      have HE1 := Lib.hid hE1
      have HE2 := Lib.hid hE2
      have HX := Lib.hid hX
      have HY := Lib.hid hY
      have HBl := Lib.hid hBl
      clear hO hca hcb hE1 hE2 hX hY hBl
      obtain ⟨N, hN1, hN2, hN3, hNE⟩ : ∃ N, N ≤ E1 ∧ N ≤ E2 ∧ t < N ∧ ((E2 < E1 ∧ N = E2) ∨ (¬ E2 < E1 ∧ N = E1)) := by
        by_cases h : E2 < E1
        · exact ⟨E2, by omega, by omega, by omega, .inl ⟨h, rfl⟩⟩
        · exact ⟨E1, by omega, by omega, by omega, .inr ⟨h, rfl⟩⟩
      rcases hNE with ⟨hEE, rfl⟩ | ⟨hEE, rfl⟩
      all_goals
        go_wp2_with fail
        refine (refEdge_at HAw.out ht0 hlt HE1.out).mono ?_
        rintro e w' ⟨rfl, rfl⟩
        go_wp2_with fail
        refine (refEdge_at HBw.out ht0 hlt HE2.out).mono ?_
        rintro e w' ⟨rfl, rfl⟩
        go_wp2_with fail
        refine (refHas_at HAw.out HX.out).mono ?_
        rintro e w' ⟨rfl, rfl⟩
        go_wp2_with fail
        refine (refHas_at HBw.out HY.out).mono ?_
        rintro e w' ⟨rfl, rfl⟩
        cases X <;> cases Y
        all_goals
          first
          | (have hf := HF.out.trans (show _ = false by decide)
             have HM' := Lib.hid (HM.out.skip hN3 (fun q h1 h2 => (HC.out q h1 (by omega) (by omega)).trans HF.out.symm) hf)
             clear hf
             go_wp2
             go_roundw
             case rel => exact ⟨_, out, by omega, by omega, rfl, by omega, HM', HOwn.out, HBl.out⟩
             case measure => simp [intOf]; omega)
          | (have hf := HF.out.trans (show _ = true by decide)
             have HK := Lib.hid (fun q (h1 : t ≤ q) (h2 : q < N) => (HC.out q h1 (by omega) (by omega)).trans HF.out.symm)
             have HT := Lib.hid hf
             clear hf
             rcases nil_or_snoc out with rfl | ⟨ini, p, rfl⟩
             · obtain ⟨a', cap', rfl⟩ := HOwn.out.empty
               have HM' := Lib.hid (HM.out.add ht0 hN3 (by omega) HK.out HT.out (fun p hp => by cases hp))
               have hown := HOwn.out
               unfold RgOwn at hown
               go_wp2_with (at_builtin; (refine wpList_append_lies _ (by rfl) _ _ 33 (by rfl) W.heap.size 103 i0 (.agg #[.int .i64 0, .int .i64 0]) 2 16 Tryz.underlying33 hi hz0 hz1 hz2 rfl (by decide) _ 0 [] (by rfl) (hown.alloc _) ⟨wr.heap.size, 0, none⟩ 1 1 [.int .i64 t, .int .i64 (N - 1)] (by rfl) rfl (World.news_of_block (cs := #[.int .i64 t, .int .i64 (N - 1)]) (heap_alloc_new wr _)) (by simp [Value.oneCell']) (by omega) (by unfold maxLen; omega) (by omega) (by simp; omega) (wr.heap.size + 1) (by simp) ?_))
               intro g1 cap1 w1 hown' hgrow _ _
               have hO2 : RgOwn w1 W.heap.size (.slice (some ⟨g1, 0, none⟩) (0 + 1) cap1) ([] ++ [(t, N - 1)]) := by unfold RgOwn; rw [List.length_append, flat2_snoc]; exact hown'
               have hB2 := (HBl.out.alloc hsz _).grown hgrow (by simp; omega) (fun q hq => (hown.lt q hq).1)
               have HO2 := Lib.hid hO2
               clear hO2 hown' hgrow hown
               go_wp2
               go_roundw
               case rel => exact ⟨_, _, by omega, by omega, rfl, by simp; omega, HM', HO2.out, hB2⟩
               case measure => simp [intOf]; omega
             · obtain ⟨g, cap', rfl, hgb, hgs⟩ := HOwn.out.form
               have hnn := Rg.norm_unsnoc ini 0 p HM.out.norm
               obtain ⟨_, _, hp1, hp2, hp3⟩ := hnn
               have hcell := HOwn.out.hi
               obtain ⟨hc1, hc2⟩ := hcell
               obtain ⟨m, hm⟩ : ∃ m, ini.length = m := ⟨_, rfl⟩
               have hlen' : (m : Int) + 1 ≤ t := by rw [List.length_append] at hlen; simp at hlen; omega
               rw [hm] at hc1 hc2
               have HMM := Lib.hid hm
               by_cases hpt : p.2 + 1 = t
               · have HM' := Lib.hid (HM.out.join ht0 hN3 (by omega) HK.out HT.out hpt)
                 have hO2 := HOwn.out.setHi (N - 1)
                 rw [hm] at hO2
                 have HO2 := Lib.hid hO2
                 have hbq : (p.2 + 1 == t) = true := by rw [hpt]; simp
                 have HPT := Lib.hid hpt
                 clear hO2 hpt hlen
                 rw [hm]
                 clear hm
                 go_wp2
                 go_roundw
                 case rel => exact ⟨_, _, by omega, by omega, rfl, by rw [List.length_append, HMM.out]; simp; omega, HM', HO2.out, HBl.out.setCell (p := ⟨g, m * 2 + 1, none⟩) hgb _⟩
                 case measure => simp [intOf]; omega
               · have HM' := Lib.hid (HM.out.add ht0 hN3 (by omega) HK.out HT.out (HM.out.last hpt))
                 have hbq : (p.2 + 1 == t) = false := by rw [beq_eq_false_iff_ne]; exact hpt
                 have hown := HOwn.out
                 unfold RgOwn at hown
                 rw [List.length_append, hm] at hown
                 clear hpt hlen
                 rw [hm]
                 clear hm
                 go_wp2_with (at_builtin; (refine wpList_append_lies _ (by rfl) _ _ 33 (by rfl) W.heap.size 103 i0 (.agg #[.int .i64 0, .int .i64 0]) 2 16 Tryz.underlying33 hi hz0 hz1 hz2 rfl (by decide) _ (m + 1) (flat2 (ini ++ [p])) (by rfl) (hown.alloc _) ⟨wr.heap.size, 0, none⟩ 1 1 [.int .i64 t, .int .i64 (N - 1)] (by rfl) rfl (World.news_of_block (cs := #[.int .i64 t, .int .i64 (N - 1)]) (heap_alloc_new wr _)) (by simp [Value.oneCell']) (by omega) (by unfold maxLen; omega) (by omega) (by simp; omega) (wr.heap.size + 1) (by simp) ?_))
                 intro g1 cap1 w1 hown' hgrow _ _
                 have hO2 : RgOwn w1 W.heap.size (.slice (some ⟨g1, 0, none⟩) (m + 1 + 1) cap1) ((ini ++ [p]) ++ [(t, N - 1)]) := by unfold RgOwn; rw [List.length_append, List.length_append, flat2_snoc, HMM.out]; simpa [flat2] using hown'
                 have hB2 := (HBl.out.alloc hsz _).grown hgrow (by simp; omega) (fun q hq => (hown.lt q hq).1)
                 have HO2 := Lib.hid hO2
                 clear hO2 hown' hgrow hown
                 go_wp2
                 go_roundw
                 case rel => exact ⟨_, _, by omega, by omega, rfl, by rw [List.length_append, List.length_append, HMM.out]; simp; omega, HM', HO2.out, hB2⟩
                 case measure => simp [intOf]; omega)
    · have HMd := Lib.hid (Rg.made_of HM.out (by omega))
      have HOwn := Lib.hid hO
      clear hO
      go_wp2
      go_ret
      exact ⟨_, out, rfl, HMd.out, HOwn.out, hBl⟩
end Go.Proofs.YtecclhmjmceheaaGreatDoor
namespace Go.Proofs.YtecclhmjmceheaaGreatDoor
open Go.RowKit
set_option linter.unusedVariables false
namespace Rg
theorem norm_len : ∀ (l : List R) (lo : Int), NormFrom lo l → lo ≤ 1114113 → (l.length : Int) + lo ≤ 1114113
  | [], lo, _, h => by simpa using h
  | p :: l, lo, ⟨h1, h2, h3, h4⟩, h => by
    have := norm_len l (p.2 + 2) h4 (by omega)
    rw [List.length_cons]; push_cast; omega
theorem norm_take : ∀ (l : List R) (lo : Int) (k : Nat), NormFrom lo l → NormFrom lo (l.take k)
  | _, _, 0, _ => by rw [List.take_zero]; trivial
  | [], _, k + 1, _ => trivial
  | p :: l, lo, k + 1, ⟨h1, h2, h3, h4⟩ => ⟨h1, h2, h3, norm_take l (p.2 + 2) k h4⟩
/-- How many numbers: of a normalized list. -/
def sumL (l : List R) : Int := (l.map fun p => p.2 - p.1 + 1).sum
theorem sumL_le : ∀ (l : List R) (lo : Int), NormFrom lo l → 0 ≤ sumL l ∧ (sumL l + lo ≤ 1114112 ∨ sumL l = 0)
  | [], lo, _ => ⟨Int.le_refl _, .inr rfl⟩
  | p :: l, lo, ⟨h1, h2, h3, h4⟩ => by
    have := sumL_le l (p.2 + 2) h4
    have e : sumL (p :: l) = p.2 - p.1 + 1 + sumL l := rfl
    omega
theorem sumL_take_succ (l : List R) (k : Nat) (hk : k < l.length) : sumL (l.take (k + 1)) = sumL (l.take k) + ((l[k]?.getD (0, 0)).2 - (l[k]?.getD (0, 0)).1 + 1) := by
  unfold sumL
  rw [List.take_succ_eq_append_getElem hk, List.map_append, List.sum_append]
  simp [hk]
theorem norm_get {l : List R} (h : NormL l) (k : Nat) (hk : k < l.length) : 0 ≤ (l[k]?.getD (0, 0)).1 ∧ (l[k]?.getD (0, 0)).1 ≤ (l[k]?.getD (0, 0)).2 ∧ (l[k]?.getD (0, 0)).2 ≤ 1114111 := by
  rw [List.getElem?_eq_getElem hk]
  exact norm_lo l 0 h _ (List.getElem_mem hk)
end Rg
theorem flat2_get : ∀ (l : List (Int × Int)) (j : Nat), j < l.length → (flat2 l)[j * 2]? = some (.int .i64 (l[j]?.getD (0, 0)).1) ∧ (flat2 l)[j * 2 + 1]? = some (.int .i64 (l[j]?.getD (0, 0)).2)
  | p :: l, 0, _ => ⟨rfl, rfl⟩
  | p :: l, j + 1, h => by
    have := flat2_get l j (by simpa using h)
    have e : flat2 (p :: l) = Value.int .i64 p.1 :: Value.int .i64 p.2 :: flat2 l := rfl
    rw [e, show (j + 1) * 2 = j * 2 + 1 + 1 by omega]
    simpa using this
abbrev Wide64 (l : List (Int × Int)) : Prop := ∀ p ∈ l, -9223372036854775808 ≤ p.1 ∧ p.1 ≤ 9223372036854775807 ∧ -9223372036854775808 ≤ p.2 ∧ p.2 ≤ 9223372036854775807
theorem RgOwn.row {W : World} {base : Nat} {v : Value} {l : List (Int × Int)} (h : RgOwn W base v l) (hl : l.length ≤ 8796093022208) (hw : Wide64 l) : RRow W v l := by
  obtain ⟨a, cap, rfl⟩ := h.slice
  refine ⟨a, cap, rfl, hl, hw, fun j hj => ?_⟩
  have hf := flat2_get l j hj
  have hln := flat2_len l
  rcases h.2 with ⟨hv, h0⟩ | ⟨g, cap', cur, hv, hb, hg, _⟩
  · omega
  · injection hv with hv _ _
    subst hv
    refine ⟨g, 0, rfl, (Array.getElem?_eq_some_iff.1 hg).1, ?_, ?_⟩
    · rw [Nat.zero_add, h.cellAt _ (by omega)]; exact hf.1
    · rw [Nat.zero_add, h.cellAt _ (by omega)]; exact hf.2
theorem RgOwn.normRow {W : World} {base : Nat} {v : Value} {l : List (Int × Int)} (h : RgOwn W base v l) (hn : Rg.NormL l) : RRow W v l := by
  refine h.row ?_ ?_
  · have := Rg.norm_len l 0 hn (by omega); omega
  · intro p hp; have := Rg.norm_lo l 0 hn p hp; omega
theorem RRow.nil (W : World) : RRow W (.slice none 0 0) [] := ⟨none, 0, rfl, Nat.zero_le _, (fun p h => by cases h), fun j h => by cases h⟩
theorem RRow.drewN {W : World} {v : Value} {l : List (Int × Int)} (h : RRow W v l) (d : Nat) : RRow (W.drewN d) v l := h
set_option maxRecDepth 100000 in
set_option maxHeartbeats 2000000 in
/-- The lists' lengths differ. -/
theorem same_rg_len (W : World) (a b : Option Addr) (n m p q : Nat) (hn : n ≤ 8796093022208) (hm : m ≤ 8796093022208) (hne : n ≠ m) :
    Calls Tryz.prog 42 #[.slice a n p, .slice b m q] W fun e W' => e = .returned (.bool false) ∧ ∃ d, W' = W.drewN d := by
  have hne' : ¬ (n : Int) = (m : Int) := by omega
  go_enter Tryz.func42, Tryz.ntmps42
  go_wp2
  refine wp_loop_rounds 1 ?_
  rw [rounds_succ]
  go_wp2
  go_ret
  exact ⟨congrArg (fun b => Ending.returned (.bool b)) (beq_eq_false_iff_ne.2 hne'), 0, rfl⟩
theorem same_rg (W : World) (va vb : Value) (l m : List (Int × Int)) (ha : RRow W va l) (hb : RRow W vb m) :
    Calls Tryz.prog 42 #[va, vb] W fun e W' => e = .returned (.bool (decide (l = m))) ∧ ∃ d, W' = W.drewN d := by
  obtain ⟨a, p, rfl, hl, _, hca⟩ := ha
  obtain ⟨b, q, rfl, hm, _, hcb⟩ := hb
  by_cases e : l.length = m.length
  · rw [← e] at hcb ⊢
    exact same_rg_walk W a b _ p q l m hl rfl e.symm hca hcb
  · rw [decide_eq_false (fun h => e (by rw [h]))]
    exact same_rg_len W a b _ _ p q hl hm e
set_option maxRecDepth 100000 in
set_option maxHeartbeats 2000000 in
theorem refNorm (W : World) (va : Value) (a : List (Int × Int)) (ha : RRow W va a) :
    Calls Tryz.prog 106 #[va] W (MakePost 1 a [] W) := by
  have HA := Lib.hid ha
  clear ha
  go_enter Tryz.func106, Tryz.ntmps106
  go_wp2_with fail
  refine (refMake1 _ _ _ a [] HA.out (RRow.nil _)).mono ?_
  rintro e wa ⟨v, out, rfl, hm, ho, hb⟩
  go_wp2
  go_ret
  exact ⟨v, out, rfl, hm, ho, hb⟩
end Go.Proofs.YtecclhmjmceheaaGreatDoor
