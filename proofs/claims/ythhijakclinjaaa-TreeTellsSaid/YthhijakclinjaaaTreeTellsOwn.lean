/- burinbook.LendRanges. · burinbook.KeptRanges and SpoilRanges. · What the laws of ranges use: lent lists as rows, the reference's Check on rows. · burinbook.SpoilRanges: only the list's own block turns. · burinbook.SpoilTexts: only the list's own block turns. · Rows of texts in memory; the names of the properties. · burinbook.SameTexts on lists of texts in memory. · burinlaw06.TreeTells, walked. -/
import Derived.Test.YthhijakclinjaaaGp3
import Derived.Test.YthhijakclinjaaaGp13
import Derived.Test.YthhijakclinjaaaGp29
import Derived.Test.YthhijakclinjaaaGp10
import Derived.Test.YthhijakclinjaaaGp30
import Derived.Deep.RegionHeld3
namespace Go.Proofs.Ythhijakclinjaaa
open Go.RowKit
set_option linter.unusedVariables false











































end Go.Proofs.Ythhijakclinjaaa
namespace Go.Proofs.Ythhijakclinjaaa
open Go.RowKit
set_option linter.unusedVariables false


























theorem cell_in_row {w : World} {g i : Nat} {cs : Array Value} {t : TypeId} (hg : w.heap[g]? = some (.cells cs t (0, 0))) (hi : i < cs.size) : ∃ v, w.cell? ⟨g, i, none⟩ = some v := by
  simp [World.cell?, hg, hi]






























end Go.Proofs.Ythhijakclinjaaa
namespace Go.Proofs.Ythhijakclinjaaa
open Go.RowKit
set_option linter.unusedVariables false
theorem lend_row {W : World} {base g cap : Nat} {l : List (Int × Int)} {p : Int × Int} (h : RgOwn W base (.slice (some ⟨g, 0, none⟩) (l.length + 1) cap) (l ++ [p])) (hl : l.length ≤ 8796093022208) (hw : Wide64 l) :
    RRow W (.slice (some ⟨g, 0, none⟩) l.length cap) l ∧ W.cell? ⟨g, l.length * 2, none⟩ = some (.int .i64 p.1) ∧ W.cell? ⟨g, l.length * 2 + 1, none⟩ = some (.int .i64 p.2) ∧ g < W.heap.size := by
  obtain ⟨g', cap', hv, hb, hg⟩ := RgOwn.form h
  injection hv with hv _ _
  injection hv with hv
  injection hv with hv _ _
  subst hv
  have h' : W.ownsRow base 62 2 (.slice (some ⟨g, 0, none⟩) (l.length + 1) cap) (l.length + 1) (flat2 (l ++ [p])) := by
    have := h; unfold RgOwn at this; rw [List.length_append] at this; exact this
  have get : ∀ j, j < l.length + 1 → W.cell? ⟨g, j * 2, none⟩ = some (.int .i64 ((l ++ [p])[j]?.getD (0, 0)).1) ∧ W.cell? ⟨g, j * 2 + 1, none⟩ = some (.int .i64 ((l ++ [p])[j]?.getD (0, 0)).2) := by
    intro j hj
    have hf := flat2_get (l ++ [p]) j (by simpa using hj)
    exact ⟨(h'.cellAt _ (by omega)).trans hf.1, (h'.cellAt _ (by omega)).trans hf.2⟩
  have last := get l.length (by omega)
  rw [List.getElem?_append_right (Nat.le_refl _), Nat.sub_self] at last
  refine ⟨⟨_, cap, rfl, hl, hw, fun j hj => ⟨g, 0, rfl, hg, ?_, ?_⟩⟩, last.1, last.2, hg⟩
  · have := (get j (by omega)).1
    rw [List.getElem?_append_left hj] at this
    rw [Nat.zero_add]; exact this
  · have := (get j (by omega)).2
    rw [List.getElem?_append_left hj] at this
    rw [Nat.zero_add]; exact this
theorem RRow.wide {W : World} {v : Value} {l : List (Int × Int)} (h : RRow W v l) : l.length ≤ 8796093022208 ∧ Wide64 l := by
  obtain ⟨a, cap, hv, hl, hw, hc⟩ := h
  exact ⟨hl, hw⟩
/-- A lent list: it reads as l, and the mark lies behind it. -/
structure Lent (W : World) (g n cap : Nat) (l : List (Int × Int)) : Prop where
  len : l.length = n
  row : RRow W (.slice (some ⟨g, 0, none⟩) n cap) l
  cap : n + 1 ≤ cap
  lo : W.cell? ⟨g, n * 2, none⟩ = some (.int .i64 7)
  hi : W.cell? ⟨g, n * 2 + 1, none⟩ = some (.int .i64 0)
  lt : g < W.heap.size
theorem Lent.below {W W' : World} {g n cap : Nat} {l : List (Int × Int)} (h : Lent W g n cap l) (hb : Below W.heap.size W W') : Lent W' g n cap l :=
  ⟨h.len, h.row.below (Nat.le_refl _) hb, h.cap, (hb.cell (p := ⟨g, n * 2, none⟩) h.lt).trans h.lo, (hb.cell (p := ⟨g, n * 2 + 1, none⟩) h.lt).trans h.hi, Nat.lt_of_lt_of_le h.lt hb.size⟩










theorem same_refl_row (W : World) (va vb : Value) (l m : List (Int × Int)) (ha : RRow W va l) (hb : RRow W vb m) (e : l = m) :
    Calls Try.prog 41 #[va, vb] W fun e W' => e = .returned (.bool true) ∧ Below W.heap.size W W' := by
  subst e
  refine (same_rg W va vb l l ha hb).mono ?_
  rintro e w' ⟨rfl, d, rfl⟩
  exact ⟨by rw [decide_eq_true rfl], below_drewN (Below.refl _ _) d⟩
end Go.Proofs.Ythhijakclinjaaa
namespace Go.Proofs.Ythhijakclinjaaa
open Go.RowKit
set_option linter.unusedVariables false
theorem grown_set {a w : World} {g : Nat} (h : a.grownBy w (some g)) (i : Nat) (u : Value) : a.grownBy (w.setCell ⟨g, i, none⟩ u) (some g) :=
  ⟨h.os, h.tape, h.output, by simpa [World.setCell] using h.size, fun k hk hne => (Below.heap_setCell w ⟨g, i, none⟩ u k (fun e => hne (by rw [e]))).trans (h.block k hk hne)⟩
theorem grown_refl (w : World) (row : Option Nat) : w.grownBy w row := ⟨rfl, rfl, rfl, Nat.le_refl _, fun _ _ _ => rfl⟩






























theorem own_apart {W W0 W' : World} {base base2 : Nat} {v v2 : Value} {l l2 : List (Int × Int)} (h : RgOwn W0 base v l) (hs : W0.heap.size ≤ base2) (h2 : RgOwn W base2 v2 l2) (hg : W.grownBy W' v.ownBlock) : RgOwn W' base2 v2 l2 := by
  refine h2.kept hg ?_
  cases e : v2.ownBlock with
  | none => exact .inl rfl
  | some g2 =>
    refine .inr (fun e2 => ?_)
    have a1 := (World.ownsRow.lt h2 g2 e).1
    have a2 := (World.ownsRow.lt h g2 e2.symm).2
    omega
end Go.Proofs.Ythhijakclinjaaa
namespace Go.Proofs.Ythhijakclinjaaa
open Go.RowKit
set_option linter.unusedVariables false
set_option maxRecDepth 100000 in
set_option maxHeartbeats 1000000 in
theorem spoilT_nil (W : World) : Calls Try.prog 18 #[.slice none 0 0] W fun e w' => e = .returned (.tuple #[]) ∧ W = w' := by
  go_enter Try.func18, Try.ntmps18
  go_wp2
  refine wp_loop_rounds 1 ?_
  rw [rounds_succ]
  go_wp2
  exact ⟨rfl, .tuple #[], by simp [results, Try.func18, go_sem], And.intro rfl rfl⟩
set_option maxRecDepth 100000 in
set_option maxHeartbeats 1000000 in
theorem spoilT_walk (W : World) (g n cap : Nat) (cs : Array Value) (hg : W.heap[g]? = some (.cells cs 9 (0, 0))) (hcs : cs.size = cap) (hnc : n ≤ cap) (hcap : cap ≤ 9223372036854775807) :
    Calls Try.prog 18 #[.slice (some ⟨g, 0, none⟩) n cap] W fun e w' => e = .returned (.tuple #[]) ∧ W.grownBy w' (some g) := by
  have HG := Lib.hid hg
  have HCS := Lib.hid hcs
  clear hg hcs
  go_enter Try.func18, Try.ntmps18
  go_wp2
  go_loopw [9] (fun R wr => ∃ (k : Nat) (cs' : Array Value), k ≤ cap ∧ R = .int .i64 k ∧ Hid (wr.heap[g]? = some (.cells cs' 9 (0, 0))) ∧ Hid (cs'.size = cap) ∧ Hid (W.grownBy wr (some g))) (fun R _ => cap - (intOf R).toNat)
  case atStart => exact ⟨0, cs, Nat.zero_le _, rfl, HG, HCS, Lib.hid (grown_refl _ _)⟩
  case round =>
    obtain ⟨k, cs', hk, rfl, HG', HCS', HB⟩ := hrel
    clear HG HCS
    by_cases hlt : k < cap
    · obtain ⟨v1, hv1⟩ := cell_in_row (i := k) HG'.out (by rw [HCS'.out]; omega)
      have hf1 := frozen_of_row _ g k _ _ HG'.out
      go_wp2
      refine ⟨⟨k + 1, _, by omega, by go_num, Lib.hid (heap_setCell_same _ g _ _ _ _ HG'.out), Lib.hid (by simp [HCS'.out]), Lib.hid (grown_set HB.out _ _)⟩, by simp [intOf]; omega⟩
    · obtain rfl : k = cap := by omega
      go_wp2
      exact ⟨rfl, .tuple #[], by simp [results, Try.func18, go_sem], And.intro rfl (HB.out)⟩
/-- What a call owns is spoilt. -/
theorem spoilT_only (W : World) (base : Nat) (v : Value) (T : List ByteArray) (h : TxOwn W base v T) (hb : base ≤ W.heap.size) :
    Calls Try.prog 18 #[v] W fun e w' => e = .returned (.tuple #[]) ∧ Below base W w' ∧ W.grownBy w' v.ownBlock := by
  rcases h.2 with ⟨rfl, _⟩ | ⟨g, cap, cur, rfl, hbg, hg, hnc, hcm, hcs, _⟩
  · refine (spoilT_nil W).mono fun e w' h => ⟨h.1, ?_, ?_⟩
    · rw [← h.2]; exact Below.refl _ _
    · rw [← h.2]; exact grown_refl _ _
  · refine (spoilT_walk W g _ cap cur hg (by rw [hcs]; omega) hnc (by simpa [maxLen] using hcm)).mono fun e w' h => ⟨h.1, ⟨h.2.os, h.2.tape, h.2.output, h.2.size, fun k hk => h.2.block k (by omega) (fun e => by injection e with e; omega)⟩, h.2⟩
end Go.Proofs.Ythhijakclinjaaa
namespace Go.Proofs.Ythhijakclinjaaa
open Go.RowKit
set_option linter.unusedVariables false
/-- A value that reads as a list of texts (their bytes). -/
def TRow (W : World) (v : Value) (L : List (List UInt8)) : Prop :=
  ∃ a cap, v = .slice a L.length cap ∧ L.length ≤ cap ∧ cap ≤ 9223372036854775807 ∧ ∀ j, j < L.length → ∃ b s, a = some ⟨b, 0, none⟩ ∧ b < W.heap.size ∧ W.cell? ⟨b, j, none⟩ = some (.string s) ∧ s.toList = L[j]?.getD []
theorem TRow.below {W W' : World} {v : Value} {L : List (List UInt8)} (h : TRow W v L) {B : Nat} (hB : W.heap.size ≤ B) (hb : Below B W W') : TRow W' v L := by
  obtain ⟨a, cap, hv, h1, h2, hc⟩ := h
  refine ⟨a, cap, hv, h1, h2, fun j hj => ?_⟩
  obtain ⟨b, s, ha, hlt, hcell, hs⟩ := hc j hj
  exact ⟨b, s, ha, Nat.lt_of_lt_of_le hlt hb.size, (hb.cell (p := ⟨b, j, none⟩) (by show b < B; omega)).trans hcell, hs⟩
/-- The names of the properties. -/
def namesB : List ByteArray := [⟨#[65, 110, 121]⟩, ⟨#[67, 121, 114, 105, 108, 108, 105, 99]⟩, ⟨#[71, 114, 101, 101, 107]⟩, ⟨#[76]⟩, ⟨#[76, 97, 116, 105, 110]⟩, ⟨#[76, 108]⟩, ⟨#[76, 117]⟩, ⟨#[78, 100]⟩]
def namesL : List (List UInt8) := namesB.map fun s => s.data.toList
end Go.Proofs.Ythhijakclinjaaa
namespace Go.Proofs.Ythhijakclinjaaa
open Go.RowKit
set_option linter.unusedVariables false
theorem take_succ_txt (l m : List (List UInt8)) (k : Nat) (hl : k < l.length) (hm : k < m.length) :
    l.take (k + 1) = m.take (k + 1) ↔ l.take k = m.take k ∧ l[k]?.getD [] = m[k]?.getD [] := by
  rw [List.take_succ_eq_append_getElem hl, List.take_succ_eq_append_getElem hm, List.getElem?_eq_getElem hl, List.getElem?_eq_getElem hm]
  constructor
  · intro h
    have := List.append_inj' h (by simp)
    exact ⟨this.1, by simpa using this.2⟩
  · rintro ⟨h1, h2⟩
    rw [h1]
    have : l[k] = m[k] := by simpa using h2
    rw [this]
set_option maxRecDepth 100000 in
set_option maxHeartbeats 2000000 in
theorem same_txt_walk (W : World) (a b : Option Addr) (n p q : Nat) (l m : List (List UInt8)) (hn : n ≤ 8796093022208) (hl : l.length = n) (hm : m.length = n)
    (ha : ∀ j, j < n → ∃ g s, a = some ⟨g, 0, none⟩ ∧ g < W.heap.size ∧ W.cell? ⟨g, j, none⟩ = some (.string s) ∧ s.toList = l[j]?.getD [])
    (hb : ∀ j, j < n → ∃ g s, b = some ⟨g, 0, none⟩ ∧ g < W.heap.size ∧ W.cell? ⟨g, j, none⟩ = some (.string s) ∧ s.toList = m[j]?.getD []) :
    Calls Try.prog 16 #[.slice a n p, .slice b n q] W fun e W' => e = .returned (.bool (decide (l = m))) ∧ ∃ d, W' = W.drewN d := by
  have HA := Lib.hid ha
  have HB := Lib.hid hb
  have HL := Lib.hid hl
  have HM := Lib.hid hm
  clear ha hb hl hm
  go_enter Try.func16, Try.ntmps16
  go_wp2
  go_loopw [5, 6] (fun s i wr => ∃ (k : Nat) (S : Bool), k ≤ n ∧ i = .int .i64 k ∧ s = .bool S ∧ Hid (S = decide (l.take k = m.take k)) ∧ ∃ d, wr = W.drewN d) (fun s i _ => (n - (intOf i).toNat) + (if s matches .bool true then 1 else 0))
  case atStart => exact ⟨0, true, Nat.zero_le _, rfl, by simp, Lib.hid (by simp), 0, rfl⟩
  case round =>
    obtain ⟨k, S, hk, rfl, rfl, HS, d, rfl⟩ := hrel
    cases S with
    | false =>
      have HF : Hid (decide (l = m) = false) := Lib.hid (by rw [decide_eq_false_iff_not]; intro e; have := HS.out; rw [e] at this; simp at this)
      go_wp2
      go_ret
      exact ⟨by rw [HF.out]; rfl, _, rfl⟩
    | true =>
      by_cases hlt : k < n
      · obtain ⟨g, x, rfl, hg, hc1, hx⟩ := HA.out k hlt
        obtain ⟨g', y, rfl, hg', hc3, hy⟩ := HB.out k hlt
        have hT := take_succ_txt l m k (by rw [HL.out]; exact hlt) (by rw [HM.out]; exact hlt)
        rw [← hx, ← hy] at hT
        have HTT := Lib.hid hT
        have k0 : (0 : Int) ≤ (k : Int) := by omega
        have k1 : (k : Int) < (n : Int) := by omega
        clear hT hx hy
        by_cases e1 : x.toList = y.toList
        · have HT : Hid (true = decide (l.take (k + 1) = m.take (k + 1))) := Lib.hid (by
            have := HS.out
            simp only [Eq.comm (a := true), decide_eq_true_eq] at this ⊢
            exact HTT.out.mpr ⟨this, e1⟩)
          have hq : (x.toList == y.toList) = true := by rw [e1]; simp
          clear e1
          go_wp2
          go_quiet (fail)
          go_wp2
          go_round
          case rel => exact ⟨k + 1, true, by omega, by go_num, rfl, HT, _, rfl⟩
          case measure => simp [intOf]; omega
        · have HT : Hid (false = decide (l.take (k + 1) = m.take (k + 1))) := Lib.hid (by
            symm; rw [decide_eq_false_iff_not]; intro e
            exact e1 (HTT.out.mp e).2)
          have hq : (x.toList == y.toList) = false := beq_eq_false_iff_ne.2 e1
          clear e1
          go_wp2
          go_quiet (fail)
          go_wp2
          go_round
          case rel => exact ⟨k + 1, false, by omega, by go_num, rfl, HT, _, rfl⟩
          case measure => simp [intOf]; omega
      · obtain rfl : k = n := by omega
        have HE : Hid (decide (l = m) = true) := Lib.hid (by
          have := HS.out
          rw [List.take_of_length_le (by rw [HL.out]; exact Nat.le_refl _), List.take_of_length_le (by rw [HM.out]; exact Nat.le_refl _)] at this
          exact this.symm)
        go_wp2
        go_ret
        exact ⟨by rw [HE.out]; rfl, _, rfl⟩
theorem same_txt_eq (W : World) (va vb : Value) (l : List (List UInt8)) (ha : TRow W va l) (hb : TRow W vb l) (hl : l.length ≤ 8796093022208) :
    Calls Try.prog 16 #[va, vb] W fun e W' => e = .returned (.bool true) ∧ Below W.heap.size W W' := by
  obtain ⟨a, p, rfl, _, _, hca⟩ := ha
  obtain ⟨b, q, rfl, _, _, hcb⟩ := hb
  refine (same_txt_walk W a b _ p q l l hl rfl rfl hca hcb).mono ?_
  rintro e w' ⟨rfl, d, rfl⟩
  exact ⟨by rw [decide_eq_true rfl], below_drewN (Below.refl _ _) d⟩
end Go.Proofs.Ythhijakclinjaaa
namespace Go.Proofs.Ythhijakclinjaaa
open Go.RowKit
set_option linter.unusedVariables false
theorem TxOwn.trow {W : World} {base : Nat} {v : Value} {T : List ByteArray} (h : TxOwn W base v T) (hl : T.length ≤ 1000000) : TRow W v (T.map ByteArray.toList) := by
  have hx : ∃ a cap, v = .slice a T.length cap ∧ T.length ≤ cap ∧ cap ≤ 9223372036854775807 := by
    rcases h.2 with ⟨rfl, e⟩ | ⟨g, cap, cur, rfl, hbg, hg, hnc, hcm, hcs, _⟩
    · have e0 : T.length = 0 := by simpa using e
      exact ⟨none, 0, by rw [e0], by omega, by omega⟩
    · exact ⟨_, cap, rfl, hnc, by simpa [maxLen] using hcm⟩
  obtain ⟨a, cap, rfl, h1, h2⟩ := hx
  refine ⟨a, cap, by rw [List.length_map], by rw [List.length_map]; exact h1, h2, fun j hj => ?_⟩
  rw [List.length_map] at hj
  obtain ⟨g, c, e, hg, hc⟩ := h.at j hj
  injection e with e1 e2 e3
  exact ⟨g, T[j], e1, hg, hc, by simp [hj]⟩
set_option maxRecDepth 100000 in
set_option maxHeartbeats 16000000 in
theorem walkTreeTells (W : World) (cs : List Value) (n : Nd) (h : NdIs W n cs) : Calls Try.prog 4 #[.agg cs.toArray] W fun e w' => e = .returned (.bool true) ∧ Below W.heap.size W w' := by
  have mixed : Try.prog.follows .mixedOrders = true := by kernel_rfl
  have hb1 : Below W.heap.size W (W.alloc (.cells cs.toArray 25)) := (Below.refl W.heap.size W).alloc (Nat.le_refl _) _
  have hnw := heap_alloc_new W (.cells cs.toArray 25)
  obtain ⟨W1, hW1⟩ : ∃ W1, W.alloc (.cells cs.toArray 25) = W1 := ⟨_, rfl⟩
  have hsz : W1.heap.size = W.heap.size + 1 := by rw [← hW1]; simp
  rw [hW1] at hb1 hnw
  have HN := Lib.hid (h.kept hb1)
  have HB := Lib.hid hb1
  have HX := Lib.hid hnw
  have HSZ := Lib.hid hsz
  obtain ⟨u0, u1, u2, u3, u4, u5, u6, u7, sa, sc, a, c, hcs, F⟩ := h.form_of
  subst hcs
  obtain ⟨rfl, rfl, rfl, rfl, rfl, rfl, rfl, rfl⟩ := F
  have HW1 := Lib.hid hW1
  clear h hb1 hnw hsz hW1
  go_enter Try.func4, Try.ntmps4
  go_wp2_with fail
  rw [HW1.out]
  refine (refGreat_any W1 n _ 300 (by omega) (by omega) HN.out).mono ?_
  rintro e w2 ⟨b, rfl, hgr, hb2⟩
  have HN2 := Lib.hid (HN.out.kept hb2)
  have HX2 := Lib.hid ((hb2.block _ (Array.getElem?_eq_some_iff.1 HX.out).1).trans HX.out)
  have HB2 := Lib.hid (HB.out.trans (hb2.mono HB.out.size))
  have HGR := Lib.hid hgr
  have HS2 : Hid (W.heap.size < w2.heap.size) := Lib.hid (by have := hb2.size; rw [HSZ.out] at this; omega)
  clear hb2 hgr HN HX HB
  cases b with
  | true =>
    go_wp2_with fail
    refine (works6_any w2).mono ?_
    rintro e w3 ⟨rfl, hb3⟩
    have HB3 := Lib.hid (HB2.out.trans (hb3.mono HB2.out.size))
    clear hb3
    go_wp2
    go_ret
    exact ⟨rfl, HB3.out⟩
  | false =>
    have HSM := Lib.hid (Td.all_small n 300 (by omega) (HGR.out rfl) 1)
    obtain ⟨T, hT⟩ : ∃ T, Td.groups (Td.all 1000 1 n) = T := ⟨_, rfl⟩
    have HTL : Hid (T.length ≤ 1000000) := Lib.hid (by
      rw [← hT]; unfold Td.groups; rw [List.length_map]
      exact Nat.le_trans (List.length_filter_le _ _) HSM.out)
    have HT := Lib.hid hT
    clear hT
    have b0 := blkc HX2.out 0
    have b1 := blkc HX2.out 1
    have b2 := blkc HX2.out 2
    have b3 := blkc HX2.out 3
    have b4 := blkc HX2.out 4
    have b5 := blkc HX2.out 5
    have b6 := blkc HX2.out 6
    have b7 := blkc HX2.out 7
    simp only [List.getElem?_toArray, List.getElem?_cons_zero, List.getElem?_cons_succ] at b0 b1 b2 b3 b4 b5 b6 b7
    have hs2 := HS2.out
    go_wp2_with fail
    refine (trGroups_any w2 n _ HN2.out HSM.out).mono ?_
    rintro e w3 ⟨v1, rfl, ht1, hb3⟩
    rw [HT.out] at ht1
    obtain ⟨a1, p1, rfl⟩ := ht1.slice
    have HT1 := Lib.hid ht1
    have HN3 := Lib.hid (HN2.out.kept hb3)
    have HX3 := Lib.hid ((hb3.block _ (Array.getElem?_eq_some_iff.1 HX2.out).1).trans HX2.out)
    have HB3 := Lib.hid hb3
    clear b0 b1 b2 b3 b4 b5 b6 b7 ht1 hb3 hs2
    have b0 := blkc HX3.out 0
    have b1 := blkc HX3.out 1
    have b2 := blkc HX3.out 2
    have b3 := blkc HX3.out 3
    have b4 := blkc HX3.out 4
    have b5 := blkc HX3.out 5
    have b6 := blkc HX3.out 6
    have b7 := blkc HX3.out 7
    simp only [List.getElem?_toArray, List.getElem?_cons_zero, List.getElem?_cons_succ] at b0 b1 b2 b3 b4 b5 b6 b7
    go_wp2_with fail
    refine (refGroups_any w3 n _ HN3.out HSM.out).mono ?_
    rintro e w4 ⟨v2, rfl, ht2, hb4⟩
    rw [HT.out] at ht2
    have HT2 := Lib.hid ht2
    have HT14 := Lib.hid (HT1.out.below hb4)
    have HN4 := Lib.hid (HN3.out.kept hb4)
    have HX4 := Lib.hid ((hb4.block _ (Array.getElem?_eq_some_iff.1 HX3.out).1).trans HX3.out)
    have HB4 := Lib.hid (HB3.out.trans (hb4.mono HB3.out.size))
    clear b0 b1 b2 b3 b4 b5 b6 b7 ht2 hb4
    go_wp2_with fail
    refine (same_txt_eq w4 _ v2 _ (HT14.out.trow HTL.out) (HT2.out.trow HTL.out) (by rw [List.length_map]; have := HTL.out; omega)).mono ?_
    rintro e w5 ⟨rfl, hb5⟩
    have HT15 := Lib.hid (HT14.out.below hb5)
    have HN5 := Lib.hid (HN4.out.kept hb5)
    have HX5 := Lib.hid ((hb5.block _ (Array.getElem?_eq_some_iff.1 HX4.out).1).trans HX4.out)
    have HB5 := Lib.hid (HB4.out.trans (hb5.mono HB4.out.size))
    clear hb5
    go_wp2_with fail
    refine (spoilT_only w5 w2.heap.size _ T HT15.out HB5.out.size).mono ?_
    rintro e w6 ⟨rfl, hb6, _⟩
    have HB6 := Lib.hid (HB5.out.trans hb6)
    have HB60 := Lib.hid (HB2.out.trans (HB6.out.mono HB2.out.size))
    have HN6 := Lib.hid (HN2.out.kept HB6.out)
    have hx6 := (HB6.out.block _ (Array.getElem?_eq_some_iff.1 HX2.out).1).trans HX2.out
    have hs6 : W.heap.size < w6.heap.size := Nat.lt_of_lt_of_le HS2.out HB6.out.size
    have HC8 : Hid (∀ w', Below w6.heap.size w6 w' → w'.cell? ⟨W.heap.size, 0, none⟩ = some (.int .i64 (Td.kind n)) ∧ w'.cell? ⟨W.heap.size, 1, none⟩ = some (.slice sa (Td.set n).length sc) ∧ w'.cell? ⟨W.heap.size, 2, none⟩ = some (.int .i64 (Td.num n)) ∧ w'.cell? ⟨W.heap.size, 3, none⟩ = some (.string (Td.name n)) ∧ w'.cell? ⟨W.heap.size, 4, none⟩ = some (.int .i64 (Td.mn n)) ∧ w'.cell? ⟨W.heap.size, 5, none⟩ = some (.int .i64 (Td.mx n)) ∧ w'.cell? ⟨W.heap.size, 6, none⟩ = some (.bool (Td.lazy n)) ∧ w'.cell? ⟨W.heap.size, 7, none⟩ = some (.slice a (Td.subs n).length c)) := Lib.hid (fun w' hb => by
      have hx := (hb.block _ hs6).trans hx6
      refine ⟨?_, ?_, ?_, ?_, ?_, ?_, ?_, ?_⟩ <;> simp [World.cell?, hx])
    obtain ⟨N, hN⟩ : ∃ N, (Td.all 1000 1 n).length = N := ⟨_, rfl⟩
    have hNl := HSM.out
    rw [hN] at hNl
    obtain ⟨D, hD⟩ : ∃ D, Td.dep 1001 n = D := ⟨_, rfl⟩
    obtain ⟨U, hU⟩ : ∃ U, Td.nul 1000 n = U := ⟨_, rfl⟩
    have H1 := Lib.hid (fun w' (hs : Below w6.heap.size w6 w') => trSize_any w' n _ (HN6.out.kept hs) HSM.out)
    have H2 : Hid (∀ w', Below w6.heap.size w6 w' → Calls Try.prog 20 #[.slice none 0 0, .agg #[.int .i64 (Td.kind n), .slice sa (Td.set n).length sc, .int .i64 (Td.num n), .string (Td.name n), .int .i64 (Td.mn n), .int .i64 (Td.mx n), .bool (Td.lazy n), .slice a (Td.subs n).length c], .int .i64 1] w' fun e w8 => ∃ a9 c9, e = .returned (.slice a9 N c9) ∧ Below w'.heap.size w' w8) := Lib.hid (fun w' hs => (refAll_any 1000 1 w' w' (.slice none 0 0) [] n _ rfl (Below.refl _ _) (StOwn.nil _) (HN6.out.kept hs) (by simpa using HSM.out)).mono fun e w8 ⟨v', he, hso, hg, _⟩ => by
      obtain ⟨a9, c9, hv⟩ := hso.slice
      rw [List.nil_append, hN] at hv
      exact ⟨a9, c9, by rw [he, hv], hg.os, hg.tape, hg.output, hg.size, fun k hk => hg.block k hk (by simp [Value.ownBlock])⟩)
    have H3 := Lib.hid (fun w' (hs : Below w6.heap.size w6 w') => trDepth_any w' n _ (HN6.out.kept hs))
    have H4 : Hid (∀ w', Below w6.heap.size w6 w' → Calls Try.prog 22 #[.agg #[.int .i64 (Td.kind n), .slice sa (Td.set n).length sc, .int .i64 (Td.num n), .string (Td.name n), .int .i64 (Td.mn n), .int .i64 (Td.mx n), .bool (Td.lazy n), .slice a (Td.subs n).length c], .int .i64 1001] w' fun e w8 => e = .returned (.int .i64 (Td.dep 1001 n : Nat)) ∧ Below w'.heap.size w' w8) := Lib.hid (fun w' hs => refDepth_any 1001 (by omega) w' n _ (HN6.out.kept hs))
    have H5 := Lib.hid (fun w' (hs : Below w6.heap.size w6 w') => trNullable_any w' n _ (HN6.out.kept hs))
    have H6 : Hid (∀ w', Below w6.heap.size w6 w' → Calls Try.prog 24 #[.agg #[.int .i64 (Td.kind n), .slice sa (Td.set n).length sc, .int .i64 (Td.num n), .string (Td.name n), .int .i64 (Td.mn n), .int .i64 (Td.mx n), .bool (Td.lazy n), .slice a (Td.subs n).length c], .int .i64 1000] w' fun e w8 => e = .returned (.bool (Td.nul 1000 n)) ∧ Below w'.heap.size w' w8) := Lib.hid (fun w' hs => refNullable_any 1000 (by omega) w' n _ (HN6.out.kept hs))
    have H7 := Lib.hid (fun w' (hs : Below w6.heap.size w6 w') => works6_any w')
    rw [hN] at H1
    rw [hD] at H3 H4
    rw [hU] at H5 H6
    have hs0 : Below w6.heap.size w6 w6.drew := below_drewN (Below.refl _ _) 1
    clear hb6 hx6 hs6 hN hD hU
    go_wp2
    obtain ⟨A, hA⟩ : ∃ A, Value.agg #[.int .i64 (Td.kind n), .slice sa (Td.set n).length sc, .int .i64 (Td.num n), .string (Td.name n), .int .i64 (Td.mn n), .int .i64 (Td.mx n), .bool (Td.lazy n), .slice a (Td.subs n).length c] = A := ⟨_, rfl⟩
    have HA := Lib.hid hA
    simp only [List.toList_toArray, hA] at H1 H2 H3 H4 H5 H6 ⊢
    clear hA
    refine wp_region_held_drew (S := (fun w' => Below w6.heap.size w6 w')) (by kernel_rfl) hs0 (fun hHeld => ?_)
    refine wpAnyH_take (i := 0) (v := .bool true) rfl (by kernel_rfl) (by kernel_rfl) (by kernel_rfl) (fun _ _ _ h => h) (Or.inl ⟨by rfl, ?_⟩) (by assumption) ?_
    · intro w hSw
      try dsimp only at hSw
      go_simp
    try simp only [List.getElem_toArray, List.getElem_cons_succ, List.getElem_cons_zero, Act.put, List.setIfInBounds_toArray, List.set_cons_zero, List.set_cons_succ]
    refine wpAnyH_take (i := 1) (v := .bool true) rfl (by kernel_rfl) (by kernel_rfl) (by kernel_rfl) (fun _ _ _ h => h) (Or.inl ⟨by rfl, ?_⟩) (by assumption) ?_
    · intro w hSw
      try dsimp only at hSw
      go_simp
    try simp only [List.getElem_toArray, List.getElem_cons_succ, List.getElem_cons_zero, Act.put, List.setIfInBounds_toArray, List.set_cons_zero, List.set_cons_succ]
    refine wpAnyH_take (i := 2) (v := A) rfl (by kernel_rfl) (by kernel_rfl) (by kernel_rfl) (fun _ _ _ h => h) (Or.inl ⟨by rfl, ?_⟩) (by assumption) ?_
    · intro w hSw
      try dsimp only at hSw
      obtain ⟨q0, q1, q2, q3, q4, q5, q6, q7⟩ := HC8.out w hSw
      rw [← HA.out]
      go_simp
    try simp only [List.getElem_toArray, List.getElem_cons_succ, List.getElem_cons_zero, Act.put, List.setIfInBounds_toArray, List.set_cons_zero, List.set_cons_succ]
    refine wpAnyH_take (i := 4) (v := A) rfl (by kernel_rfl) (by kernel_rfl) (by kernel_rfl) (fun _ _ _ h => h) (Or.inl ⟨by rfl, ?_⟩) (by assumption) ?_
    · intro w hSw
      try dsimp only at hSw
      obtain ⟨q0, q1, q2, q3, q4, q5, q6, q7⟩ := HC8.out w hSw
      rw [← HA.out]
      go_simp
    try simp only [List.getElem_toArray, List.getElem_cons_succ, List.getElem_cons_zero, Act.put, List.setIfInBounds_toArray, List.set_cons_zero, List.set_cons_succ]
    refine wpAnyH_ready (rs := [3]) (by kernel_rfl) (by simp) ?_
    refine AllReadyH.cons rfl (fun K hK => ?_) AllReadyH.nil
    go_simp
    refine (H1.out _ hHeld).mono ?_
    rintro e w8 ⟨rfl, hb8⟩
    have hs11 := Below.trans hHeld (hb8.mono (Below.size hHeld))
    clear hb8
    refine hK.out _ _ hs11 (fun _ => ?_)
    clear hK K
    try simp only [List.getElem_toArray, List.getElem_cons_succ, List.getElem_cons_zero, Act.put, List.setIfInBounds_toArray, List.set_cons_zero, List.set_cons_succ]
    refine wpAnyH_ready (rs := [5]) (by kernel_rfl) (by simp) ?_
    refine AllReadyH.cons rfl (fun K hK => ?_) AllReadyH.nil
    go_simp
    refine (H2.out _ hs11).mono ?_
    rintro e w8 ⟨a9, c9, rfl, hb8⟩
    have hs12 := Below.trans hs11 (hb8.mono (Below.size hs11))
    clear hb8
    refine hK.out _ _ hs12 (fun _ => ?_)
    clear hK K
    try simp only [List.getElem_toArray, List.getElem_cons_succ, List.getElem_cons_zero, Act.put, List.setIfInBounds_toArray, List.set_cons_zero, List.set_cons_succ]
    refine wpAnyH_take (i := 6) (v := .int .i64 (N : Int)) rfl (by kernel_rfl) (by kernel_rfl) (by kernel_rfl) (fun _ _ _ h => h) (Or.inl ⟨by rfl, ?_⟩) (by assumption) ?_
    · intro w hSw
      try dsimp only at hSw
      go_simp
    try simp only [List.getElem_toArray, List.getElem_cons_succ, List.getElem_cons_zero, Act.put, List.setIfInBounds_toArray, List.set_cons_zero, List.set_cons_succ]
    refine wpAnyH_take (i := 7) (v := .bool true) rfl (by kernel_rfl) (by kernel_rfl) (by kernel_rfl) (fun _ _ _ h => h) (Or.inl ⟨by rfl, ?_⟩) (by assumption) ?_
    · intro w hSw
      try dsimp only at hSw
      go_simp
    try simp only [List.getElem_toArray, List.getElem_cons_succ, List.getElem_cons_zero, Act.put, List.setIfInBounds_toArray, List.set_cons_zero, List.set_cons_succ]
    refine wpAnyH_take (i := 8) (v := .bool true) rfl (by kernel_rfl) (by kernel_rfl) (by kernel_rfl) (fun _ _ _ h => h) (Or.inl ⟨by rfl, ?_⟩) (by assumption) ?_
    · intro w hSw
      try dsimp only at hSw
      go_simp
    try simp only [List.getElem_toArray, List.getElem_cons_succ, List.getElem_cons_zero, Act.put, List.setIfInBounds_toArray, List.set_cons_zero, List.set_cons_succ]
    refine wpAnyH_take (i := 9) (v := .bool true) rfl (by kernel_rfl) (by kernel_rfl) (by kernel_rfl) (fun _ _ _ h => h) (Or.inl ⟨by rfl, ?_⟩) (by assumption) ?_
    · intro w hSw
      try dsimp only at hSw
      go_simp
    try simp only [List.getElem_toArray, List.getElem_cons_succ, List.getElem_cons_zero, Act.put, List.setIfInBounds_toArray, List.set_cons_zero, List.set_cons_succ]
    refine wpAnyH_take (i := 10) (v := A) rfl (by kernel_rfl) (by kernel_rfl) (by kernel_rfl) (fun _ _ _ h => h) (Or.inl ⟨by rfl, ?_⟩) (by assumption) ?_
    · intro w hSw
      try dsimp only at hSw
      obtain ⟨q0, q1, q2, q3, q4, q5, q6, q7⟩ := HC8.out w hSw
      rw [← HA.out]
      go_simp
    try simp only [List.getElem_toArray, List.getElem_cons_succ, List.getElem_cons_zero, Act.put, List.setIfInBounds_toArray, List.set_cons_zero, List.set_cons_succ]
    refine wpAnyH_take (i := 12) (v := A) rfl (by kernel_rfl) (by kernel_rfl) (by kernel_rfl) (fun _ _ _ h => h) (Or.inl ⟨by rfl, ?_⟩) (by assumption) ?_
    · intro w hSw
      try dsimp only at hSw
      obtain ⟨q0, q1, q2, q3, q4, q5, q6, q7⟩ := HC8.out w hSw
      rw [← HA.out]
      go_simp
    try simp only [List.getElem_toArray, List.getElem_cons_succ, List.getElem_cons_zero, Act.put, List.setIfInBounds_toArray, List.set_cons_zero, List.set_cons_succ]
    refine wpAnyH_ready (rs := [11]) (by kernel_rfl) (by simp) ?_
    refine AllReadyH.cons rfl (fun K hK => ?_) AllReadyH.nil
    go_simp
    refine (H3.out _ hs12).mono ?_
    rintro e w8 ⟨rfl, hb8⟩
    have hs13 := Below.trans hs12 (hb8.mono (Below.size hs12))
    clear hb8
    refine hK.out _ _ hs13 (fun _ => ?_)
    clear hK K
    try simp only [List.getElem_toArray, List.getElem_cons_succ, List.getElem_cons_zero, Act.put, List.setIfInBounds_toArray, List.set_cons_zero, List.set_cons_succ]
    refine wpAnyH_ready (rs := [13]) (by kernel_rfl) (by simp) ?_
    refine AllReadyH.cons rfl (fun K hK => ?_) AllReadyH.nil
    go_simp
    refine (H4.out _ hs13).mono ?_
    rintro e w8 ⟨rfl, hb8⟩
    have hs14 := Below.trans hs13 (hb8.mono (Below.size hs13))
    clear hb8
    refine hK.out _ _ hs14 (fun _ => ?_)
    clear hK K
    try simp only [List.getElem_toArray, List.getElem_cons_succ, List.getElem_cons_zero, Act.put, List.setIfInBounds_toArray, List.set_cons_zero, List.set_cons_succ]
    refine wpAnyH_take (i := 14) (v := .bool true) rfl (by kernel_rfl) (by kernel_rfl) (by kernel_rfl) (fun _ _ _ h => h) (Or.inl ⟨by rfl, ?_⟩) (by assumption) ?_
    · intro w hSw
      try dsimp only at hSw
      go_simp
    try simp only [List.getElem_toArray, List.getElem_cons_succ, List.getElem_cons_zero, Act.put, List.setIfInBounds_toArray, List.set_cons_zero, List.set_cons_succ]
    refine wpAnyH_take (i := 15) (v := .bool true) rfl (by kernel_rfl) (by kernel_rfl) (by kernel_rfl) (fun _ _ _ h => h) (Or.inl ⟨by rfl, ?_⟩) (by assumption) ?_
    · intro w hSw
      try dsimp only at hSw
      go_simp
    try simp only [List.getElem_toArray, List.getElem_cons_succ, List.getElem_cons_zero, Act.put, List.setIfInBounds_toArray, List.set_cons_zero, List.set_cons_succ]
    refine wpAnyH_take (i := 16) (v := .bool true) rfl (by kernel_rfl) (by kernel_rfl) (by kernel_rfl) (fun _ _ _ h => h) (Or.inl ⟨by rfl, ?_⟩) (by assumption) ?_
    · intro w hSw
      try dsimp only at hSw
      go_simp
    try simp only [List.getElem_toArray, List.getElem_cons_succ, List.getElem_cons_zero, Act.put, List.setIfInBounds_toArray, List.set_cons_zero, List.set_cons_succ]
    refine wpAnyH_take (i := 17) (v := A) rfl (by kernel_rfl) (by kernel_rfl) (by kernel_rfl) (fun _ _ _ h => h) (Or.inl ⟨by rfl, ?_⟩) (by assumption) ?_
    · intro w hSw
      try dsimp only at hSw
      obtain ⟨q0, q1, q2, q3, q4, q5, q6, q7⟩ := HC8.out w hSw
      rw [← HA.out]
      go_simp
    try simp only [List.getElem_toArray, List.getElem_cons_succ, List.getElem_cons_zero, Act.put, List.setIfInBounds_toArray, List.set_cons_zero, List.set_cons_succ]
    refine wpAnyH_take (i := 19) (v := A) rfl (by kernel_rfl) (by kernel_rfl) (by kernel_rfl) (fun _ _ _ h => h) (Or.inl ⟨by rfl, ?_⟩) (by assumption) ?_
    · intro w hSw
      try dsimp only at hSw
      obtain ⟨q0, q1, q2, q3, q4, q5, q6, q7⟩ := HC8.out w hSw
      rw [← HA.out]
      go_simp
    try simp only [List.getElem_toArray, List.getElem_cons_succ, List.getElem_cons_zero, Act.put, List.setIfInBounds_toArray, List.set_cons_zero, List.set_cons_succ]
    refine wpAnyH_ready (rs := [18]) (by kernel_rfl) (by simp) ?_
    refine AllReadyH.cons rfl (fun K hK => ?_) AllReadyH.nil
    go_simp
    refine (H5.out _ hs14).mono ?_
    rintro e w8 ⟨rfl, hb8⟩
    have hs15 := Below.trans hs14 (hb8.mono (Below.size hs14))
    clear hb8
    refine hK.out _ _ hs15 (fun _ => ?_)
    clear hK K
    try simp only [List.getElem_toArray, List.getElem_cons_succ, List.getElem_cons_zero, Act.put, List.setIfInBounds_toArray, List.set_cons_zero, List.set_cons_succ]
    refine wpAnyH_ready (rs := [20]) (by kernel_rfl) (by simp) ?_
    refine AllReadyH.cons rfl (fun K hK => ?_) AllReadyH.nil
    go_simp
    refine (H6.out _ hs15).mono ?_
    rintro e w8 ⟨rfl, hb8⟩
    have hs16 := Below.trans hs15 (hb8.mono (Below.size hs15))
    clear hb8
    refine hK.out _ _ hs16 (fun _ => ?_)
    clear hK K
    try simp only [List.getElem_toArray, List.getElem_cons_succ, List.getElem_cons_zero, Act.put, List.setIfInBounds_toArray, List.set_cons_zero, List.set_cons_succ]
    refine wpAnyH_take (i := 21) (v := .bool true) rfl (by kernel_rfl) (by kernel_rfl) (by kernel_rfl) (fun _ _ _ h => h) (Or.inl ⟨by rfl, ?_⟩) (by assumption) ?_
    · intro w hSw
      try dsimp only at hSw
      go_simp
    try simp only [List.getElem_toArray, List.getElem_cons_succ, List.getElem_cons_zero, Act.put, List.setIfInBounds_toArray, List.set_cons_zero, List.set_cons_succ]
    refine wpAnyH_take (i := 22) (v := .bool true) rfl (by kernel_rfl) (by kernel_rfl) (by kernel_rfl) (fun _ _ _ h => h) (Or.inl ⟨by rfl, ?_⟩) (by assumption) ?_
    · intro w hSw
      try dsimp only at hSw
      go_simp
    try simp only [List.getElem_toArray, List.getElem_cons_succ, List.getElem_cons_zero, Act.put, List.setIfInBounds_toArray, List.set_cons_zero, List.set_cons_succ]
    refine wpAnyH_take (i := 23) (v := .bool true) rfl (by kernel_rfl) (by kernel_rfl) (by kernel_rfl) (fun _ _ _ h => h) (Or.inl ⟨by rfl, ?_⟩) (by assumption) ?_
    · intro w hSw
      try dsimp only at hSw
      go_simp
    try simp only [List.getElem_toArray, List.getElem_cons_succ, List.getElem_cons_zero, Act.put, List.setIfInBounds_toArray, List.set_cons_zero, List.set_cons_succ]
    refine wpAnyH_ready (rs := [24]) (by kernel_rfl) (by simp) ?_
    refine AllReadyH.cons rfl (fun K hK => ?_) AllReadyH.nil
    go_simp
    refine (H7.out _ hs16).mono ?_
    rintro e w8 ⟨rfl, hb8⟩
    have hs17 := Below.trans hs16 (hb8.mono (Below.size hs16))
    clear hb8
    refine hK.out _ _ hs17 (fun _ => ?_)
    clear hK K
    try simp only [List.getElem_toArray, List.getElem_cons_succ, List.getElem_cons_zero, Act.put, List.setIfInBounds_toArray, List.set_cons_zero, List.set_cons_succ]
    refine wpAnyH_take (i := 25) (v := .bool true) rfl (by kernel_rfl) (by kernel_rfl) (by kernel_rfl) (fun _ _ _ h => h) (Or.inl ⟨by rfl, ?_⟩) (by assumption) ?_
    · intro w hSw
      try dsimp only at hSw
      go_simp
    try simp only [List.getElem_toArray, List.getElem_cons_succ, List.getElem_cons_zero, Act.put, List.setIfInBounds_toArray, List.set_cons_zero, List.set_cons_succ]
    refine wpAnyH_take (i := 26) (v := .bool true) rfl (by kernel_rfl) (by kernel_rfl) (by kernel_rfl) (fun _ _ _ h => h) (Or.inl ⟨by rfl, ?_⟩) (by assumption) ?_
    · intro w hSw
      try dsimp only at hSw
      go_simp
    try simp only [List.getElem_toArray, List.getElem_cons_succ, List.getElem_cons_zero, Act.put, List.setIfInBounds_toArray, List.set_cons_zero, List.set_cons_succ]
    refine wpAnyH_done (by kernel_rfl) ?_ _
    have HBZ := Lib.hid (HB60.out.trans (Below.mono hs17 HB60.out.size))
    clear hs17
    go_wp2
    go_ret
    exact ⟨rfl, HBZ.out⟩
end Go.Proofs.Ythhijakclinjaaa
