/- burinbook.LendRanges. · burinbook.KeptRanges and SpoilRanges. · What the laws of ranges use: lent lists as rows, the reference's Check on rows. · burinlaw08: two tokens that are the same; two rows of tokens that are alike. · Mathematics of lex: the places of tokens rise. -/
import Derived.Test.YtecclhmjmceheaaGreatDoorGp9
import Derived.Test.YtecclhmjmceheaaGreatDoorGp10
import Derived.Test.YtecclhmjmceheaaGreatDoorGp39
import Derived.Test.YtecclhmjmceheaaGreatDoorGp38
namespace Go.Proofs.YtecclhmjmceheaaGreatDoor
open Go.RowKit
set_option linter.unusedVariables false











































end Go.Proofs.YtecclhmjmceheaaGreatDoor
namespace Go.Proofs.YtecclhmjmceheaaGreatDoor
open Go.RowKit
set_option linter.unusedVariables false


























theorem cell_in_row {w : World} {g i : Nat} {cs : Array Value} {t : TypeId} (hg : w.heap[g]? = some (.cells cs t (0, 0))) (hi : i < cs.size) : ∃ v, w.cell? ⟨g, i, none⟩ = some v := by
  simp [World.cell?, hg, hi]






























end Go.Proofs.YtecclhmjmceheaaGreatDoor
namespace Go.Proofs.YtecclhmjmceheaaGreatDoor
open Go.RowKit
set_option linter.unusedVariables false
theorem lend_row {W : World} {base g cap : Nat} {l : List (Int × Int)} {p : Int × Int} (h : RgOwn W base (.slice (some ⟨g, 0, none⟩) (l.length + 1) cap) (l ++ [p])) (hl : l.length ≤ 8796093022208) (hw : Wide64 l) :
    RRow W (.slice (some ⟨g, 0, none⟩) l.length cap) l ∧ W.cell? ⟨g, l.length * 2, none⟩ = some (.int .i64 p.1) ∧ W.cell? ⟨g, l.length * 2 + 1, none⟩ = some (.int .i64 p.2) ∧ g < W.heap.size := by
  obtain ⟨g', cap', hv, hb, hg⟩ := RgOwn.form h
  injection hv with hv _ _
  injection hv with hv
  injection hv with hv _ _
  subst hv
  have h' : W.ownsRow base 103 2 (.slice (some ⟨g, 0, none⟩) (l.length + 1) cap) (l.length + 1) (flat2 (l ++ [p])) := by
    have := h; unfold RgOwn at this; rw [List.length_append] at this; exact this
  have get : ∀ j, j < l.length + 1 → W.cell? ⟨g, j * 2, none⟩ = some (.int .i64 ((l ++ [p])[j]?.getD (0, 0)).1) ∧ W.cell? ⟨g, j * 2 + 1, none⟩ = some (.int .i64 ((l ++ [p])[j]?.getD (0, 0)).2) := by
    intro j hj
    have hf := flat2_get (l ++ [p]) j (by simpa using hj)
    exact ⟨(h'.cellAt _ (by omega)).trans hf.1, (h'.cellAt _ (by omega)).trans hf.2⟩
  have last := get l.length (by omega)
  rw [List.getElem?_append_right (Nat.le_refl _), Nat.sub_self] at last
  refine ⟨⟨_, cap, rfl, hl, hw, fun j hj => ⟨g, 0, rfl, hg, ?_, ?_⟩⟩, last.1, last.2, hg⟩
  · have := (get j (by omega)).1
    rw [List.getElem?_append_left hj] at this
    rw [Nat.zero_add]; exact this
  · have := (get j (by omega)).2
    rw [List.getElem?_append_left hj] at this
    rw [Nat.zero_add]; exact this
theorem RRow.wide {W : World} {v : Value} {l : List (Int × Int)} (h : RRow W v l) : l.length ≤ 8796093022208 ∧ Wide64 l := by
  obtain ⟨a, cap, hv, hl, hw, hc⟩ := h
  exact ⟨hl, hw⟩
/-- A lent list: it reads as l, and the mark lies behind it. -/
structure Lent (W : World) (g n cap : Nat) (l : List (Int × Int)) : Prop where
  len : l.length = n
  row : RRow W (.slice (some ⟨g, 0, none⟩) n cap) l
  cap : n + 1 ≤ cap
  lo : W.cell? ⟨g, n * 2, none⟩ = some (.int .i64 7)
  hi : W.cell? ⟨g, n * 2 + 1, none⟩ = some (.int .i64 0)
  lt : g < W.heap.size
theorem Lent.below {W W' : World} {g n cap : Nat} {l : List (Int × Int)} (h : Lent W g n cap l) (hb : Below W.heap.size W W') : Lent W' g n cap l :=
  ⟨h.len, h.row.below (Nat.le_refl _) hb, h.cap, (hb.cell (p := ⟨g, n * 2, none⟩) h.lt).trans h.lo, (hb.cell (p := ⟨g, n * 2 + 1, none⟩) h.lt).trans h.hi, Nat.lt_of_lt_of_le h.lt hb.size⟩










theorem same_refl_row (W : World) (va vb : Value) (l m : List (Int × Int)) (ha : RRow W va l) (hb : RRow W vb m) (e : l = m) :
    Calls Tryz.prog 42 #[va, vb] W fun e W' => e = .returned (.bool true) ∧ Below W.heap.size W W' := by
  subst e
  refine (same_rg W va vb l l ha hb).mono ?_
  rintro e w' ⟨rfl, d, rfl⟩
  exact ⟨by rw [decide_eq_true rfl], below_drewN (Below.refl _ _) d⟩
end Go.Proofs.YtecclhmjmceheaaGreatDoor
namespace Go.Proofs.YtecclhmjmceheaaGreatDoor
open Go.RowKit
open Lx (Tk TR LR)
set_option linter.unusedVariables false
/-- A token's set, read. -/
def SetRd (W : World) (vs : Value) (c : Br.Cls) : Prop := ∃ out, Br.SetIs c out ∧ RRow W vs out
theorem SetRd.kept {W W' : World} {vs : Value} {c : Br.Cls} (h : SetRd W vs c) (hb : Below W.heap.size W W') : SetRd W' vs c := by
  obtain ⟨out, h1, h2⟩ := h
  exact ⟨out, h1, h2.below (Nat.le_refl _) hb⟩
/-- A value that reads as a list of tokens. -/
def TkRow (W : World) (v : Value) (T : List (Int × Tk)) : Prop :=
  ∃ a cap, v = .slice a T.length cap ∧ ∀ j (hj : j < T.length), ∃ b o0 vs, a = some ⟨b, o0, none⟩ ∧ b < W.heap.size ∧ SetRd W vs T[j].2.cls ∧ ∀ q, q < 8 → W.cell? ⟨b, o0 + j * 8 + q, none⟩ = (TkCells T[j].1 T[j].2 vs)[q]?
theorem TkRow.kept {W W' : World} {v : Value} {T : List (Int × Tk)} (h : TkRow W v T) (hb : Below W.heap.size W W') : TkRow W' v T := by
  obtain ⟨a, cap, e, h⟩ := h
  refine ⟨a, cap, e, fun j hj => ?_⟩
  obtain ⟨b, o0, vs, e1, h1, h2, h3⟩ := h j hj
  exact ⟨b, o0, vs, e1, Nat.lt_of_lt_of_le h1 hb.size, h2.kept hb, fun q hq => (hb.cell (p := ⟨b, o0 + j * 8 + q, none⟩) h1).trans (h3 q hq)⟩
theorem TkOwn.row {W : World} {base : Nat} {v : Value} {T : List (Int × Tk)} (h : TkOwn W base v T) : TkRow W v T := by
  by_cases h0 : 0 < T.length
  · obtain ⟨g, cap, e, _, hg1, hat⟩ := h.at h0
    refine ⟨some ⟨g, 0, none⟩, cap, e, fun j hj => ?_⟩
    obtain ⟨vs, ⟨out, s1, s2, _⟩, h9⟩ := hat j hj
    exact ⟨g, 0, vs, rfl, hg1, ⟨out, s1, s2⟩, fun q hq => by rw [Nat.zero_add]; exact h9 q hq⟩
  · obtain ⟨a, cap, e⟩ := h.slice
    exact ⟨a, cap, e, fun j hj => absurd hj (by omega)⟩
set_option maxRecDepth 100000 in
set_option maxHeartbeats 8000000 in
theorem same_tk (W : World) (a : Int) (t : Tk) (vs us : Value) (hv : SetRd W vs t.cls) (hu : SetRd W us t.cls) : Calls Tryz.prog 33 #[tkV a t vs, tkV a t us] W fun e w' => e = .returned (.bool true) ∧ Below W.heap.size W w' := by
  obtain ⟨o1, s1, r1⟩ := hv
  obtain ⟨o2, s2, r2⟩ := hu
  obtain rfl : o1 = o2 := Br.setIs_unique s1 s2
  have R1 := Lib.hid r1
  have R2 := Lib.hid r2
  obtain ⟨va, vc, rfl, _⟩ := r1
  obtain ⟨ua, uc, rfl, _⟩ := r2
  obtain ⟨k, n, nm, mn, mx, lz, cl⟩ := t
  clear s1 s2
  unfold tkV
  dsimp only
  go_enter Tryz.func33, Tryz.ntmps33
  go_wp2_with fail
  have hb0 : Below W.heap.size W ((W.alloc (.cells #[.int .i64 k, .int .i64 a, .int .i64 n, .string nm, .int .i64 mn, .int .i64 mx, .bool lz, .slice va o1.length vc] 35)).alloc (.cells #[.int .i64 k, .int .i64 a, .int .i64 n, .string nm, .int .i64 mn, .int .i64 mx, .bool lz, .slice ua o1.length uc] 35)) := ((Below.refl _ W).alloc (Nat.le_refl _) _).alloc (by simp) _
  refine (same_refl_row _ _ _ o1 o1 (R1.out.below (Nat.le_refl _) hb0) (R2.out.below (Nat.le_refl _) hb0) rfl).mono ?_
  rintro e w1 ⟨rfl, hb1⟩
  have HB := Lib.hid (hb0.trans (hb1.mono hb0.size))
  clear hb0 hb1
  go_wp2
  go_ret
  exact ⟨rfl, HB.out⟩
/-- A list of tokens, its places so much more. -/
def shift (by_ : Int) (T : List (Int × Tk)) : List (Int × Tk) := T.map fun p => (p.1 + by_, p.2)
theorem shift_at (by_ : Int) (T : List (Int × Tk)) (i : Nat) (h : i < T.length) : (shift by_ T)[i]'(by unfold shift; rw [List.length_map]; exact h) = (T[i].1 + by_, T[i].2) := by simp [shift]
set_option maxRecDepth 100000 in
set_option maxHeartbeats 8000000 in
theorem alike_any (W : World) (va vb : Value) (T : List (Int × Tk)) (by_ : Int) (ha : TkRow W va (shift by_ T)) (hb : TkRow W vb T) (hT : T.length ≤ 100000) (hby : 0 ≤ by_ ∧ by_ ≤ 1000000) (hp : ∀ p ∈ T, 0 ≤ p.1 ∧ p.1 ≤ 1000000) :
    Calls Tryz.prog 14 #[va, vb, .int .i64 by_] W fun e w' => e = .returned (.bool true) ∧ Below W.heap.size W w' := by
  obtain ⟨N, hN⟩ : ∃ N, T.length = N := ⟨_, rfl⟩
  have hlen : (shift by_ T).length = N := by unfold shift; rw [List.length_map]; exact hN
  have HA := Lib.hid ha
  have HB := Lib.hid hb
  obtain ⟨a, cap, rfl, ha9⟩ := ha
  obtain ⟨b, cap2, rfl, hb9⟩ := hb
  rw [hN] at hT ⊢
  rw [hlen]
  have HA9 := Lib.hid ha9
  have HB9 := Lib.hid hb9
  have HN := Lib.hid hN
  have HP := Lib.hid hp
  clear ha9 hb9 hN hlen hp HA HB
  go_enter Tryz.func14, Tryz.ntmps14
  go_wp2
  go_loopw [7] (fun I wr => ∃ i : Nat, i ≤ N ∧ I = .int .i64 (i : Int) ∧ Hid (Below W.heap.size W wr)) (fun I _ => N - (intOf I).toNat)
  case atStart => exact ⟨0, Nat.zero_le _, rfl, Lib.hid (Below.refl _ _)⟩
  case round =>
    obtain ⟨i, hi, rfl, HBW⟩ := hrel
    by_cases hlt : i < N
    · have hlti : (i : Int) < (N : Int) := by omega
      have hiT : i < T.length := by rw [HN.out]; exact hlt
      have hiS : i < (shift by_ T).length := by unfold shift; rw [List.length_map]; exact hiT
      obtain ⟨p, hpe⟩ : ∃ p, T[i] = p := ⟨_, rfl⟩
      have hpb := HP.out p (by rw [← hpe]; exact List.getElem_mem hiT)
      have hse : (shift by_ T)[i] = (p.1 + by_, p.2) := by rw [shift_at by_ T i hiT, hpe]
      obtain ⟨ab, ao, vs, ea, al, asx, ac⟩ := HA9.out i hiS
      obtain ⟨bb, bo, us, eb, bl, bs, bc⟩ := HB9.out i hiT
      rw [hse] at asx ac
      rw [hpe] at bs bc
      subst ea
      subst eb
      obtain ⟨pa, pt⟩ := p
      dsimp only at asx ac bs bc hpb
      obtain ⟨va, vn, vc, rfl⟩ : ∃ va vn vc, vs = .slice va vn vc := by obtain ⟨o, _, a1, c1, e1, _⟩ := asx; exact ⟨a1, _, c1, e1⟩
      obtain ⟨ua, un, uc, rfl⟩ : ∃ va vn vc, us = .slice va vn vc := by obtain ⟨o, _, a1, c1, e1, _⟩ := bs; exact ⟨a1, _, c1, e1⟩
      have hw : IntKind.i64.wrap (pa + by_) = pa + by_ := by rw [IntKind.wrap_i64]; omega
      have hw2 : IntKind.i64.wrap ((i : Int) + 1) = ((i + 1 : Nat) : Int) := by rw [IntKind.wrap_i64]; omega
      have a0 : wr.cell? ⟨ab, ao + i * 8, none⟩ = some (.int .i64 pt.kind) := (HBW.out.cell (p := ⟨ab, ao + i * 8, none⟩) al).trans (ac 0 (by omega))
      have a1 : wr.cell? ⟨ab, ao + i * 8 + 1, none⟩ = some (.int .i64 (pa + by_)) := (HBW.out.cell (p := ⟨ab, ao + i * 8 + 1, none⟩) al).trans (ac 1 (by omega))
      have a2 : wr.cell? ⟨ab, ao + i * 8 + 2, none⟩ = some (.int .i64 pt.num) := (HBW.out.cell (p := ⟨ab, ao + i * 8 + 2, none⟩) al).trans (ac 2 (by omega))
      have a3 : wr.cell? ⟨ab, ao + i * 8 + 3, none⟩ = some (.string pt.name) := (HBW.out.cell (p := ⟨ab, ao + i * 8 + 3, none⟩) al).trans (ac 3 (by omega))
      have a4 : wr.cell? ⟨ab, ao + i * 8 + 4, none⟩ = some (.int .i64 pt.mn) := (HBW.out.cell (p := ⟨ab, ao + i * 8 + 4, none⟩) al).trans (ac 4 (by omega))
      have a5 : wr.cell? ⟨ab, ao + i * 8 + 5, none⟩ = some (.int .i64 pt.mx) := (HBW.out.cell (p := ⟨ab, ao + i * 8 + 5, none⟩) al).trans (ac 5 (by omega))
      have a6 : wr.cell? ⟨ab, ao + i * 8 + 6, none⟩ = some (.bool pt.lazy) := (HBW.out.cell (p := ⟨ab, ao + i * 8 + 6, none⟩) al).trans (ac 6 (by omega))
      have a7 : wr.cell? ⟨ab, ao + i * 8 + 7, none⟩ = some (.slice va vn vc) := (HBW.out.cell (p := ⟨ab, ao + i * 8 + 7, none⟩) al).trans (ac 7 (by omega))
      have b0 : wr.cell? ⟨bb, bo + i * 8, none⟩ = some (.int .i64 pt.kind) := (HBW.out.cell (p := ⟨bb, bo + i * 8, none⟩) bl).trans (bc 0 (by omega))
      have b1 : wr.cell? ⟨bb, bo + i * 8 + 1, none⟩ = some (.int .i64 pa) := (HBW.out.cell (p := ⟨bb, bo + i * 8 + 1, none⟩) bl).trans (bc 1 (by omega))
      have b2 : wr.cell? ⟨bb, bo + i * 8 + 2, none⟩ = some (.int .i64 pt.num) := (HBW.out.cell (p := ⟨bb, bo + i * 8 + 2, none⟩) bl).trans (bc 2 (by omega))
      have b3 : wr.cell? ⟨bb, bo + i * 8 + 3, none⟩ = some (.string pt.name) := (HBW.out.cell (p := ⟨bb, bo + i * 8 + 3, none⟩) bl).trans (bc 3 (by omega))
      have b4 : wr.cell? ⟨bb, bo + i * 8 + 4, none⟩ = some (.int .i64 pt.mn) := (HBW.out.cell (p := ⟨bb, bo + i * 8 + 4, none⟩) bl).trans (bc 4 (by omega))
      have b5 : wr.cell? ⟨bb, bo + i * 8 + 5, none⟩ = some (.int .i64 pt.mx) := (HBW.out.cell (p := ⟨bb, bo + i * 8 + 5, none⟩) bl).trans (bc 5 (by omega))
      have b6 : wr.cell? ⟨bb, bo + i * 8 + 6, none⟩ = some (.bool pt.lazy) := (HBW.out.cell (p := ⟨bb, bo + i * 8 + 6, none⟩) bl).trans (bc 6 (by omega))
      have b7 : wr.cell? ⟨bb, bo + i * 8 + 7, none⟩ = some (.slice ua un uc) := (HBW.out.cell (p := ⟨bb, bo + i * 8 + 7, none⟩) bl).trans (bc 7 (by omega))
      have AS := Lib.hid (asx.kept HBW.out)
      have BS := Lib.hid (bs.kept HBW.out)
      clear ac bc asx bs bl hse hpe hiS hiT
      have habw : ab < wr.heap.size := Nat.lt_of_lt_of_le al HBW.out.size
      obtain ⟨w0, hw0⟩ : ∃ w0 : World, wr.alloc (.cells #[.int .i64 pt.kind, .int .i64 (pa + by_), .int .i64 pt.num, .string pt.name, .int .i64 pt.mn, .int .i64 pt.mx, .bool pt.lazy, .slice ua un uc] 35) = w0 := ⟨_, rfl⟩
      have hbx : Below wr.heap.size wr w0 := by rw [← hw0]; exact (Below.refl _ wr).alloc (Nat.le_refl _) _
      have hsz0 : w0.heap.size = wr.heap.size + 1 := by rw [← hw0]; simp
      have ya0 : ∀ p : GrownTo w0, p.W'.cell? ⟨ab, ao + i * 8, none⟩ = some (.int .i64 pt.kind) := cell_grownTo (by show ab < w0.heap.size; omega) ((hbx.cell (p := ⟨ab, ao + i * 8, none⟩) (by show ab < wr.heap.size; omega)).trans a0)
      have ya1 : ∀ p : GrownTo w0, p.W'.cell? ⟨ab, ao + i * 8 + 1, none⟩ = some (.int .i64 (pa + by_)) := cell_grownTo (by show ab < w0.heap.size; omega) ((hbx.cell (p := ⟨ab, ao + i * 8 + 1, none⟩) (by show ab < wr.heap.size; omega)).trans a1)
      have ya2 : ∀ p : GrownTo w0, p.W'.cell? ⟨ab, ao + i * 8 + 2, none⟩ = some (.int .i64 pt.num) := cell_grownTo (by show ab < w0.heap.size; omega) ((hbx.cell (p := ⟨ab, ao + i * 8 + 2, none⟩) (by show ab < wr.heap.size; omega)).trans a2)
      have ya3 : ∀ p : GrownTo w0, p.W'.cell? ⟨ab, ao + i * 8 + 3, none⟩ = some (.string pt.name) := cell_grownTo (by show ab < w0.heap.size; omega) ((hbx.cell (p := ⟨ab, ao + i * 8 + 3, none⟩) (by show ab < wr.heap.size; omega)).trans a3)
      have ya4 : ∀ p : GrownTo w0, p.W'.cell? ⟨ab, ao + i * 8 + 4, none⟩ = some (.int .i64 pt.mn) := cell_grownTo (by show ab < w0.heap.size; omega) ((hbx.cell (p := ⟨ab, ao + i * 8 + 4, none⟩) (by show ab < wr.heap.size; omega)).trans a4)
      have ya5 : ∀ p : GrownTo w0, p.W'.cell? ⟨ab, ao + i * 8 + 5, none⟩ = some (.int .i64 pt.mx) := cell_grownTo (by show ab < w0.heap.size; omega) ((hbx.cell (p := ⟨ab, ao + i * 8 + 5, none⟩) (by show ab < wr.heap.size; omega)).trans a5)
      have ya6 : ∀ p : GrownTo w0, p.W'.cell? ⟨ab, ao + i * 8 + 6, none⟩ = some (.bool pt.lazy) := cell_grownTo (by show ab < w0.heap.size; omega) ((hbx.cell (p := ⟨ab, ao + i * 8 + 6, none⟩) (by show ab < wr.heap.size; omega)).trans a6)
      have ya7 : ∀ p : GrownTo w0, p.W'.cell? ⟨ab, ao + i * 8 + 7, none⟩ = some (.slice va vn vc) := cell_grownTo (by show ab < w0.heap.size; omega) ((hbx.cell (p := ⟨ab, ao + i * 8 + 7, none⟩) (by show ab < wr.heap.size; omega)).trans a7)
      have yb0 : ∀ p : GrownTo w0, p.W'.cell? ⟨wr.heap.size, 0, none⟩ = some (.int .i64 pt.kind) := cell_grownTo (by show wr.heap.size < w0.heap.size; omega) (by rw [← hw0]; simp)
      have yb1 : ∀ p : GrownTo w0, p.W'.cell? ⟨wr.heap.size, 1, none⟩ = some (.int .i64 (pa + by_)) := cell_grownTo (by show wr.heap.size < w0.heap.size; omega) (by rw [← hw0]; simp)
      have yb2 : ∀ p : GrownTo w0, p.W'.cell? ⟨wr.heap.size, 2, none⟩ = some (.int .i64 pt.num) := cell_grownTo (by show wr.heap.size < w0.heap.size; omega) (by rw [← hw0]; simp)
      have yb3 : ∀ p : GrownTo w0, p.W'.cell? ⟨wr.heap.size, 3, none⟩ = some (.string pt.name) := cell_grownTo (by show wr.heap.size < w0.heap.size; omega) (by rw [← hw0]; simp)
      have yb4 : ∀ p : GrownTo w0, p.W'.cell? ⟨wr.heap.size, 4, none⟩ = some (.int .i64 pt.mn) := cell_grownTo (by show wr.heap.size < w0.heap.size; omega) (by rw [← hw0]; simp)
      have yb5 : ∀ p : GrownTo w0, p.W'.cell? ⟨wr.heap.size, 5, none⟩ = some (.int .i64 pt.mx) := cell_grownTo (by show wr.heap.size < w0.heap.size; omega) (by rw [← hw0]; simp)
      have yb6 : ∀ p : GrownTo w0, p.W'.cell? ⟨wr.heap.size, 6, none⟩ = some (.bool pt.lazy) := cell_grownTo (by show wr.heap.size < w0.heap.size; omega) (by rw [← hw0]; simp)
      have yb7 : ∀ p : GrownTo w0, p.W'.cell? ⟨wr.heap.size, 7, none⟩ = some (.slice ua un uc) := cell_grownTo (by show wr.heap.size < w0.heap.size; omega) (by rw [← hw0]; simp)
      have H1 := Lib.hid (fun (p : GrownTo w0) => calls_grownTo (same_tk p.W' (pa + by_) pt (.slice va vn vc) (.slice ua un uc) ((AS.out.kept hbx).kept p.h) ((BS.out.kept hbx).kept p.h)))
      unfold tkV at H1
      have HBX := Lib.hid (HBW.out.trans (hbx.mono HBW.out.size))
      have HW0 := Lib.hid hw0
      have mixed : Tryz.prog.follows .mixedOrders = true := by kernel_rfl
      clear al hbx habw a0 a1 a2 a3 a4 a5 a6 a7 hw0
      go_wp2_with fail
      rw [HW0.out]
      refine wp_region_quiet_below mixed (by kernel_rfl) ?_
      repeat (quiet_step (first
        | (go_at_call 33; exact H1.out _)))
      refine wpQuiet_nil ?_
      intro _ hw'
      obtain ⟨⟨wz, hbz⟩, hw''⟩ := hw'
      subst hw''
      have HBZ := Lib.hid (HBX.out.trans (hbz.mono HBX.out.size))
      clear hbz ya0 ya1 ya2 ya3 ya4 ya5 ya6 ya7 yb0 yb1 yb2 yb3 yb4 yb5 yb6 yb7
      go_wp2
      go_roundw
      case rel => exact ⟨i + 1, by omega, by go_num, HBZ⟩
      case measure => simp [intOf]; omega
    · have hlti : ¬ (i : Int) < (N : Int) := by omega
      clear hlt
      go_wp2
      go_ret
      exact ⟨rfl, HBW.out⟩
end Go.Proofs.YtecclhmjmceheaaGreatDoor
namespace Go.Proofs.YtecclhmjmceheaaGreatDoor.Lx
set_option linter.unusedVariables false
/-- Places that rise from lo on, below m; kinds from 1 to 13. -/
def Ris (m : Int) : Int → List (Int × Tk) → Prop
  | _, [] => True
  | lo, p :: l => lo < p.1 ∧ p.1 < m ∧ 1 ≤ p.2.kind ∧ p.2.kind ≤ 13 ∧ Ris m p.1 l
theorem Ris.snoc {m : Int} {a : Int} {t : Tk} (ha : a < m) (h1 : 1 ≤ t.kind) (h2 : t.kind ≤ 13) : ∀ {lo : Int} {l : List (Int × Tk)}, Ris m lo l → lo < a → (∀ p ∈ l, p.1 < a) → Ris m lo (l ++ [(a, t)])
  | lo, [], _, h, _ => ⟨h, ha, h1, h2, True.intro⟩
  | lo, p :: l, hr, _, hp => ⟨hr.1, hr.2.1, hr.2.2.1, hr.2.2.2.1, Ris.snoc ha h1 h2 hr.2.2.2.2 (hp p (by simp)) (fun x hx => hp x (by simp [hx]))⟩
theorem Ris.drop {m : Int} : ∀ {lo : Int} {l : List (Int × Tk)} (i : Nat) (h : i < l.length), Ris m lo l → ∃ x, x < l[i].1 ∧ l[i].1 < m ∧ 1 ≤ l[i].2.kind ∧ l[i].2.kind ≤ 13 ∧ (i = 0 → x = lo) ∧ (∀ j (hj : j + 1 = i), x = (l[j]'(by omega)).1)
  | lo, p :: l, 0, h, hr => ⟨lo, hr.1, hr.2.1, hr.2.2.1, hr.2.2.2.1, fun _ => rfl, fun j hj => by omega⟩
  | lo, p :: l, i + 1, h, hr => by
    obtain ⟨x, h1, h2, h3, h4, h5, h6⟩ := Ris.drop i (by simpa using h) hr.2.2.2.2
    refine ⟨x, by simpa using h1, by simpa using h2, by simpa using h3, by simpa using h4, fun e => by omega, fun j hj => ?_⟩
    cases j with
    | zero =>
      have : i = 0 := by omega
      simpa using h5 this
    | succ j => simpa using h6 j (by omega)
theorem lexF_ris (s : ByteArray) : ∀ (f k : Nat) (q : Bool) (T T' : List (Int × Tk)), lexF s f k q T = .ok T' → Ris s.size (-1) T → (∀ p ∈ T, p.1 < (k : Int)) → Ris s.size (-1) T' ∧ ∃ U, T' = T ++ U
  | 0, _, _, _, _, h, _, _ => by cases h
  | f + 1, k, q, T, T', h, hr, hp => by
    rw [lexF_eq] at h
    by_cases h1 : s.size ≤ k
    · rw [if_pos h1] at h
      injection h with h
      subst h
      exact ⟨hr, [], by simp⟩
    · rw [if_neg h1] at h
      by_cases h2 : turnB q ((Utf.nums s).drop k) = true
      · rw [if_pos h2] at h
        exact lexF_ris s f (k + 2) _ T T' h hr (fun p hx => by have := hp p hx; omega)
      · rw [if_neg h2] at h
        have hz : (s.extract k s.size).size = s.size - k := by rw [ByteArray.size_extract]; omega
        have ho := one_ok q (s.extract k s.size) (by omega)
        cases hx : oneX q (s.extract k s.size) with
        | bad n c => rw [hx] at h; cases h
        | ok t n =>
          rw [hx] at h ho
          obtain ⟨o1, o2, o3, o4⟩ := ho
          obtain ⟨r1, U, r2⟩ := lexF_ris s f (k + n) q _ T' h (Ris.snoc (by omega) o3 o4 hr (by omega) hp) (fun p hx => by
            rcases List.mem_append.1 hx with hx | hx
            · have := hp p hx; omega
            · simp at hx; subst hx; show (k : Int) < _; omega)
          exact ⟨r1, [((k : Int), t)] ++ U, by rw [r2, List.append_assoc]⟩
theorem lexF_bad (s : ByteArray) : ∀ (f k : Nat) (q : Bool) (T : List (Int × Tk)) (o c : Int), s.size - k < f → lexF s f k q T = .bad o c → 0 ≤ o ∧ o ≤ s.size ∧ c ≠ 0
  | 0, _, _, _, _, _, hf, _ => by omega
  | f + 1, k, q, T, o, c, hf, h => by
    rw [lexF_eq] at h
    by_cases h1 : s.size ≤ k
    · rw [if_pos h1] at h; cases h
    · rw [if_neg h1] at h
      by_cases h2 : turnB q ((Utf.nums s).drop k) = true
      · rw [if_pos h2] at h
        exact lexF_bad s f (k + 2) _ T o c (by omega) h
      · rw [if_neg h2] at h
        have hz : (s.extract k s.size).size = s.size - k := by rw [ByteArray.size_extract]; omega
        have ho := one_ok q (s.extract k s.size) (by omega)
        cases hx : oneX q (s.extract k s.size) with
        | bad n c' =>
          rw [hx] at h ho
          obtain ⟨o1, o2, o3⟩ := ho
          injection h with h1 h2
          subst h1; subst h2
          exact ⟨by omega, by omega, o3⟩
        | ok t n =>
          rw [hx] at h ho
          exact lexF_bad s f (k + n) q _ o c (by have := ho.1; omega) h
/-- All that 8.2 says of the places. -/
theorem lex_rises {s : ByteArray} {T : List (Int × Tk)} (h : lexR s 0 false [] = .ok T) : Ris s.size (-1) T ∧ (0 < s.size → (Utf.nums s)[0]?.getD 0 ≠ 92 → ∃ t U, T = (0, t) :: U) := by
  refine ⟨(lexF_ris s _ 0 false [] T h True.intro (fun p hp => by cases hp)).1, fun h0 h92 => ?_⟩
  have hz : (s.extract 0 s.size).size = s.size - 0 := by rw [ByteArray.size_extract]; omega
  have ht : turnB false ((Utf.nums s).drop 0) = false := by
    unfold turnB
    rw [List.drop_zero, decide_eq_false h92]; rfl
  cases hx : oneX false (s.extract 0 s.size) with
  | bad n c => rw [lexR_bad h0 ht hx] at h; cases h
  | ok t n =>
    have ho := one_ok false (s.extract 0 s.size) (by omega)
    rw [hx] at ho
    rw [lexR_tok h0 ht hx] at h
    obtain ⟨o1, o2, o3, o4⟩ := ho
    obtain ⟨_, U, e⟩ := lexF_ris s _ (0 + n) false _ T h (Ris.snoc (by omega) o3 o4 (lo := -1) (l := []) True.intro (by omega) (fun p hp => by cases hp)) (fun p hp => by simp at hp; subst hp; show (0 : Int) < _; omega)
    exact ⟨t, U, by rw [e]; rfl⟩
end Go.Proofs.YtecclhmjmceheaaGreatDoor.Lx
