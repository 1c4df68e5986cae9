/- The landed parse: turn, lineOr, folded, dot, set, assertion, join. · The landed parse: folded, dot, repeated. · The landed parse: repeated. -/
import Derived.Test.YtanffablfgnioaaGreatDoorGp29
namespace Go.Proofs.YtanffablfgnioaaGreatDoor
open Go.RowKit
open Lx (Tk)
open Ps (TL)
set_option linter.unusedVariables false
theorem i64_lit (x : Int) (h : -9223372036854775808 ≤ x ∧ x ≤ 9223372036854775807) : I64 x := h
theorem grown_drew {W W' : World} {o : Option Nat} (h : W.grownBy W' o) : W.grownBy W'.drew o := ⟨h.os, h.tape, h.output, h.size, h.block⟩
set_option maxRecDepth 100000 in
set_option maxHeartbeats 2000000 in
theorem turn_any {W : World} {lo B P0 : Nat} {v : Value} {L : TL} {f g : Int} (h : PSt lo W B P0 v L f g) (a : Int) (t : Tk) (va : Option Addr) (vl vc : Nat) : Calls Tryz.prog 66 #[.pointer (some ⟨B, 0, none⟩), tkV a t (.slice va vl vc)] W fun e w' =>
    e = .returned (.tuple #[]) ∧ PSt lo w' B P0 v L (Ps.turnP f t) g ∧ W.grownBy w' (some B) := by
  have H := Lib.hid h
  obtain ⟨c0, c1, c2, z0, z1, z2⟩ := h.cells
  have hB := (Array.getElem?_eq_some_iff.1 h.box).1
  have hbx := h.box
  clear h
  obtain ⟨kd, num, nm, mn, mx, lz, cl⟩ := t
  unfold tkV
  dsimp only
  go_enter Tryz.func66, Tryz.ntmps66
  go_wp2
  obtain ⟨w1, hw1⟩ : ∃ w1, W.alloc (.cells #[.int .i64 kd, .int .i64 a, .int .i64 num, .string nm, .int .i64 mn, .int .i64 mx, .bool lz, .slice va vl vc] 39) = w1 := ⟨_, rfl⟩
  have hg1 : W.grownBy w1 (some B) := by rw [← hw1]; exact grown_alloc (grown_refl _ _) _
  have hnew : w1.heap[W.heap.size]? = some (.cells #[.int .i64 kd, .int .i64 a, .int .i64 num, .string nm, .int .i64 mn, .int .i64 mx, .bool lz, .slice va vl vc] 39 (0, 0)) := by rw [← hw1]; exact heap_alloc_new _ _
  have hbx1 : w1.heap[B]? = some (.cells #[v, .int .i64 f, .int .i64 g] 41 (0, 0)) := by rw [← hw1]; exact (Below.heap_alloc _ _ _ hB).trans hbx
  rw [hw1]
  obtain ⟨n, hn⟩ : ∃ n, W.heap.size = n := ⟨_, rfl⟩
  rw [hn] at hnew ⊢
  have t4 : w1.cell? ⟨n, 4, none⟩ = some (.int .i64 mn) := by simp [World.cell?, hnew]
  have t5 : w1.cell? ⟨n, 5, none⟩ = some (.int .i64 mx) := by simp [World.cell?, hnew]
  have b1 : w1.cell? ⟨B, 1, none⟩ = some (.int .i64 f) := by simp [World.cell?, hbx1]
  have f1 : w1.frozen? ⟨B, 1, none⟩ = false := by simp [World.frozen?, hbx1]
  have HG := Lib.hid hg1
  have HX := Lib.hid hbx1
  clear hw1 hg1 hnew hbx1 hbx c0 c1 c2 z0 z1 z2 hB hn
  go_region
  go_wp2
  go_end0
  have hg2 := grown_drew (grown_set HG.out ⟨B, 1, none⟩ (.int .i64 (bits .andNot .i64 (bits .or .i64 f mn) mx)) (.inr rfl))
  refine ⟨rfl, PSt.turned H.out hg2 ?_ H.out.row H.out.ends (fun p hp => hp) (Nat.le_refl _) H.out.g0 H.out.g1, hg2⟩
  have h9 := heap_setCell_same w1 B 1 _ _ (.int .i64 (bits .andNot .i64 (bits .or .i64 f mn) mx)) HX.out
  show (w1.setCell ⟨B, 1, none⟩ (.int .i64 (bits .andNot .i64 (bits .or .i64 f mn) mx))).heap[B]? = some (.cells #[v, .int .i64 (bits .andNot .i64 (bits .or .i64 f mn) mx), .int .i64 g] 41 (0, 0))
  simpa using h9
set_option maxRecDepth 100000 in
set_option maxHeartbeats 2000000 in
theorem lineOr_any {W : World} {lo B P0 : Nat} {v : Value} {L : TL} {f g : Int} (h : PSt lo W B P0 v L f g) (x y : Int) : Calls Tryz.prog 98 #[.pointer (some ⟨B, 0, none⟩), .int .i64 x, .int .i64 y] W fun e w' =>
    e = .returned (.int .i64 (if Ps.hasP f 2 then x else y)) ∧ w' = W := by
  have HH := Lib.hid (fun x => hasFlag_any h x)
  clear h
  obtain ⟨q, hq⟩ : ∃ q, Ps.hasP f 2 = q := ⟨_, rfl⟩
  have h9 := HH.out 2
  rw [hq] at h9 ⊢
  have H9 := Lib.hid h9
  clear h9 hq
  cases q with
  | true =>
    go_enter Tryz.func98, Tryz.ntmps98
    go_wp2_with fail
    refine H9.out.mono ?_
    rintro e w' ⟨rfl, rfl⟩
    go_wp2
    go_ret
    exact ⟨rfl, rfl⟩
  | false =>
    go_enter Tryz.func98, Tryz.ntmps98
    go_wp2_with fail
    refine H9.out.mono ?_
    rintro e w' ⟨rfl, rfl⟩
    go_wp2
    go_ret
    exact ⟨rfl, rfl⟩
theorem RgOwn.on {W : World} {base : Nat} {v : Value} {l : List (Int × Int)} (h : RgOwn W base v l) (hr : RRow W v l) : RRowOn (fun b => base ≤ b ∧ b < W.heap.size) W v l :=
  ⟨hr, fun g off len cap e hl => World.ownsRow.lt h g (by rw [e]; rfl)⟩
set_option maxRecDepth 100000 in
set_option maxHeartbeats 2000000 in
theorem set_any {lo B P0 base : Nat} (W : World) (hb : base ≤ W.heap.size) (out : List Rg.R) (va : Option Addr) (vc : Nat) (h : RRowOn (fun b => Sb lo B P0 base b ∧ b < W.heap.size) W (.slice va out.length vc) out) :
    Calls Tryz.prog 94 #[.slice va out.length vc] W fun e w' => ∃ cs, e = .returned (.agg cs.toArray) ∧ NdP lo B P0 base w' (Ps.setN out) cs ∧ Below W.heap.size W w' := by
  have H := Lib.hid h
  clear h
  cases out with
  | nil =>
    go_enter Tryz.func94, Tryz.ntmps94
    go_wp2
    (try simp only [Exit.inBlock, Exit.then])
    refine ret_nd1 rfl W.heap.size _ rfl (heap_alloc_new W _) rfl rfl ?_
    exact ⟨_, rfl, .mk (fun _ => []) ⟨i64_lit _ (by decide), i64_lit _ (by decide), i64_lit _ (by decide), i64_lit _ (by decide)⟩ RRowOn.nil (by decide) (by decide) (fun j hj => absurd hj (by simp)) (fun j hj => absurd hj (by simp)), (Below.refl _ _).alloc (Nat.le_refl _) _⟩
  | cons p l =>
    have h1 : (0 : Int) < (((p :: l).length : Nat) : Int) := by simp
    obtain ⟨n, hn⟩ : ∃ n, (p :: l).length = n := ⟨_, rfl⟩
    have HN := Lib.hid hn
    rw [hn] at h1 ⊢
    clear hn
    go_enter Tryz.func94, Tryz.ntmps94
    go_wp2
    (try simp only [Exit.inBlock, Exit.then])
    refine ret_nd1 rfl W.heap.size _ rfl (heap_alloc_new W _) rfl rfl ?_
    have hb9 : Below W.heap.size W (W.alloc (.cells #[.int .i64 3, .slice va n vc, .int .i64 0, .string ⟨#[]⟩, .int .i64 0, .int .i64 0, .bool false, .slice none 0 0] 26)) := (Below.refl _ _).alloc (Nat.le_refl _) _
    refine ⟨_, rfl, .mk (fun _ => []) ⟨i64_lit _ (by decide), i64_lit _ (by decide), i64_lit _ (by decide), i64_lit _ (by decide)⟩ ?_ (by decide) (by decide) (fun j hj => absurd hj (by simp)) (fun j hj => absurd hj (by simp)), hb9⟩
    have h8 := H.out
    rw [HN.out] at h8
    exact (h8.kept hb9.size (fun b _ hlt => hb9.block b hlt)).mono (fun b hb => ⟨hb.1, Nat.lt_of_lt_of_le hb.2 hb9.size⟩)
set_option maxRecDepth 100000 in
set_option maxHeartbeats 2000000 in
theorem assertion_any {lo B P0 base : Nat} (W : World) (hb : base ≤ W.heap.size) (x : Int) (hx : I64 x) : Calls Tryz.prog 97 #[.int .i64 x] W fun e w' => ∃ cs, e = .returned (.agg cs.toArray) ∧ NdP lo B P0 base w' (Ps.leafN 5 x) cs ∧ Below W.heap.size W w' := by
  go_enter Tryz.func97, Tryz.ntmps97
  go_wp2
  (try simp only [Exit.inBlock, Exit.then])
  refine ret_nd1 rfl W.heap.size _ rfl (heap_alloc_new W _) rfl rfl ?_
  exact ⟨_, rfl, .mk (fun _ => []) ⟨i64_lit _ (by decide), hx, i64_lit _ (by decide), i64_lit _ (by decide)⟩ RRowOn.nil (by decide) (by decide) (fun j hj => absurd hj (by simp)) (fun j hj => absurd hj (by simp)), (Below.refl _ _).alloc (Nat.le_refl _) _⟩
set_option maxRecDepth 100000 in
set_option maxHeartbeats 2000000 in
theorem join_any {lo B P0 base : Nat} (W : World) (hb : base ≤ W.heap.size) (K : Int) (hK : I64 K) (A : List Nd) (v : Value) (h : NdOwn lo B P0 W base v A) (hA : A.length ≤ 200000) :
    Calls Tryz.prog 39 #[.int .i64 K, v] W fun e w' => ∃ cs, e = .returned (.agg cs.toArray) ∧ NdP lo B P0 base w' (Ps.joinN K A) cs ∧ Below W.heap.size W w' := by
  have H := Lib.hid h
  obtain ⟨a, cap, rfl⟩ := h.slice
  clear h
  match A, H with
  | [], H =>
    go_enter Tryz.func39, Tryz.ntmps39
    go_wp2
    (try simp only [Exit.inBlock, Exit.then])
    refine ret_nd1 rfl W.heap.size _ rfl (heap_alloc_new W _) rfl rfl ?_
    exact ⟨_, rfl, .mk (fun _ => []) ⟨i64_lit _ (by decide), i64_lit _ (by decide), i64_lit _ (by decide), i64_lit _ (by decide)⟩ RRowOn.nil (by decide) (by decide) (fun j hj => absurd hj (by simp)) (fun j hj => absurd hj (by simp)), (Below.refl _ _).alloc (Nat.le_refl _) _⟩
  | [x], H =>
    obtain ⟨g, c2, e, hbg, hg, _, _, hat⟩ := H.out.at (by simp)
    injection e with e1 e2 e3
    subst e1
    subst e3
    obtain ⟨cs, hn, hc⟩ := hat 0 (by simp)
    obtain ⟨u0, u1, u2, u3, u4, u5, u6, u7, sa, sc, a, c, hcs, F⟩ := hn.is.form_of
    subst hcs
    obtain ⟨rfl, rfl, rfl, rfl, rfl, rfl, rfl, rfl⟩ := F
    have q0 : W.cell? ⟨g, 0, none⟩ = some (.int .i64 (Td.kind x)) := hc 0 (by omega)
    have q1 : W.cell? ⟨g, 1, none⟩ = some (.slice sa (Td.set x).length sc) := hc 1 (by omega)
    have q2 : W.cell? ⟨g, 2, none⟩ = some (.int .i64 (Td.num x)) := hc 2 (by omega)
    have q3 : W.cell? ⟨g, 3, none⟩ = some (.string (Td.name x)) := hc 3 (by omega)
    have q4 : W.cell? ⟨g, 4, none⟩ = some (.int .i64 (Td.mn x)) := hc 4 (by omega)
    have q5 : W.cell? ⟨g, 5, none⟩ = some (.int .i64 (Td.mx x)) := hc 5 (by omega)
    have q6 : W.cell? ⟨g, 6, none⟩ = some (.bool (Td.lazy x)) := hc 6 (by omega)
    have q7 : W.cell? ⟨g, 7, none⟩ = some (.slice a (Td.subs x).length c) := hc 7 (by omega)
    have HX := Lib.hid hn
    clear hn hc hat
    go_enter Tryz.func39, Tryz.ntmps39
    go_wp2
    (try simp only [Exit.inBlock, Exit.then])
    refine ret_nd1 rfl W.heap.size _ rfl (heap_alloc_new W _) rfl rfl ?_
    have hb9 : Below W.heap.size W (W.alloc (.cells #[.int .i64 (Td.kind x), .slice sa (Td.set x).length sc, .int .i64 (Td.num x), .string (Td.name x), .int .i64 (Td.mn x), .int .i64 (Td.mx x), .bool (Td.lazy x), .slice a (Td.subs x).length c] 26)) := (Below.refl _ _).alloc (Nat.le_refl _) _
    exact ⟨_, rfl, (NdOn.grown HX.out (below_grown (n := 0) hb9 none) (fun b hb e => by cases e)).mono (fun b hb => ⟨hb.1, Nat.lt_of_lt_of_le hb.2 hb9.size⟩), hb9⟩
  | x :: y :: l, H =>
    obtain ⟨n, hn⟩ : ∃ n, (x :: y :: l).length = n := ⟨_, rfl⟩
    have h0 : ¬ ((n : Int) == 0) = true := by rw [← hn]; simp; omega
    have h1 : ¬ ((n : Int) == 1) = true := by rw [← hn]; simp; omega
    have h2 : 2 ≤ n := by rw [← hn]; simp
    have HN := Lib.hid hn
    rw [hn]
    rw [hn] at hA
    clear hn
    go_enter Tryz.func39, Tryz.ntmps39
    go_wp2
    (try simp only [Exit.inBlock, Exit.then])
    refine ret_nd1 rfl W.heap.size _ rfl (heap_alloc_new W _) rfl rfl ?_
    have hb9 : Below W.heap.size W (W.alloc (.cells #[.int .i64 K, .slice none 0 0, .int .i64 0, .string ⟨#[]⟩, .int .i64 0, .int .i64 0, .bool false, .slice a n cap] 26)) := (Below.refl _ _).alloc (Nat.le_refl _) _
    refine ⟨_, rfl, ?_, hb9⟩
    have h9 := NdOwn.node (k := K) (num := 0) (mn := 0) (mx := 0) (name := ⟨#[]⟩) (lz := false) H.out (by rw [HN.out]; omega) (by rw [HN.out]; omega) ⟨hK, i64_lit _ (by decide), i64_lit _ (by decide), i64_lit _ (by decide)⟩ (by decide)
    rw [HN.out] at h9
    exact (NdOn.grown h9 (below_grown (n := 0) hb9 none) (fun b hb e => by cases e)).mono (fun b hb => ⟨hb.1, Nat.lt_of_lt_of_le hb.2 hb9.size⟩)
end Go.Proofs.YtanffablfgnioaaGreatDoor
namespace Go.Proofs.YtanffablfgnioaaGreatDoor
open Go.RowKit
open Lx (Tk)
open Ps (TL)
set_option linter.unusedVariables false
/-- A list that lies in blocks that a call entered at base may read. -/
def LstP (lo B P0 base : Nat) (W : World) (v : Value) (l : List Rg.R) : Prop := RRowOn (fun b => Sb lo B P0 base b ∧ b < W.heap.size) W v l
theorem LstP.grown {lo B P0 base : Nat} {W W' : World} {v : Value} {l : List Rg.R} (hB : B < P0) (hP : P0 ≤ base) (h : LstP lo B P0 base W v l) (hg : W.grownBy W' (some B)) : LstP lo B P0 base W' v l :=
  (RRowOn.kept h hg.size (fun b hb hlt => hg.block b hlt (fun e => (hb.1.ne hB hP) (by injection e)))).mono (fun b hb => ⟨hb.1, Nat.lt_of_lt_of_le hb.2 hg.size⟩)
theorem own_lst {lo B P0 base base' : Nat} {W : World} {v : Value} {l : List Rg.R} (h : RgOwn W base' v l) (hn : Rg.NormL l) (hb : base ≤ base') : LstP lo B P0 base W v l :=
  (RgOwn.on h (h.normRow hn)).mono (fun b hb' => ⟨.inr (by omega), hb'.2⟩)
def LstQ (lo B P0 base : Nat) (l : List Rg.R) (W : World) (e : Ending) (w' : World) : Prop :=
  ∃ va vc, e = .returned (.slice va l.length vc) ∧ LstP lo B P0 base w' (.slice va l.length vc) l ∧ Below W.heap.size W w'
set_option maxRecDepth 100000 in
set_option maxHeartbeats 2000000 in
theorem folded_any {W : World} {lo B P0 base : Nat} {v : Value} {L : TL} {f g : Int} (h : PSt lo W B P0 v L f g) (hb : base ≤ W.heap.size) (l : List Rg.R) (va : Option Addr) (vc : Nat) (hl : LstP lo B P0 base W (.slice va l.length vc) l) :
    Calls Tryz.prog 95 #[.pointer (some ⟨B, 0, none⟩), .slice va l.length vc] W (LstQ lo B P0 base (Ps.foldL f l) W) := by
  have HH := Lib.hid (fun x => hasFlag_any h x)
  clear h
  unfold Ps.foldL
  obtain ⟨q, hq⟩ : ∃ q, Ps.hasP f 1 = q := ⟨_, rfl⟩
  have h9 := HH.out 1
  rw [hq] at h9 ⊢
  have H9 := Lib.hid h9
  have HL := Lib.hid hl
  clear h9 hq HH
  cases q with
  | true =>
    rw [if_pos rfl]
    have HC := Lib.hid (close_any W (.slice va l.length vc) l hl.1)
    obtain ⟨n, hn⟩ : ∃ n, l.length = n := ⟨_, rfl⟩
    rw [hn] at HC ⊢
    clear hl hn HL
    go_enter Tryz.func95, Tryz.ntmps95
    go_wp2_with fail
    refine H9.out.mono ?_
    rintro e w' ⟨rfl, rfl⟩
    go_wp2_with fail
    refine HC.out.mono ?_
    rintro e w2 ⟨vo, out, rfl, hn2, hhas, hown, hb2⟩
    have e1 : Ps.closeL l = out := Ps.closeL_is ⟨hn2, hhas⟩
    obtain ⟨oa, oc, rfl⟩ := own_slice hown
    have HP : Hid (LstQ lo B P0 base out w' (.returned (.slice oa out.length oc)) w2) := Lib.hid ⟨oa, oc, rfl, own_lst hown hn2 hb, hb2⟩
    have HE := Lib.hid e1
    clear e1 hn2 hhas hown hb2
    go_wp2
    go_ret
    rw [HE.out]; exact HP.out
  | false =>
    rw [if_neg (by decide)]
    obtain ⟨n, hn⟩ : ∃ n, l.length = n := ⟨_, rfl⟩
    have HN := Lib.hid hn
    rw [hn]
    clear hl hn
    go_enter Tryz.func95, Tryz.ntmps95
    go_wp2_with fail
    refine H9.out.mono ?_
    rintro e w' ⟨rfl, rfl⟩
    go_wp2
    go_ret
    exact ⟨va, vc, by rw [HN.out]; rfl, HL.out, Below.refl _ _⟩
theorem all_of {out : List Rg.R} (h : Rg.Made 3 [(0, 1114111)] [] out) : out = [(0, 1114111)] :=
  Rg.norm_ext h.norm (by unfold Rg.NormL; simp [Rg.NormFrom]) (fun q h0 h1 => by
    rw [h.has q h0 h1]
    unfold Rg.opB Rg.hasB
    simp)
theorem noLine_of {out : List Rg.R} (h : Rg.Made 3 [(0, 1114111)] [(10, 10)] out) : out = [(0, 9), (11, 1114111)] :=
  Rg.norm_ext h.norm (by unfold Rg.NormL; simp [Rg.NormFrom]) (fun q h0 h1 => by
    rw [h.has q h0 h1]
    unfold Rg.opB Rg.hasB
    rw [Bool.eq_iff_iff]
    simp
    omega)
def dotL (f : Int) : List Rg.R := if Ps.hasP f 4 then [(0, 1114111)] else [(0, 9), (11, 1114111)]
set_option maxRecDepth 100000 in
set_option maxHeartbeats 2000000 in
theorem dot_any {W : World} {lo B P0 base : Nat} {v : Value} {L : TL} {f g : Int} (h : PSt lo W B P0 v L f g) (hb : base ≤ W.heap.size) : Calls Tryz.prog 96 #[.pointer (some ⟨B, 0, none⟩)] W (LstQ lo B P0 base (dotL f) W) := by
  have HH := Lib.hid (fun x => hasFlag_any h x)
  clear h
  unfold dotL
  obtain ⟨q, hq⟩ : ∃ q, Ps.hasP f 4 = q := ⟨_, rfl⟩
  have h9 := HH.out 4
  rw [hq] at h9 ⊢
  have H9 := Lib.hid h9
  clear h9 hq HH
  cases q with
  | true =>
    rw [if_pos rfl]
    have HC := Lib.hid (not_any W (.slice none 0 0) [] (RRow.nil W))
    go_enter Tryz.func96, Tryz.ntmps96
    go_wp2_with fail
    refine H9.out.mono ?_
    rintro e w' ⟨rfl, rfl⟩
    go_wp2_with fail
    refine HC.out.mono ?_
    rintro e w2 ⟨vo, out, rfl, hm, hown, hb2⟩
    have hn := hm.norm
    obtain rfl := all_of hm
    obtain ⟨oa, oc, rfl⟩ := own_slice hown
    have HP : Hid (LstQ lo B P0 base [(0, 1114111)] w' (.returned (.slice oa [((0 : Int), (1114111 : Int))].length oc)) w2) := Lib.hid ⟨oa, oc, rfl, own_lst hown hn hb, hb2⟩
    clear hm hn hown hb2
    go_wp2
    go_ret
    exact HP.out
  | false =>
    rw [if_neg (by decide)]
    have HC := Lib.hid (not_any (W.alloc (.cells #[.int .i64 10, .int .i64 10] 49)) _ _ (rrow_one W 10 10 (by decide) (by decide) 49))
    go_enter Tryz.func96, Tryz.ntmps96
    go_wp2_with fail
    refine H9.out.mono ?_
    rintro e w' ⟨rfl, rfl⟩
    go_wp2_with fail
    refine HC.out.mono ?_
    rintro e w2 ⟨vo, out, rfl, hm, hown, hb2⟩
    have hn := hm.norm
    obtain rfl := noLine_of hm
    obtain ⟨oa, oc, rfl⟩ := own_slice hown
    have hb3 := ((Below.refl w'.heap.size w').alloc (Nat.le_refl _) (.cells #[.int .i64 10, .int .i64 10] 49))
    have HP : Hid (LstQ lo B P0 base [(0, 9), (11, 1114111)] w' (.returned (.slice oa [((0 : Int), (9 : Int)), (11, 1114111)].length oc)) w2) := Lib.hid ⟨oa, oc, rfl, own_lst hown hn (Nat.le_trans hb hb3.size), hb3.trans (hb2.mono hb3.size)⟩
    clear hm hn hown hb2 hb3
    go_wp2
    go_ret
    exact HP.out
end Go.Proofs.YtanffablfgnioaaGreatDoor
namespace Go.Proofs.YtanffablfgnioaaGreatDoor
open Go.RowKit
open Lx (Tk)
open Ps (TL)
set_option linter.unusedVariables false
theorem NdP.to {lo B P0 base : Nat} {W W' : World} {x : Nd} {cs : List Value} (h : NdP lo B P0 base W x cs) (hs : W.heap.size ≤ W'.heap.size) (hk : ∀ b, Sb lo B P0 base b → b < W.heap.size → W'.heap[b]? = W.heap[b]?) : NdP lo B P0 base W' x cs :=
  (NdOn.kept hs (fun b hb hlt => hk b hb.1 hlt) h).mono (fun b hb => ⟨hb.1, Nat.lt_of_lt_of_le hb.2 hs⟩)
theorem PSt.other {W W' : World} {lo B P0 : Nat} {v : Value} {L : TL} {f g : Int} (h : PSt lo W B P0 v L f g) (hs : W.heap.size ≤ W'.heap.size) (hk : ∀ b, b < P0 → W'.heap[b]? = W.heap[b]?) : PSt lo W' B P0 v L f g :=
  ⟨(hk B h.hB).trans h.box, h.row.kept hs (fun b hb _ => hk b hb.1), h.ends, h.tok, h.hB, Nat.le_trans h.hP hs, h.len, h.g0, h.g1⟩
theorem set8_grown {W w : World} {o : Option Nat} (h : W.grownBy w o) (B : Nat) (hB : W.heap.size ≤ B) (v0 v1 v2 v3 v4 v5 v6 v7 : Value) : W.grownBy ((((((((w.setCell ⟨B, 0, none⟩ v0).setCell ⟨B, 1, none⟩ v1).setCell ⟨B, 2, none⟩ v2).setCell ⟨B, 3, none⟩ v3).setCell ⟨B, 4, none⟩ v4).setCell ⟨B, 5, none⟩ v5).setCell ⟨B, 6, none⟩ v6).setCell ⟨B, 7, none⟩ v7) o :=
  grown_set (grown_set (grown_set (grown_set (grown_set (grown_set (grown_set (grown_set h _ _ (.inl hB)) _ _ (.inl hB)) _ _ (.inl hB)) _ _ (.inl hB)) _ _ (.inl hB)) _ _ (.inl hB)) _ _ (.inl hB)) _ _ (.inl hB)
/-- A node around one tree, whose cells lie in a row of their own. -/
theorem nd_lit {lo B P0 base : Nat} {W WF : World} {x : Nd} {cs : List Value} (hx : NdP lo B P0 base W x cs) (hs : W.heap.size ≤ WF.heap.size) (hk : ∀ b, Sb lo B P0 base b → b < W.heap.size → WF.heap[b]? = W.heap[b]?) (g : Nat) (hg : base ≤ g) (hrow : WF.heap[g]? = some (.cells cs.toArray 26 (0, 0)))
    {k num mn mx : Int} {name : ByteArray} {lz : Bool} (hi : I64 k ∧ I64 num ∧ I64 mn ∧ I64 mx) (hname : name.size ≤ 140737488351232) (cap : Nat) :
    NdP lo B P0 base WF (.mk k [] num name mn mx lz [x]) [.int .i64 k, .slice none 0 0, .int .i64 num, .string name, .int .i64 mn, .int .i64 mx, .bool lz, .slice (some ⟨g, 0, none⟩) 1 cap] := by
  have h1 : NdsOn (fun b => Sb lo B P0 base b ∧ b < WF.heap.size) WF [x] [cs] := by simpa using (NdsOn.nil (fun b => Sb lo B P0 base b ∧ b < WF.heap.size) WF).snoc (hx.to hs hk)
  exact NdOn.row (X := [cs]) h1 (S := fun b => Sb lo B P0 base b ∧ b < WF.heap.size) (g := g) ⟨.inr hg, (Array.getElem?_eq_some_iff.1 hrow).1⟩ hrow (fun j hj => by simp) (by simp) hi RRowOn.nil hname
/-- A tree handed back, and where the parser stands. -/
def TreeQ (lo B P0 base : Nat) (x : Nd) (L : TL) (f g : Int) (W : World) (e : Ending) (w' : World) : Prop :=
  ∃ cs v', e = .returned (.agg cs.toArray) ∧ NdP lo B P0 base w' x cs ∧ PSt lo w' B P0 v' L f g ∧ W.grownBy w' (some B)
set_option maxRecDepth 100000 in
set_option maxHeartbeats 4000000 in
theorem repeated_any {W : World} {lo B P0 base : Nat} {v : Value} {L : TL} {f g : Int} (h : PSt lo W B P0 v L f g) (hb : base ≤ W.heap.size) (hP : P0 ≤ base) (x : Nd) (cs : List Value) (hx : NdP lo B P0 base W x cs) :
    Calls Tryz.prog 67 #[.pointer (some ⟨B, 0, none⟩), .agg cs.toArray] W (TreeQ lo B P0 base (Ps.repN f x L) (Ps.repT L) f g W) := by
  obtain ⟨u0, u1, u2, u3, u4, u5, u6, u7, sa, sc, a, c, hcs, F⟩ := hx.is.form_of
  subst hcs
  obtain ⟨rfl, rfl, rfl, rfl, rfl, rfl, rfl, rfl⟩ := F
  obtain ⟨w1, hw1⟩ : ∃ w1, (W.alloc (.cells #[.int .i64 (Td.kind x), .slice sa (Td.set x).length sc, .int .i64 (Td.num x), .string (Td.name x), .int .i64 (Td.mn x), .int .i64 (Td.mx x), .bool (Td.lazy x), .slice a (Td.subs x).length c] 26)).alloc (.cells #[.int .i64 0, .slice none 0 0, .int .i64 0, .string ⟨#[]⟩, .int .i64 0, .int .i64 0, .bool false, .slice none 0 0] 26) = w1 := ⟨_, rfl⟩
  have hb1 : Below W.heap.size W w1 := by rw [← hw1]; exact ((Below.refl _ _).alloc (Nat.le_refl _) _).alloc (by simp) _
  have hnew : w1.heap[W.heap.size]? = some (.cells #[.int .i64 (Td.kind x), .slice sa (Td.set x).length sc, .int .i64 (Td.num x), .string (Td.name x), .int .i64 (Td.mn x), .int .i64 (Td.mx x), .bool (Td.lazy x), .slice a (Td.subs x).length c] 26 (0, 0)) := by rw [← hw1]; exact (Below.heap_alloc _ _ _ (by simp)).trans (heap_alloc_new _ _)
  have hres : w1.heap[W.heap.size + 1]? = some (.cells #[.int .i64 0, .slice none 0 0, .int .i64 0, .string ⟨#[]⟩, .int .i64 0, .int .i64 0, .bool false, .slice none 0 0] 26 (0, 0)) := by rw [← hw1]; exact heap_alloc_new' _ _ _ (by simp)
  have HRS := Lib.hid hres
  clear hres
  have H := Lib.hid h
  have HX := Lib.hid hx
  have HB1 := Lib.hid hb1
  have HN := Lib.hid hnew
  have HW1 := Lib.hid hw1
  have HP1 := Lib.hid (h.below hb1)
  have HK := Lib.hid (kind_any (h.below hb1))
  clear h hx hb1 hnew hw1
  by_cases h8 : Ps.kd L = 8
  · obtain ⟨p, M, rfl⟩ := H.out.cons
    have hp8 : p.2.kind = 8 := h8
    have hr1 : Ps.repT (p :: M) = M := by unfold Ps.repT; rw [if_pos h8]; rfl
    have hr2 : Ps.repN f x (p :: M) = .mk 9 [] 0 ⟨#[]⟩ p.2.mn p.2.mx (p.2.lazy != Ps.hasP f 8) [x] := by unfold Ps.repN; rw [if_pos h8]; rfl
    have htok := H.out.tok p (by simp)
    have k8 : (Ps.kd (p :: M) != 8) = false := by rw [h8]; rfl
    rw [h8] at HK
    rw [hr1, hr2]
    have HNX := Lib.hid (next_any HP1.out (by omega))
    have HT := Lib.hid htok
    clear h8 hr1 hr2 htok k8 hp8
    go_enter Tryz.func67, Tryz.ntmps67
    go_wp2_with fail
    rw [HW1.out]
    refine HK.out.mono ?_
    rintro e w2 ⟨rfl, rfl⟩
    go_wp2_with fail
    refine HNX.out.mono ?_
    rintro e w3 ⟨va, vl, vc, out, v', rfl, hs1, hs2, hs3, hps, hg⟩
    have HPS := Lib.hid hps
    have HG := Lib.hid hg
    have HF := Lib.hid (fun W' (h : PSt lo W' B P0 v' M f g) => hasFlag_any h 8)
    have hne : W.heap.size ≠ B ∧ W.heap.size + 1 ≠ B := by have := H.out.hB; have := H.out.hP; omega
    have hN3 := (hg.block _ (Array.getElem?_eq_some_iff.1 HN.out).1 (fun e => hne.1 (by injection e))).trans HN.out
    have hR3 := (hg.block _ (Array.getElem?_eq_some_iff.1 HRS.out).1 (fun e => hne.2 (by injection e))).trans HRS.out
    have HN3 := Lib.hid hN3
    have HR3 := Lib.hid hR3
    clear hs1 hs2 hs3 hps hg hN3 hR3 hne
    unfold tkV
    obtain ⟨w4, hw4⟩ : ∃ w4, w3.alloc (.cells #[.int .i64 p.2.kind, .int .i64 p.1, .int .i64 p.2.num, .string p.2.name, .int .i64 p.2.mn, .int .i64 p.2.mx, .bool p.2.lazy, .slice va vl vc] 39) = w4 := ⟨_, rfl⟩
    have hb4 : Below w3.heap.size w3 w4 := by rw [← hw4]; exact (Below.refl _ _).alloc (Nat.le_refl _) _
    have htk : w4.heap[w3.heap.size]? = some (.cells #[.int .i64 p.2.kind, .int .i64 p.1, .int .i64 p.2.num, .string p.2.name, .int .i64 p.2.mn, .int .i64 p.2.mx, .bool p.2.lazy, .slice va vl vc] 39 (0, 0)) := by rw [← hw4]; exact heap_alloc_new _ _
    have HPS4 := Lib.hid (HPS.out.below hb4)
    have HQ := Lib.hid (fun n => hasFlag_any (HPS4.out.other (W' := w4.drewN n) (Nat.le_refl _) (fun b hb => rfl)) 8)
    have HB4 := Lib.hid hb4
    have HN4 := Lib.hid ((hb4.block _ (Array.getElem?_eq_some_iff.1 HN3.out).1).trans HN3.out)
    have HR4 := Lib.hid ((hb4.block _ (Array.getElem?_eq_some_iff.1 HR3.out).1).trans HR3.out)
    have HTK := Lib.hid htk
    obtain ⟨t0, ht0⟩ : ∃ t0, w3.heap.size = t0 := ⟨_, rfl⟩
    have HT0 := Lib.hid ht0
    have t6 : w4.cell? ⟨t0, 6, none⟩ = some (.bool p.2.lazy) := by rw [← ht0]; simp [World.cell?, htk]
    have t4 : w4.cell? ⟨t0, 4, none⟩ = some (.int .i64 p.2.mn) := by rw [← ht0]; simp [World.cell?, htk]
    have t5 : w4.cell? ⟨t0, 5, none⟩ = some (.int .i64 p.2.mx) := by rw [← ht0]; simp [World.cell?, htk]
    have HW4 := Lib.hid hw4
    clear hb4 htk hw4 ht0
    go_wp2_with fail
    rw [HW4.out, HT0.out]
    obtain ⟨q, hq⟩ : ∃ q, Ps.hasP f 8 = q := ⟨_, rfl⟩
    have HQQ := Lib.hid hq
    rw [hq] at HQ
    clear hq
    go_quiet ((go_at_call 93; exact Calls.quiet_of_same (HQ.out _)))
    obtain ⟨w5, hw5⟩ : ∃ w5, w4.drewN nq = w5 := ⟨_, rfl⟩
    have h5 : w5.heap = w4.heap := by rw [← hw5]; rfl
    have HN5 := Lib.hid ((congrArg (·[W.heap.size]?) h5).trans HN4.out)
    have HR5 := Lib.hid ((congrArg (·[W.heap.size + 1]?) h5).trans HR4.out)
    obtain ⟨n0, n1, n2, n3, n4, n5, n6, n7, _⟩ := box_facts HN5.out
    have hrl5 := (Array.getElem?_eq_some_iff.1 HR5.out).1
    have hD := fun o : Obj => box_facts ((Below.heap_alloc w5 o _ hrl5).trans HR5.out)
    have d0 := fun o => (hD o).1
    have d1 := fun o => (hD o).2.1
    have d2 := fun o => (hD o).2.2.1
    have d3 := fun o => (hD o).2.2.2.1
    have d4 := fun o => (hD o).2.2.2.2.1
    have d5 := fun o => (hD o).2.2.2.2.2.1
    have d6 := fun o => (hD o).2.2.2.2.2.2.1
    have d7 := fun o => (hD o).2.2.2.2.2.2.2.1
    have g0 := fun o => (hD o).2.2.2.2.2.2.2.2.1
    have g1 := fun o => (hD o).2.2.2.2.2.2.2.2.2.1
    have g2 := fun o => (hD o).2.2.2.2.2.2.2.2.2.2.1
    have g3 := fun o => (hD o).2.2.2.2.2.2.2.2.2.2.2.1
    have g4 := fun o => (hD o).2.2.2.2.2.2.2.2.2.2.2.2.1
    have g5 := fun o => (hD o).2.2.2.2.2.2.2.2.2.2.2.2.2.1
    have g6 := fun o => (hD o).2.2.2.2.2.2.2.2.2.2.2.2.2.2.1
    have g7 := fun o => (hD o).2.2.2.2.2.2.2.2.2.2.2.2.2.2.2
    have u4 : w5.cell? ⟨t0, 4, none⟩ = some (.int .i64 p.2.mn) := by rw [← hw5]; exact t4
    have u5 : w5.cell? ⟨t0, 5, none⟩ = some (.int .i64 p.2.mx) := by rw [← hw5]; exact t5
    rw [hw5]
    have HPS5 := Lib.hid (HPS4.out.other (W' := w5) (by rw [h5]; exact Nat.le_refl _) (fun b hb => by rw [h5]))
    have HG5 : Hid (W.grownBy w5 (some B)) := Lib.hid (grown_trans (below_grown (n := 0) HB1.out _) (grown_trans HG.out (grown_trans (below_grown (n := 0) HB4.out _) (by rw [← hw5]; exact ⟨rfl, rfl, rfl, Nat.le_refl _, fun _ _ _ => rfl⟩))))
    clear hw5 h5 t4 t5 t6 hD hrl5
    go_wp2
    (try simp only [Exit.inBlock, Exit.then])
    obtain ⟨X, hX⟩ : ∃ X : Obj, X = .cells #[.int .i64 (Td.kind x), .slice sa (Td.set x).length sc, .int .i64 (Td.num x), .string (Td.name x), .int .i64 (Td.mn x), .int .i64 (Td.mx x), .bool (Td.lazy x), .slice a (Td.subs x).length c] 26 := ⟨_, rfl⟩
    rw [← hX]
    have hP0 := H.out.hP
    have hB0 := H.out.hB
    have hs5 := HG5.out.size
    have hr5 := (Array.getElem?_eq_some_iff.1 HR5.out).1
    have hrb : (w5.alloc X).heap[W.heap.size + 1]? = some (.cells #[.int .i64 0, .slice none 0 0, .int .i64 0, .string ⟨#[]⟩, .int .i64 0, .int .i64 0, .bool false, .slice none 0 0] 26 (0, 0)) := (Below.heap_alloc w5 X _ hr5).trans HR5.out
    refine ret_nd1 rfl (W.heap.size + 1) _ rfl (set8_blk _ _ _ _ _ _ _ _ _ _ hrb) rfl rfl ?_
    have hga := grown_alloc HG5.out X
    have hgf := set8_grown hga (W.heap.size + 1) (by omega) (.int .i64 9) (.slice none 0 0) (.int .i64 0) (.string ⟨#[]⟩) (.int .i64 p.2.mn) (.int .i64 p.2.mx) (.bool !p.2.lazy == q) (.slice (some ⟨w5.heap.size, 0, none⟩) 1 1)
    refine ⟨_, v', rfl, ?_, ?_, hgf⟩
    · rw [show (p.2.lazy != Ps.hasP f 8) = (!p.2.lazy == q) from by rw [HQQ.out]; rfl]
      refine nd_lit HX.out hgf.size (fun b hb hlt => hgf.block b hlt (fun e => (hb.ne hB0 hP) (by injection e))) w5.heap.size (by omega) ?_ ⟨i64_lit _ (by decide), i64_lit _ (by decide), HT.out.2.2.1, HT.out.2.2.2.1⟩ (by decide) 1
      refine (set8_other _ _ _ _ _ _ _ _ _ _ _ (by omega)).trans ?_
      rw [hX]; exact heap_alloc_new w5 _
    · refine HPS5.out.other (by rw [set8_size]; simp) (fun b hb => (set8_other _ _ _ _ _ _ _ _ _ _ b (by omega)).trans (Below.heap_alloc w5 X b (by omega)))
  · have hr1 : Ps.repT L = L := by unfold Ps.repT; rw [if_neg h8]
    have hr2 : Ps.repN f x L = x := by unfold Ps.repN; rw [if_neg h8]
    have k8 : (Ps.kd L != 8) = true := by simpa using h8
    rw [hr1, hr2]
    obtain ⟨K, hK⟩ : ∃ K, Ps.kd L = K := ⟨_, rfl⟩
    rw [hK] at HK k8
    clear h8 hr1 hr2 hK
    go_enter Tryz.func67, Tryz.ntmps67
    go_wp2_with fail
    rw [HW1.out]
    refine HK.out.mono ?_
    rintro e w2 ⟨rfl, rfl⟩
    obtain ⟨n0, n1, n2, n3, n4, n5, n6, n7, _⟩ := box_facts HN.out
    obtain ⟨d0, d1, d2, d3, d4, d5, d6, d7, g0, g1, g2, g3, g4, g5, g6, g7⟩ := box_facts HRS.out
    go_wp2
    (try simp only [Exit.inBlock, Exit.then])
    refine ret_nd1 rfl (W.heap.size + 1) _ rfl (set8_blk _ _ _ _ _ _ _ _ _ _ HRS.out) rfl rfl ?_
    have hP0 := H.out.hP
    refine ⟨_, v, rfl, NdP.to HX.out (by rw [set8_size]; exact HB1.out.size) (fun b hb hlt => (set8_other _ _ _ _ _ _ _ _ _ _ b (by omega)).trans (HB1.out.block b hlt)), PSt.other HP1.out (by rw [set8_size]; exact Nat.le_refl _) (fun b hb => set8_other _ _ _ _ _ _ _ _ _ _ b (by omega)), set8_grown (below_grown (n := 0) HB1.out _) _ (by omega) _ _ _ _ _ _ _ _⟩
end Go.Proofs.YtanffablfgnioaaGreatDoor
