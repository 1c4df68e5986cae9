/- What the rounds of a range over tree.Walk keep: all that lay below, and every block from n1 on. · The book's tree (burinbook): Weigh, Great. -/
import Derived.Test.YtcomjkoaieeidaaGp8
import Derived.Test.YtcomjkoaieeidaaGp6
import Derived.IntWalk
namespace Go.Proofs.Ytcomjkoaieeidaa
open Go.RowKit
set_option linter.unusedVariables false
structure KpA (n0 n1 : Nat) (X Y : World) : Prop where
  below : Below n0 X Y
  own : ∀ (k : Nat) (o : Obj), n1 ≤ k → X.heap[k]? = some o → Y.heap[k]? = some o
theorem KpA.n {n0 n1 m : Nat} {X Y : World} (h : KpA n0 n1 X Y) (hm : n1 ≤ m) : KpN n0 m X Y := ⟨h.below, fun k cs fr hk hx => h.own k _ (by omega) hx⟩
theorem kpA_t {n0 n1 : Nat} {X Y Z : World} (h : KpA n0 n1 X Y) (k : KpA n0 n1 Y Z) : KpA n0 n1 X Z := ⟨h.below.trans k.below, fun i o hi hx => k.own i o hi (h.own i o hi hx)⟩
theorem KpA.refl (n0 n1 : Nat) (X : World) : KpA n0 n1 X X := ⟨Below.refl _ _, fun _ _ _ h => h⟩
theorem kpA_b {n0 n1 : Nat} {w : World} (hn : n0 ≤ w.heap.size) (h1 : w.heap.size + 2 ≤ n1) (W : World) (l : Nat) (o o' : Obj) (hl : l = w.heap.size + 1) (h : W.heap[l]? = some o) (hc : o.isCells = false) (hw : o.isWalk = false) : KpA n0 n1 W (W.putObj l o') :=
  ⟨belowK_b hn W l o o' (by omega) h hc hw, fun k o2 hk1 hk => by
    rw [(grownBy_putObj' W l o').block k (Array.getElem?_eq_some_iff.1 hk).1 (fun e => by cases e; omega)]; exact hk⟩
theorem KpA.of_below {n0 n1 : Nat} {X Y : World} (h : Below X.heap.size X Y) (hn : n0 ≤ X.heap.size) : KpA n0 n1 X Y := ⟨h.mono hn, fun k o _ hk => (h.block k (Array.getElem?_eq_some_iff.1 hk).1).trans hk⟩
theorem KpA.set {n0 n1 : Nat} (X : World) (p : Addr) (v : Value) (h0 : n0 ≤ p.block) (h1 : p.block < n1) : KpA n0 n1 X (X.setCell p v) :=
  ⟨(Below.refl n0 X).setCell h0 v, fun k o hk hx => (Below.heap_setCell _ _ _ _ (by omega)).trans hx⟩
/-- What a round keeps that ends the loop: every block from n1 on. -/
structure KfA (n1 : Nat) (X Y : World) : Prop where
  size : X.heap.size ≤ Y.heap.size
  own : ∀ (k : Nat) (o : Obj), n1 ≤ k → X.heap[k]? = some o → Y.heap[k]? = some o
theorem KpA.f {n0 n1 : Nat} {X Y : World} (h : KpA n0 n1 X Y) : KfA n1 X Y := ⟨h.below.size, h.own⟩
theorem KfA.of_below {n1 : Nat} {X Y : World} (h : Below X.heap.size X Y) : KfA n1 X Y := ⟨h.size, fun k o _ hk => (h.block k (Array.getElem?_eq_some_iff.1 hk).1).trans hk⟩
theorem KfA.set {n1 : Nat} {A X : World} (h : KfA n1 A X) (p : Addr) (v : Value) (h1 : p.block < n1) : KfA n1 A (X.setCell p v) :=
  ⟨by have := h.size; simpa using this, fun k o hk hx => (Below.heap_setCell _ _ _ _ (by omega)).trans (h.own k o hk hx)⟩
theorem kfA_b {n1 : Nat} {w : World} (h1 : w.heap.size + 2 ≤ n1) (A W : World) (l : Nat) (o o' : Obj) (hl : l = w.heap.size + 1) (hA : KfA n1 A W) (h : W.heap[l]? = some o) (hc : o.isCells = false) (hw : o.isWalk = false) : KfA n1 A (W.putObj l o') :=
  ⟨by have := hA.size; simpa using this, fun k o2 hk1 hk => by
    have := hA.own k o2 hk1 hk
    rw [(grownBy_putObj' W l o').block k (Array.getElem?_eq_some_iff.1 this).1 (fun e => by cases e; omega)]; exact this⟩
end Go.Proofs.Ytcomjkoaieeidaa
namespace Go.Proofs.Ytcomjkoaieeidaa
open Go.RowKit
set_option linter.unusedVariables false
namespace Td
/-- What a tree weighs, down to a depth. -/
def wgt : Nat → Nd → Nat
  | 0, _ => 0
  | k + 1, n => 1 + (set n).length + ((subs n).map (wgt k)).sum
/-- Is a tree no deeper than that, and nothing in it too long? -/
def fit : Nat → Nd → Prop
  | 0, _ => False
  | k + 1, n => (set n).length ≤ 200 ∧ (name n).size ≤ 100 ∧ (subs n).length ≤ 200 ∧ ∀ m ∈ subs n, fit k m
theorem sum_take_succ (l : List Nat) (k : Nat) (hk : k < l.length) : (l.take (k + 1)).sum = (l.take k).sum + l[k] := by
  rw [List.take_succ_eq_append_getElem hk, List.sum_append]; simp
end Td
def WghOk (k : Nat) : Prop := ∀ (W : World) (n : Nd) (cs : List Value) (left : Int), -1000000 ≤ left → left ≤ 1000000 → NdIs W n cs →
  Calls Try.prog 10 #[.agg cs.toArray, .int .i64 left, .int .i64 (k : Int)] W fun e w' => ∃ r : Int, e = .returned (.int .i64 r) ∧ -1 ≤ r ∧ (0 ≤ r → r = left - Td.wgt k n ∧ Td.fit k n) ∧ Below W.heap.size W w'
set_option maxRecDepth 100000 in
set_option maxHeartbeats 4000000 in
theorem wgh_step (k M : Nat) (hM : M = k + 1) (hk : k ≤ 100000) (ih : WghOk k) : WghOk M := by
  intro W n cs left hl0 hl1 h
  have hM1 : (M : Int) - 1 = (k : Int) := by omega
  have hM0 : ¬ ((M : Int) = 0) := by omega
  have HM0 := Lib.hid hM
  obtain ⟨vs, a, cap, C, hC⟩ := h.cells
  obtain ⟨sa, scap, hvs, hsl, _, _⟩ := hC.set
  obtain ⟨N, hN⟩ : ∃ N, (Td.subs n).length = N := ⟨_, rfl⟩
  obtain ⟨L, hL⟩ : ∃ L, (Td.set n).length = L := ⟨_, rfl⟩
  have hcs := hC.eq
  have hlen := hC.len
  have hnm := hC.name
  rw [hN] at hcs hlen
  rw [hL] at hvs hsl
  subst hvs
  subst hcs
  have HC := Lib.hid hC
  have HNN := Lib.hid hN
  have HLL := Lib.hid hL
  have IH := Lib.hid ih
  clear h hC hN hL ih hM
  obtain ⟨W1, hW1⟩ : ∃ W1, W.alloc (.cells #[.int .i64 (Td.kind n), .slice sa L scap, .int .i64 (Td.num n), .string (Td.name n), .int .i64 (Td.mn n), .int .i64 (Td.mx n), .bool (Td.lazy n), .slice a N cap] 25) = W1 := ⟨_, rfl⟩
  have B1 := Lib.hid (hW1 ▸ (Below.refl W.heap.size W).alloc (Nat.le_refl _) (.cells #[.int .i64 (Td.kind n), .slice sa L scap, .int .i64 (Td.num n), .string (Td.name n), .int .i64 (Td.mn n), .int .i64 (Td.mx n), .bool (Td.lazy n), .slice a N cap] 25) : Below W.heap.size W W1)
  have hbx : W1.cell? ⟨W.heap.size, 7, none⟩ = some (.slice a N cap) := by rw [← hW1]; simp
  have hsz1 : W1.heap.size = W.heap.size + 1 := by rw [← hW1]; simp
  have HBX := Lib.hid hbx
  have HSZ := Lib.hid hsz1
  have HW1 := Lib.hid hW1
  clear hbx hsz1 hW1
  by_cases b1 : left - 1 < 0
  · go_enter Try.func10, Try.ntmps10
    go_wp2
    rw [HW1.out]
    go_ret
    exact ⟨-1, rfl, by omega, fun h => absurd h (by omega), B1.out⟩
  by_cases b2 : (200 : Int) < L
  · go_enter Try.func10, Try.ntmps10
    go_wp2
    rw [HW1.out]
    go_ret
    exact ⟨-1, rfl, by omega, fun h => absurd h (by omega), B1.out⟩
  by_cases b3 : (100 : Int) < (Td.name n).size
  · go_enter Try.func10, Try.ntmps10
    go_wp2
    rw [HW1.out]
    go_ret
    exact ⟨-1, rfl, by omega, fun h => absurd h (by omega), B1.out⟩
  by_cases b4 : (200 : Int) < N
  · go_enter Try.func10, Try.ntmps10
    go_wp2
    rw [HW1.out]
    go_ret
    exact ⟨-1, rfl, by omega, fun h => absurd h (by omega), B1.out⟩
  go_enter Try.func10, Try.ntmps10
  go_wp2
  go_loopw [1, 7] (fun vv iv wr => ∃ (i : Nat) (v : Int), i ≤ N ∧ vv = .int .i64 v ∧ iv = .int .i64 (i : Int) ∧ -200 ≤ v ∧ v ≤ 1000000 ∧ Hid (0 ≤ v → v = left - 1 - (L : Int) - ((((Td.subs n).map (Td.wgt k)).take i).sum : Nat) ∧ ∀ j (hj : j < (Td.subs n).length), j < i → Td.fit k (Td.subs n)[j]) ∧ Hid (Below W1.heap.size W1 wr)) (fun _ iv _ => N - (intOf iv).toNat)
  case atStart => exact ⟨0, left - 1 - L, Nat.zero_le _, by go_num, rfl, by omega, by omega, Lib.hid (fun _ => ⟨by simp, fun j hj h => absurd h (by omega)⟩), Lib.hid (by rw [← HW1.out]; exact Below.refl _ _)⟩
  case round =>
    obtain ⟨i, v, hi, rfl, rfl, hv0, hv1, HD2, HB⟩ := hrel
    have hbx : wr.cell? ⟨W.heap.size, 7, none⟩ = some (.slice a N cap) := (HB.out.cell (p := ⟨W.heap.size, 7, none⟩) (by rw [HSZ.out]; simp)).trans HBX.out
    have hbs : W.heap.size < wr.heap.size := by have := HB.out.size; rw [HSZ.out] at this; omega
    by_cases hlt : i < N
    · by_cases hv : 0 ≤ v
      · obtain ⟨b, off, m, u0, u1, u2, u3, u4, u5, u6, u7, rfl, hb, hm, hnd, q0, q1, q2, q3, q4, q5, q6, q7⟩ := HC.out.sub i (by rw [HNN.out]; exact hlt)
        have hbw : Below W.heap.size W wr := B1.out.trans (HB.out.mono B1.out.size)
        have kc : ∀ o v, W.cell? ⟨b, o, none⟩ = some v → wr.cell? ⟨b, o, none⟩ = some v := fun o v h => (hbw.cell (p := ⟨b, o, none⟩) hb).trans h
        replace q0 := kc _ _ q0; replace q1 := kc _ _ q1; replace q2 := kc _ _ q2; replace q3 := kc _ _ q3
        replace q4 := kc _ _ q4; replace q5 := kc _ _ q5; replace q6 := kc _ _ q6; replace q7 := kc _ _ q7
        have hbl : b < wr.heap.size := Nat.lt_of_lt_of_le hb hbw.size
        have HND := Lib.hid (hnd.kept hbw)
        have HM := Lib.hid hm
        clear kc hm hnd hbw
        go_wp2_with fail
        refine (IH.out _ _ _ _ (by omega) (by omega) HND.out).mono ?_
        rintro e w5 ⟨r, rfl, hr0, hr1, hb5⟩
        have HB5 := Lib.hid (HB.out.trans (hb5.mono HB.out.size))
        have hr2 : r ≤ 1000000 := by
          by_cases h0 : 0 ≤ r
          · have := (hr1 h0).1; omega
          · omega
        have HD3 : Hid (0 ≤ r → r = left - 1 - (L : Int) - ((((Td.subs n).map (Td.wgt k)).take (i + 1)).sum : Nat) ∧ ∀ j (hj : j < (Td.subs n).length), j < i + 1 → Td.fit k (Td.subs n)[j]) := Lib.hid (fun h0 => by
          obtain ⟨h1, h2⟩ := hr1 h0
          obtain ⟨h3, h4⟩ := HD2.out hv
          have hi0 : i < (Td.subs n).length := by rw [HNN.out]; exact hlt
          have hi' : i < ((Td.subs n).map (Td.wgt k)).length := by rw [List.length_map]; exact hi0
          have e0 : (Td.subs n)[i] = m := by
            have h5 := HM.out
            rw [List.getElem?_eq_getElem hi0] at h5
            exact Option.some.inj h5
          refine ⟨?_, fun j hj hji => ?_⟩
          · rw [Td.sum_take_succ _ _ hi', List.getElem_map, e0]
            omega
          · by_cases hjj : j < i
            · exact h4 j hj hjj
            · obtain rfl : j = i := by omega
              rw [e0]; exact h2)
        clear hb5 hr1 HD2
        go_wp2
        go_roundw
        case rel => exact ⟨i + 1, r, by omega, rfl, by go_num, by omega, hr2, HD3, HB5⟩
        case measure => simp [intOf]; omega
      · go_wp2
        all_goals go_ret
        all_goals exact ⟨_, rfl, by omega, fun h => absurd h (by omega), B1.out.trans (HB.out.mono B1.out.size)⟩
    · obtain rfl : i = N := by omega
      have hE : Hid (0 ≤ v → v = left - (Td.wgt M n : Nat) ∧ Td.fit M n) := Lib.hid (fun h0 => by
        obtain ⟨h1, h2⟩ := HD2.out h0
        rw [HM0.out]
        refine ⟨?_, ?_⟩
        · rw [Td.wgt, HLL.out, h1, List.take_of_length_le (by rw [List.length_map, HNN.out]; exact Nat.le_refl _)]
          omega
        · rw [Td.fit, HLL.out, HNN.out]
          refine ⟨by omega, by omega, by omega, fun m hm => ?_⟩
          obtain ⟨j, hj, rfl⟩ := List.getElem_of_mem hm
          exact h2 j hj (by rw [← HNN.out]; exact hj))
      have HB6 := Lib.hid (B1.out.trans (HB.out.mono B1.out.size))
      clear HD2
      by_cases hv : 0 ≤ v
      · go_wp2
        go_ret
        exact ⟨v, rfl, by omega, hE.out, HB6.out⟩
      · go_wp2
        all_goals go_ret
        all_goals exact ⟨_, rfl, by omega, fun h => absurd h (by omega), HB6.out⟩
theorem refWeigh_any : ∀ k : Nat, k ≤ 100000 → WghOk k
  | 0, _ => by
    intro W n cs left hl0 hl1 h
    obtain ⟨vs, a, cap, C, hC⟩ := h.cells
    have hcs := hC.eq
    subst hcs
    clear hC h
    go_enter Try.func10, Try.ntmps10
    go_wp2
    go_ret
    exact ⟨-1, rfl, by omega, fun h => absurd h (by omega), (Below.refl _ _).alloc (Nat.le_refl _) _⟩
  | k + 1, h => wgh_step k _ rfl (by omega) (refWeigh_any k (by omega))
/-- Great, told no: the tree is small. -/
theorem refGreat_any (W : World) (n : Nd) (cs : List Value) (most : Int) (h0 : -1000000 ≤ most) (h1 : most ≤ 1000000) (h : NdIs W n cs) :
    Calls Try.prog 4 #[.agg cs.toArray, .int .i64 most] W fun e w' => ∃ b : Bool, e = .returned (.bool b) ∧ (b = false → (Td.wgt 40 n : Int) ≤ most ∧ Td.fit 40 n) ∧ Below W.heap.size W w' := by
  have H1 := Lib.hid (h.kept ((Below.refl W.heap.size W).alloc (Nat.le_refl _) (.cells cs.toArray 25)))
  have HB := Lib.hid ((Below.refl W.heap.size W).alloc (Nat.le_refl _) (.cells cs.toArray 25))
  obtain ⟨vs, a, cap, C, hC⟩ := h.cells
  have hcs := hC.eq
  subst hcs
  clear hC h
  go_enter Try.func4, Try.ntmps4
  go_wp2_with fail
  refine (refWeigh_any 40 (by omega) _ _ _ _ h0 h1 H1.out).mono ?_
  rintro e w5 ⟨r, rfl, hr0, hr1, hb5⟩
  have HB5 := Lib.hid (HB.out.trans (hb5.mono HB.out.size))
  by_cases hr : r < 0
  · go_wp2
    go_ret
    exact ⟨_, rfl, fun h => by simp [hr] at h, HB5.out⟩
  · go_wp2
    go_ret
    exact ⟨_, rfl, fun _ => ⟨by have := (hr1 (by omega)).1; omega, (hr1 (by omega)).2⟩, HB5.out⟩
end Go.Proofs.Ytcomjkoaieeidaa
