/- Mathematics of show: a tree's pattern, parsed as Parse does. · The book's tree (burinbook): Weigh, Great. · A tree that is small has few nodes: from Great's 'no' to the bounds of All. · burinlaw10.ShowBack, walked. · What the rows' listed variables give the walks: a start that meets the list. · What the rows' listed variables, and the world's shape, give the walks. · What the rows' listed variables give the walks of show, in a seat of the laws that parse, too. -/
import Derived.Test.YtecmeeobabadeaaGreatDoorGp42
import Derived.Test.YtecmeeobabadeaaGreatDoorGp39
import Derived.Test.YtecmeeobabadeaaGreatDoorGp2
import Derived.IntWalk
import Derived.Test.YtecmeeobabadeaaGreatDoorGp11
import Derived.Test.YtecmeeobabadeaaGreatDoorGp18
import Derived.Test.YtecmeeobabadeaaGreatDoorGp14
import Derived.Test.YtecmeeobabadeaaGreatDoorGp21
import Derived.LaidMore
import Derived.Stop.Joined
import Derived.Stop.LaidErr
import Derived.Lib.LaidTab
import Derived.ProofKit
import Derived.Lay
import Derived.HandedShaped
import Derived.Handed
import Derived.Test.YtecmeeobabadeaaGreatDoorGp8
import Derived.Lib.TrailingZeros
namespace Go.Proofs.YtecmeeobabadeaaGreatDoor.Sh
open Lx (Tk TR LR)
open Ps (TL PR kd altP)
set_option linter.unusedVariables false
/-- A tree that Check takes is what is read from its pattern. -/
theorem parse_show {n : Nd} (h : Td.checkN n = 0) : parseF (txtB (shL 1000 n)) 0 = (some n, 0, 0) := by
  have hsA := shpA_check h
  have hlx := lex_show hsA
  obtain ⟨N0, hA⟩ := (pr_pc 1000 n hsA).alt 0 [endT (txtB (shL 1000 n)).size] 0 0 ⟨by decide, by decide, by decide⟩ (nm_check h) (.inr rfl)
  have hris := (Lx.lex_rises hlx).1
  have hkinds := Lx.Ris.kinds hris
  obtain ⟨T, hT⟩ : ∃ T, plc 0 (pcL 1000 n) = T := ⟨_, rfl⟩
  rw [hT] at hlx hA hkinds
  have hE : Ps.Ends (T ++ [endT (txtB (shL 1000 n)).size]) := Ps.ends_of _ hkinds
  have hL : (T ++ [endT (txtB (shL 1000 n)).size]).length = T.length + 1 := by simp
  have hbad := (Ps.bad_all (3 * (T.length + 1) + 3)).1 (T ++ [endT (txtB (shL 1000 n)).size]) 0 0 [] hE (by rw [hL]; exact Nat.le_refl _)
  have hnz : ∀ d, altP (3 * (T.length + 1) + 3 + d) (T ++ [endT (txtB (shL 1000 n)).size]) 0 0 [] = altP (3 * (T.length + 1) + 3) (T ++ [endT (txtB (shL 1000 n)).size]) 0 0 [] := by
    intro d
    induction d with
    | zero => rfl
    | succ d ih =>
      rw [← ih]
      refine (Ps.fuel_all (3 * (T.length + 1) + 3 + d)).1 _ _ _ _ ?_
      rw [ih]
      cases e : altP (3 * (T.length + 1) + 3) (T ++ [endT (txtB (shL 1000 n)).size]) 0 0 [] with
      | bad a c =>
        rw [e] at hbad
        show c ≠ 0
        have := hbad.1
        omega
      | ok x L f g => trivial
  have h2 := hnz N0
  rw [hA _ (by omega)] at h2
  unfold parseF
  rw [hlx]
  dsimp only
  rw [← h2]
  unfold patF
  dsimp only
  rw [if_neg (by show ¬ (0 : Int) = 11; decide), if_pos h]
end Go.Proofs.YtecmeeobabadeaaGreatDoor.Sh
namespace Go.Proofs.YtecmeeobabadeaaGreatDoor
open Go.RowKit
set_option linter.unusedVariables false
namespace Td
/-- What a tree weighs, down to a depth. -/
def wgt : Nat → Nd → Nat
  | 0, _ => 0
  | k + 1, n => 1 + (set n).length + ((subs n).map (wgt k)).sum
/-- Is a tree no deeper than that, and nothing in it too long? -/
def fit : Nat → Nd → Prop
  | 0, _ => False
  | k + 1, n => (set n).length ≤ 200 ∧ (name n).size ≤ 100 ∧ (subs n).length ≤ 200 ∧ ∀ m ∈ subs n, fit k m
theorem sum_take_succ (l : List Nat) (k : Nat) (hk : k < l.length) : (l.take (k + 1)).sum = (l.take k).sum + l[k] := by
  rw [List.take_succ_eq_append_getElem hk, List.sum_append]; simp
end Td
def WghOk (k : Nat) : Prop := ∀ (W : World) (n : Nd) (cs : List Value) (left : Int), -1000000 ≤ left → left ≤ 1000000 → NdIs W n cs →
  Calls Tryz.prog 24 #[.agg cs.toArray, .int .i64 left, .int .i64 (k : Int)] W fun e w' => ∃ r : Int, e = .returned (.int .i64 r) ∧ -1 ≤ r ∧ (0 ≤ r → r = left - Td.wgt k n ∧ Td.fit k n) ∧ Below W.heap.size W w'
set_option maxRecDepth 100000 in
set_option maxHeartbeats 4000000 in
theorem wgh_step (k M : Nat) (hM : M = k + 1) (hk : k ≤ 100000) (ih : WghOk k) : WghOk M := by
  intro W n cs left hl0 hl1 h
  have hM1 : (M : Int) - 1 = (k : Int) := by omega
  have hM0 : ¬ ((M : Int) = 0) := by omega
  have HM0 := Lib.hid hM
  obtain ⟨vs, a, cap, C, hC⟩ := h.cells
  obtain ⟨sa, scap, hvs, hsl, _, _⟩ := hC.set
  obtain ⟨N, hN⟩ : ∃ N, (Td.subs n).length = N := ⟨_, rfl⟩
  obtain ⟨L, hL⟩ : ∃ L, (Td.set n).length = L := ⟨_, rfl⟩
  have hcs := hC.eq
  have hlen := hC.len
  have hnm := hC.name
  rw [hN] at hcs hlen
  rw [hL] at hvs hsl
  subst hvs
  subst hcs
  have HC := Lib.hid hC
  have HNN := Lib.hid hN
  have HLL := Lib.hid hL
  have IH := Lib.hid ih
  clear h hC hN hL ih hM
  obtain ⟨W1, hW1⟩ : ∃ W1, W.alloc (.cells #[.int .i64 (Td.kind n), .slice sa L scap, .int .i64 (Td.num n), .string (Td.name n), .int .i64 (Td.mn n), .int .i64 (Td.mx n), .bool (Td.lazy n), .slice a N cap] 26) = W1 := ⟨_, rfl⟩
  have B1 := Lib.hid (hW1 ▸ (Below.refl W.heap.size W).alloc (Nat.le_refl _) (.cells #[.int .i64 (Td.kind n), .slice sa L scap, .int .i64 (Td.num n), .string (Td.name n), .int .i64 (Td.mn n), .int .i64 (Td.mx n), .bool (Td.lazy n), .slice a N cap] 26) : Below W.heap.size W W1)
  have hbx : W1.cell? ⟨W.heap.size, 7, none⟩ = some (.slice a N cap) := by rw [← hW1]; simp
  have hsz1 : W1.heap.size = W.heap.size + 1 := by rw [← hW1]; simp
  have HBX := Lib.hid hbx
  have HSZ := Lib.hid hsz1
  have HW1 := Lib.hid hW1
  clear hbx hsz1 hW1
  by_cases b1 : left - 1 < 0
  · go_enter Tryz.func24, Tryz.ntmps24
    go_wp2
    rw [HW1.out]
    go_ret
    exact ⟨-1, rfl, by omega, fun h => absurd h (by omega), B1.out⟩
  by_cases b2 : (200 : Int) < L
  · go_enter Tryz.func24, Tryz.ntmps24
    go_wp2
    rw [HW1.out]
    go_ret
    exact ⟨-1, rfl, by omega, fun h => absurd h (by omega), B1.out⟩
  by_cases b3 : (100 : Int) < (Td.name n).size
  · go_enter Tryz.func24, Tryz.ntmps24
    go_wp2
    rw [HW1.out]
    go_ret
    exact ⟨-1, rfl, by omega, fun h => absurd h (by omega), B1.out⟩
  by_cases b4 : (200 : Int) < N
  · go_enter Tryz.func24, Tryz.ntmps24
    go_wp2
    rw [HW1.out]
    go_ret
    exact ⟨-1, rfl, by omega, fun h => absurd h (by omega), B1.out⟩
  go_enter Tryz.func24, Tryz.ntmps24
  go_wp2
  go_loopw [1, 7] (fun vv iv wr => ∃ (i : Nat) (v : Int), i ≤ N ∧ vv = .int .i64 v ∧ iv = .int .i64 (i : Int) ∧ -200 ≤ v ∧ v ≤ 1000000 ∧ Hid (0 ≤ v → v = left - 1 - (L : Int) - ((((Td.subs n).map (Td.wgt k)).take i).sum : Nat) ∧ ∀ j (hj : j < (Td.subs n).length), j < i → Td.fit k (Td.subs n)[j]) ∧ Hid (Below W1.heap.size W1 wr)) (fun _ iv _ => N - (intOf iv).toNat)
  case atStart => exact ⟨0, left - 1 - L, Nat.zero_le _, by go_num, rfl, by omega, by omega, Lib.hid (fun _ => ⟨by simp, fun j hj h => absurd h (by omega)⟩), Lib.hid (by rw [← HW1.out]; exact Below.refl _ _)⟩
  case round =>
    obtain ⟨i, v, hi, rfl, rfl, hv0, hv1, HD2, HB⟩ := hrel
    have hbx : wr.cell? ⟨W.heap.size, 7, none⟩ = some (.slice a N cap) := (HB.out.cell (p := ⟨W.heap.size, 7, none⟩) (by rw [HSZ.out]; simp)).trans HBX.out
    have hbs : W.heap.size < wr.heap.size := by have := HB.out.size; rw [HSZ.out] at this; omega
    by_cases hlt : i < N
    · by_cases hv : 0 ≤ v
      · obtain ⟨b, off, m, u0, u1, u2, u3, u4, u5, u6, u7, rfl, hb, hm, hnd, q0, q1, q2, q3, q4, q5, q6, q7⟩ := HC.out.sub i (by rw [HNN.out]; exact hlt)
        have hbw : Below W.heap.size W wr := B1.out.trans (HB.out.mono B1.out.size)
        have kc : ∀ o v, W.cell? ⟨b, o, none⟩ = some v → wr.cell? ⟨b, o, none⟩ = some v := fun o v h => (hbw.cell (p := ⟨b, o, none⟩) hb).trans h
        replace q0 := kc _ _ q0; replace q1 := kc _ _ q1; replace q2 := kc _ _ q2; replace q3 := kc _ _ q3
        replace q4 := kc _ _ q4; replace q5 := kc _ _ q5; replace q6 := kc _ _ q6; replace q7 := kc _ _ q7
        have hbl : b < wr.heap.size := Nat.lt_of_lt_of_le hb hbw.size
        have HND := Lib.hid (hnd.kept hbw)
        have HM := Lib.hid hm
        clear kc hm hnd hbw
        go_wp2_with fail
        refine (IH.out _ _ _ _ (by omega) (by omega) HND.out).mono ?_
        rintro e w5 ⟨r, rfl, hr0, hr1, hb5⟩
        have HB5 := Lib.hid (HB.out.trans (hb5.mono HB.out.size))
        have hr2 : r ≤ 1000000 := by
          by_cases h0 : 0 ≤ r
          · have := (hr1 h0).1; omega
          · omega
        have HD3 : Hid (0 ≤ r → r = left - 1 - (L : Int) - ((((Td.subs n).map (Td.wgt k)).take (i + 1)).sum : Nat) ∧ ∀ j (hj : j < (Td.subs n).length), j < i + 1 → Td.fit k (Td.subs n)[j]) := Lib.hid (fun h0 => by
          obtain ⟨h1, h2⟩ := hr1 h0
          obtain ⟨h3, h4⟩ := HD2.out hv
          have hi0 : i < (Td.subs n).length := by rw [HNN.out]; exact hlt
          have hi' : i < ((Td.subs n).map (Td.wgt k)).length := by rw [List.length_map]; exact hi0
          have e0 : (Td.subs n)[i] = m := by
            have h5 := HM.out
            rw [List.getElem?_eq_getElem hi0] at h5
            exact Option.some.inj h5
          refine ⟨?_, fun j hj hji => ?_⟩
          · rw [Td.sum_take_succ _ _ hi', List.getElem_map, e0]
            omega
          · by_cases hjj : j < i
            · exact h4 j hj hjj
            · obtain rfl : j = i := by omega
              rw [e0]; exact h2)
        clear hb5 hr1 HD2
        go_wp2
        go_roundw
        case rel => exact ⟨i + 1, r, by omega, rfl, by go_num, by omega, hr2, HD3, HB5⟩
        case measure => simp [intOf]; omega
      · go_wp2
        all_goals go_ret
        all_goals exact ⟨_, rfl, by omega, fun h => absurd h (by omega), B1.out.trans (HB.out.mono B1.out.size)⟩
    · obtain rfl : i = N := by omega
      have hE : Hid (0 ≤ v → v = left - (Td.wgt M n : Nat) ∧ Td.fit M n) := Lib.hid (fun h0 => by
        obtain ⟨h1, h2⟩ := HD2.out h0
        rw [HM0.out]
        refine ⟨?_, ?_⟩
        · rw [Td.wgt, HLL.out, h1, List.take_of_length_le (by rw [List.length_map, HNN.out]; exact Nat.le_refl _)]
          omega
        · rw [Td.fit, HLL.out, HNN.out]
          refine ⟨by omega, by omega, by omega, fun m hm => ?_⟩
          obtain ⟨j, hj, rfl⟩ := List.getElem_of_mem hm
          exact h2 j hj (by rw [← HNN.out]; exact hj))
      have HB6 := Lib.hid (B1.out.trans (HB.out.mono B1.out.size))
      clear HD2
      by_cases hv : 0 ≤ v
      · go_wp2
        go_ret
        exact ⟨v, by first | rfl | exact congrArg (fun z : Int => Ending.returned (.int .i64 z)) (by omega : max v (-1) = v), by omega, hE.out, HB6.out⟩
      · go_wp2
        all_goals go_ret
        all_goals exact ⟨_, rfl, by omega, fun h => absurd h (by omega), HB6.out⟩
theorem refWeigh_any : ∀ k : Nat, k ≤ 100000 → WghOk k
  | 0, _ => by
    intro W n cs left hl0 hl1 h
    obtain ⟨vs, a, cap, C, hC⟩ := h.cells
    have hcs := hC.eq
    subst hcs
    clear hC h
    go_enter Tryz.func24, Tryz.ntmps24
    go_wp2
    go_ret
    exact ⟨-1, rfl, by omega, fun h => absurd h (by omega), (Below.refl _ _).alloc (Nat.le_refl _) _⟩
  | k + 1, h => wgh_step k _ rfl (by omega) (refWeigh_any k (by omega))
/-- Great, told no: the tree is small. -/
theorem refGreat_any (W : World) (n : Nd) (cs : List Value) (most : Int) (h0 : -1000000 ≤ most) (h1 : most ≤ 1000000) (h : NdIs W n cs) :
    Calls Tryz.prog 11 #[.agg cs.toArray, .int .i64 most] W fun e w' => ∃ b : Bool, e = .returned (.bool b) ∧ (b = false → (Td.wgt 40 n : Int) ≤ most ∧ Td.fit 40 n) ∧ Below W.heap.size W w' := by
  have H1 := Lib.hid (h.kept ((Below.refl W.heap.size W).alloc (Nat.le_refl _) (.cells cs.toArray 26)))
  have HB := Lib.hid ((Below.refl W.heap.size W).alloc (Nat.le_refl _) (.cells cs.toArray 26))
  obtain ⟨vs, a, cap, C, hC⟩ := h.cells
  have hcs := hC.eq
  subst hcs
  clear hC h
  go_enter Tryz.func11, Tryz.ntmps11
  go_wp2_with fail
  refine (refWeigh_any 40 (by omega) _ _ _ _ h0 h1 H1.out).mono ?_
  rintro e w5 ⟨r, rfl, hr0, hr1, hb5⟩
  have HB5 := Lib.hid (HB.out.trans (hb5.mono HB.out.size))
  by_cases hr : r < 0
  · go_wp2
    go_ret
    exact ⟨_, rfl, fun h => by simp [hr] at h, HB5.out⟩
  · go_wp2
    go_ret
    exact ⟨_, rfl, fun _ => ⟨by have := (hr1 (by omega)).1; omega, (hr1 (by omega)).2⟩, HB5.out⟩
end Go.Proofs.YtecmeeobabadeaaGreatDoor
namespace Go.Proofs.YtecmeeobabadeaaGreatDoor
set_option linter.unusedVariables false
namespace Td
theorem flat_sum_le (f : Nd → List (Nat × Nd)) (g : Nd → Nat) : ∀ (l : List Nd), (∀ m ∈ l, (f m).length ≤ g m) → (l.flatMap f).length ≤ (l.map g).sum
  | [], _ => by simp
  | m :: l, h => by
    have h1 := h m (by simp)
    have h2 := flat_sum_le f g l (fun x hx => h x (List.mem_cons_of_mem _ hx))
    rw [List.flatMap_cons, List.length_append, List.map_cons, List.sum_cons]; omega
theorem all_le_wgt : ∀ (k j d : Nat) (n : Nd), fit k n → (all j d n).length ≤ wgt k n
  | 0, _, _, _, h => h.elim
  | k + 1, 0, _, _, _ => by simp [all]
  | k + 1, j + 1, d, n, h => by
    rw [all, wgt, List.length_cons]
    have := flat_sum_le (all j (d + 1)) (wgt k) (subs n) (fun m hm => all_le_wgt k j (d + 1) m (h.2.2.2 m hm))
    omega
theorem all_small (n : Nd) (most : Int) (hm : most ≤ 1000000) (h : (wgt 40 n : Int) ≤ most ∧ fit 40 n) (d : Nat) : (all 1000 d n).length ≤ 1000000 := by
  have := all_le_wgt 40 1000 d n h.2
  omega
end Td
end Go.Proofs.YtecmeeobabadeaaGreatDoor
namespace Go.Proofs.YtecmeeobabadeaaGreatDoor
open Go.RowKit
set_option linter.unusedVariables false
/-- A text that Show answers is read as the tree. -/
theorem show_parse {n : Nd} {T : ByteArray} (h : ShowIs n T 0) : parseF T 0 = (some n, 0, 0) ∧ T.size ≤ 4096 ∧ Td.checkN n = 0 := by
  rcases h with ⟨h1, _, h2⟩ | ⟨h1, h2⟩
  · exact absurd h2.symm h1
  · rcases h2 with ⟨a, b, _⟩ | ⟨_, _, c⟩
    · have e := Sh.txtB_of b
      rw [e]
      exact ⟨Sh.parse_show h1, by rw [← e, ← Utf.nums_length, b]; exact a, h1⟩
    · cases c
set_option maxRecDepth 100000 in
set_option maxHeartbeats 8000000 in
theorem walkShowBack (W : World) (cs : List Value) (n : Nd) (hn : NdIs W n cs) (hE : Ev W) (hS : EvS W) : Calls Tryz.prog 4 #[.agg cs.toArray] W fun e w' => e = .returned (.bool true) ∧ Below W.heap.size W w' := by
  have HE := Lib.hid hE
  have HS := Lib.hid hS
  have HON := Lib.hid hn
  obtain ⟨u0, u1, u2, u3, u4, u5, u6, u7, sa, sc, aa, ac, rfl, F⟩ := hn.form_of
  obtain ⟨wb, hwb⟩ : ∃ wb, W.alloc (.cells #[u0, u1, u2, u3, u4, u5, u6, u7] 26) = wb := ⟨_, rfl⟩
  have hbb : Below W.heap.size W wb := by rw [← hwb]; exact (Below.refl _ _).alloc (Nat.le_refl _) _
  have hbx : wb.heap[W.heap.size]? = some (.cells #[u0, u1, u2, u3, u4, u5, u6, u7] 26 (0, 0)) := by rw [← hwb]; exact heap_alloc_new _ _
  obtain ⟨s0, hs0⟩ : ∃ s0, W.heap.size = s0 := ⟨_, rfl⟩
  have HS0 := Lib.hid hs0
  have HWB := Lib.hid hwb
  have HBB := Lib.hid hbb
  rw [hs0] at hbx
  have HBX := Lib.hid hbx
  have hlt := (Array.getElem?_eq_some_iff.1 hbx).1
  obtain ⟨rfl, rfl, rfl, rfl, rfl, rfl, rfl, rfl⟩ := F
  clear hbb hbx hwb hn hE hS hs0
  go_enter Tryz.func4, Tryz.ntmps4
  go_wp2_with fail
  rw [HWB.out, HS0.out]
  refine (works10_any _ (HS.out.below (Nat.le_refl _) HBB.out)).mono ?_
  rintro e w1 ⟨rfl, hb1⟩
  have hx1 := (hb1.block _ hlt).trans HBX.out
  have HX1 := Lib.hid hx1
  have HB1 := Lib.hid (HBB.out.trans (hb1.mono HBB.out.size))
  obtain ⟨d0, d1, d2, d3, d4, d5, d6, d7⟩ := box_cells hx1
  clear hb1 hx1
  go_wp2_with fail
  refine (refGreat_any _ n _ 600 (by omega) (by omega) (HON.out.kept HB1.out)).mono ?_
  rintro e w2 ⟨b, rfl, hgr, hb2⟩
  have HB2 := Lib.hid (HB1.out.trans (hb2.mono HB1.out.size))
  have HB12 := Lib.hid hb2
  clear hb2 d0 d1 d2 d3 d4 d5 d6 d7
  cases b with
  | true =>
    clear hgr
    go_wp2
    go_ret
    exact ⟨rfl, HB2.out⟩
  | false =>
    have HLEN := Lib.hid (Td.all_small n 600 (by omega) (hgr rfl) 1)
    clear hgr
    have hx2 := (HB12.out.block _ (Array.getElem?_eq_some_iff.1 HX1.out).1).trans HX1.out
    have HX2 := Lib.hid hx2
    obtain ⟨d0, d1, d2, d3, d4, d5, d6, d7⟩ := box_cells hx2
    clear hx2
    go_wp2_with fail
    refine (show_any w2 n _ (HON.out.kept HB2.out) (HS.out.below (Nat.le_refl _) HB2.out) HLEN.out).mono ?_
    rintro e w3 ⟨T, c, rfl, hT, hb3⟩
    have HB3 := Lib.hid (HB2.out.trans (hb3.mono HB2.out.size))
    have hx3 := (hb3.block _ (Array.getElem?_eq_some_iff.1 HX2.out).1).trans HX2.out
    have HX3 := Lib.hid hx3
    have HT := Lib.hid hT
    clear hb3 hT d0 d1 d2 d3 d4 d5 d6 d7
    obtain ⟨d0, d1, d2, d3, d4, d5, d6, d7⟩ := box_cells hx3
    have h03 := (Array.getElem?_eq_some_iff.1 HX3.out).1
    clear hx3
    by_cases hc : c = 0
    · subst hc
      obtain ⟨hp, hz, hck⟩ := show_parse HT.out
      have hdep : Td.dep 1001 n ≤ 1000 := by
        unfold Td.checkN at hck
        split at hck
        · cases hck
        · omega
      have HSM := Lib.hid (Td.same_ok hdep)
      have HP := Lib.hid (parse_any w3 T hz 0 (HE.out.below (Nat.le_refl _) HB3.out))
      rw [hp] at HP
      clear hp hz hck hdep
      go_wp2_with fail
      refine HP.out.mono ?_
      rintro e w4 ⟨ds, rfl, hnd, hb4⟩
      have hnd : NdIs w4 n ds := hnd
      have HB4 := Lib.hid (HB3.out.trans (hb4.mono HB3.out.size))
      have hx4 := (hb4.block _ h03).trans HX3.out
      have HX4 := Lib.hid hx4
      have h04 := (Array.getElem?_eq_some_iff.1 hx4).1
      have HND := Lib.hid hnd
      obtain ⟨y0, y1, y2, y3, y4, y5, y6, y7, za, zc, ia, ic, rfl, F⟩ := hnd.form_of
      obtain ⟨rfl, rfl, rfl, rfl, rfl, rfl, rfl, rfl⟩ := F
      obtain ⟨nb, hnb⟩ : ∃ nb, w4.heap.size = nb := ⟨_, rfl⟩
      obtain ⟨wn, hwn⟩ : ∃ wn, w4.alloc (.cells #[.int .i64 (Td.kind n), .slice za (Td.set n).length zc, .int .i64 (Td.num n), .string (Td.name n), .int .i64 (Td.mn n), .int .i64 (Td.mx n), .bool (Td.lazy n), .slice ia (Td.subs n).length ic] 26) = wn := ⟨_, rfl⟩
      have hn2 : wn.heap[nb]? = some (.cells #[.int .i64 (Td.kind n), .slice za (Td.set n).length zc, .int .i64 (Td.num n), .string (Td.name n), .int .i64 (Td.mn n), .int .i64 (Td.mx n), .bool (Td.lazy n), .slice ia (Td.subs n).length ic] 26 (0, 0)) := by rw [← hwn, ← hnb]; exact heap_alloc_new _ _
      have hbn : Below w4.heap.size w4 wn := by rw [← hwn]; exact (Below.refl _ _).alloc (Nat.le_refl _) _
      have HBN := Lib.hid (HB4.out.trans (hbn.mono HB4.out.size))
      have hD := fun o : Obj => box_facts (heap_alloc_oldp (x := o) hx4)
      have e0 := fun o => (hD o).1
      have e1 := fun o => (hD o).2.1
      have e2 := fun o => (hD o).2.2.1
      have e3 := fun o => (hD o).2.2.2.1
      have e4 := fun o => (hD o).2.2.2.2.1
      have e5 := fun o => (hD o).2.2.2.2.2.1
      have e6 := fun o => (hD o).2.2.2.2.2.2.1
      have e7 := fun o => (hD o).2.2.2.2.2.2.2.1
      have HFN := Lib.hid (trSame_any wn n n _ _ (HON.out.kept HBN.out) (HND.out.kept hbn))
      rw [HSM.out] at HFN
      have HWN := Lib.hid hwn
      have HNB := Lib.hid hnb
      clear hn2 hbn hwn hnb hD hx4 hb4 hnd d0 d1 d2 d3 d4 d5 d6 d7
      go_wp2_with fail
      rw [HWN.out, HNB.out]
      refine HFN.out.mono ?_
      rintro e w5 ⟨rfl, hb5⟩
      have HB5 := Lib.hid (HBN.out.trans (hb5.mono HBN.out.size))
      clear hb5
      go_wp2
      go_ret
      exact ⟨rfl, HB5.out⟩
    · have hc0 : (c == 0) = false := by rw [beq_eq_false_iff_ne]; exact hc
      rcases HT.out with ⟨h1, rfl, h2⟩ | ⟨h1, h2⟩
      · have HCK := Lib.hid (callsIn_wide.1 (check_in 3 (by omega) w3 n _ (HON.out.kept HB3.out) HLEN.out))
        obtain ⟨k, hk⟩ : ∃ k, Td.checkN n = k := ⟨_, rfl⟩
        rw [hk] at HCK h2
        subst h2
        clear hk h1
        have hcc : (c == c) = true := by simp
        by_cases c2 : c = 2
        · subst c2
          go_wp2
          go_ret
          exact ⟨rfl, HB3.out⟩
        · have hc2 : (c == 2) = false := by rw [beq_eq_false_iff_ne]; exact c2
          go_wp2_with fail
          refine HCK.out.mono ?_
          rintro e w4 ⟨rfl, hb4⟩
          have HB4 := Lib.hid (HB3.out.trans (hb4.mono HB3.out.size))
          clear hb4 d0 d1 d2 d3 d4 d5 d6 d7
          go_wp2
          go_ret
          exact ⟨rfl, HB4.out⟩
      · rcases h2 with ⟨_, _, h3⟩ | ⟨_, rfl, rfl⟩
        · exact absurd h3 hc
        · go_wp2
          go_ret
          exact ⟨rfl, HB3.out⟩
end Go.Proofs.YtecmeeobabadeaaGreatDoor
namespace Go.Proofs.YtecmeeobabadeaaGreatDoor
open Go.RowKit
set_option linter.unusedVariables false
theorem own8 : ownKnob Tryz.prog.godebug = none := by kernel_rfl
def laid8 : List (String × DataW Unit) := Rows.parseReadsRow.laid
/-- The cells of the library's table utf8.first. -/
def firstCells : Array Value := #[.int .u8 240, .int .u8 240, .int .u8 240, .int .u8 240, .int .u8 240, .int .u8 240, .int .u8 240, .int .u8 240, .int .u8 240, .int .u8 240, .int .u8 240, .int .u8 240, .int .u8 240, .int .u8 240, .int .u8 240, .int .u8 240, .int .u8 240, .int .u8 240, .int .u8 240, .int .u8 240, .int .u8 240, .int .u8 240, .int .u8 240, .int .u8 240, .int .u8 240, .int .u8 240, .int .u8 240, .int .u8 240, .int .u8 240, .int .u8 240, .int .u8 240, .int .u8 240, .int .u8 240, .int .u8 240, .int .u8 240, .int .u8 240, .int .u8 240, .int .u8 240, .int .u8 240, .int .u8 240, .int .u8 240, .int .u8 240, .int .u8 240, .int .u8 240, .int .u8 240, .int .u8 240, .int .u8 240, .int .u8 240, .int .u8 240, .int .u8 240, .int .u8 240, .int .u8 240, .int .u8 240, .int .u8 240, .int .u8 240, .int .u8 240, .int .u8 240, .int .u8 240, .int .u8 240, .int .u8 240, .int .u8 240, .int .u8 240, .int .u8 240, .int .u8 240, .int .u8 240, .int .u8 240, .int .u8 240, .int .u8 240, .int .u8 240, .int .u8 240, .int .u8 240, .int .u8 240, .int .u8 240, .int .u8 240, .int .u8 240, .int .u8 240, .int .u8 240, .int .u8 240, .int .u8 240, .int .u8 240, .int .u8 240, .int .u8 240, .int .u8 240, .int .u8 240, .int .u8 240, .int .u8 240, .int .u8 240, .int .u8 240, .int .u8 240, .int .u8 240, .int .u8 240, .int .u8 240, .int .u8 240, .int .u8 240, .int .u8 240, .int .u8 240, .int .u8 240, .int .u8 240, .int .u8 240, .int .u8 240, .int .u8 240, .int .u8 240, .int .u8 240, .int .u8 240, .int .u8 240, .int .u8 240, .int .u8 240, .int .u8 240, .int .u8 240, .int .u8 240, .int .u8 240, .int .u8 240, .int .u8 240, .int .u8 240, .int .u8 240, .int .u8 240, .int .u8 240, .int .u8 240, .int .u8 240, .int .u8 240, .int .u8 240, .int .u8 240, .int .u8 240, .int .u8 240, .int .u8 240, .int .u8 240, .int .u8 240, .int .u8 240, .int .u8 241, .int .u8 241, .int .u8 241, .int .u8 241, .int .u8 241, .int .u8 241, .int .u8 241, .int .u8 241, .int .u8 241, .int .u8 241, .int .u8 241, .int .u8 241, .int .u8 241, .int .u8 241, .int .u8 241, .int .u8 241, .int .u8 241, .int .u8 241, .int .u8 241, .int .u8 241, .int .u8 241, .int .u8 241, .int .u8 241, .int .u8 241, .int .u8 241, .int .u8 241, .int .u8 241, .int .u8 241, .int .u8 241, .int .u8 241, .int .u8 241, .int .u8 241, .int .u8 241, .int .u8 241, .int .u8 241, .int .u8 241, .int .u8 241, .int .u8 241, .int .u8 241, .int .u8 241, .int .u8 241, .int .u8 241, .int .u8 241, .int .u8 241, .int .u8 241, .int .u8 241, .int .u8 241, .int .u8 241, .int .u8 241, .int .u8 241, .int .u8 241, .int .u8 241, .int .u8 241, .int .u8 241, .int .u8 241, .int .u8 241, .int .u8 241, .int .u8 241, .int .u8 241, .int .u8 241, .int .u8 241, .int .u8 241, .int .u8 241, .int .u8 241, .int .u8 241, .int .u8 241, .int .u8 2, .int .u8 2, .int .u8 2, .int .u8 2, .int .u8 2, .int .u8 2, .int .u8 2, .int .u8 2, .int .u8 2, .int .u8 2, .int .u8 2, .int .u8 2, .int .u8 2, .int .u8 2, .int .u8 2, .int .u8 2, .int .u8 2, .int .u8 2, .int .u8 2, .int .u8 2, .int .u8 2, .int .u8 2, .int .u8 2, .int .u8 2, .int .u8 2, .int .u8 2, .int .u8 2, .int .u8 2, .int .u8 2, .int .u8 2, .int .u8 19, .int .u8 3, .int .u8 3, .int .u8 3, .int .u8 3, .int .u8 3, .int .u8 3, .int .u8 3, .int .u8 3, .int .u8 3, .int .u8 3, .int .u8 3, .int .u8 3, .int .u8 35, .int .u8 3, .int .u8 3, .int .u8 52, .int .u8 4, .int .u8 4, .int .u8 4, .int .u8 68, .int .u8 241, .int .u8 241, .int .u8 241, .int .u8 241, .int .u8 241, .int .u8 241, .int .u8 241, .int .u8 241, .int .u8 241, .int .u8 241, .int .u8 241]
/-- A world with the library's table utf8.first laid. -/
def pinW (w : World) : World := { w with heap := w.heap.setIfInBounds 5 (.cells firstCells 244 (0, 0)) }
/-- What a listed part reads as, with its places told. -/
structure MetB (P : Program) (w : World) (l : List (String × DataW Unit)) (ps : List MemPlace) : Prop where
  vars : DataW.LaidVars P w l ps
  nodup : ps.Nodup
  rows : ∀ b off, MemPlace.cell b off ∈ ps → (∃ c t, w.heap[b]? = some (.cells c t (0, 0))) ∧ ∀ u v, w.cell? ⟨b, off, none⟩ = some (.iface u v) → Value.okWide P w .any 0 u v
theorem MetB.app {P : Program} {w : World} {l l' : List (String × DataW Unit)} {ps qs : List MemPlace} (h : MetB P w l ps) (k : MetB P w l' qs) (hd : ∀ x ∈ ps, ∀ y ∈ qs, x ≠ y) : MetB P w (l ++ l') (ps ++ qs) :=
  ⟨LaidVars_app h.vars k.vars, List.nodup_append.2 ⟨h.nodup, k.nodup, fun x hx y hy => hd x hx y hy⟩, fun b off hm => (List.mem_append.1 hm).elim (h.rows b off) (k.rows b off)⟩
theorem met_of_run {P : Program} {w : World} {l : List (String × DataW Unit)} (p : MemPlace → Bool) (fuel : Nat) (h : (DataW.laidRun P w fuel (l.map (·.1))).map (·.1) = some l)
    (hr : (DataW.laidRun P w fuel (l.map (·.1))).map (fun x => decide x.2.Nodup && laidRowsB P w x.2 && x.2.all p) = some true) : ∃ ps, MetB P w l ps ∧ ∀ x ∈ ps, p x = true := by
  cases hx : DataW.laidRun P w fuel (l.map (·.1)) with
  | none => simp [hx] at h
  | some x =>
    obtain ⟨l', ps⟩ := x
    simp only [hx, Option.map_some, Option.some.injEq] at h hr
    subst h
    simp only [Bool.and_eq_true] at hr
    refine ⟨ps, ⟨DataW.LaidVars_of_laidRun hx, of_decide_eq_true hr.1.1, fun b off hp => ?_⟩, List.all_eq_true.1 hr.2⟩
    have := List.all_eq_true.1 hr.1.2 _ hp
    simp only [Bool.and_eq_true] at this
    obtain ⟨h1, h2⟩ := this
    refine ⟨?_, fun u v hc => ?_⟩
    · split at h1
      · rename_i c t hh
        exact ⟨c, t, hh⟩
      · cases h1
    · rw [hc] at h2
      exact Value.okWide_of_okWideB h2
def plA (m : MemPlace) : Bool := m.block != 4 && m.block != 5
def plB (m : MemPlace) : Bool := m.block == 4
def plC (m : MemPlace) : Bool := m.block == 5
theorem door8a (os : Os) (args : Array Value) : ∃ ps, MetB Tryz.prog ((pinW (World.doorLaid Tryz.prog 96 os)).forCall (fun _ _ => 0) ⟨#[], args, []⟩).memory (laid8.take 7) ps ∧ ∀ x ∈ ps, plA x = true :=
  met_of_run plA 257 (by kernel_rfl) (by kernel_rfl)
theorem door8b (os : Os) (args : Array Value) : ∃ ps, MetB Tryz.prog ((pinW (World.doorLaid Tryz.prog 96 os)).forCall (fun _ _ => 0) ⟨#[], args, []⟩).memory ([("strings.asciiSpace", Rows.laid_strings_asciiSpace)]) ps ∧ ∀ x ∈ ps, plB x = true :=
  met_of_run plB 257 (by kernel_rfl) (by kernel_rfl)
theorem door8c (os : Os) (args : Array Value) : ∃ ps, MetB Tryz.prog ((pinW (World.doorLaid Tryz.prog 96 os)).forCall (fun _ _ => 0) ⟨#[], args, []⟩).memory ([("unicode/utf8.first", Rows.laid_unicode_utf8_first)]) ps ∧ ∀ x ∈ ps, plC x = true :=
  met_of_run plC 257 (by kernel_rfl) (by kernel_rfl)
theorem door8 (os : Os) (args : Array Value) : laidMetH Tryz.prog laid8 ((pinW (World.doorLaid Tryz.prog 96 os)).forCall (fun _ _ => 0) ⟨#[], args, []⟩).memory := by
  rw [MakeChecks.laidMetH_plain _ _ _ (by kernel_rfl)]
  obtain ⟨ps, h1, k1⟩ := door8a os args
  obtain ⟨qs, h2, k2⟩ := door8b os args
  obtain ⟨rs, h3, k3⟩ := door8c os args
  have e : laid8 = laid8.take 7 ++ ([("strings.asciiSpace", Rows.laid_strings_asciiSpace)] ++ [("unicode/utf8.first", Rows.laid_unicode_utf8_first)]) := rfl
  rw [e]
  have hbc : ∀ x ∈ qs, ∀ y ∈ rs, x ≠ y := fun x hx y hy h => by
    have a := k2 x hx
    have b := k3 y hy
    rw [h] at a
    unfold plB at a
    unfold plC at b
    simp only [beq_iff_eq] at a b
    rw [a] at b
    cases b
  have h9 := h1.app (h2.app h3 hbc) (fun x hx y hy h => by
    have a := k1 x hx
    unfold plA at a
    simp only [Bool.and_eq_true, bne_iff_ne, ne_eq] at a
    rw [h] at a
    rcases List.mem_append.1 hy with hy | hy
    · have b := k2 y hy
      unfold plB at b
      simp only [beq_iff_eq] at b
      exact a.1 b
    · have b := k3 y hy
      unfold plC at b
      simp only [beq_iff_eq] at b
      exact a.2 b)
  exact ⟨_, h9.vars, h9.nodup, h9.rows⟩
end Go.Proofs.YtecmeeobabadeaaGreatDoor
namespace Go.Proofs.YtecmeeobabadeaaGreatDoor
open Go.RowKit
set_option linter.unusedVariables false
theorem laid_tab8 : (Rows.laid_strings_asciiSpace : DataW Unit) = Lib.tabData .u8 Lib.asciiSpaceTab := by kernel_rfl
theorem spaces_of8 {W : World} (h : laidMetH Tryz.prog laid8 W) : Spaces W := by
  rw [MakeChecks.laidMetH_plain _ _ _ (by kernel_rfl)] at h
  have h' : laidMet Tryz.prog [("strings.asciiSpace", Rows.laid_strings_asciiSpace), ("unicode/utf8.first", Rows.laid_unicode_utf8_first)] W := h.tail.tail.tail.tail.tail.tail.tail
  rw [laid_tab8] at h'
  exact Lib.tabIs_of_head (g := 4) (by kernel_rfl) (by kernel_rfl) (t := 244) (n := 256) Tryz.underlying244 Tryz.underlying5 (by kernel_rfl) (by kernel_rfl) h'
theorem ev_of {W : World} (h : laidMetH Tryz.prog laid8 W) (hs : W.ShapedOpen Tryz.prog) : Ev W := by
  have hm : ∃ m, W.cell? ⟨0, 0, none⟩ = some (.int .i64 m) :=
    cell_of_shapedOpen_int (zero := #[.int .i64 0]) (t := 3) hs (of_decide_eq_true (by kernel_rfl)) (by kernel_rfl) rfl (by kernel_rfl) (by kernel_rfl) Tryz.underlying3
  refine ⟨spaces_of8 h, ?_, hm⟩
  obtain ⟨m, hm⟩ := hm
  rcases Nat.lt_or_ge 0 W.heap.size with h9 | h9
  · exact h9
  · simp [World.cell?, Array.getElem?_eq_none h9] at hm
section
variable {H : Type} {enc : TypeId × Value → H}
/-- The kit's law for rows that ask something of the world, the world's shape told, too. -/
theorem returnsInHanded_of_change_and_shaped {a : Assume} {C : Checked} {os : Os} {f : FuncId} {fn : Func} {s : ChangeSpec} {conds : List PathCond} {apart fresh handsOn again : Bool} {X : World → Array Value → Prop}
    (hX : ∀ (w w' : World) (args : Array Value), w.heap = w'.heap → X w args → X w' args)
    (own : ownKnob C.prog.godebug = none) (started : os.Started) (noInit : C.prog.inits.idxOf? f = none) (hfn : C.prog.funcs[f]? = some fn)
    (witness : ∃ (w : World) (tape : Tape) (i : Input), w.os = os ∧ (w.forCall tape i).Shaped C.prog ∧ i.vars = [] ∧ Input.okWide C.prog (w.forCall tape i) .any w.heap.size f i ∧
      ((s.pre enc C.prog fn conds apart (w.forCall tape i).memory i.args ∧ X (w.forCall tape i).memory i.args) ∧ sizedMet enc C.prog fn (OpenSpec.ofChange s) apart (w.forCall tape i).memory i.args) ∧ a.holds C.prog (lone (Frame.enter C.prog f i.args .normal) [] (w.forCall tape i)))
    (contract : ∀ (W : World) (base : Nat) (args : Array Value) (ds gs : List (DataW H)) (before : List MemPlace),
      (∀ (j : Nat) t v, fn.params[j]? = some t → args[j]? = some v → Value.okWide C.prog W .any base t v) →
      DataW.Whole enc C.prog fn.params.toList s.vars apart W args.toList ds gs before →
      conds.all (PathCond.test C.prog ⟨fn.params.toList, ds, s.plain.varTypes C.prog, gs⟩) = true →
      (DataW.weightsEach C.prog (fn.params.toList ++ s.plain.varTypes C.prog) (ds ++ gs)).all (· ≤ reachBytes) = true → X W args →
      W.ShapedOpen C.prog →
      a.holds C.prog (lone (Frame.enter C.prog f args .normal) [] W) →
      Calls C.prog f args W fun e W' => ∃ v, e = .returned v ∧ s.post enc C.prog fn apart fresh handsOn again W args v W') :
    ReturnsInHanded a C os f .any (fun w args => (s.pre enc C.prog fn conds apart w args ∧ X w args) ∧ sizedMet enc C.prog fn (OpenSpec.ofChange s) apart w args) (s.post enc C.prog fn apart fresh handsOn again) := by
  refine returnsInHanded_of_calls own started noInit witness ?_
  intro w tape i _ hsh _ hok hpre hholds
  obtain ⟨_, _, _, fn', hfn', _, _, _, _, hval⟩ := hok
  have e : fn' = fn := Option.some.inj (hfn'.symm.trans hfn)
  subst e
  obtain ⟨⟨⟨ds, gs, before, hw, hc⟩, hx⟩, hz⟩ := hpre
  have hw' := DataW.Whole.of_heap (w' := w.forCall tape i) (by rfl) hw
  refine (contract (w.forCall tape i) w.heap.size i.args ds gs before hval hw' hc (hz.weights hw) (hX _ _ _ (by rfl) hx) hsh hholds).mono fun e W' ⟨v, he, hp⟩ => ?_
  subst he
  exact ChangeSpec.post_blind hp
end
end Go.Proofs.YtecmeeobabadeaaGreatDoor
namespace Go.Proofs.YtecmeeobabadeaaGreatDoor
open Go.RowKit
set_option linter.unusedVariables false
theorem laid8_db : (Rows.laid_math_bits_deBruijn64tab : DataW Unit) = Lib.tabData .u8 (Lib.deBruijn64tab.map (fun n : Nat => (n : Int))) := by kernel_rfl
theorem laid8_p10 : (Rows.laid_internal_strconv_uint64pow10 : DataW Unit) = Lib.tabData .u64 Lib.pow10Tab := by kernel_rfl
theorem evs_of8 {W : World} (h : laidMetH Tryz.prog laid8 W) : EvS W := by
  rw [MakeChecks.laidMetH_plain _ _ _ (by kernel_rfl)] at h
  have h1 : laidMet Tryz.prog (("math/bits.deBruijn64tab", Rows.laid_math_bits_deBruijn64tab) :: laid8.drop 2) W := h.tail
  have h2 : laidMet Tryz.prog (("internal/strconv.uint64pow10", Rows.laid_internal_strconv_uint64pow10) :: laid8.drop 3) W := h.tail.tail
  rw [laid8_db] at h1
  rw [laid8_p10] at h2
  have t1 := Lib.tabIs_of_head (g := 8) (by kernel_rfl) (by kernel_rfl) (t := 268) (n := 64) Tryz.underlying268 Tryz.underlying5 (by kernel_rfl) (by kernel_rfl) h1
  refine ⟨?_, Lib.tabIs_of_head (g := 1) (by kernel_rfl) (by kernel_rfl) (t := 223) (n := 20) Tryz.underlying223 Tryz.underlying191 (by kernel_rfl) (by kernel_rfl) h2⟩
  have h3 := t1.cell (g := 8) (by kernel_rfl) (16 * 285870213051353865 % 18446744073709551616 / 288230376151711744) (by decide +kernel)
  exact h3
end Go.Proofs.YtecmeeobabadeaaGreatDoor
