/- The landed norm: core and Core. · The landed tree: nullable, with slices.ContainsFunc, IndexFunc and the closures; Nullable. · The landed tree: nullable, Nullable. · burinlaw06.letter, works. · The book's tree (burinbook): Weigh, Great. · A tree that is small has few nodes: from Great's 'no' to the bounds of All. -/
import Derived.Test.YthhdlcckboiecaaGp28
import Derived.Test.YthhdlcckboiecaaGp29
import Derived.Test.YthhdlcckboiecaaGp30
import Derived.Test.YthhdlcckboiecaaGp25
import Derived.Test.YthhdlcckboiecaaGp3
import Derived.Test.YthhdlcckboiecaaGp11
import Derived.IntWalk
import Derived.BigQuiet
import Derived.Test.YthhdlcckboiecaaGp18
import Derived.Test.YthhdlcckboiecaaGp7
namespace Go.Proofs.Ythhdlcckboiecaa
open Go.RowKit
open Go.Proofs.Ythhdlcckboiecaa.Nm
set_option linter.unusedVariables false
set_option linter.unusedSimpArgs false
theorem shal_of : ∀ (d : Nat) (x : Nd), hgt x ≤ d → cnt x ≤ 999999 → Shal d x
  | 0, x, h, _ => by have := hgt_pos x; omega
  | d + 1, x, h, hc => by
    rw [cnt_subs] at hc
    refine ⟨?_, fun m hm => shal_of d m (by have := hgt_sub hm; omega) (by have := sumC_mem hm; omega)⟩
    have := len_sumC (Td.subs x)
    omega
theorem sum_core {P : Int → Prop} : ∀ l : List Nd, (∀ m ∈ l, CoreIs P m (coreI m)) → sumC (l.map coreI) ≤ (l.map wtI).sum
  | [], _ => Nat.le_refl _
  | a :: l, h => by
    rw [List.map_cons, sumC_cons, List.map_cons, List.sum_cons]
    have := (h a (by simp)).cnt
    have := sum_core l (fun m hm => h m (List.mem_cons_of_mem _ hm))
    omega
/-- A tree that core is asked of. -/
def goodK (P : Int → Prop) (k : Nat) (n : Nd) : Prop := AllN (Qt P) n ∧ wtI n ≤ 4000 ∧ hgt n ≤ k
theorem coreOk (P : Int → Prop) (hP : ∀ x, P x → x ≤ 31) : ∀ k, CoreOk (goodK P k) coreI
  | 0 => fun W n cs h _ => by have := hgt_pos n; have := h.2.2; omega
  | k + 1 => fun W n cs h hn => by
    have ih := coreOk P hP k
    obtain ⟨ha, hw, hh⟩ := h
    have hf := ha.here.1
    have hg : (Td.kind n = 9 → Td.mx n ≠ 0) → ∀ m ∈ Td.subs n, goodK P k m := fun hx m hm => ⟨ha.sub hm, wt_sub hf hw hm hx, by have := hgt_sub hm; omega⟩
    have hci : (Td.kind n = 9 → Td.mx n ≠ 0) → ∀ m ∈ Td.subs n, CoreIs P m (coreI m) := fun hx m hm => core_is P hP m (ha.sub hm) (wt_sub hf hw hm hx)
    have hce := coreI_eq n
    unfold coreS at hce
    by_cases k6 : Td.kind n = 6
    · rw [if_pos k6] at hce
      rw [hce]
      refine core_6 (goodK P k) coreI ih W n cs hn k6 ?_ (hg (fun e => by omega))
      rcases fits_cases hf with ⟨k, h1, rfl⟩ | ⟨s, h1, h2, rfl⟩ | ⟨a, h1, h2, rfl⟩ | ⟨a, nm, m', h1, rfl⟩ | ⟨k, l, h1, h2, rfl⟩ | ⟨a, b, lz, m', h1, h2, h3, rfl⟩ <;> simp only [Td.kind] at k6 <;> first | omega | rfl
    rw [if_neg k6] at hce
    by_cases k7 : Td.kind n = 7
    · rw [if_pos k7] at hce
      rw [hce]
      have hc := hci (fun e => by omega)
      have hs := sum_core _ hc
      have hws := wt_678 (n := n) (.inr (.inl k7))
      have h2 := many_of hf (.inl k7)
      have hl := len_sumC (catL ((Td.subs n).map coreI))
      have hl2 := catL_sum ((Td.subs n).map coreI)
      have hl3 := len_sumC ((Td.subs n).map coreI)
      rw [List.length_map] at hl3
      exact core_7 (goodK P k) coreI ih W n cs hn k7 (by omega) (by omega) (hg (fun e => by omega)) (fun m hm e => by have := many_of (hc m hm).ok.here.1 (.inl e); omega) (by omega)
    rw [if_neg k7] at hce
    by_cases k8 : Td.kind n = 8
    · rw [if_pos k8] at hce
      rw [hce]
      have hc := hci (fun e => by omega)
      have hs := sum_core _ hc
      have hws := wt_678 (n := n) (.inr (.inr k8))
      have h2 := many_of hf (.inr k8)
      have hl := len_sumC (altL ((Td.subs n).map coreI))
      have hl2 := altL_sum ((Td.subs n).map coreI)
      have hl3 := len_sumC ((Td.subs n).map coreI)
      rw [List.length_map] at hl3
      exact core_8 (goodK P k) coreI ih W n cs hn k8 (by omega) (by omega) (hg (fun e => by omega)) (fun m hm e => by have := many_of (hc m hm).ok.here.1 (.inr e); omega) (by omega)
    rw [if_neg k8] at hce
    by_cases k9 : Td.kind n = 9
    · rw [if_pos k9] at hce
      rw [hce]
      refine core_9 W n cs hn k9 _ (fun w hwb => ?_)
      by_cases hx : Td.mx n = 0
      · have e : repS n (((Td.subs n).map coreI).headD leaf1) = leaf1 := by unfold repS; rw [if_pos hx]
        rw [e]
        obtain ⟨vs, a, cap, C, hC⟩ := hn.cells
        obtain ⟨sa, sk, sc, rfl⟩ : ∃ a k c, vs = .slice a k c := by obtain ⟨a, c, h, -⟩ := hC.set; exact ⟨a, _, c, h⟩
        have hcs := hC.eq
        subst hcs
        exact repeat_0 w (Td.kind n) (Td.num n) (Td.mn n) (Td.mx n) sa sk sc (Td.name n) (Td.lazy n) a (Td.subs n).length cap hx
      · have hg9 := hg (fun _ => hx)
        have hc := hci (fun _ => hx)
        rcases fits_cases hf with ⟨k, h1, rfl⟩ | ⟨s, h1, h2, rfl⟩ | ⟨a, h1, h2, rfl⟩ | ⟨a, nm, m', h1, rfl⟩ | ⟨k, l, h1, h2, rfl⟩ | ⟨a, b, lz, m, h1, h2, h3, rfl⟩ <;> simp only [Td.kind] at k9
        · omega
        · omega
        · omega
        · omega
        · omega
        have hm := hg9 m (by simp [Td.subs])
        have hcm := hc m (by simp [Td.subs])
        have hb0 : b ≠ 0 := hx
        have hwr := wt_rep (a := a) (b := b) (lz := lz) (s := []) (num := 0) (nm := ⟨#[]⟩) (m := m) (by omega)
        have hwm := hm.2.1
        have hcc := hcm.cnt
        refine repeat_1 (goodK P k) coreI ih (hgt (coreI m)) w (.mk 9 [] 0 ⟨#[]⟩ a b lz [m]) m cs (hn.kept hwb) ⟨rfl, ⟨h1, h2⟩, h3, hm, shal_of _ _ (Nat.le_refl _) (by omega), fun e => by have := many_of hcm.ok.here.1 (.inl e); omega, ?_⟩ hx
        have hl := len_sumC (catL (List.replicate a.toNat (coreI m)))
        have hl2 := catL_sum (List.replicate a.toNat (coreI m))
        rw [sumC_rep] at hl2
        have hmul : a.toNat * cnt (coreI m) ≤ a.toNat * wtI m := Nat.mul_le_mul_left _ hcc
        have hmin : min 4001 (wtI m) = wtI m := by omega
        rw [hmin] at hwr
        unfold repW at hwr
        rw [show min a.toNat 4001 = a.toNat by omega] at hwr
        have h9 : a.toNat * wtI m ≤ 4000 := by
          split at hwr
          · omega
          · split at hwr
            · omega
            · omega
        show (catL (List.replicate a.toNat (coreI m))).length ≤ 999998
        omega
    rw [if_neg k9] at hce
    rw [hce]
    exact core_leaf W n cs hn ⟨k6, k7, k8, k9⟩
end Go.Proofs.Ythhdlcckboiecaa
namespace Go.Proofs.Ythhdlcckboiecaa
open Go.RowKit
set_option linter.unusedVariables false































































































































































end Go.Proofs.Ythhdlcckboiecaa
namespace Go.Proofs.Ythhdlcckboiecaa
open Go.RowKit
set_option linter.unusedVariables false
end Go.Proofs.Ythhdlcckboiecaa
namespace Go.Proofs.Ythhdlcckboiecaa
open Go.RowKit
set_option linter.unusedVariables false
def letN (c : Int) : Nd := .mk 3 [(c, c)] 0 ⟨#[]⟩ 0 0 false []
theorem i64_0 : I64 0 := by unfold I64; omega
def letC (g : Nat) : List Value := [.int .i64 3, .slice (some ⟨g, 0, none⟩) 1 1, .int .i64 0, .string ⟨#[]⟩, .int .i64 0, .int .i64 0, .bool false, .slice none 0 0]




















def catN : Nd := .mk 7 [] 0 ⟨#[]⟩ 0 0 false [letN 97, letN 98]
theorem trCheck_any (W : World) (nd : Nd) (cs : List Value) (h : NdIs W nd cs) (hlen : (Td.all 1000 1 nd).length ≤ 1000000) :
    Calls Try.prog 20 #[.agg cs.toArray] W fun e W' => e = .returned (.int .i64 (Td.checkN nd)) ∧ Below W.heap.size W W' := callsIn_wide.1 (check_in 3 (by omega) W nd cs h hlen)
end Go.Proofs.Ythhdlcckboiecaa
namespace Go.Proofs.Ythhdlcckboiecaa
open Go.RowKit
set_option linter.unusedVariables false
set_option linter.unusedSimpArgs false
namespace Td
/-- What a tree weighs, down to a depth. -/
def wgt : Nat → Nd → Nat
  | 0, _ => 0
  | k + 1, n => 1 + (set n).length + ((subs n).map (wgt k)).sum
/-- Is a tree no deeper than that, and nothing in it too long? -/
def fit : Nat → Nd → Prop
  | 0, _ => False
  | k + 1, n => (set n).length ≤ 200 ∧ (name n).size ≤ 100 ∧ (subs n).length ≤ 200 ∧ ∀ m ∈ subs n, fit k m
theorem sum_take_succ (l : List Nat) (k : Nat) (hk : k < l.length) : (l.take (k + 1)).sum = (l.take k).sum + l[k] := by
  rw [List.take_succ_eq_append_getElem hk, List.sum_append]; simp
end Td
def WghOk (k : Nat) : Prop := ∀ (W : World) (n : Nd) (cs : List Value) (left : Int), -1000000 ≤ left → left ≤ 1000000 → NdIs W n cs →
  Calls Try.prog 11 #[.agg cs.toArray, .int .i64 left, .int .i64 (k : Int)] W fun e w' => ∃ r : Int, e = .returned (.int .i64 r) ∧ -1 ≤ r ∧ (0 ≤ r → r = left - Td.wgt k n ∧ Td.fit k n) ∧ Below W.heap.size W w'
set_option maxRecDepth 100000 in
set_option maxHeartbeats 4000000 in
theorem wgh_step (k M : Nat) (hM : M = k + 1) (hk : k ≤ 100000) (ih : WghOk k) : WghOk M := by
  intro W n cs left hl0 hl1 h
  have hM1 : (M : Int) - 1 = (k : Int) := by omega
  have hM0 : ¬ ((M : Int) = 0) := by omega
  have HM0 := Lib.hid hM
  obtain ⟨vs, a, cap, C, hC⟩ := h.cells
  obtain ⟨sa, scap, hvs, hsl, _, _⟩ := hC.set
  obtain ⟨N, hN⟩ : ∃ N, (Td.subs n).length = N := ⟨_, rfl⟩
  obtain ⟨L, hL⟩ : ∃ L, (Td.set n).length = L := ⟨_, rfl⟩
  have hcs := hC.eq
  have hlen := hC.len
  have hnm := hC.name
  rw [hN] at hcs hlen
  rw [hL] at hvs hsl
  subst hvs
  subst hcs
  have HC := Lib.hid hC
  have HNN := Lib.hid hN
  have HLL := Lib.hid hL
  have IH := Lib.hid ih
  clear h hC hN hL ih hM
  obtain ⟨W1, hW1⟩ : ∃ W1, W.alloc (.cells #[.int .i64 (Td.kind n), .slice sa L scap, .int .i64 (Td.num n), .string (Td.name n), .int .i64 (Td.mn n), .int .i64 (Td.mx n), .bool (Td.lazy n), .slice a N cap] 25) = W1 := ⟨_, rfl⟩
  have B1 := Lib.hid (hW1 ▸ (Below.refl W.heap.size W).alloc (Nat.le_refl _) (.cells #[.int .i64 (Td.kind n), .slice sa L scap, .int .i64 (Td.num n), .string (Td.name n), .int .i64 (Td.mn n), .int .i64 (Td.mx n), .bool (Td.lazy n), .slice a N cap] 25) : Below W.heap.size W W1)
  have hbx : W1.cell? ⟨W.heap.size, 7, none⟩ = some (.slice a N cap) := by rw [← hW1]; simp
  have hsz1 : W1.heap.size = W.heap.size + 1 := by rw [← hW1]; simp
  have HBX := Lib.hid hbx
  have HSZ := Lib.hid hsz1
  have HW1 := Lib.hid hW1
  clear hbx hsz1 hW1
  by_cases b1 : left - 1 < 0
  · go_enter Try.func11, Try.ntmps11
    go_wp2
    rw [HW1.out]
    go_ret
    exact ⟨-1, rfl, by omega, fun h => absurd h (by omega), B1.out⟩
  by_cases b2 : (200 : Int) < L
  · go_enter Try.func11, Try.ntmps11
    go_wp2
    rw [HW1.out]
    go_ret
    exact ⟨-1, rfl, by omega, fun h => absurd h (by omega), B1.out⟩
  by_cases b3 : (100 : Int) < (Td.name n).size
  · go_enter Try.func11, Try.ntmps11
    go_wp2
    rw [HW1.out]
    go_ret
    exact ⟨-1, rfl, by omega, fun h => absurd h (by omega), B1.out⟩
  by_cases b4 : (200 : Int) < N
  · go_enter Try.func11, Try.ntmps11
    go_wp2
    rw [HW1.out]
    go_ret
    exact ⟨-1, rfl, by omega, fun h => absurd h (by omega), B1.out⟩
  go_enter Try.func11, Try.ntmps11
  go_wp2
  go_loopw [1, 7] (fun vv iv wr => ∃ (i : Nat) (v : Int), i ≤ N ∧ vv = .int .i64 v ∧ iv = .int .i64 (i : Int) ∧ -200 ≤ v ∧ v ≤ 1000000 ∧ Hid (0 ≤ v → v = left - 1 - (L : Int) - ((((Td.subs n).map (Td.wgt k)).take i).sum : Nat) ∧ ∀ j (hj : j < (Td.subs n).length), j < i → Td.fit k (Td.subs n)[j]) ∧ Hid (Below W1.heap.size W1 wr)) (fun _ iv _ => N - (intOf iv).toNat)
  case atStart => exact ⟨0, left - 1 - L, Nat.zero_le _, by go_num, rfl, by omega, by omega, Lib.hid (fun _ => ⟨by simp, fun j hj h => absurd h (by omega)⟩), Lib.hid (by rw [← HW1.out]; exact Below.refl _ _)⟩
  case round =>
    obtain ⟨i, v, hi, rfl, rfl, hv0, hv1, HD2, HB⟩ := hrel
    have hbx : wr.cell? ⟨W.heap.size, 7, none⟩ = some (.slice a N cap) := (HB.out.cell (p := ⟨W.heap.size, 7, none⟩) (by rw [HSZ.out]; simp)).trans HBX.out
    have hbs : W.heap.size < wr.heap.size := by have := HB.out.size; rw [HSZ.out] at this; omega
    by_cases hlt : i < N
    · by_cases hv : 0 ≤ v
      · obtain ⟨b, off, m, u0, u1, u2, u3, u4, u5, u6, u7, rfl, hb, hm, hnd, q0, q1, q2, q3, q4, q5, q6, q7⟩ := HC.out.sub i (by rw [HNN.out]; exact hlt)
        have hbw : Below W.heap.size W wr := B1.out.trans (HB.out.mono B1.out.size)
        have kc : ∀ o v, W.cell? ⟨b, o, none⟩ = some v → wr.cell? ⟨b, o, none⟩ = some v := fun o v h => (hbw.cell (p := ⟨b, o, none⟩) hb).trans h
        replace q0 := kc _ _ q0; replace q1 := kc _ _ q1; replace q2 := kc _ _ q2; replace q3 := kc _ _ q3
        replace q4 := kc _ _ q4; replace q5 := kc _ _ q5; replace q6 := kc _ _ q6; replace q7 := kc _ _ q7
        have hbl : b < wr.heap.size := Nat.lt_of_lt_of_le hb hbw.size
        have HND := Lib.hid (hnd.kept hbw)
        have HM := Lib.hid hm
        clear kc hm hnd hbw
        go_wp2_with fail
        refine (IH.out _ _ _ _ (by omega) (by omega) HND.out).mono ?_
        rintro e w5 ⟨r, rfl, hr0, hr1, hb5⟩
        have HB5 := Lib.hid (HB.out.trans (hb5.mono HB.out.size))
        have hr2 : r ≤ 1000000 := by
          by_cases h0 : 0 ≤ r
          · have := (hr1 h0).1; omega
          · omega
        have HD3 : Hid (0 ≤ r → r = left - 1 - (L : Int) - ((((Td.subs n).map (Td.wgt k)).take (i + 1)).sum : Nat) ∧ ∀ j (hj : j < (Td.subs n).length), j < i + 1 → Td.fit k (Td.subs n)[j]) := Lib.hid (fun h0 => by
          obtain ⟨h1, h2⟩ := hr1 h0
          obtain ⟨h3, h4⟩ := HD2.out hv
          have hi0 : i < (Td.subs n).length := by rw [HNN.out]; exact hlt
          have hi' : i < ((Td.subs n).map (Td.wgt k)).length := by rw [List.length_map]; exact hi0
          have e0 : (Td.subs n)[i] = m := by
            have h5 := HM.out
            rw [List.getElem?_eq_getElem hi0] at h5
            exact Option.some.inj h5
          refine ⟨?_, fun j hj hji => ?_⟩
          · rw [Td.sum_take_succ _ _ hi', List.getElem_map, e0]
            omega
          · by_cases hjj : j < i
            · exact h4 j hj hjj
            · obtain rfl : j = i := by omega
              rw [e0]; exact h2)
        clear hb5 hr1 HD2
        go_wp2
        go_roundw
        case rel => exact ⟨i + 1, r, by omega, rfl, by go_num, by omega, hr2, HD3, HB5⟩
        case measure => simp [intOf]; omega
      · go_wp2
        all_goals go_ret
        all_goals exact ⟨_, rfl, by omega, fun h => absurd h (by omega), B1.out.trans (HB.out.mono B1.out.size)⟩
    · obtain rfl : i = N := by omega
      have hE : Hid (0 ≤ v → v = left - (Td.wgt M n : Nat) ∧ Td.fit M n) := Lib.hid (fun h0 => by
        obtain ⟨h1, h2⟩ := HD2.out h0
        rw [HM0.out]
        refine ⟨?_, ?_⟩
        · rw [Td.wgt, HLL.out, h1, List.take_of_length_le (by rw [List.length_map, HNN.out]; exact Nat.le_refl _)]
          omega
        · rw [Td.fit, HLL.out, HNN.out]
          refine ⟨by omega, by omega, by omega, fun m hm => ?_⟩
          obtain ⟨j, hj, rfl⟩ := List.getElem_of_mem hm
          exact h2 j hj (by rw [← HNN.out]; exact hj))
      have HB6 := Lib.hid (B1.out.trans (HB.out.mono B1.out.size))
      clear HD2
      by_cases hv : 0 ≤ v
      · go_wp2
        go_ret
        exact ⟨v, by first | rfl | exact congrArg (fun z : Int => Ending.returned (.int .i64 z)) (by omega : max v (-1) = v), by omega, hE.out, HB6.out⟩
      · go_wp2
        all_goals go_ret
        all_goals exact ⟨_, rfl, by omega, fun h => absurd h (by omega), HB6.out⟩
theorem refWeigh_any : ∀ k : Nat, k ≤ 100000 → WghOk k
  | 0, _ => by
    intro W n cs left hl0 hl1 h
    obtain ⟨vs, a, cap, C, hC⟩ := h.cells
    have hcs := hC.eq
    subst hcs
    clear hC h
    go_enter Try.func11, Try.ntmps11
    go_wp2
    go_ret
    exact ⟨-1, rfl, by omega, fun h => absurd h (by omega), (Below.refl _ _).alloc (Nat.le_refl _) _⟩
  | k + 1, h => wgh_step k _ rfl (by omega) (refWeigh_any k (by omega))
/-- Great, told no: the tree is small. -/
theorem refGreat_any (W : World) (n : Nd) (cs : List Value) (most : Int) (h0 : -1000000 ≤ most) (h1 : most ≤ 1000000) (h : NdIs W n cs) :
    Calls Try.prog 4 #[.agg cs.toArray, .int .i64 most] W fun e w' => ∃ b : Bool, e = .returned (.bool b) ∧ (b = false → (Td.wgt 40 n : Int) ≤ most ∧ Td.fit 40 n) ∧ Below W.heap.size W w' := by
  have H1 := Lib.hid (h.kept ((Below.refl W.heap.size W).alloc (Nat.le_refl _) (.cells cs.toArray 25)))
  have HB := Lib.hid ((Below.refl W.heap.size W).alloc (Nat.le_refl _) (.cells cs.toArray 25))
  obtain ⟨vs, a, cap, C, hC⟩ := h.cells
  have hcs := hC.eq
  subst hcs
  clear hC h
  go_enter Try.func4, Try.ntmps4
  go_wp2_with fail
  refine (refWeigh_any 40 (by omega) _ _ _ _ h0 h1 H1.out).mono ?_
  rintro e w5 ⟨r, rfl, hr0, hr1, hb5⟩
  have HB5 := Lib.hid (HB.out.trans (hb5.mono HB.out.size))
  by_cases hr : r < 0
  · go_wp2
    go_ret
    exact ⟨_, rfl, fun h => by simp [hr] at h, HB5.out⟩
  · go_wp2
    go_ret
    exact ⟨_, rfl, fun _ => ⟨by have := (hr1 (by omega)).1; omega, (hr1 (by omega)).2⟩, HB5.out⟩
end Go.Proofs.Ythhdlcckboiecaa
namespace Go.Proofs.Ythhdlcckboiecaa
set_option linter.unusedVariables false
namespace Td
theorem flat_sum_le (f : Nd → List (Nat × Nd)) (g : Nd → Nat) : ∀ (l : List Nd), (∀ m ∈ l, (f m).length ≤ g m) → (l.flatMap f).length ≤ (l.map g).sum
  | [], _ => by simp
  | m :: l, h => by
    have h1 := h m (by simp)
    have h2 := flat_sum_le f g l (fun x hx => h x (List.mem_cons_of_mem _ hx))
    rw [List.flatMap_cons, List.length_append, List.map_cons, List.sum_cons]; omega
theorem all_le_wgt : ∀ (k j d : Nat) (n : Nd), fit k n → (all j d n).length ≤ wgt k n
  | 0, _, _, _, h => h.elim
  | k + 1, 0, _, _, _ => by simp [all]
  | k + 1, j + 1, d, n, h => by
    rw [all, wgt, List.length_cons]
    have := flat_sum_le (all j (d + 1)) (wgt k) (subs n) (fun m hm => all_le_wgt k j (d + 1) m (h.2.2.2 m hm))
    omega
end Td
end Go.Proofs.Ythhdlcckboiecaa
