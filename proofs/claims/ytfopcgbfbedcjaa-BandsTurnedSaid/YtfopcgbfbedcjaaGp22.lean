/- The landed ranges: the contracts of inside, Has (with its closure) and Check. · slices.SortFunc by the ranges' beginnings, on a list that the call owns: a permutation, sorted. · The landed ranges: the contracts of Has and Check. -/
import Derived.Test.YtfopcgbfbedcjaaGp4
import Derived.Test.YtfopcgbfbedcjaaGp21
import Derived.Test.YtfopcgbfbedcjaaGp20
namespace Go.Proofs.Ytfopcgbfbedcjaa
open Go.RowKit
set_option linter.unusedVariables false
set_option maxRecDepth 100000 in
set_option maxHeartbeats 1000000 in
theorem inside_yes (r : Int) (w : World) (h0 : 0 ≤ r) (h1 : r ≤ 1114111) : Calls Try.prog 36 #[.int .i64 r] w fun e w' => e = .returned (.bool true) ∧ w = w' := by
  go_enter Try.func36, Try.ntmps36
  go_wp2
  go_ret
  exact ⟨rfl, rfl⟩
set_option maxRecDepth 100000 in
set_option maxHeartbeats 1000000 in
theorem inside_no (r : Int) (w : World) (h : ¬ (0 ≤ r ∧ r ≤ 1114111)) : Calls Try.prog 36 #[.int .i64 r] w fun e w' => e = .returned (.bool false) ∧ w = w' := by
  by_cases h0 : 0 ≤ r
  · have h1 : 1114111 < r := by omega
    clear h
    go_enter Try.func36, Try.ntmps36
    go_wp2
    go_ret
    exact ⟨rg_ret_bool (by simp; omega), rfl⟩
  · have h1 : r < 0 := by omega
    clear h
    go_enter Try.func36, Try.ntmps36
    go_wp2
    go_ret
    exact ⟨rfl, rfl⟩
set_option maxRecDepth 100000 in
set_option maxHeartbeats 1000000 in
theorem hasCl (x y r : Int) (B : Nat) (w : World) (hB : B < w.heap.size) (hc : w.cell? ⟨B, 0, none⟩ = some (.int .i64 r)) :
    Calls Try.prog 38 #[.agg #[.int .i64 x, .int .i64 y], .pointer (some ⟨B, 0, none⟩)] w fun e w' => e = .returned (.bool (decide (x ≤ r ∧ r ≤ y))) ∧ Below w.heap.size w w' := by
  have hne : B ≠ w.heap.size := by omega
  by_cases h1 : x ≤ r
  · by_cases h2 : r ≤ y
    · go_enter Try.func38, Try.ntmps38
      go_wp2
      go_ret
      exact ⟨rg_ret_bool (by simp; omega), (Below.refl _ _).alloc (Nat.le_refl _) _⟩
    · go_enter Try.func38, Try.ntmps38
      go_wp2
      go_ret
      exact ⟨rg_ret_bool (by simp; omega), (Below.refl _ _).alloc (Nat.le_refl _) _⟩
  · go_enter Try.func38, Try.ntmps38
    go_wp2
    go_ret
    exact ⟨rg_ret_bool (by simp; omega), (Below.refl _ _).alloc (Nat.le_refl _) _⟩
theorem any_true {l : List (Int × Int)} {k : Nat} {f : Int × Int → Bool} (hk : k < l.length) (h : f (l[k]?.getD (0, 0)) = true) : l.any f = true :=
  List.any_eq_true.2 ⟨l[k], List.getElem_mem hk, by rw [List.getElem?_eq_getElem hk] at h; exact h⟩
set_option maxRecDepth 100000 in
set_option maxHeartbeats 2000000 in
theorem idx_walk (W : World) (a : Option Addr) (n cap B : Nat) (l : List (Int × Int)) (r : Int) (hn : l.length = n) (hn2 : n ≤ 8796093022208)
    (hc : ∀ j, j < n → ∃ b off, a = some ⟨b, off, none⟩ ∧ b < W.heap.size ∧ W.cell? ⟨b, off + j * 2, none⟩ = some (.int .i64 (l[j]?.getD (0, 0)).1) ∧ W.cell? ⟨b, off + j * 2 + 1, none⟩ = some (.int .i64 (l[j]?.getD (0, 0)).2))
    (hB : B < W.heap.size) (hr : W.cell? ⟨B, 0, none⟩ = some (.int .i64 r)) :
    Calls Try.prog 52 #[.slice a n cap, .func (.func 38) #[] #[.pointer (some ⟨B, 0, none⟩)]] W
      fun e w' => ∃ z : Int, e = .returned (.int .i64 z) ∧ -1 ≤ z ∧ z ≤ n ∧ decide (0 ≤ z) = l.any (fun p => decide (p.1 ≤ r ∧ r ≤ p.2)) ∧ Below W.heap.size W w' := by
  have HN := Lib.hid hn
  have HC := Lib.hid hc
  have HR := Lib.hid hr
  clear hn hc hr
  go_enter Try.func52, Try.ntmps52
  go_wp2
  go_loopw [5, 8] (fun _ i wr => ∃ k : Nat, k ≤ n ∧ i = .int .i64 k ∧ Hid ((l.take k).any (fun p => decide (p.1 ≤ r ∧ r ≤ p.2)) = false) ∧ Hid (Below W.heap.size W wr)) (fun _ i _ => n - (intOf i).toNat)
  case atStart => exact ⟨0, Nat.zero_le _, rfl, Lib.hid rfl, Lib.hid (Below.refl _ _)⟩
  case round =>
    obtain ⟨k, hk, rfl, HA, HB⟩ := hrel
    by_cases hlt : k < n
    · obtain ⟨b, off, rfl, hb, hc1, hc2⟩ := HC.out k hlt
      have hkl : k < l.length := by rw [HN.out]; exact hlt
      have HT := Lib.hid (any_take_succ l k hkl (fun p => decide (p.1 ≤ r ∧ r ≤ p.2)))
      have HY := Lib.hid (any_true (f := fun p => decide (p.1 ≤ r ∧ r ≤ p.2)) hkl)
      rw [← HB.out.cell (p := ⟨b, off + k * 2, none⟩) hb] at hc1
      rw [← HB.out.cell (p := ⟨b, off + k * 2 + 1, none⟩) hb] at hc2
      obtain ⟨p, hp⟩ : ∃ p, l[k]?.getD (0, 0) = p := ⟨_, rfl⟩
      rw [hp] at hc1 hc2 HT HY
      obtain ⟨x, y⟩ := p
      dsimp only at hc1 hc2
      have hr' := HR.out
      rw [← HB.out.cell (p := ⟨B, 0, none⟩) hB] at hr'
      have HR' := Lib.hid hr'
      have hsz := HB.out.size
      clear hp hr' hkl
      go_wp2_with fail
      refine (hasCl x y r B _ (by omega) HR'.out).mono ?_
      rintro e w1 ⟨rfl, hb1⟩
      have HB1 := Lib.hid (HB.out.trans (hb1.mono hsz))
      clear hb1
      by_cases hin : x ≤ r ∧ r ≤ y
      · rw [decide_eq_true hin]
        have hany := HY.out (decide_eq_true hin)
        have HH := Lib.hid hany
        clear hin hany
        go_wp2
        go_ret
        exact ⟨k, rfl, by omega, by omega, by rw [HH.out]; simp, HB1.out⟩
      · rw [decide_eq_false hin]
        have HT' : Hid ((l.take (k + 1)).any (fun p => decide (p.1 ≤ r ∧ r ≤ p.2)) = false) := Lib.hid (by rw [HT.out, HA.out]; simp only [Bool.false_or, decide_eq_false_iff_not]; exact hin)
        clear hin
        go_wp2
        go_roundw
        case rel => exact ⟨k + 1, by omega, by go_num, HT', HB1⟩
        case measure => simp [intOf]; omega
    · obtain rfl : k = n := by omega
      have HE : Hid (l.any (fun p => decide (p.1 ≤ r ∧ r ≤ p.2)) = false) := Lib.hid (by
        have := HA.out
        rwa [List.take_of_length_le (by rw [HN.out]; exact Nat.le_refl _)] at this)
      go_wp2
      go_ret
      exact ⟨-1, rfl, by omega, by omega, by rw [HE.out]; rfl, HB.out⟩
end Go.Proofs.Ytfopcgbfbedcjaa
namespace Go.Proofs.Ytfopcgbfbedcjaa
open Go.RowKit
set_option linter.unusedVariables false
def encR (x : Int × Int) : List Value := [.int .i64 x.1, .int .i64 x.2]
def cmpI (a b : Int) : Int := if a < b then -1 else if b < a then 1 else 0
def cmpR (x y : Int × Int) : Int := cmpI x.1 y.1
theorem cmpR_lt (x y : Int × Int) : ltOf cmpR x y = decide (x.1 < y.1) := by
  unfold ltOf cmpR cmpI
  by_cases h1 : x.1 < y.1
  · simp [h1]
  · by_cases h2 : y.1 < x.1 <;> simp [h1, h2]
theorem cmpR_swo : Go.Sort.SWO (ltOf cmpR) where
  irrefl x := by rw [cmpR_lt]; simp
  trans x y z h1 h2 := by rw [cmpR_lt] at *; simp at *; omega
  ntrans x y z h1 h2 := by rw [cmpR_lt] at *; simp at *; omega
set_option maxRecDepth 100000 in
set_option maxHeartbeats 1000000 in
theorem cmpInt (a b : Int) (w : World) : Calls Try.prog 66 #[.int .i64 a, .int .i64 b] w fun e w' => e = .returned (.int .i64 (cmpI a b)) ∧ w = w' := by
  by_cases h1 : a < b
  · go_enter Try.func66, Try.ntmps66
    go_wp2
    go_ret
    exact ⟨rg_ret_int (by rw [cmpI, if_pos h1]), rfl⟩
  · by_cases h2 : b < a
    · go_enter Try.func66, Try.ntmps66
      go_wp2
      go_ret
      exact ⟨rg_ret_int (by rw [cmpI, if_neg (by omega), if_pos h2]), rfl⟩
    · go_enter Try.func66, Try.ntmps66
      go_wp2
      go_ret
      exact ⟨rg_ret_int (by rw [cmpI, if_neg (by omega), if_neg (by omega)]), rfl⟩
set_option maxRecDepth 100000 in
set_option maxHeartbeats 1000000 in
theorem sortCl (x y : Int × Int) (W : World) : Calls Try.prog 65 #[.agg #[.int .i64 x.1, .int .i64 x.2], .agg #[.int .i64 y.1, .int .i64 y.2]] W
    fun e w' => e = .returned (.int .i64 (cmpR x y)) ∧ ∃ q os', w' = Go.Sort.grow (W.drewN q) os' := by
  have hcon := fun W' => cmpInt x.1 y.1 W'
  show Calls _ _ _ _ fun e w' => e = .returned (.int .i64 (cmpI x.1 y.1)) ∧ ∃ q os', w' = Go.Sort.grow (W.drewN q) os'
  generalize cmpI x.1 y.1 = r at hcon ⊢
  go_enter Try.func65, Try.ntmps65
  go_wp2_with (go_at_call 66; refine (hcon _).mono ?_; rintro e w' ⟨rfl, rfl⟩)
  go_ret
  exact ⟨rfl, 0, _, by rw [Go.Sort.alloc_eq_grow, Go.Sort.alloc_eq_grow, Go.Sort.grow_grow]; rfl⟩
theorem sort_below (w : World) (base g n : Nat) (d : Array (Int × Int)) (os : Array Obj) (hg : g < w.heap.size) (hb : base ≤ g) : Below base w (sortWorldK encR 2 w g 0 n d os) := by
  unfold sortWorldK Go.Sort.grow Go.Sort.putRowK Go.Sort.putRow Go.Sort.mapBlock Go.Sort.ahead
  refine ⟨rfl, rfl, rfl, by simp, fun k hk => ?_⟩
  show (w.heap.modify g _ ++ os)[k]? = _
  rw [Array.getElem?_append, Array.size_modify, if_pos (by omega), Array.getElem?_modify, if_neg (by omega)]
theorem sort_block (w : World) (g n : Nat) (d : Array (Int × Int)) (os : Array Obj) (cs : Array Value) (t : TypeId) (fr : Nat × Nat) (hg : w.heap[g]? = some (.cells cs t fr)) :
    (sortWorldK encR 2 w g 0 n d os).heap[g]? = some (.cells (Go.Sort.putCells id 0 (Go.Sort.flatK encR 2 d) cs) t fr) := by
  have hlt : g < w.heap.size := (Array.getElem?_eq_some_iff.1 hg).1
  unfold sortWorldK Go.Sort.grow Go.Sort.putRowK Go.Sort.putRow Go.Sort.mapBlock Go.Sort.ahead
  show (w.heap.modify g _ ++ os)[g]? = _
  rw [Array.getElem?_append, Array.size_modify, if_pos hlt, Array.getElem?_modify, if_pos rfl, hg]
  rfl
theorem flatK_get (l : List (Int × Int)) (j : Nat) (hj : j < l.length * 2) : (flat2 l)[j]? = some (Go.Sort.flatK encR 2 l.toArray)[j]! := by
  rw [Go.Sort.get_flatK _ _ _ _ (by simpa using hj)]
  have hf := flat2_get l (j / 2) (by omega)
  have e : l.toArray[j / 2]! = l[j / 2]?.getD (0, 0) := by
    rw [getElem!_pos l.toArray (j / 2) (by simp; omega), List.getElem?_eq_getElem (by omega)]; simp
  rw [e]
  rcases Nat.mod_two_eq_zero_or_one j with h0 | h1
  · rw [h0]; rw [show j / 2 * 2 = j by omega] at hf; exact hf.1
  · rw [h1]; rw [show j / 2 * 2 + 1 = j by omega] at hf; exact hf.2
theorem sort_holds (w : World) (base g cap : Nat) (l : List (Int × Int)) (h : RgOwn w base (.slice (some ⟨g, 0, none⟩) l.length cap) l) : Go.Sort.HoldsK encR 2 w g 0 l.toArray := by
  intro j hj
  have hj' : j < l.length * 2 := by simpa using hj
  rw [Nat.zero_add]
  refine ⟨?_, World.ownsRow.frozenAt h j⟩
  rw [World.ownsRow.cellAt h j (by simpa using hj'), flatK_get l j hj']; rfl
theorem putCells_take (cs : Array Value) (s : List (Int × Int)) (h : s.length * 2 ≤ cs.size) : (Go.Sort.putCells id 0 (Go.Sort.flatK encR 2 s.toArray) cs).toList.take (s.length * 2) = flat2 s := by
  apply List.ext_getElem?
  intro j
  rw [List.getElem?_take]
  by_cases hj : j < s.length * 2
  · rw [if_pos hj, flatK_get s j hj]
    unfold Go.Sort.putCells
    rw [Array.getElem?_toList, Array.getElem?_mapIdx, Array.getElem?_eq_getElem (by omega), Option.map_some, if_pos ⟨Nat.zero_le _, by simpa using hj⟩]
    rfl
  · rw [if_neg hj, List.getElem?_eq_none (by rw [flat2_len]; omega)]
theorem sort_own (W : World) (base : Nat) (v : Value) (l : List (Int × Int)) (h : RgOwn W base v l) (hb : base ≤ W.heap.size) (hl : l.length ≤ 8796093022208) :
    Calls Try.prog 64 #[v, .func (.func 65) #[] #[]] W
      fun e w' => e = .returned (.tuple #[]) ∧ ∃ s : List (Int × Int), s.Perm l ∧ s.Pairwise (fun a b => a.1 ≤ b.1) ∧ s.length = l.length ∧ RgOwn w' base v s ∧ Below base W w' := by
  rcases Nat.eq_zero_or_pos l.length with h0 | hp
  · have e0 : l = [] := List.eq_nil_of_length_eq_zero h0
    subst e0
    obtain ⟨a, cap, rfl⟩ := h.empty
    have hcon := AnyF.slices_SortFunc_none (P := Try.prog) (ρ := Try.sortRg_ren) { Try.sortRg with } a cap (.func (.func 65) #[] #[]) W
    change Calls Try.prog 64 _ _ _ at hcon
    refine hcon.mono ?_
    rintro e w' ⟨rfl, rfl⟩
    exact ⟨rfl, [], List.Perm.refl _, List.Pairwise.nil, rfl, h, Below.refl _ _⟩
  · have hown := h
    rcases hown.2 with ⟨_, hz⟩ | ⟨g, cap, cur, rfl, hbg, hg, hnc, hcm, hcs, _⟩
    · omega
    · have eg : ∀ args w, (callFunc 65 args).run Try.prog w = .ok (.enter 65 args) w := enters_of Try.func65 (by kernel_rfl) rfl
      have hlt : g < W.heap.size := (Array.getElem?_eq_some_iff.1 hg).1
      have hcon := AnyQ.slices_SortFunc Try.sortRg 2 Try.isAgg44 Try.sizeOf44 encR (fun _ => rfl) (fun x v hv => by simp [encR] at hv; rcases hv with rfl | rfl <;> rfl) cmpR cmpR_swo 65 #[] g 0 cap l.toArray W eg
        (fun _ _ _ _ x y => sortCl x y _) (sort_holds W base g cap l h) hlt (by simp; omega)
      change Calls Try.prog 64 _ _ _ at hcon
      rw [List.size_toArray] at hcon
      refine hcon.mono ?_
      rintro e w' ⟨rfl, d', n, os, hperm, hsort, rfl⟩
      obtain ⟨p1, p2, p3⟩ := hperm
      rw [List.size_toArray] at p1
      obtain ⟨s⟩ := d'
      have hs : s.length = l.length := by simpa using p1
      refine ⟨rfl, s, ?_, ?_, hs, ?_, sort_below W base g n _ os hlt hbg⟩
      · rw [← hs] at p3
        simp [hs] at p3
        rwa [List.take_of_length_le (by omega)] at p3
      · rw [List.pairwise_iff_getElem]
        intro i j hi hj hij
        have := hsort i j (Nat.zero_le _) hij (by omega)
        rw [cmpR_lt, getElem!_pos (⟨s⟩ : Array (Int × Int)) j hj, getElem!_pos (⟨s⟩ : Array (Int × Int)) i hi] at this
        have h2 : ¬ (s[j].1 < s[i].1) := by simpa using this
        show s[i].1 ≤ s[j].1
        omega
      · refine ⟨by rw [flat2_len], .inr ⟨g, cap, _, by rw [hs], hbg, sort_block W g n ⟨s⟩ os cur _ _ hg, by rw [hs]; exact hnc, hcm, ?_, ?_⟩⟩
        · simp [Go.Sort.putCells, hcs]
        · exact putCells_take cur s (by rw [hcs, hs]; omega)
end Go.Proofs.Ytfopcgbfbedcjaa
namespace Go.Proofs.Ytfopcgbfbedcjaa
open Go.RowKit
set_option linter.unusedVariables false
set_option maxRecDepth 100000 in
set_option maxHeartbeats 1000000 in
theorem contains_walk (W : World) (a : Option Addr) (n cap B : Nat) (l : List (Int × Int)) (r : Int) (hn : l.length = n) (hn2 : n ≤ 8796093022208)
    (hc : ∀ j, j < n → ∃ b off, a = some ⟨b, off, none⟩ ∧ b < W.heap.size ∧ W.cell? ⟨b, off + j * 2, none⟩ = some (.int .i64 (l[j]?.getD (0, 0)).1) ∧ W.cell? ⟨b, off + j * 2 + 1, none⟩ = some (.int .i64 (l[j]?.getD (0, 0)).2))
    (hB : B < W.heap.size) (hr : W.cell? ⟨B, 0, none⟩ = some (.int .i64 r)) :
    Calls Try.prog 37 #[.slice a n cap, .func (.func 38) #[] #[.pointer (some ⟨B, 0, none⟩)]] W
      fun e w' => e = .returned (.bool (l.any (fun p => decide (p.1 ≤ r ∧ r ≤ p.2)))) ∧ Below W.heap.size W w' := by
  have HI := Lib.hid (idx_walk W a n cap B l r hn hn2 hc hB hr)
  clear hn hc hr
  go_enter Try.func37, Try.ntmps37
  go_wp2_with fail
  refine HI.out.mono ?_
  rintro e w1 ⟨z, rfl, hz0, hz1, hz, hb⟩
  have HZ := Lib.hid hz
  have HBB := Lib.hid hb
  clear hz hb
  go_wp2
  go_ret
  exact ⟨rg_ret_bool HZ.out, HBB.out⟩
set_option maxRecDepth 100000 in
set_option maxHeartbeats 1000000 in
theorem has_any (W : World) (v : Value) (l : List (Int × Int)) (r : Int) (h : RRow W v l) :
    Calls Try.prog 23 #[v, .int .i64 r] W fun e w' => e = .returned (.bool (Rg.hasB l r)) ∧ Below W.heap.size W w' := by
  obtain ⟨a, cap, rfl, hl, hw, hc⟩ := RRow.below h (Nat.le_refl _) ((Below.refl _ W).alloc (Nat.le_refl _) (.cells #[.int .i64 r] 3))
  have hi := contains_walk (W.alloc (.cells #[.int .i64 r] 3)) a _ cap W.heap.size l r rfl hl hc (by simp) (by simp)
  clear hl hw hc h
  by_cases hr : 0 ≤ r ∧ r ≤ 1114111
  · rw [show l.any (fun p => decide (p.1 ≤ r ∧ r ≤ p.2)) = Rg.hasB l r from by unfold Rg.hasB; rw [decide_eq_true hr, Bool.true_and]] at hi
    generalize Rg.hasB l r = X at hi ⊢
    have HI := Lib.hid hi
    clear hi
    obtain ⟨h0, h1⟩ := hr
    go_enter Try.func23, Try.ntmps23
    go_wp2_with fail
    refine (inside_yes r _ h0 h1).mono ?_
    rintro e w1 ⟨rfl, rfl⟩
    go_wp2_with fail
    refine HI.out.mono ?_
    rintro e w1 ⟨rfl, hb⟩
    have HBB := Lib.hid hb
    clear hb
    go_wp2
    go_ret
    exact ⟨rfl, ((Below.refl _ W).alloc (Nat.le_refl _) _).trans (HBB.out.mono (by simp))⟩
  · have HF : Hid (Rg.hasB l r = false) := Lib.hid (by unfold Rg.hasB; rw [decide_eq_false hr, Bool.false_and])
    have HR := Lib.hid hr
    clear hr hi
    go_enter Try.func23, Try.ntmps23
    go_wp2_with fail
    refine (inside_no r _ HR.out).mono ?_
    rintro e w1 ⟨rfl, rfl⟩
    go_wp2
    go_ret
    exact ⟨rg_ret_bool HF.out.symm, (Below.refl _ W).alloc (Nat.le_refl _) _⟩
end Go.Proofs.Ytfopcgbfbedcjaa
