/- slices.SortFunc by the ranges' beginnings, on a list that the call owns: a permutation, sorted. -/
import Derived.Test.YtimgdooelbhjfaaGreatDoorSort
import Derived.Test.YtimgdooelbhjfaaGreatDoorRnA
namespace Go.Proofs.YtimgdooelbhjfaaGreatDoor
open Go.RowKit
set_option linter.unusedVariables false
def encR (x : Int × Int) : List Value := [.int .i64 x.1, .int .i64 x.2]
def cmpI (a b : Int) : Int := if a < b then -1 else if b < a then 1 else 0
def cmpR (x y : Int × Int) : Int := cmpI x.1 y.1
theorem cmpR_lt (x y : Int × Int) : ltOf cmpR x y = decide (x.1 < y.1) := by
  unfold ltOf cmpR cmpI
  by_cases h1 : x.1 < y.1
  · simp [h1]
  · by_cases h2 : y.1 < x.1 <;> simp [h1, h2]
theorem cmpR_swo : Go.Sort.SWO (ltOf cmpR) where
  irrefl x := by rw [cmpR_lt]; simp
  trans x y z h1 h2 := by rw [cmpR_lt] at *; simp at *; omega
  ntrans x y z h1 h2 := by rw [cmpR_lt] at *; simp at *; omega
set_option maxRecDepth 100000 in
set_option maxHeartbeats 1000000 in
theorem cmpInt (a b : Int) (w : World) : Calls Tryz.prog 95 #[.int .i64 a, .int .i64 b] w fun e w' => e = .returned (.int .i64 (cmpI a b)) ∧ w = w' := by
  by_cases h1 : a < b
  · go_enter Tryz.func95, Tryz.ntmps95
    go_wp2
    go_ret
    exact ⟨rg_ret_int (by rw [cmpI, if_pos h1]), rfl⟩
  · by_cases h2 : b < a
    · go_enter Tryz.func95, Tryz.ntmps95
      go_wp2
      go_ret
      exact ⟨rg_ret_int (by rw [cmpI, if_neg (by omega), if_pos h2]), rfl⟩
    · go_enter Tryz.func95, Tryz.ntmps95
      go_wp2
      go_ret
      exact ⟨rg_ret_int (by rw [cmpI, if_neg (by omega), if_neg (by omega)]), rfl⟩
set_option maxRecDepth 100000 in
set_option maxHeartbeats 1000000 in
theorem sortCl (x y : Int × Int) (W : World) : Calls Tryz.prog 94 #[.agg #[.int .i64 x.1, .int .i64 x.2], .agg #[.int .i64 y.1, .int .i64 y.2]] W
    fun e w' => e = .returned (.int .i64 (cmpR x y)) ∧ ∃ q os', w' = Go.Sort.grow (W.drewN q) os' := by
  have hcon := fun W' => cmpInt x.1 y.1 W'
  show Calls _ _ _ _ fun e w' => e = .returned (.int .i64 (cmpI x.1 y.1)) ∧ ∃ q os', w' = Go.Sort.grow (W.drewN q) os'
  generalize cmpI x.1 y.1 = r at hcon ⊢
  go_enter Tryz.func94, Tryz.ntmps94
  go_wp2_with (go_at_call 95; refine (hcon _).mono ?_; rintro e w' ⟨rfl, rfl⟩)
  go_ret
  exact ⟨rfl, 0, _, by rw [Go.Sort.alloc_eq_grow, Go.Sort.alloc_eq_grow, Go.Sort.grow_grow]; rfl⟩
theorem sort_below (w : World) (base g n : Nat) (d : Array (Int × Int)) (os : Array Obj) (hg : g < w.heap.size) (hb : base ≤ g) : Below base w (sortWorldK encR 2 w g 0 n d os) := by
  unfold sortWorldK Go.Sort.grow Go.Sort.putRowK Go.Sort.putRow Go.Sort.mapBlock Go.Sort.ahead
  refine ⟨rfl, rfl, rfl, by simp, fun k hk => ?_⟩
  show (w.heap.modify g _ ++ os)[k]? = _
  rw [Array.getElem?_append, Array.size_modify, if_pos (by omega), Array.getElem?_modify, if_neg (by omega)]
theorem sort_block (w : World) (g n : Nat) (d : Array (Int × Int)) (os : Array Obj) (cs : Array Value) (t : TypeId) (fr : Nat × Nat) (hg : w.heap[g]? = some (.cells cs t fr)) :
    (sortWorldK encR 2 w g 0 n d os).heap[g]? = some (.cells (Go.Sort.putCells id 0 (Go.Sort.flatK encR 2 d) cs) t fr) := by
  have hlt : g < w.heap.size := (Array.getElem?_eq_some_iff.1 hg).1
  unfold sortWorldK Go.Sort.grow Go.Sort.putRowK Go.Sort.putRow Go.Sort.mapBlock Go.Sort.ahead
  show (w.heap.modify g _ ++ os)[g]? = _
  rw [Array.getElem?_append, Array.size_modify, if_pos hlt, Array.getElem?_modify, if_pos rfl, hg]
  rfl
theorem flatK_get (l : List (Int × Int)) (j : Nat) (hj : j < l.length * 2) : (flat2 l)[j]? = some (Go.Sort.flatK encR 2 l.toArray)[j]! := by
  rw [Go.Sort.get_flatK _ _ _ _ (by simpa using hj)]
  have hf := flat2_get l (j / 2) (by omega)
  have e : l.toArray[j / 2]! = l[j / 2]?.getD (0, 0) := by
    rw [getElem!_pos l.toArray (j / 2) (by simp; omega), List.getElem?_eq_getElem (by omega)]; simp
  rw [e]
  rcases Nat.mod_two_eq_zero_or_one j with h0 | h1
  · rw [h0]; rw [show j / 2 * 2 = j by omega] at hf; exact hf.1
  · rw [h1]; rw [show j / 2 * 2 + 1 = j by omega] at hf; exact hf.2
theorem sort_holds (w : World) (base g cap : Nat) (l : List (Int × Int)) (h : RgOwn w base (.slice (some ⟨g, 0, none⟩) l.length cap) l) : Go.Sort.HoldsK encR 2 w g 0 l.toArray := by
  intro j hj
  have hj' : j < l.length * 2 := by simpa using hj
  rw [Nat.zero_add]
  refine ⟨?_, World.ownsRow.frozenAt h j⟩
  rw [World.ownsRow.cellAt h j (by simpa using hj'), flatK_get l j hj']; rfl
theorem putCells_take (cs : Array Value) (s : List (Int × Int)) (h : s.length * 2 ≤ cs.size) : (Go.Sort.putCells id 0 (Go.Sort.flatK encR 2 s.toArray) cs).toList.take (s.length * 2) = flat2 s := by
  apply List.ext_getElem?
  intro j
  rw [List.getElem?_take]
  by_cases hj : j < s.length * 2
  · rw [if_pos hj, flatK_get s j hj]
    unfold Go.Sort.putCells
    rw [Array.getElem?_toList, Array.getElem?_mapIdx, Array.getElem?_eq_getElem (by omega), Option.map_some, if_pos ⟨Nat.zero_le _, by simpa using hj⟩]
    rfl
  · rw [if_neg hj, List.getElem?_eq_none (by rw [flat2_len]; omega)]
theorem sort_own (W : World) (base : Nat) (v : Value) (l : List (Int × Int)) (h : RgOwn W base v l) (hb : base ≤ W.heap.size) (hl : l.length ≤ 8796093022208) :
    Calls Tryz.prog 93 #[v, .func (.func 94) #[] #[]] W
      fun e w' => e = .returned (.tuple #[]) ∧ ∃ s : List (Int × Int), s.Perm l ∧ s.Pairwise (fun a b => a.1 ≤ b.1) ∧ s.length = l.length ∧ RgOwn w' base v s ∧ Below base W w' := by
  rcases Nat.eq_zero_or_pos l.length with h0 | hp
  · have e0 : l = [] := List.eq_nil_of_length_eq_zero h0
    subst e0
    obtain ⟨a, cap, rfl⟩ := h.empty
    have hcon := AnyF.slices_SortFunc_none (P := Tryz.prog) (ρ := Tryz.sortRg_ren) { Tryz.sortRg with } a cap (.func (.func 94) #[] #[]) W
    change Calls Tryz.prog 93 _ _ _ at hcon
    refine hcon.mono ?_
    rintro e w' ⟨rfl, rfl⟩
    exact ⟨rfl, [], List.Perm.refl _, List.Pairwise.nil, rfl, h, Below.refl _ _⟩
  · have hown := h
    rcases hown.2 with ⟨_, hz⟩ | ⟨g, cap, cur, rfl, hbg, hg, hnc, hcm, hcs, _⟩
    · omega
    · have eg : ∀ args w, (callFunc 94 args).run Tryz.prog w = .ok (.enter 94 args) w := enters_of Tryz.func94 (by kernel_rfl) rfl
      have hlt : g < W.heap.size := (Array.getElem?_eq_some_iff.1 hg).1
      have hcon := AnyQ.slices_SortFunc Tryz.sortRg 2 Tryz.isAgg42 Tryz.sizeOf42 encR (fun _ => rfl) (fun x v hv => by simp [encR] at hv; rcases hv with rfl | rfl <;> rfl) cmpR cmpR_swo 94 #[] g 0 cap l.toArray W eg
        (fun _ _ _ _ x y => sortCl x y _) (sort_holds W base g cap l h) hlt (by simp; omega)
      change Calls Tryz.prog 93 _ _ _ at hcon
      rw [List.size_toArray] at hcon
      refine hcon.mono ?_
      rintro e w' ⟨rfl, d', n, os, hperm, hsort, rfl⟩
      obtain ⟨p1, p2, p3⟩ := hperm
      rw [List.size_toArray] at p1
      obtain ⟨s⟩ := d'
      have hs : s.length = l.length := by simpa using p1
      refine ⟨rfl, s, ?_, ?_, hs, ?_, sort_below W base g n _ os hlt hbg⟩
      · rw [← hs] at p3
        simp [hs] at p3
        rwa [List.take_of_length_le (by omega)] at p3
      · rw [List.pairwise_iff_getElem]
        intro i j hi hj hij
        have := hsort i j (Nat.zero_le _) hij (by omega)
        rw [cmpR_lt, getElem!_pos (⟨s⟩ : Array (Int × Int)) j hj, getElem!_pos (⟨s⟩ : Array (Int × Int)) i hi] at this
        have h2 : ¬ (s[j].1 < s[i].1) := by simpa using this
        show s[i].1 ≤ s[j].1
        omega
      · refine ⟨by rw [flat2_len], .inr ⟨g, cap, _, by rw [hs], hbg, sort_block W g n ⟨s⟩ os cur _ _ hg, by rw [hs]; exact hnc, hcm, ?_, ?_⟩⟩
        · simp [Go.Sort.putCells, hcs]
        · exact putCells_take cur s (by rw [hcs, hs]; omega)
end Go.Proofs.YtimgdooelbhjfaaGreatDoor
