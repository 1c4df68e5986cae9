/- slices.SortFunc at lists of ranges: the library's contract, laid over this translation. · The landed ranges: the contracts of inside, Has (with its closure) and Check. · slices.SortFunc by the ranges' beginnings, on a list that the call owns: a permutation, sorted. · The landed ranges: the contracts of Has and Check. · The landed ranges: sorted. -/
import Derived.Shelf.SlSortCmp.NoneTotal
import Derived.Test.YtmdpchiiamgnnaaGreatDoorProg
import Derived.Test.YtmdpchiiamgnnaaGreatDoorGp10
import Derived.Test.YtmdpchiiamgnnaaGreatDoorGp6
namespace Go.Proofs
open Go.Shelf
def Tryz.sortRg_ren : Go.Shelf.Ren := ⟨fun | 6 => 71 | 15 => 108 | 14 => 107 | 28 => 139 | 29 => 140 | 20 => 131 | 21 => 132 | 22 => 133 | 23 => 134 | 24 => 135 | 25 => 136 | 26 => 137 | 27 => 138 | 46 => 182 | 47 => 183 | 48 => 184 | 49 => 185 | 50 => 186 | 57 => 205 | n => n, fun | 22 => 23 | 24 => 47 | 25 => 86 | 3 => 3 | 39 => 78 | 0 => 0 | 53 => 147 | 55 => 149 | 4 => 4 | 46 => 141 | 45 => 140 | 50 => 106 | 5 => 5 | 9 => 9 | 66 => 167 | 70 => 171 | 76 => 189 | 77 => 55 | n => n, fun | n => n⟩
theorem Tryz.sortRg : Go.Proofs.SlLaysF0.n6 Tryz.prog Tryz.sortRg_ren := {
  mixed := by kernel_rfl
  f6 := ⟨Tryz.f71.name, by decide, Tryz.func71.trans (congrArg some (by kernel_rfl))⟩
  f14 := ⟨Tryz.f107.name, by decide, Tryz.func107.trans (congrArg some (by kernel_rfl))⟩
  f15 := Tryz.func108.trans (congrArg some (by kernel_rfl))
  f20 := ⟨Tryz.f131.name, by decide, Tryz.func131.trans (congrArg some (by kernel_rfl))⟩
  f21 := ⟨Tryz.f132.name, by decide, Tryz.func132.trans (congrArg some (by kernel_rfl))⟩
  f22 := ⟨Tryz.f133.name, by decide, Tryz.func133.trans (congrArg some (by kernel_rfl))⟩
  f23 := ⟨Tryz.f134.name, by decide, Tryz.func134.trans (congrArg some (by kernel_rfl))⟩
  f24 := ⟨Tryz.f135.name, by decide, Tryz.func135.trans (congrArg some (by kernel_rfl))⟩
  f25 := ⟨Tryz.f136.name, by decide, Tryz.func136.trans (congrArg some (by kernel_rfl))⟩
  f26 := ⟨Tryz.f137.name, by decide, Tryz.func137.trans (congrArg some (by kernel_rfl))⟩
  f27 := ⟨Tryz.f138.name, by decide, Tryz.func138.trans (congrArg some (by kernel_rfl))⟩
  f28 := Tryz.func139.trans (congrArg some (by kernel_rfl))
  f29 := Tryz.func140.trans (congrArg some (by kernel_rfl))
  f46 := ⟨Tryz.f182.name, by decide, Tryz.func182.trans (congrArg some (by kernel_rfl))⟩
  f47 := Tryz.func183.trans (congrArg some (by kernel_rfl))
  f48 := Tryz.func184.trans (congrArg some (by kernel_rfl))
  f49 := ⟨Tryz.f185.name, by decide, Tryz.func185.trans (congrArg some (by kernel_rfl))⟩
  f50 := ⟨Tryz.f186.name, by decide, Tryz.func186.trans (congrArg some (by kernel_rfl))⟩
  f57 := ⟨Tryz.f205.name, by decide, Tryz.func205.trans (congrArg some (by kernel_rfl))⟩
  t0 := Tryz.underlying0
  a0 := Tryz.isAgg0
  z0 := Tryz.sizeOf0
  v0 := Tryz.zeroValue0
  t3 := Tryz.underlying3
  a3 := Tryz.isAgg3
  z3 := Tryz.sizeOf3
  v3 := Tryz.zeroValue3
  t4 := Tryz.underlying4
  a4 := Tryz.isAgg4
  z4 := Tryz.sizeOf4
  v4 := Tryz.zeroValue4
  t5 := Tryz.underlying5
  a5 := Tryz.isAgg5
  z5 := Tryz.sizeOf5
  v5 := Tryz.zeroValue5
  t9 := Tryz.underlying9
  a9 := Tryz.isAgg9
  z9 := Tryz.sizeOf9
  v9 := Tryz.zeroValue9
  t22 := Tryz.underlying23
  a22 := Tryz.isAgg23
  z22 := Tryz.sizeOf23
  v22 := Tryz.zeroValue23
  t25 := Tryz.underlying86
  a25 := Tryz.isAgg86
  z25 := Tryz.sizeOf86
  v25 := Tryz.zeroValue86
  t39 := Tryz.underlying78
  a39 := Tryz.isAgg78
  z39 := Tryz.sizeOf78
  v39 := Tryz.zeroValue78
  t45 := Tryz.underlying140
  a45 := Tryz.isAgg140
  z45 := Tryz.sizeOf140
  v45 := Tryz.zeroValue140
  t46 := Tryz.underlying141
  a46 := Tryz.isAgg141
  z46 := Tryz.sizeOf141
  v46 := Tryz.zeroValue141
  t50 := Tryz.underlying106
  a50 := Tryz.isAgg106
  z50 := Tryz.sizeOf106
  v50 := Tryz.zeroValue106
  t53 := Tryz.underlying147
  a53 := Tryz.isAgg147
  z53 := Tryz.sizeOf147
  v53 := Tryz.zeroValue147
  t55 := Tryz.underlying149
  a55 := Tryz.isAgg149
  z55 := Tryz.sizeOf149
  v55 := Tryz.zeroValue149
  t66 := Tryz.underlying167
  a66 := Tryz.isAgg167
  z66 := Tryz.sizeOf167
  v66 := Tryz.zeroValue167
  t70 := Tryz.underlying171
  a70 := Tryz.isAgg171
  z70 := Tryz.sizeOf171
  v70 := Tryz.zeroValue171
  t76 := Tryz.underlying189
  a76 := Tryz.isAgg189
  z76 := Tryz.sizeOf189
  v76 := Tryz.zeroValue189
  t77 := Tryz.underlying55
  a77 := Tryz.isAgg55
  z77 := Tryz.sizeOf55
  v77 := Tryz.zeroValue55 }
end Go.Proofs
namespace Go.Proofs.YtmdpchiiamgnnaaGreatDoor
open Go.RowKit
set_option linter.unusedVariables false










































theorem any_true {l : List (Int × Int)} {k : Nat} {f : Int × Int → Bool} (hk : k < l.length) (h : f (l[k]?.getD (0, 0)) = true) : l.any f = true :=
  List.any_eq_true.2 ⟨l[k], List.getElem_mem hk, by rw [List.getElem?_eq_getElem hk] at h; exact h⟩




























































end Go.Proofs.YtmdpchiiamgnnaaGreatDoor
namespace Go.Proofs.YtmdpchiiamgnnaaGreatDoor
open Go.RowKit
set_option linter.unusedVariables false
def encR (x : Int × Int) : List Value := [.int .i64 x.1, .int .i64 x.2]
def cmpI (a b : Int) : Int := if a < b then -1 else if b < a then 1 else 0
def cmpR (x y : Int × Int) : Int := cmpI x.1 y.1
theorem cmpR_lt (x y : Int × Int) : ltOf cmpR x y = decide (x.1 < y.1) := by
  unfold ltOf cmpR cmpI
  by_cases h1 : x.1 < y.1
  · simp [h1]
  · by_cases h2 : y.1 < x.1 <;> simp [h1, h2]
theorem cmpR_swo : Go.Sort.SWO (ltOf cmpR) where
  irrefl x := by rw [cmpR_lt]; simp
  trans x y z h1 h2 := by rw [cmpR_lt] at *; simp at *; omega
  ntrans x y z h1 h2 := by rw [cmpR_lt] at *; simp at *; omega
set_option maxRecDepth 100000 in
set_option maxHeartbeats 1000000 in
theorem cmpInt (a b : Int) (w : World) : Calls Tryz.prog 73 #[.int .i64 a, .int .i64 b] w fun e w' => e = .returned (.int .i64 (cmpI a b)) ∧ w = w' := by
  by_cases h1 : a < b
  · go_enter Tryz.func73, Tryz.ntmps73
    go_wp2
    go_ret
    exact ⟨rg_ret_int (by rw [cmpI, if_pos h1]), rfl⟩
  · by_cases h2 : b < a
    · go_enter Tryz.func73, Tryz.ntmps73
      go_wp2
      go_ret
      exact ⟨rg_ret_int (by rw [cmpI, if_neg (by omega), if_pos h2]), rfl⟩
    · go_enter Tryz.func73, Tryz.ntmps73
      go_wp2
      go_ret
      exact ⟨rg_ret_int (by rw [cmpI, if_neg (by omega), if_neg (by omega)]), rfl⟩
set_option maxRecDepth 100000 in
set_option maxHeartbeats 1000000 in
theorem sortCl (x y : Int × Int) (W : World) : Calls Tryz.prog 72 #[.agg #[.int .i64 x.1, .int .i64 x.2], .agg #[.int .i64 y.1, .int .i64 y.2]] W
    fun e w' => e = .returned (.int .i64 (cmpR x y)) ∧ ∃ q os', w' = Go.Sort.grow (W.drewN q) os' := by
  have hcon := fun W' => cmpInt x.1 y.1 W'
  show Calls _ _ _ _ fun e w' => e = .returned (.int .i64 (cmpI x.1 y.1)) ∧ ∃ q os', w' = Go.Sort.grow (W.drewN q) os'
  generalize cmpI x.1 y.1 = r at hcon ⊢
  go_enter Tryz.func72, Tryz.ntmps72
  go_wp2_with (go_at_call 73; refine (hcon _).mono ?_; rintro e w' ⟨rfl, rfl⟩)
  go_ret
  exact ⟨rfl, 0, _, by rw [Go.Sort.alloc_eq_grow, Go.Sort.alloc_eq_grow, Go.Sort.grow_grow]; rfl⟩
theorem sort_below (w : World) (base g n : Nat) (d : Array (Int × Int)) (os : Array Obj) (hg : g < w.heap.size) (hb : base ≤ g) : Below base w (sortWorldK encR 2 w g 0 n d os) := by
  unfold sortWorldK Go.Sort.grow Go.Sort.putRowK Go.Sort.putRow Go.Sort.mapBlock Go.Sort.ahead
  refine ⟨rfl, rfl, rfl, by simp, fun k hk => ?_⟩
  show (w.heap.modify g _ ++ os)[k]? = _
  rw [Array.getElem?_append, Array.size_modify, if_pos (by omega), Array.getElem?_modify, if_neg (by omega)]
theorem sort_block (w : World) (g n : Nat) (d : Array (Int × Int)) (os : Array Obj) (cs : Array Value) (t : TypeId) (fr : Nat × Nat) (hg : w.heap[g]? = some (.cells cs t fr)) :
    (sortWorldK encR 2 w g 0 n d os).heap[g]? = some (.cells (Go.Sort.putCells id 0 (Go.Sort.flatK encR 2 d) cs) t fr) := by
  have hlt : g < w.heap.size := (Array.getElem?_eq_some_iff.1 hg).1
  unfold sortWorldK Go.Sort.grow Go.Sort.putRowK Go.Sort.putRow Go.Sort.mapBlock Go.Sort.ahead
  show (w.heap.modify g _ ++ os)[g]? = _
  rw [Array.getElem?_append, Array.size_modify, if_pos hlt, Array.getElem?_modify, if_pos rfl, hg]
  rfl
theorem flatK_get (l : List (Int × Int)) (j : Nat) (hj : j < l.length * 2) : (flat2 l)[j]? = some (Go.Sort.flatK encR 2 l.toArray)[j]! := by
  rw [Go.Sort.get_flatK _ _ _ _ (by simpa using hj)]
  have hf := flat2_get l (j / 2) (by omega)
  have e : l.toArray[j / 2]! = l[j / 2]?.getD (0, 0) := by
    rw [getElem!_pos l.toArray (j / 2) (by simp; omega), List.getElem?_eq_getElem (by omega)]; simp
  rw [e]
  rcases Nat.mod_two_eq_zero_or_one j with h0 | h1
  · rw [h0]; rw [show j / 2 * 2 = j by omega] at hf; exact hf.1
  · rw [h1]; rw [show j / 2 * 2 + 1 = j by omega] at hf; exact hf.2
theorem sort_holds (w : World) (base g cap : Nat) (l : List (Int × Int)) (h : RgOwn w base (.slice (some ⟨g, 0, none⟩) l.length cap) l) : Go.Sort.HoldsK encR 2 w g 0 l.toArray := by
  intro j hj
  have hj' : j < l.length * 2 := by simpa using hj
  rw [Nat.zero_add]
  refine ⟨?_, World.ownsRow.frozenAt h j⟩
  rw [World.ownsRow.cellAt h j (by simpa using hj'), flatK_get l j hj']; rfl
theorem putCells_take (cs : Array Value) (s : List (Int × Int)) (h : s.length * 2 ≤ cs.size) : (Go.Sort.putCells id 0 (Go.Sort.flatK encR 2 s.toArray) cs).toList.take (s.length * 2) = flat2 s := by
  apply List.ext_getElem?
  intro j
  rw [List.getElem?_take]
  by_cases hj : j < s.length * 2
  · rw [if_pos hj, flatK_get s j hj]
    unfold Go.Sort.putCells
    rw [Array.getElem?_toList, Array.getElem?_mapIdx, Array.getElem?_eq_getElem (by omega), Option.map_some, if_pos ⟨Nat.zero_le _, by simpa using hj⟩]
    rfl
  · rw [if_neg hj, List.getElem?_eq_none (by rw [flat2_len]; omega)]
theorem sort_own (W : World) (base : Nat) (v : Value) (l : List (Int × Int)) (h : RgOwn W base v l) (hb : base ≤ W.heap.size) (hl : l.length ≤ 8796093022208) :
    Calls Tryz.prog 71 #[v, .func (.func 72) #[] #[]] W
      fun e w' => e = .returned (.tuple #[]) ∧ ∃ s : List (Int × Int), s.Perm l ∧ s.Pairwise (fun a b => a.1 ≤ b.1) ∧ s.length = l.length ∧ RgOwn w' base v s ∧ Below base W w' := by
  rcases Nat.eq_zero_or_pos l.length with h0 | hp
  · have e0 : l = [] := List.eq_nil_of_length_eq_zero h0
    subst e0
    obtain ⟨a, cap, rfl⟩ := h.empty
    have hcon := AnyF.slices_SortFunc_none (P := Tryz.prog) (ρ := Tryz.sortRg_ren) { Tryz.sortRg with } a cap (.func (.func 72) #[] #[]) W
    change Calls Tryz.prog 71 _ _ _ at hcon
    refine hcon.mono ?_
    rintro e w' ⟨rfl, rfl⟩
    exact ⟨rfl, [], List.Perm.refl _, List.Pairwise.nil, rfl, h, Below.refl _ _⟩
  · have hown := h
    rcases hown.2 with ⟨_, hz⟩ | ⟨g, cap, cur, rfl, hbg, hg, hnc, hcm, hcs, _⟩
    · omega
    · have eg : ∀ args w, (callFunc 72 args).run Tryz.prog w = .ok (.enter 72 args) w := enters_of Tryz.func72 (by kernel_rfl) rfl
      have hlt : g < W.heap.size := (Array.getElem?_eq_some_iff.1 hg).1
      have hcon := AnyQ.slices_SortFunc Tryz.sortRg 2 Tryz.isAgg47 Tryz.sizeOf47 encR (fun _ => rfl) (fun x v hv => by simp [encR] at hv; rcases hv with rfl | rfl <;> rfl) cmpR cmpR_swo 72 #[] g 0 cap l.toArray W eg
        (fun _ _ _ _ x y => sortCl x y _) (sort_holds W base g cap l h) hlt (by simp; omega)
      change Calls Tryz.prog 71 _ _ _ at hcon
      rw [List.size_toArray] at hcon
      refine hcon.mono ?_
      rintro e w' ⟨rfl, d', n, os, hperm, hsort, rfl⟩
      obtain ⟨p1, p2, p3⟩ := hperm
      rw [List.size_toArray] at p1
      obtain ⟨s⟩ := d'
      have hs : s.length = l.length := by simpa using p1
      refine ⟨rfl, s, ?_, ?_, hs, ?_, sort_below W base g n _ os hlt hbg⟩
      · rw [← hs] at p3
        simp [hs] at p3
        rwa [List.take_of_length_le (by omega)] at p3
      · rw [List.pairwise_iff_getElem]
        intro i j hi hj hij
        have := hsort i j (Nat.zero_le _) hij (by omega)
        rw [cmpR_lt, getElem!_pos (⟨s⟩ : Array (Int × Int)) j hj, getElem!_pos (⟨s⟩ : Array (Int × Int)) i hi] at this
        have h2 : ¬ (s[j].1 < s[i].1) := by simpa using this
        show s[i].1 ≤ s[j].1
        omega
      · refine ⟨by rw [flat2_len], .inr ⟨g, cap, _, by rw [hs], hbg, sort_block W g n ⟨s⟩ os cur _ _ hg, by rw [hs]; exact hnc, hcm, ?_, ?_⟩⟩
        · simp [Go.Sort.putCells, hcs]
        · exact putCells_take cur s (by rw [hcs, hs]; omega)
end Go.Proofs.YtmdpchiiamgnnaaGreatDoor
namespace Go.Proofs.YtmdpchiiamgnnaaGreatDoor
open Go.RowKit
set_option linter.unusedVariables false






















































end Go.Proofs.YtmdpchiiamgnnaaGreatDoor
namespace Go.Proofs.YtmdpchiiamgnnaaGreatDoor
open Go.RowKit
set_option linter.unusedVariables false
theorem clip_yes {p : Int × Int} {u v : Int} (h1 : max p.1 0 = u) (h2 : min p.2 1114111 = v) (h : u ≤ v) : Rg.clip1 p = some (u, v) := by
  unfold Rg.clip1; rw [h1, h2, if_pos h]
theorem clip_no {p : Int × Int} {u v : Int} (h1 : max p.1 0 = u) (h2 : min p.2 1114111 = v) (h : ¬ u ≤ v) : Rg.clip1 p = none := by
  unfold Rg.clip1; rw [h1, h2, if_neg h]
set_option maxRecDepth 100000 in
set_option maxHeartbeats 8000000 in
theorem sorted_any (W : World) (v : Value) (l : List (Int × Int)) (h : RRow W v l) :
    Calls Tryz.prog 42 #[v] W fun e w' => ∃ v' s, e = .returned v' ∧ Rg.Srt s ∧ Hid (∀ q, Rg.memL s q ↔ Rg.hasB l q = true) ∧ s.length ≤ 8796093022208 ∧ RgOwn w' W.heap.size v' s ∧ Below W.heap.size W w' := by
  obtain ⟨i0, hi, hz0, hz1, hz2⟩ := info_parts Tryz.infoRange
  obtain ⟨a, cap, rfl, hl, hw, hc⟩ := h
  have HC := Lib.hid hc
  obtain ⟨n, hn⟩ : ∃ n, l.length = n := ⟨_, rfl⟩
  have HN := Lib.hid hn
  rw [hn] at hl HC ⊢
  clear hn hc hw
  go_enter Tryz.func42, Tryz.ntmps42
  go_wp2
  go_loopw [3, 8] (fun V i wr => ∃ k : Nat, k ≤ n ∧ i = .int .i64 k ∧ RgOwn wr W.heap.size V (Rg.clipL (l.take k)) ∧ Below W.heap.size W wr) (fun _ i _ => n - (intOf i).toNat)
  case atStart => exact ⟨0, Nat.zero_le _, rfl, RgOwn.nil, Below.refl _ _⟩
  case round =>
    obtain ⟨k, hk, rfl, hO, hB⟩ := hrel
    by_cases hlt : k < n
    · obtain ⟨b, off, rfl, hb, hc1, hc2⟩ := HC.out k hlt
      rw [← hB.cell (p := ⟨b, off + k * 2, none⟩) hb] at hc1
      rw [← hB.cell (p := ⟨b, off + k * 2 + 1, none⟩) hb] at hc2
      have hkl : k < l.length := by rw [HN.out]; exact hlt
      have ht := Rg.clip_take_succ l k hkl
      obtain ⟨p, hp⟩ : ∃ p, l[k]?.getD (0, 0) = p := ⟨_, rfl⟩
      rw [hp] at hc1 hc2 ht
      have hcl := Rg.clip_len (l.take k)
      rw [List.length_take] at hcl
      obtain ⟨m, hm⟩ : ∃ m, (Rg.clipL (l.take k)).length = m := ⟨_, rfl⟩
      have hmk : m ≤ k := by omega
      have HM := Lib.hid hm
      have HT := Lib.hid ht
      have HB := Lib.hid hB
      have HO := Lib.hid hO
      have hsz := hB.size
      clear hp ht hkl hm hcl hB hO
      obtain ⟨x, y⟩ := p
      dsimp only at hc1 hc2
      by_cases hle : max x 0 ≤ min y 1114111
      · have HT' : Hid (Rg.clipL (l.take (k + 1)) = Rg.clipL (l.take k) ++ [(max x 0, min y 1114111)]) := Lib.hid (by rw [HT.out, clip_yes rfl rfl hle]; rfl)
        have hown := HO.out
        unfold RgOwn at hown
        rw [HM.out] at hown
        go_wp2_with (at_builtin; (refine wpList_append_own _ (by rfl) _ _ 23 (by rfl) W.heap.size 47 i0 (.agg #[.int .i64 0, .int .i64 0]) 2 16 Tryz.underlying23 hi hz0 hz1 hz2 rfl (by decide) _ m (flat2 (Rg.clipL (l.take k))) (by rfl) ((hown.alloc _).alloc _) ⟨wr.heap.size + 1, 0, none⟩ 1 1 [.int .i64 (max x 0), .int .i64 (min y 1114111)] (by rfl) rfl ?c1 (by simp [Value.oneCell']) (by unfold maxLen; omega) (by omega) (by simp; omega) ?_))
        case c1 => exact World.news_of_block (cs := #[.int .i64 (max x 0), .int .i64 (min y 1114111)]) (heap_new2 _ _ _)
        intro v1 w1 hown' hgrow _
        have hO2 : RgOwn w1 W.heap.size v1 (Rg.clipL (l.take (k + 1))) := by
          rw [HT'.out]; unfold RgOwn; rw [List.length_append, flat2_snoc, HM.out]; exact hown'
        have hB2 := ((HB.out.alloc hsz _).alloc (by simp; omega) _).grown hgrow (by simp; omega) (fun q hq => (hown.lt q hq).1)
        have HO2 := Lib.hid hO2
        have HB2 := Lib.hid hB2
        clear hO2 hown' hgrow hown hB2 hle
        go_wp2
        go_roundw
        case rel => exact ⟨k + 1, by omega, by go_num, HO2.out, HB2.out⟩
        case measure => simp [intOf]; omega
      · have HT' : Hid (Rg.clipL (l.take (k + 1)) = Rg.clipL (l.take k)) := Lib.hid (by rw [HT.out, clip_no rfl rfl hle]; simp)
        go_wp2
        go_roundw
        case rel => exact ⟨k + 1, by omega, by go_num, by rw [HT'.out]; exact HO.out.alloc _, HB.out.alloc hsz _⟩
        case measure => simp [intOf]; omega
    · obtain rfl : k = n := by omega
      rw [List.take_of_length_le (by rw [HN.out]; exact Nat.le_refl _)] at hO
      have HO := Lib.hid hO
      have HB := Lib.hid hB
      have hsz := hB.size
      have hcl := Rg.clip_len l
      rw [HN.out] at hcl
      clear hO hB
      go_wp2_with fail
      refine (sort_own _ W.heap.size _ _ HO.out hsz (by omega)).mono ?_
      rintro e w1 ⟨rfl, s, hp, hs, hln, ho, hb⟩
      have HP := Lib.hid hp
      have HS := Lib.hid hs
      have HLN := Lib.hid hln
      have HO1 := Lib.hid ho
      have HB1 := Lib.hid hb
      clear hp hs hln ho hb
      go_wp2
      go_ret
      exact ⟨_, s, rfl, ⟨fun p h => Rg.clip_ok l p (HP.out.mem_iff.1 h), HS.out⟩, Lib.hid (fun q => by rw [Rg.memL_perm HP.out, Rg.clip_mem]), by rw [HLN.out]; omega, HO1.out, HB.out.trans HB1.out⟩
end Go.Proofs.YtmdpchiiamgnnaaGreatDoor
