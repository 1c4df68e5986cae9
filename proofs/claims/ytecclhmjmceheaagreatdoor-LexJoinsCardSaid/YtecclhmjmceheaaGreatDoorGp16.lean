/- The landed bracket: Number. · slices.SortFunc at lists of ranges: the library's contract, laid over this translation. · The landed ranges: the contracts of inside, Has (with its closure) and Check. · slices.SortFunc by the ranges' beginnings, on a list that the call owns: a permutation, sorted. -/
import Derived.Test.YtecclhmjmceheaaGreatDoorGp15
import Derived.Shelf.SlSortCmp.NoneTotal
import Derived.Test.YtecclhmjmceheaaGreatDoorProg
import Derived.Test.YtecclhmjmceheaaGreatDoorGp10
import Derived.Test.YtecclhmjmceheaaGreatDoorGp6
namespace Go.Proofs.YtecclhmjmceheaaGreatDoor
open Go.RowKit
set_option linter.unusedVariables false
set_option maxRecDepth 100000 in
set_option maxHeartbeats 4000000 in
theorem bNumber_any (W : World) (s : ByteArray) (hs : s.size ≤ 140737488351232) : Calls Tryz.prog 89 #[.string s] W fun e w' =>
    e = .returned (.tuple #[.int .i64 (Br.num (Utf.nums s)).1, .int .i64 (Br.num (Utf.nums s)).2.1, .int .i64 (Br.num (Utf.nums s)).2.2]) ∧ W = w' := by
  have hp := hasPre1 W s 92 (by decide)
  rw [show (((92 : UInt8).toNat : Nat) : Int) = 92 from rfl] at hp
  have hnum : Br.num (Utf.nums s) = (if (Utf.nums s)[0]?.getD 0 ≠ 92 then (0, 0, 3) else if s.size = 1 then (0, 0, 82) else if (Utf.nums s)[1]?.getD 0 ≠ 120 then Br.plain ((Utf.nums s)[1]?.getD 0) else if (Utf.nums s)[2]?.getD 0 = 123 then Br.braced (Utf.nums s) else Br.two (Utf.nums s)) := by
    unfold Br.num
    rw [Utf.nums_length]
  obtain ⟨R, hR⟩ : ∃ R, Br.num (Utf.nums s) = R := ⟨_, rfl⟩
  rw [hR] at hnum ⊢
  have HN := Lib.hid hnum
  by_cases c0 : ¬ (Utf.nums s)[0]?.getD 0 = 92
  · have HE : Hid (R = (0, 0, 3)) := Lib.hid (by rw [hnum, if_pos c0])
    rw [decide_eq_false c0] at hp
    have HP := Lib.hid hp
    clear hnum hp c0 hR
    go_enter Tryz.func89, Tryz.ntmps89
    go_wp2_with (go_at_call 32; refine HP.out.mono ?_; rintro e w' ⟨rfl, rfl⟩)
    go_ret3
    exact ⟨by rw [HE.out]; rfl, rfl⟩
  have c0' : (Utf.nums s)[0]?.getD 0 = 92 := by omega
  rw [decide_eq_true c0'] at hp
  have HP := Lib.hid hp
  have h0 : 0 < s.size := by
    rcases Nat.lt_or_ge 0 s.size with h | h
    · exact h
    · rw [List.getElem?_eq_none (by rw [Utf.nums_length]; omega)] at c0'; cases c0'
  by_cases c1 : s.size = 1
  · have HE : Hid (R = (0, 0, 82)) := Lib.hid (by rw [hnum, if_neg (by omega), if_pos c1])
    have h1 : ((s.size : Int) == 1) = true := by simp [c1]
    clear hnum hp c0 c0' hR c1
    go_enter Tryz.func89, Tryz.ntmps89
    go_wp2_with (go_at_call 32; refine HP.out.mono ?_; rintro e w' ⟨rfl, rfl⟩)
    go_ret3
    exact ⟨by rw [HE.out]; rfl, rfl⟩
  have h1 : ((s.size : Int) == 1) = false := by simp; omega
  have h2 : 1 < s.size := by omega
  have h2i : (1 : Int) < (s.size : Int) := by omega
  have hb : s[1].toNat < 256 := UInt8.toNat_lt _
  have hat : (Utf.nums s)[1]?.getD 0 = (s[1].toNat : Int) := Utf.nums_at s 1 h2
  rw [if_neg (by omega), if_neg c1, hat] at hnum
  by_cases c2 : (s[1].toNat : Int) ≠ 120
  · rw [if_pos c2] at hnum
    have HPL := Lib.hid (bPlain_any W (s[1].toNat : Int) (by omega) (by omega))
    rw [← hnum] at HPL
    have h3 : ((s[1].toNat : Int) != 120) = true := by simpa using c2
    clear hnum hp c0 c0' hR c1 c2 hat
    go_enter Tryz.func89, Tryz.ntmps89
    go_wp2_with fail
    refine HP.out.mono ?_
    rintro e w' ⟨rfl, rfl⟩
    go_wp2_with fail
    refine HPL.out.mono ?_
    rintro e w' ⟨rfl, rfl⟩
    go_wp2
    go_ret3
    exact ⟨rfl, rfl⟩
  have h3 : ((s[1].toNat : Int) != 120) = false := by simp; omega
  rw [if_neg c2] at hnum
  have hp2 := hasPre1 W (s.extract 2 s.size) 123 (by decide)
  rw [show (((123 : UInt8).toNat : Nat) : Int) = 123 from rfl, tail_drop, List.getElem?_drop] at hp2
  have h4 : (2 : Int) ≤ (s.size : Int) := by omega
  by_cases c3 : (Utf.nums s)[2]?.getD 0 = 123
  · rw [if_pos c3] at hnum
    rw [decide_eq_true c3] at hp2
    have h5 : 3 ≤ s.size := by
      rcases Nat.lt_or_ge 2 s.size with h | h
      · exact h
      · rw [List.getElem?_eq_none (by rw [Utf.nums_length]; omega)] at c3; cases c3
    have HBR := Lib.hid (bBraced_any W s hs h5)
    rw [← hnum] at HBR
    have HP2 := Lib.hid hp2
    clear hnum hp c0 c0' hR c1 c2 hat hp2 c3
    go_enter Tryz.func89, Tryz.ntmps89
    go_wp2_with fail
    refine HP.out.mono ?_
    rintro e w' ⟨rfl, rfl⟩
    go_wp2_with fail
    refine HP2.out.mono ?_
    rintro e w' ⟨rfl, rfl⟩
    go_wp2_with fail
    refine HBR.out.mono ?_
    rintro e w' ⟨rfl, rfl⟩
    go_wp2
    go_ret3
    exact ⟨rfl, rfl⟩
  rw [if_neg c3] at hnum
  rw [decide_eq_false c3] at hp2
  have HP2 := Lib.hid hp2
  have hD := bDigits_any W (s.extract 2 s.size) 2 (by rw [ByteArray.size_extract]; omega) (by omega)
  rw [tail_drop] at hD
  have htwo : R = (if Br.cnt ((Utf.nums s).drop 2) 2 = 2 then (Br.val ((Utf.nums s).drop 2) 2, 4, 0) else if Br.cnt ((Utf.nums s).drop 2) 2 + 2 = s.size then (0, 0, 82) else (0, 0, 80)) := by
    rw [hnum]
    unfold Br.two
    dsimp only
    rw [Utf.nums_length]
  have hc := Br.cnt_le ((Utf.nums s).drop 2) 2
  rw [List.length_drop, Utf.nums_length] at hc
  have hsz : (s.extract 2 s.size).size = s.size - 2 := by rw [ByteArray.size_extract]; omega
  obtain ⟨K, hK⟩ : ∃ K, Br.cnt ((Utf.nums s).drop 2) 2 = K := ⟨_, rfl⟩
  rw [hK] at hD htwo hc
  have HD := Lib.hid hD
  have HT := Lib.hid htwo
  clear hnum hp c0 c0' hR c1 c2 hat hp2 c3 hD htwo hK
  by_cases k2 : K = 2
  · subst k2
    have HE : Hid (R = (Br.val ((Utf.nums s).drop 2) 2, 4, 0)) := Lib.hid (by rw [HT.out, if_pos rfl])
    go_enter Tryz.func89, Tryz.ntmps89
    go_wp2_with fail
    refine HP.out.mono ?_
    rintro e w' ⟨rfl, rfl⟩
    go_wp2_with fail
    refine HP2.out.mono ?_
    rintro e w' ⟨rfl, rfl⟩
    go_wp2_with fail
    refine HD.out.mono ?_
    rintro e w' ⟨rfl, rfl⟩
    go_wp2
    go_ret3
    exact ⟨by rw [HE.out]; rfl, rfl⟩
  have h5 : ((K : Int) == 2) = false := by simp; omega
  by_cases k3 : K + 2 = s.size
  · have HE : Hid (R = (0, 0, 82)) := Lib.hid (by rw [HT.out, if_neg k2, if_pos k3])
    have h6 : ((K : Int) == ((s.size - 2 : Nat) : Int)) = true := by simp; omega
    clear hsz k2 k3 hc
    go_enter Tryz.func89, Tryz.ntmps89
    go_wp2_with fail
    refine HP.out.mono ?_
    rintro e w' ⟨rfl, rfl⟩
    go_wp2_with fail
    refine HP2.out.mono ?_
    rintro e w' ⟨rfl, rfl⟩
    go_wp2_with fail
    refine HD.out.mono ?_
    rintro e w' ⟨rfl, rfl⟩
    go_wp2
    go_ret3
    exact ⟨by rw [HE.out]; rfl, rfl⟩
  · have HE : Hid (R = (0, 0, 80)) := Lib.hid (by rw [HT.out, if_neg k2, if_neg k3])
    have h6 : ((K : Int) == ((s.size - 2 : Nat) : Int)) = false := by simp; omega
    clear hsz k2 k3 hc
    go_enter Tryz.func89, Tryz.ntmps89
    go_wp2_with fail
    refine HP.out.mono ?_
    rintro e w' ⟨rfl, rfl⟩
    go_wp2_with fail
    refine HP2.out.mono ?_
    rintro e w' ⟨rfl, rfl⟩
    go_wp2_with fail
    refine HD.out.mono ?_
    rintro e w' ⟨rfl, rfl⟩
    go_wp2
    go_ret3
    exact ⟨by rw [HE.out]; rfl, rfl⟩
end Go.Proofs.YtecclhmjmceheaaGreatDoor
namespace Go.Proofs
open Go.Shelf
def Tryz.sortRg_ren : Go.Shelf.Ren := ⟨fun | 6 => 204 | 15 => 237 | 14 => 236 | 28 => 268 | 29 => 269 | 20 => 260 | 21 => 261 | 22 => 262 | 23 => 263 | 24 => 264 | 25 => 265 | 26 => 266 | 27 => 267 | 46 => 284 | 47 => 285 | 48 => 286 | 49 => 287 | 50 => 288 | 57 => 295 | n => n, fun | 22 => 33 | 24 => 103 | 25 => 201 | 3 => 3 | 39 => 53 | 0 => 0 | 53 => 116 | 55 => 119 | 4 => 4 | 46 => 241 | 45 => 240 | 50 => 132 | 5 => 5 | 9 => 9 | 66 => 266 | 70 => 270 | 76 => 286 | 77 => 61 | n => n, fun | n => n⟩
theorem Tryz.sortRg : Go.Proofs.SlLaysF0.n6 Tryz.prog Tryz.sortRg_ren := {
  mixed := by kernel_rfl
  f6 := ⟨Tryz.f204.name, by decide, Tryz.func204.trans (congrArg some (by kernel_rfl))⟩
  f14 := ⟨Tryz.f236.name, by decide, Tryz.func236.trans (congrArg some (by kernel_rfl))⟩
  f15 := Tryz.func237.trans (congrArg some (by kernel_rfl))
  f20 := ⟨Tryz.f260.name, by decide, Tryz.func260.trans (congrArg some (by kernel_rfl))⟩
  f21 := ⟨Tryz.f261.name, by decide, Tryz.func261.trans (congrArg some (by kernel_rfl))⟩
  f22 := ⟨Tryz.f262.name, by decide, Tryz.func262.trans (congrArg some (by kernel_rfl))⟩
  f23 := ⟨Tryz.f263.name, by decide, Tryz.func263.trans (congrArg some (by kernel_rfl))⟩
  f24 := ⟨Tryz.f264.name, by decide, Tryz.func264.trans (congrArg some (by kernel_rfl))⟩
  f25 := ⟨Tryz.f265.name, by decide, Tryz.func265.trans (congrArg some (by kernel_rfl))⟩
  f26 := ⟨Tryz.f266.name, by decide, Tryz.func266.trans (congrArg some (by kernel_rfl))⟩
  f27 := ⟨Tryz.f267.name, by decide, Tryz.func267.trans (congrArg some (by kernel_rfl))⟩
  f28 := Tryz.func268.trans (congrArg some (by kernel_rfl))
  f29 := Tryz.func269.trans (congrArg some (by kernel_rfl))
  f46 := ⟨Tryz.f284.name, by decide, Tryz.func284.trans (congrArg some (by kernel_rfl))⟩
  f47 := Tryz.func285.trans (congrArg some (by kernel_rfl))
  f48 := Tryz.func286.trans (congrArg some (by kernel_rfl))
  f49 := ⟨Tryz.f287.name, by decide, Tryz.func287.trans (congrArg some (by kernel_rfl))⟩
  f50 := ⟨Tryz.f288.name, by decide, Tryz.func288.trans (congrArg some (by kernel_rfl))⟩
  f57 := ⟨Tryz.f295.name, by decide, Tryz.func295.trans (congrArg some (by kernel_rfl))⟩
  t0 := Tryz.underlying0
  a0 := Tryz.isAgg0
  z0 := Tryz.sizeOf0
  v0 := Tryz.zeroValue0
  t3 := Tryz.underlying3
  a3 := Tryz.isAgg3
  z3 := Tryz.sizeOf3
  v3 := Tryz.zeroValue3
  t4 := Tryz.underlying4
  a4 := Tryz.isAgg4
  z4 := Tryz.sizeOf4
  v4 := Tryz.zeroValue4
  t5 := Tryz.underlying5
  a5 := Tryz.isAgg5
  z5 := Tryz.sizeOf5
  v5 := Tryz.zeroValue5
  t9 := Tryz.underlying9
  a9 := Tryz.isAgg9
  z9 := Tryz.sizeOf9
  v9 := Tryz.zeroValue9
  t22 := Tryz.underlying33
  a22 := Tryz.isAgg33
  z22 := Tryz.sizeOf33
  v22 := Tryz.zeroValue33
  t25 := Tryz.underlying201
  a25 := Tryz.isAgg201
  z25 := Tryz.sizeOf201
  v25 := Tryz.zeroValue201
  t39 := Tryz.underlying53
  a39 := Tryz.isAgg53
  z39 := Tryz.sizeOf53
  v39 := Tryz.zeroValue53
  t45 := Tryz.underlying240
  a45 := Tryz.isAgg240
  z45 := Tryz.sizeOf240
  v45 := Tryz.zeroValue240
  t46 := Tryz.underlying241
  a46 := Tryz.isAgg241
  z46 := Tryz.sizeOf241
  v46 := Tryz.zeroValue241
  t50 := Tryz.underlying132
  a50 := Tryz.isAgg132
  z50 := Tryz.sizeOf132
  v50 := Tryz.zeroValue132
  t53 := Tryz.underlying116
  a53 := Tryz.isAgg116
  z53 := Tryz.sizeOf116
  v53 := Tryz.zeroValue116
  t55 := Tryz.underlying119
  a55 := Tryz.isAgg119
  z55 := Tryz.sizeOf119
  v55 := Tryz.zeroValue119
  t66 := Tryz.underlying266
  a66 := Tryz.isAgg266
  z66 := Tryz.sizeOf266
  v66 := Tryz.zeroValue266
  t70 := Tryz.underlying270
  a70 := Tryz.isAgg270
  z70 := Tryz.sizeOf270
  v70 := Tryz.zeroValue270
  t76 := Tryz.underlying286
  a76 := Tryz.isAgg286
  z76 := Tryz.sizeOf286
  v76 := Tryz.zeroValue286
  t77 := Tryz.underlying61
  a77 := Tryz.isAgg61
  z77 := Tryz.sizeOf61
  v77 := Tryz.zeroValue61 }
end Go.Proofs
namespace Go.Proofs.YtecclhmjmceheaaGreatDoor
open Go.RowKit
set_option linter.unusedVariables false
set_option maxRecDepth 100000 in
set_option maxHeartbeats 1000000 in
theorem inside_yes (r : Int) (w : World) (h0 : 0 ≤ r) (h1 : r ≤ 1114111) : Calls Tryz.prog 111 #[.int .i64 r] w fun e w' => e = .returned (.bool true) ∧ w = w' := by
  go_enter Tryz.func111, Tryz.ntmps111
  go_wp2
  go_ret
  exact ⟨rfl, rfl⟩
set_option maxRecDepth 100000 in
set_option maxHeartbeats 1000000 in
theorem inside_no (r : Int) (w : World) (h : ¬ (0 ≤ r ∧ r ≤ 1114111)) : Calls Tryz.prog 111 #[.int .i64 r] w fun e w' => e = .returned (.bool false) ∧ w = w' := by
  by_cases h0 : 0 ≤ r
  · have h1 : 1114111 < r := by omega
    clear h
    go_enter Tryz.func111, Tryz.ntmps111
    go_wp2
    go_ret
    exact ⟨rg_ret_bool (by simp; omega), rfl⟩
  · have h1 : r < 0 := by omega
    clear h
    go_enter Tryz.func111, Tryz.ntmps111
    go_wp2
    go_ret
    exact ⟨rfl, rfl⟩



















theorem any_true {l : List (Int × Int)} {k : Nat} {f : Int × Int → Bool} (hk : k < l.length) (h : f (l[k]?.getD (0, 0)) = true) : l.any f = true :=
  List.any_eq_true.2 ⟨l[k], List.getElem_mem hk, by rw [List.getElem?_eq_getElem hk] at h; exact h⟩




























































end Go.Proofs.YtecclhmjmceheaaGreatDoor
namespace Go.Proofs.YtecclhmjmceheaaGreatDoor
open Go.RowKit
set_option linter.unusedVariables false
def encR (x : Int × Int) : List Value := [.int .i64 x.1, .int .i64 x.2]
def cmpI (a b : Int) : Int := if a < b then -1 else if b < a then 1 else 0
def cmpR (x y : Int × Int) : Int := cmpI x.1 y.1
theorem cmpR_lt (x y : Int × Int) : ltOf cmpR x y = decide (x.1 < y.1) := by
  unfold ltOf cmpR cmpI
  by_cases h1 : x.1 < y.1
  · simp [h1]
  · by_cases h2 : y.1 < x.1 <;> simp [h1, h2]
theorem cmpR_swo : Go.Sort.SWO (ltOf cmpR) where
  irrefl x := by rw [cmpR_lt]; simp
  trans x y z h1 h2 := by rw [cmpR_lt] at *; simp at *; omega
  ntrans x y z h1 h2 := by rw [cmpR_lt] at *; simp at *; omega
set_option maxRecDepth 100000 in
set_option maxHeartbeats 1000000 in
theorem cmpInt (a b : Int) (w : World) : Calls Tryz.prog 206 #[.int .i64 a, .int .i64 b] w fun e w' => e = .returned (.int .i64 (cmpI a b)) ∧ w = w' := by
  by_cases h1 : a < b
  · go_enter Tryz.func206, Tryz.ntmps206
    go_wp2
    go_ret
    exact ⟨rg_ret_int (by rw [cmpI, if_pos h1]), rfl⟩
  · by_cases h2 : b < a
    · go_enter Tryz.func206, Tryz.ntmps206
      go_wp2
      go_ret
      exact ⟨rg_ret_int (by rw [cmpI, if_neg (by omega), if_pos h2]), rfl⟩
    · go_enter Tryz.func206, Tryz.ntmps206
      go_wp2
      go_ret
      exact ⟨rg_ret_int (by rw [cmpI, if_neg (by omega), if_neg (by omega)]), rfl⟩
set_option maxRecDepth 100000 in
set_option maxHeartbeats 1000000 in
theorem sortCl (x y : Int × Int) (W : World) : Calls Tryz.prog 205 #[.agg #[.int .i64 x.1, .int .i64 x.2], .agg #[.int .i64 y.1, .int .i64 y.2]] W
    fun e w' => e = .returned (.int .i64 (cmpR x y)) ∧ ∃ q os', w' = Go.Sort.grow (W.drewN q) os' := by
  have hcon := fun W' => cmpInt x.1 y.1 W'
  show Calls _ _ _ _ fun e w' => e = .returned (.int .i64 (cmpI x.1 y.1)) ∧ ∃ q os', w' = Go.Sort.grow (W.drewN q) os'
  generalize cmpI x.1 y.1 = r at hcon ⊢
  go_enter Tryz.func205, Tryz.ntmps205
  go_wp2_with (go_at_call 206; refine (hcon _).mono ?_; rintro e w' ⟨rfl, rfl⟩)
  go_ret
  exact ⟨rfl, 0, _, by rw [Go.Sort.alloc_eq_grow, Go.Sort.alloc_eq_grow, Go.Sort.grow_grow]; rfl⟩
theorem sort_below (w : World) (base g n : Nat) (d : Array (Int × Int)) (os : Array Obj) (hg : g < w.heap.size) (hb : base ≤ g) : Below base w (sortWorldK encR 2 w g 0 n d os) := by
  unfold sortWorldK Go.Sort.grow Go.Sort.putRowK Go.Sort.putRow Go.Sort.mapBlock Go.Sort.ahead
  refine ⟨rfl, rfl, rfl, by simp, fun k hk => ?_⟩
  show (w.heap.modify g _ ++ os)[k]? = _
  rw [Array.getElem?_append, Array.size_modify, if_pos (by omega), Array.getElem?_modify, if_neg (by omega)]
theorem sort_block (w : World) (g n : Nat) (d : Array (Int × Int)) (os : Array Obj) (cs : Array Value) (t : TypeId) (fr : Nat × Nat) (hg : w.heap[g]? = some (.cells cs t fr)) :
    (sortWorldK encR 2 w g 0 n d os).heap[g]? = some (.cells (Go.Sort.putCells id 0 (Go.Sort.flatK encR 2 d) cs) t fr) := by
  have hlt : g < w.heap.size := (Array.getElem?_eq_some_iff.1 hg).1
  unfold sortWorldK Go.Sort.grow Go.Sort.putRowK Go.Sort.putRow Go.Sort.mapBlock Go.Sort.ahead
  show (w.heap.modify g _ ++ os)[g]? = _
  rw [Array.getElem?_append, Array.size_modify, if_pos hlt, Array.getElem?_modify, if_pos rfl, hg]
  rfl
theorem flatK_get (l : List (Int × Int)) (j : Nat) (hj : j < l.length * 2) : (flat2 l)[j]? = some (Go.Sort.flatK encR 2 l.toArray)[j]! := by
  rw [Go.Sort.get_flatK _ _ _ _ (by simpa using hj)]
  have hf := flat2_get l (j / 2) (by omega)
  have e : l.toArray[j / 2]! = l[j / 2]?.getD (0, 0) := by
    rw [getElem!_pos l.toArray (j / 2) (by simp; omega), List.getElem?_eq_getElem (by omega)]; simp
  rw [e]
  rcases Nat.mod_two_eq_zero_or_one j with h0 | h1
  · rw [h0]; rw [show j / 2 * 2 = j by omega] at hf; exact hf.1
  · rw [h1]; rw [show j / 2 * 2 + 1 = j by omega] at hf; exact hf.2
theorem sort_holds (w : World) (base g cap : Nat) (l : List (Int × Int)) (h : RgOwn w base (.slice (some ⟨g, 0, none⟩) l.length cap) l) : Go.Sort.HoldsK encR 2 w g 0 l.toArray := by
  intro j hj
  have hj' : j < l.length * 2 := by simpa using hj
  rw [Nat.zero_add]
  refine ⟨?_, World.ownsRow.frozenAt h j⟩
  rw [World.ownsRow.cellAt h j (by simpa using hj'), flatK_get l j hj']; rfl
theorem putCells_take (cs : Array Value) (s : List (Int × Int)) (h : s.length * 2 ≤ cs.size) : (Go.Sort.putCells id 0 (Go.Sort.flatK encR 2 s.toArray) cs).toList.take (s.length * 2) = flat2 s := by
  apply List.ext_getElem?
  intro j
  rw [List.getElem?_take]
  by_cases hj : j < s.length * 2
  · rw [if_pos hj, flatK_get s j hj]
    unfold Go.Sort.putCells
    rw [Array.getElem?_toList, Array.getElem?_mapIdx, Array.getElem?_eq_getElem (by omega), Option.map_some, if_pos ⟨Nat.zero_le _, by simpa using hj⟩]
    rfl
  · rw [if_neg hj, List.getElem?_eq_none (by rw [flat2_len]; omega)]
theorem sort_own (W : World) (base : Nat) (v : Value) (l : List (Int × Int)) (h : RgOwn W base v l) (hb : base ≤ W.heap.size) (hl : l.length ≤ 8796093022208) :
    Calls Tryz.prog 204 #[v, .func (.func 205) #[] #[]] W
      fun e w' => e = .returned (.tuple #[]) ∧ ∃ s : List (Int × Int), s.Perm l ∧ s.Pairwise (fun a b => a.1 ≤ b.1) ∧ s.length = l.length ∧ RgOwn w' base v s ∧ Below base W w' := by
  rcases Nat.eq_zero_or_pos l.length with h0 | hp
  · have e0 : l = [] := List.eq_nil_of_length_eq_zero h0
    subst e0
    obtain ⟨a, cap, rfl⟩ := h.empty
    have hcon := AnyF.slices_SortFunc_none (P := Tryz.prog) (ρ := Tryz.sortRg_ren) { Tryz.sortRg with } a cap (.func (.func 205) #[] #[]) W
    change Calls Tryz.prog 204 _ _ _ at hcon
    refine hcon.mono ?_
    rintro e w' ⟨rfl, rfl⟩
    exact ⟨rfl, [], List.Perm.refl _, List.Pairwise.nil, rfl, h, Below.refl _ _⟩
  · have hown := h
    rcases hown.2 with ⟨_, hz⟩ | ⟨g, cap, cur, rfl, hbg, hg, hnc, hcm, hcs, _⟩
    · omega
    · have eg : ∀ args w, (callFunc 205 args).run Tryz.prog w = .ok (.enter 205 args) w := enters_of Tryz.func205 (by kernel_rfl) rfl
      have hlt : g < W.heap.size := (Array.getElem?_eq_some_iff.1 hg).1
      have hcon := AnyQ.slices_SortFunc Tryz.sortRg 2 Tryz.isAgg103 Tryz.sizeOf103 encR (fun _ => rfl) (fun x v hv => by simp [encR] at hv; rcases hv with rfl | rfl <;> rfl) cmpR cmpR_swo 205 #[] g 0 cap l.toArray W eg
        (fun _ _ _ _ x y => sortCl x y _) (sort_holds W base g cap l h) hlt (by simp; omega)
      change Calls Tryz.prog 204 _ _ _ at hcon
      rw [List.size_toArray] at hcon
      refine hcon.mono ?_
      rintro e w' ⟨rfl, d', n, os, hperm, hsort, rfl⟩
      obtain ⟨p1, p2, p3⟩ := hperm
      rw [List.size_toArray] at p1
      obtain ⟨s⟩ := d'
      have hs : s.length = l.length := by simpa using p1
      refine ⟨rfl, s, ?_, ?_, hs, ?_, sort_below W base g n _ os hlt hbg⟩
      · rw [← hs] at p3
        simp [hs] at p3
        rwa [List.take_of_length_le (by omega)] at p3
      · rw [List.pairwise_iff_getElem]
        intro i j hi hj hij
        have := hsort i j (Nat.zero_le _) hij (by omega)
        rw [cmpR_lt, getElem!_pos (⟨s⟩ : Array (Int × Int)) j hj, getElem!_pos (⟨s⟩ : Array (Int × Int)) i hi] at this
        have h2 : ¬ (s[j].1 < s[i].1) := by simpa using this
        show s[i].1 ≤ s[j].1
        omega
      · refine ⟨by rw [flat2_len], .inr ⟨g, cap, _, by rw [hs], hbg, sort_block W g n ⟨s⟩ os cur _ _ hg, by rw [hs]; exact hnc, hcm, ?_, ?_⟩⟩
        · simp [Go.Sort.putCells, hcs]
        · exact putCells_take cur s (by rw [hcs, hs]; omega)
end Go.Proofs.YtecclhmjmceheaaGreatDoor
