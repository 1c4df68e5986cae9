/- The landed tree: isDigit, isLetter, isCount, Name. · A region that draws its order, whose operations only read and whose callees make memory of their own: walked once, in the class of the worlds that have turned nothing old. · burinbook.SameNode: are two trees the same. · slices.Equal at lists of ranges. -/
import Derived.Test.YtdcielcniboloaaDoorGp6
import Derived.Test.YtdcielcniboloaaDoorGp1
import Derived.Deep.QuietTactic
import Derived.Test.YtdcielcniboloaaDoorGp2
import Derived.IntWalk
import Derived.BigQuiet
namespace Go.Proofs.YtdcielcniboloaaDoor
open Go.RowKit
set_option linter.unusedVariables false
set_option maxRecDepth 100000 in
set_option maxHeartbeats 2000000 in
theorem isDigit_any (W : World) (c : Int) (h0 : 0 ≤ c) (h1 : c ≤ 255) : Calls Tryd.prog 47 #[.int .u8 c] W fun e w' => e = .returned (.bool (decide (48 ≤ c ∧ c ≤ 57))) ∧ W = w' := by
  by_cases a : 48 ≤ c
  · by_cases b : c ≤ 57
    · rw [decide_eq_true (show 48 ≤ c ∧ c ≤ 57 from ⟨a, b⟩)]
      go_enter Tryd.func47, Tryd.ntmps47
      go_wp2
      go_ret
      exact ⟨rfl, rfl⟩
    · rw [decide_eq_false (show ¬ (48 ≤ c ∧ c ≤ 57) from fun h => b h.2)]
      go_enter Tryd.func47, Tryd.ntmps47
      go_wp2
      go_ret
      exact ⟨rfl, rfl⟩
  · rw [decide_eq_false (show ¬ (48 ≤ c ∧ c ≤ 57) from fun h => a h.1)]
    go_enter Tryd.func47, Tryd.ntmps47
    go_wp2
    go_ret
    exact ⟨rfl, rfl⟩
set_option maxRecDepth 100000 in
set_option maxHeartbeats 2000000 in
theorem isCount_any (W : World) (c : Int) : Calls Tryd.prog 32 #[.int .i64 c] W fun e w' => e = .returned (.bool (decide (0 ≤ c ∧ c ≤ 1000))) ∧ W = w' := by
  by_cases a : 0 ≤ c
  · by_cases b : c ≤ 1000
    · rw [decide_eq_true (show 0 ≤ c ∧ c ≤ 1000 from ⟨a, b⟩)]
      go_enter Tryd.func32, Tryd.ntmps32
      go_wp2
      go_ret
      exact ⟨rfl, rfl⟩
    · rw [decide_eq_false (show ¬ (0 ≤ c ∧ c ≤ 1000) from fun h => b h.2)]
      go_enter Tryd.func32, Tryd.ntmps32
      go_wp2
      go_ret
      exact ⟨rfl, rfl⟩
  · rw [decide_eq_false (show ¬ (0 ≤ c ∧ c ≤ 1000) from fun h => a h.1)]
    go_enter Tryd.func32, Tryd.ntmps32
    go_wp2
    go_ret
    exact ⟨rfl, rfl⟩
set_option maxRecDepth 100000 in
set_option maxHeartbeats 2000000 in
theorem isLetter_any (W : World) (c : Int) (h0 : 0 ≤ c) (h1 : c ≤ 255) : Calls Tryd.prog 48 #[.int .u8 c] W fun e w' => e = .returned (.bool (decide (65 ≤ c ∧ c ≤ 90 ∨ 97 ≤ c ∧ c ≤ 122))) ∧ W = w' := by
  by_cases a : 65 ≤ c
  · by_cases b : c ≤ 90
    · rw [decide_eq_true (show (65 ≤ c ∧ c ≤ 90 ∨ 97 ≤ c ∧ c ≤ 122) from .inl ⟨a, b⟩)]
      go_enter Tryd.func48, Tryd.ntmps48
      go_wp2
      go_ret
      exact ⟨rfl, rfl⟩
    · by_cases d : 97 ≤ c
      · by_cases f : c ≤ 122
        · rw [decide_eq_true (show (65 ≤ c ∧ c ≤ 90 ∨ 97 ≤ c ∧ c ≤ 122) from .inr ⟨d, f⟩)]
          go_enter Tryd.func48, Tryd.ntmps48
          go_wp2
          go_ret
          exact ⟨rfl, rfl⟩
        · rw [decide_eq_false (show ¬ (65 ≤ c ∧ c ≤ 90 ∨ 97 ≤ c ∧ c ≤ 122) by omega)]
          go_enter Tryd.func48, Tryd.ntmps48
          go_wp2
          go_ret
          exact ⟨rfl, rfl⟩
      · rw [decide_eq_false (show ¬ (65 ≤ c ∧ c ≤ 90 ∨ 97 ≤ c ∧ c ≤ 122) by omega)]
        go_enter Tryd.func48, Tryd.ntmps48
        go_wp2
        go_ret
        exact ⟨rfl, rfl⟩
  · have d : ¬ 97 ≤ c := by omega
    rw [decide_eq_false (show ¬ (65 ≤ c ∧ c ≤ 90 ∨ 97 ≤ c ∧ c ≤ 122) by omega)]
    go_enter Tryd.func48, Tryd.ntmps48
    go_wp2
    go_ret
    exact ⟨rfl, rfl⟩
set_option maxRecDepth 100000 in
set_option maxHeartbeats 4000000 in
theorem trName_any (W : World) (s : ByteArray) (hm : s.size ≤ 140737488351232) : Calls Tryd.prog 31 #[.string s] W fun e w' => e = .returned (.bool (Td.nameB s)) ∧ W = w' := by
  by_cases c1 : (s.size : Int) < 1
  · have hE : Hid (Td.nameB s = false) := Lib.hid (by
      unfold Td.nameB
      rw [decide_eq_false (by omega)]
      simp)
    go_enter Tryd.func31, Tryd.ntmps31
    go_wp2
    go_ret
    exact ⟨by rw [hE.out]; rfl, rfl⟩
  by_cases c2 : (32 : Int) < (s.size : Int)
  · have hE : Hid (Td.nameB s = false) := Lib.hid (by
      unfold Td.nameB
      rw [decide_eq_false (by omega)]
      simp)
    go_enter Tryd.func31, Tryd.ntmps31
    go_wp2
    go_ret
    exact ⟨by rw [hE.out]; rfl, rfl⟩
  have c1' : 0 < s.size := by omega
  have c1i : (0 : Int) < (s.size : Int) := by omega
  have hz : (Td.bytes s).getD 0 0 = (s[0].toNat : Int) := by rw [List.getD, Td.bytes_at s 0 c1']; rfl
  have HZ := Lib.hid hz
  have hb0 : s[0].toNat < 256 := UInt8.toNat_lt _
  clear hz
  go_enter Tryd.func31, Tryd.ntmps31
  go_wp2_with fail
  refine (isDigit_any _ _ (by omega) (by omega)).mono ?_
  rintro e w' ⟨rfl, rfl⟩
  by_cases c3 : (48 : Int) ≤ (s[0].toNat : Int) ∧ (s[0].toNat : Int) ≤ 57
  · have hE : Hid (Td.nameB s = false) := Lib.hid (by
      unfold Td.nameB
      rw [HZ.out, decide_eq_false (by omega)]
      simp)
    rw [decide_eq_true c3]
    go_wp2
    go_ret
    exact ⟨by rw [hE.out]; rfl, rfl⟩
  rw [decide_eq_false c3]
  have hE : Hid (Td.nameB s = (Td.bytes s).all Td.letC) := Lib.hid (by
    unfold Td.nameB
    rw [HZ.out, decide_eq_true (by omega)]
    simp)
  clear c3 hb0
  go_wp2
  go_loop [3, 19] (fun jv iv => ∃ k : Nat, k ≤ s.size ∧ iv = .int .i64 (k : Int) ∧ Hid (((Td.bytes s).take k).all Td.letC = true)) (fun _ iv => s.size - (intOf iv).toNat)
  case atStart => exact ⟨0, Nat.zero_le _, rfl, Lib.hid rfl⟩
  case round =>
    obtain ⟨k, hk, rfl, HAA⟩ := hrel
    by_cases hlt : k < s.size
    · have hb : s[k].toNat < 256 := UInt8.toNat_lt _
      have HK := Lib.hid (Td.bytes_at s k hlt)
      have hki : (k : Int) < (s.size : Int) := by omega
      have no : Td.letC (s[k].toNat : Int) = false → Td.nameB s = false := fun hx => by
        rw [hE.out, List.all_eq_false]
        exact ⟨_, List.mem_of_getElem? HK.out, by rw [hx]; decide⟩
      have yes : Td.letC (s[k].toNat : Int) = true → ((Td.bytes s).take (k + 1)).all Td.letC = true := fun hx => by
        obtain ⟨h, h2⟩ := List.getElem?_eq_some_iff.1 HK.out
        rw [List.take_succ_eq_append_getElem h, List.all_append, HAA.out, h2]
        simp [hx]
      have NO := Lib.hid no
      have YES := Lib.hid yes
      clear no yes
      go_wp2_with fail
      refine (isLetter_any _ _ (by omega) (by omega)).mono ?_
      rintro e w' ⟨rfl, rfl⟩
      by_cases l1 : 65 ≤ (s[k].toNat : Int) ∧ (s[k].toNat : Int) ≤ 90 ∨ 97 ≤ (s[k].toNat : Int) ∧ (s[k].toNat : Int) ≤ 122
      · have HT := Lib.hid (YES.out (by unfold Td.letC; exact decide_eq_true (by omega)))
        rw [decide_eq_true l1]
        clear l1
        go_wp2
        go_round
        case rel => exact ⟨k + 1, by omega, by go_num, HT⟩
        case measure => simp [intOf]; omega
      rw [decide_eq_false l1]
      have L1 := Lib.hid l1
      clear l1
      go_wp2_with fail
      refine (isDigit_any _ _ (by omega) (by omega)).mono ?_
      rintro e w' ⟨rfl, rfl⟩
      by_cases l2 : 48 ≤ (s[k].toNat : Int) ∧ (s[k].toNat : Int) ≤ 57
      · have HT := Lib.hid (YES.out (by unfold Td.letC; exact decide_eq_true (by omega)))
        rw [decide_eq_true l2]
        clear l2
        go_wp2
        go_round
        case rel => exact ⟨k + 1, by omega, by go_num, HT⟩
        case measure => simp [intOf]; omega
      rw [decide_eq_false l2]
      have L2 := Lib.hid l2
      clear l2
      by_cases l3 : (s[k].toNat : Int) = 95
      · have HT := Lib.hid (YES.out (by unfold Td.letC; exact decide_eq_true (by omega)))
        go_wp2
        go_round
        case rel => exact ⟨k + 1, by omega, by go_num, HT⟩
        case measure => simp [intOf]; omega
      · have HF := Lib.hid (NO.out (by unfold Td.letC; exact decide_eq_false (by have := L1.out; have := L2.out; omega)))
        go_wp2
        go_ret
        exact ⟨by rw [HF.out]; rfl, rfl⟩
    · obtain rfl : k = s.size := by omega
      have HB := Lib.hid (show Td.nameB s = true by
        have := HAA.out
        rw [List.take_of_length_le (by rw [Td.bytes_len]; exact Nat.le_refl _)] at this
        rw [hE.out, this])
      go_wp2
      go_ret
      exact ⟨by rw [HB.out]; rfl, rfl⟩
end Go.Proofs.YtdcielcniboloaaDoor
namespace Go.Proofs.YtdcielcniboloaaDoor
open Go.RowKit
set_option linter.unusedVariables false
/-- A world that has turned nothing of w's. -/
structure GrownTo (w : World) where
  W' : World
  h : Below w.heap.size w W'
instance grownToSome (w : World) : Inhabited (GrownTo w) := ⟨⟨w, Below.refl _ _⟩⟩
end Go.Proofs.YtdcielcniboloaaDoor
namespace Go.Proofs.YtdcielcniboloaaDoor
open Go.RowKit
set_option linter.unusedVariables false
namespace Td
/-- The fields but the parts are the same, and there are as many parts. -/
def same1 (a b : Nd) : Bool :=
  (kind a == kind b) && ((num a == num b) && (((name a).toList == (name b).toList) && ((mn a == mn b) && ((mx a == mx b) && ((lazy a == lazy b) && (decide (set a = set b) && (((subs a).length : Int) == ((subs b).length : Int))))))))
def sameB : Nat → Nd → Nd → Bool
  | 0, _, _ => false
  | k + 1, a, b => same1 a b && ((subs a).zip (subs b)).all fun p => sameB k p.1 p.2
end Td

theorem all_snoc {l : List (Nd × Nd)} {f : Nd × Nd → Bool} {i : Nat} {x : Nd × Nd} (hx : l[i]? = some x) (h : (l.take i).all f = true) : (l.take (i + 1)).all f = f x := by
  obtain ⟨hi, e⟩ := List.getElem?_eq_some_iff.1 hx
  rw [List.take_succ_eq_append_getElem hi, List.all_append, h, e]
  simp
theorem all_no {l : List (Nd × Nd)} {f : Nd × Nd → Bool} {i : Nat} {x : Nd × Nd} (hx : l[i]? = some x) (h : f x = false) : l.all f = false := by
  rw [List.all_eq_false]
  exact ⟨x, List.mem_of_getElem? hx, by rw [h]; decide⟩

















































































































































































































































































end Go.Proofs.YtdcielcniboloaaDoor
namespace Go.Proofs.YtdcielcniboloaaDoor
open Go.RowKit
set_option linter.unusedVariables false
set_option maxRecDepth 100000 in
set_option maxHeartbeats 2000000 in
theorem eqr_walk (W : World) (a b : Option Addr) (n p q : Nat) (l m : List (Int × Int)) (hn : n ≤ 8796093022208) (hl : l.length = n) (hm : m.length = n)
    (ha : ∀ j, j < n → ∃ g off, a = some ⟨g, off, none⟩ ∧ g < W.heap.size ∧ W.cell? ⟨g, off + j * 2, none⟩ = some (.int .i64 (l[j]?.getD (0, 0)).1) ∧ W.cell? ⟨g, off + j * 2 + 1, none⟩ = some (.int .i64 (l[j]?.getD (0, 0)).2))
    (hb : ∀ j, j < n → ∃ g off, b = some ⟨g, off, none⟩ ∧ g < W.heap.size ∧ W.cell? ⟨g, off + j * 2, none⟩ = some (.int .i64 (m[j]?.getD (0, 0)).1) ∧ W.cell? ⟨g, off + j * 2 + 1, none⟩ = some (.int .i64 (m[j]?.getD (0, 0)).2)) :
    Calls Tryd.prog 56 #[.slice a n p, .slice b n q] W fun e W' => e = .returned (.bool (decide (l = m))) ∧ ∃ d, W' = W.drewN d := by
  have HA := Lib.hid ha
  have HB := Lib.hid hb
  have HL := Lib.hid hl
  have HM := Lib.hid hm
  clear ha hb hl hm
  go_enter Tryd.func56, Tryd.ntmps56
  go_wp2
  go_loopw [5, 13] (fun j i wr => ∃ (k : Nat), k ≤ n ∧ i = .int .i64 k ∧ Hid (l.take k = m.take k) ∧ ∃ d, wr = W.drewN d) (fun j i _ => (n - (intOf i).toNat))
  case atStart => exact ⟨0, Nat.zero_le _, rfl, Lib.hid (by simp), 0, rfl⟩
  case round =>
    obtain ⟨k, hk, rfl, HS, d, rfl⟩ := hrel
    by_cases hlt : k < n
    · obtain ⟨g, off, rfl, hg, hc1, hc2⟩ := HA.out k hlt
      obtain ⟨g', off', rfl, hg', hc3, hc4⟩ := HB.out k hlt
      have hkl : k < l.length := by rw [HL.out]; exact hlt
      have hkm : k < m.length := by rw [HM.out]; exact hlt
      by_cases e1 : (l[k]?.getD (0, 0)).1 = (m[k]?.getD (0, 0)).1
      · by_cases e2 : (l[k]?.getD (0, 0)).2 = (m[k]?.getD (0, 0)).2
        · have HT : Hid (l.take (k + 1) = m.take (k + 1)) := Lib.hid ((take_succ_eq l m k hkl hkm).mpr ⟨HS.out, Prod.ext e1 e2⟩)
          clear hkl hkm
          go_wp2
          go_quiet (fail)
          go_wp2
          go_round
          case rel => exact ⟨k + 1, by omega, by go_num, HT, _, rfl⟩
          case measure => simp [intOf]; omega
        · have HF : Hid (decide (l = m) = false) := Lib.hid (by
            rw [decide_eq_false_iff_not]; intro e
            subst e; exact e2 rfl)
          clear hkl hkm
          go_wp2
          go_quiet (fail)
          go_wp2
          go_ret
          exact ⟨by rw [HF.out]; rfl, _, World.drewN_drewN _ _ _⟩
      · have HF : Hid (decide (l = m) = false) := Lib.hid (by
          rw [decide_eq_false_iff_not]; intro e
          subst e; exact e1 rfl)
        clear hkl hkm
        go_wp2
        go_quiet (fail)
        go_wp2
        go_ret
        exact ⟨by rw [HF.out]; rfl, _, World.drewN_drewN _ _ _⟩
    · obtain rfl : k = n := by omega
      have HE : Hid (decide (l = m) = true) := Lib.hid (by
        have := HS.out
        rw [List.take_of_length_le (by rw [HL.out]; exact Nat.le_refl _), List.take_of_length_le (by rw [HM.out]; exact Nat.le_refl _)] at this
        exact decide_eq_true this)
      go_wp2
      go_ret
      exact ⟨by rw [HE.out]; rfl, _, rfl⟩
set_option maxRecDepth 100000 in
set_option maxHeartbeats 2000000 in
theorem eqr_any (W : World) (v w : Value) (l m : List (Int × Int)) (hv : RRow W v l) (hw : RRow W w m) :
    Calls Tryd.prog 56 #[v, w] W fun e W' => e = .returned (.bool (decide (l = m))) ∧ ∃ d, W' = W.drewN d := by
  obtain ⟨a, p, rfl, n1, n2, hca⟩ := hv
  obtain ⟨b, q, rfl, m1, m2, hcb⟩ := hw
  by_cases hlen : l.length = m.length
  · rw [← hlen] at hcb ⊢
    exact eqr_walk W a b l.length p q l m n1 rfl hlen.symm hca hcb
  · have HF : Hid (decide (l = m) = false) := Lib.hid (decide_eq_false (fun e => hlen (by rw [e])))
    obtain ⟨x, hx⟩ : ∃ x, l.length = x := ⟨_, rfl⟩
    obtain ⟨y, hy⟩ : ∃ y, m.length = y := ⟨_, rfl⟩
    rw [hx, hy] at hlen
    rw [hx, hy]
    have hne : ¬ (x : Int) = (y : Int) := by omega
    clear n2 m2 hca hcb hx hy
    go_enter Tryd.func56, Tryd.ntmps56
    go_wp2
    go_ret
    exact ⟨by rw [HF.out]; rfl, 0, rfl⟩
end Go.Proofs.YtdcielcniboloaaDoor
