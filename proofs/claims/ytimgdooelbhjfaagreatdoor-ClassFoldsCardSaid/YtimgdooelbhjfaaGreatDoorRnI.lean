/- The landed ranges: lists of turns in memory; nearest, turns, between. -/
import Derived.Test.YtimgdooelbhjfaaGreatDoorRnN
namespace Go.Proofs.YtimgdooelbhjfaaGreatDoor
open Go.RowKit
set_option linter.unusedVariables false
def nearI (n m : Nat) (x y : Int) : Int := if m = 0 then x else if n = 0 then y else if x < y then x else y
set_option maxRecDepth 100000 in
set_option maxHeartbeats 2000000 in
theorem nearest_walk (W : World) (a b : Option Addr) (n m p q : Nat) (x y : Int) (hn : n ≤ 8796093022208) (hm : m ≤ 8796093022208)
    (ha : 0 < n → ∃ g off, a = some ⟨g, off, none⟩ ∧ W.cell? ⟨g, off, none⟩ = some (.int .i64 x))
    (hb : 0 < m → ∃ g off, b = some ⟨g, off, none⟩ ∧ W.cell? ⟨g, off, none⟩ = some (.int .i64 y)) (h : 0 < n ∨ 0 < m) :
    Calls Tryz.prog 86 #[.slice a n p, .slice b m q] W fun e w' => e = .returned (.int .i64 (nearI n m x y)) ∧ ∃ d, w' = W.drewN d := by
  by_cases m0 : m = 0
  · subst m0
    have n0 : 0 < n := by omega
    obtain ⟨g, off, rfl, hc⟩ := ha n0
    have HE : Hid (nearI n 0 x y = x) := Lib.hid rfl
    have n1 : (0 : Int) < (n : Int) := by omega
    clear h hb ha
    go_enter Tryz.func86, Tryz.ntmps86
    go_wp2
    go_quiet (fail)
    go_wp2
    go_ret
    exact ⟨rg_ret_int HE.out.symm, _, rfl⟩
  · have m1 : 0 < m := by omega
    obtain ⟨g', off', rfl, hc'⟩ := hb m1
    have m2 : (0 : Int) < (m : Int) := by omega
    have m3 : ((m : Int) == 0) = false := by rw [beq_eq_false_iff_ne]; omega
    by_cases n0 : n = 0
    · subst n0
      have HE : Hid (nearI 0 m x y = y) := Lib.hid (by unfold nearI; rw [if_neg m0, if_pos rfl])
      clear h ha hb
      go_enter Tryz.func86, Tryz.ntmps86
      go_wp2
      go_quiet (fail)
      go_wp2
      go_ret
      exact ⟨rg_ret_int HE.out.symm, _, rfl⟩
    · have n1 : 0 < n := by omega
      obtain ⟨g, off, rfl, hc⟩ := ha n1
      have n2 : (0 : Int) < (n : Int) := by omega
      by_cases hxy : x < y
      · have HE : Hid (nearI n m x y = x) := Lib.hid (by unfold nearI; rw [if_neg m0, if_neg n0, if_pos hxy])
        clear h ha hb
        go_enter Tryz.func86, Tryz.ntmps86
        go_wp2
        go_quiet (fail)
        go_wp2
        go_ret
        exact ⟨rg_ret_int HE.out.symm, _, rfl⟩
      · have HE : Hid (nearI n m x y = y) := Lib.hid (by unfold nearI; rw [if_neg m0, if_neg n0, if_neg hxy])
        clear h ha hb
        go_enter Tryz.func86, Tryz.ntmps86
        go_wp2
        have hxy' : ¬ x < y := by omega
        go_quiet (fail)
        go_wp2
        go_ret
        exact ⟨rg_ret_int HE.out.symm, _, rfl⟩
set_option maxRecDepth 100000 in
set_option maxHeartbeats 4000000 in
theorem turns_any (W : World) (v : Value) (l : List (Int × Int)) (h : RRow W v l) :
    Calls Tryz.prog 62 #[v] W fun e w' => ∃ v' out, e = .returned v' ∧ Rg.ListOf l out ∧ IOwn w' W.heap.size v' (Rg.turnsN out) ∧ Below W.heap.size W w' := by
  obtain ⟨i0, hi, hz0, hz1, hz2⟩ := info_parts Tryz.infoInt
  have HA := Lib.hid h
  clear h
  go_enter Tryz.func62, Tryz.ntmps62
  go_wp2_with fail
  refine (norm_any _ _ _ HA.out).mono ?_
  rintro e wa ⟨v', out, rfl, hm, ho, hba⟩
  have hln := Rg.norm_len out 0 hm.norm (by omega)
  obtain ⟨b, cap, rfl, hl, hw, hc⟩ := ho.normRow hm.norm
  have HM := Lib.hid hm
  have HC := Lib.hid hc
  have HB := Lib.hid hba
  obtain ⟨n, hn⟩ : ∃ n, out.length = n := ⟨_, rfl⟩
  have HN := Lib.hid hn
  rw [hn] at hl HC hln ⊢
  clear hm hc hw ho hba HA hn
  go_wp2
  go_loopw [3, 9] (fun V i wr => ∃ k : Nat, k ≤ n ∧ i = .int .i64 k ∧ Hid (IOwn wr wa.heap.size V (Rg.turnsN (out.take k))) ∧ Hid (Below wa.heap.size wa wr)) (fun _ i _ => n - (intOf i).toNat)
  case atStart => exact ⟨0, Nat.zero_le _, rfl, Lib.hid IOwn.nil, Lib.hid (Below.refl _ _)⟩
  case round =>
    obtain ⟨k, hk, rfl, HO, HBa⟩ := hrel
    by_cases hlt : k < n
    · obtain ⟨g, off, rfl, hg, hc1, hc2⟩ := HC.out k hlt
      rw [← HBa.out.cell (p := ⟨g, off + k * 2, none⟩) hg] at hc1
      rw [← HBa.out.cell (p := ⟨g, off + k * 2 + 1, none⟩) hg] at hc2
      obtain ⟨g1, g2, g3⟩ := Rg.norm_get HM.out.norm k (by rw [HN.out]; exact hlt)
      have hsz := HBa.out.size
      have hts : out.take (k + 1) = out.take k ++ [out[k]?.getD (0, 0)] := by
        rw [List.take_succ_eq_append_getElem (by rw [HN.out]; exact hlt), List.getElem?_eq_getElem (by rw [HN.out]; exact hlt)]; rfl
      have htl : (out.take k).length = k := by rw [List.length_take, HN.out]; omega
      obtain ⟨p, hp⟩ : ∃ p, out[k]?.getD (0, 0) = p := ⟨_, rfl⟩
      rw [hp] at hc1 hc2 g1 g2 g3 hts
      have HT := Lib.hid hts
      have hown := HO.out
      unfold IOwn at hown
      rw [Rg.turns_len, htl] at hown
      have HTL := Lib.hid htl
      clear hp hts htl
      obtain ⟨p1, p2⟩ := p
      dsimp only at hc1 hc2 g1 g2 g3
      go_wp2_with (at_builtin; (refine wpList_append_own _ (by rfl) _ _ 46 (by rfl) wa.heap.size 3 i0 (.int .i64 0) 1 8 Tryz.underlying46 hi hz0 hz1 hz2 rfl (by decide) _ (k * 2) (flat1 (Rg.turnsN (out.take k))) (by rfl) ((hown.alloc _).alloc _) ⟨wr.heap.size + 1, 0, none⟩ 2 2 [.int .i64 p1, .int .i64 (p2 + 1)] (by rfl) rfl ?c1 (by simp [Value.oneCell']) (by unfold maxLen; omega) (by omega) (by simp; omega) ?_))
      case c1 => exact World.news_of_block (cs := #[.int .i64 p1, .int .i64 (p2 + 1)]) (heap_new2 _ _ _)
      intro v1 w1 hown' hgrow _
      have hO2 : IOwn w1 wa.heap.size v1 (Rg.turnsN (out.take (k + 1))) := by
        rw [HT.out]; unfold IOwn; rw [Rg.turns_snoc, List.length_append, Rg.turns_len, HTL.out]; simpa [flat1] using hown'
      have hB2 := ((HBa.out.alloc hsz _).alloc (by simp; omega) _).grown hgrow (by simp; omega) (fun q hq => (hown.lt q hq).1)
      have HO2 := Lib.hid hO2
      have HB2 := Lib.hid hB2
      clear hO2 hown' hgrow hown hB2
      go_wp2
      go_roundw
      case rel => exact ⟨k + 1, by omega, by go_num, HO2, HB2⟩
      case measure => simp [intOf]; omega
    · obtain rfl : k = n := by omega
      have hO := HO.out
      rw [List.take_of_length_le (by rw [HN.out]; exact Nat.le_refl _)] at hO
      have HO' := Lib.hid hO
      clear hO
      go_wp2
      go_ret
      exact ⟨_, out, rfl, HM.out, HO'.out.lower HB.out.size, HB.out.trans (HBa.out.mono HB.out.size)⟩
end Go.Proofs.YtimgdooelbhjfaaGreatDoor
