/- The landed ranges: lists of turns in memory; nearest, turns, between. · The landed ranges: between. · The landed ranges: the walk over two lists of turns, for whatever it keeps. -/
import Derived.Test.YtecmeeobabadeaaGreatDoorGp22
import Derived.IntWalk
import Derived.Deep.RegionHeld3
import Derived.Deep.AppendLies
namespace Go.Proofs.YtecmeeobabadeaaGreatDoor
open Go.RowKit
set_option linter.unusedVariables false
def nearI (n m : Nat) (x y : Int) : Int := if m = 0 then x else if n = 0 then y else if x < y then x else y
set_option maxRecDepth 100000 in
set_option maxHeartbeats 2000000 in
theorem nearest_walk (W : World) (a b : Option Addr) (n m p q : Nat) (x y : Int) (hn : n ≤ 8796093022208) (hm : m ≤ 8796093022208)
    (ha : 0 < n → ∃ g off, a = some ⟨g, off, none⟩ ∧ W.cell? ⟨g, off, none⟩ = some (.int .i64 x))
    (hb : 0 < m → ∃ g off, b = some ⟨g, off, none⟩ ∧ W.cell? ⟨g, off, none⟩ = some (.int .i64 y)) (h : 0 < n ∨ 0 < m) :
    Calls Tryz.prog 274 #[.slice a n p, .slice b m q] W fun e w' => e = .returned (.int .i64 (nearI n m x y)) ∧ ∃ d, w' = W.drewN d := by
  by_cases m0 : m = 0
  · subst m0
    have n0 : 0 < n := by omega
    obtain ⟨g, off, rfl, hc⟩ := ha n0
    have HE : Hid (nearI n 0 x y = x) := Lib.hid rfl
    have n1 : (0 : Int) < (n : Int) := by omega
    clear h hb ha
    go_enter Tryz.func274, Tryz.ntmps274
    go_wp2
    go_quiet (fail)
    go_wp2
    go_ret
    exact ⟨rg_ret_int HE.out.symm, _, rfl⟩
  · have m1 : 0 < m := by omega
    obtain ⟨g', off', rfl, hc'⟩ := hb m1
    have m2 : (0 : Int) < (m : Int) := by omega
    have m3 : ((m : Int) == 0) = false := by rw [beq_eq_false_iff_ne]; omega
    by_cases n0 : n = 0
    · subst n0
      have HE : Hid (nearI 0 m x y = y) := Lib.hid (by unfold nearI; rw [if_neg m0, if_pos rfl])
      clear h ha hb
      go_enter Tryz.func274, Tryz.ntmps274
      go_wp2
      go_quiet (fail)
      go_wp2
      go_ret
      exact ⟨rg_ret_int HE.out.symm, _, rfl⟩
    · have n1 : 0 < n := by omega
      obtain ⟨g, off, rfl, hc⟩ := ha n1
      have n2 : (0 : Int) < (n : Int) := by omega
      by_cases hxy : x < y
      · have HE : Hid (nearI n m x y = x) := Lib.hid (by unfold nearI; rw [if_neg m0, if_neg n0, if_pos hxy])
        clear h ha hb
        go_enter Tryz.func274, Tryz.ntmps274
        go_wp2
        go_quiet (fail)
        go_wp2
        go_ret
        exact ⟨rg_ret_int HE.out.symm, _, rfl⟩
      · have HE : Hid (nearI n m x y = y) := Lib.hid (by unfold nearI; rw [if_neg m0, if_neg n0, if_neg hxy])
        clear h ha hb
        go_enter Tryz.func274, Tryz.ntmps274
        go_wp2
        have hxy' : ¬ x < y := by omega
        go_quiet (fail)
        go_wp2
        go_ret
        exact ⟨rg_ret_int HE.out.symm, _, rfl⟩
set_option maxRecDepth 100000 in
set_option maxHeartbeats 4000000 in
theorem turns_any (W : World) (v : Value) (l : List (Int × Int)) (h : RRow W v l) :
    Calls Tryz.prog 251 #[v] W fun e w' => ∃ v' out, e = .returned v' ∧ Rg.ListOf l out ∧ IOwn w' W.heap.size v' (Rg.turnsN out) ∧ Below W.heap.size W w' := by
  obtain ⟨i0, hi, hz0, hz1, hz2⟩ := info_parts Tryz.infoInt
  have HA := Lib.hid h
  clear h
  go_enter Tryz.func251, Tryz.ntmps251
  go_wp2_with fail
  refine (norm_any _ _ _ HA.out).mono ?_
  rintro e wa ⟨v', out, rfl, hm, ho, hba⟩
  have hln := Rg.norm_len out 0 hm.norm (by omega)
  obtain ⟨b, cap, rfl, hl, hw, hc⟩ := ho.normRow hm.norm
  have HM := Lib.hid hm
  have HC := Lib.hid hc
  have HB := Lib.hid hba
  obtain ⟨n, hn⟩ : ∃ n, out.length = n := ⟨_, rfl⟩
  have HN := Lib.hid hn
  rw [hn] at hl HC hln ⊢
  clear hm hc hw ho hba HA hn
  go_wp2
  go_loopw [3, 9] (fun V i wr => ∃ k : Nat, k ≤ n ∧ i = .int .i64 k ∧ Hid (IOwn wr wa.heap.size V (Rg.turnsN (out.take k))) ∧ Hid (Below wa.heap.size wa wr)) (fun _ i _ => n - (intOf i).toNat)
  case atStart => exact ⟨0, Nat.zero_le _, rfl, Lib.hid IOwn.nil, Lib.hid (Below.refl _ _)⟩
  case round =>
    obtain ⟨k, hk, rfl, HO, HBa⟩ := hrel
    by_cases hlt : k < n
    · obtain ⟨g, off, rfl, hg, hc1, hc2⟩ := HC.out k hlt
      rw [← HBa.out.cell (p := ⟨g, off + k * 2, none⟩) hg] at hc1
      rw [← HBa.out.cell (p := ⟨g, off + k * 2 + 1, none⟩) hg] at hc2
      obtain ⟨g1, g2, g3⟩ := Rg.norm_get HM.out.norm k (by rw [HN.out]; exact hlt)
      have hsz := HBa.out.size
      have hts : out.take (k + 1) = out.take k ++ [out[k]?.getD (0, 0)] := by
        rw [List.take_succ_eq_append_getElem (by rw [HN.out]; exact hlt), List.getElem?_eq_getElem (by rw [HN.out]; exact hlt)]; rfl
      have htl : (out.take k).length = k := by rw [List.length_take, HN.out]; omega
      obtain ⟨p, hp⟩ : ∃ p, out[k]?.getD (0, 0) = p := ⟨_, rfl⟩
      rw [hp] at hc1 hc2 g1 g2 g3 hts
      have HT := Lib.hid hts
      have hown := HO.out
      unfold IOwn at hown
      rw [Rg.turns_len, htl] at hown
      have HTL := Lib.hid htl
      clear hp hts htl
      obtain ⟨p1, p2⟩ := p
      dsimp only at hc1 hc2 g1 g2 g3
      go_wp2_with (at_builtin; (refine wpList_append_own _ (by rfl) _ _ 134 (by rfl) wa.heap.size 3 i0 (.int .i64 0) 1 8 Tryz.underlying134 hi hz0 hz1 hz2 rfl (by decide) _ (k * 2) (flat1 (Rg.turnsN (out.take k))) (by rfl) ((hown.alloc _).alloc _) ⟨wr.heap.size + 1, 0, none⟩ 2 2 [.int .i64 p1, .int .i64 (p2 + 1)] (by rfl) rfl ?c1 (by simp [Value.oneCell']) (by unfold maxLen; omega) (by omega) (by simp; omega) ?_))
      case c1 => exact World.news_of_block (cs := #[.int .i64 p1, .int .i64 (p2 + 1)]) (heap_new2 _ _ _)
      intro v1 w1 hown' hgrow _
      have hO2 : IOwn w1 wa.heap.size v1 (Rg.turnsN (out.take (k + 1))) := by
        rw [HT.out]; unfold IOwn; rw [Rg.turns_snoc, List.length_append, Rg.turns_len, HTL.out]; simpa [flat1] using hown'
      have hB2 := ((HBa.out.alloc hsz _).alloc (by simp; omega) _).grown hgrow (by simp; omega) (fun q hq => (hown.lt q hq).1)
      have HO2 := Lib.hid hO2
      have HB2 := Lib.hid hB2
      clear hO2 hown' hgrow hown hB2
      go_wp2
      go_roundw
      case rel => exact ⟨k + 1, by omega, by go_num, HO2, HB2⟩
      case measure => simp [intOf]; omega
    · obtain rfl : k = n := by omega
      have hO := HO.out
      rw [List.take_of_length_le (by rw [HN.out]; exact Nat.le_refl _)] at hO
      have HO' := Lib.hid hO
      clear hO
      go_wp2
      go_ret
      exact ⟨_, out, rfl, HM.out, HO'.out.lower HB.out.size, HB.out.trans (HBa.out.mono HB.out.size)⟩
end Go.Proofs.YtecmeeobabadeaaGreatDoor
namespace Go.Proofs.YtecmeeobabadeaaGreatDoor
open Go.RowKit
set_option linter.unusedVariables false
set_option maxRecDepth 100000 in
set_option maxHeartbeats 4000000 in
theorem between_any (W : World) (v : Value) (T : List Int) (h : IRow W v T) (hT : ∀ t ∈ T, 0 ≤ t ∧ t ≤ 1114112) (he : T.length % 2 = 0) (hl : T.length ≤ 8796093022208) :
    Calls Tryz.prog 249 #[v] W fun e w' => ∃ v', e = .returned v' ∧ RgOwn w' W.heap.size v' (Rg.rangesOf T) ∧ Below W.heap.size W w' := by
  obtain ⟨i0, hi, hz0, hz1, hz2⟩ := info_parts Tryz.infoRange
  obtain ⟨a, cap, rfl, hnc, hcm, hc⟩ := h
  have HC := Lib.hid hc
  obtain ⟨n, hn⟩ : ∃ n, T.length = n := ⟨_, rfl⟩
  have HN := Lib.hid hn
  rw [hn] at hl HC hnc he ⊢
  obtain ⟨h2, rfl⟩ : ∃ h2, n = h2 * 2 := ⟨n / 2, by omega⟩
  clear hc hn he
  go_enter Tryz.func249, Tryz.ntmps249
  go_wp2
  go_loopw [3, 4] (fun V i wr => ∃ k : Nat, k ≤ h2 ∧ i = .int .i64 ((k * 2 : Nat) : Int) ∧ Hid (RgOwn wr W.heap.size V (Rg.rangesOf (T.take (k * 2)))) ∧ Hid (Below W.heap.size W wr)) (fun _ i _ => h2 * 2 - (intOf i).toNat)
  case atStart => exact ⟨0, Nat.zero_le _, rfl, Lib.hid RgOwn.nil, Lib.hid (Below.refl _ _)⟩
  case round =>
    obtain ⟨k, hk, rfl, HO, HB⟩ := hrel
    by_cases hlt : k < h2
    · obtain ⟨g, rfl, hg, hc1⟩ := HC.out (k * 2) (by omega)
      obtain ⟨g', hgg, _, hc2⟩ := HC.out (k * 2 + 1) (by omega)
      injection hgg with hgg; injection hgg with hgg; subst hgg
      rw [← HB.out.cell (p := ⟨g, k * 2, none⟩) hg] at hc1
      rw [← HB.out.cell (p := ⟨g, k * 2 + 1, none⟩) hg] at hc2
      have hsz := HB.out.size
      have hts := Rg.rangesOf_take T k (by rw [HN.out]; omega)
      have hml : (Rg.rangesOf (T.take (k * 2))).length = k := by
        have := Rg.rangesOf_len (T.take (k * 2)) (by rw [List.length_take, HN.out]; omega)
        rw [List.length_take, HN.out] at this; omega
      have hx := hT (T[k * 2]?.getD 0) (by rw [List.getElem?_eq_getElem (by rw [HN.out]; omega)]; exact List.getElem_mem _)
      have hy := hT (T[k * 2 + 1]?.getD 0) (by rw [List.getElem?_eq_getElem (by rw [HN.out]; omega)]; exact List.getElem_mem _)
      obtain ⟨x, ex⟩ : ∃ x, T[k * 2]?.getD 0 = x := ⟨_, rfl⟩
      obtain ⟨y, ey⟩ : ∃ y, T[k * 2 + 1]?.getD 0 = y := ⟨_, rfl⟩
      rw [ex] at hc1 hx hts
      rw [ey] at hc2 hy hts
      have HT := Lib.hid hts
      have hown := HO.out
      unfold RgOwn at hown
      rw [hml] at hown
      have HML := Lib.hid hml
      obtain ⟨hx0, hx1⟩ := hx
      obtain ⟨hy0, hy1⟩ := hy
      have hgs : g < wr.heap.size := by omega
      clear ex ey hts hml
      have b1 : (0 : Int) ≤ (k : Int) * 2 := by omega
      have b2 : (k : Int) * 2 < (h2 : Int) * 2 := by omega
      have b3 : (0 : Int) ≤ (k : Int) * 2 + 1 := by omega
      have b4 : (k : Int) * 2 + 1 < (h2 : Int) * 2 := by omega
      have hag : u3.ownBlock ≠ some g := fun e => by have := (hown.lt g e).1; omega
      have HAG := Lib.hid hag
      clear hag
      go_wp2
      have w1 : IntKind.i64.wrap ((k : Int) * 2 + 1) = (k : Int) * 2 + 1 := IntWalk.i64_in _ (by omega)
      have w2 : IntKind.i64.wrap (y - 1) = y - 1 := IntWalk.i64_in _ (by omega)
      have w3 : ((k : Int) * 2).toNat = k * 2 := by omega
      have w4 : ((k : Int) * 2 + 1).toNat = k * 2 + 1 := by omega
      go_region_held3 (fun w' => w'.cell? ⟨g, k * 2, none⟩ = some (.int .i64 x) ∧ w'.cell? ⟨g, k * 2 + 1, none⟩ = some (.int .i64 y))
        (first
          | go_keep
          | (go_split_ands
             refine ⟨?_, ?_⟩
             · (rw [hgrow.cell_far _ (by simp; omega) (Ne.symm HAG.out)]; assumption)
             · (rw [hgrow.cell_far _ (by simp; omega) (Ne.symm HAG.out)]; assumption)))
        ((refine step_append_lies _ (by rfl) _ _ 23 (by rfl) W.heap.size 77 i0 (.agg #[.int .i64 0, .int .i64 0]) 2 16 Tryz.underlying23 hi hz0 hz1 hz2 rfl (by omega) _ k (flat2 (Rg.rangesOf (T.take (k * 2)))) (by rfl) ((hown.alloc _).drew)
            ⟨wr.heap.size, 0, none⟩ 1 1 [.int .i64 x, .int .i64 (y - 1)] (by rfl) (by rfl) (World.news_of_block (cs := #[.int .i64 x, .int .i64 (y - 1)]) (t := 77) (fr := (0, 0)) (heap_alloc_new wr _)) (by simp [Value.oneCell'])
            (by omega) (by unfold maxLen; omega) (by omega) (by simp; omega) (wr.heap.size + 1) (by simp) ?_; intro gg cap1 wz hown1 hgrow hat hlt1))
      have hO2 : RgOwn wz W.heap.size (.slice (some ⟨gg, 0, none⟩) (k + 1) cap1) (Rg.rangesOf (T.take (k * 2 + 2))) := by
        rw [HT.out]; unfold RgOwn; rw [List.length_append, flat2_snoc, HML.out]; exact hown1
      have hB2 := (below_drewNr (HB.out.alloc hsz _) 1).grown hgrow (by simp; omega) (fun q hq => (hown.lt q hq).1)
      have HO2 := Lib.hid hO2
      have HB2 := Lib.hid hB2
      clear hO2 hown1 hgrow hown hB2 hat hlt1 w1 w2 w3 w4
      go_wp2
      go_roundw
      case rel => exact ⟨k + 1, by omega, by go_num, by rw [show (k + 1) * 2 = k * 2 + 2 by omega]; exact HO2, HB2⟩
      case measure => simp [intOf]; omega
    · obtain rfl : k = h2 := by omega
      have hO := HO.out
      rw [List.take_of_length_le (by rw [HN.out]; exact Nat.le_refl _)] at hO
      have HO' := Lib.hid hO
      clear hO
      go_wp2
      go_ret
      exact ⟨_, rfl, HO'.out, HB.out⟩
end Go.Proofs.YtecmeeobabadeaaGreatDoor
namespace Go.Proofs.YtecmeeobabadeaaGreatDoor
open Go.RowKit
set_option linter.unusedVariables false
theorem head_lt {x y : Int} {T : List Int} (h : x < y) (g : ∀ z ∈ T, y < z) : ∀ z ∈ [y] ++ T, x < z := by
  intro z hz
  rcases List.mem_append.1 hz with hz | hz
  · simp at hz; omega
  · have := g z hz; omega
theorem len_one {T : List Int} {a : Nat} {x : Int} (h : T.length = a) : (T ++ [x]).length = a + 1 := by rw [List.length_append, h]; rfl
theorem len_nil {T : List Int} {a : Nat} (h : T.length = a) : (T ++ []).length = a := by rw [List.append_nil, h]
def KeepOk (g : Nat) (K : Bool → Bool → Bool) : Prop :=
  (∀ args w, (callFunc g args).run Tryz.prog w = .ok (.enter g args) w) ∧ ∀ (x y : Bool) (w : World), Calls Tryz.prog g #[.bool x, .bool y] w fun e w' => e = .returned (.bool (K x y)) ∧ w = w'
theorem odd_int (a : Nat) : (((a : Int) % 2 == 1) : Bool) = Rg.odd a := by
  unfold Rg.odd
  rcases Nat.mod_two_eq_zero_or_one a with h | h
  · have : (a : Int) % 2 = 0 := by omega
    rw [h, this]; rfl
  · have : (a : Int) % 2 = 1 := by omega
    rw [h, this]; rfl
theorem asc_drop {T : List Int} {a : Nat} (h : T.Pairwise (· < ·)) (ha : a < T.length) : ∀ z ∈ T.drop (a + 1), T[a]?.getD 0 < z := by
  intro z hz
  have := List.Pairwise.sublist (List.drop_sublist a T) h
  rw [List.drop_eq_getElem_cons ha] at this
  rw [List.getElem?_eq_getElem ha]
  exact (List.pairwise_cons.1 this).1 z hz
theorem drop_head {T : List Int} {a : Nat} (ha : a < T.length) : T.drop a = [T[a]?.getD 0] ++ T.drop (a + 1) := by
  rw [List.drop_eq_getElem_cons ha, List.getElem?_eq_getElem ha]; rfl
theorem take_head {T : List Int} {a : Nat} (ha : a < T.length) : T.take (a + 1) = T.take a ++ [T[a]?.getD 0] := by
  rw [List.take_succ_eq_append_getElem ha, List.getElem?_eq_getElem ha]; rfl
theorem keep_int {g : Nat} {K : Bool → Bool → Bool} (hk : ∀ (x y : Bool) (w : World), Calls Tryz.prog g #[.bool x, .bool y] w fun e w' => e = .returned (.bool (K x y)) ∧ w = w') {a b : Nat} {p q : Int} (hp : p = (a : Int)) (hq : q = (b : Int)) {z : Bool}
    (hz : K (Rg.odd a) (Rg.odd b) = z) (w : World) : Calls Tryz.prog g #[.bool (p % 2 == 1), .bool (q % 2 == 1)] w fun e w' => e = .returned (.bool z) ∧ w = w' := by
  subst hp; subst hq
  rw [odd_int, odd_int, ← hz]
  exact hk _ _ w
theorem near_at {W : World} {a b : Option Addr} {n m p q : Nat} {x y z : Int} (hz : nearI n m x y = z) (hn : n ≤ 8796093022208) (hm : m ≤ 8796093022208)
    (ha : 0 < n → ∃ g off, a = some ⟨g, off, none⟩ ∧ W.cell? ⟨g, off, none⟩ = some (.int .i64 x))
    (hb : 0 < m → ∃ g off, b = some ⟨g, off, none⟩ ∧ W.cell? ⟨g, off, none⟩ = some (.int .i64 y)) (h : 0 < n ∨ 0 < m) :
    Calls Tryz.prog 274 #[.slice a n p, .slice b m q] W fun e w' => e = .returned (.int .i64 z) ∧ ∃ d, w' = W.drewN d := by
  rw [← hz]; exact nearest_walk W a b n m p q x y hn hm ha hb h
def WOut (K : Bool → Bool → Bool) (A B : List Int) (W : World) (e : Ending) (w' : World) : Prop :=
  ∃ v' out, e = .returned v' ∧ Rg.WInv K A [] B [] out ∧ out.length ≤ A.length + B.length ∧ IOwn w' W.heap.size v' out ∧ Below W.heap.size W w'
set_option maxRecDepth 100000 in
set_option maxHeartbeats 16000000 in
theorem walk_any (W : World) (va vb : Value) (A B : List Int) (g : Nat) (K : Bool → Bool → Bool) (hk : KeepOk g K) (hK0 : K false false = false)
    (hA : IRow W va A) (hB : IRow W vb B) (ascA : A.Pairwise (· < ·)) (ascB : B.Pairwise (· < ·)) (bdA : ∀ t ∈ A, 0 ≤ t ∧ t ≤ 1114112) (bdB : ∀ t ∈ B, 0 ≤ t ∧ t ≤ 1114112) (lA : A.length ≤ 2228226) (lB : B.length ≤ 2228226) :
    Calls Tryz.prog 250 #[va, vb, .func (.func g) #[] #[]] W (WOut K A B W) := by
  obtain ⟨i0, hi, hz0, hz1, hz2⟩ := info_parts Tryz.infoInt
  obtain ⟨eg, hk⟩ := hk
  have HK := Lib.hid hk
  have HK0 := Lib.hid hK0
  obtain ⟨sa, ca, rfl, na1, na2, hca⟩ := hA
  obtain ⟨sb, cb, rfl, nb1, nb2, hcb⟩ := hB
  have HCA := Lib.hid hca
  have HCB := Lib.hid hcb
  have HASA := Lib.hid ascA
  have HASB := Lib.hid ascB
  have HBA := Lib.hid bdA
  have HBB := Lib.hid bdB
  obtain ⟨n, hn⟩ : ∃ n, A.length = n := ⟨_, rfl⟩
  obtain ⟨m, hm⟩ : ∃ m, B.length = m := ⟨_, rfl⟩
  have HN := Lib.hid hn
  have HM := Lib.hid hm
  rw [hn] at HCA na1 lA ⊢
  rw [hm] at HCB nb1 lB ⊢
  clear hk hK0 hca hcb ascA ascB bdA bdB hn hm
  go_enter Tryz.func250, Tryz.ntmps250
  go_wp2
  go_loopw [7, 8, 9, 10] (fun V I J KP wr => ∃ (a b : Nat) (out : List Int) (kp : Bool), a ≤ n ∧ b ≤ m ∧ I = .int .i64 a ∧ J = .int .i64 b ∧ KP = .bool kp ∧
      Hid (Rg.WInv K (A.take a) (A.drop a) (B.take b) (B.drop b) out) ∧ Hid (kp = Rg.odd out.length) ∧ out.length ≤ a + b ∧ Hid (IOwn wr W.heap.size V out) ∧ Hid (Below W.heap.size W wr)) (fun _ I J _ _ => (n - (intOf I).toNat) + (m - (intOf J).toNat))
  case atStart => exact ⟨0, 0, [], false, Nat.zero_le _, Nat.zero_le _, rfl, rfl, rfl, Lib.hid (Rg.WInv.start K HK0.out A B), Lib.hid rfl, Nat.zero_le _, Lib.hid IOwn.nil, Lib.hid (Below.refl _ _)⟩
  case round =>
    obtain ⟨a, b, out, kp, ha, hb, rfl, rfl, rfl, HI, HP, hol, HO, HBl⟩ := hrel
    have hsz := HBl.out.size
    have la : (A.take a).length = a := by rw [List.length_take, HN.out]; omega
    have lb : (B.take b).length = b := by rw [List.length_take, HM.out]; omega
    have HLA := Lib.hid la
    have HLB := Lib.hid lb
    clear la lb
    have a0 : (0 : Int) ≤ (a : Int) := by omega
    have a1 : (a : Int) ≤ (n : Int) := by omega
    have b0 : (0 : Int) ≤ (b : Int) := by omega
    have b1 : (b : Int) ≤ (m : Int) := by omega
    by_cases hna : a < n
    · obtain ⟨ga, rfl, hga, hxa⟩ := HCA.out a hna
      rw [← HBl.out.cell (p := ⟨ga, a, none⟩) hga] at hxa
      have bx := HBA.out (A[a]?.getD 0) (by rw [List.getElem?_eq_getElem (by rw [HN.out]; exact hna)]; exact List.getElem_mem _)
      have HDA := Lib.hid (drop_head (T := A) (a := a) (by rw [HN.out]; exact hna))
      have HTA := Lib.hid (take_head (T := A) (a := a) (by rw [HN.out]; exact hna))
      have HGA := Lib.hid (asc_drop HASA.out (a := a) (by rw [HN.out]; exact hna))
      obtain ⟨x, ex⟩ : ∃ x, A[a]?.getD 0 = x := ⟨_, rfl⟩
      rw [ex] at hxa bx HDA HTA HGA
      clear ex
      have hgw : ga < wr.heap.size := by omega
      have a2 : (a : Int) < (n : Int) := by omega
      by_cases hmb : b < m
      · obtain ⟨gb, rfl, hgb, hyb⟩ := HCB.out b hmb
        rw [← HBl.out.cell (p := ⟨gb, b, none⟩) hgb] at hyb
        have bY := HBB.out (B[b]?.getD 0) (by rw [List.getElem?_eq_getElem (by rw [HM.out]; exact hmb)]; exact List.getElem_mem _)
        have HDB := Lib.hid (drop_head (T := B) (a := b) (by rw [HM.out]; exact hmb))
        have HTB := Lib.hid (take_head (T := B) (a := b) (by rw [HM.out]; exact hmb))
        have HGB := Lib.hid (asc_drop HASB.out (a := b) (by rw [HM.out]; exact hmb))
        obtain ⟨y, ey⟩ : ∃ y, B[b]?.getD 0 = y := ⟨_, rfl⟩
        rw [ey] at hyb bY HDB HTB HGB
        clear ey
        have hgv : gb < wr.heap.size := by omega
        have b2 : (b : Int) < (m : Int) := by omega
        by_cases hxy : x < y
        · have hq : (y == x) = false := by rw [beq_eq_false_iff_ne]; omega
          have hst := fun (cO : List Int) (hO : cO = [] ∨ cO = [x]) (hodd : Rg.odd (out ++ cO).length = K (Rg.odd (a + 1)) (Rg.odd (b))) => HI.out.step (at_ := x) (cA := [x]) (cB := []) (cO := cO) (A3 := A.drop (a + 1)) (B3 := B.drop (b)) HDA.out (List.nil_append _).symm (.inr rfl) (.inl rfl) hO (.inl rfl) HGA.out (by rw [HDB.out]; exact head_lt hxy HGB.out) bx (by rw [len_one HLA.out, len_nil HLB.out]; exact hodd)
          rw [← HTA.out] at hst
          rw [List.append_nil (B.take _)] at hst
          have HST := Lib.hid hst
          clear hst
          have hown := HO.out
          unfold IOwn at hown
          have HOW := Lib.hid hown
          clear hown
          go_wp2
          have hnear : nearI (n - a) (m - b) x y = x := by unfold nearI; rw [if_neg (by omega), if_neg (by omega), if_pos hxy]
          have HNE := Lib.hid hnear
          clear hnear
          go_quiet ((go_at_call 274; exact Calls.quiet_of (near_at HNE.out (by omega) (by omega) (by intro h0; split <;> first | (exfalso; omega) | exact ⟨ga, a, by simp, hxa⟩) (by intro h0; split <;> first | (exfalso; omega) | exact ⟨gb, b, by simp, hyb⟩) (by omega))))
          obtain ⟨kq, hkq⟩ : ∃ z, K (Rg.odd (a + 1)) (Rg.odd (b)) = z := ⟨_, rfl⟩
          have HKQ := Lib.hid hkq
          clear hkq
          go_wp2_with fail
          all_goals
            refine (keep_int HK.out (a := a + 1) (b := b) (by push_cast; rfl) (by push_cast; rfl) HKQ.out _).mono ?_
            rintro e w1 ⟨rfl, rfl⟩
            cases kq <;> cases kp
            all_goals first
              | (have hodd : Rg.odd (out ++ []).length = K (Rg.odd (a + 1)) (Rg.odd (b)) := by rw [List.append_nil, ← HP.out, HKQ.out]
                 have HI2 := HST.out [] (.inl rfl) hodd
                 rw [List.append_nil] at HI2
                 have HI3 := Lib.hid HI2
                 clear hodd HI2
                 go_wp2
                 go_roundw
                 case rel => exact ⟨a + 1, b, out, _, by omega, by omega, by go_num, by go_num, rfl, HI3, HP, by omega, HO, Lib.hid (below_drewNr HBl.out _)⟩
                 case measure => simp [intOf]; omega)
              | (have hodd : Rg.odd (out ++ [x]).length = K (Rg.odd (a + 1)) (Rg.odd (b)) := by rw [List.length_append, List.length_singleton, Rg.odd_succ, ← HP.out, HKQ.out]; rfl
                 have HI3 := Lib.hid (HST.out [x] (.inr rfl) hodd)
                 have HP3 := Lib.hid ((hodd.trans HKQ.out).symm)
                 clear hodd
                 have hown := HOW.out
                 go_wp2_with (at_builtin; (refine wpList_append_own _ (by rfl) _ _ 134 (by rfl) W.heap.size 3 i0 (.int .i64 0) 1 8 Tryz.underlying134 hi hz0 hz1 hz2 rfl (by decide) _ out.length (flat1 out) (by rfl) (hown.alloc _) ⟨wr.heap.size, 0, none⟩ 1 1 [.int .i64 x] (by rfl) rfl (World.news_of_block (cs := #[.int .i64 x]) (heap_alloc_new _ _)) (by simp [Value.oneCell']) (by unfold maxLen; omega) (by omega) (by simp; omega) ?_))
                 intro v1 w1 hown1 hgrow _
                 have hO2 : IOwn w1 W.heap.size v1 (out ++ [x]) := by unfold IOwn; rw [List.length_append]; simpa [flat1] using hown1
                 have hB2 := ((below_drewNr HBl.out _).alloc hsz _).grown hgrow (by simp; omega) (fun q hq => (hown.lt q hq).1)
                 have HO2 := Lib.hid hO2
                 have HB2 := Lib.hid hB2
                 clear hO2 hown1 hgrow hown hB2
                 go_wp2
                 go_roundw
                 case rel => exact ⟨a + 1, b, _, _, by omega, by omega, by go_num, by go_num, rfl, HI3, HP3, by rw [List.length_append, List.length_singleton]; omega, HO2, HB2⟩
                 case measure => simp [intOf]; omega)
        · by_cases hyx : y < x
          · have hq : (x == y) = false := by rw [beq_eq_false_iff_ne]; omega
            have hst := fun (cO : List Int) (hO : cO = [] ∨ cO = [y]) (hodd : Rg.odd (out ++ cO).length = K (Rg.odd (a)) (Rg.odd (b + 1))) => HI.out.step (at_ := y) (cA := []) (cB := [y]) (cO := cO) (A3 := A.drop (a)) (B3 := B.drop (b + 1)) (List.nil_append _).symm HDB.out (.inl rfl) (.inr rfl) hO (.inr rfl) (by rw [HDA.out]; exact head_lt hyx HGA.out) HGB.out bY (by rw [len_nil HLA.out, len_one HLB.out]; exact hodd)
            rw [List.append_nil (A.take _)] at hst
            rw [← HTB.out] at hst
            have HST := Lib.hid hst
            clear hst
            have hown := HO.out
            unfold IOwn at hown
            have HOW := Lib.hid hown
            clear hown
            go_wp2
            have hnear : nearI (n - a) (m - b) x y = y := by unfold nearI; rw [if_neg (by omega), if_neg (by omega), if_neg (by omega)]
            have HNE := Lib.hid hnear
            clear hnear
            go_quiet ((go_at_call 274; exact Calls.quiet_of (near_at HNE.out (by omega) (by omega) (by intro h0; split <;> first | (exfalso; omega) | exact ⟨ga, a, by simp, hxa⟩) (by intro h0; split <;> first | (exfalso; omega) | exact ⟨gb, b, by simp, hyb⟩) (by omega))))
            obtain ⟨kq, hkq⟩ : ∃ z, K (Rg.odd (a)) (Rg.odd (b + 1)) = z := ⟨_, rfl⟩
            have HKQ := Lib.hid hkq
            clear hkq
            go_wp2_with fail
            all_goals
              refine (keep_int HK.out (a := a) (b := b + 1) (by push_cast; rfl) (by push_cast; rfl) HKQ.out _).mono ?_
              rintro e w1 ⟨rfl, rfl⟩
              cases kq <;> cases kp
              all_goals first
                | (have hodd : Rg.odd (out ++ []).length = K (Rg.odd (a)) (Rg.odd (b + 1)) := by rw [List.append_nil, ← HP.out, HKQ.out]
                   have HI2 := HST.out [] (.inl rfl) hodd
                   rw [List.append_nil] at HI2
                   have HI3 := Lib.hid HI2
                   clear hodd HI2
                   go_wp2
                   go_roundw
                   case rel => exact ⟨a, b + 1, out, _, by omega, by omega, by go_num, by go_num, rfl, HI3, HP, by omega, HO, Lib.hid (below_drewNr HBl.out _)⟩
                   case measure => simp [intOf]; omega)
                | (have hodd : Rg.odd (out ++ [y]).length = K (Rg.odd (a)) (Rg.odd (b + 1)) := by rw [List.length_append, List.length_singleton, Rg.odd_succ, ← HP.out, HKQ.out]; rfl
                   have HI3 := Lib.hid (HST.out [y] (.inr rfl) hodd)
                   have HP3 := Lib.hid ((hodd.trans HKQ.out).symm)
                   clear hodd
                   have hown := HOW.out
                   go_wp2_with (at_builtin; (refine wpList_append_own _ (by rfl) _ _ 134 (by rfl) W.heap.size 3 i0 (.int .i64 0) 1 8 Tryz.underlying134 hi hz0 hz1 hz2 rfl (by decide) _ out.length (flat1 out) (by rfl) (hown.alloc _) ⟨wr.heap.size, 0, none⟩ 1 1 [.int .i64 y] (by rfl) rfl (World.news_of_block (cs := #[.int .i64 y]) (heap_alloc_new _ _)) (by simp [Value.oneCell']) (by unfold maxLen; omega) (by omega) (by simp; omega) ?_))
                   intro v1 w1 hown1 hgrow _
                   have hO2 : IOwn w1 W.heap.size v1 (out ++ [y]) := by unfold IOwn; rw [List.length_append]; simpa [flat1] using hown1
                   have hB2 := ((below_drewNr HBl.out _).alloc hsz _).grown hgrow (by simp; omega) (fun q hq => (hown.lt q hq).1)
                   have HO2 := Lib.hid hO2
                   have HB2 := Lib.hid hB2
                   clear hO2 hown1 hgrow hown hB2
                   go_wp2
                   go_roundw
                   case rel => exact ⟨a, b + 1, _, _, by omega, by omega, by go_num, by go_num, rfl, HI3, HP3, by rw [List.length_append, List.length_singleton]; omega, HO2, HB2⟩
                   case measure => simp [intOf]; omega)
          · obtain rfl : x = y := by omega
            have hst := fun (cO : List Int) (hO : cO = [] ∨ cO = [x]) (hodd : Rg.odd (out ++ cO).length = K (Rg.odd (a + 1)) (Rg.odd (b + 1))) => HI.out.step (at_ := x) (cA := [x]) (cB := [x]) (cO := cO) (A3 := A.drop (a + 1)) (B3 := B.drop (b + 1)) HDA.out HDB.out (.inr rfl) (.inr rfl) hO (.inl rfl) HGA.out HGB.out bx (by rw [len_one HLA.out, len_one HLB.out]; exact hodd)
            rw [← HTA.out] at hst
            rw [← HTB.out] at hst
            have HST := Lib.hid hst
            clear hst
            have hown := HO.out
            unfold IOwn at hown
            have HOW := Lib.hid hown
            clear hown
            go_wp2
            have hnear : nearI (n - a) (m - b) x x = x := by unfold nearI; rw [if_neg (by omega), if_neg (by omega), if_neg (by omega)]
            have HNE := Lib.hid hnear
            clear hnear
            go_quiet ((go_at_call 274; exact Calls.quiet_of (near_at HNE.out (by omega) (by omega) (by intro h0; split <;> first | (exfalso; omega) | exact ⟨ga, a, by simp, hxa⟩) (by intro h0; split <;> first | (exfalso; omega) | exact ⟨gb, b, by simp, hyb⟩) (by omega))))
            obtain ⟨kq, hkq⟩ : ∃ z, K (Rg.odd (a + 1)) (Rg.odd (b + 1)) = z := ⟨_, rfl⟩
            have HKQ := Lib.hid hkq
            clear hkq
            go_wp2_with fail
            all_goals
              refine (keep_int HK.out (a := a + 1) (b := b + 1) (by push_cast; rfl) (by push_cast; rfl) HKQ.out _).mono ?_
              rintro e w1 ⟨rfl, rfl⟩
              cases kq <;> cases kp
              all_goals first
                | (have hodd : Rg.odd (out ++ []).length = K (Rg.odd (a + 1)) (Rg.odd (b + 1)) := by rw [List.append_nil, ← HP.out, HKQ.out]
                   have HI2 := HST.out [] (.inl rfl) hodd
                   rw [List.append_nil] at HI2
                   have HI3 := Lib.hid HI2
                   clear hodd HI2
                   go_wp2
                   go_roundw
                   case rel => exact ⟨a + 1, b + 1, out, _, by omega, by omega, by go_num, by go_num, rfl, HI3, HP, by omega, HO, Lib.hid (below_drewNr HBl.out _)⟩
                   case measure => simp [intOf]; omega)
                | (have hodd : Rg.odd (out ++ [x]).length = K (Rg.odd (a + 1)) (Rg.odd (b + 1)) := by rw [List.length_append, List.length_singleton, Rg.odd_succ, ← HP.out, HKQ.out]; rfl
                   have HI3 := Lib.hid (HST.out [x] (.inr rfl) hodd)
                   have HP3 := Lib.hid ((hodd.trans HKQ.out).symm)
                   clear hodd
                   have hown := HOW.out
                   go_wp2_with (at_builtin; (refine wpList_append_own _ (by rfl) _ _ 134 (by rfl) W.heap.size 3 i0 (.int .i64 0) 1 8 Tryz.underlying134 hi hz0 hz1 hz2 rfl (by decide) _ out.length (flat1 out) (by rfl) (hown.alloc _) ⟨wr.heap.size, 0, none⟩ 1 1 [.int .i64 x] (by rfl) rfl (World.news_of_block (cs := #[.int .i64 x]) (heap_alloc_new _ _)) (by simp [Value.oneCell']) (by unfold maxLen; omega) (by omega) (by simp; omega) ?_))
                   intro v1 w1 hown1 hgrow _
                   have hO2 : IOwn w1 W.heap.size v1 (out ++ [x]) := by unfold IOwn; rw [List.length_append]; simpa [flat1] using hown1
                   have hB2 := ((below_drewNr HBl.out _).alloc hsz _).grown hgrow (by simp; omega) (fun q hq => (hown.lt q hq).1)
                   have HO2 := Lib.hid hO2
                   have HB2 := Lib.hid hB2
                   clear hO2 hown1 hgrow hown hB2
                   go_wp2
                   go_roundw
                   case rel => exact ⟨a + 1, b + 1, _, _, by omega, by omega, by go_num, by go_num, rfl, HI3, HP3, by rw [List.length_append, List.length_singleton]; omega, HO2, HB2⟩
                   case measure => simp [intOf]; omega)
      · obtain rfl : b = m := by omega
        have hcc : b < cb ∨ b = cb := by omega
        rcases hcc with hcc | rfl
        all_goals
          have hst := fun (cO : List Int) (hO : cO = [] ∨ cO = [x]) (hodd : Rg.odd (out ++ cO).length = K (Rg.odd (a + 1)) (Rg.odd (b))) => HI.out.step (at_ := x) (cA := [x]) (cB := []) (cO := cO) (A3 := A.drop (a + 1)) (B3 := B.drop (b)) HDA.out (List.nil_append _).symm (.inr rfl) (.inl rfl) hO (.inl rfl) HGA.out (by rw [List.drop_eq_nil_of_le (by rw [HM.out]; exact Nat.le_refl _)]; intro z hz; cases hz) bx (by rw [len_one HLA.out, len_nil HLB.out]; exact hodd)
          rw [← HTA.out] at hst
          rw [List.append_nil (B.take _)] at hst
          have HST := Lib.hid hst
          clear hst
          have hown := HO.out
          unfold IOwn at hown
          have HOW := Lib.hid hown
          clear hown
          go_wp2
          have hnear : nearI (n - a) 0 x 0 = x := by unfold nearI; rw [if_pos rfl]
          have HNE := Lib.hid hnear
          clear hnear
          go_quiet ((go_at_call 274; exact Calls.quiet_of (near_at HNE.out (by omega) (by omega) (by intro h0; split <;> first | (exfalso; omega) | exact ⟨ga, a, by simp, hxa⟩) (by intro h0; omega) (by omega))))
          obtain ⟨kq, hkq⟩ : ∃ z, K (Rg.odd (a + 1)) (Rg.odd (b)) = z := ⟨_, rfl⟩
          have HKQ := Lib.hid hkq
          clear hkq
          go_wp2_with fail
          all_goals
            refine (keep_int HK.out (a := a + 1) (b := b) (by push_cast; rfl) (by push_cast; rfl) HKQ.out _).mono ?_
            rintro e w1 ⟨rfl, rfl⟩
            cases kq <;> cases kp
            all_goals first
              | (have hodd : Rg.odd (out ++ []).length = K (Rg.odd (a + 1)) (Rg.odd (b)) := by rw [List.append_nil, ← HP.out, HKQ.out]
                 have HI2 := HST.out [] (.inl rfl) hodd
                 rw [List.append_nil] at HI2
                 have HI3 := Lib.hid HI2
                 clear hodd HI2
                 go_wp2
                 go_roundw
                 case rel => exact ⟨a + 1, b, out, _, by omega, by omega, by go_num, by go_num, rfl, HI3, HP, by omega, HO, Lib.hid (below_drewNr HBl.out _)⟩
                 case measure => simp [intOf]; omega)
              | (have hodd : Rg.odd (out ++ [x]).length = K (Rg.odd (a + 1)) (Rg.odd (b)) := by rw [List.length_append, List.length_singleton, Rg.odd_succ, ← HP.out, HKQ.out]; rfl
                 have HI3 := Lib.hid (HST.out [x] (.inr rfl) hodd)
                 have HP3 := Lib.hid ((hodd.trans HKQ.out).symm)
                 clear hodd
                 have hown := HOW.out
                 go_wp2_with (at_builtin; (refine wpList_append_own _ (by rfl) _ _ 134 (by rfl) W.heap.size 3 i0 (.int .i64 0) 1 8 Tryz.underlying134 hi hz0 hz1 hz2 rfl (by decide) _ out.length (flat1 out) (by rfl) (hown.alloc _) ⟨wr.heap.size, 0, none⟩ 1 1 [.int .i64 x] (by rfl) rfl (World.news_of_block (cs := #[.int .i64 x]) (heap_alloc_new _ _)) (by simp [Value.oneCell']) (by unfold maxLen; omega) (by omega) (by simp; omega) ?_))
                 intro v1 w1 hown1 hgrow _
                 have hO2 : IOwn w1 W.heap.size v1 (out ++ [x]) := by unfold IOwn; rw [List.length_append]; simpa [flat1] using hown1
                 have hB2 := ((below_drewNr HBl.out _).alloc hsz _).grown hgrow (by simp; omega) (fun q hq => (hown.lt q hq).1)
                 have HO2 := Lib.hid hO2
                 have HB2 := Lib.hid hB2
                 clear hO2 hown1 hgrow hown hB2
                 go_wp2
                 go_roundw
                 case rel => exact ⟨a + 1, b, _, _, by omega, by omega, by go_num, by go_num, rfl, HI3, HP3, by rw [List.length_append, List.length_singleton]; omega, HO2, HB2⟩
                 case measure => simp [intOf]; omega)
    · obtain rfl : a = n := by omega
      by_cases hmb : b < m
      · obtain ⟨gb, rfl, hgb, hyb⟩ := HCB.out b hmb
        rw [← HBl.out.cell (p := ⟨gb, b, none⟩) hgb] at hyb
        have bY := HBB.out (B[b]?.getD 0) (by rw [List.getElem?_eq_getElem (by rw [HM.out]; exact hmb)]; exact List.getElem_mem _)
        have HDB := Lib.hid (drop_head (T := B) (a := b) (by rw [HM.out]; exact hmb))
        have HTB := Lib.hid (take_head (T := B) (a := b) (by rw [HM.out]; exact hmb))
        have HGB := Lib.hid (asc_drop HASB.out (a := b) (by rw [HM.out]; exact hmb))
        obtain ⟨y, ey⟩ : ∃ y, B[b]?.getD 0 = y := ⟨_, rfl⟩
        rw [ey] at hyb bY HDB HTB HGB
        clear ey
        have hgv : gb < wr.heap.size := by omega
        have b2 : (b : Int) < (m : Int) := by omega
        have hcc : a < ca ∨ a = ca := by omega
        rcases hcc with hcc | rfl
        all_goals
          have hst := fun (cO : List Int) (hO : cO = [] ∨ cO = [y]) (hodd : Rg.odd (out ++ cO).length = K (Rg.odd (a)) (Rg.odd (b + 1))) => HI.out.step (at_ := y) (cA := []) (cB := [y]) (cO := cO) (A3 := A.drop (a)) (B3 := B.drop (b + 1)) (List.nil_append _).symm HDB.out (.inl rfl) (.inr rfl) hO (.inr rfl) (by rw [List.drop_eq_nil_of_le (by rw [HN.out]; exact Nat.le_refl _)]; intro z hz; cases hz) HGB.out bY (by rw [len_nil HLA.out, len_one HLB.out]; exact hodd)
          rw [List.append_nil (A.take _)] at hst
          rw [← HTB.out] at hst
          have HST := Lib.hid hst
          clear hst
          have hown := HO.out
          unfold IOwn at hown
          have HOW := Lib.hid hown
          clear hown
          go_wp2
          have hnear : nearI 0 (m - b) 0 y = y := by unfold nearI; rw [if_neg (by omega), if_pos rfl]
          have HNE := Lib.hid hnear
          clear hnear
          go_quiet ((go_at_call 274; exact Calls.quiet_of (near_at HNE.out (by omega) (by omega) (by intro h0; omega) (by intro h0; split <;> first | (exfalso; omega) | exact ⟨gb, b, by simp, hyb⟩) (by omega))))
          obtain ⟨kq, hkq⟩ : ∃ z, K (Rg.odd (a)) (Rg.odd (b + 1)) = z := ⟨_, rfl⟩
          have HKQ := Lib.hid hkq
          clear hkq
          go_wp2_with fail
          all_goals
            refine (keep_int HK.out (a := a) (b := b + 1) (by push_cast; rfl) (by push_cast; rfl) HKQ.out _).mono ?_
            rintro e w1 ⟨rfl, rfl⟩
            cases kq <;> cases kp
            all_goals first
              | (have hodd : Rg.odd (out ++ []).length = K (Rg.odd (a)) (Rg.odd (b + 1)) := by rw [List.append_nil, ← HP.out, HKQ.out]
                 have HI2 := HST.out [] (.inl rfl) hodd
                 rw [List.append_nil] at HI2
                 have HI3 := Lib.hid HI2
                 clear hodd HI2
                 go_wp2
                 go_roundw
                 case rel => exact ⟨a, b + 1, out, _, by omega, by omega, by go_num, by go_num, rfl, HI3, HP, by omega, HO, Lib.hid (below_drewNr HBl.out _)⟩
                 case measure => simp [intOf]; omega)
              | (have hodd : Rg.odd (out ++ [y]).length = K (Rg.odd (a)) (Rg.odd (b + 1)) := by rw [List.length_append, List.length_singleton, Rg.odd_succ, ← HP.out, HKQ.out]; rfl
                 have HI3 := Lib.hid (HST.out [y] (.inr rfl) hodd)
                 have HP3 := Lib.hid ((hodd.trans HKQ.out).symm)
                 clear hodd
                 have hown := HOW.out
                 go_wp2_with (at_builtin; (refine wpList_append_own _ (by rfl) _ _ 134 (by rfl) W.heap.size 3 i0 (.int .i64 0) 1 8 Tryz.underlying134 hi hz0 hz1 hz2 rfl (by decide) _ out.length (flat1 out) (by rfl) (hown.alloc _) ⟨wr.heap.size, 0, none⟩ 1 1 [.int .i64 y] (by rfl) rfl (World.news_of_block (cs := #[.int .i64 y]) (heap_alloc_new _ _)) (by simp [Value.oneCell']) (by unfold maxLen; omega) (by omega) (by simp; omega) ?_))
                 intro v1 w1 hown1 hgrow _
                 have hO2 : IOwn w1 W.heap.size v1 (out ++ [y]) := by unfold IOwn; rw [List.length_append]; simpa [flat1] using hown1
                 have hB2 := ((below_drewNr HBl.out _).alloc hsz _).grown hgrow (by simp; omega) (fun q hq => (hown.lt q hq).1)
                 have HO2 := Lib.hid hO2
                 have HB2 := Lib.hid hB2
                 clear hO2 hown1 hgrow hown hB2
                 go_wp2
                 go_roundw
                 case rel => exact ⟨a, b + 1, _, _, by omega, by omega, by go_num, by go_num, rfl, HI3, HP3, by rw [List.length_append, List.length_singleton]; omega, HO2, HB2⟩
                 case measure => simp [intOf]; omega)
      · obtain rfl : b = m := by omega
        have HI2 := HI.out
        rw [List.take_of_length_le (by rw [HN.out]; exact Nat.le_refl _), List.take_of_length_le (by rw [HM.out]; exact Nat.le_refl _), List.drop_eq_nil_of_le (by rw [HN.out]; exact Nat.le_refl _), List.drop_eq_nil_of_le (by rw [HM.out]; exact Nat.le_refl _)] at HI2
        have HI3 := Lib.hid HI2
        clear HI2
        go_wp2
        go_ret
        exact ⟨_, out, rfl, HI3.out, by rw [HN.out, HM.out]; omega, HO.out, HBl.out⟩
end Go.Proofs.YtecmeeobabadeaaGreatDoor
