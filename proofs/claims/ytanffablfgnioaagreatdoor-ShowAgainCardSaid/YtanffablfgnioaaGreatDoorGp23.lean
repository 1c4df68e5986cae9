/- The landed ranges: the walk over two lists of turns, for whatever it keeps. · The landed ranges: combine, for whatever is kept. · The landed ranges: Minus. · The landed ranges: Not. -/
import Derived.Test.YtanffablfgnioaaGreatDoorGp22
namespace Go.Proofs.YtanffablfgnioaaGreatDoor
open Go.RowKit
set_option linter.unusedVariables false
theorem head_lt {x y : Int} {T : List Int} (h : x < y) (g : ∀ z ∈ T, y < z) : ∀ z ∈ [y] ++ T, x < z := by
  intro z hz
  rcases List.mem_append.1 hz with hz | hz
  · simp at hz; omega
  · have := g z hz; omega
theorem len_one {T : List Int} {a : Nat} {x : Int} (h : T.length = a) : (T ++ [x]).length = a + 1 := by rw [List.length_append, h]; rfl
theorem len_nil {T : List Int} {a : Nat} (h : T.length = a) : (T ++ []).length = a := by rw [List.append_nil, h]
def KeepOk (g : Nat) (K : Bool → Bool → Bool) : Prop :=
  (∀ args w, (callFunc g args).run Tryz.prog w = .ok (.enter g args) w) ∧ ∀ (x y : Bool) (w : World), Calls Tryz.prog g #[.bool x, .bool y] w fun e w' => e = .returned (.bool (K x y)) ∧ w = w'
theorem odd_int (a : Nat) : (((a : Int) % 2 == 1) : Bool) = Rg.odd a := by
  unfold Rg.odd
  rcases Nat.mod_two_eq_zero_or_one a with h | h
  · have : (a : Int) % 2 = 0 := by omega
    rw [h, this]; rfl
  · have : (a : Int) % 2 = 1 := by omega
    rw [h, this]; rfl
theorem asc_drop {T : List Int} {a : Nat} (h : T.Pairwise (· < ·)) (ha : a < T.length) : ∀ z ∈ T.drop (a + 1), T[a]?.getD 0 < z := by
  intro z hz
  have := List.Pairwise.sublist (List.drop_sublist a T) h
  rw [List.drop_eq_getElem_cons ha] at this
  rw [List.getElem?_eq_getElem ha]
  exact (List.pairwise_cons.1 this).1 z hz
theorem drop_head {T : List Int} {a : Nat} (ha : a < T.length) : T.drop a = [T[a]?.getD 0] ++ T.drop (a + 1) := by
  rw [List.drop_eq_getElem_cons ha, List.getElem?_eq_getElem ha]; rfl
theorem take_head {T : List Int} {a : Nat} (ha : a < T.length) : T.take (a + 1) = T.take a ++ [T[a]?.getD 0] := by
  rw [List.take_succ_eq_append_getElem ha, List.getElem?_eq_getElem ha]; rfl
theorem keep_int {g : Nat} {K : Bool → Bool → Bool} (hk : ∀ (x y : Bool) (w : World), Calls Tryz.prog g #[.bool x, .bool y] w fun e w' => e = .returned (.bool (K x y)) ∧ w = w') {a b : Nat} {p q : Int} (hp : p = (a : Int)) (hq : q = (b : Int)) {z : Bool}
    (hz : K (Rg.odd a) (Rg.odd b) = z) (w : World) : Calls Tryz.prog g #[.bool (p % 2 == 1), .bool (q % 2 == 1)] w fun e w' => e = .returned (.bool z) ∧ w = w' := by
  subst hp; subst hq
  rw [odd_int, odd_int, ← hz]
  exact hk _ _ w
theorem near_at {W : World} {a b : Option Addr} {n m p q : Nat} {x y z : Int} (hz : nearI n m x y = z) (hn : n ≤ 8796093022208) (hm : m ≤ 8796093022208)
    (ha : 0 < n → ∃ g off, a = some ⟨g, off, none⟩ ∧ W.cell? ⟨g, off, none⟩ = some (.int .i64 x))
    (hb : 0 < m → ∃ g off, b = some ⟨g, off, none⟩ ∧ W.cell? ⟨g, off, none⟩ = some (.int .i64 y)) (h : 0 < n ∨ 0 < m) :
    Calls Tryz.prog 205 #[.slice a n p, .slice b m q] W fun e w' => e = .returned (.int .i64 z) ∧ ∃ d, w' = W.drewN d := by
  rw [← hz]; exact nearest_walk W a b n m p q x y hn hm ha hb h
def WOut (K : Bool → Bool → Bool) (A B : List Int) (W : World) (e : Ending) (w' : World) : Prop :=
  ∃ v' out, e = .returned v' ∧ Rg.WInv K A [] B [] out ∧ out.length ≤ A.length + B.length ∧ IOwn w' W.heap.size v' out ∧ Below W.heap.size W w'
set_option maxRecDepth 100000 in
set_option maxHeartbeats 16000000 in
theorem walk_any (W : World) (va vb : Value) (A B : List Int) (g : Nat) (K : Bool → Bool → Bool) (hk : KeepOk g K) (hK0 : K false false = false)
    (hA : IRow W va A) (hB : IRow W vb B) (ascA : A.Pairwise (· < ·)) (ascB : B.Pairwise (· < ·)) (bdA : ∀ t ∈ A, 0 ≤ t ∧ t ≤ 1114112) (bdB : ∀ t ∈ B, 0 ≤ t ∧ t ≤ 1114112) (lA : A.length ≤ 2228226) (lB : B.length ≤ 2228226) :
    Calls Tryz.prog 181 #[va, vb, .func (.func g) #[] #[]] W (WOut K A B W) := by
  obtain ⟨i0, hi, hz0, hz1, hz2⟩ := info_parts Tryz.infoInt
  obtain ⟨eg, hk⟩ := hk
  have HK := Lib.hid hk
  have HK0 := Lib.hid hK0
  obtain ⟨sa, ca, rfl, na1, na2, hca⟩ := hA
  obtain ⟨sb, cb, rfl, nb1, nb2, hcb⟩ := hB
  have HCA := Lib.hid hca
  have HCB := Lib.hid hcb
  have HASA := Lib.hid ascA
  have HASB := Lib.hid ascB
  have HBA := Lib.hid bdA
  have HBB := Lib.hid bdB
  obtain ⟨n, hn⟩ : ∃ n, A.length = n := ⟨_, rfl⟩
  obtain ⟨m, hm⟩ : ∃ m, B.length = m := ⟨_, rfl⟩
  have HN := Lib.hid hn
  have HM := Lib.hid hm
  rw [hn] at HCA na1 lA ⊢
  rw [hm] at HCB nb1 lB ⊢
  clear hk hK0 hca hcb ascA ascB bdA bdB hn hm
  go_enter Tryz.func181, Tryz.ntmps181
  go_wp2
  go_loopw [7, 8, 9, 10] (fun V I J KP wr => ∃ (a b : Nat) (out : List Int) (kp : Bool), a ≤ n ∧ b ≤ m ∧ I = .int .i64 a ∧ J = .int .i64 b ∧ KP = .bool kp ∧
      Hid (Rg.WInv K (A.take a) (A.drop a) (B.take b) (B.drop b) out) ∧ Hid (kp = Rg.odd out.length) ∧ out.length ≤ a + b ∧ Hid (IOwn wr W.heap.size V out) ∧ Hid (Below W.heap.size W wr)) (fun _ I J _ _ => (n - (intOf I).toNat) + (m - (intOf J).toNat))
  case atStart => exact ⟨0, 0, [], false, Nat.zero_le _, Nat.zero_le _, rfl, rfl, rfl, Lib.hid (Rg.WInv.start K HK0.out A B), Lib.hid rfl, Nat.zero_le _, Lib.hid IOwn.nil, Lib.hid (Below.refl _ _)⟩
  case round =>
    obtain ⟨a, b, out, kp, ha, hb, rfl, rfl, rfl, HI, HP, hol, HO, HBl⟩ := hrel
    have hsz := HBl.out.size
    have la : (A.take a).length = a := by rw [List.length_take, HN.out]; omega
    have lb : (B.take b).length = b := by rw [List.length_take, HM.out]; omega
    have HLA := Lib.hid la
    have HLB := Lib.hid lb
    clear la lb
    have a0 : (0 : Int) ≤ (a : Int) := by omega
    have a1 : (a : Int) ≤ (n : Int) := by omega
    have b0 : (0 : Int) ≤ (b : Int) := by omega
    have b1 : (b : Int) ≤ (m : Int) := by omega
    by_cases hna : a < n
    · obtain ⟨ga, rfl, hga, hxa⟩ := HCA.out a hna
      rw [← HBl.out.cell (p := ⟨ga, a, none⟩) hga] at hxa
      have bx := HBA.out (A[a]?.getD 0) (by rw [List.getElem?_eq_getElem (by rw [HN.out]; exact hna)]; exact List.getElem_mem _)
      have HDA := Lib.hid (drop_head (T := A) (a := a) (by rw [HN.out]; exact hna))
      have HTA := Lib.hid (take_head (T := A) (a := a) (by rw [HN.out]; exact hna))
      have HGA := Lib.hid (asc_drop HASA.out (a := a) (by rw [HN.out]; exact hna))
      obtain ⟨x, ex⟩ : ∃ x, A[a]?.getD 0 = x := ⟨_, rfl⟩
      rw [ex] at hxa bx HDA HTA HGA
      clear ex
      have hgw : ga < wr.heap.size := by omega
      have a2 : (a : Int) < (n : Int) := by omega
      by_cases hmb : b < m
      · obtain ⟨gb, rfl, hgb, hyb⟩ := HCB.out b hmb
        rw [← HBl.out.cell (p := ⟨gb, b, none⟩) hgb] at hyb
        have bY := HBB.out (B[b]?.getD 0) (by rw [List.getElem?_eq_getElem (by rw [HM.out]; exact hmb)]; exact List.getElem_mem _)
        have HDB := Lib.hid (drop_head (T := B) (a := b) (by rw [HM.out]; exact hmb))
        have HTB := Lib.hid (take_head (T := B) (a := b) (by rw [HM.out]; exact hmb))
        have HGB := Lib.hid (asc_drop HASB.out (a := b) (by rw [HM.out]; exact hmb))
        obtain ⟨y, ey⟩ : ∃ y, B[b]?.getD 0 = y := ⟨_, rfl⟩
        rw [ey] at hyb bY HDB HTB HGB
        clear ey
        have hgv : gb < wr.heap.size := by omega
        have b2 : (b : Int) < (m : Int) := by omega
        by_cases hxy : x < y
        · have hq : (y == x) = false := by rw [beq_eq_false_iff_ne]; omega
          have hst := fun (cO : List Int) (hO : cO = [] ∨ cO = [x]) (hodd : Rg.odd (out ++ cO).length = K (Rg.odd (a + 1)) (Rg.odd (b))) => HI.out.step (at_ := x) (cA := [x]) (cB := []) (cO := cO) (A3 := A.drop (a + 1)) (B3 := B.drop (b)) HDA.out (List.nil_append _).symm (.inr rfl) (.inl rfl) hO (.inl rfl) HGA.out (by rw [HDB.out]; exact head_lt hxy HGB.out) bx (by rw [len_one HLA.out, len_nil HLB.out]; exact hodd)
          rw [← HTA.out] at hst
          rw [List.append_nil (B.take _)] at hst
          have HST := Lib.hid hst
          clear hst
          have hown := HO.out
          unfold IOwn at hown
          have HOW := Lib.hid hown
          clear hown
          go_wp2
          have hnear : nearI (n - a) (m - b) x y = x := by unfold nearI; rw [if_neg (by omega), if_neg (by omega), if_pos hxy]
          have HNE := Lib.hid hnear
          clear hnear
          go_quiet ((go_at_call 205; exact Calls.quiet_of (near_at HNE.out (by omega) (by omega) (by intro h0; split <;> first | (exfalso; omega) | exact ⟨ga, a, by simp, hxa⟩) (by intro h0; split <;> first | (exfalso; omega) | exact ⟨gb, b, by simp, hyb⟩) (by omega))))
          obtain ⟨kq, hkq⟩ : ∃ z, K (Rg.odd (a + 1)) (Rg.odd (b)) = z := ⟨_, rfl⟩
          have HKQ := Lib.hid hkq
          clear hkq
          go_wp2_with fail
          all_goals
            refine (keep_int HK.out (a := a + 1) (b := b) (by push_cast; rfl) (by push_cast; rfl) HKQ.out _).mono ?_
            rintro e w1 ⟨rfl, rfl⟩
            cases kq <;> cases kp
            all_goals first
              | (have hodd : Rg.odd (out ++ []).length = K (Rg.odd (a + 1)) (Rg.odd (b)) := by rw [List.append_nil, ← HP.out, HKQ.out]
                 have HI2 := HST.out [] (.inl rfl) hodd
                 rw [List.append_nil] at HI2
                 have HI3 := Lib.hid HI2
                 clear hodd HI2
                 go_wp2
                 go_roundw
                 case rel => exact ⟨a + 1, b, out, _, by omega, by omega, by go_num, by go_num, rfl, HI3, HP, by omega, HO, Lib.hid (below_drewNr HBl.out _)⟩
                 case measure => simp [intOf]; omega)
              | (have hodd : Rg.odd (out ++ [x]).length = K (Rg.odd (a + 1)) (Rg.odd (b)) := by rw [List.length_append, List.length_singleton, Rg.odd_succ, ← HP.out, HKQ.out]; rfl
                 have HI3 := Lib.hid (HST.out [x] (.inr rfl) hodd)
                 have HP3 := Lib.hid ((hodd.trans HKQ.out).symm)
                 clear hodd
                 have hown := HOW.out
                 go_wp2_with (at_builtin; (refine wpList_append_own _ (by rfl) _ _ 113 (by rfl) W.heap.size 3 i0 (.int .i64 0) 1 8 Tryz.underlying113 hi hz0 hz1 hz2 rfl (by decide) _ out.length (flat1 out) (by rfl) (hown.alloc _) ⟨wr.heap.size, 0, none⟩ 1 1 [.int .i64 x] (by rfl) rfl (World.news_of_block (cs := #[.int .i64 x]) (heap_alloc_new _ _)) (by simp [Value.oneCell']) (by unfold maxLen; omega) (by omega) (by simp; omega) ?_))
                 intro v1 w1 hown1 hgrow _
                 have hO2 : IOwn w1 W.heap.size v1 (out ++ [x]) := by unfold IOwn; rw [List.length_append]; simpa [flat1] using hown1
                 have hB2 := ((below_drewNr HBl.out _).alloc hsz _).grown hgrow (by simp; omega) (fun q hq => (hown.lt q hq).1)
                 have HO2 := Lib.hid hO2
                 have HB2 := Lib.hid hB2
                 clear hO2 hown1 hgrow hown hB2
                 go_wp2
                 go_roundw
                 case rel => exact ⟨a + 1, b, _, _, by omega, by omega, by go_num, by go_num, rfl, HI3, HP3, by rw [List.length_append, List.length_singleton]; omega, HO2, HB2⟩
                 case measure => simp [intOf]; omega)
        · by_cases hyx : y < x
          · have hq : (x == y) = false := by rw [beq_eq_false_iff_ne]; omega
            have hst := fun (cO : List Int) (hO : cO = [] ∨ cO = [y]) (hodd : Rg.odd (out ++ cO).length = K (Rg.odd (a)) (Rg.odd (b + 1))) => HI.out.step (at_ := y) (cA := []) (cB := [y]) (cO := cO) (A3 := A.drop (a)) (B3 := B.drop (b + 1)) (List.nil_append _).symm HDB.out (.inl rfl) (.inr rfl) hO (.inr rfl) (by rw [HDA.out]; exact head_lt hyx HGA.out) HGB.out bY (by rw [len_nil HLA.out, len_one HLB.out]; exact hodd)
            rw [List.append_nil (A.take _)] at hst
            rw [← HTB.out] at hst
            have HST := Lib.hid hst
            clear hst
            have hown := HO.out
            unfold IOwn at hown
            have HOW := Lib.hid hown
            clear hown
            go_wp2
            have hnear : nearI (n - a) (m - b) x y = y := by unfold nearI; rw [if_neg (by omega), if_neg (by omega), if_neg (by omega)]
            have HNE := Lib.hid hnear
            clear hnear
            go_quiet ((go_at_call 205; exact Calls.quiet_of (near_at HNE.out (by omega) (by omega) (by intro h0; split <;> first | (exfalso; omega) | exact ⟨ga, a, by simp, hxa⟩) (by intro h0; split <;> first | (exfalso; omega) | exact ⟨gb, b, by simp, hyb⟩) (by omega))))
            obtain ⟨kq, hkq⟩ : ∃ z, K (Rg.odd (a)) (Rg.odd (b + 1)) = z := ⟨_, rfl⟩
            have HKQ := Lib.hid hkq
            clear hkq
            go_wp2_with fail
            all_goals
              refine (keep_int HK.out (a := a) (b := b + 1) (by push_cast; rfl) (by push_cast; rfl) HKQ.out _).mono ?_
              rintro e w1 ⟨rfl, rfl⟩
              cases kq <;> cases kp
              all_goals first
                | (have hodd : Rg.odd (out ++ []).length = K (Rg.odd (a)) (Rg.odd (b + 1)) := by rw [List.append_nil, ← HP.out, HKQ.out]
                   have HI2 := HST.out [] (.inl rfl) hodd
                   rw [List.append_nil] at HI2
                   have HI3 := Lib.hid HI2
                   clear hodd HI2
                   go_wp2
                   go_roundw
                   case rel => exact ⟨a, b + 1, out, _, by omega, by omega, by go_num, by go_num, rfl, HI3, HP, by omega, HO, Lib.hid (below_drewNr HBl.out _)⟩
                   case measure => simp [intOf]; omega)
                | (have hodd : Rg.odd (out ++ [y]).length = K (Rg.odd (a)) (Rg.odd (b + 1)) := by rw [List.length_append, List.length_singleton, Rg.odd_succ, ← HP.out, HKQ.out]; rfl
                   have HI3 := Lib.hid (HST.out [y] (.inr rfl) hodd)
                   have HP3 := Lib.hid ((hodd.trans HKQ.out).symm)
                   clear hodd
                   have hown := HOW.out
                   go_wp2_with (at_builtin; (refine wpList_append_own _ (by rfl) _ _ 113 (by rfl) W.heap.size 3 i0 (.int .i64 0) 1 8 Tryz.underlying113 hi hz0 hz1 hz2 rfl (by decide) _ out.length (flat1 out) (by rfl) (hown.alloc _) ⟨wr.heap.size, 0, none⟩ 1 1 [.int .i64 y] (by rfl) rfl (World.news_of_block (cs := #[.int .i64 y]) (heap_alloc_new _ _)) (by simp [Value.oneCell']) (by unfold maxLen; omega) (by omega) (by simp; omega) ?_))
                   intro v1 w1 hown1 hgrow _
                   have hO2 : IOwn w1 W.heap.size v1 (out ++ [y]) := by unfold IOwn; rw [List.length_append]; simpa [flat1] using hown1
                   have hB2 := ((below_drewNr HBl.out _).alloc hsz _).grown hgrow (by simp; omega) (fun q hq => (hown.lt q hq).1)
                   have HO2 := Lib.hid hO2
                   have HB2 := Lib.hid hB2
                   clear hO2 hown1 hgrow hown hB2
                   go_wp2
                   go_roundw
                   case rel => exact ⟨a, b + 1, _, _, by omega, by omega, by go_num, by go_num, rfl, HI3, HP3, by rw [List.length_append, List.length_singleton]; omega, HO2, HB2⟩
                   case measure => simp [intOf]; omega)
          · obtain rfl : x = y := by omega
            have hst := fun (cO : List Int) (hO : cO = [] ∨ cO = [x]) (hodd : Rg.odd (out ++ cO).length = K (Rg.odd (a + 1)) (Rg.odd (b + 1))) => HI.out.step (at_ := x) (cA := [x]) (cB := [x]) (cO := cO) (A3 := A.drop (a + 1)) (B3 := B.drop (b + 1)) HDA.out HDB.out (.inr rfl) (.inr rfl) hO (.inl rfl) HGA.out HGB.out bx (by rw [len_one HLA.out, len_one HLB.out]; exact hodd)
            rw [← HTA.out] at hst
            rw [← HTB.out] at hst
            have HST := Lib.hid hst
            clear hst
            have hown := HO.out
            unfold IOwn at hown
            have HOW := Lib.hid hown
            clear hown
            go_wp2
            have hnear : nearI (n - a) (m - b) x x = x := by unfold nearI; rw [if_neg (by omega), if_neg (by omega), if_neg (by omega)]
            have HNE := Lib.hid hnear
            clear hnear
            go_quiet ((go_at_call 205; exact Calls.quiet_of (near_at HNE.out (by omega) (by omega) (by intro h0; split <;> first | (exfalso; omega) | exact ⟨ga, a, by simp, hxa⟩) (by intro h0; split <;> first | (exfalso; omega) | exact ⟨gb, b, by simp, hyb⟩) (by omega))))
            obtain ⟨kq, hkq⟩ : ∃ z, K (Rg.odd (a + 1)) (Rg.odd (b + 1)) = z := ⟨_, rfl⟩
            have HKQ := Lib.hid hkq
            clear hkq
            go_wp2_with fail
            all_goals
              refine (keep_int HK.out (a := a + 1) (b := b + 1) (by push_cast; rfl) (by push_cast; rfl) HKQ.out _).mono ?_
              rintro e w1 ⟨rfl, rfl⟩
              cases kq <;> cases kp
              all_goals first
                | (have hodd : Rg.odd (out ++ []).length = K (Rg.odd (a + 1)) (Rg.odd (b + 1)) := by rw [List.append_nil, ← HP.out, HKQ.out]
                   have HI2 := HST.out [] (.inl rfl) hodd
                   rw [List.append_nil] at HI2
                   have HI3 := Lib.hid HI2
                   clear hodd HI2
                   go_wp2
                   go_roundw
                   case rel => exact ⟨a + 1, b + 1, out, _, by omega, by omega, by go_num, by go_num, rfl, HI3, HP, by omega, HO, Lib.hid (below_drewNr HBl.out _)⟩
                   case measure => simp [intOf]; omega)
                | (have hodd : Rg.odd (out ++ [x]).length = K (Rg.odd (a + 1)) (Rg.odd (b + 1)) := by rw [List.length_append, List.length_singleton, Rg.odd_succ, ← HP.out, HKQ.out]; rfl
                   have HI3 := Lib.hid (HST.out [x] (.inr rfl) hodd)
                   have HP3 := Lib.hid ((hodd.trans HKQ.out).symm)
                   clear hodd
                   have hown := HOW.out
                   go_wp2_with (at_builtin; (refine wpList_append_own _ (by rfl) _ _ 113 (by rfl) W.heap.size 3 i0 (.int .i64 0) 1 8 Tryz.underlying113 hi hz0 hz1 hz2 rfl (by decide) _ out.length (flat1 out) (by rfl) (hown.alloc _) ⟨wr.heap.size, 0, none⟩ 1 1 [.int .i64 x] (by rfl) rfl (World.news_of_block (cs := #[.int .i64 x]) (heap_alloc_new _ _)) (by simp [Value.oneCell']) (by unfold maxLen; omega) (by omega) (by simp; omega) ?_))
                   intro v1 w1 hown1 hgrow _
                   have hO2 : IOwn w1 W.heap.size v1 (out ++ [x]) := by unfold IOwn; rw [List.length_append]; simpa [flat1] using hown1
                   have hB2 := ((below_drewNr HBl.out _).alloc hsz _).grown hgrow (by simp; omega) (fun q hq => (hown.lt q hq).1)
                   have HO2 := Lib.hid hO2
                   have HB2 := Lib.hid hB2
                   clear hO2 hown1 hgrow hown hB2
                   go_wp2
                   go_roundw
                   case rel => exact ⟨a + 1, b + 1, _, _, by omega, by omega, by go_num, by go_num, rfl, HI3, HP3, by rw [List.length_append, List.length_singleton]; omega, HO2, HB2⟩
                   case measure => simp [intOf]; omega)
      · obtain rfl : b = m := by omega
        have hcc : b < cb ∨ b = cb := by omega
        rcases hcc with hcc | rfl
        all_goals
          have hst := fun (cO : List Int) (hO : cO = [] ∨ cO = [x]) (hodd : Rg.odd (out ++ cO).length = K (Rg.odd (a + 1)) (Rg.odd (b))) => HI.out.step (at_ := x) (cA := [x]) (cB := []) (cO := cO) (A3 := A.drop (a + 1)) (B3 := B.drop (b)) HDA.out (List.nil_append _).symm (.inr rfl) (.inl rfl) hO (.inl rfl) HGA.out (by rw [List.drop_eq_nil_of_le (by rw [HM.out]; exact Nat.le_refl _)]; intro z hz; cases hz) bx (by rw [len_one HLA.out, len_nil HLB.out]; exact hodd)
          rw [← HTA.out] at hst
          rw [List.append_nil (B.take _)] at hst
          have HST := Lib.hid hst
          clear hst
          have hown := HO.out
          unfold IOwn at hown
          have HOW := Lib.hid hown
          clear hown
          go_wp2
          have hnear : nearI (n - a) 0 x 0 = x := by unfold nearI; rw [if_pos rfl]
          have HNE := Lib.hid hnear
          clear hnear
          go_quiet ((go_at_call 205; exact Calls.quiet_of (near_at HNE.out (by omega) (by omega) (by intro h0; split <;> first | (exfalso; omega) | exact ⟨ga, a, by simp, hxa⟩) (by intro h0; omega) (by omega))))
          obtain ⟨kq, hkq⟩ : ∃ z, K (Rg.odd (a + 1)) (Rg.odd (b)) = z := ⟨_, rfl⟩
          have HKQ := Lib.hid hkq
          clear hkq
          go_wp2_with fail
          all_goals
            refine (keep_int HK.out (a := a + 1) (b := b) (by push_cast; rfl) (by push_cast; rfl) HKQ.out _).mono ?_
            rintro e w1 ⟨rfl, rfl⟩
            cases kq <;> cases kp
            all_goals first
              | (have hodd : Rg.odd (out ++ []).length = K (Rg.odd (a + 1)) (Rg.odd (b)) := by rw [List.append_nil, ← HP.out, HKQ.out]
                 have HI2 := HST.out [] (.inl rfl) hodd
                 rw [List.append_nil] at HI2
                 have HI3 := Lib.hid HI2
                 clear hodd HI2
                 go_wp2
                 go_roundw
                 case rel => exact ⟨a + 1, b, out, _, by omega, by omega, by go_num, by go_num, rfl, HI3, HP, by omega, HO, Lib.hid (below_drewNr HBl.out _)⟩
                 case measure => simp [intOf]; omega)
              | (have hodd : Rg.odd (out ++ [x]).length = K (Rg.odd (a + 1)) (Rg.odd (b)) := by rw [List.length_append, List.length_singleton, Rg.odd_succ, ← HP.out, HKQ.out]; rfl
                 have HI3 := Lib.hid (HST.out [x] (.inr rfl) hodd)
                 have HP3 := Lib.hid ((hodd.trans HKQ.out).symm)
                 clear hodd
                 have hown := HOW.out
                 go_wp2_with (at_builtin; (refine wpList_append_own _ (by rfl) _ _ 113 (by rfl) W.heap.size 3 i0 (.int .i64 0) 1 8 Tryz.underlying113 hi hz0 hz1 hz2 rfl (by decide) _ out.length (flat1 out) (by rfl) (hown.alloc _) ⟨wr.heap.size, 0, none⟩ 1 1 [.int .i64 x] (by rfl) rfl (World.news_of_block (cs := #[.int .i64 x]) (heap_alloc_new _ _)) (by simp [Value.oneCell']) (by unfold maxLen; omega) (by omega) (by simp; omega) ?_))
                 intro v1 w1 hown1 hgrow _
                 have hO2 : IOwn w1 W.heap.size v1 (out ++ [x]) := by unfold IOwn; rw [List.length_append]; simpa [flat1] using hown1
                 have hB2 := ((below_drewNr HBl.out _).alloc hsz _).grown hgrow (by simp; omega) (fun q hq => (hown.lt q hq).1)
                 have HO2 := Lib.hid hO2
                 have HB2 := Lib.hid hB2
                 clear hO2 hown1 hgrow hown hB2
                 go_wp2
                 go_roundw
                 case rel => exact ⟨a + 1, b, _, _, by omega, by omega, by go_num, by go_num, rfl, HI3, HP3, by rw [List.length_append, List.length_singleton]; omega, HO2, HB2⟩
                 case measure => simp [intOf]; omega)
    · obtain rfl : a = n := by omega
      by_cases hmb : b < m
      · obtain ⟨gb, rfl, hgb, hyb⟩ := HCB.out b hmb
        rw [← HBl.out.cell (p := ⟨gb, b, none⟩) hgb] at hyb
        have bY := HBB.out (B[b]?.getD 0) (by rw [List.getElem?_eq_getElem (by rw [HM.out]; exact hmb)]; exact List.getElem_mem _)
        have HDB := Lib.hid (drop_head (T := B) (a := b) (by rw [HM.out]; exact hmb))
        have HTB := Lib.hid (take_head (T := B) (a := b) (by rw [HM.out]; exact hmb))
        have HGB := Lib.hid (asc_drop HASB.out (a := b) (by rw [HM.out]; exact hmb))
        obtain ⟨y, ey⟩ : ∃ y, B[b]?.getD 0 = y := ⟨_, rfl⟩
        rw [ey] at hyb bY HDB HTB HGB
        clear ey
        have hgv : gb < wr.heap.size := by omega
        have b2 : (b : Int) < (m : Int) := by omega
        have hcc : a < ca ∨ a = ca := by omega
        rcases hcc with hcc | rfl
        all_goals
          have hst := fun (cO : List Int) (hO : cO = [] ∨ cO = [y]) (hodd : Rg.odd (out ++ cO).length = K (Rg.odd (a)) (Rg.odd (b + 1))) => HI.out.step (at_ := y) (cA := []) (cB := [y]) (cO := cO) (A3 := A.drop (a)) (B3 := B.drop (b + 1)) (List.nil_append _).symm HDB.out (.inl rfl) (.inr rfl) hO (.inr rfl) (by rw [List.drop_eq_nil_of_le (by rw [HN.out]; exact Nat.le_refl _)]; intro z hz; cases hz) HGB.out bY (by rw [len_nil HLA.out, len_one HLB.out]; exact hodd)
          rw [List.append_nil (A.take _)] at hst
          rw [← HTB.out] at hst
          have HST := Lib.hid hst
          clear hst
          have hown := HO.out
          unfold IOwn at hown
          have HOW := Lib.hid hown
          clear hown
          go_wp2
          have hnear : nearI 0 (m - b) 0 y = y := by unfold nearI; rw [if_neg (by omega), if_pos rfl]
          have HNE := Lib.hid hnear
          clear hnear
          go_quiet ((go_at_call 205; exact Calls.quiet_of (near_at HNE.out (by omega) (by omega) (by intro h0; omega) (by intro h0; split <;> first | (exfalso; omega) | exact ⟨gb, b, by simp, hyb⟩) (by omega))))
          obtain ⟨kq, hkq⟩ : ∃ z, K (Rg.odd (a)) (Rg.odd (b + 1)) = z := ⟨_, rfl⟩
          have HKQ := Lib.hid hkq
          clear hkq
          go_wp2_with fail
          all_goals
            refine (keep_int HK.out (a := a) (b := b + 1) (by push_cast; rfl) (by push_cast; rfl) HKQ.out _).mono ?_
            rintro e w1 ⟨rfl, rfl⟩
            cases kq <;> cases kp
            all_goals first
              | (have hodd : Rg.odd (out ++ []).length = K (Rg.odd (a)) (Rg.odd (b + 1)) := by rw [List.append_nil, ← HP.out, HKQ.out]
                 have HI2 := HST.out [] (.inl rfl) hodd
                 rw [List.append_nil] at HI2
                 have HI3 := Lib.hid HI2
                 clear hodd HI2
                 go_wp2
                 go_roundw
                 case rel => exact ⟨a, b + 1, out, _, by omega, by omega, by go_num, by go_num, rfl, HI3, HP, by omega, HO, Lib.hid (below_drewNr HBl.out _)⟩
                 case measure => simp [intOf]; omega)
              | (have hodd : Rg.odd (out ++ [y]).length = K (Rg.odd (a)) (Rg.odd (b + 1)) := by rw [List.length_append, List.length_singleton, Rg.odd_succ, ← HP.out, HKQ.out]; rfl
                 have HI3 := Lib.hid (HST.out [y] (.inr rfl) hodd)
                 have HP3 := Lib.hid ((hodd.trans HKQ.out).symm)
                 clear hodd
                 have hown := HOW.out
                 go_wp2_with (at_builtin; (refine wpList_append_own _ (by rfl) _ _ 113 (by rfl) W.heap.size 3 i0 (.int .i64 0) 1 8 Tryz.underlying113 hi hz0 hz1 hz2 rfl (by decide) _ out.length (flat1 out) (by rfl) (hown.alloc _) ⟨wr.heap.size, 0, none⟩ 1 1 [.int .i64 y] (by rfl) rfl (World.news_of_block (cs := #[.int .i64 y]) (heap_alloc_new _ _)) (by simp [Value.oneCell']) (by unfold maxLen; omega) (by omega) (by simp; omega) ?_))
                 intro v1 w1 hown1 hgrow _
                 have hO2 : IOwn w1 W.heap.size v1 (out ++ [y]) := by unfold IOwn; rw [List.length_append]; simpa [flat1] using hown1
                 have hB2 := ((below_drewNr HBl.out _).alloc hsz _).grown hgrow (by simp; omega) (fun q hq => (hown.lt q hq).1)
                 have HO2 := Lib.hid hO2
                 have HB2 := Lib.hid hB2
                 clear hO2 hown1 hgrow hown hB2
                 go_wp2
                 go_roundw
                 case rel => exact ⟨a, b + 1, _, _, by omega, by omega, by go_num, by go_num, rfl, HI3, HP3, by rw [List.length_append, List.length_singleton]; omega, HO2, HB2⟩
                 case measure => simp [intOf]; omega)
      · obtain rfl : b = m := by omega
        have HI2 := HI.out
        rw [List.take_of_length_le (by rw [HN.out]; exact Nat.le_refl _), List.take_of_length_le (by rw [HM.out]; exact Nat.le_refl _), List.drop_eq_nil_of_le (by rw [HN.out]; exact Nat.le_refl _), List.drop_eq_nil_of_le (by rw [HM.out]; exact Nat.le_refl _)] at HI2
        have HI3 := Lib.hid HI2
        clear HI2
        go_wp2
        go_ret
        exact ⟨_, out, rfl, HI3.out, by rw [HN.out, HM.out]; omega, HO.out, HBl.out⟩
end Go.Proofs.YtanffablfgnioaaGreatDoor
namespace Go.Proofs.YtanffablfgnioaaGreatDoor
open Go.RowKit
set_option linter.unusedVariables false
theorem turns_ok {l out : List (Int × Int)} (h : Rg.ListOf l out) : (Rg.turnsN out).Pairwise (· < ·) ∧ (∀ t ∈ Rg.turnsN out, 0 ≤ t ∧ t ≤ 1114112) ∧ (Rg.turnsN out).length ≤ 2228226 ∧ (Rg.turnsN out).length % 2 = 0 := by
  have h1 := Rg.norm_len out 0 h.norm (by omega)
  have h2 := Rg.turns_len out
  exact ⟨Rg.turns_asc out 0 h.norm, Rg.turns_bd out 0 h.norm, by omega, by omega⟩
theorem odd_even {n : Nat} (h : n % 2 = 0) : Rg.odd n = false := by unfold Rg.odd; rw [h]; rfl
theorem even_odd {n : Nat} (h : Rg.odd n = false) : n % 2 = 0 := by
  unfold Rg.odd at h
  rcases Nat.mod_two_eq_zero_or_one n with h' | h'
  · exact h'
  · rw [h'] at h; cases h
set_option maxRecDepth 100000 in
set_option maxHeartbeats 2000000 in
theorem combine_any (W : World) (va vb : Value) (a b : List (Int × Int)) (g : Nat) (K : Bool → Bool → Bool) (op : Int) (hk : KeepOk g K) (hK0 : K false false = false) (hK : ∀ x y, K x y = Rg.opB op x y) (ha : RRow W va a) (hb : RRow W vb b) :
    Calls Tryz.prog 147 #[va, vb, .func (.func g) #[] #[]] W (MakePost op a b W) := by
  have HA := Lib.hid ha
  have HB := Lib.hid hb
  have HKK := Lib.hid hk
  have HK := Lib.hid hK
  have HK0 := Lib.hid hK0
  clear ha hb hk hK hK0
  go_enter Tryz.func147, Tryz.ntmps147
  go_wp2_with fail
  refine (turns_any _ _ a HA.out).mono ?_
  rintro e w1 ⟨v1, na, rfl, hna, ho1, hb1⟩
  have HNA := Lib.hid hna
  have HO1 := Lib.hid ho1
  have HB1 := Lib.hid hb1
  have HBr := Lib.hid (HB.out.below (Nat.le_refl _) hb1)
  clear hna ho1 hb1
  go_wp2_with fail
  refine (turns_any _ _ b HBr.out).mono ?_
  rintro e w2 ⟨v2, nb, rfl, hnb, ho2, hb2⟩
  have HNB := Lib.hid hnb
  have HR1 := Lib.hid (HO1.out.row.below (Nat.le_refl _) hb2)
  have HR2 := Lib.hid ho2.row
  have HB2 := Lib.hid (HB1.out.trans (hb2.mono HB1.out.size))
  clear hnb ho2 hb2
  have hta := turns_ok HNA.out
  have htb := turns_ok HNB.out
  have HTA := Lib.hid hta
  have HTB := Lib.hid htb
  clear hta htb
  go_wp2_with fail
  refine (walk_any _ _ _ (Rg.turnsN na) (Rg.turnsN nb) g K HKK.out HK0.out HR1.out HR2.out HTA.out.1 HTB.out.1 HTA.out.2.1 HTB.out.2.1 HTA.out.2.2.1 HTB.out.2.2.1).mono ?_
  rintro e w3 ⟨v3, out, rfl, hw, hl, ho3, hb3⟩
  have hev : out.length % 2 = 0 := even_odd (by rw [hw.odd, odd_even HTA.out.2.2.2, odd_even HTB.out.2.2.2]; exact HK0.out)
  have HMD := Lib.hid (Rg.made_walk HK.out HNA.out HNB.out hw hev)
  have HEV := Lib.hid hev
  have HBD := Lib.hid hw.bd
  have HR3 := Lib.hid ho3.row
  have HL : Hid (out.length ≤ 8796093022208) := Lib.hid (by have := HTA.out.2.2.1; have := HTB.out.2.2.1; omega)
  have HB3 := Lib.hid (HB2.out.trans (hb3.mono HB2.out.size))
  clear hev hw hl ho3 hb3
  go_wp2_with fail
  refine (between_any _ _ out HR3.out HBD.out HEV.out HL.out).mono ?_
  rintro e w4 ⟨v4, rfl, ho4, hb4⟩
  have HO4 := Lib.hid (ho4.lower HB3.out.size)
  have HB4 := Lib.hid (HB3.out.trans (hb4.mono HB3.out.size))
  clear ho4 hb4
  go_wp2
  go_ret
  exact ⟨_, _, rfl, HMD.out, HO4.out, HB4.out⟩
theorem rrow_one (W : World) (x y : Int) (hx : -9223372036854775808 ≤ x ∧ x ≤ 9223372036854775807) (hy : -9223372036854775808 ≤ y ∧ y ≤ 9223372036854775807) (t : TypeId) :
    RRow (W.alloc (.cells #[.int .i64 x, .int .i64 y] t)) (.slice (some ⟨W.heap.size, 0, none⟩) 1 1) [(x, y)] :=
  ⟨_, 1, rfl, by simp, (fun p hp => by simp at hp; subst hp; exact ⟨hx.1, hx.2, hy.1, hy.2⟩), fun j hj => by
    obtain rfl : j = 0 := by simpa using hj
    exact ⟨W.heap.size, 0, rfl, by simp, by simp, by simp⟩⟩
end Go.Proofs.YtanffablfgnioaaGreatDoor
namespace Go.Proofs.YtanffablfgnioaaGreatDoor
open Go.RowKit
set_option linter.unusedVariables false
set_option maxRecDepth 100000 in
set_option maxHeartbeats 1000000 in
theorem keep_minus : KeepOk 153 (fun x y => x && !y) := by
  refine ⟨enters_of Tryz.func153 (by kernel_rfl) rfl, fun x y w => ?_⟩
  cases x <;> cases y
  all_goals
    go_enter Tryz.func153, Tryz.ntmps153
    go_wp2
    go_ret
    exact ⟨rfl, rfl⟩
set_option maxRecDepth 100000 in
set_option maxHeartbeats 1000000 in
theorem minus_any (W : World) (va vb : Value) (a b : List (Int × Int)) (ha : RRow W va a) (hb : RRow W vb b) : Calls Tryz.prog 116 #[va, vb] W (MakePost 3 a b W) := by
  have HC := Lib.hid (combine_any W va vb a b _ _ 3 keep_minus rfl (fun x y => by cases x <;> cases y <;> rfl) ha hb)
  clear ha hb
  go_enter Tryz.func116, Tryz.ntmps116
  go_wp2_with fail
  refine HC.out.mono ?_
  rintro e w1 ⟨v, out, rfl, hm, ho, hb⟩
  have HM := Lib.hid (And.intro hm (And.intro ho hb))
  clear hm ho hb
  go_wp2
  go_ret
  exact ⟨v, out, rfl, HM.out⟩
end Go.Proofs.YtanffablfgnioaaGreatDoor
namespace Go.Proofs.YtanffablfgnioaaGreatDoor
open Go.RowKit
set_option linter.unusedVariables false
set_option maxRecDepth 100000 in
set_option maxHeartbeats 1000000 in
theorem not_any (W : World) (va : Value) (a : List (Int × Int)) (ha : RRow W va a) : Calls Tryz.prog 86 #[va] W (MakePost 3 [(0, 1114111)] a W) := by
  have HB := Lib.hid ((Below.refl W.heap.size W).alloc (Nat.le_refl _) (.cells #[.int .i64 0, .int .i64 1114111] 49))
  have HC := Lib.hid (minus_any _ _ _ _ a (rrow_one W 0 1114111 (by decide) (by decide) 49) (ha.below (Nat.le_refl _) HB.out))
  clear ha
  go_enter Tryz.func86, Tryz.ntmps86
  go_wp2_with fail
  refine HC.out.mono ?_
  rintro e w1 ⟨v, out, rfl, hm, ho, hb⟩
  have HM := Lib.hid (And.intro hm (And.intro (ho.lower HB.out.size) (HB.out.trans (hb.mono HB.out.size))))
  clear hm ho hb
  go_wp2
  go_ret
  exact ⟨v, out, rfl, HM.out⟩
end Go.Proofs.YtanffablfgnioaaGreatDoor
