/- The landed show: character, assertion, opening, times, repetition. -/
import Derived.Test.YtecmeeobabadeaaDoorGp5
import Derived.Test.YtecmeeobabadeaaDoorGp6
import Derived.Shelf.Strconv.Itoa3
import Derived.Test.YtecmeeobabadeaaDoorGp4
import Derived.Test.YtecmeeobabadeaaDoorGp2
namespace Go.Proofs.YtecmeeobabadeaaDoor
open Go.RowKit
set_option linter.unusedVariables false
/-- What the printer reads of the library's tables. -/
structure EvS (W : World) : Prop where
  tz : TzAt W
  pow : Lib.TabIs Tryd.prog W "internal/strconv.uint64pow10" .u64 Lib.pow10Tab
theorem tab_below {P : Program} {w w' : World} {name : String} {k : IntKind} {zs : List Int} {B : Nat} (h : Lib.TabIs P w name k zs) (hB : w.heap.size ≤ B) (hb : Below B w w') : Lib.TabIs P w' name k zs := by
  unfold Lib.TabIs World.var? at h ⊢
  cases hg : P.globalNamed name with
  | none => rw [hg] at h; cases h
  | some g =>
    rw [hg] at h
    simp only [Option.bind_some] at h ⊢
    rcases Nat.lt_or_ge g w.heap.size with hlt | hge
    · rw [hb.block g (by omega)]; exact h
    · rw [Array.getElem?_eq_none hge] at h; cases h
theorem EvS.below {W W' : World} {B : Nat} (h : EvS W) (hB : W.heap.size ≤ B) (hb : Below B W W') : EvS W' := ⟨h.tz.below hB hb, tab_below h.pow hB hb⟩
theorem itoa_dec (n : Nat) (h : n ≤ 1000) : Utf.nums (⟨(Lib.itoa (n : Int)).toArray⟩ : ByteArray) = Lx.decL n := by
  have hk : ∀ k : Fin 1001, (Lib.itoa ((k.1 : Nat) : Int)).map (fun b => (b.toNat : Int)) = Lx.decL k.1 := by decide +kernel
  have := hk ⟨n, by omega⟩
  unfold Utf.nums
  exact this
theorem below_growS (w : World) (n : Nat) (os : Array Obj) : Below w.heap.size w (Go.Sort.grow (w.drewN n) os) :=
  ⟨rfl, rfl, rfl, by simp [Go.Sort.grow], fun k hk => by rw [Go.Sort.heap_grow_old _ _ (by exact hk)]; rfl⟩
theorem itoa_any (W : World) (n : Nat) (hn : n ≤ 1000) (h : EvS W) : Calls Tryd.prog 59 #[.int .i64 (n : Int)] W fun e w' => ∃ T : ByteArray, e = .returned (.string T) ∧ Utf.nums T = Lx.decL n ∧ T.size ≤ 6 ∧ Below W.heap.size W w' := by
  have h9 := Any.strconv_Itoa Tryd.layItoa (n : Int) (by omega) (by omega) W h.pow
  change Calls Tryd.prog 59 _ _ _ at h9
  refine h9.mono ?_
  rintro e w' ⟨rfl, k, os, rfl⟩
  refine ⟨_, rfl, itoa_dec n hn, ?_, ?_⟩
  · rw [← Utf.nums_length, itoa_dec n hn]
    exact (Lx.decF_len 6 n (by decide) (by omega)).2.1
  · exact below_growS W k os
theorem num_app3 (a b c : ByteArray) : Utf.nums ((a ++ b) ++ c) = Utf.nums a ++ (Utf.nums b ++ Utf.nums c) := by rw [Br.nums_append', Br.nums_append', List.append_assoc]
theorem num_app5 (a b c d e : ByteArray) : Utf.nums ((((a ++ b) ++ c) ++ d) ++ e) = Utf.nums a ++ (Utf.nums b ++ (Utf.nums c ++ (Utf.nums d ++ Utf.nums e))) := by simp only [Br.nums_append', List.append_assoc]
set_option maxRecDepth 100000 in
set_option maxHeartbeats 8000000 in
/-- show.times: how often. -/
theorem times_show (W : World) (lo hi : Int) (h0 : 0 ≤ lo) (h1 : lo ≤ 1000) (h2 : hi = -1 ∨ lo ≤ hi ∧ hi ≤ 1000) (hE : EvS W) : Calls Tryd.prog 52 #[.int .i64 lo, .int .i64 hi] W fun e w' =>
    ∃ T : ByteArray, e = .returned (.string T) ∧ Utf.nums T = Sh.countL lo hi ∧ T.size ≤ 20 ∧ Below W.heap.size W w' := by
  have HE := Lib.hid hE
  clear hE
  by_cases c1 : lo = 0 ∧ hi = -1
  · obtain ⟨rfl, rfl⟩ := c1
    go_enter Tryd.func52, Tryd.ntmps52
    go_wp2
    go_ret
    exact ⟨_, rfl, rfl, by decide, Below.refl _ _⟩
  by_cases c2 : lo = 1 ∧ hi = -1
  · obtain ⟨rfl, rfl⟩ := c2
    go_enter Tryd.func52, Tryd.ntmps52
    go_wp2
    go_ret
    exact ⟨_, rfl, rfl, by decide, Below.refl _ _⟩
  by_cases c3 : lo = 0 ∧ hi = 1
  · obtain ⟨rfl, rfl⟩ := c3
    go_enter Tryd.func52, Tryd.ntmps52
    go_wp2
    go_ret
    exact ⟨_, rfl, rfl, by decide, Below.refl _ _⟩
  obtain ⟨n, rfl⟩ : ∃ n : Nat, lo = (n : Int) := ⟨lo.toNat, by omega⟩
  have HI := Lib.hid (fun w (hw : EvS w) => itoa_any w n (by omega) hw)
  by_cases c4 : hi = (n : Int)
  · subst c4
    have HL : Hid (Sh.countL n n = 123 :: (Lx.decL n ++ [125])) := Lib.hid (by unfold Sh.countL; rw [if_neg c1, if_neg c2, if_neg c3, if_pos rfl, Int.toNat_natCast])
    by_cases z0 : n = 0
    · subst z0
      clear c1 c2 c3 h2
      go_enter Tryd.func52, Tryd.ntmps52
      go_wp2_with fail
      refine (HI.out W HE.out).mono ?_
      rintro e w' ⟨T, rfl, hT, hz, hb⟩
      have n1 : ¬ 9223372036854775807 < 1 + T.size := by omega
      have hP : ((⟨#[123]⟩ : ByteArray) ++ T).size = 1 + T.size := ByteArray.size_append ..
      have n2 : ¬ 9223372036854775807 < ((⟨#[123]⟩ : ByteArray) ++ T).size + 1 := by omega
      have n3 : ¬ 9223372036854775807 < 1 + T.size + 1 := by omega
      have HN : Hid (Utf.nums (((⟨#[123]⟩ : ByteArray) ++ T) ++ (⟨#[125]⟩ : ByteArray)) = Sh.countL (((0 : Nat) : Int)) (((0 : Nat) : Int))) := Lib.hid (by rw [num_app3, hT, HL.out]; rfl)
      have HZ : Hid ((((⟨#[123]⟩ : ByteArray) ++ T) ++ (⟨#[125]⟩ : ByteArray)).size ≤ 20) := Lib.hid (by rw [ByteArray.size_append, hP]; show 1 + T.size + 1 ≤ 20; omega)
      have HB := Lib.hid hb
      clear hT hz hb hP
      go_wp2
      go_ret
      exact ⟨_, rfl, HN.out, HZ.out, HB.out⟩
    by_cases z1 : n = 1
    · subst z1
      clear c1 c2 c3 h2
      go_enter Tryd.func52, Tryd.ntmps52
      go_wp2_with fail
      refine (HI.out W HE.out).mono ?_
      rintro e w' ⟨T, rfl, hT, hz, hb⟩
      have n1 : ¬ 9223372036854775807 < 1 + T.size := by omega
      have hP : ((⟨#[123]⟩ : ByteArray) ++ T).size = 1 + T.size := ByteArray.size_append ..
      have n2 : ¬ 9223372036854775807 < ((⟨#[123]⟩ : ByteArray) ++ T).size + 1 := by omega
      have n3 : ¬ 9223372036854775807 < 1 + T.size + 1 := by omega
      have HN : Hid (Utf.nums (((⟨#[123]⟩ : ByteArray) ++ T) ++ (⟨#[125]⟩ : ByteArray)) = Sh.countL (((1 : Nat) : Int)) (((1 : Nat) : Int))) := Lib.hid (by rw [num_app3, hT, HL.out]; rfl)
      have HZ : Hid ((((⟨#[123]⟩ : ByteArray) ++ T) ++ (⟨#[125]⟩ : ByteArray)).size ≤ 20) := Lib.hid (by rw [ByteArray.size_append, hP]; show 1 + T.size + 1 ≤ 20; omega)
      have HB := Lib.hid hb
      clear hT hz hb hP
      go_wp2
      go_ret
      exact ⟨_, rfl, HN.out, HZ.out, HB.out⟩
    have b0 : ((n : Int) == 0) = false := by simp <;> omega
    have b1 : ((n : Int) == 1) = false := by simp <;> omega
    have b2 : ((n : Int) == (n : Int)) = true := by simp
    clear c1 c2 c3 h2 z0 z1
    go_enter Tryd.func52, Tryd.ntmps52
    go_wp2_with fail
    refine (HI.out W HE.out).mono ?_
    rintro e w' ⟨T, rfl, hT, hz, hb⟩
    have n1 : ¬ 9223372036854775807 < 1 + T.size := by omega
    have hP : ((⟨#[123]⟩ : ByteArray) ++ T).size = 1 + T.size := ByteArray.size_append ..
    have n2 : ¬ 9223372036854775807 < ((⟨#[123]⟩ : ByteArray) ++ T).size + 1 := by omega
    have n3 : ¬ 9223372036854775807 < 1 + T.size + 1 := by omega
    have HN : Hid (Utf.nums (((⟨#[123]⟩ : ByteArray) ++ T) ++ (⟨#[125]⟩ : ByteArray)) = Sh.countL ((n : Int)) ((n : Int))) := Lib.hid (by rw [num_app3, hT, HL.out]; rfl)
    have HZ : Hid ((((⟨#[123]⟩ : ByteArray) ++ T) ++ (⟨#[125]⟩ : ByteArray)).size ≤ 20) := Lib.hid (by rw [ByteArray.size_append, hP]; show 1 + T.size + 1 ≤ 20; omega)
    have HB := Lib.hid hb
    clear hT hz hb hP
    go_wp2
    go_ret
    exact ⟨_, rfl, HN.out, HZ.out, HB.out⟩
  by_cases c5 : hi = -1
  · subst c5
    have b0 : ((n : Int) == 0) = false := by simp <;> omega
    have b1 : ((n : Int) == 1) = false := by simp <;> omega
    have b2 : ((-1 : Int) == (n : Int)) = false := by simp <;> omega
    have HL : Hid (Sh.countL n (-1) = 123 :: (Lx.decL n ++ [44, 125])) := Lib.hid (by unfold Sh.countL; rw [if_neg c1, if_neg c2, if_neg c3, if_neg c4, if_pos rfl, Int.toNat_natCast])
    clear c1 c2 c3 c4 h2
    go_enter Tryd.func52, Tryd.ntmps52
    go_wp2_with fail
    refine (HI.out W HE.out).mono ?_
    rintro e w' ⟨T, rfl, hT, hz, hb⟩
    have n1 : ¬ 9223372036854775807 < 1 + T.size := by omega
    have hP : ((⟨#[123]⟩ : ByteArray) ++ T).size = 1 + T.size := ByteArray.size_append ..
    have n2 : ¬ 9223372036854775807 < ((⟨#[123]⟩ : ByteArray) ++ T).size + 2 := by omega
    have n3 : ¬ 9223372036854775807 < 1 + T.size + 2 := by omega
    have HN : Hid (Utf.nums (((⟨#[123]⟩ : ByteArray) ++ T) ++ (⟨#[44, 125]⟩ : ByteArray)) = Sh.countL ((n : Int)) (-1)) := Lib.hid (by rw [num_app3, hT, HL.out]; rfl)
    have HZ : Hid ((((⟨#[123]⟩ : ByteArray) ++ T) ++ (⟨#[44, 125]⟩ : ByteArray)).size ≤ 20) := Lib.hid (by rw [ByteArray.size_append, hP]; show 1 + T.size + 2 ≤ 20; omega)
    have HB := Lib.hid hb
    clear hT hz hb hP
    go_wp2
    go_ret
    exact ⟨_, rfl, HN.out, HZ.out, HB.out⟩
  obtain ⟨m, rfl⟩ : ∃ m : Nat, hi = (m : Int) := ⟨hi.toNat, by omega⟩
  have HJ := Lib.hid (fun w (hw : EvS w) => itoa_any w m (by omega) hw)
  have HL : Hid (Sh.countL n m = 123 :: (Lx.decL n ++ 44 :: (Lx.decL m ++ [125]))) := Lib.hid (by unfold Sh.countL; rw [if_neg c1, if_neg c2, if_neg c3, if_neg c4, if_neg c5, Int.toNat_natCast, Int.toNat_natCast])
  have b3 : ((m : Int) == -1) = false := by simp
  have b4 : ((m : Int) == (n : Int)) = false := by simp <;> omega
  by_cases z0 : n = 0
  · subst z0
    have b5 : ((m : Int) == 1) = false := by simp <;> omega
    have b6 : ((m : Int) == 0) = false := by simp <;> omega
    clear c1 c2 c3 c4 c5 h2
    go_enter Tryd.func52, Tryd.ntmps52
    go_wp2_with fail
    refine (HI.out W HE.out).mono ?_
    rintro e w1 ⟨T, rfl, hT, hz, hb⟩
    have n1 : ¬ 9223372036854775807 < 1 + T.size := by omega
    have hP : ((⟨#[123]⟩ : ByteArray) ++ T).size = 1 + T.size := ByteArray.size_append ..
    have hQ : (((⟨#[123]⟩ : ByteArray) ++ T) ++ (⟨#[44]⟩ : ByteArray)).size = 1 + T.size + 1 := by rw [ByteArray.size_append, hP]; rfl
    have n2 : ¬ 9223372036854775807 < ((⟨#[123]⟩ : ByteArray) ++ T).size + 1 := by omega
    have n3 : ¬ 9223372036854775807 < 1 + T.size + 1 := by omega
    have HE1 := Lib.hid (HE.out.below (Nat.le_refl _) hb)
    have HT := Lib.hid hT
    have HTZ := Lib.hid hz
    have HPQ := Lib.hid hQ
    have HB := Lib.hid hb
    clear hT hz hb hP hQ
    go_wp2_with fail
    refine (HJ.out w1 HE1.out).mono ?_
    rintro e w2 ⟨U, rfl, hU, hz, hb⟩
    have n4 : ¬ 9223372036854775807 < (((⟨#[123]⟩ : ByteArray) ++ T) ++ (⟨#[44]⟩ : ByteArray)).size + U.size := by have := HPQ.out; have := HTZ.out; omega
    have hR : ((((⟨#[123]⟩ : ByteArray) ++ T) ++ (⟨#[44]⟩ : ByteArray)) ++ U).size = 1 + T.size + 1 + U.size := by rw [ByteArray.size_append, HPQ.out]
    have n5 : ¬ 9223372036854775807 < ((((⟨#[123]⟩ : ByteArray) ++ T) ++ (⟨#[44]⟩ : ByteArray)) ++ U).size + 1 := by have := HTZ.out; omega
    have n6 : ¬ 9223372036854775807 < 1 + T.size + 1 + U.size := by have := HTZ.out; omega
    have n7 : ¬ 9223372036854775807 < 1 + T.size + 1 + U.size + 1 := by have := HTZ.out; omega
    have HN : Hid (Utf.nums (((((⟨#[123]⟩ : ByteArray) ++ T) ++ (⟨#[44]⟩ : ByteArray)) ++ U) ++ (⟨#[125]⟩ : ByteArray)) = Sh.countL (((0 : Nat) : Int)) (m : Int)) := Lib.hid (by rw [num_app5, HT.out, hU, HL.out]; rfl)
    have HZ : Hid ((((((⟨#[123]⟩ : ByteArray) ++ T) ++ (⟨#[44]⟩ : ByteArray)) ++ U) ++ (⟨#[125]⟩ : ByteArray)).size ≤ 20) := Lib.hid (by rw [ByteArray.size_append, hR]; show 1 + T.size + 1 + U.size + 1 ≤ 20; have := HTZ.out; omega)
    have HB2 := Lib.hid (HB.out.trans (hb.mono HB.out.size))
    clear hU hz hb hR
    go_wp2
    go_ret
    exact ⟨_, rfl, HN.out, HZ.out, HB2.out⟩
  by_cases z1 : n = 1
  · subst z1
    have b5 : ((m : Int) == 1) = false := by simp <;> omega
    clear c1 c2 c3 c4 c5 h2
    go_enter Tryd.func52, Tryd.ntmps52
    go_wp2_with fail
    refine (HI.out W HE.out).mono ?_
    rintro e w1 ⟨T, rfl, hT, hz, hb⟩
    have n1 : ¬ 9223372036854775807 < 1 + T.size := by omega
    have hP : ((⟨#[123]⟩ : ByteArray) ++ T).size = 1 + T.size := ByteArray.size_append ..
    have hQ : (((⟨#[123]⟩ : ByteArray) ++ T) ++ (⟨#[44]⟩ : ByteArray)).size = 1 + T.size + 1 := by rw [ByteArray.size_append, hP]; rfl
    have n2 : ¬ 9223372036854775807 < ((⟨#[123]⟩ : ByteArray) ++ T).size + 1 := by omega
    have n3 : ¬ 9223372036854775807 < 1 + T.size + 1 := by omega
    have HE1 := Lib.hid (HE.out.below (Nat.le_refl _) hb)
    have HT := Lib.hid hT
    have HTZ := Lib.hid hz
    have HPQ := Lib.hid hQ
    have HB := Lib.hid hb
    clear hT hz hb hP hQ
    go_wp2_with fail
    refine (HJ.out w1 HE1.out).mono ?_
    rintro e w2 ⟨U, rfl, hU, hz, hb⟩
    have n4 : ¬ 9223372036854775807 < (((⟨#[123]⟩ : ByteArray) ++ T) ++ (⟨#[44]⟩ : ByteArray)).size + U.size := by have := HPQ.out; have := HTZ.out; omega
    have hR : ((((⟨#[123]⟩ : ByteArray) ++ T) ++ (⟨#[44]⟩ : ByteArray)) ++ U).size = 1 + T.size + 1 + U.size := by rw [ByteArray.size_append, HPQ.out]
    have n5 : ¬ 9223372036854775807 < ((((⟨#[123]⟩ : ByteArray) ++ T) ++ (⟨#[44]⟩ : ByteArray)) ++ U).size + 1 := by have := HTZ.out; omega
    have n6 : ¬ 9223372036854775807 < 1 + T.size + 1 + U.size := by have := HTZ.out; omega
    have n7 : ¬ 9223372036854775807 < 1 + T.size + 1 + U.size + 1 := by have := HTZ.out; omega
    have HN : Hid (Utf.nums (((((⟨#[123]⟩ : ByteArray) ++ T) ++ (⟨#[44]⟩ : ByteArray)) ++ U) ++ (⟨#[125]⟩ : ByteArray)) = Sh.countL (((1 : Nat) : Int)) (m : Int)) := Lib.hid (by rw [num_app5, HT.out, hU, HL.out]; rfl)
    have HZ : Hid ((((((⟨#[123]⟩ : ByteArray) ++ T) ++ (⟨#[44]⟩ : ByteArray)) ++ U) ++ (⟨#[125]⟩ : ByteArray)).size ≤ 20) := Lib.hid (by rw [ByteArray.size_append, hR]; show 1 + T.size + 1 + U.size + 1 ≤ 20; have := HTZ.out; omega)
    have HB2 := Lib.hid (HB.out.trans (hb.mono HB.out.size))
    clear hU hz hb hR
    go_wp2
    go_ret
    exact ⟨_, rfl, HN.out, HZ.out, HB2.out⟩
  have b0 : ((n : Int) == 0) = false := by simp <;> omega
  have b1 : ((n : Int) == 1) = false := by simp <;> omega
  clear c1 c2 c3 c4 c5 h2 z0 z1
  go_enter Tryd.func52, Tryd.ntmps52
  go_wp2_with fail
  refine (HI.out W HE.out).mono ?_
  rintro e w1 ⟨T, rfl, hT, hz, hb⟩
  have n1 : ¬ 9223372036854775807 < 1 + T.size := by omega
  have hP : ((⟨#[123]⟩ : ByteArray) ++ T).size = 1 + T.size := ByteArray.size_append ..
  have hQ : (((⟨#[123]⟩ : ByteArray) ++ T) ++ (⟨#[44]⟩ : ByteArray)).size = 1 + T.size + 1 := by rw [ByteArray.size_append, hP]; rfl
  have n2 : ¬ 9223372036854775807 < ((⟨#[123]⟩ : ByteArray) ++ T).size + 1 := by omega
  have n3 : ¬ 9223372036854775807 < 1 + T.size + 1 := by omega
  have HE1 := Lib.hid (HE.out.below (Nat.le_refl _) hb)
  have HT := Lib.hid hT
  have HTZ := Lib.hid hz
  have HPQ := Lib.hid hQ
  have HB := Lib.hid hb
  clear hT hz hb hP hQ
  go_wp2_with fail
  refine (HJ.out w1 HE1.out).mono ?_
  rintro e w2 ⟨U, rfl, hU, hz, hb⟩
  have n4 : ¬ 9223372036854775807 < (((⟨#[123]⟩ : ByteArray) ++ T) ++ (⟨#[44]⟩ : ByteArray)).size + U.size := by have := HPQ.out; have := HTZ.out; omega
  have hR : ((((⟨#[123]⟩ : ByteArray) ++ T) ++ (⟨#[44]⟩ : ByteArray)) ++ U).size = 1 + T.size + 1 + U.size := by rw [ByteArray.size_append, HPQ.out]
  have n5 : ¬ 9223372036854775807 < ((((⟨#[123]⟩ : ByteArray) ++ T) ++ (⟨#[44]⟩ : ByteArray)) ++ U).size + 1 := by have := HTZ.out; omega
  have n6 : ¬ 9223372036854775807 < 1 + T.size + 1 + U.size := by have := HTZ.out; omega
  have n7 : ¬ 9223372036854775807 < 1 + T.size + 1 + U.size + 1 := by have := HTZ.out; omega
  have HN : Hid (Utf.nums (((((⟨#[123]⟩ : ByteArray) ++ T) ++ (⟨#[44]⟩ : ByteArray)) ++ U) ++ (⟨#[125]⟩ : ByteArray)) = Sh.countL ((n : Int)) (m : Int)) := Lib.hid (by rw [num_app5, HT.out, hU, HL.out]; rfl)
  have HZ : Hid ((((((⟨#[123]⟩ : ByteArray) ++ T) ++ (⟨#[44]⟩ : ByteArray)) ++ U) ++ (⟨#[125]⟩ : ByteArray)).size ≤ 20) := Lib.hid (by rw [ByteArray.size_append, hR]; show 1 + T.size + 1 + U.size + 1 ≤ 20; have := HTZ.out; omega)
  have HB2 := Lib.hid (HB.out.trans (hb.mono HB.out.size))
  clear hU hz hb hR
  go_wp2
  go_ret
  exact ⟨_, rfl, HN.out, HZ.out, HB2.out⟩
set_option maxRecDepth 100000 in
set_option maxHeartbeats 4000000 in
/-- show.repetition: what stands behind what is repeated. -/
theorem repetition_show (W : World) (x : Nd) (cs : List Value) (hx : NdIs W x cs) (h0 : 0 ≤ Td.mn x) (h1 : Td.mn x ≤ 1000) (h2 : Td.mx x = -1 ∨ Td.mn x ≤ Td.mx x ∧ Td.mx x ≤ 1000) (hE : EvS W) : Calls Tryd.prog 40 #[.agg cs.toArray] W fun e w' =>
    ∃ T : ByteArray, e = .returned (.string T) ∧ Utf.nums T = Sh.timesL (Td.mn x) (Td.mx x) (Td.lazy x) ∧ T.size ≤ 30 ∧ Below W.heap.size W w' := by
  obtain ⟨u0, u1, u2, u3, u4, u5, u6, u7, sa, sc, aa, ac, rfl, F⟩ := hx.form_of
  obtain ⟨rfl, rfl, rfl, rfl, rfl, rfl, rfl, rfl⟩ := F
  obtain ⟨w1, hw1⟩ : ∃ w1, W.alloc (.cells #[.int .i64 (Td.kind x), .slice sa (Td.set x).length sc, .int .i64 (Td.num x), .string (Td.name x), .int .i64 (Td.mn x), .int .i64 (Td.mx x), .bool (Td.lazy x), .slice aa (Td.subs x).length ac] 25) = w1 := ⟨_, rfl⟩
  have hb1 : Below W.heap.size W w1 := by rw [← hw1]; exact (Below.refl _ _).alloc (Nat.le_refl _) _
  have HT := Lib.hid (times_show w1 (Td.mn x) (Td.mx x) h0 h1 h2 (hE.below (Nat.le_refl _) hb1))
  obtain ⟨lo, hlo⟩ : ∃ lo, Td.mn x = lo := ⟨_, rfl⟩
  obtain ⟨hi, hhi⟩ : ∃ hi, Td.mx x = hi := ⟨_, rfl⟩
  obtain ⟨lz, hlz⟩ : ∃ lz, Td.lazy x = lz := ⟨_, rfl⟩
  rw [hlo, hhi] at HT
  rw [hlo, hhi, hlz] at hw1 ⊢
  have HB1 := Lib.hid hb1
  have HW1 := Lib.hid hw1
  clear hx hE hb1 hw1 h0 h1 h2 hlo hhi hlz
  cases lz with
  | true =>
    go_enter Tryd.func40, Tryd.ntmps40
    go_wp2_with fail
    rw [HW1.out]
    refine HT.out.mono ?_
    rintro e w2 ⟨T, rfl, hT, hz, hb⟩
    have n1 : ¬ 9223372036854775807 < T.size + 1 := by omega
    have HN : Hid (Utf.nums (T ++ (⟨#[63]⟩ : ByteArray)) = Sh.timesL lo hi true) := Lib.hid (by rw [Br.nums_append', hT]; rfl)
    have HZ : Hid ((T ++ (⟨#[63]⟩ : ByteArray)).size ≤ 30) := Lib.hid (by rw [ByteArray.size_append]; show T.size + 1 ≤ 30; omega)
    have HB := Lib.hid (HB1.out.trans (hb.mono HB1.out.size))
    clear hT hz hb
    go_wp2
    go_ret
    exact ⟨_, rfl, HN.out, HZ.out, HB.out⟩
  | false =>
    go_enter Tryd.func40, Tryd.ntmps40
    go_wp2_with fail
    rw [HW1.out]
    refine HT.out.mono ?_
    rintro e w2 ⟨T, rfl, hT, hz, hb⟩
    have HN : Hid (Utf.nums T = Sh.timesL lo hi false) := Lib.hid (by unfold Sh.timesL; rw [hT]; simp)
    have HZ : Hid (T.size ≤ 30) := Lib.hid (by omega)
    have HB := Lib.hid (HB1.out.trans (hb.mono HB1.out.size))
    clear hT hz hb
    go_wp2
    go_ret
    exact ⟨_, rfl, HN.out, HZ.out, HB.out⟩
/-- show.opening, as a text. -/
def opnB (nm : ByteArray) : ByteArray := if nm = ⟨#[]⟩ then ⟨#[40]⟩ else ((⟨#[40, 63, 80, 60]⟩ : ByteArray) ++ nm) ++ (⟨#[62]⟩ : ByteArray)
theorem opB_nums (nm : ByteArray) : Utf.nums (opnB nm) = Sh.openL nm := by
  unfold opnB Sh.openL
  split
  · rfl
  · rw [Br.nums_append', Br.nums_append']; rfl
theorem opB_size (nm : ByteArray) (h : nm.size ≤ 100) : (opnB nm).size ≤ 105 := by
  unfold opnB
  split
  · show 1 ≤ 105; decide
  · rw [ByteArray.size_append, ByteArray.size_append]; show 4 + nm.size + 1 ≤ 105; omega
set_option maxRecDepth 100000 in
set_option maxHeartbeats 4000000 in
theorem opening_show (W : World) (nm : ByteArray) (h : nm.size ≤ 100) : Calls Tryd.prog 37 #[.string nm] W fun e w' => e = .returned (.string (opnB nm)) ∧ W = w' := by
  by_cases h0 : nm = ⟨#[]⟩
  · subst h0
    go_enter Tryd.func37, Tryd.ntmps37
    go_wp2
    go_ret
    exact ⟨rfl, rfl⟩
  · have h0b : (nm.toList == ([] : List UInt8)) = false := by
      rw [beq_eq_false_iff_ne]
      intro e
      apply h0
      rw [ByteArray.toList_eq] at e
      cases nm with
      | mk d => exact congrArg ByteArray.mk (Array.toList_inj.1 (by simpa using e))
    have h0c : ¬ nm = ByteArray.empty := h0
    have n1 : ¬ 9223372036854775807 < 4 + nm.size := by omega
    have hP : ((⟨#[40, 63, 80, 60]⟩ : ByteArray) ++ nm).size = 4 + nm.size := ByteArray.size_append ..
    have n2 : ¬ 9223372036854775807 < ((⟨#[40, 63, 80, 60]⟩ : ByteArray) ++ nm).size + 1 := by omega
    have n3 : ¬ 9223372036854775807 < 4 + nm.size + 1 := by omega
    have HO : Hid (opnB nm = ((⟨#[40, 63, 80, 60]⟩ : ByteArray) ++ nm) ++ (⟨#[62]⟩ : ByteArray)) := Lib.hid (by unfold opnB; rw [if_neg h0])
    clear h0 hP
    go_enter Tryd.func37, Tryd.ntmps37
    go_wp2
    go_ret
    exact ⟨by rw [HO.out]; rfl, rfl⟩
set_option maxRecDepth 100000 in
set_option maxHeartbeats 4000000 in
theorem assertion_show (W : World) (n : Int) (h : 1 ≤ n ∧ n ≤ 6) : Calls Tryd.prog 35 #[.int .i64 n] W fun e w' => ∃ T : ByteArray, e = .returned (.string T) ∧ Utf.nums T = Sh.aboutL n ∧ T.size ≤ 6 ∧ W = w' := by
  rcases (show n = 1 ∨ n = 2 ∨ n = 3 ∨ n = 4 ∨ n = 5 ∨ n = 6 by omega) with rfl | rfl | rfl | rfl | rfl | rfl
  · have hix : ∀ w, (Instr.index 75 (.agg #[.string ⟨#[]⟩, .string ⟨#[92, 65]⟩, .string ⟨#[92, 122]⟩, .string ⟨#[40, 63, 109, 58, 94, 41]⟩, .string ⟨#[40, 63, 109, 58, 36, 41]⟩, .string ⟨#[92, 98]⟩, .string ⟨#[92, 66]⟩]) (.int .i64 1)).run Tryd.prog w = .ok (.string ⟨#[92, 65]⟩) w := fun w => by kernel_rfl
    go_enter Tryd.func35, Tryd.ntmps35
    go_wp2
    go_ret
    exact ⟨_, rfl, rfl, by decide, rfl⟩
  · have hix : ∀ w, (Instr.index 75 (.agg #[.string ⟨#[]⟩, .string ⟨#[92, 65]⟩, .string ⟨#[92, 122]⟩, .string ⟨#[40, 63, 109, 58, 94, 41]⟩, .string ⟨#[40, 63, 109, 58, 36, 41]⟩, .string ⟨#[92, 98]⟩, .string ⟨#[92, 66]⟩]) (.int .i64 2)).run Tryd.prog w = .ok (.string ⟨#[92, 122]⟩) w := fun w => by kernel_rfl
    go_enter Tryd.func35, Tryd.ntmps35
    go_wp2
    go_ret
    exact ⟨_, rfl, rfl, by decide, rfl⟩
  · have hix : ∀ w, (Instr.index 75 (.agg #[.string ⟨#[]⟩, .string ⟨#[92, 65]⟩, .string ⟨#[92, 122]⟩, .string ⟨#[40, 63, 109, 58, 94, 41]⟩, .string ⟨#[40, 63, 109, 58, 36, 41]⟩, .string ⟨#[92, 98]⟩, .string ⟨#[92, 66]⟩]) (.int .i64 3)).run Tryd.prog w = .ok (.string ⟨#[40, 63, 109, 58, 94, 41]⟩) w := fun w => by kernel_rfl
    go_enter Tryd.func35, Tryd.ntmps35
    go_wp2
    go_ret
    exact ⟨_, rfl, rfl, by decide, rfl⟩
  · have hix : ∀ w, (Instr.index 75 (.agg #[.string ⟨#[]⟩, .string ⟨#[92, 65]⟩, .string ⟨#[92, 122]⟩, .string ⟨#[40, 63, 109, 58, 94, 41]⟩, .string ⟨#[40, 63, 109, 58, 36, 41]⟩, .string ⟨#[92, 98]⟩, .string ⟨#[92, 66]⟩]) (.int .i64 4)).run Tryd.prog w = .ok (.string ⟨#[40, 63, 109, 58, 36, 41]⟩) w := fun w => by kernel_rfl
    go_enter Tryd.func35, Tryd.ntmps35
    go_wp2
    go_ret
    exact ⟨_, rfl, rfl, by decide, rfl⟩
  · have hix : ∀ w, (Instr.index 75 (.agg #[.string ⟨#[]⟩, .string ⟨#[92, 65]⟩, .string ⟨#[92, 122]⟩, .string ⟨#[40, 63, 109, 58, 94, 41]⟩, .string ⟨#[40, 63, 109, 58, 36, 41]⟩, .string ⟨#[92, 98]⟩, .string ⟨#[92, 66]⟩]) (.int .i64 5)).run Tryd.prog w = .ok (.string ⟨#[92, 98]⟩) w := fun w => by kernel_rfl
    go_enter Tryd.func35, Tryd.ntmps35
    go_wp2
    go_ret
    exact ⟨_, rfl, rfl, by decide, rfl⟩
  · have hix : ∀ w, (Instr.index 75 (.agg #[.string ⟨#[]⟩, .string ⟨#[92, 65]⟩, .string ⟨#[92, 122]⟩, .string ⟨#[40, 63, 109, 58, 94, 41]⟩, .string ⟨#[40, 63, 109, 58, 36, 41]⟩, .string ⟨#[92, 98]⟩, .string ⟨#[92, 66]⟩]) (.int .i64 6)).run Tryd.prog w = .ok (.string ⟨#[92, 66]⟩) w := fun w => by kernel_rfl
    go_enter Tryd.func35, Tryd.ntmps35
    go_wp2
    go_ret
    exact ⟨_, rfl, rfl, by decide, rfl⟩
theorem ascii_enc (n : Nat) (h : n < 128) : Utf.nums (Utf8.encode (n : Int)) = [(n : Int)] := by
  have hk : ∀ k : Fin 128, Utf.nums (Utf8.encode ((k.1 : Nat) : Int)) = [((k.1 : Nat) : Int)] := by decide +kernel
  exact hk ⟨n, h⟩
set_option maxRecDepth 100000 in
set_option maxHeartbeats 4000000 in
theorem character_show (W : World) (n : Nat) (hn : n ≤ 1114111) (hE : EvS W) : Calls Tryd.prog 50 #[.int .i64 (n : Int)] W fun e w' => ∃ T : ByteArray, e = .returned (.string T) ∧ Utf.nums T = Sh.charL n ∧ T.size ≤ 20 ∧ Below W.heap.size W w' := by
  have HC := Lib.hid (escape_show W n hn hE.tz)
  clear hE
  by_cases h : (48 ≤ (n : Int) ∧ (n : Int) ≤ 57) ∨ (65 ≤ (n : Int) ∧ (n : Int) ≤ 90) ∨ (97 ≤ (n : Int) ∧ (n : Int) ≤ 122)
  · have HL : Hid (Utf.nums (Utf8.encode (n : Int)) = Sh.charL n) := Lib.hid (by unfold Sh.charL; rw [if_pos h]; exact ascii_enc n (by omega))
    have HZ : Hid ((Utf8.encode (n : Int)).size ≤ 20) := Lib.hid (by rw [← Utf.nums_length, ascii_enc n (by omega)]; show 1 ≤ 20; decide)
    rcases h with ⟨h1, h2⟩ | ⟨h1, h2⟩ | ⟨h1, h2⟩
    · go_enter Tryd.func50, Tryd.ntmps50
      go_wp2
      go_ret
      exact ⟨_, rfl, HL.out, HZ.out, Below.refl _ _⟩
    · have g1 : 48 ≤ (n : Int) := by omega
      have g2 : ¬ (n : Int) ≤ 57 := by omega
      go_enter Tryd.func50, Tryd.ntmps50
      go_wp2
      go_ret
      exact ⟨_, rfl, HL.out, HZ.out, Below.refl _ _⟩
    · have g1 : 48 ≤ (n : Int) := by omega
      have g2 : ¬ (n : Int) ≤ 57 := by omega
      have g3 : 65 ≤ (n : Int) := by omega
      have g4 : ¬ (n : Int) ≤ 90 := by omega
      go_enter Tryd.func50, Tryd.ntmps50
      go_wp2
      go_ret
      exact ⟨_, rfl, HL.out, HZ.out, Below.refl _ _⟩
  · have HL : Hid (Sh.charL n = Br.esc n) := Lib.hid (by unfold Sh.charL; rw [if_neg h, Int.toNat_natCast])
    have h6 := Br.hexL6 hn
    have HSZ : Hid ((Br.esc n).length ≤ 20) := Lib.hid (by rw [Br.esc_len]; omega)
    have hd : (¬ 48 ≤ (n : Int) ∧ ¬ 65 ≤ (n : Int) ∧ ¬ 97 ≤ (n : Int)) ∨ (48 ≤ (n : Int) ∧ ¬ (n : Int) ≤ 57 ∧ ¬ 65 ≤ (n : Int) ∧ ¬ 97 ≤ (n : Int)) ∨ (48 ≤ (n : Int) ∧ ¬ (n : Int) ≤ 57 ∧ 65 ≤ (n : Int) ∧ ¬ (n : Int) ≤ 90 ∧ ¬ 97 ≤ (n : Int)) ∨ (48 ≤ (n : Int) ∧ ¬ (n : Int) ≤ 57 ∧ 65 ≤ (n : Int) ∧ ¬ (n : Int) ≤ 90 ∧ 97 ≤ (n : Int) ∧ ¬ (n : Int) ≤ 122) := by omega
    clear h h6
    rcases hd with ⟨g1, g2, g3⟩ | ⟨g1, g2, g3, g4⟩ | ⟨g1, g2, g3, g4, g5⟩ | ⟨g1, g2, g3, g4, g5, g6⟩
    · go_enter Tryd.func50, Tryd.ntmps50
      go_wp2_with fail
      refine HC.out.mono ?_
      rintro e w' ⟨T, rfl, hT, hb⟩
      have HT := Lib.hid hT
      have HB := Lib.hid hb
      clear hT hb
      go_wp2
      go_ret
      exact ⟨_, rfl, by rw [HL.out]; exact HT.out, by rw [← Utf.nums_length, HT.out]; exact HSZ.out, HB.out⟩
    · go_enter Tryd.func50, Tryd.ntmps50
      go_wp2_with fail
      refine HC.out.mono ?_
      rintro e w' ⟨T, rfl, hT, hb⟩
      have HT := Lib.hid hT
      have HB := Lib.hid hb
      clear hT hb
      go_wp2
      go_ret
      exact ⟨_, rfl, by rw [HL.out]; exact HT.out, by rw [← Utf.nums_length, HT.out]; exact HSZ.out, HB.out⟩
    · go_enter Tryd.func50, Tryd.ntmps50
      go_wp2_with fail
      refine HC.out.mono ?_
      rintro e w' ⟨T, rfl, hT, hb⟩
      have HT := Lib.hid hT
      have HB := Lib.hid hb
      clear hT hb
      go_wp2
      go_ret
      exact ⟨_, rfl, by rw [HL.out]; exact HT.out, by rw [← Utf.nums_length, HT.out]; exact HSZ.out, HB.out⟩
    · go_enter Tryd.func50, Tryd.ntmps50
      go_wp2_with fail
      refine HC.out.mono ?_
      rintro e w' ⟨T, rfl, hT, hb⟩
      have HT := Lib.hid hT
      have HB := Lib.hid hb
      clear hT hb
      go_wp2
      go_ret
      exact ⟨_, rfl, by rw [HL.out]; exact HT.out, by rw [← Utf.nums_length, HT.out]; exact HSZ.out, HB.out⟩

end Go.Proofs.YtecmeeobabadeaaDoor
