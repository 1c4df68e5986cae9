/- Functions of the library: the library's contracts, laid over this translation. · The landed show: character, assertion, opening, times, repetition. -/
import Derived.Shelf.Strconv.Itoa4
import Derived.Test.YtanffablfgnioaaGreatDoorProg
import Derived.Test.YtanffablfgnioaaGreatDoorGp6
import Derived.Shelf.Strconv.Itoa3
import Derived.Test.YtanffablfgnioaaGreatDoorGp2
namespace Go.Proofs
open Go.Shelf
def Tryz.layItoa_ren : Go.Shelf.Ren := ⟨fun | 171 => 102 | 243 => 136 | 246 => 100 | 283 => 132 | 284 => 133 | 285 => 134 | 286 => 135 | 129 => 169 | 317 => 168 | 318 => 170 | 319 => 171 | 320 => 172 | 337 => 191 | 338 => 192 | n => n, fun | 3 => 3 | 9 => 9 | 2 => 2 | 4 => 4 | 171 => 157 | 0 => 0 | 53 => 158 | 37 => 44 | 5 => 5 | 173 => 161 | 212 => 190 | 51 => 191 | 20 => 20 | 213 => 192 | 46 => 107 | 232 => 236 | 233 => 237 | n => n, fun | 17 => 1 | 18 => 7 | 19 => 8 | n => n⟩
theorem Tryz.layItoa : Go.Proofs.LaysM.n171 Tryz.prog Tryz.layItoa_ren := {
  mixed := by kernel_rfl
  f129 := Tryz.func169.trans (congrArg some (by kernel_rfl))
  f171 := Tryz.func102.trans (congrArg some (by kernel_rfl))
  f243 := Tryz.func136.trans (congrArg some (by kernel_rfl))
  f246 := Tryz.func100.trans (congrArg some (by kernel_rfl))
  f283 := Tryz.func132.trans (congrArg some (by kernel_rfl))
  f284 := Tryz.func133.trans (congrArg some (by kernel_rfl))
  f285 := Tryz.func134.trans (congrArg some (by kernel_rfl))
  f286 := Tryz.func135.trans (congrArg some (by kernel_rfl))
  f317 := Tryz.func168.trans (congrArg some (by kernel_rfl))
  f318 := Tryz.func170.trans (congrArg some (by kernel_rfl))
  f319 := Tryz.func171.trans (congrArg some (by kernel_rfl))
  f320 := Tryz.func172.trans (congrArg some (by kernel_rfl))
  f337 := Tryz.func191.trans (congrArg some (by kernel_rfl))
  f338 := Tryz.func192.trans (congrArg some (by kernel_rfl))
  t0 := Tryz.underlying0
  a0 := Tryz.isAgg0
  z0 := Tryz.sizeOf0
  v0 := Tryz.zeroValue0
  t2 := Tryz.underlying2
  a2 := Tryz.isAgg2
  z2 := Tryz.sizeOf2
  v2 := Tryz.zeroValue2
  t3 := Tryz.underlying3
  a3 := Tryz.isAgg3
  z3 := Tryz.sizeOf3
  v3 := Tryz.zeroValue3
  t4 := Tryz.underlying4
  a4 := Tryz.isAgg4
  z4 := Tryz.sizeOf4
  v4 := Tryz.zeroValue4
  t5 := Tryz.underlying5
  a5 := Tryz.isAgg5
  z5 := Tryz.sizeOf5
  v5 := Tryz.zeroValue5
  t9 := Tryz.underlying9
  a9 := Tryz.isAgg9
  z9 := Tryz.sizeOf9
  v9 := Tryz.zeroValue9
  t20 := Tryz.underlying20
  a20 := Tryz.isAgg20
  z20 := Tryz.sizeOf20
  v20 := Tryz.zeroValue20
  t37 := Tryz.underlying44
  a37 := Tryz.isAgg44
  z37 := Tryz.sizeOf44
  v37 := Tryz.zeroValue44
  t46 := Tryz.underlying107
  a46 := Tryz.isAgg107
  z46 := Tryz.sizeOf107
  v46 := Tryz.zeroValue107
  t51 := Tryz.underlying191
  a51 := Tryz.isAgg191
  z51 := Tryz.sizeOf191
  v51 := Tryz.zeroValue191
  t53 := Tryz.underlying158
  a53 := Tryz.isAgg158
  z53 := Tryz.sizeOf158
  v53 := Tryz.zeroValue158
  t171 := Tryz.underlying157
  a171 := Tryz.isAgg157
  z171 := Tryz.sizeOf157
  v171 := Tryz.zeroValue157
  t173 := Tryz.underlying161
  a173 := Tryz.isAgg161
  z173 := Tryz.sizeOf161
  v173 := Tryz.zeroValue161
  t212 := Tryz.underlying190
  a212 := Tryz.isAgg190
  z212 := Tryz.sizeOf190
  v212 := Tryz.zeroValue190
  t213 := Tryz.underlying192
  a213 := Tryz.isAgg192
  z213 := Tryz.sizeOf192
  t232 := Tryz.underlying236
  a232 := Tryz.isAgg236
  z232 := Tryz.sizeOf236
  v232 := Tryz.zeroValue236
  t233 := Tryz.underlying237
  a233 := Tryz.isAgg237
  z233 := Tryz.sizeOf237
  v233 := Tryz.zeroValue237
  g17 := by kernel_rfl
  g18 := by kernel_rfl
  g19 := by kernel_rfl
  i0 := by kernel_rfl
  i2 := by kernel_rfl
  i3 := by kernel_rfl
  i4 := by kernel_rfl
  i5 := by kernel_rfl
  i9 := by kernel_rfl
  i20 := by kernel_rfl
  i37 := by kernel_rfl
  i46 := by kernel_rfl
  i51 := by kernel_rfl
  i53 := by kernel_rfl
  i171 := by kernel_rfl
  i173 := by kernel_rfl
  i212 := by kernel_rfl
  i232 := by kernel_rfl
  i233 := by kernel_rfl
  m17 := by kernel_rfl
  m18 := by kernel_rfl
  m19 := by kernel_rfl }
end Go.Proofs
namespace Go.Proofs.YtanffablfgnioaaGreatDoor
open Go.RowKit
set_option linter.unusedVariables false
/-- What the printer reads of the library's tables. -/
structure EvS (W : World) : Prop where
  tz : TzAt W
  pow : Lib.TabIs Tryz.prog W "internal/strconv.uint64pow10" .u64 Lib.pow10Tab
theorem tab_below {P : Program} {w w' : World} {name : String} {k : IntKind} {zs : List Int} {B : Nat} (h : Lib.TabIs P w name k zs) (hB : w.heap.size ≤ B) (hb : Below B w w') : Lib.TabIs P w' name k zs := by
  unfold Lib.TabIs World.var? at h ⊢
  cases hg : P.globalNamed name with
  | none => rw [hg] at h; cases h
  | some g =>
    rw [hg] at h
    simp only [Option.bind_some] at h ⊢
    rcases Nat.lt_or_ge g w.heap.size with hlt | hge
    · rw [hb.block g (by omega)]; exact h
    · rw [Array.getElem?_eq_none hge] at h; cases h
theorem EvS.below {W W' : World} {B : Nat} (h : EvS W) (hB : W.heap.size ≤ B) (hb : Below B W W') : EvS W' := ⟨h.tz.below hB hb, tab_below h.pow hB hb⟩
theorem itoa_dec (n : Nat) (h : n ≤ 1000) : Utf.nums (⟨(Lib.itoa (n : Int)).toArray⟩ : ByteArray) = Lx.decL n := by
  have hk : ∀ k : Fin 1001, (Lib.itoa ((k.1 : Nat) : Int)).map (fun b => (b.toNat : Int)) = Lx.decL k.1 := by decide +kernel
  have := hk ⟨n, by omega⟩
  unfold Utf.nums
  exact this
theorem below_growS (w : World) (n : Nat) (os : Array Obj) : Below w.heap.size w (Go.Sort.grow (w.drewN n) os) :=
  ⟨rfl, rfl, rfl, by simp [Go.Sort.grow], fun k hk => by rw [Go.Sort.heap_grow_old _ _ (by exact hk)]; rfl⟩
theorem itoa_any (W : World) (n : Nat) (hn : n ≤ 1000) (h : EvS W) : Calls Tryz.prog 102 #[.int .i64 (n : Int)] W fun e w' => ∃ T : ByteArray, e = .returned (.string T) ∧ Utf.nums T = Lx.decL n ∧ T.size ≤ 6 ∧ Below W.heap.size W w' := by
  have h9 := Any.strconv_Itoa Tryz.layItoa (n : Int) (by omega) (by omega) W h.pow
  change Calls Tryz.prog 102 _ _ _ at h9
  refine h9.mono ?_
  rintro e w' ⟨rfl, k, os, rfl⟩
  refine ⟨_, rfl, itoa_dec n hn, ?_, ?_⟩
  · rw [← Utf.nums_length, itoa_dec n hn]
    exact (Lx.decF_len 6 n (by decide) (by omega)).2.1
  · exact below_growS W k os
theorem num_app3 (a b c : ByteArray) : Utf.nums ((a ++ b) ++ c) = Utf.nums a ++ (Utf.nums b ++ Utf.nums c) := by rw [Br.nums_append', Br.nums_append', List.append_assoc]
theorem num_app5 (a b c d e : ByteArray) : Utf.nums ((((a ++ b) ++ c) ++ d) ++ e) = Utf.nums a ++ (Utf.nums b ++ (Utf.nums c ++ (Utf.nums d ++ Utf.nums e))) := by simp only [Br.nums_append', List.append_assoc]
set_option maxRecDepth 100000 in
set_option maxHeartbeats 8000000 in
/-- show.times: how often. -/
theorem times_show (W : World) (lo hi : Int) (h0 : 0 ≤ lo) (h1 : lo ≤ 1000) (h2 : hi = -1 ∨ lo ≤ hi ∧ hi ≤ 1000) (hE : EvS W) : Calls Tryz.prog 76 #[.int .i64 lo, .int .i64 hi] W fun e w' =>
    ∃ T : ByteArray, e = .returned (.string T) ∧ Utf.nums T = Sh.countL lo hi ∧ T.size ≤ 20 ∧ Below W.heap.size W w' := by
  have HE := Lib.hid hE
  clear hE
  by_cases c1 : lo = 0 ∧ hi = -1
  · obtain ⟨rfl, rfl⟩ := c1
    go_enter Tryz.func76, Tryz.ntmps76
    go_wp2
    go_ret
    exact ⟨_, rfl, rfl, by decide, Below.refl _ _⟩
  by_cases c2 : lo = 1 ∧ hi = -1
  · obtain ⟨rfl, rfl⟩ := c2
    go_enter Tryz.func76, Tryz.ntmps76
    go_wp2
    go_ret
    exact ⟨_, rfl, rfl, by decide, Below.refl _ _⟩
  by_cases c3 : lo = 0 ∧ hi = 1
  · obtain ⟨rfl, rfl⟩ := c3
    go_enter Tryz.func76, Tryz.ntmps76
    go_wp2
    go_ret
    exact ⟨_, rfl, rfl, by decide, Below.refl _ _⟩
  obtain ⟨n, rfl⟩ : ∃ n : Nat, lo = (n : Int) := ⟨lo.toNat, by omega⟩
  have HI := Lib.hid (fun w (hw : EvS w) => itoa_any w n (by omega) hw)
  by_cases c4 : hi = (n : Int)
  · subst c4
    have HL : Hid (Sh.countL n n = 123 :: (Lx.decL n ++ [125])) := Lib.hid (by unfold Sh.countL; rw [if_neg c1, if_neg c2, if_neg c3, if_pos rfl, Int.toNat_natCast])
    by_cases z0 : n = 0
    · subst z0
      clear c1 c2 c3 h2
      go_enter Tryz.func76, Tryz.ntmps76
      go_wp2_with fail
      refine (HI.out W HE.out).mono ?_
      rintro e w' ⟨T, rfl, hT, hz, hb⟩
      have n1 : ¬ 9223372036854775807 < 1 + T.size := by omega
      have hP : ((⟨#[123]⟩ : ByteArray) ++ T).size = 1 + T.size := ByteArray.size_append ..
      have n2 : ¬ 9223372036854775807 < ((⟨#[123]⟩ : ByteArray) ++ T).size + 1 := by omega
      have n3 : ¬ 9223372036854775807 < 1 + T.size + 1 := by omega
      have HN : Hid (Utf.nums (((⟨#[123]⟩ : ByteArray) ++ T) ++ (⟨#[125]⟩ : ByteArray)) = Sh.countL (((0 : Nat) : Int)) (((0 : Nat) : Int))) := Lib.hid (by rw [num_app3, hT, HL.out]; rfl)
      have HZ : Hid ((((⟨#[123]⟩ : ByteArray) ++ T) ++ (⟨#[125]⟩ : ByteArray)).size ≤ 20) := Lib.hid (by rw [ByteArray.size_append, hP]; show 1 + T.size + 1 ≤ 20; omega)
      have HB := Lib.hid hb
      clear hT hz hb hP
      go_wp2
      go_ret
      exact ⟨_, rfl, HN.out, HZ.out, HB.out⟩
    by_cases z1 : n = 1
    · subst z1
      clear c1 c2 c3 h2
      go_enter Tryz.func76, Tryz.ntmps76
      go_wp2_with fail
      refine (HI.out W HE.out).mono ?_
      rintro e w' ⟨T, rfl, hT, hz, hb⟩
      have n1 : ¬ 9223372036854775807 < 1 + T.size := by omega
      have hP : ((⟨#[123]⟩ : ByteArray) ++ T).size = 1 + T.size := ByteArray.size_append ..
      have n2 : ¬ 9223372036854775807 < ((⟨#[123]⟩ : ByteArray) ++ T).size + 1 := by omega
      have n3 : ¬ 9223372036854775807 < 1 + T.size + 1 := by omega
      have HN : Hid (Utf.nums (((⟨#[123]⟩ : ByteArray) ++ T) ++ (⟨#[125]⟩ : ByteArray)) = Sh.countL (((1 : Nat) : Int)) (((1 : Nat) : Int))) := Lib.hid (by rw [num_app3, hT, HL.out]; rfl)
      have HZ : Hid ((((⟨#[123]⟩ : ByteArray) ++ T) ++ (⟨#[125]⟩ : ByteArray)).size ≤ 20) := Lib.hid (by rw [ByteArray.size_append, hP]; show 1 + T.size + 1 ≤ 20; omega)
      have HB := Lib.hid hb
      clear hT hz hb hP
      go_wp2
      go_ret
      exact ⟨_, rfl, HN.out, HZ.out, HB.out⟩
    have b0 : ((n : Int) == 0) = false := by simp <;> omega
    have b1 : ((n : Int) == 1) = false := by simp <;> omega
    have b2 : ((n : Int) == (n : Int)) = true := by simp
    clear c1 c2 c3 h2 z0 z1
    go_enter Tryz.func76, Tryz.ntmps76
    go_wp2_with fail
    refine (HI.out W HE.out).mono ?_
    rintro e w' ⟨T, rfl, hT, hz, hb⟩
    have n1 : ¬ 9223372036854775807 < 1 + T.size := by omega
    have hP : ((⟨#[123]⟩ : ByteArray) ++ T).size = 1 + T.size := ByteArray.size_append ..
    have n2 : ¬ 9223372036854775807 < ((⟨#[123]⟩ : ByteArray) ++ T).size + 1 := by omega
    have n3 : ¬ 9223372036854775807 < 1 + T.size + 1 := by omega
    have HN : Hid (Utf.nums (((⟨#[123]⟩ : ByteArray) ++ T) ++ (⟨#[125]⟩ : ByteArray)) = Sh.countL ((n : Int)) ((n : Int))) := Lib.hid (by rw [num_app3, hT, HL.out]; rfl)
    have HZ : Hid ((((⟨#[123]⟩ : ByteArray) ++ T) ++ (⟨#[125]⟩ : ByteArray)).size ≤ 20) := Lib.hid (by rw [ByteArray.size_append, hP]; show 1 + T.size + 1 ≤ 20; omega)
    have HB := Lib.hid hb
    clear hT hz hb hP
    go_wp2
    go_ret
    exact ⟨_, rfl, HN.out, HZ.out, HB.out⟩
  by_cases c5 : hi = -1
  · subst c5
    have b0 : ((n : Int) == 0) = false := by simp <;> omega
    have b1 : ((n : Int) == 1) = false := by simp <;> omega
    have b2 : ((-1 : Int) == (n : Int)) = false := by simp <;> omega
    have HL : Hid (Sh.countL n (-1) = 123 :: (Lx.decL n ++ [44, 125])) := Lib.hid (by unfold Sh.countL; rw [if_neg c1, if_neg c2, if_neg c3, if_neg c4, if_pos rfl, Int.toNat_natCast])
    clear c1 c2 c3 c4 h2
    go_enter Tryz.func76, Tryz.ntmps76
    go_wp2_with fail
    refine (HI.out W HE.out).mono ?_
    rintro e w' ⟨T, rfl, hT, hz, hb⟩
    have n1 : ¬ 9223372036854775807 < 1 + T.size := by omega
    have hP : ((⟨#[123]⟩ : ByteArray) ++ T).size = 1 + T.size := ByteArray.size_append ..
    have n2 : ¬ 9223372036854775807 < ((⟨#[123]⟩ : ByteArray) ++ T).size + 2 := by omega
    have n3 : ¬ 9223372036854775807 < 1 + T.size + 2 := by omega
    have HN : Hid (Utf.nums (((⟨#[123]⟩ : ByteArray) ++ T) ++ (⟨#[44, 125]⟩ : ByteArray)) = Sh.countL ((n : Int)) (-1)) := Lib.hid (by rw [num_app3, hT, HL.out]; rfl)
    have HZ : Hid ((((⟨#[123]⟩ : ByteArray) ++ T) ++ (⟨#[44, 125]⟩ : ByteArray)).size ≤ 20) := Lib.hid (by rw [ByteArray.size_append, hP]; show 1 + T.size + 2 ≤ 20; omega)
    have HB := Lib.hid hb
    clear hT hz hb hP
    go_wp2
    go_ret
    exact ⟨_, rfl, HN.out, HZ.out, HB.out⟩
  obtain ⟨m, rfl⟩ : ∃ m : Nat, hi = (m : Int) := ⟨hi.toNat, by omega⟩
  have HJ := Lib.hid (fun w (hw : EvS w) => itoa_any w m (by omega) hw)
  have HL : Hid (Sh.countL n m = 123 :: (Lx.decL n ++ 44 :: (Lx.decL m ++ [125]))) := Lib.hid (by unfold Sh.countL; rw [if_neg c1, if_neg c2, if_neg c3, if_neg c4, if_neg c5, Int.toNat_natCast, Int.toNat_natCast])
  have b3 : ((m : Int) == -1) = false := by simp
  have b4 : ((m : Int) == (n : Int)) = false := by simp <;> omega
  by_cases z0 : n = 0
  · subst z0
    have b5 : ((m : Int) == 1) = false := by simp <;> omega
    have b6 : ((m : Int) == 0) = false := by simp <;> omega
    clear c1 c2 c3 c4 c5 h2
    go_enter Tryz.func76, Tryz.ntmps76
    go_wp2_with fail
    refine (HI.out W HE.out).mono ?_
    rintro e w1 ⟨T, rfl, hT, hz, hb⟩
    have n1 : ¬ 9223372036854775807 < 1 + T.size := by omega
    have hP : ((⟨#[123]⟩ : ByteArray) ++ T).size = 1 + T.size := ByteArray.size_append ..
    have hQ : (((⟨#[123]⟩ : ByteArray) ++ T) ++ (⟨#[44]⟩ : ByteArray)).size = 1 + T.size + 1 := by rw [ByteArray.size_append, hP]; rfl
    have n2 : ¬ 9223372036854775807 < ((⟨#[123]⟩ : ByteArray) ++ T).size + 1 := by omega
    have n3 : ¬ 9223372036854775807 < 1 + T.size + 1 := by omega
    have HE1 := Lib.hid (HE.out.below (Nat.le_refl _) hb)
    have HT := Lib.hid hT
    have HTZ := Lib.hid hz
    have HPQ := Lib.hid hQ
    have HB := Lib.hid hb
    clear hT hz hb hP hQ
    go_wp2_with fail
    refine (HJ.out w1 HE1.out).mono ?_
    rintro e w2 ⟨U, rfl, hU, hz, hb⟩
    have n4 : ¬ 9223372036854775807 < (((⟨#[123]⟩ : ByteArray) ++ T) ++ (⟨#[44]⟩ : ByteArray)).size + U.size := by have := HPQ.out; have := HTZ.out; omega
    have hR : ((((⟨#[123]⟩ : ByteArray) ++ T) ++ (⟨#[44]⟩ : ByteArray)) ++ U).size = 1 + T.size + 1 + U.size := by rw [ByteArray.size_append, HPQ.out]
    have n5 : ¬ 9223372036854775807 < ((((⟨#[123]⟩ : ByteArray) ++ T) ++ (⟨#[44]⟩ : ByteArray)) ++ U).size + 1 := by have := HTZ.out; omega
    have n6 : ¬ 9223372036854775807 < 1 + T.size + 1 + U.size := by have := HTZ.out; omega
    have n7 : ¬ 9223372036854775807 < 1 + T.size + 1 + U.size + 1 := by have := HTZ.out; omega
    have HN : Hid (Utf.nums (((((⟨#[123]⟩ : ByteArray) ++ T) ++ (⟨#[44]⟩ : ByteArray)) ++ U) ++ (⟨#[125]⟩ : ByteArray)) = Sh.countL (((0 : Nat) : Int)) (m : Int)) := Lib.hid (by rw [num_app5, HT.out, hU, HL.out]; rfl)
    have HZ : Hid ((((((⟨#[123]⟩ : ByteArray) ++ T) ++ (⟨#[44]⟩ : ByteArray)) ++ U) ++ (⟨#[125]⟩ : ByteArray)).size ≤ 20) := Lib.hid (by rw [ByteArray.size_append, hR]; show 1 + T.size + 1 + U.size + 1 ≤ 20; have := HTZ.out; omega)
    have HB2 := Lib.hid (HB.out.trans (hb.mono HB.out.size))
    clear hU hz hb hR
    go_wp2
    go_ret
    exact ⟨_, rfl, HN.out, HZ.out, HB2.out⟩
  by_cases z1 : n = 1
  · subst z1
    have b5 : ((m : Int) == 1) = false := by simp <;> omega
    clear c1 c2 c3 c4 c5 h2
    go_enter Tryz.func76, Tryz.ntmps76
    go_wp2_with fail
    refine (HI.out W HE.out).mono ?_
    rintro e w1 ⟨T, rfl, hT, hz, hb⟩
    have n1 : ¬ 9223372036854775807 < 1 + T.size := by omega
    have hP : ((⟨#[123]⟩ : ByteArray) ++ T).size = 1 + T.size := ByteArray.size_append ..
    have hQ : (((⟨#[123]⟩ : ByteArray) ++ T) ++ (⟨#[44]⟩ : ByteArray)).size = 1 + T.size + 1 := by rw [ByteArray.size_append, hP]; rfl
    have n2 : ¬ 9223372036854775807 < ((⟨#[123]⟩ : ByteArray) ++ T).size + 1 := by omega
    have n3 : ¬ 9223372036854775807 < 1 + T.size + 1 := by omega
    have HE1 := Lib.hid (HE.out.below (Nat.le_refl _) hb)
    have HT := Lib.hid hT
    have HTZ := Lib.hid hz
    have HPQ := Lib.hid hQ
    have HB := Lib.hid hb
    clear hT hz hb hP hQ
    go_wp2_with fail
    refine (HJ.out w1 HE1.out).mono ?_
    rintro e w2 ⟨U, rfl, hU, hz, hb⟩
    have n4 : ¬ 9223372036854775807 < (((⟨#[123]⟩ : ByteArray) ++ T) ++ (⟨#[44]⟩ : ByteArray)).size + U.size := by have := HPQ.out; have := HTZ.out; omega
    have hR : ((((⟨#[123]⟩ : ByteArray) ++ T) ++ (⟨#[44]⟩ : ByteArray)) ++ U).size = 1 + T.size + 1 + U.size := by rw [ByteArray.size_append, HPQ.out]
    have n5 : ¬ 9223372036854775807 < ((((⟨#[123]⟩ : ByteArray) ++ T) ++ (⟨#[44]⟩ : ByteArray)) ++ U).size + 1 := by have := HTZ.out; omega
    have n6 : ¬ 9223372036854775807 < 1 + T.size + 1 + U.size := by have := HTZ.out; omega
    have n7 : ¬ 9223372036854775807 < 1 + T.size + 1 + U.size + 1 := by have := HTZ.out; omega
    have HN : Hid (Utf.nums (((((⟨#[123]⟩ : ByteArray) ++ T) ++ (⟨#[44]⟩ : ByteArray)) ++ U) ++ (⟨#[125]⟩ : ByteArray)) = Sh.countL (((1 : Nat) : Int)) (m : Int)) := Lib.hid (by rw [num_app5, HT.out, hU, HL.out]; rfl)
    have HZ : Hid ((((((⟨#[123]⟩ : ByteArray) ++ T) ++ (⟨#[44]⟩ : ByteArray)) ++ U) ++ (⟨#[125]⟩ : ByteArray)).size ≤ 20) := Lib.hid (by rw [ByteArray.size_append, hR]; show 1 + T.size + 1 + U.size + 1 ≤ 20; have := HTZ.out; omega)
    have HB2 := Lib.hid (HB.out.trans (hb.mono HB.out.size))
    clear hU hz hb hR
    go_wp2
    go_ret
    exact ⟨_, rfl, HN.out, HZ.out, HB2.out⟩
  have b0 : ((n : Int) == 0) = false := by simp <;> omega
  have b1 : ((n : Int) == 1) = false := by simp <;> omega
  clear c1 c2 c3 c4 c5 h2 z0 z1
  go_enter Tryz.func76, Tryz.ntmps76
  go_wp2_with fail
  refine (HI.out W HE.out).mono ?_
  rintro e w1 ⟨T, rfl, hT, hz, hb⟩
  have n1 : ¬ 9223372036854775807 < 1 + T.size := by omega
  have hP : ((⟨#[123]⟩ : ByteArray) ++ T).size = 1 + T.size := ByteArray.size_append ..
  have hQ : (((⟨#[123]⟩ : ByteArray) ++ T) ++ (⟨#[44]⟩ : ByteArray)).size = 1 + T.size + 1 := by rw [ByteArray.size_append, hP]; rfl
  have n2 : ¬ 9223372036854775807 < ((⟨#[123]⟩ : ByteArray) ++ T).size + 1 := by omega
  have n3 : ¬ 9223372036854775807 < 1 + T.size + 1 := by omega
  have HE1 := Lib.hid (HE.out.below (Nat.le_refl _) hb)
  have HT := Lib.hid hT
  have HTZ := Lib.hid hz
  have HPQ := Lib.hid hQ
  have HB := Lib.hid hb
  clear hT hz hb hP hQ
  go_wp2_with fail
  refine (HJ.out w1 HE1.out).mono ?_
  rintro e w2 ⟨U, rfl, hU, hz, hb⟩
  have n4 : ¬ 9223372036854775807 < (((⟨#[123]⟩ : ByteArray) ++ T) ++ (⟨#[44]⟩ : ByteArray)).size + U.size := by have := HPQ.out; have := HTZ.out; omega
  have hR : ((((⟨#[123]⟩ : ByteArray) ++ T) ++ (⟨#[44]⟩ : ByteArray)) ++ U).size = 1 + T.size + 1 + U.size := by rw [ByteArray.size_append, HPQ.out]
  have n5 : ¬ 9223372036854775807 < ((((⟨#[123]⟩ : ByteArray) ++ T) ++ (⟨#[44]⟩ : ByteArray)) ++ U).size + 1 := by have := HTZ.out; omega
  have n6 : ¬ 9223372036854775807 < 1 + T.size + 1 + U.size := by have := HTZ.out; omega
  have n7 : ¬ 9223372036854775807 < 1 + T.size + 1 + U.size + 1 := by have := HTZ.out; omega
  have HN : Hid (Utf.nums (((((⟨#[123]⟩ : ByteArray) ++ T) ++ (⟨#[44]⟩ : ByteArray)) ++ U) ++ (⟨#[125]⟩ : ByteArray)) = Sh.countL ((n : Int)) (m : Int)) := Lib.hid (by rw [num_app5, HT.out, hU, HL.out]; rfl)
  have HZ : Hid ((((((⟨#[123]⟩ : ByteArray) ++ T) ++ (⟨#[44]⟩ : ByteArray)) ++ U) ++ (⟨#[125]⟩ : ByteArray)).size ≤ 20) := Lib.hid (by rw [ByteArray.size_append, hR]; show 1 + T.size + 1 + U.size + 1 ≤ 20; have := HTZ.out; omega)
  have HB2 := Lib.hid (HB.out.trans (hb.mono HB.out.size))
  clear hU hz hb hR
  go_wp2
  go_ret
  exact ⟨_, rfl, HN.out, HZ.out, HB2.out⟩
set_option maxRecDepth 100000 in
set_option maxHeartbeats 4000000 in
/-- show.repetition: what stands behind what is repeated. -/
theorem repetition_show (W : World) (x : Nd) (cs : List Value) (hx : NdIs W x cs) (h0 : 0 ≤ Td.mn x) (h1 : Td.mn x ≤ 1000) (h2 : Td.mx x = -1 ∨ Td.mn x ≤ Td.mx x ∧ Td.mx x ≤ 1000) (hE : EvS W) : Calls Tryz.prog 53 #[.agg cs.toArray] W fun e w' =>
    ∃ T : ByteArray, e = .returned (.string T) ∧ Utf.nums T = Sh.timesL (Td.mn x) (Td.mx x) (Td.lazy x) ∧ T.size ≤ 30 ∧ Below W.heap.size W w' := by
  obtain ⟨u0, u1, u2, u3, u4, u5, u6, u7, sa, sc, aa, ac, rfl, F⟩ := hx.form_of
  obtain ⟨rfl, rfl, rfl, rfl, rfl, rfl, rfl, rfl⟩ := F
  obtain ⟨w1, hw1⟩ : ∃ w1, W.alloc (.cells #[.int .i64 (Td.kind x), .slice sa (Td.set x).length sc, .int .i64 (Td.num x), .string (Td.name x), .int .i64 (Td.mn x), .int .i64 (Td.mx x), .bool (Td.lazy x), .slice aa (Td.subs x).length ac] 26) = w1 := ⟨_, rfl⟩
  have hb1 : Below W.heap.size W w1 := by rw [← hw1]; exact (Below.refl _ _).alloc (Nat.le_refl _) _
  have HT := Lib.hid (times_show w1 (Td.mn x) (Td.mx x) h0 h1 h2 (hE.below (Nat.le_refl _) hb1))
  obtain ⟨lo, hlo⟩ : ∃ lo, Td.mn x = lo := ⟨_, rfl⟩
  obtain ⟨hi, hhi⟩ : ∃ hi, Td.mx x = hi := ⟨_, rfl⟩
  obtain ⟨lz, hlz⟩ : ∃ lz, Td.lazy x = lz := ⟨_, rfl⟩
  rw [hlo, hhi] at HT
  rw [hlo, hhi, hlz] at hw1 ⊢
  have HB1 := Lib.hid hb1
  have HW1 := Lib.hid hw1
  clear hx hE hb1 hw1 h0 h1 h2 hlo hhi hlz
  cases lz with
  | true =>
    go_enter Tryz.func53, Tryz.ntmps53
    go_wp2_with fail
    rw [HW1.out]
    refine HT.out.mono ?_
    rintro e w2 ⟨T, rfl, hT, hz, hb⟩
    have n1 : ¬ 9223372036854775807 < T.size + 1 := by omega
    have HN : Hid (Utf.nums (T ++ (⟨#[63]⟩ : ByteArray)) = Sh.timesL lo hi true) := Lib.hid (by rw [Br.nums_append', hT]; rfl)
    have HZ : Hid ((T ++ (⟨#[63]⟩ : ByteArray)).size ≤ 30) := Lib.hid (by rw [ByteArray.size_append]; show T.size + 1 ≤ 30; omega)
    have HB := Lib.hid (HB1.out.trans (hb.mono HB1.out.size))
    clear hT hz hb
    go_wp2
    go_ret
    exact ⟨_, rfl, HN.out, HZ.out, HB.out⟩
  | false =>
    go_enter Tryz.func53, Tryz.ntmps53
    go_wp2_with fail
    rw [HW1.out]
    refine HT.out.mono ?_
    rintro e w2 ⟨T, rfl, hT, hz, hb⟩
    have HN : Hid (Utf.nums T = Sh.timesL lo hi false) := Lib.hid (by unfold Sh.timesL; rw [hT]; simp)
    have HZ : Hid (T.size ≤ 30) := Lib.hid (by omega)
    have HB := Lib.hid (HB1.out.trans (hb.mono HB1.out.size))
    clear hT hz hb
    go_wp2
    go_ret
    exact ⟨_, rfl, HN.out, HZ.out, HB.out⟩
/-- show.opening, as a text. -/
def opnB (nm : ByteArray) : ByteArray := if nm = ⟨#[]⟩ then ⟨#[40]⟩ else ((⟨#[40, 63, 80, 60]⟩ : ByteArray) ++ nm) ++ (⟨#[62]⟩ : ByteArray)
theorem opB_nums (nm : ByteArray) : Utf.nums (opnB nm) = Sh.openL nm := by
  unfold opnB Sh.openL
  split
  · rfl
  · rw [Br.nums_append', Br.nums_append']; rfl
theorem opB_size (nm : ByteArray) (h : nm.size ≤ 100) : (opnB nm).size ≤ 105 := by
  unfold opnB
  split
  · show 1 ≤ 105; decide
  · rw [ByteArray.size_append, ByteArray.size_append]; show 4 + nm.size + 1 ≤ 105; omega
set_option maxRecDepth 100000 in
set_option maxHeartbeats 4000000 in
theorem opening_show (W : World) (nm : ByteArray) (h : nm.size ≤ 100) : Calls Tryz.prog 50 #[.string nm] W fun e w' => e = .returned (.string (opnB nm)) ∧ W = w' := by
  by_cases h0 : nm = ⟨#[]⟩
  · subst h0
    go_enter Tryz.func50, Tryz.ntmps50
    go_wp2
    go_ret
    exact ⟨rfl, rfl⟩
  · have h0b : (nm.toList == ([] : List UInt8)) = false := by
      rw [beq_eq_false_iff_ne]
      intro e
      apply h0
      rw [ByteArray.toList_eq] at e
      cases nm with
      | mk d => exact congrArg ByteArray.mk (Array.toList_inj.1 (by simpa using e))
    have h0c : ¬ nm = ByteArray.empty := h0
    have n1 : ¬ 9223372036854775807 < 4 + nm.size := by omega
    have hP : ((⟨#[40, 63, 80, 60]⟩ : ByteArray) ++ nm).size = 4 + nm.size := ByteArray.size_append ..
    have n2 : ¬ 9223372036854775807 < ((⟨#[40, 63, 80, 60]⟩ : ByteArray) ++ nm).size + 1 := by omega
    have n3 : ¬ 9223372036854775807 < 4 + nm.size + 1 := by omega
    have HO : Hid (opnB nm = ((⟨#[40, 63, 80, 60]⟩ : ByteArray) ++ nm) ++ (⟨#[62]⟩ : ByteArray)) := Lib.hid (by unfold opnB; rw [if_neg h0])
    clear h0 hP
    go_enter Tryz.func50, Tryz.ntmps50
    go_wp2
    go_ret
    exact ⟨by rw [HO.out]; rfl, rfl⟩
set_option maxRecDepth 100000 in
set_option maxHeartbeats 4000000 in
theorem assertion_show (W : World) (n : Int) (h : 1 ≤ n ∧ n ≤ 6) : Calls Tryz.prog 48 #[.int .i64 n] W fun e w' => ∃ T : ByteArray, e = .returned (.string T) ∧ Utf.nums T = Sh.aboutL n ∧ T.size ≤ 6 ∧ W = w' := by
  rcases (show n = 1 ∨ n = 2 ∨ n = 3 ∨ n = 4 ∨ n = 5 ∨ n = 6 by omega) with rfl | rfl | rfl | rfl | rfl | rfl
  · have hix : ∀ w, (Instr.index 112 (.agg #[.string ⟨#[]⟩, .string ⟨#[92, 65]⟩, .string ⟨#[92, 122]⟩, .string ⟨#[40, 63, 109, 58, 94, 41]⟩, .string ⟨#[40, 63, 109, 58, 36, 41]⟩, .string ⟨#[92, 98]⟩, .string ⟨#[92, 66]⟩]) (.int .i64 1)).run Tryz.prog w = .ok (.string ⟨#[92, 65]⟩) w := fun w => by kernel_rfl
    go_enter Tryz.func48, Tryz.ntmps48
    go_wp2
    go_ret
    exact ⟨_, rfl, rfl, by decide, rfl⟩
  · have hix : ∀ w, (Instr.index 112 (.agg #[.string ⟨#[]⟩, .string ⟨#[92, 65]⟩, .string ⟨#[92, 122]⟩, .string ⟨#[40, 63, 109, 58, 94, 41]⟩, .string ⟨#[40, 63, 109, 58, 36, 41]⟩, .string ⟨#[92, 98]⟩, .string ⟨#[92, 66]⟩]) (.int .i64 2)).run Tryz.prog w = .ok (.string ⟨#[92, 122]⟩) w := fun w => by kernel_rfl
    go_enter Tryz.func48, Tryz.ntmps48
    go_wp2
    go_ret
    exact ⟨_, rfl, rfl, by decide, rfl⟩
  · have hix : ∀ w, (Instr.index 112 (.agg #[.string ⟨#[]⟩, .string ⟨#[92, 65]⟩, .string ⟨#[92, 122]⟩, .string ⟨#[40, 63, 109, 58, 94, 41]⟩, .string ⟨#[40, 63, 109, 58, 36, 41]⟩, .string ⟨#[92, 98]⟩, .string ⟨#[92, 66]⟩]) (.int .i64 3)).run Tryz.prog w = .ok (.string ⟨#[40, 63, 109, 58, 94, 41]⟩) w := fun w => by kernel_rfl
    go_enter Tryz.func48, Tryz.ntmps48
    go_wp2
    go_ret
    exact ⟨_, rfl, rfl, by decide, rfl⟩
  · have hix : ∀ w, (Instr.index 112 (.agg #[.string ⟨#[]⟩, .string ⟨#[92, 65]⟩, .string ⟨#[92, 122]⟩, .string ⟨#[40, 63, 109, 58, 94, 41]⟩, .string ⟨#[40, 63, 109, 58, 36, 41]⟩, .string ⟨#[92, 98]⟩, .string ⟨#[92, 66]⟩]) (.int .i64 4)).run Tryz.prog w = .ok (.string ⟨#[40, 63, 109, 58, 36, 41]⟩) w := fun w => by kernel_rfl
    go_enter Tryz.func48, Tryz.ntmps48
    go_wp2
    go_ret
    exact ⟨_, rfl, rfl, by decide, rfl⟩
  · have hix : ∀ w, (Instr.index 112 (.agg #[.string ⟨#[]⟩, .string ⟨#[92, 65]⟩, .string ⟨#[92, 122]⟩, .string ⟨#[40, 63, 109, 58, 94, 41]⟩, .string ⟨#[40, 63, 109, 58, 36, 41]⟩, .string ⟨#[92, 98]⟩, .string ⟨#[92, 66]⟩]) (.int .i64 5)).run Tryz.prog w = .ok (.string ⟨#[92, 98]⟩) w := fun w => by kernel_rfl
    go_enter Tryz.func48, Tryz.ntmps48
    go_wp2
    go_ret
    exact ⟨_, rfl, rfl, by decide, rfl⟩
  · have hix : ∀ w, (Instr.index 112 (.agg #[.string ⟨#[]⟩, .string ⟨#[92, 65]⟩, .string ⟨#[92, 122]⟩, .string ⟨#[40, 63, 109, 58, 94, 41]⟩, .string ⟨#[40, 63, 109, 58, 36, 41]⟩, .string ⟨#[92, 98]⟩, .string ⟨#[92, 66]⟩]) (.int .i64 6)).run Tryz.prog w = .ok (.string ⟨#[92, 66]⟩) w := fun w => by kernel_rfl
    go_enter Tryz.func48, Tryz.ntmps48
    go_wp2
    go_ret
    exact ⟨_, rfl, rfl, by decide, rfl⟩
theorem ascii_enc (n : Nat) (h : n < 128) : Utf.nums (Utf8.encode (n : Int)) = [(n : Int)] := by
  have hk : ∀ k : Fin 128, Utf.nums (Utf8.encode ((k.1 : Nat) : Int)) = [((k.1 : Nat) : Int)] := by decide +kernel
  exact hk ⟨n, h⟩
set_option maxRecDepth 100000 in
set_option maxHeartbeats 4000000 in
theorem character_show (W : World) (n : Nat) (hn : n ≤ 1114111) (hE : EvS W) : Calls Tryz.prog 74 #[.int .i64 (n : Int)] W fun e w' => ∃ T : ByteArray, e = .returned (.string T) ∧ Utf.nums T = Sh.charL n ∧ T.size ≤ 20 ∧ Below W.heap.size W w' := by
  have HC := Lib.hid (escape_show W n hn hE.tz)
  clear hE
  by_cases h : (48 ≤ (n : Int) ∧ (n : Int) ≤ 57) ∨ (65 ≤ (n : Int) ∧ (n : Int) ≤ 90) ∨ (97 ≤ (n : Int) ∧ (n : Int) ≤ 122)
  · have HL : Hid (Utf.nums (Utf8.encode (n : Int)) = Sh.charL n) := Lib.hid (by unfold Sh.charL; rw [if_pos h]; exact ascii_enc n (by omega))
    have HZ : Hid ((Utf8.encode (n : Int)).size ≤ 20) := Lib.hid (by rw [← Utf.nums_length, ascii_enc n (by omega)]; show 1 ≤ 20; decide)
    rcases h with ⟨h1, h2⟩ | ⟨h1, h2⟩ | ⟨h1, h2⟩
    · go_enter Tryz.func74, Tryz.ntmps74
      go_wp2
      go_ret
      exact ⟨_, rfl, HL.out, HZ.out, Below.refl _ _⟩
    · have g1 : 48 ≤ (n : Int) := by omega
      have g2 : ¬ (n : Int) ≤ 57 := by omega
      go_enter Tryz.func74, Tryz.ntmps74
      go_wp2
      go_ret
      exact ⟨_, rfl, HL.out, HZ.out, Below.refl _ _⟩
    · have g1 : 48 ≤ (n : Int) := by omega
      have g2 : ¬ (n : Int) ≤ 57 := by omega
      have g3 : 65 ≤ (n : Int) := by omega
      have g4 : ¬ (n : Int) ≤ 90 := by omega
      go_enter Tryz.func74, Tryz.ntmps74
      go_wp2
      go_ret
      exact ⟨_, rfl, HL.out, HZ.out, Below.refl _ _⟩
  · have HL : Hid (Sh.charL n = Br.esc n) := Lib.hid (by unfold Sh.charL; rw [if_neg h, Int.toNat_natCast])
    have h6 := Br.hexL6 hn
    have HSZ : Hid ((Br.esc n).length ≤ 20) := Lib.hid (by rw [Br.esc_len]; omega)
    have hd : (¬ 48 ≤ (n : Int) ∧ ¬ 65 ≤ (n : Int) ∧ ¬ 97 ≤ (n : Int)) ∨ (48 ≤ (n : Int) ∧ ¬ (n : Int) ≤ 57 ∧ ¬ 65 ≤ (n : Int) ∧ ¬ 97 ≤ (n : Int)) ∨ (48 ≤ (n : Int) ∧ ¬ (n : Int) ≤ 57 ∧ 65 ≤ (n : Int) ∧ ¬ (n : Int) ≤ 90 ∧ ¬ 97 ≤ (n : Int)) ∨ (48 ≤ (n : Int) ∧ ¬ (n : Int) ≤ 57 ∧ 65 ≤ (n : Int) ∧ ¬ (n : Int) ≤ 90 ∧ 97 ≤ (n : Int) ∧ ¬ (n : Int) ≤ 122) := by omega
    clear h h6
    rcases hd with ⟨g1, g2, g3⟩ | ⟨g1, g2, g3, g4⟩ | ⟨g1, g2, g3, g4, g5⟩ | ⟨g1, g2, g3, g4, g5, g6⟩
    · go_enter Tryz.func74, Tryz.ntmps74
      go_wp2_with fail
      refine HC.out.mono ?_
      rintro e w' ⟨T, rfl, hT, hb⟩
      have HT := Lib.hid hT
      have HB := Lib.hid hb
      clear hT hb
      go_wp2
      go_ret
      exact ⟨_, rfl, by rw [HL.out]; exact HT.out, by rw [← Utf.nums_length, HT.out]; exact HSZ.out, HB.out⟩
    · go_enter Tryz.func74, Tryz.ntmps74
      go_wp2_with fail
      refine HC.out.mono ?_
      rintro e w' ⟨T, rfl, hT, hb⟩
      have HT := Lib.hid hT
      have HB := Lib.hid hb
      clear hT hb
      go_wp2
      go_ret
      exact ⟨_, rfl, by rw [HL.out]; exact HT.out, by rw [← Utf.nums_length, HT.out]; exact HSZ.out, HB.out⟩
    · go_enter Tryz.func74, Tryz.ntmps74
      go_wp2_with fail
      refine HC.out.mono ?_
      rintro e w' ⟨T, rfl, hT, hb⟩
      have HT := Lib.hid hT
      have HB := Lib.hid hb
      clear hT hb
      go_wp2
      go_ret
      exact ⟨_, rfl, by rw [HL.out]; exact HT.out, by rw [← Utf.nums_length, HT.out]; exact HSZ.out, HB.out⟩
    · go_enter Tryz.func74, Tryz.ntmps74
      go_wp2_with fail
      refine HC.out.mono ?_
      rintro e w' ⟨T, rfl, hT, hb⟩
      have HT := Lib.hid hT
      have HB := Lib.hid hb
      clear hT hb
      go_wp2
      go_ret
      exact ⟨_, rfl, by rw [HL.out]; exact HT.out, by rw [← Utf.nums_length, HT.out]; exact HSZ.out, HB.out⟩

end Go.Proofs.YtanffablfgnioaaGreatDoor
