/- The reference's class (burinref04): the contracts of Letter, Colon and Property. -/
import Derived.Test.YtmdpchiiamgnnaaGreatDoorGp25
import Derived.Test.YtmdpchiiamgnnaaGreatDoorGp13
namespace Go.Proofs.YtmdpchiiamgnnaaGreatDoor
open Go.RowKit
set_option linter.unusedVariables false
def tabOk (T : List (List UInt8 × List Int)) : Bool := T.all fun e => (e.2.all fun t => decide (0 ≤ t) && decide (t ≤ 1114112)) && decide (e.2.length ≤ 1000)
theorem tab_colon : tabOk Cl.colonT = true := by decide +kernel
theorem tab_prop : tabOk Cl.propT = true := by decide +kernel
theorem look_ok {T : List (List UInt8 × List Int)} (hT : tabOk T = true) {s : List UInt8} {n : List Int} (h : Cl.look T s = some n) : (∀ t ∈ n, 0 ≤ t ∧ t ≤ 1114112) ∧ n.length ≤ 1000 := by
  unfold Cl.look at h
  cases hf : T.find? fun e => s == e.1 with
  | none => rw [hf] at h; cases h
  | some e =>
    rw [hf] at h
    injection h with h
    subst h
    have hm := List.all_eq_true.1 hT e (List.mem_of_find?_eq_some hf)
    simp only [Bool.and_eq_true, List.all_eq_true, decide_eq_true_eq] at hm
    exact ⟨hm.1, hm.2⟩
set_option maxRecDepth 100000 in
set_option maxHeartbeats 4000000 in
theorem letter_any (W : World) (c : Int) : Calls Tryz.prog 83 #[.int .u8 c] W (ClassPost (Cl.letterX c) W) := by
  by_cases h100 : c = 100
  · subst h100
    have HX : Hid (Cl.letterX 100 = some (false, [48, 57])) := Lib.hid (by decide)
    go_enter Tryz.func83, Tryz.ntmps83
    go_wp2_with fail
    have hr := (own_lits W [48, 57] 2 _ rfl rfl (by decide)).row
    have D0 := Lib.hid ((Below.refl W.heap.size W).alloc (Nat.le_refl _) (.cells (([48, 57] : List Int).map (Value.int .i64)).toArray 3))
    refine (list_any _ _ [48, 57] hr (by decide) (by decide)).mono ?_
    rintro e w1 ⟨v1, o1, rfl, hm, ho, hb⟩
    have D1 := Lib.hid (D0.out.trans (hb.mono D0.out.size))
    have M1 := Lib.hid hm
    have O1 := Lib.hid (ho.lower D0.out.size)
    clear hm ho hb hr
    go_wp2
    go_ret2
    exact ⟨v1, o1, 0, rfl, by rw [HX.out]; exact Cl.classIs_yes M1.out, O1.out, D1.out⟩
  by_cases h68 : c = 68
  · subst h68
    have HX : Hid (Cl.letterX 68 = some (true, [48, 57])) := Lib.hid (by decide)
    go_enter Tryz.func83, Tryz.ntmps83
    go_wp2_with fail
    have hr := (own_lits W [48, 57] 2 _ rfl rfl (by decide)).row
    have D0 := Lib.hid ((Below.refl W.heap.size W).alloc (Nat.le_refl _) (.cells (([48, 57] : List Int).map (Value.int .i64)).toArray 3))
    refine (list_any _ _ [48, 57] hr (by decide) (by decide)).mono ?_
    rintro e w1 ⟨v1, o1, rfl, hm, ho, hb⟩
    have D1 := Lib.hid (D0.out.trans (hb.mono D0.out.size))
    have M1 := Lib.hid hm
    have R1 := Lib.hid (ho.normRow hm.norm)
    clear hm ho hb hr
    go_wp2_with fail
    refine (refNot _ _ _ R1.out).mono ?_
    rintro e w2 ⟨v2, o2, rfl, hm, ho, hb⟩
    have M2 := Lib.hid hm
    have O2 := Lib.hid (ho.lower D1.out.size)
    have D2 := Lib.hid (D1.out.trans (hb.mono D1.out.size))
    clear hm ho hb
    go_wp2
    go_ret2
    exact ⟨v2, o2, 0, rfl, by rw [HX.out]; exact Cl.classIs_not M1.out M2.out, O2.out, D2.out⟩
  by_cases h115 : c = 115
  · subst h115
    have HX : Hid (Cl.letterX 115 = some (false, [9, 10, 12, 13, 32, 32])) := Lib.hid (by decide)
    go_enter Tryz.func83, Tryz.ntmps83
    go_wp2_with fail
    have hr := (own_lits W [9, 10, 12, 13, 32, 32] 6 _ rfl rfl (by decide)).row
    have D0 := Lib.hid ((Below.refl W.heap.size W).alloc (Nat.le_refl _) (.cells (([9, 10, 12, 13, 32, 32] : List Int).map (Value.int .i64)).toArray 3))
    refine (list_any _ _ [9, 10, 12, 13, 32, 32] hr (by decide) (by decide)).mono ?_
    rintro e w1 ⟨v1, o1, rfl, hm, ho, hb⟩
    have D1 := Lib.hid (D0.out.trans (hb.mono D0.out.size))
    have M1 := Lib.hid hm
    have O1 := Lib.hid (ho.lower D0.out.size)
    clear hm ho hb hr
    go_wp2
    go_ret2
    exact ⟨v1, o1, 0, rfl, by rw [HX.out]; exact Cl.classIs_yes M1.out, O1.out, D1.out⟩
  by_cases h83 : c = 83
  · subst h83
    have HX : Hid (Cl.letterX 83 = some (true, [9, 10, 12, 13, 32, 32])) := Lib.hid (by decide)
    go_enter Tryz.func83, Tryz.ntmps83
    go_wp2_with fail
    have hr := (own_lits W [9, 10, 12, 13, 32, 32] 6 _ rfl rfl (by decide)).row
    have D0 := Lib.hid ((Below.refl W.heap.size W).alloc (Nat.le_refl _) (.cells (([9, 10, 12, 13, 32, 32] : List Int).map (Value.int .i64)).toArray 3))
    refine (list_any _ _ [9, 10, 12, 13, 32, 32] hr (by decide) (by decide)).mono ?_
    rintro e w1 ⟨v1, o1, rfl, hm, ho, hb⟩
    have D1 := Lib.hid (D0.out.trans (hb.mono D0.out.size))
    have M1 := Lib.hid hm
    have R1 := Lib.hid (ho.normRow hm.norm)
    clear hm ho hb hr
    go_wp2_with fail
    refine (refNot _ _ _ R1.out).mono ?_
    rintro e w2 ⟨v2, o2, rfl, hm, ho, hb⟩
    have M2 := Lib.hid hm
    have O2 := Lib.hid (ho.lower D1.out.size)
    have D2 := Lib.hid (D1.out.trans (hb.mono D1.out.size))
    clear hm ho hb
    go_wp2
    go_ret2
    exact ⟨v2, o2, 0, rfl, by rw [HX.out]; exact Cl.classIs_not M1.out M2.out, O2.out, D2.out⟩
  by_cases h119 : c = 119
  · subst h119
    have HX : Hid (Cl.letterX 119 = some (false, Cl.word)) := Lib.hid (by decide)
    go_enter Tryz.func83, Tryz.ntmps83
    go_wp2_with fail
    refine (word_any _).mono ?_
    rintro e w0 ⟨v0, rfl, ho0, hb0⟩
    have hr := ho0.row
    have D0 := Lib.hid hb0
    clear ho0 hb0
    go_wp2_with fail
    refine (list_any _ _ Cl.word hr (by decide) (by decide)).mono ?_
    rintro e w1 ⟨v1, o1, rfl, hm, ho, hb⟩
    have D1 := Lib.hid (D0.out.trans (hb.mono D0.out.size))
    have M1 := Lib.hid hm
    have O1 := Lib.hid (ho.lower D0.out.size)
    clear hm ho hb hr
    go_wp2
    go_ret2
    exact ⟨v1, o1, 0, rfl, by rw [HX.out]; exact Cl.classIs_yes M1.out, O1.out, D1.out⟩
  by_cases h87 : c = 87
  · subst h87
    have HX : Hid (Cl.letterX 87 = some (true, Cl.word)) := Lib.hid (by decide)
    go_enter Tryz.func83, Tryz.ntmps83
    go_wp2_with fail
    refine (word_any _).mono ?_
    rintro e w0 ⟨v0, rfl, ho0, hb0⟩
    have hr := ho0.row
    have D0 := Lib.hid hb0
    clear ho0 hb0
    go_wp2_with fail
    refine (list_any _ _ Cl.word hr (by decide) (by decide)).mono ?_
    rintro e w1 ⟨v1, o1, rfl, hm, ho, hb⟩
    have D1 := Lib.hid (D0.out.trans (hb.mono D0.out.size))
    have M1 := Lib.hid hm
    have R1 := Lib.hid (ho.normRow hm.norm)
    clear hm ho hb hr
    go_wp2_with fail
    refine (refNot _ _ _ R1.out).mono ?_
    rintro e w2 ⟨v2, o2, rfl, hm, ho, hb⟩
    have M2 := Lib.hid hm
    have O2 := Lib.hid (ho.lower D1.out.size)
    have D2 := Lib.hid (D1.out.trans (hb.mono D1.out.size))
    clear hm ho hb
    go_wp2
    go_ret2
    exact ⟨v2, o2, 0, rfl, by rw [HX.out]; exact Cl.classIs_not M1.out M2.out, O2.out, D2.out⟩
  have q100 : (c == 100) = false := beq_eq_false_iff_ne.2 h100
  have q68 : (c == 68) = false := beq_eq_false_iff_ne.2 h68
  have q115 : (c == 115) = false := beq_eq_false_iff_ne.2 h115
  have q83 : (c == 83) = false := beq_eq_false_iff_ne.2 h83
  have q119 : (c == 119) = false := beq_eq_false_iff_ne.2 h119
  have q87 : (c == 87) = false := beq_eq_false_iff_ne.2 h87
  have HX : Hid (Cl.letterX c = none) := Lib.hid (by unfold Cl.letterX; simp [h100, h68, h115, h83, h119, h87])
  clear h100 h68 h115 h83 h119 h87
  go_enter Tryz.func83, Tryz.ntmps83
  go_wp2
  go_ret2
  exact ⟨_, [], 70, rfl, by rw [HX.out]; exact ⟨rfl, rfl⟩, RgOwn.nil, Below.refl _ _⟩
set_option maxRecDepth 100000 in
set_option maxHeartbeats 4000000 in
theorem refColon_any (W : World) (s : ByteArray) (hm : s.size ≤ 9223372036854775807) : Calls Tryz.prog 47 #[.string s] W (ClassPost (Cl.lookC Cl.colonT s.toList) W) := by
  have HB := Lib.hid (bare_any W s hm)
  unfold Cl.lookC
  obtain ⟨N, hN⟩ : ∃ N, Cl.bare s.toList = N := ⟨_, rfl⟩
  rw [hN] at HB ⊢
  obtain ⟨own, lacks⟩ := N
  obtain ⟨o, ho⟩ : ∃ o, Cl.look Cl.colonT own = o := ⟨_, rfl⟩
  have HO := Lib.hid ho
  try dsimp only
  rw [ho]
  clear ho hN
  go_enter Tryz.func47, Tryz.ntmps47
  go_wp2_with fail
  refine HB.out.mono ?_
  rintro e w0 ⟨t, rfl, ht, _, rfl⟩
  try dsimp only at ht
  have HT := Lib.hid ht
  clear ht
  go_wp2_with fail
  refine (colon_any _ t).mono ?_
  rintro e w1 ⟨v1, o1, hl, rfl, hr, hb⟩
  have he : o1 = o := by rw [← hl, HT.out, HO.out]
  subst he
  have HR := Lib.hid hr
  have D1 := Lib.hid hb
  clear hl hr hb
  cases o1 with
  | none =>
    go_wp2
    go_ret2
    exact ⟨_, [], 70, rfl, ⟨rfl, rfl⟩, RgOwn.nil, D1.out⟩
  | some n =>
    obtain ⟨hk1, hk2⟩ := look_ok tab_colon HO.out
    have HK := Lib.hid hk1
    clear hk1
    cases lacks with
    | false =>
      go_wp2_with fail
      refine (list_any _ _ n HR.out HK.out hk2).mono ?_
      rintro e w2 ⟨v2, o2, rfl, hm, ho, hb⟩
      have M2 := Lib.hid hm
      have O2 := Lib.hid (ho.lower D1.out.size)
      have D2 := Lib.hid (D1.out.trans (hb.mono D1.out.size))
      clear hm ho hb
      go_wp2
      go_ret2
      exact ⟨v2, o2, 0, rfl, Cl.classIs_yes M2.out, O2.out, D2.out⟩
    | true =>
      go_wp2_with fail
      refine (list_any _ _ n HR.out HK.out hk2).mono ?_
      rintro e w2 ⟨v2, o2, rfl, hm, ho, hb⟩
      have M2 := Lib.hid hm
      have R2 := Lib.hid (ho.normRow hm.norm)
      have D2 := Lib.hid (D1.out.trans (hb.mono D1.out.size))
      clear hm ho hb
      go_wp2_with fail
      refine (refNot _ _ _ R2.out).mono ?_
      rintro e w3 ⟨v3, o3, rfl, hm, ho, hb⟩
      have M3 := Lib.hid hm
      have O3 := Lib.hid (ho.lower D2.out.size)
      have D3 := Lib.hid (D2.out.trans (hb.mono D2.out.size))
      clear hm ho hb
      go_wp2
      go_ret2
      exact ⟨v3, o3, 0, rfl, Cl.classIs_not M2.out M3.out, O3.out, D3.out⟩
set_option maxRecDepth 100000 in
set_option maxHeartbeats 4000000 in
theorem refProp_any (W : World) (s : ByteArray) (hm : s.size ≤ 9223372036854775807) : Calls Tryz.prog 85 #[.string s] W (ClassPost (Cl.lookC Cl.propT s.toList) W) := by
  have HB := Lib.hid (bare_any W s hm)
  unfold Cl.lookC
  obtain ⟨N, hN⟩ : ∃ N, Cl.bare s.toList = N := ⟨_, rfl⟩
  rw [hN] at HB ⊢
  obtain ⟨own, lacks⟩ := N
  obtain ⟨o, ho⟩ : ∃ o, Cl.look Cl.propT own = o := ⟨_, rfl⟩
  have HO := Lib.hid ho
  try dsimp only
  rw [ho]
  clear ho hN
  go_enter Tryz.func85, Tryz.ntmps85
  go_wp2_with fail
  refine HB.out.mono ?_
  rintro e w0 ⟨t, rfl, ht, _, rfl⟩
  try dsimp only at ht
  have HT := Lib.hid ht
  clear ht
  go_wp2_with fail
  refine (prop_any _ t).mono ?_
  rintro e w1 ⟨v1, o1, hl, rfl, hr, hb⟩
  have he : o1 = o := by rw [← hl, HT.out, HO.out]
  subst he
  have HR := Lib.hid hr
  have D1 := Lib.hid hb
  clear hl hr hb
  cases o1 with
  | none =>
    go_wp2
    go_ret2
    exact ⟨_, [], 70, rfl, ⟨rfl, rfl⟩, RgOwn.nil, D1.out⟩
  | some n =>
    obtain ⟨hk1, hk2⟩ := look_ok tab_prop HO.out
    have HK := Lib.hid hk1
    clear hk1
    cases lacks with
    | false =>
      go_wp2_with fail
      refine (list_any _ _ n HR.out HK.out hk2).mono ?_
      rintro e w2 ⟨v2, o2, rfl, hm, ho, hb⟩
      have M2 := Lib.hid hm
      have O2 := Lib.hid (ho.lower D1.out.size)
      have D2 := Lib.hid (D1.out.trans (hb.mono D1.out.size))
      clear hm ho hb
      go_wp2
      go_ret2
      exact ⟨v2, o2, 0, rfl, Cl.classIs_yes M2.out, O2.out, D2.out⟩
    | true =>
      go_wp2_with fail
      refine (list_any _ _ n HR.out HK.out hk2).mono ?_
      rintro e w2 ⟨v2, o2, rfl, hm, ho, hb⟩
      have M2 := Lib.hid hm
      have R2 := Lib.hid (ho.normRow hm.norm)
      have D2 := Lib.hid (D1.out.trans (hb.mono D1.out.size))
      clear hm ho hb
      go_wp2_with fail
      refine (refNot _ _ _ R2.out).mono ?_
      rintro e w3 ⟨v3, o3, rfl, hm, ho, hb⟩
      have M3 := Lib.hid hm
      have O3 := Lib.hid (ho.lower D2.out.size)
      have D3 := Lib.hid (D2.out.trans (hb.mono D2.out.size))
      clear hm ho hb
      go_wp2
      go_ret2
      exact ⟨v3, o3, 0, rfl, Cl.classIs_not M2.out M3.out, O3.out, D3.out⟩
end Go.Proofs.YtmdpchiiamgnnaaGreatDoor
