/- The landed ranges: combine, for whatever is kept. -/
import Derived.Test.YtimgdooelbhjfaaGreatDoorRnV
namespace Go.Proofs.YtimgdooelbhjfaaGreatDoor
open Go.RowKit
set_option linter.unusedVariables false
theorem turns_ok {l out : List (Int × Int)} (h : Rg.ListOf l out) : (Rg.turnsN out).Pairwise (· < ·) ∧ (∀ t ∈ Rg.turnsN out, 0 ≤ t ∧ t ≤ 1114112) ∧ (Rg.turnsN out).length ≤ 2228226 ∧ (Rg.turnsN out).length % 2 = 0 := by
  have h1 := Rg.norm_len out 0 h.norm (by omega)
  have h2 := Rg.turns_len out
  exact ⟨Rg.turns_asc out 0 h.norm, Rg.turns_bd out 0 h.norm, by omega, by omega⟩
theorem odd_even {n : Nat} (h : n % 2 = 0) : Rg.odd n = false := by unfold Rg.odd; rw [h]; rfl
theorem even_odd {n : Nat} (h : Rg.odd n = false) : n % 2 = 0 := by
  unfold Rg.odd at h
  rcases Nat.mod_two_eq_zero_or_one n with h' | h'
  · exact h'
  · rw [h'] at h; cases h
set_option maxRecDepth 100000 in
set_option maxHeartbeats 2000000 in
theorem combine_any (W : World) (va vb : Value) (a b : List (Int × Int)) (g : Nat) (K : Bool → Bool → Bool) (op : Int) (hk : KeepOk g K) (hK0 : K false false = false) (hK : ∀ x y, K x y = Rg.opB op x y) (ha : RRow W va a) (hb : RRow W vb b) :
    Calls Tryz.prog 40 #[va, vb, .func (.func g) #[] #[]] W (MakePost op a b W) := by
  have HA := Lib.hid ha
  have HB := Lib.hid hb
  have HKK := Lib.hid hk
  have HK := Lib.hid hK
  have HK0 := Lib.hid hK0
  clear ha hb hk hK hK0
  go_enter Tryz.func40, Tryz.ntmps40
  go_wp2_with fail
  refine (turns_any _ _ a HA.out).mono ?_
  rintro e w1 ⟨v1, na, rfl, hna, ho1, hb1⟩
  have HNA := Lib.hid hna
  have HO1 := Lib.hid ho1
  have HB1 := Lib.hid hb1
  have HBr := Lib.hid (HB.out.below (Nat.le_refl _) hb1)
  clear hna ho1 hb1
  go_wp2_with fail
  refine (turns_any _ _ b HBr.out).mono ?_
  rintro e w2 ⟨v2, nb, rfl, hnb, ho2, hb2⟩
  have HNB := Lib.hid hnb
  have HR1 := Lib.hid (HO1.out.row.below (Nat.le_refl _) hb2)
  have HR2 := Lib.hid ho2.row
  have HB2 := Lib.hid (HB1.out.trans (hb2.mono HB1.out.size))
  clear hnb ho2 hb2
  have hta := turns_ok HNA.out
  have htb := turns_ok HNB.out
  have HTA := Lib.hid hta
  have HTB := Lib.hid htb
  clear hta htb
  go_wp2_with fail
  refine (walk_any _ _ _ (Rg.turnsN na) (Rg.turnsN nb) g K HKK.out HK0.out HR1.out HR2.out HTA.out.1 HTB.out.1 HTA.out.2.1 HTB.out.2.1 HTA.out.2.2.1 HTB.out.2.2.1).mono ?_
  rintro e w3 ⟨v3, out, rfl, hw, hl, ho3, hb3⟩
  have hev : out.length % 2 = 0 := even_odd (by rw [hw.odd, odd_even HTA.out.2.2.2, odd_even HTB.out.2.2.2]; exact HK0.out)
  have HMD := Lib.hid (Rg.made_walk HK.out HNA.out HNB.out hw hev)
  have HEV := Lib.hid hev
  have HBD := Lib.hid hw.bd
  have HR3 := Lib.hid ho3.row
  have HL : Hid (out.length ≤ 8796093022208) := Lib.hid (by have := HTA.out.2.2.1; have := HTB.out.2.2.1; omega)
  have HB3 := Lib.hid (HB2.out.trans (hb3.mono HB2.out.size))
  clear hev hw hl ho3 hb3
  go_wp2_with fail
  refine (between_any _ _ out HR3.out HBD.out HEV.out HL.out).mono ?_
  rintro e w4 ⟨v4, rfl, ho4, hb4⟩
  have HO4 := Lib.hid (ho4.lower HB3.out.size)
  have HB4 := Lib.hid (HB3.out.trans (hb4.mono HB3.out.size))
  clear ho4 hb4
  go_wp2
  go_ret
  exact ⟨_, _, rfl, HMD.out, HO4.out, HB4.out⟩
theorem rrow_one (W : World) (x y : Int) (hx : -9223372036854775808 ≤ x ∧ x ≤ 9223372036854775807) (hy : -9223372036854775808 ≤ y ∧ y ≤ 9223372036854775807) (t : TypeId) :
    RRow (W.alloc (.cells #[.int .i64 x, .int .i64 y] t)) (.slice (some ⟨W.heap.size, 0, none⟩) 1 1) [(x, y)] :=
  ⟨_, 1, rfl, by simp, (fun p hp => by simp at hp; subst hp; exact ⟨hx.1, hx.2, hy.1, hy.2⟩), fun j hj => by
    obtain rfl : j = 0 := by simpa using hj
    exact ⟨W.heap.size, 0, rfl, by simp, by simp, by simp⟩⟩
end Go.Proofs.YtimgdooelbhjfaaGreatDoor
