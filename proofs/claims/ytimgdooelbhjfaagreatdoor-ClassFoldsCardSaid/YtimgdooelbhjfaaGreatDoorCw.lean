/- burinlaw04.works (the chapter's example) and burinlaw04.set. -/
import Derived.Test.YtimgdooelbhjfaaGreatDoorCpF
import Derived.Test.YtimgdooelbhjfaaGreatDoorCpG
namespace Go.Proofs.YtimgdooelbhjfaaGreatDoor
open Go.RowKit Go.Shelf
set_option linter.unusedVariables false
theorem rrow_2 (W : World) (x y z u : Int) (h : ∀ t ∈ [x, y, z, u], 0 ≤ t ∧ t ≤ 1114111) (t : TypeId) : RRow (W.alloc (.cells #[.int .i64 x, .int .i64 y, .int .i64 z, .int .i64 u] t)) (.slice (some ⟨W.heap.size, 0, none⟩) 2 2) [(x, y), (z, u)] :=
  ⟨_, 2, rfl, by simp, (fun p hp => by
    have h1 := h x (by simp); have h2 := h y (by simp); have h3 := h z (by simp); have h4 := h u (by simp)
    simp at hp; rcases hp with rfl | rfl <;> (dsimp only; omega)), fun j hj => by
    have hj2 : j < 2 := by simpa using hj
    match j, hj2 with
    | 0, _ => exact ⟨W.heap.size, 0, rfl, by simp, by simp, by simp⟩
    | 1, _ => exact ⟨W.heap.size, 0, rfl, by simp, by simp, by simp⟩⟩
theorem ex_not : Cl.ClassIs (some (true, [48, 57])) [(0, 47), (58, 1114111)] 0 := by
  refine ⟨rfl, ⟨by decide, by decide, by decide, by decide, by decide, by decide, trivial⟩, fun q h0 h1 => ?_⟩
  rw [Bool.eq_iff_iff]
  simp [Rg.hasB, Cl.pairsOf]
  omega
theorem same_rg_b (W : World) (va vb : Value) (l m : List (Int × Int)) (ha : RRow W va l) (hb : RRow W vb m) (B : Bool) (hB : decide (l = m) = B) :
    Calls Tryz.prog 13 #[va, vb] W fun e W' => e = .returned (.bool B) ∧ Below W.heap.size W W' :=
  (same_rg W va vb l m ha hb).mono fun _ _ ⟨h1, d, h2⟩ => ⟨by rw [h1, hB], by rw [h2]; exact below_drewN (Below.refl _ _) d⟩
set_option maxRecDepth 100000 in
set_option maxHeartbeats 4000000 in
theorem works_any (W : World) (htab : Spaces W) : Calls Tryz.prog 17 #[] W fun e w' => e = .returned (.bool true) ∧ Below W.heap.size W w' := by
  have HS := Lib.hid htab
  clear htab
  go_enter Tryz.func17, Tryz.ntmps17
  go_wp2_with fail
  refine (cColon_any _ _ HS.out).mono ?_
  rintro e w1 ⟨v1, o1, c1, rfl, hc, ho, hb⟩
  rw [show Cl.lookC Cl.colonT (⟨#[94, 100, 105, 103, 105, 116]⟩ : ByteArray).data.toList = some (true, [48, 57]) by decide +kernel] at hc
  obtain ⟨rfl, rfl⟩ := Cl.classIs_unique hc ex_not
  have HN1 := Lib.hid (ho.normRow hc.2.1)
  have HB1 := Lib.hid hb
  have HS1 := Lib.hid (HS.out.below (Nat.le_refl _) hb)
  clear hc ho hb
  go_wp2_with fail
  refine (cLetter_any _ _ HS1.out).mono ?_
  rintro e w2 ⟨v2, o2, c2, rfl, hc, ho, hb⟩
  rw [show Cl.letterX 120 = none by decide] at hc
  obtain ⟨rfl, rfl⟩ := hc
  have HN2 := Lib.hid (HN1.out.below (Nat.le_refl _) hb)
  have HB2 := Lib.hid (HB1.out.trans (hb.mono HB1.out.size))
  have HS2 := Lib.hid (HS1.out.below (Nat.le_refl _) hb)
  clear ho hb HN1
  go_wp2_with fail
  have HB3 := Lib.hid (HB2.out.alloc HB2.out.size (.cells #[.int .i64 0, .int .i64 47, .int .i64 58, .int .i64 1114111] 42))
  refine (same_rg_b _ _ _ _ _ (HN2.out.below (Nat.le_refl _) ((Below.refl w2.heap.size w2).alloc (Nat.le_refl _) _)) (rrow_2 w2 0 47 58 1114111 (by decide) 42) true (by decide)).mono ?_
  rintro e w3 ⟨rfl, hb⟩
  have HB4 := Lib.hid (HB3.out.trans (hb.mono HB3.out.size))
  clear hb
  go_wp2_with fail
  refine (cNames_any _).mono ?_
  rintro e w4 ⟨v4, rfl, ht, hb⟩
  have HB5 := Lib.hid (HB4.out.trans (hb.mono HB4.out.size))
  obtain ⟨a, cap, rfl, _⟩ := ht
  rw [show namesL.length = 8 from rfl]
  clear hb
  go_wp2
  go_ret
  exact ⟨rfl, HB5.out⟩
/-- The class of a name, between colons or, if there is none, as a property. -/
def setX (s : List UInt8) : Option (Bool × List Int) := match Cl.lookC Cl.colonT s with | some x => some x | none => Cl.lookC Cl.propT s
set_option maxRecDepth 100000 in
set_option maxHeartbeats 4000000 in
theorem set_any (W : World) (s : ByteArray) (T : List Int) (hX : setX s.data.toList = some (false, T)) (htab : Spaces W) : Calls Tryz.prog 21 #[.string s] W fun e w' =>
    ∃ v out, e = .returned v ∧ Cl.ClassIs (some (false, T)) out 0 ∧ RgOwn w' W.heap.size v out ∧ Below W.heap.size W w' := by
  have HS := Lib.hid htab
  clear htab
  unfold setX at hX
  cases hc : Cl.lookC Cl.colonT s.data.toList with
  | some x =>
    rw [hc] at hX
    cases hX
    have HC := Lib.hid hc
    clear hc
    go_enter Tryz.func21, Tryz.ntmps21
    go_wp2_with fail
    refine (cColon_any _ _ HS.out).mono ?_
    rintro e w1 ⟨v1, o1, c1, rfl, h1, ho, hb⟩
    rw [HC.out] at h1
    obtain rfl := h1.1
    have H1 := Lib.hid h1
    have HO := Lib.hid ho
    have HB := Lib.hid hb
    clear h1 ho hb
    go_wp2
    go_ret
    exact ⟨v1, o1, rfl, H1.out, HO.out, HB.out⟩
  | none =>
    rw [hc] at hX
    have HX := Lib.hid hX
    have HC := Lib.hid hc
    clear hc hX
    go_enter Tryz.func21, Tryz.ntmps21
    go_wp2_with fail
    refine (cColon_any _ _ HS.out).mono ?_
    rintro e w1 ⟨v1, o1, c1, rfl, h1, ho, hb⟩
    rw [HC.out] at h1
    obtain rfl := h1.2
    have HB := Lib.hid hb
    have HS1 := Lib.hid (HS.out.below (Nat.le_refl _) hb)
    clear h1 ho hb
    go_wp2_with fail
    refine (cProp_any _ _ HS1.out).mono ?_
    rintro e w2 ⟨v2, o2, c2, rfl, h1, ho, hb⟩
    have h1 : Cl.ClassIs (Cl.lookC Cl.propT s.data.toList) o2 c2 := h1
    have h2 : Cl.lookC Cl.propT s.data.toList = some (false, T) := HX.out
    rw [h2] at h1
    obtain rfl := h1.1
    have H1 := Lib.hid h1
    have HO := Lib.hid (ho.lower HB.out.size)
    have HB2 := Lib.hid (HB.out.trans (hb.mono HB.out.size))
    clear h1 ho hb h2
    go_wp2
    go_ret
    exact ⟨v2, o2, rfl, H1.out, HO.out, HB2.out⟩
theorem has_rg (W : World) (v : Value) (l : List (Int × Int)) (r : Int) (B : Bool) (hB : Rg.hasB l r = B) (h : RRow W v l) :
    Calls Tryz.prog 20 #[v, .int .i64 r] W fun e w' => e = .returned (.bool B) ∧ Below W.heap.size W w' := by rw [← hB]; exact has_any W v l r h
end Go.Proofs.YtimgdooelbhjfaaGreatDoor
