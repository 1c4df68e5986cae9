/- The walk of burinlaw04.ClassWithin. -/
import Derived.Test.YtimgdooelbhjfaaGreatDoorLaw04Tells
import Derived.Test.YtimgdooelbhjfaaGreatDoorRnU1
import Derived.Test.YtimgdooelbhjfaaGreatDoorRnU2
namespace Go.Proofs.YtimgdooelbhjfaaGreatDoor
open Go.RowKit Go.Shelf
set_option linter.unusedVariables false
namespace Cl
open Go.Proofs.YtimgdooelbhjfaaGreatDoor.Rg
/-- The pairs of names of which the first's class lies in the second's. -/
def withT : List (ByteArray × ByteArray) := [(⟨#[100, 105, 103, 105, 116]⟩, ⟨#[97, 108, 110, 117, 109]⟩),
  (⟨#[97, 108, 112, 104, 97]⟩, ⟨#[97, 108, 110, 117, 109]⟩),
  (⟨#[97, 108, 110, 117, 109]⟩, ⟨#[103, 114, 97, 112, 104]⟩),
  (⟨#[112, 117, 110, 99, 116]⟩, ⟨#[103, 114, 97, 112, 104]⟩),
  (⟨#[103, 114, 97, 112, 104]⟩, ⟨#[112, 114, 105, 110, 116]⟩),
  (⟨#[112, 114, 105, 110, 116]⟩, ⟨#[97, 115, 99, 105, 105]⟩),
  (⟨#[117, 112, 112, 101, 114]⟩, ⟨#[97, 108, 112, 104, 97]⟩),
  (⟨#[108, 111, 119, 101, 114]⟩, ⟨#[97, 108, 112, 104, 97]⟩),
  (⟨#[120, 100, 105, 103, 105, 116]⟩, ⟨#[97, 108, 110, 117, 109]⟩),
  (⟨#[98, 108, 97, 110, 107]⟩, ⟨#[115, 112, 97, 99, 101]⟩),
  (⟨#[99, 110, 116, 114, 108]⟩, ⟨#[97, 115, 99, 105, 105]⟩),
  (⟨#[76, 117]⟩, ⟨#[76]⟩),
  (⟨#[76, 108]⟩, ⟨#[76]⟩),
  (⟨#[71, 114, 101, 101, 107]⟩, ⟨#[76]⟩),
  (⟨#[76, 97, 116, 105, 110]⟩, ⟨#[65, 110, 121]⟩),
  (⟨#[100, 105, 103, 105, 116]⟩, ⟨#[78, 100]⟩),
  (⟨#[97, 108, 112, 104, 97]⟩, ⟨#[76, 97, 116, 105, 110]⟩)]
def subB (a b : List (Int × Int)) : Bool := a.all fun p => b.any fun q => decide (q.1 ≤ p.1) && decide (p.2 ≤ q.2)
theorem subB_has {a b : List (Int × Int)} (h : subB a b = true) {q : Int} (hq : hasB a q = true) : hasB b q = true := by
  rw [hasB_iff] at hq ⊢
  obtain ⟨h0, p, hp, h1, h2⟩ := hq
  have := List.all_eq_true.1 h p hp
  rw [List.any_eq_true] at this
  obtain ⟨r, hr, h3⟩ := this
  simp only [Bool.and_eq_true, decide_eq_true_eq] at h3
  exact ⟨h0, r, hr, by omega, by omega⟩
def okWith : Bool := withT.all fun p => match setX p.1.data.toList, setX p.2.data.toList with | some (false, a), some (false, b) => subB (pairsOf a) (pairsOf b) | _, _ => false
theorem okWith_yes : okWith = true := by decide +kernel
theorem with_at {k : Nat} {p : ByteArray × ByteArray} (h : withT[k]? = some p) : ∃ a b, setX p.1.data.toList = some (false, a) ∧ setX p.2.data.toList = some (false, b) ∧ subB (pairsOf a) (pairsOf b) = true := by
  have := List.all_eq_true.1 okWith_yes p (List.mem_of_getElem? h)
  cases h1 : setX p.1.data.toList with
  | none => rw [h1] at this; simp at this
  | some x =>
    cases h2 : setX p.2.data.toList with
    | none => rw [h1, h2] at this; obtain ⟨x1, x2⟩ := x; cases x1 <;> simp at this
    | some y =>
      obtain ⟨x1, x2⟩ := x
      obtain ⟨y1, y2⟩ := y
      rw [h1, h2] at this
      cases x1 <;> cases y1 <;> simp at this
      exact ⟨x2, y2, rfl, rfl, this⟩
theorem class_has {T : List Int} {out : List (Int × Int)} (h : ClassIs (some (false, T)) out 0) (q : Int) : hasB out q = hasB (pairsOf T) q := by
  by_cases hq : 0 ≤ q ∧ q ≤ 1114111
  · rw [h.2.2 q hq.1 hq.2]; simp
  · rw [Bool.eq_iff_iff, hasB_iff, hasB_iff]
    exact ⟨fun x => absurd x.1 hq, fun x => absurd x.1 hq⟩
theorem graph_eq {al pu g out : List (Int × Int)} (h1 : ClassIs (some (false, [48, 57, 65, 90, 97, 122])) al 0) (h2 : ClassIs (some (false, [33, 47, 58, 64, 91, 96, 123, 126])) pu 0) (h3 : ClassIs (some (false, [33, 126])) g 0) (h : Made 1 al pu out) : out = g := by
  refine norm_ext h.norm h3.2.1 (fun q h0 h4 => ?_)
  rw [h.has q h0 h4, class_has h1, class_has h2, class_has h3, Bool.eq_iff_iff]
  simp [hasB, opB, pairsOf]
  omega
theorem print_eq {g p out : List (Int × Int)} (h1 : ClassIs (some (false, [33, 126])) g 0) (h3 : ClassIs (some (false, [32, 126])) p 0) (h : Made 1 g [(32, 32)] out) : out = p := by
  refine norm_ext h.norm h3.2.1 (fun q h0 h4 => ?_)
  rw [h.has q h0 h4, class_has h1, class_has h3, Bool.eq_iff_iff]
  simp [hasB, opB, pairsOf]
  omega
theorem cntrl_eq {c p out : List (Int × Int)} (h1 : ClassIs (some (false, [0, 31, 127, 127])) c 0) (h3 : ClassIs (some (false, [32, 126])) p 0) (h : Made 2 c p out) : out = [] := by
  refine norm_ext h.norm (show NormL [] from trivial) (fun q h0 h4 => ?_)
  rw [h.has q h0 h4, class_has h1, class_has h3, Bool.eq_iff_iff]
  simp [hasB, opB, pairsOf]
  omega
end Cl
theorem has_rg (W : World) (v : Value) (l : List (Int × Int)) (r : Int) (B : Bool) (hB : Rg.hasB l r = B) (h : RRow W v l) :
    Calls Tryz.prog 20 #[v, .int .i64 r] W fun e w' => e = .returned (.bool B) ∧ Below W.heap.size W w' := by rw [← hB]; exact has_any W v l r h
set_option maxRecDepth 100000 in
set_option maxHeartbeats 8000000 in
theorem walkClassWithin (W : World) (r : Int) (htab : Spaces W) :
    Calls Tryz.prog 5 #[.int .i64 r] W fun e w' => e = .returned (.bool true) ∧ Below W.heap.size W w' := by
  have HS := Lib.hid htab
  clear htab
  go_enter Tryz.func5, Tryz.ntmps5
  go_wp2_with fail
  refine (works_any _ HS.out).mono ?_
  rintro e w1 ⟨rfl, hb⟩
  have E1 := Lib.hid (hb.alloc hb.size (.cells (Cl.cellsT Cl.withT) 36))
  have HG := Lib.hid (heap_alloc_new w1 (.cells (Cl.cellsT Cl.withT) 36))
  clear hb
  go_wp2
  go_loopw [27] (fun i wr => ∃ k : Nat, k ≤ 17 ∧ i = .int .i64 k ∧ Hid (Below (w1.heap.size + 1) (w1.alloc (.cells (Cl.cellsT Cl.withT) 36)) wr)) (fun i _ => 17 - (intOf i).toNat)
  case atStart => exact ⟨0, by omega, rfl, Lib.hid (Below.refl _ _)⟩
  case round =>
    obtain ⟨k, hk, rfl, HB⟩ := hrel
    by_cases hlt : k < 17
    · obtain ⟨p, hp⟩ : ∃ p, Cl.withT[k]? = some p := ⟨Cl.withT[k]'(hlt), List.getElem?_eq_getElem _⟩
      have hgr : wr.heap[w1.heap.size]? = some (.cells (Cl.cellsT Cl.withT) 36 (0, 0)) := (HB.out.block _ (by simp)).trans HG.out
      have hca := Cl.cells_at Cl.withT k p hp
      have hc1 : wr.cell? ⟨w1.heap.size, k * 2, none⟩ = some (.string p.1) := by simp only [World.cell?, hgr]; exact hca.1
      have hc2 : wr.cell? ⟨w1.heap.size, k * 2 + 1, none⟩ = some (.string p.2) := by simp only [World.cell?, hgr]; exact hca.2
      have hgl : w1.heap.size < wr.heap.size := (Array.getElem?_eq_some_iff.1 hgr).1
      obtain ⟨Ta, Tb, hx1, hx2, hsub⟩ := Cl.with_at hp
      have HX1 := Lib.hid hx1
      have HX2 := Lib.hid hx2
      have HSUB := Lib.hid hsub
      obtain ⟨p1, p2⟩ := p
      dsimp only at hc1 hc2 HX1 HX2
      have E2 := Lib.hid ((E1.out.trans (HB.out.mono (by have := E1.out.size; simp at this; omega))).alloc (by have := (E1.out.trans (HB.out.mono (by have := E1.out.size; simp at this; omega))).size; omega) (.cells #[.string p1, .string p2] 36))
      have HB2 := Lib.hid (HB.out.alloc (by have := HB.out.size; simp at this; omega) (.cells #[.string p1, .string p2] 36))
      have hbox : (wr.alloc (.cells #[.string p1, .string p2] 36)).cell? ⟨wr.heap.size, 1, none⟩ = some (.string p2) := by simp
      have HBOX := Lib.hid hbox
      clear hp hgr hca hx1 hx2 hsub hbox
      go_wp2_with fail
      refine (set_any _ p1 Ta HX1.out (HS.out.below (Nat.le_refl _) E2.out)).mono ?_
      rintro e a1 ⟨v1, o1, rfl, hc, ho, hb⟩
      have C1 := Lib.hid hc
      have R1 := Lib.hid (class_row hc ho)
      have E3 := Lib.hid (E2.out.trans (hb.mono E2.out.size))
      have HB3 := Lib.hid (HB2.out.trans (hb.mono (by have := HB2.out.size; rw [World.size_alloc] at this; exact this)))
      have hbx : a1.cell? ⟨wr.heap.size, 1, none⟩ = some (.string p2) := (hb.cell (p := ⟨wr.heap.size, 1, none⟩) (by simp)).trans HBOX.out
      have hwl : wr.heap.size < a1.heap.size := by have := hb.size; simp at this; omega
      have HBOX1 := Lib.hid hbx
      clear hc ho hb HBOX E2 HB2 hbx
      obtain ⟨b1, hb1⟩ : ∃ b1, Rg.hasB o1 r = b1 := ⟨_, rfl⟩
      go_wp2_with fail
      refine (has_rg _ _ _ _ b1 hb1 R1.out).mono ?_
      rintro e a2 ⟨rfl, hb⟩
      have E4 := Lib.hid (E3.out.trans (hb.mono E3.out.size))
      have HB4 := Lib.hid (HB3.out.trans (hb.mono (by have := HB3.out.size; rw [World.size_alloc] at this; exact this)))
      have hbx : a2.cell? ⟨wr.heap.size, 1, none⟩ = some (.string p2) := (hb.cell (p := ⟨wr.heap.size, 1, none⟩) (by simpa using hwl)).trans HBOX1.out
      have hwl2 : wr.heap.size < a2.heap.size := by have := hb.size; omega
      clear hb HBOX1 E3 HB3 R1 hwl
      cases b1
      · go_wp2
        go_roundw
        case rel => exact ⟨k + 1, by omega, by go_num, HB4⟩
        case measure => simp [intOf]; omega
      · have hb1' := Lib.hid hb1
        clear hb1
        go_wp2_with fail
        refine (set_any _ p2 Tb HX2.out (HS.out.below (Nat.le_refl _) E4.out)).mono ?_
        rintro e a3 ⟨v2, o2, rfl, hc, ho, hb⟩
        have H2 : Rg.hasB o2 r = true := by
          have h1 := hb1'.out
          rw [Cl.class_has C1.out] at h1
          rw [Cl.class_has hc]
          exact Cl.subB_has HSUB.out h1
        have HH2 := Lib.hid H2
        have R2 := Lib.hid (class_row hc ho)
        have E5 := Lib.hid (E4.out.trans (hb.mono E4.out.size))
        have HB5 := Lib.hid (HB4.out.trans (hb.mono (by have := HB4.out.size; rw [World.size_alloc] at this; exact this)))
        clear hc ho hb E4 HB4 H2 hbx
        go_wp2_with fail
        refine (has_rg _ _ _ _ true HH2.out R2.out).mono ?_
        rintro e a4 ⟨rfl, hb⟩
        have HB6 := Lib.hid (HB5.out.trans (hb.mono (by have := HB5.out.size; rw [World.size_alloc] at this; exact this)))
        clear hb E5 HB5 R2
        go_wp2
        go_roundw
        case rel => exact ⟨k + 1, by omega, by go_num, HB6⟩
        case measure => simp [intOf]; omega
    · obtain rfl : k = 17 := by omega
      have E2 := Lib.hid (E1.out.trans (HB.out.mono (by have := E1.out.size; simp at this; omega)))
      clear HB HG E1
      go_wp2_with fail
      refine (set_any _ ⟨#[97, 108, 110, 117, 109]⟩ _ (by decide +kernel : setX (⟨#[97, 108, 110, 117, 109]⟩ : ByteArray).data.toList = some (false, [48, 57, 65, 90, 97, 122])) (HS.out.below (Nat.le_refl _) E2.out)).mono ?_
      rintro e a1 ⟨v1, o1, rfl, hc, ho, hb⟩
      have C1 := Lib.hid hc
      have R1 := Lib.hid (class_row hc ho)
      have E3 := Lib.hid (E2.out.trans (hb.mono E2.out.size))
      clear hc ho hb E2
      go_wp2_with fail
      refine (set_any _ ⟨#[112, 117, 110, 99, 116]⟩ _ (by decide +kernel : setX (⟨#[112, 117, 110, 99, 116]⟩ : ByteArray).data.toList = some (false, [33, 47, 58, 64, 91, 96, 123, 126])) (HS.out.below (Nat.le_refl _) E3.out)).mono ?_
      rintro e a2 ⟨v2, o2, rfl, hc, ho, hb⟩
      have C2 := Lib.hid hc
      have R2 := Lib.hid (class_row hc ho)
      have R1' := Lib.hid (R1.out.below (Nat.le_refl _) hb)
      have E4 := Lib.hid (E3.out.trans (hb.mono E3.out.size))
      clear hc ho hb E3 R1
      go_wp2_with fail
      refine (union_any _ _ _ _ _ R1'.out R2.out).mono ?_
      rintro e a3 ⟨v3, o3, rfl, hm, ho, hb⟩
      have M3 := Lib.hid hm
      have R3 := Lib.hid (ho.normRow hm.norm)
      have E5 := Lib.hid (E4.out.trans (hb.mono E4.out.size))
      clear hm ho hb E4 R1' R2
      go_wp2_with fail
      refine (set_any _ ⟨#[103, 114, 97, 112, 104]⟩ _ (by decide +kernel : setX (⟨#[103, 114, 97, 112, 104]⟩ : ByteArray).data.toList = some (false, [33, 126])) (HS.out.below (Nat.le_refl _) E5.out)).mono ?_
      rintro e a4 ⟨v4, o4, rfl, hc, ho, hb⟩
      obtain rfl := Cl.graph_eq C1.out C2.out hc M3.out
      have C4 := Lib.hid hc
      have R4 := Lib.hid (class_row hc ho)
      have R3' := Lib.hid (R3.out.below (Nat.le_refl _) hb)
      have E6 := Lib.hid (E5.out.trans (hb.mono E5.out.size))
      clear hc ho hb E5 R3 C1 C2 M3
      go_wp2_with fail
      refine (same_rg_b _ _ _ _ _ R3'.out R4.out true (by simp)).mono ?_
      rintro e a5 ⟨rfl, hb⟩
      have R3 := Lib.hid (R3'.out.below (Nat.le_refl _) hb)
      have E7 := Lib.hid (E6.out.trans (hb.mono E6.out.size))
      clear hb E6 R3' R4
      go_wp2_with fail
      have E8 := Lib.hid (E7.out.alloc E7.out.size (.cells #[.int .i64 32, .int .i64 32] 42))
      refine (union_any _ _ _ _ _ (R3.out.below (Nat.le_refl _) ((Below.refl a5.heap.size a5).alloc (Nat.le_refl _) _)) (rrow_one a5 32 32 (by decide) (by decide) 42)).mono ?_
      rintro e a6 ⟨v6, o6, rfl, hm, ho, hb⟩
      have M6 := Lib.hid hm
      have R6 := Lib.hid (ho.normRow hm.norm)
      have E9 := Lib.hid (E8.out.trans (hb.mono E8.out.size))
      clear hm ho hb E7 E8 R3
      go_wp2_with fail
      refine (set_any _ ⟨#[112, 114, 105, 110, 116]⟩ _ (by decide +kernel : setX (⟨#[112, 114, 105, 110, 116]⟩ : ByteArray).data.toList = some (false, [32, 126])) (HS.out.below (Nat.le_refl _) E9.out)).mono ?_
      rintro e a7 ⟨v7, o7, rfl, hc, ho, hb⟩
      obtain rfl := Cl.print_eq C4.out hc M6.out
      have R7 := Lib.hid (class_row hc ho)
      have R6' := Lib.hid (R6.out.below (Nat.le_refl _) hb)
      have E10 := Lib.hid (E9.out.trans (hb.mono E9.out.size))
      clear hc ho hb E9 R6 C4 M6
      go_wp2_with fail
      refine (same_rg_b _ _ _ _ _ R6'.out R7.out true (by simp)).mono ?_
      rintro e a8 ⟨rfl, hb⟩
      have E11 := Lib.hid (E10.out.trans (hb.mono E10.out.size))
      clear hb E10 R6' R7
      go_wp2_with fail
      refine (set_any _ ⟨#[99, 110, 116, 114, 108]⟩ _ (by decide +kernel : setX (⟨#[99, 110, 116, 114, 108]⟩ : ByteArray).data.toList = some (false, [0, 31, 127, 127])) (HS.out.below (Nat.le_refl _) E11.out)).mono ?_
      rintro e a9 ⟨v9, o9, rfl, hc, ho, hb⟩
      have C9 := Lib.hid hc
      have R9 := Lib.hid (class_row hc ho)
      have E12 := Lib.hid (E11.out.trans (hb.mono E11.out.size))
      clear hc ho hb E11
      go_wp2_with fail
      refine (set_any _ ⟨#[112, 114, 105, 110, 116]⟩ _ (by decide +kernel : setX (⟨#[112, 114, 105, 110, 116]⟩ : ByteArray).data.toList = some (false, [32, 126])) (HS.out.below (Nat.le_refl _) E12.out)).mono ?_
      rintro e b1 ⟨v10, o10, rfl, hc, ho, hb⟩
      have C10 := Lib.hid hc
      have R10 := Lib.hid (class_row hc ho)
      have R9' := Lib.hid (R9.out.below (Nat.le_refl _) hb)
      have E13 := Lib.hid (E12.out.trans (hb.mono E12.out.size))
      clear hc ho hb E12 R9
      go_wp2_with fail
      refine (both_any _ _ _ _ _ R9'.out R10.out).mono ?_
      rintro e b2 ⟨v11, o11, rfl, hm, ho, hb⟩
      obtain rfl := Cl.cntrl_eq C9.out C10.out hm
      obtain ⟨aq, kq, rfl⟩ := ho.empty
      have E14 := Lib.hid (E13.out.trans (hb.mono E13.out.size))
      clear hm ho hb E13 R9' R10
      go_wp2
      go_ret
      exact ⟨rfl, E14.out⟩
end Go.Proofs.YtimgdooelbhjfaaGreatDoor
