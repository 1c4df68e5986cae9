/- The landed class: find, by a table of names. · What a class's function hands back. · The landed class: Letter, Colon and Property. -/
import Derived.Test.YtecclhmjmceheaaGreatDoorGp19
import Derived.Test.YtecclhmjmceheaaGreatDoorGp2
import Derived.Test.YtecclhmjmceheaaGreatDoorGp5
namespace Go.Proofs.YtecclhmjmceheaaGreatDoor
open Go.RowKit Go.Shelf
set_option linter.unusedVariables false
namespace Cl
/-- What a table has of a name. -/
def findT (T : List (ByteArray × ByteArray)) (s : List UInt8) : Option (ByteArray × ByteArray) := T.find? fun e => e.1.data.toList == s
def okTab (T : List (ByteArray × ByteArray)) : Bool := T.all fun e => okText e.2.data.toList
theorem okTab_col : okTab colB = true := by decide +kernel
theorem okTab_prop : okTab propB = true := by decide +kernel
theorem bare_eq (s : List UInt8) : Cl.bare s = (Lib.trimPrefix s [94], Lib.hasPrefix s [94]) := by
  cases s with
  | nil => rfl
  | cons b t =>
    by_cases h : b = 94
    · subst h
      cases t <;> rfl
    · have e1 : Cl.bare (b :: t) = (b :: t, false) := by
        unfold Cl.bare
        split
        · rename_i t' he; cases he; exact absurd rfl h
        · rfl
      have e2 : Lib.hasPrefix (b :: t) [94] = false := by
        have h' : ¬ (94 : UInt8) = b := fun e => h e.symm
        simp [Lib.hasPrefix, List.isPrefixOf, h']
      rw [e1]
      unfold Lib.trimPrefix
      rw [e2]; rfl
end Cl
theorem cutPrefix_any (s : ByteArray) (w : World) : Calls Tryz.prog 126 #[.string s, .string ⟨#[94]⟩] w fun e w' => e = .returned (.tuple #[.string ⟨(Cl.bare s.data.toList).1.toArray⟩, .bool (Cl.bare s.data.toList).2]) ∧ w' = w := by
  have hcon := Any.strings_CutPrefix (P := Tryz.prog) Tryz.layPrefix s ⟨#[94]⟩ w
  change Calls Tryz.prog 126 _ _ _ at hcon
  rw [Cl.bare_eq]
  exact hcon
/-- What find hands back: a set's list, or that there is no such name. -/
def FindPost (T : List (ByteArray × ByteArray)) (s : List UInt8) (W : World) (e : Ending) (w' : World) : Prop :=
  ∃ v out code, e = .returned (.tuple #[v, .int .i64 code]) ∧ RgOwn w' W.heap.size v out ∧ Below W.heap.size W w' ∧
    ((Cl.findT T (Cl.bare s).1 = none ∧ out = [] ∧ code = 70) ∨ ∃ p, Cl.findT T (Cl.bare s).1 = some p ∧ code = 0 ∧ Rg.NormL out ∧ ∀ q, 0 ≤ q → q ≤ 1114111 → Rg.hasB out q = ((Cl.bare s).2 != Rg.hasB (Cl.pairsT p.2.data.toList) q))
theorem cells_at (T : List (ByteArray × ByteArray)) (k : Nat) (p : ByteArray × ByteArray) (h : T[k]? = some p) : (Cl.cellsT T)[k * 2]? = some (.string p.1) ∧ (Cl.cellsT T)[k * 2 + 1]? = some (.string p.2) := by
  unfold Cl.cellsT
  simp only [List.getElem?_toArray]
  induction T generalizing k with
  | nil => simp at h
  | cons a t ih =>
    cases k with
    | zero => simp at h; subst h; simp
    | succ k =>
      have h' : t[k]? = some p := by simpa using h
      have e1 : (k + 1) * 2 = k * 2 + 1 + 1 := by omega
      rw [e1]
      simpa using ih k h'
set_option maxRecDepth 100000 in
set_option maxHeartbeats 4000000 in
theorem find_any (W : World) (T : List (ByteArray × ByteArray)) (hT : Cl.okTab T = true) (n : Nat) (hn : T.length = n) (h100 : n ≤ 100) (g : Nat) (hg : W.heap[g]? = some (.cells (Cl.cellsT T) 222 (0, 0))) (s : ByteArray) (htab : Spaces W) :
    Calls Tryz.prog 198 #[.slice (some ⟨g, 0, none⟩) n n, .string s] W (FindPost T s.data.toList W) := by
  have HG := Lib.hid hg
  have hgs : g < W.heap.size := (Array.getElem?_eq_some_iff.1 hg).1
  have HT := Lib.hid hT
  have HN := Lib.hid hn
  have HS := Lib.hid htab
  obtain ⟨nm, hnm⟩ : ∃ nm : ByteArray, nm = ⟨(Cl.bare s.data.toList).1.toArray⟩ := ⟨_, rfl⟩
  obtain ⟨neg, hneg⟩ : ∃ neg, neg = (Cl.bare s.data.toList).2 := ⟨_, rfl⟩
  have hcp := cutPrefix_any s W
  have HNM : Hid ((Cl.bare s.data.toList).1 = nm.data.toList) := Lib.hid (by rw [hnm])
  unfold FindPost
  rw [← hnm, ← hneg] at hcp
  rw [← hneg, HNM.out]
  have HCP := Lib.hid hcp
  clear hg hT hn htab hnm hneg hcp
  go_enter Tryz.func198, Tryz.ntmps198
  go_wp2_with fail
  refine HCP.out.mono ?_
  rintro e w0 ⟨rfl, rfl⟩
  clear HCP
  go_wp2
  go_loopw [17] (fun i wr => ∃ k : Nat, k ≤ n ∧ i = .int .i64 k ∧ Hid (∀ j, j < k → ∀ p, T[j]? = some p → p.1.data.toList ≠ nm.data.toList) ∧ Hid (Below w0.heap.size w0 wr)) (fun i _ => n - (intOf i).toNat)
  case atStart => exact ⟨0, Nat.zero_le _, rfl, Lib.hid (fun j hj => absurd hj (Nat.not_lt_zero _)), Lib.hid (Below.refl _ _)⟩
  case round =>
    obtain ⟨k, hk, rfl, HM, HB⟩ := hrel
    by_cases hlt : k < n
    · obtain ⟨p, hp⟩ : ∃ p, T[k]? = some p := ⟨T[k]'(by rw [HN.out]; exact hlt), List.getElem?_eq_getElem _⟩
      have hgr : wr.heap[g]? = some (.cells (Cl.cellsT T) 222 (0, 0)) := (HB.out.block g hgs).trans HG.out
      have hca := cells_at T k p hp
      have hc1 : wr.cell? ⟨g, k * 2, none⟩ = some (.string p.1) := by simp only [World.cell?, hgr]; exact hca.1
      have hc2 : wr.cell? ⟨g, k * 2 + 1, none⟩ = some (.string p.2) := by simp only [World.cell?, hgr]; exact hca.2
      have hgl : g < wr.heap.size := Nat.lt_of_lt_of_le hgs HB.out.size
      have hok : Hid (Cl.okText p.2.data.toList = true) := Lib.hid (by have := HT.out; unfold Cl.okTab at this; rw [List.all_eq_true] at this; exact this p (List.mem_of_getElem? hp))
      have HP := Lib.hid hp
      obtain ⟨p1, p2⟩ := p
      dsimp only at hc1 hc2 hok
      clear hp hca hgr
      by_cases he : p1 = nm
      · subst he
        have D0 := Lib.hid (HB.out.alloc HB.out.size (.cells #[.string p1, .string p2] 222))
        go_wp2_with fail
        refine (clist_any p2 hok.out neg _ (HS.out.below (Nat.le_refl _) D0.out)).mono ?_
        rintro e w5 ⟨v5, out, rfl, hn5, hh5, ho5, hb5⟩
        have HN5 := Lib.hid hn5
        have HH5 := Lib.hid hh5
        have HO5 := Lib.hid (ho5.lower D0.out.size)
        have HB5 := Lib.hid (D0.out.trans (hb5.mono D0.out.size))
        have HF : Hid (Cl.findT T p1.data.toList = some (p1, p2)) := Lib.hid (by
          unfold Cl.findT
          have hk2 : k < T.length := by rw [HN.out]; exact hlt
          have e1 : T[k] = (p1, p2) := by have := HP.out; rw [List.getElem?_eq_getElem hk2] at this; exact Option.some.inj this
          rw [List.find?_eq_some_iff_getElem]
          refine ⟨by simp, k, hk2, e1, fun j hj => ?_⟩
          have := HM.out j hj T[j] (List.getElem?_eq_getElem _)
          simpa using this)
        clear hn5 hh5 ho5 hb5
        go_wp2
        go_ret2
        exact ⟨v5, out, 0, rfl, HO5.out, HB5.out, .inr ⟨_, HF.out, rfl, HN5.out, HH5.out⟩⟩
      · have he2 : (p1.toList == nm.toList) = false := by
          rw [beq_eq_false_iff_ne]
          intro e
          rw [ByteArray.toList_eq, ByteArray.toList_eq] at e
          exact he (ByteArray.ext (Array.toList_inj.1 e))
        have HE : Hid (p1.data.toList ≠ nm.data.toList) := Lib.hid (fun e => he (ByteArray.ext (Array.toList_inj.1 e)))
        clear he
        go_wp2
        go_roundw
        case rel =>
          refine ⟨k + 1, by omega, by go_num, Lib.hid (fun j hj p hp => ?_), Lib.hid (HB.out.alloc HB.out.size _)⟩
          by_cases e : j = k
          · subst e
            rw [HP.out] at hp; cases hp; exact HE.out
          · exact HM.out j (by omega) p hp
        case measure => simp [intOf]; omega
    · obtain rfl : k = n := by omega
      have c1 : ¬ ((k : Int) < (k : Int)) := by omega
      go_wp2
      go_ret2
      refine ⟨_, [], 70, rfl, RgOwn.nil, HB.out, .inl ⟨?_, rfl, rfl⟩⟩
      unfold Cl.findT
      rw [List.find?_eq_none]
      intro p hp
      obtain ⟨j, hj⟩ := List.getElem?_of_mem hp
      have hlt : j < T.length := (List.getElem?_eq_some_iff.1 hj).1
      have := HM.out j (by rw [← HN.out]; exact hlt) p hj
      simpa using this
end Go.Proofs.YtecclhmjmceheaaGreatDoor
namespace Go.Proofs.YtecclhmjmceheaaGreatDoor
open Go.RowKit
set_option linter.unusedVariables false
/-- A class, or why there is none. -/
def ClassPost (X : Option (Bool × List Int)) (W : World) (e : Ending) (w' : World) : Prop :=
  ∃ v out code, e = .returned (.tuple #[v, .int .i64 code]) ∧ Cl.ClassIs X out code ∧ RgOwn w' W.heap.size v out ∧ Below W.heap.size W w'
theorem class_row {X : Option (Bool × List Int)} {out : List (Int × Int)} {code : Int} (hc : Cl.ClassIs X out code) {W : World} {base : Nat} {v : Value} (h : RgOwn W base v out) : RRow W v out := by
  cases X with
  | none => obtain ⟨rfl, _⟩ := hc; exact h.row (by simp) (fun p hp => by cases hp)
  | some p => exact h.normRow hc.2.1
namespace Cl
open Go.Proofs.YtecclhmjmceheaaGreatDoor.Rg
theorem class_has {T : List Int} {out : List (Int × Int)} (h : ClassIs (some (false, T)) out 0) (q : Int) : hasB out q = hasB (pairsOf T) q := by
  by_cases hq : 0 ≤ q ∧ q ≤ 1114111
  · rw [h.2.2 q hq.1 hq.2]; simp
  · rw [Bool.eq_iff_iff, hasB_iff, hasB_iff]
    exact ⟨fun x => absurd x.1 hq, fun x => absurd x.1 hq⟩
end Cl
end Go.Proofs.YtecclhmjmceheaaGreatDoor
namespace Go.Proofs.YtecclhmjmceheaaGreatDoor
open Go.RowKit Go.Shelf
set_option linter.unusedVariables false
namespace Cl
open Go.Proofs.YtecclhmjmceheaaGreatDoor.Rg
/-- Two lists of the same ranges. -/
def sameB (a b : List (Int × Int)) : Bool := a.all (fun p => b.contains p) && b.all (fun p => a.contains p)
theorem sameB_has {a b : List (Int × Int)} (h : sameB a b = true) (q : Int) : hasB a q = hasB b q := by
  simp only [sameB, Bool.and_eq_true, List.all_eq_true, List.contains_iff_mem] at h
  rw [Bool.eq_iff_iff, hasB_iff, hasB_iff]
  constructor
  · rintro ⟨h0, p, hp, h1⟩; exact ⟨h0, p, h.1 p hp, h1⟩
  · rintro ⟨h0, p, hp, h1⟩; exact ⟨h0, p, h.2 p hp, h1⟩
/-- The landed table has of each name what the reference's has. -/
def agreeB (T : List (ByteArray × ByteArray)) (U : List (List UInt8 × List Int)) : Bool :=
  (T.all fun e => match look U e.1.data.toList with | some n => sameB (pairsT e.2.data.toList) (pairsOf n) | none => false) && U.all fun u => T.any fun e => e.1.data.toList == u.1
theorem agree_col : agreeB colB colonT = true := by decide +kernel
theorem agree_prop : agreeB propB propT = true := by decide +kernel
theorem agree_some {T : List (ByteArray × ByteArray)} {U : List (List UInt8 × List Int)} (h : agreeB T U = true) {s : List UInt8} {p : ByteArray × ByteArray} (hf : findT T s = some p) :
    ∃ n, look U s = some n ∧ ∀ q, hasB (pairsT p.2.data.toList) q = hasB (pairsOf n) q := by
  simp only [agreeB, Bool.and_eq_true, List.all_eq_true] at h
  have hm := h.1 p (List.mem_of_find?_eq_some hf)
  have hs : p.1.data.toList = s := by have := List.find?_some hf; simpa using this
  rw [hs] at hm
  cases hl : look U s with
  | none => rw [hl] at hm; cases hm
  | some n => rw [hl] at hm; exact ⟨n, rfl, sameB_has hm⟩
theorem agree_none {T : List (ByteArray × ByteArray)} {U : List (List UInt8 × List Int)} (h : agreeB T U = true) {s : List UInt8} (hf : findT T s = none) : look U s = none := by
  simp only [agreeB, Bool.and_eq_true, List.all_eq_true] at h
  unfold look
  cases hu : U.find? fun e => s == e.1 with
  | none => rfl
  | some u =>
    exfalso
    have hs : s = u.1 := by have := List.find?_some hu; simpa using this
    have ha := h.2 u (List.mem_of_find?_eq_some hu)
    rw [List.any_eq_true] at ha
    obtain ⟨e, he, h2⟩ := ha
    unfold findT at hf
    rw [List.find?_eq_none] at hf
    exact hf e he (by rw [hs]; exact h2)
end Cl
theorem class_of_find {T : List (ByteArray × ByteArray)} {U : List (List UInt8 × List Int)} (h : Cl.agreeB T U = true) {s : List UInt8} {W : World} {e : Ending} {w' : World} (hp : FindPost T s W e w') : ClassPost (Cl.lookC U s) W e w' := by
  obtain ⟨v, out, code, rfl, ho, hb, hc⟩ := hp
  refine ⟨v, out, code, rfl, ?_, ho, hb⟩
  unfold Cl.lookC
  rcases hc with ⟨hf, rfl, rfl⟩ | ⟨p, hf, rfl, hn, hh⟩
  · rw [Cl.agree_none h hf]; exact ⟨rfl, rfl⟩
  · obtain ⟨n, hl, hs⟩ := Cl.agree_some h hf
    rw [hl]
    exact ⟨rfl, hn, fun q h0 h1 => by rw [hh q h0 h1, hs]⟩
theorem class_of_list {neg : Bool} {L : List (Int × Int)} {T : List Int} (h : ∀ q, Rg.hasB L q = Rg.hasB (Cl.pairsOf T) q) {out : List (Int × Int)} (hn : Rg.NormL out) (hh : ∀ q, 0 ≤ q → q ≤ 1114111 → Rg.hasB out q = (neg != Rg.hasB L q)) : Cl.ClassIs (some (neg, T)) out 0 :=
  ⟨rfl, hn, fun q h0 h1 => by rw [hh q h0 h1, h]⟩
theorem Cl.space_has (q : Int) : Rg.hasB (Cl.pairsT [57, 32, 65, 32, 67, 32, 68, 32, 50, 48]) q = Rg.hasB (Cl.pairsOf [9, 10, 12, 13, 32, 32]) q := by
  rw [show Cl.pairsT [57, 32, 65, 32, 67, 32, 68, 32, 50, 48] = [(9, 9), (10, 10), (12, 12), (13, 13), (32, 32)] by decide +kernel, show Cl.pairsOf [9, 10, 12, 13, 32, 32] = [(9, 10), (12, 13), (32, 32)] by decide, Bool.eq_iff_iff, Rg.hasB_iff, Rg.hasB_iff]
  simp only [List.mem_cons, List.not_mem_nil, or_false, exists_eq_or_imp, exists_eq_left]
  omega
set_option maxRecDepth 100000 in
set_option maxHeartbeats 2000000 in
theorem cColon_any (W : World) (s : ByteArray) (htab : Spaces W) : Calls Tryz.prog 201 #[.string s] W (ClassPost (Cl.lookC Cl.colonT s.data.toList) W) := by
  have HS := Lib.hid htab
  clear htab
  go_enter Tryz.func201, Tryz.ntmps201
  go_wp2_with fail
  refine (colons_any _).mono ?_
  rintro e w1 ⟨rfl, rfl⟩
  have D1 := Lib.hid ((Below.refl W.heap.size W).alloc (Nat.le_refl _) (.cells (Cl.cellsT Cl.colB) 222))
  go_wp2_with fail
  refine (find_any _ Cl.colB Cl.okTab_col 14 rfl (by decide) W.heap.size (heap_alloc_new W _) s (HS.out.below (Nat.le_refl _) D1.out)).mono ?_
  intro e w2 hp
  obtain ⟨v, out, code, rfl, hc, ho, hb⟩ := class_of_find Cl.agree_col hp
  have HC := Lib.hid hc
  have HO := Lib.hid (ho.lower D1.out.size)
  have HB := Lib.hid (D1.out.trans (hb.mono D1.out.size))
  clear hp hc ho hb
  go_wp2
  go_ret2
  exact ⟨v, out, code, rfl, HC.out, HO.out, HB.out⟩
set_option maxRecDepth 100000 in
set_option maxHeartbeats 2000000 in
theorem cProp_any (W : World) (s : ByteArray) (htab : Spaces W) : Calls Tryz.prog 149 #[.string s] W (ClassPost (Cl.lookC Cl.propT s.data.toList) W) := by
  have HS := Lib.hid htab
  clear htab
  go_enter Tryz.func149, Tryz.ntmps149
  go_wp2_with fail
  refine (properties_any _).mono ?_
  rintro e w1 ⟨rfl, rfl⟩
  have D1 := Lib.hid ((Below.refl W.heap.size W).alloc (Nat.le_refl _) (.cells (Cl.cellsT Cl.propB) 222))
  go_wp2_with fail
  refine (find_any _ Cl.propB Cl.okTab_prop 8 rfl (by decide) W.heap.size (heap_alloc_new W _) s (HS.out.below (Nat.le_refl _) D1.out)).mono ?_
  intro e w2 hp
  obtain ⟨v, out, code, rfl, hc, ho, hb⟩ := class_of_find Cl.agree_prop hp
  have HC := Lib.hid hc
  have HO := Lib.hid (ho.lower D1.out.size)
  have HB := Lib.hid (D1.out.trans (hb.mono D1.out.size))
  clear hp hc ho hb
  go_wp2
  go_ret2
  exact ⟨v, out, code, rfl, HC.out, HO.out, HB.out⟩
set_option maxRecDepth 100000 in
set_option maxHeartbeats 4000000 in
theorem cLetter_any (W : World) (c : Int) (htab : Spaces W) : Calls Tryz.prog 117 #[.int .u8 c] W (ClassPost (Cl.letterX c) W) := by
  have HS := Lib.hid htab
  clear htab
  by_cases h100 : c = 100
  · subst h100
    have HX : Hid (Cl.letterX 100 = some (false, [48, 57])) := Lib.hid (by decide)
    go_enter Tryz.func117, Tryz.ntmps117
    go_wp2_with fail
    refine (clist_any ⟨#[51, 48, 45, 51, 57]⟩ (by decide +kernel) false _ HS.out).mono ?_
    rintro e w1 ⟨v1, o1, rfl, hn, hh, ho, hb⟩
    have HN := Lib.hid hn
    have HH := Lib.hid hh
    have HO := Lib.hid ho
    have HB := Lib.hid hb
    clear hn hh ho hb
    go_wp2
    go_ret2
    exact ⟨v1, o1, 0, rfl, by rw [HX.out]; exact class_of_list (Cl.sameB_has (by decide +kernel)) HN.out HH.out, HO.out, HB.out⟩
  by_cases h68 : c = 68
  · subst h68
    have HX : Hid (Cl.letterX 68 = some (true, [48, 57])) := Lib.hid (by decide)
    go_enter Tryz.func117, Tryz.ntmps117
    go_wp2_with fail
    refine (clist_any ⟨#[51, 48, 45, 51, 57]⟩ (by decide +kernel) true _ HS.out).mono ?_
    rintro e w1 ⟨v1, o1, rfl, hn, hh, ho, hb⟩
    have HN := Lib.hid hn
    have HH := Lib.hid hh
    have HO := Lib.hid ho
    have HB := Lib.hid hb
    clear hn hh ho hb
    go_wp2
    go_ret2
    exact ⟨v1, o1, 0, rfl, by rw [HX.out]; exact class_of_list (Cl.sameB_has (by decide +kernel)) HN.out HH.out, HO.out, HB.out⟩
  by_cases h115 : c = 115
  · subst h115
    have HX : Hid (Cl.letterX 115 = some (false, [9, 10, 12, 13, 32, 32])) := Lib.hid (by decide)
    go_enter Tryz.func117, Tryz.ntmps117
    go_wp2_with fail
    refine (clist_any ⟨#[57, 32, 65, 32, 67, 32, 68, 32, 50, 48]⟩ (by decide +kernel) false _ HS.out).mono ?_
    rintro e w1 ⟨v1, o1, rfl, hn, hh, ho, hb⟩
    have HN := Lib.hid hn
    have HH := Lib.hid hh
    have HO := Lib.hid ho
    have HB := Lib.hid hb
    clear hn hh ho hb
    go_wp2
    go_ret2
    exact ⟨v1, o1, 0, rfl, by rw [HX.out]; exact class_of_list Cl.space_has HN.out HH.out, HO.out, HB.out⟩
  by_cases h83 : c = 83
  · subst h83
    have HX : Hid (Cl.letterX 83 = some (true, [9, 10, 12, 13, 32, 32])) := Lib.hid (by decide)
    go_enter Tryz.func117, Tryz.ntmps117
    go_wp2_with fail
    refine (clist_any ⟨#[57, 32, 65, 32, 67, 32, 68, 32, 50, 48]⟩ (by decide +kernel) true _ HS.out).mono ?_
    rintro e w1 ⟨v1, o1, rfl, hn, hh, ho, hb⟩
    have HN := Lib.hid hn
    have HH := Lib.hid hh
    have HO := Lib.hid ho
    have HB := Lib.hid hb
    clear hn hh ho hb
    go_wp2
    go_ret2
    exact ⟨v1, o1, 0, rfl, by rw [HX.out]; exact class_of_list Cl.space_has HN.out HH.out, HO.out, HB.out⟩
  by_cases h119 : c = 119
  · subst h119
    have HX : Hid (Cl.letterX 119 = some (false, Cl.word)) := Lib.hid (by decide)
    go_enter Tryz.func117, Tryz.ntmps117
    go_wp2_with fail
    refine (clist_any ⟨#[51, 48, 45, 51, 57, 32, 52, 49, 45, 53, 65, 32, 54, 49, 45, 55, 65, 32, 53, 70]⟩ (by decide +kernel) false _ HS.out).mono ?_
    rintro e w1 ⟨v1, o1, rfl, hn, hh, ho, hb⟩
    have HN := Lib.hid hn
    have HH := Lib.hid hh
    have HO := Lib.hid ho
    have HB := Lib.hid hb
    clear hn hh ho hb
    go_wp2
    go_ret2
    exact ⟨v1, o1, 0, rfl, by rw [HX.out]; exact class_of_list (Cl.sameB_has (by decide +kernel)) HN.out HH.out, HO.out, HB.out⟩
  by_cases h87 : c = 87
  · subst h87
    have HX : Hid (Cl.letterX 87 = some (true, Cl.word)) := Lib.hid (by decide)
    go_enter Tryz.func117, Tryz.ntmps117
    go_wp2_with fail
    refine (clist_any ⟨#[51, 48, 45, 51, 57, 32, 52, 49, 45, 53, 65, 32, 54, 49, 45, 55, 65, 32, 53, 70]⟩ (by decide +kernel) true _ HS.out).mono ?_
    rintro e w1 ⟨v1, o1, rfl, hn, hh, ho, hb⟩
    have HN := Lib.hid hn
    have HH := Lib.hid hh
    have HO := Lib.hid ho
    have HB := Lib.hid hb
    clear hn hh ho hb
    go_wp2
    go_ret2
    exact ⟨v1, o1, 0, rfl, by rw [HX.out]; exact class_of_list (Cl.sameB_has (by decide +kernel)) HN.out HH.out, HO.out, HB.out⟩
  have HX : Hid (Cl.letterX c = none) := Lib.hid (by unfold Cl.letterX; rw [if_neg h100, if_neg h68, if_neg h115, if_neg h83, if_neg h119, if_neg h87])
  go_enter Tryz.func117, Tryz.ntmps117
  go_wp2_with fail
  go_ret2
  exact ⟨_, [], 70, rfl, by rw [HX.out]; exact ⟨rfl, rfl⟩, RgOwn.nil, Below.refl _ _⟩
end Go.Proofs.YtecclhmjmceheaaGreatDoor
