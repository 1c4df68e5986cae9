/- The landed class: its two tables. · The landed class: find, by a table of names. · What a class's function hands back. -/
import Derived.Test.YtmdpchiiamgnnaaGreatDoorGp2
import Derived.Test.YtmdpchiiamgnnaaGreatDoorGp13
import Derived.Test.YtmdpchiiamgnnaaGreatDoorGp20
import Derived.Test.YtmdpchiiamgnnaaGreatDoorGp6
namespace Go.Proofs.YtmdpchiiamgnnaaGreatDoor
open Go.RowKit
set_option linter.unusedVariables false
namespace Cl
def colB : List (ByteArray × ByteArray) := [(⟨#[97, 108, 110, 117, 109]⟩, ⟨#[51, 48, 45, 51, 57, 32, 52, 49, 45, 53, 65, 32, 54, 49, 45, 55, 65]⟩),
  (⟨#[97, 108, 112, 104, 97]⟩, ⟨#[52, 49, 45, 53, 65, 32, 54, 49, 45, 55, 65]⟩),
  (⟨#[97, 115, 99, 105, 105]⟩, ⟨#[48, 45, 55, 70]⟩),
  (⟨#[98, 108, 97, 110, 107]⟩, ⟨#[57, 32, 50, 48]⟩),
  (⟨#[99, 110, 116, 114, 108]⟩, ⟨#[48, 45, 49, 70, 32, 55, 70]⟩),
  (⟨#[100, 105, 103, 105, 116]⟩, ⟨#[51, 48, 45, 51, 57]⟩),
  (⟨#[103, 114, 97, 112, 104]⟩, ⟨#[50, 49, 45, 55, 69]⟩),
  (⟨#[108, 111, 119, 101, 114]⟩, ⟨#[54, 49, 45, 55, 65]⟩),
  (⟨#[112, 114, 105, 110, 116]⟩, ⟨#[50, 48, 45, 55, 69]⟩),
  (⟨#[112, 117, 110, 99, 116]⟩, ⟨#[50, 49, 45, 50, 70, 32, 51, 65, 45, 52, 48, 32, 53, 66, 45, 54, 48, 32, 55, 66, 45, 55, 69]⟩),
  (⟨#[115, 112, 97, 99, 101]⟩, ⟨#[57, 45, 68, 32, 50, 48]⟩),
  (⟨#[117, 112, 112, 101, 114]⟩, ⟨#[52, 49, 45, 53, 65]⟩),
  (⟨#[119, 111, 114, 100]⟩, ⟨#[51, 48, 45, 51, 57, 32, 52, 49, 45, 53, 65, 32, 54, 49, 45, 55, 65, 32, 53, 70]⟩),
  (⟨#[120, 100, 105, 103, 105, 116]⟩, ⟨#[51, 48, 45, 51, 57, 32, 52, 49, 45, 52, 54, 32, 54, 49, 45, 54, 54]⟩)]
def propB : List (ByteArray × ByteArray) := [(⟨#[65, 110, 121]⟩, ⟨#[48, 45, 49, 48, 70, 70, 70, 70]⟩),
  (⟨#[76, 97, 116, 105, 110]⟩, ⟨#[52, 49, 45, 53, 65, 32, 54, 49, 45, 55, 65, 32, 65, 65, 32, 66, 65, 32, 67, 48, 45, 68, 54, 32, 68, 56, 45, 70, 54, 32, 70, 56, 45, 50, 52, 70]⟩),
  (⟨#[71, 114, 101, 101, 107]⟩, ⟨#[51, 55, 48, 45, 51, 55, 51, 32, 51, 55, 53, 45, 51, 55, 55, 32, 51, 55, 65, 45, 51, 55, 68, 32, 51, 55, 70, 32, 51, 56, 52, 32, 51, 56, 54, 32, 51, 56, 56, 45, 51, 56, 65, 32, 51, 56, 67, 32, 51, 56, 69, 45, 51, 65, 49, 32, 51, 65, 51, 45, 51, 69, 49, 32, 51, 70, 48, 45, 51, 70, 70, 32, 50, 49, 50, 54]⟩),
  (⟨#[67, 121, 114, 105, 108, 108, 105, 99]⟩, ⟨#[52, 48, 48, 45, 52, 56, 52, 32, 52, 56, 55, 45, 53, 50, 70]⟩),
  (⟨#[76, 117]⟩, ⟨#[52, 49, 45, 53, 65, 32, 67, 48, 45, 68, 54, 32, 68, 56, 45, 68, 69, 32, 49, 55, 56, 32, 51, 57, 49, 45, 51, 65, 49, 32, 51, 65, 51, 45, 51, 65, 66, 32, 52, 48, 48, 45, 52, 50, 70]⟩),
  (⟨#[76, 108]⟩, ⟨#[54, 49, 45, 55, 65, 32, 66, 53, 32, 68, 70, 45, 70, 54, 32, 70, 56, 45, 70, 70, 32, 51, 65, 67, 45, 51, 67, 69, 32, 52, 51, 48, 45, 52, 53, 70, 32, 49, 55, 70]⟩),
  (⟨#[76]⟩, ⟨#[52, 49, 45, 53, 65, 32, 67, 48, 45, 68, 54, 32, 68, 56, 45, 68, 69, 32, 49, 55, 56, 32, 51, 57, 49, 45, 51, 65, 49, 32, 51, 65, 51, 45, 51, 65, 66, 32, 52, 48, 48, 45, 52, 50, 70, 32, 54, 49, 45, 55, 65, 32, 66, 53, 32, 68, 70, 45, 70, 54, 32, 70, 56, 45, 70, 70, 32, 51, 65, 67, 45, 51, 67, 69, 32, 52, 51, 48, 45, 52, 53, 70, 32, 49, 55, 70, 32, 52, 49, 45, 53, 65, 32, 54, 49, 45, 55, 65, 32, 65, 65, 32, 66, 65, 32, 67, 48, 45, 68, 54, 32, 68, 56, 45, 70, 54, 32, 70, 56, 45, 50, 52, 70, 32, 51, 55, 48, 45, 51, 55, 51, 32, 51, 55, 53, 45, 51, 55, 55, 32, 51, 55, 65, 45, 51, 55, 68, 32, 51, 55, 70, 32, 51, 56, 52, 32, 51, 56, 54, 32, 51, 56, 56, 45, 51, 56, 65, 32, 51, 56, 67, 32, 51, 56, 69, 45, 51, 65, 49, 32, 51, 65, 51, 45, 51, 69, 49, 32, 51, 70, 48, 45, 51, 70, 70, 32, 50, 49, 50, 54, 32, 52, 48, 48, 45, 52, 56, 52, 32, 52, 56, 55, 45, 53, 50, 70]⟩),
  (⟨#[78, 100]⟩, ⟨#[51, 48, 45, 51, 57, 32, 54, 54, 48, 45, 54, 54, 57, 32, 54, 70, 48, 45, 54, 70, 57, 32, 57, 54, 54, 45, 57, 54, 70]⟩)]
/-- The cells of a table. -/
def cellsT (T : List (ByteArray × ByteArray)) : Array Value := (T.flatMap fun p => [Value.string p.1, Value.string p.2]).toArray
end Cl
/-- A table in a new block. -/
def NamedPost (T : List (ByteArray × ByteArray)) (W : World) (e : Ending) (w' : World) : Prop := e = .returned (.slice (some ⟨W.heap.size, 0, none⟩) T.length T.length) ∧ w' = W.alloc (.cells (Cl.cellsT T) 138)
set_option maxRecDepth 100000 in
set_option maxHeartbeats 4000000 in
theorem colons_any (W : World) : Calls Tryz.prog 103 #[] W (NamedPost Cl.colB W) := by
  go_enter Tryz.func103, Tryz.ntmps103
  go_wp2
  go_ret
  exact ⟨rfl, rfl⟩
set_option maxRecDepth 100000 in
set_option maxHeartbeats 4000000 in
theorem properties_any (W : World) : Calls Tryz.prog 129 #[] W (NamedPost Cl.propB W) := by
  go_enter Tryz.func129, Tryz.ntmps129
  go_wp2
  go_ret
  exact ⟨rfl, rfl⟩
end Go.Proofs.YtmdpchiiamgnnaaGreatDoor
namespace Go.Proofs.YtmdpchiiamgnnaaGreatDoor
open Go.RowKit Go.Shelf
set_option linter.unusedVariables false
namespace Cl
/-- What a table has of a name. -/
def findT (T : List (ByteArray × ByteArray)) (s : List UInt8) : Option (ByteArray × ByteArray) := T.find? fun e => e.1.data.toList == s
def okTab (T : List (ByteArray × ByteArray)) : Bool := T.all fun e => okText e.2.data.toList
theorem okTab_col : okTab colB = true := by decide +kernel
theorem okTab_prop : okTab propB = true := by decide +kernel
theorem bare_eq (s : List UInt8) : Cl.bare s = (Lib.trimPrefix s [94], Lib.hasPrefix s [94]) := by
  cases s with
  | nil => rfl
  | cons b t =>
    by_cases h : b = 94
    · subst h
      cases t <;> rfl
    · have e1 : Cl.bare (b :: t) = (b :: t, false) := by
        unfold Cl.bare
        split
        · rename_i t' he; cases he; exact absurd rfl h
        · rfl
      have e2 : Lib.hasPrefix (b :: t) [94] = false := by
        have h' : ¬ (94 : UInt8) = b := fun e => h e.symm
        simp [Lib.hasPrefix, List.isPrefixOf, h']
      rw [e1]
      unfold Lib.trimPrefix
      rw [e2]; rfl
end Cl
theorem cutPrefix_any (s : ByteArray) (w : World) : Calls Tryz.prog 120 #[.string s, .string ⟨#[94]⟩] w fun e w' => e = .returned (.tuple #[.string ⟨(Cl.bare s.data.toList).1.toArray⟩, .bool (Cl.bare s.data.toList).2]) ∧ w' = w := by
  have hcon := Any.strings_CutPrefix (P := Tryz.prog) Tryz.layPrefix s ⟨#[94]⟩ w
  change Calls Tryz.prog 120 _ _ _ at hcon
  rw [Cl.bare_eq]
  exact hcon
/-- What find hands back: a set's list, or that there is no such name. -/
def FindPost (T : List (ByteArray × ByteArray)) (s : List UInt8) (W : World) (e : Ending) (w' : World) : Prop :=
  ∃ v out code, e = .returned (.tuple #[v, .int .i64 code]) ∧ RgOwn w' W.heap.size v out ∧ Below W.heap.size W w' ∧
    ((Cl.findT T (Cl.bare s).1 = none ∧ out = [] ∧ code = 70) ∨ ∃ p, Cl.findT T (Cl.bare s).1 = some p ∧ code = 0 ∧ Rg.NormL out ∧ ∀ q, 0 ≤ q → q ≤ 1114111 → Rg.hasB out q = ((Cl.bare s).2 != Rg.hasB (Cl.pairsT p.2.data.toList) q))
theorem cells_at (T : List (ByteArray × ByteArray)) (k : Nat) (p : ByteArray × ByteArray) (h : T[k]? = some p) : (Cl.cellsT T)[k * 2]? = some (.string p.1) ∧ (Cl.cellsT T)[k * 2 + 1]? = some (.string p.2) := by
  unfold Cl.cellsT
  simp only [List.getElem?_toArray]
  induction T generalizing k with
  | nil => simp at h
  | cons a t ih =>
    cases k with
    | zero => simp at h; subst h; simp
    | succ k =>
      have h' : t[k]? = some p := by simpa using h
      have e1 : (k + 1) * 2 = k * 2 + 1 + 1 := by omega
      rw [e1]
      simpa using ih k h'
set_option maxRecDepth 100000 in
set_option maxHeartbeats 4000000 in
theorem find_any (W : World) (T : List (ByteArray × ByteArray)) (hT : Cl.okTab T = true) (n : Nat) (hn : T.length = n) (h100 : n ≤ 100) (g : Nat) (hg : W.heap[g]? = some (.cells (Cl.cellsT T) 138 (0, 0))) (s : ByteArray) (htab : Spaces W) :
    Calls Tryz.prog 102 #[.slice (some ⟨g, 0, none⟩) n n, .string s] W (FindPost T s.data.toList W) := by
  have HG := Lib.hid hg
  have hgs : g < W.heap.size := (Array.getElem?_eq_some_iff.1 hg).1
  have HT := Lib.hid hT
  have HN := Lib.hid hn
  have HS := Lib.hid htab
  obtain ⟨nm, hnm⟩ : ∃ nm : ByteArray, nm = ⟨(Cl.bare s.data.toList).1.toArray⟩ := ⟨_, rfl⟩
  obtain ⟨neg, hneg⟩ : ∃ neg, neg = (Cl.bare s.data.toList).2 := ⟨_, rfl⟩
  have hcp := cutPrefix_any s W
  have HNM : Hid ((Cl.bare s.data.toList).1 = nm.data.toList) := Lib.hid (by rw [hnm])
  unfold FindPost
  rw [← hnm, ← hneg] at hcp
  rw [← hneg, HNM.out]
  have HCP := Lib.hid hcp
  clear hg hT hn htab hnm hneg hcp
  go_enter Tryz.func102, Tryz.ntmps102
  go_wp2_with fail
  refine HCP.out.mono ?_
  rintro e w0 ⟨rfl, rfl⟩
  clear HCP
  go_wp2
  go_loopw [17] (fun i wr => ∃ k : Nat, k ≤ n ∧ i = .int .i64 k ∧ Hid (∀ j, j < k → ∀ p, T[j]? = some p → p.1.data.toList ≠ nm.data.toList) ∧ Hid (Below w0.heap.size w0 wr)) (fun i _ => n - (intOf i).toNat)
  case atStart => exact ⟨0, Nat.zero_le _, rfl, Lib.hid (fun j hj => absurd hj (Nat.not_lt_zero _)), Lib.hid (Below.refl _ _)⟩
  case round =>
    obtain ⟨k, hk, rfl, HM, HB⟩ := hrel
    by_cases hlt : k < n
    · obtain ⟨p, hp⟩ : ∃ p, T[k]? = some p := ⟨T[k]'(by rw [HN.out]; exact hlt), List.getElem?_eq_getElem _⟩
      have hgr : wr.heap[g]? = some (.cells (Cl.cellsT T) 138 (0, 0)) := (HB.out.block g hgs).trans HG.out
      have hca := cells_at T k p hp
      have hc1 : wr.cell? ⟨g, k * 2, none⟩ = some (.string p.1) := by simp only [World.cell?, hgr]; exact hca.1
      have hc2 : wr.cell? ⟨g, k * 2 + 1, none⟩ = some (.string p.2) := by simp only [World.cell?, hgr]; exact hca.2
      have hgl : g < wr.heap.size := Nat.lt_of_lt_of_le hgs HB.out.size
      have hok : Hid (Cl.okText p.2.data.toList = true) := Lib.hid (by have := HT.out; unfold Cl.okTab at this; rw [List.all_eq_true] at this; exact this p (List.mem_of_getElem? hp))
      have HP := Lib.hid hp
      obtain ⟨p1, p2⟩ := p
      dsimp only at hc1 hc2 hok
      clear hp hca hgr
      by_cases he : p1 = nm
      · subst he
        have D0 := Lib.hid (HB.out.alloc HB.out.size (.cells #[.string p1, .string p2] 138))
        go_wp2_with fail
        refine (clist_any p2 hok.out neg _ (HS.out.below (Nat.le_refl _) D0.out)).mono ?_
        rintro e w5 ⟨v5, out, rfl, hn5, hh5, ho5, hb5⟩
        have HN5 := Lib.hid hn5
        have HH5 := Lib.hid hh5
        have HO5 := Lib.hid (ho5.lower D0.out.size)
        have HB5 := Lib.hid (D0.out.trans (hb5.mono D0.out.size))
        have HF : Hid (Cl.findT T p1.data.toList = some (p1, p2)) := Lib.hid (by
          unfold Cl.findT
          have hk2 : k < T.length := by rw [HN.out]; exact hlt
          have e1 : T[k] = (p1, p2) := by have := HP.out; rw [List.getElem?_eq_getElem hk2] at this; exact Option.some.inj this
          rw [List.find?_eq_some_iff_getElem]
          refine ⟨by simp, k, hk2, e1, fun j hj => ?_⟩
          have := HM.out j hj T[j] (List.getElem?_eq_getElem _)
          simpa using this)
        clear hn5 hh5 ho5 hb5
        go_wp2
        go_ret2
        exact ⟨v5, out, 0, rfl, HO5.out, HB5.out, .inr ⟨_, HF.out, rfl, HN5.out, HH5.out⟩⟩
      · have he2 : (p1.toList == nm.toList) = false := by
          rw [beq_eq_false_iff_ne]
          intro e
          rw [ByteArray.toList_eq, ByteArray.toList_eq] at e
          exact he (ByteArray.ext (Array.toList_inj.1 e))
        have HE : Hid (p1.data.toList ≠ nm.data.toList) := Lib.hid (fun e => he (ByteArray.ext (Array.toList_inj.1 e)))
        clear he
        go_wp2
        go_roundw
        case rel =>
          refine ⟨k + 1, by omega, by go_num, Lib.hid (fun j hj p hp => ?_), Lib.hid (HB.out.alloc HB.out.size _)⟩
          by_cases e : j = k
          · subst e
            rw [HP.out] at hp; cases hp; exact HE.out
          · exact HM.out j (by omega) p hp
        case measure => simp [intOf]; omega
    · obtain rfl : k = n := by omega
      have c1 : ¬ ((k : Int) < (k : Int)) := by omega
      go_wp2
      go_ret2
      refine ⟨_, [], 70, rfl, RgOwn.nil, HB.out, .inl ⟨?_, rfl, rfl⟩⟩
      unfold Cl.findT
      rw [List.find?_eq_none]
      intro p hp
      obtain ⟨j, hj⟩ := List.getElem?_of_mem hp
      have hlt : j < T.length := (List.getElem?_eq_some_iff.1 hj).1
      have := HM.out j (by rw [← HN.out]; exact hlt) p hj
      simpa using this
end Go.Proofs.YtmdpchiiamgnnaaGreatDoor
namespace Go.Proofs.YtmdpchiiamgnnaaGreatDoor
open Go.RowKit
set_option linter.unusedVariables false
/-- A class, or why there is none. -/
def ClassPost (X : Option (Bool × List Int)) (W : World) (e : Ending) (w' : World) : Prop :=
  ∃ v out code, e = .returned (.tuple #[v, .int .i64 code]) ∧ Cl.ClassIs X out code ∧ RgOwn w' W.heap.size v out ∧ Below W.heap.size W w'
theorem class_row {X : Option (Bool × List Int)} {out : List (Int × Int)} {code : Int} (hc : Cl.ClassIs X out code) {W : World} {base : Nat} {v : Value} (h : RgOwn W base v out) : RRow W v out := by
  cases X with
  | none => obtain ⟨rfl, _⟩ := hc; exact h.row (by simp) (fun p hp => by cases hp)
  | some p => exact h.normRow hc.2.1
namespace Cl
open Go.Proofs.YtmdpchiiamgnnaaGreatDoor.Rg
theorem class_has {T : List Int} {out : List (Int × Int)} (h : ClassIs (some (false, T)) out 0) (q : Int) : hasB out q = hasB (pairsOf T) q := by
  by_cases hq : 0 ≤ q ∧ q ≤ 1114111
  · rw [h.2.2 q hq.1 hq.2]; simp
  · rw [Bool.eq_iff_iff, hasB_iff, hasB_iff]
    exact ⟨fun x => absurd x.1 hq, fun x => absurd x.1 hq⟩
end Cl
end Go.Proofs.YtmdpchiiamgnnaaGreatDoor
