/- The landed show: Show. · The reference's tree (burinref06): Nullable. · The landed tree: nullable, with slices.ContainsFunc, IndexFunc and the closures; Nullable. · The landed tree: nullable, Nullable. · burinlaw06.letter, works. · The laws of show: the chapter's example. · The plain mathematics of the landed fold: blocks, partners, the walk round a family; no program. · The plain mathematics of the landed Close: the ranges of what is in a pair, the families of a list. · Mathematics of parse: the tree of tokens. -/
import Derived.Test.YtanffablfgnioaaGreatDoorGp11
import Derived.Test.YtanffablfgnioaaGreatDoorGp16
import Derived.Test.YtanffablfgnioaaGreatDoorGp2
import Derived.IntWalk
import Derived.Test.YtanffablfgnioaaGreatDoorGp12
import Derived.BigQuiet
import Derived.Test.YtanffablfgnioaaGreatDoorGp5
import Derived.Test.YtanffablfgnioaaGreatDoorGp6
namespace Go.Proofs.YtanffablfgnioaaGreatDoor
open Go.RowKit
set_option linter.unusedVariables false
/-- What Show answers: the error of Check; that it is too long; or the pattern. -/
def ShowIs (n : Nd) (T : ByteArray) (c : Int) : Prop := (Td.checkN n ≠ 0 ∧ T = ⟨#[]⟩ ∧ c = Td.checkN n) ∨ (Td.checkN n = 0 ∧ ShT (Sh.shL 1000 n) T c)
set_option maxRecDepth 100000 in
set_option maxHeartbeats 8000000 in
theorem show_any (W : World) (n : Nd) (cs : List Value) (hn : NdIs W n cs) (hE : EvS W) (hlen : (Td.all 1000 1 n).length ≤ 1000000) :
    Calls Tryz.prog 6 #[.agg cs.toArray] W fun e w' => ∃ T c, e = .returned (.tuple #[.string T, .int .i64 c]) ∧ ShowIs n T c ∧ Below W.heap.size W w' := by
  have hon := NdOn.of hn
  obtain ⟨u0, u1, u2, u3, u4, u5, u6, u7, sa, sc, aa, ac, rfl, F⟩ := hn.form_of
  obtain ⟨wb, hwb⟩ : ∃ wb, W.alloc (.cells #[u0, u1, u2, u3, u4, u5, u6, u7] 26) = wb := ⟨_, rfl⟩
  have hbb : Below W.heap.size W wb := by rw [← hwb]; exact (Below.refl _ _).alloc (Nat.le_refl _) _
  have hbx : wb.heap[W.heap.size]? = some (.cells #[u0, u1, u2, u3, u4, u5, u6, u7] 26 (0, 0)) := by rw [← hwb]; exact heap_alloc_new _ _
  have HCK := Lib.hid (callsIn_wide.1 (check_in 3 (by omega) wb n _ (hn.kept hbb) hlen))
  obtain ⟨d0, d1, d2, d3, d4, d5, d6, d7⟩ := box_cells hbx
  obtain ⟨s0, hs0⟩ : ∃ s0, W.heap.size = s0 := ⟨_, rfl⟩
  have HS0 := Lib.hid hs0
  have HWB := Lib.hid hwb
  have HBB := Lib.hid hbb
  have HBX := Lib.hid hbx
  have HON := Lib.hid hon
  have HE := Lib.hid hE
  have hszb : s0 + 1 = wb.heap.size := by rw [← hwb, World.size_alloc, hs0]
  obtain ⟨C, hC⟩ : ∃ C, Td.checkN n = C := ⟨_, rfl⟩
  have HC := Lib.hid hC
  rw [hC] at HCK
  obtain ⟨rfl, rfl, rfl, rfl, rfl, rfl, rfl, rfl⟩ := F
  clear hbb hbx hwb hon hE hn hC hlen
  rw [hs0] at d0 d1 d2 d3 d4 d5 d6 d7 HBX
  by_cases h0 : C = 0
  · subst h0
    have HFS := Lib.hid (fit_check HC.out)
    clear hs0
    go_enter Tryz.func6, Tryz.ntmps6
    go_wp2_with fail
    rw [HWB.out, HS0.out]
    refine HCK.out.mono ?_
    rintro e w1 ⟨rfl, hb1⟩
    have hb01 : Below W.heap.size W w1 := HBB.out.trans (hb1.mono HBB.out.size)
    have hx1 := (hb1.block _ (by omega)).trans HBX.out
    obtain ⟨wp, hwp⟩ : ∃ wp, w1.alloc (.cells #[.slice none 0 0] 46) = wp := ⟨_, rfl⟩
    have hbp : Below w1.heap.size w1 wp := by rw [← hwp]; exact (Below.refl _ _).alloc (Nat.le_refl _) _
    have hpx : wp.heap[w1.heap.size]? = some (.cells #[.slice none 0 0] 46 (0, 0)) := by rw [← hwp]; exact heap_alloc_new _ _
    have hs1 := hb01.size
    have hpr : PrOk wp w1.heap.size [] := ⟨_, hpx, rfl, .inl ⟨rfl, rfl⟩⟩
    have hb0p : Below W.heap.size W wp := hb01.trans (hbp.mono hs1)
    have hop := (HON.out.kept hb0p.size (fun b hb hlt => hb0p.block b hlt)).mono (S' := fun b => b < w1.heap.size) (fun b hb => Nat.lt_of_lt_of_le hb hs1)
    have HPT := Lib.hid (pattern_show w1 wp w1.heap.size 1000 n _ HFS.out hpr ⟨HE.out.below (Nat.le_refl _) hb01, Nat.le_refl _, hbp⟩ hop)
    have HB0P := Lib.hid hb0p
    obtain ⟨b0, b1, b2, b3, b4, b5, b6, b7⟩ := box_cells ((hbp.block _ (Array.getElem?_eq_some_iff.1 hx1).1).trans hx1)
    clear hb1 hb01 hx1 hbp hpx hpr hb0p hop
    go_wp2_with fail
    refine HPT.out.mono ?_
    rintro e w2 ⟨T, c, rfl, hT, hb2⟩
    have HFIN : Hid (ShowIs n T c) := Lib.hid (.inr ⟨HC.out, hT⟩)
    have HB2 : Hid (Below W.heap.size W w2) := Lib.hid (HB0P.out.trans (hb2.mono hs1))
    clear hT hb2
    go_wp2
    go_ret2
    exact ⟨T, c, rfl, HFIN.out, HB2.out⟩
  · have hC0 : (C == 0) = false := by rw [beq_eq_false_iff_ne]; exact h0
    have HFIN : Hid (ShowIs n ⟨#[]⟩ C) := Lib.hid (.inl ⟨by rw [HC.out]; exact h0, rfl, HC.out.symm⟩)
    clear hs0 h0
    go_enter Tryz.func6, Tryz.ntmps6
    go_wp2_with fail
    rw [HWB.out, HS0.out]
    refine HCK.out.mono ?_
    rintro e w1 ⟨rfl, hb1⟩
    have HB1 : Hid (Below W.heap.size W w1) := Lib.hid (HBB.out.trans (hb1.mono HBB.out.size))
    clear hb1
    go_wp2
    go_ret2
    exact ⟨_, _, rfl, HFIN.out, HB1.out⟩
end Go.Proofs.YtanffablfgnioaaGreatDoor
namespace Go.Proofs.YtanffablfgnioaaGreatDoor
open Go.RowKit
set_option linter.unusedVariables false
namespace Td
end Td



















































































































end Go.Proofs.YtanffablfgnioaaGreatDoor
namespace Go.Proofs.YtanffablfgnioaaGreatDoor
open Go.RowKit
set_option linter.unusedVariables false































































































































































end Go.Proofs.YtanffablfgnioaaGreatDoor
namespace Go.Proofs.YtanffablfgnioaaGreatDoor
open Go.RowKit
set_option linter.unusedVariables false
end Go.Proofs.YtanffablfgnioaaGreatDoor
namespace Go.Proofs.YtanffablfgnioaaGreatDoor
open Go.RowKit
set_option linter.unusedVariables false
def letN (c : Int) : Nd := .mk 3 [(c, c)] 0 ⟨#[]⟩ 0 0 false []
theorem i64_0 : I64 0 := by unfold I64; omega
def letC (g : Nat) : List Value := [.int .i64 3, .slice (some ⟨g, 0, none⟩) 1 1, .int .i64 0, .string ⟨#[]⟩, .int .i64 0, .int .i64 0, .bool false, .slice none 0 0]




















theorem isE0 : (⟨#[]⟩ : ByteArray).toList.isEmpty = true := by simp [ByteArray.toList_eq]
theorem fits_let (c : Int) (h : 0 ≤ c ∧ c ≤ 1114111) : Td.fitsB (letN c) = true := by
  rw [Td.told3 rfl]
  have h1 : Rg.checkF none [(c, c)] = 0 := by
    have h2 : Rg.check1 none (c, c) = 0 := by
      unfold Rg.check1
      rw [if_neg (by dsimp only; omega), if_neg (by simp)]
    unfold Rg.checkF
    rw [if_pos h2]; rfl
  show ((true && (Rg.checkF none [(c, c)] == 0)) && Td.sameB 1000 (.mk 3 [] 0 ⟨#[]⟩ 0 0 false []) (Td.zeroN 3)) = true
  rw [h1, Td.same_zero, isE0]; rfl
end Go.Proofs.YtanffablfgnioaaGreatDoor
namespace Go.Proofs.YtanffablfgnioaaGreatDoor
open Go.RowKit
set_option linter.unusedVariables false
set_option maxRecDepth 100000 in
set_option maxHeartbeats 4000000 in
theorem let10_any (W : World) (c : Int) (hc : I64 c) : Calls Tryz.prog 8 #[.int .i64 c] W fun e w' => e = .returned (.agg #[.int .i64 3, .slice (some ⟨W.heap.size + 1, 0, none⟩) 1 1, .int .i64 0, .string ⟨#[]⟩, .int .i64 0, .int .i64 0, .bool false, .slice none 0 0]) ∧ NdIs w' (letN c) [.int .i64 3, .slice (some ⟨W.heap.size + 1, 0, none⟩) 1 1, .int .i64 0, .string ⟨#[]⟩, .int .i64 0, .int .i64 0, .bool false, .slice none 0 0] ∧ Below W.heap.size W w' := by
  go_enter Tryz.func8, Tryz.ntmps8
  go_wp2
  refine ⟨rfl, .agg #[.int .i64 3, .slice (some ⟨W.heap.size + 1, 0, none⟩) 1 1, .int .i64 0, .string ⟨#[]⟩, .int .i64 0, .int .i64 0, .bool false, .slice none 0 0], by simp [results, Tryz.f8, go_sem], rfl, ?_, ((Below.refl W.heap.size W).alloc (Nat.le_refl _) _).alloc (by simp) _⟩
  refine .mk (fun _ => []) ⟨by unfold I64; omega, i64_0, i64_0, i64_0⟩ ⟨_, 1, rfl, by simp, ?_, ?_⟩ (Nat.zero_le _) (by simp) (fun j hj => absurd hj (by simp)) (fun j hj => absurd hj (by simp))
  · intro p hp
    have e : p = (c, c) := by simpa using hp
    subst e
    unfold I64 at hc
    exact ⟨hc.1, hc.2, hc.1, hc.2⟩
  · intro j hj
    have e : j = 0 := by simpa using hj
    subst e
    have key : ∀ X : World, (X.alloc (.cells #[.int .i64 c, .int .i64 c] 49)).cell? ⟨X.heap.size, 0, none⟩ = some (.int .i64 c) ∧ (X.alloc (.cells #[.int .i64 c, .int .i64 c] 49)).cell? ⟨X.heap.size, 1, none⟩ = some (.int .i64 c) := fun X => by constructor <;> simp
    have h9 := key (W.alloc (.cells #[.int .i64 3, .slice (some ⟨W.heap.size + 1, 0, none⟩) 1 1, .int .i64 0, .string ⟨#[]⟩, .int .i64 0, .int .i64 0, .bool false, .slice none 0 0] 26))
    rw [World.size_alloc] at h9
    exact ⟨W.heap.size + 1, 0, rfl, by simp, h9.1, h9.2⟩
def empN : Nd := .mk 1 [] 0 ⟨#[]⟩ 0 0 false []
def nilN : Nd := .mk 0 [] 0 ⟨#[]⟩ 0 0 false []
def ex10a : Nd := .mk 8 [] 0 ⟨#[]⟩ 0 0 false [letN 98, empN]
def ex10 : Nd := .mk 7 [] 0 ⟨#[]⟩ 0 0 false [letN 97, ex10a]
theorem nd_emp (w : World) : NdIs w empN [.int .i64 1, .slice none 0 0, .int .i64 0, .string ⟨#[]⟩, .int .i64 0, .int .i64 0, .bool false, .slice none 0 0] :=
  .mk (fun _ => []) ⟨by unfold I64; omega, i64_0, i64_0, i64_0⟩ (RRow.nil _) (by decide) (by decide) (fun j hj => absurd hj (by simp)) (fun j hj => absurd hj (by simp))
theorem nd_nil (w : World) : NdIs w nilN [.int .i64 0, .slice none 0 0, .int .i64 0, .string ⟨#[]⟩, .int .i64 0, .int .i64 0, .bool false, .slice none 0 0] :=
  .mk (fun _ => []) ⟨i64_0, i64_0, i64_0, i64_0⟩ (RRow.nil _) (by decide) (by decide) (fun j hj => absurd hj (by simp)) (fun j hj => absurd hj (by simp))
theorem all_ex10 : Td.all 1000 1 ex10 = [(1, ex10), (2, letN 97), (2, ex10a), (3, letN 98), (3, empN)] := rfl
theorem all_nil10 : Td.all 1000 1 nilN = [(1, nilN)] := rfl
theorem dep_ex10 : Td.dep 1001 ex10 = 3 := rfl
theorem dep_nil10 : Td.dep 1001 nilN = 1 := rfl
theorem fits_ex10 : Td.fitsB ex10 = true := by
  rw [Td.told7 (.inl rfl)]
  show (true && Td.sameB 1000 (.mk 7 [] 0 ⟨#[]⟩ 0 0 false []) (Td.zeroN 7)) = true
  rw [Td.same_zero, isE0]; rfl
theorem fits_ex10a : Td.fitsB ex10a = true := by
  rw [Td.told7 (.inr rfl)]
  show (true && Td.sameB 1000 (.mk 8 [] 0 ⟨#[]⟩ 0 0 false []) (Td.zeroN 8)) = true
  rw [Td.same_zero, isE0]; rfl
theorem fits_emp10 : Td.fitsB empN = true := by
  unfold Td.fitsB
  rw [show (Td.name empN) = ⟨#[]⟩ from rfl, isE0]
  rfl
theorem fits_nil10 : Td.fitsB nilN = false := by
  unfold Td.fitsB Td.fitsV
  rfl
theorem chk_ex10 : Td.checkN ex10 = 0 := by
  unfold Td.checkN
  rw [dep_ex10, if_neg (by omega), all_ex10, Td.chkF, if_neg (by rw [fits_ex10]; decide), if_pos (by decide), Td.chkF, if_neg (by rw [fits_let 97 (by omega)]; decide), if_pos (by decide), Td.chkF, if_neg (by rw [fits_ex10a]; decide), if_pos (by decide),
    Td.chkF, if_neg (by rw [fits_let 98 (by omega)]; decide), if_pos (by decide), Td.chkF, if_neg (by rw [fits_emp10]; decide), if_pos (by decide), Td.chkF]
theorem chk_nil10 : Td.checkN nilN = 60 := by
  unfold Td.checkN
  rw [dep_nil10, if_neg (by omega), all_nil10, Td.chkF, if_pos fits_nil10]
theorem sh_ex10 : Sh.shL 1000 ex10 = [97, 40, 63, 58, 98, 124, 40, 63, 58, 41, 41] := by decide +kernel
theorem is_ex10 {T : ByteArray} {c : Int} (h : ShowIs ex10 T c) : T = ⟨#[97, 40, 63, 58, 98, 124, 40, 63, 58, 41, 41]⟩ ∧ c = 0 := by
  rcases h with ⟨h, _⟩ | ⟨_, h⟩
  · exact absurd chk_ex10 h
  rw [sh_ex10] at h
  rcases h with ⟨_, h, hc⟩ | ⟨h, _⟩
  · exact ⟨Br.nums_inj' (h.trans (by decide +kernel)), hc⟩
  · exact absurd h (by decide)
theorem is_nil10 {T : ByteArray} {c : Int} (h : ShowIs nilN T c) : T = ⟨#[]⟩ ∧ c = 60 := by
  rcases h with ⟨_, h1, h2⟩ | ⟨h, _⟩
  · exact ⟨h1, by rw [h2, chk_nil10]⟩
  · rw [chk_nil10] at h; cases h
set_option maxRecDepth 100000 in
set_option maxHeartbeats 8000000 in
theorem works10_any (W : World) (hE : EvS W) : Calls Tryz.prog 4 #[] W fun e w' => e = .returned (.bool true) ∧ Below W.heap.size W w' := by
  have i97 : I64 97 := by unfold I64; omega
  have i98 : I64 98 := by unfold I64; omega
  have HE := Lib.hid hE
  clear hE
  go_enter Tryz.func4, Tryz.ntmps4
  go_wp2_with fail
  refine (let10_any W 97 i97).mono ?_
  rintro e w1 ⟨rfl, hn1, hb1⟩
  have HB1 := Lib.hid hb1
  have HN1 := Lib.hid hn1
  clear hn1 hb1
  go_wp2_with fail
  refine (let10_any w1 98 i98).mono ?_
  rintro e w2 ⟨rfl, hn2, hb2⟩
  have HB2 := Lib.hid (HB1.out.trans (hb2.mono HB1.out.size))
  have hn12 := HN1.out.kept hb2
  obtain ⟨wa, hwa⟩ : ∃ wa, w2.alloc (.cells #[.int .i64 3, .slice (some ⟨w1.heap.size + 1, 0, none⟩) 1 1, .int .i64 0, .string ⟨#[]⟩, .int .i64 0, .int .i64 0, .bool false, .slice none 0 0, .int .i64 1, .slice none 0 0, .int .i64 0, .string ⟨#[]⟩, .int .i64 0, .int .i64 0, .bool false, .slice none 0 0] 26) = wa := ⟨_, rfl⟩
  obtain ⟨wc, hwc⟩ : ∃ wc, wa.alloc (.cells #[.int .i64 3, .slice (some ⟨W.heap.size + 1, 0, none⟩) 1 1, .int .i64 0, .string ⟨#[]⟩, .int .i64 0, .int .i64 0, .bool false, .slice none 0 0, .int .i64 8, .slice none 0 0, .int .i64 0, .string ⟨#[]⟩, .int .i64 0, .int .i64 0, .bool false, .slice (some ⟨w2.heap.size, 0, none⟩) 2 2] 26) = wc := ⟨_, rfl⟩
  obtain ⟨w3, hw3⟩ : ∃ w3, wc.alloc (.cells #[.int .i64 7, .slice none 0 0, .int .i64 0, .string ⟨#[]⟩, .int .i64 0, .int .i64 0, .bool false, .slice (some ⟨w2.heap.size + 1, 0, none⟩) 2 2] 26) = w3 := ⟨_, rfl⟩
  have ea : wa.heap.size = w2.heap.size + 1 := by rw [← hwa, World.size_alloc]
  have ec : wc.heap.size = w2.heap.size + 2 := by rw [← hwc, World.size_alloc, ea]
  have hba : Below w2.heap.size w2 wa := by rw [← hwa]; exact (Below.refl _ w2).alloc (Nat.le_refl _) _
  have hbc : Below wa.heap.size wa wc := by rw [← hwc]; exact (Below.refl _ wa).alloc (Nat.le_refl _) _
  have hb3 : Below wc.heap.size wc w3 := by rw [← hw3]; exact (Below.refl _ wc).alloc (Nat.le_refl _) _
  have ga : wa.heap[w2.heap.size]? = some (.cells #[.int .i64 3, .slice (some ⟨w1.heap.size + 1, 0, none⟩) 1 1, .int .i64 0, .string ⟨#[]⟩, .int .i64 0, .int .i64 0, .bool false, .slice none 0 0, .int .i64 1, .slice none 0 0, .int .i64 0, .string ⟨#[]⟩, .int .i64 0, .int .i64 0, .bool false, .slice none 0 0] 26 (0, 0)) := by rw [← hwa]; exact heap_alloc_new w2 _
  have gc : wc.heap[w2.heap.size + 1]? = some (.cells #[.int .i64 3, .slice (some ⟨W.heap.size + 1, 0, none⟩) 1 1, .int .i64 0, .string ⟨#[]⟩, .int .i64 0, .int .i64 0, .bool false, .slice none 0 0, .int .i64 8, .slice none 0 0, .int .i64 0, .string ⟨#[]⟩, .int .i64 0, .int .i64 0, .bool false, .slice (some ⟨w2.heap.size, 0, none⟩) 2 2] 26 (0, 0)) := by rw [← hwc, ← ea]; exact heap_alloc_new wa _
  have g3 : w3.heap[w2.heap.size + 2]? = some (.cells #[.int .i64 7, .slice none 0 0, .int .i64 0, .string ⟨#[]⟩, .int .i64 0, .int .i64 0, .bool false, .slice (some ⟨w2.heap.size + 1, 0, none⟩) 2 2] 26 (0, 0)) := by rw [← hw3, ← ec]; exact heap_alloc_new wc _
  have ha : NdIs wa ex10a [.int .i64 8, .slice none 0 0, .int .i64 0, .string ⟨#[]⟩, .int .i64 0, .int .i64 0, .bool false, .slice (some ⟨w2.heap.size, 0, none⟩) 2 2] :=
    NdIs.row (L := [letN 98, empN]) (((NdsIs.nil wa).snoc (hn2.kept hba)).snoc (nd_emp wa)) ga (fun j hj => by simp) (by simp) ⟨by unfold I64; omega, i64_0, i64_0, i64_0⟩ (RRow.nil _) (Nat.zero_le _)
  have hc : NdIs wc ex10 [.int .i64 7, .slice none 0 0, .int .i64 0, .string ⟨#[]⟩, .int .i64 0, .int .i64 0, .bool false, .slice (some ⟨w2.heap.size + 1, 0, none⟩) 2 2] :=
    NdIs.row (L := [letN 97, ex10a]) (((NdsIs.nil wc).snoc ((hn12.kept hba).kept hbc)).snoc (ha.kept hbc)) gc (fun j hj => by simp) (by simp) ⟨by unfold I64; omega, i64_0, i64_0, i64_0⟩ (RRow.nil _) (Nat.zero_le _)
  have HCAT := Lib.hid (hc.kept hb3)
  have HB3 := Lib.hid (((HB2.out.trans (hba.mono HB2.out.size)).trans (hbc.mono (by have := HB2.out.size; omega))).trans (hb3.mono (by have := HB2.out.size; omega)))
  obtain ⟨b0, b1, b2, b3, b4, b5, b6, b7⟩ := box_cells g3
  clear hn2 hb2 hn12 hba hbc hb3 ga gc g3 ha hc HN1
  go_wp2_with fail
  refine (show_any w3 ex10 _ HCAT.out (HE.out.below (Nat.le_refl _) HB3.out) (by rw [all_ex10]; decide)).mono ?_
  rintro e w4 ⟨T, c, rfl, hT, hb4⟩
  obtain ⟨rfl, rfl⟩ := is_ex10 hT
  have HB4 := Lib.hid (HB3.out.trans (hb4.mono HB3.out.size))
  clear hT hb4 b0 b1 b2 b3 b4 b5 b6 b7 hwa hwc hw3 ea ec
  go_wp2_with fail
  refine (show_any w4 nilN _ (nd_nil w4) (HE.out.below (Nat.le_refl _) HB4.out) (by rw [all_nil10]; decide)).mono ?_
  rintro e w5 ⟨T, c, rfl, hT, hb5⟩
  obtain ⟨rfl, rfl⟩ := is_nil10 hT
  have HB5 := Lib.hid (HB4.out.trans (hb5.mono HB4.out.size))
  clear hT hb5
  go_wp2
  go_ret
  exact ⟨rfl, HB5.out⟩
end Go.Proofs.YtanffablfgnioaaGreatDoor
namespace Go.Proofs.YtanffablfgnioaaGreatDoor.Fd
set_option linter.unusedVariables false
abbrev Blk := Int × Int × Int
def blocksL : List Blk := [(65, 90, 32), (192, 214, 32), (216, 222, 32), (913, 929, 32), (931, 939, 32), (1040, 1071, 32), (1024, 1039, 80), (255, 255, 121), (181, 181, 743), (931, 931, 31), (75, 75, 8415), (197, 197, 8294), (83, 83, 300), (937, 937, 7549)]
theorem blocks_len : blocksL.length = 14 := rfl
def partner (b : Blk) (x : Int) : Int :=
  if b.1 ≤ x ∧ x ≤ b.2.1 then x + b.2.2 else if b.1 + b.2.2 ≤ x ∧ x ≤ b.2.1 + b.2.2 then x - b.2.2 else x
def addB (x : Int) (o : List Int) (b : Blk) : List Int := if joinB o (partner b x) then o else o ++ [partner b x]
def scan (x : Int) (o : List Int) : List Int := blocksL.foldl (addB x) o
def walkL (r : Int) : Nat → List Int
  | 0 => [r]
  | v + 1 => scan ((walkL r v)[v]?.getD 0) (walkL r v)
theorem addB_len (x : Int) (o : List Int) (b : Blk) : o.length ≤ (addB x o b).length ∧ (addB x o b).length ≤ o.length + 1 := by
  unfold addB; split <;> simp
theorem scan_len (x : Int) : ∀ (bs : List Blk) (o : List Int), o.length ≤ (bs.foldl (addB x) o).length ∧ (bs.foldl (addB x) o).length ≤ o.length + bs.length
  | [], o => by simp
  | b :: bs, o => by
    have h1 := addB_len x o b
    have h2 := scan_len x bs (addB x o b)
    rw [List.foldl_cons, List.length_cons]; omega
theorem walk_len (r : Int) : ∀ v, 1 ≤ (walkL r v).length ∧ (walkL r v).length ≤ 1 + v * 14
  | 0 => ⟨Nat.le_refl _, Nat.le_refl _⟩
  | v + 1 => by
    have h1 := walk_len r v
    have h2 := scan_len ((walkL r v)[v]?.getD 0) blocksL (walkL r v)
    rw [blocks_len] at h2
    show 1 ≤ (scan _ _).length ∧ (scan _ _).length ≤ _
    unfold scan; omega
/-- What is in no pair has no partner. -/
theorem partner_none {r : Int} (h : r ∉ members) : ∀ b ∈ blocksL, partner b r = r := by
  have hf : ∀ b ∈ blocksL, ∀ x, b.1 ≤ x → x ≤ b.2.1 → x ∈ membersE ∧ x + b.2.2 ∈ membersE := by
    have hd : (blocksL.all fun b => (List.range (b.2.1 - b.1 + 1).toNat).all fun (i : Nat) => joinB membersE (b.1 + i) && joinB membersE (b.1 + i + b.2.2)) = true := by decide +kernel
    intro b hb x h1 h2
    have h3 := List.all_eq_true.1 (List.all_eq_true.1 hd b hb) (x - b.1).toNat (List.mem_range.2 (by omega))
    simp only [Bool.and_eq_true, joinB_iff] at h3
    rw [show b.1 + (((x - b.1).toNat : Nat) : Int) = x from by omega] at h3
    exact h3
  intro b hb
  unfold partner
  by_cases h1 : b.1 ≤ r ∧ r ≤ b.2.1
  · exact absurd (by rw [← membersE_eq]; exact (hf b hb r h1.1 h1.2).1) h
  · rw [if_neg h1]
    by_cases h2 : b.1 + b.2.2 ≤ r ∧ r ≤ b.2.1 + b.2.2
    · refine absurd ?_ h
      rw [← membersE_eq]
      have := (hf b hb (r - b.2.2) (by omega) (by omega)).2
      rwa [show r - b.2.2 + b.2.2 = r from by omega] at this
    · rw [if_neg h2]
theorem scan_none {r : Int} : ∀ (bs : List Blk), (∀ b ∈ bs, partner b r = r) → bs.foldl (addB r) [r] = [r]
  | [], _ => rfl
  | b :: bs, h => by
    have : addB r [r] b = [r] := by
      unfold addB; rw [h b (by simp), if_pos ((joinB_iff _ _).2 (by simp))]
    rw [List.foldl_cons, this]
    exact scan_none bs fun c hc => h c (by simp [hc])
/-- The same, so written that it reckons fast. -/
def scanF (x : Int) : List Blk → List Int → List Int
  | [], o => o
  | b :: bs, o => force (addB x o b) (scanF x bs)
theorem scanF_eq (x : Int) : ∀ (bs : List Blk) (o : List Int), scanF x bs o = bs.foldl (addB x) o
  | [], _ => rfl
  | b :: bs, o => by rw [scanF, force_eq, List.foldl_cons, scanF_eq x bs]
def walkF (r : Int) : Nat → List Int
  | 0 => [r]
  | v + 1 => force (walkF r v) fun o => scanF (o[v]?.getD 0) blocksL o
theorem walkF_eq (r : Int) : ∀ v, walkF r v = walkL r v
  | 0 => rfl
  | v + 1 => by rw [walkF, force_eq, scanF_eq, walkF_eq r v]; rfl
/-- Where the walk ends, and that it goes on till then. -/
def okW (r : Int) (N : Nat) : Bool := decide (1 ≤ N) && decide (N ≤ 3) && decide ((walkF r N).length = N) && ((List.range N).all fun v => decide (v < (walkF r v).length)) && (walkF r N).isPerm (famF r)
theorem walks_ok : (membersE.all fun r => okW r 2 || okW r 3) = true := by decide +kernel
theorem walk_cases (r : Int) : ∃ N, 1 ≤ N ∧ N ≤ 3 ∧ (walkL r N).length = N ∧ (∀ v, v < N → v < (walkL r v).length) ∧ (walkL r N).Perm (fam r) := by
  have hk : ∀ N, okW r N = true → 1 ≤ N ∧ N ≤ 3 ∧ (walkL r N).length = N ∧ (∀ v, v < N → v < (walkL r v).length) ∧ (walkL r N).Perm (fam r) := by
    intro N h
    simp only [okW, Bool.and_eq_true, decide_eq_true_eq, List.all_eq_true, List.mem_range, walkF_eq, List.isPerm_iff, famF_eq] at h
    exact ⟨h.1.1.1.1, h.1.1.1.2, h.1.1.2, h.1.2, h.2⟩
  by_cases h : r ∈ members
  · have h1 := List.all_eq_true.1 walks_ok r (by rw [membersE_eq]; exact h)
    rw [Bool.or_eq_true] at h1
    rcases h1 with h1 | h1
    · exact ⟨2, hk 2 h1⟩
    · exact ⟨3, hk 3 h1⟩
  · have e : walkL r 1 = [r] := by
      have h0 : walkL r 1 = scan r [r] := rfl
      rw [h0]; unfold scan; exact scan_none blocksL (partner_none h)
    refine ⟨1, Nat.le_refl _, by omega, by rw [e]; rfl, fun v hv => ?_, ?_⟩
    · obtain rfl : v = 0 := by omega
      exact Nat.zero_lt_one
    · rcases fam_cases r with ⟨_, h1⟩ | ⟨h1, _⟩
      · rw [e, h1]
      · exact absurd h1 h
/-- Sorted, what the walk found is the family. -/
theorem sorted_fam {r : Int} {l : List Int} (h : l.Perm (fam r)) : (l.mergeSort fun x y => decide (x ≤ y)) = fam r := by
  have hs : (l.mergeSort fun x y => decide (x ≤ y)).Pairwise (fun a b => a ≤ b) := by
    have := List.pairwise_mergeSort (le := fun (x y : Int) => decide (x ≤ y)) (fun a b c h1 h2 => by simp only [decide_eq_true_eq] at *; omega) (fun a b => by simp only [Bool.or_eq_true, decide_eq_true_eq]; omega) l
    exact this.imp (fun h => by simpa using h)
  have hp : (l.mergeSort fun x y => decide (x ≤ y)).Perm (fam r) := (List.mergeSort_perm _ _).trans h
  exact hp.eq_of_pairwise (le := fun a b => a ≤ b) (fun a b _ _ h1 h2 => by omega) hs ((fam_asc r).imp (fun h => by omega))
end Go.Proofs.YtanffablfgnioaaGreatDoor.Fd
namespace Go.Proofs.YtanffablfgnioaaGreatDoor.Fd
open Go.Proofs.YtanffablfgnioaaGreatDoor.Rg
set_option linter.unusedVariables false
def pairedOf (bs : List Blk) : List R := bs.flatMap fun b => [(b.1, b.2.1), (b.1 + b.2.2, b.2.1 + b.2.2)]
def pairedL : List R := pairedOf blocksL
theorem pairedOf_len (bs : List Blk) : (pairedOf bs).length = bs.length * 2 := by
  induction bs with
  | nil => rfl
  | cons b bs ih => unfold pairedOf at *; rw [List.flatMap_cons, List.length_append, ih]; simp; omega
theorem pairedOf_succ (i : Nat) (hi : i < 14) : pairedOf (blocksL.take (i + 1)) = pairedOf (blocksL.take i) ++ [((blocksL[i]?.getD (0, 0, 0)).1, (blocksL[i]?.getD (0, 0, 0)).2.1), ((blocksL[i]?.getD (0, 0, 0)).1 + (blocksL[i]?.getD (0, 0, 0)).2.2, (blocksL[i]?.getD (0, 0, 0)).2.1 + (blocksL[i]?.getD (0, 0, 0)).2.2)] := by
  unfold pairedOf
  rw [List.take_succ_eq_append_getElem (by rw [blocks_len]; exact hi), List.flatMap_append, List.getElem?_eq_getElem (by rw [blocks_len]; exact hi)]
  simp
theorem paired_bd : ∀ p ∈ pairedL, 0 ≤ p.1 ∧ p.1 ≤ 10000 ∧ 0 ≤ p.2 ∧ p.2 ≤ 10000 := by decide +kernel
theorem paired_all : (membersE.all fun x => hasB pairedL x) = true := by decide +kernel
theorem paired_has {x : Int} (h : x ∈ members) : hasB pairedL x = true := by
  rw [← membersE_eq] at h; exact List.all_eq_true.1 paired_all x h
def famsUp (lo : Int) : Nat → List R
  | 0 => []
  | k + 1 => famsUp lo k ++ (fam (lo + k)).map one
def famsR (x : R) : List R := famsUp x.1 (x.2 - x.1 + 1).toNat
def famsL (B : List R) : List R := B.flatMap famsR
theorem famsUp_len (lo : Int) : ∀ k, (famsUp lo k).length ≤ 3 * k
  | 0 => Nat.le_refl _
  | k + 1 => by
    have h1 := famsUp_len lo k
    have h2 := (fam_len (lo + k)).2
    rw [famsUp, List.length_append, List.length_map]; omega
theorem famsUp_mem (lo : Int) : ∀ k p, p ∈ famsUp lo k ↔ ∃ j : Nat, j < k ∧ ∃ q ∈ fam (lo + j), p = one q
  | 0, p => by simp [famsUp]
  | k + 1, p => by
    rw [famsUp, List.mem_append, famsUp_mem lo k, List.mem_map]
    constructor
    · rintro (⟨j, hj, h⟩ | ⟨q, hq, rfl⟩)
      · exact ⟨j, by omega, h⟩
      · exact ⟨k, by omega, q, hq, rfl⟩
    · rintro ⟨j, hj, q, hq, rfl⟩
      by_cases e : j = k
      · subst e; exact .inr ⟨q, hq, rfl⟩
      · exact .inl ⟨j, by omega, q, hq, rfl⟩
theorem famsL_mem (B : List R) (p : R) : p ∈ famsL B ↔ ∃ x ∈ B, ∃ r, x.1 ≤ r ∧ r ≤ x.2 ∧ ∃ q ∈ fam r, p = one q := by
  unfold famsL famsR
  rw [List.mem_flatMap]
  constructor
  · rintro ⟨x, hx, hp⟩
    rw [famsUp_mem] at hp
    obtain ⟨j, hj, q, hq, e⟩ := hp
    exact ⟨x, hx, x.1 + j, by omega, by omega, q, hq, e⟩
  · rintro ⟨x, hx, r, h1, h2, q, hq, e⟩
    refine ⟨x, hx, ?_⟩
    rw [famsUp_mem]
    refine ⟨(r - x.1).toNat, by omega, q, ?_, e⟩
    rwa [show x.1 + (((r - x.1).toNat : Nat) : Int) = r by omega]
theorem famsL_len : ∀ (B : List R) (lo : Int) (k : Nat), NormFrom lo B → lo ≤ 1114113 → ((famsL (B.take k)).length : Int) ≤ 3 * (1114113 - lo)
  | [], lo, k, _, h => by simp [famsL]; omega
  | p :: B, lo, 0, _, h => by simp [famsL]; omega
  | p :: B, lo, k + 1, ⟨h1, h2, h3, h4⟩, h => by
    have ih := famsL_len B (p.2 + 2) k h4 (by omega)
    have hu := famsUp_len p.1 (p.2 - p.1 + 1).toNat
    have e : famsL ((p :: B).take (k + 1)) = famsR p ++ famsL (B.take k) := by simp [famsL]
    rw [e, List.length_append]
    unfold famsR
    push_cast
    omega
theorem famsL_take {B : List R} (h : NormL B) (k : Nat) : (famsL (B.take k)).length ≤ 3342339 := by
  have := famsL_len B 0 k h (by omega)
  omega
theorem famsL_succ (B : List R) (j : Nat) (hj : j < B.length) : famsL (B.take (j + 1)) = famsL (B.take j) ++ famsR (B[j]?.getD (0, 0)) := by
  unfold famsL
  rw [List.take_succ_eq_append_getElem hj, List.flatMap_append, List.getElem?_eq_getElem hj]
  simp
theorem famsL_wide {B : List R} (h : NormL B) : ∀ p ∈ famsL B, -9223372036854775808 ≤ p.1 ∧ p.1 ≤ 9223372036854775807 ∧ -9223372036854775808 ≤ p.2 ∧ p.2 ≤ 9223372036854775807 := by
  intro p hp
  obtain ⟨x, hx, r, h1, h2, q, hq, rfl⟩ := (famsL_mem B p).1 hp
  have hn := norm_lo B 0 h x hx
  have hb := fam_bd hq
  show -9223372036854775808 ≤ q ∧ q ≤ 9223372036854775807 ∧ -9223372036854775808 ≤ q ∧ q ≤ 9223372036854775807
  omega
/-- What the landed Close hands back: the list, and what is in a pair with its families. -/
theorem close_ok {l B out : List R} (hB : Made 2 l pairedL B) (ho : Made 1 l (famsL B) out) (q : Int) : hasB out q = clB l q := by
  by_cases hq : 0 ≤ q ∧ q ≤ 1114111
  · rw [ho.has q hq.1 hq.2]
    rw [show opB 1 (hasB l q) (hasB (famsL B) q) = (hasB l q || hasB (famsL B) q) by simp [opB]]
    rw [Bool.eq_iff_iff, Bool.or_eq_true]
    unfold clB
    rw [Bool.and_eq_true, decide_eq_true_eq]
    constructor
    · rintro (h | h)
      · exact ⟨hq, List.any_eq_true.2 ⟨q, fam_self q, h⟩⟩
      · obtain ⟨_, p, hp, h1, h2⟩ := (hasB_iff _ _).1 h
        obtain ⟨x, hx, r, hr1, hr2, q', hq', rfl⟩ := (famsL_mem B p).1 hp
        have e : q = q' := by
          have h1' : q' ≤ q := h1
          have h2' : q ≤ q' := h2
          omega
        subst e
        have hxn := norm_lo B 0 hB.norm x hx
        have hbr : hasB B r = true := (hasB_iff _ _).2 ⟨by omega, x, hx, hr1, hr2⟩
        rw [hB.has r (by omega) (by omega)] at hbr
        have hlr : hasB l r = true := by
          have : (hasB l r && hasB pairedL r) = true := by simpa [opB] using hbr
          exact (Bool.and_eq_true _ _ ▸ this).1
        exact ⟨hq, List.any_eq_true.2 ⟨r, by rw [fam_same hq']; exact fam_self r, hlr⟩⟩
    · rintro ⟨_, hany⟩
      obtain ⟨y, hy, hly⟩ := List.any_eq_true.1 hany
      by_cases e : y = q
      · subst e; exact .inl hly
      · refine .inr ?_
        have hym : y ∈ members := by
          rcases fam_cases y with ⟨_, h1⟩ | ⟨h1, _⟩
          · exfalso
            have hsq := fam_self q
            rw [← fam_same hy, h1] at hsq
            exact e (List.mem_singleton.1 hsq).symm
          · exact h1
        have hyb : 0 ≤ y ∧ y ≤ 1114111 := ((hasB_iff l y).1 hly).1
        have hby : hasB B y = true := by
          rw [hB.has y hyb.1 hyb.2]
          rw [hly, paired_has hym]; rfl
        obtain ⟨_, x, hx, h1, h2⟩ := (hasB_iff _ _).1 hby
        refine (hasB_iff _ _).2 ⟨hq, one q, (famsL_mem B _).2 ⟨x, hx, y, h1, h2, q, by rw [fam_same hy]; exact fam_self q, rfl⟩, Int.le_refl _, Int.le_refl _⟩
  · have e1 : ∀ m, hasB m q = false := fun m => by unfold hasB; rw [decide_eq_false hq, Bool.false_and]
    unfold clB
    rw [e1, decide_eq_false hq, Bool.false_and]
end Go.Proofs.YtanffablfgnioaaGreatDoor.Fd
namespace Go.Proofs.YtanffablfgnioaaGreatDoor.Ps
open Lx (Tk)
open Go.Proofs.YtanffablfgnioaaGreatDoor.Rg
set_option linter.unusedVariables false
abbrev TL := List (Int × Tk)
/-- What is parsed: a tree, the tokens behind it, the flags, how many groups were opened; or an error and its place. -/
inductive PR where
  | bad (at_ code : Int)
  | ok (x : Nd) (rest : TL) (fl gr : Int)
def kd : TL → Int
  | [] => 0
  | p :: _ => p.2.kind
def pl : TL → Int
  | [] => 0
  | p :: _ => p.1
def hd : TL → Tk
  | [] => {}
  | p :: _ => p.2
/-- The flags behind a token that sets and clears some. -/
def turnP (f : Int) (t : Tk) : Int := bits .andNot .i64 (bits .or .i64 f t.mn) t.mx
def hasP (f b : Int) : Bool := bits .and .i64 f b != 0
def leafN (k num : Int) : Nd := .mk k [] num ⟨#[]⟩ 0 0 false []
def manyN (k : Int) (l : List Nd) : Nd := .mk k [] 0 ⟨#[]⟩ 0 0 false l
/-- A list, or what stands for none, one. -/
def joinN (k : Int) : List Nd → Nd
  | [] => leafN 1 0
  | [x] => x
  | l => manyN k l
def setN : List R → Nd
  | [] => leafN 2 0
  | l => .mk 3 l 0 ⟨#[]⟩ 0 0 false []
open Classical in
/-- The list of a class. -/
noncomputable def clsL (c : Br.Cls) : List R := if h : ∃ out, Br.SetIs c out then Classical.choose h else []
theorem clsL_is {c : Br.Cls} {out : List R} (h : Br.SetIs c out) : clsL c = out := by
  unfold clsL
  have hx : ∃ out, Br.SetIs c out := ⟨out, h⟩
  rw [dif_pos hx]
  exact Br.setIs_unique (Classical.choose_spec hx) h
def ClosedAs (l out : List R) : Prop := NormL out ∧ ∀ q, hasB out q = Fd.clB l q
open Classical in
/-- The list of all members of a list's families. -/
noncomputable def closeL (l : List R) : List R := if h : ∃ out, ClosedAs l out then Classical.choose h else []
theorem closeL_is {l out : List R} (h : ClosedAs l out) : closeL l = out := by
  unfold closeL
  have hx : ∃ out, ClosedAs l out := ⟨out, h⟩
  rw [dif_pos hx]
  have h2 := Classical.choose_spec hx
  exact norm_ext h2.1 h.1 (fun q _ _ => by rw [h2.2 q, h.2 q])
def BrkAs (s : ByteArray) (fo : Bool) (out : List R) : Prop := ∃ Xs at_, Br.brack s = .ok Xs at_ ∧ Br.BrIs Xs fo (decide (Br.first (Utf.nums s) = 2)) out
open Classical in
/-- The list of a bracket expression. -/
noncomputable def brkL (s : ByteArray) (fo : Bool) : List R := if h : ∃ out, BrkAs s fo out then Classical.choose h else []
theorem brkL_is {s : ByteArray} {fo : Bool} {out : List R} (h : BrkAs s fo out) : brkL s fo = out := by
  unfold brkL
  have hx : ∃ out, BrkAs s fo out := ⟨out, h⟩
  rw [dif_pos hx]
  obtain ⟨X1, a1, e1, h1⟩ := Classical.choose_spec hx
  obtain ⟨X2, a2, e2, h2⟩ := h
  rw [e1] at e2
  injection e2 with e2 _
  subst e2
  exact Br.brIs_unique h1 h2
noncomputable def foldL (f : Int) (l : List R) : List R := if hasP f 1 then closeL l else l
/-- An atom that opens nothing. -/
noncomputable def leafOf (f : Int) (t : Tk) : Nd :=
  if t.kind = 1 then setN (foldL f [(t.num, t.num)]) else
  if t.kind = 2 then setN (foldL f (clsL t.cls)) else
  if t.kind = 3 then setN (if hasP f 4 then [(0, 1114111)] else [(0, 9), (11, 1114111)]) else
  if t.kind = 4 then leafN 4 0 else
  if t.kind = 5 then leafN 5 t.num else
  if t.kind = 6 then leafN 5 (if hasP f 2 then 3 else 1) else
  if t.kind = 7 then leafN 5 (if hasP f 2 then 4 else 2) else
  setN (brkL t.name (hasP f 1))
/-- An atom with the repetition behind it. -/
def repN (f : Int) (x : Nd) (L : TL) : Nd := if kd L = 8 then .mk 9 [] 0 ⟨#[]⟩ (hd L).mn (hd L).mx ((hd L).lazy != hasP f 8) [x] else x
def repT (L : TL) : TL := if kd L = 8 then L.tail else L
mutual
/-- Alternatives: S is what is parsed of them. -/
noncomputable def altP : Nat → TL → Int → Int → List Nd → PR
  | 0, _, _, _, _ => .bad 0 0
  | n + 1, L, f, g, S =>
    match seqP n L f g [] with
    | .bad a e => .bad a e
    | .ok x L' f' g' => if kd L' = 12 then altP n L'.tail f' g' (S ++ [x]) else .ok (joinN 8 (S ++ [x])) L' f' g'
/-- A sequence: A is what is parsed of it. -/
noncomputable def seqP : Nat → TL → Int → Int → List Nd → PR
  | 0, _, _, _, _ => .bad 0 0
  | n + 1, L, f, g, A =>
    if kd L = 12 ∨ kd L = 11 ∨ kd L = 0 then .ok (joinN 7 A) L f g else
    if kd L = 8 then .bad (pl L) 91 else
    if kd L = 10 then seqP n L.tail (turnP f (hd L)) g A else
    match atomP n L f g with
    | .bad a e => .bad a e
    | .ok x L' f' g' => seqP n (repT L') f' g' (A ++ [repN f' x L'])
noncomputable def atomP : Nat → TL → Int → Int → PR
  | 0, _, _, _ => .bad 0 0
  | n + 1, L, f, g =>
    if kd L = 9 then
      match altP n L.tail (turnP f (hd L)) (g + (hd L).num) [] with
      | .bad a e => .bad a e
      | .ok x L' f' g' => if kd L' = 11 then .ok (if (hd L).num = 0 then x else .mk 6 [] (g + (hd L).num) (hd L).name 0 0 false [x]) L'.tail f g' else .bad (pl L') 82
    else .ok (leafOf f (hd L)) L.tail f g
end
theorem altP_eq (n : Nat) (L : TL) (f g : Int) (S : List Nd) : altP (n + 1) L f g S = match seqP n L f g [] with
    | .bad a e => .bad a e
    | .ok x L' f' g' => if kd L' = 12 then altP n L'.tail f' g' (S ++ [x]) else .ok (joinN 8 (S ++ [x])) L' f' g' := by rw [altP]
theorem seqP_eq (n : Nat) (L : TL) (f g : Int) (A : List Nd) : seqP (n + 1) L f g A =
    if kd L = 12 ∨ kd L = 11 ∨ kd L = 0 then .ok (joinN 7 A) L f g else
    if kd L = 8 then .bad (pl L) 91 else
    if kd L = 10 then seqP n L.tail (turnP f (hd L)) g A else
    match atomP n L f g with
    | .bad a e => .bad a e
    | .ok x L' f' g' => seqP n (repT L') f' g' (A ++ [repN f' x L']) := by rw [seqP]
theorem atomP_eq (n : Nat) (L : TL) (f g : Int) : atomP (n + 1) L f g =
    if kd L = 9 then
      match altP n L.tail (turnP f (hd L)) (g + (hd L).num) [] with
      | .bad a e => .bad a e
      | .ok x L' f' g' => if kd L' = 11 then .ok (if (hd L).num = 0 then x else .mk 6 [] (g + (hd L).num) (hd L).name 0 0 false [x]) L'.tail f g' else .bad (pl L') 82
    else .ok (leafOf f (hd L)) L.tail f g := by rw [atomP]
/-- What is left of tokens is an end of them. -/
def Sf (L' L : TL) : Prop := ∃ k, L' = L.drop k
theorem Sf.refl (L : TL) : Sf L L := ⟨0, rfl⟩
theorem Sf.tail {L' L : TL} (h : Sf L' L.tail) : Sf L' L := by
  obtain ⟨k, rfl⟩ := h
  exact ⟨k + 1, by rw [← List.drop_one, List.drop_drop, Nat.add_comm]⟩
theorem Sf.trans {A B C : TL} (h : Sf A B) (k : Sf B C) : Sf A C := by
  obtain ⟨i, rfl⟩ := h
  obtain ⟨j, rfl⟩ := k
  exact ⟨j + i, by rw [List.drop_drop]⟩
theorem Sf.rep {A B : TL} (h : Sf A B) : Sf (repT A) B := by
  unfold repT
  split
  · exact Sf.trans ⟨1, List.drop_one.symm⟩ h
  · exact h
/-- The tokens of a pattern: none is of kind 0, but the one behind them. -/
def Ends (L : TL) : Prop := ∃ T z, L = T ++ [z] ∧ z.2.kind = 0 ∧ ∀ p ∈ T, 1 ≤ p.2.kind ∧ p.2.kind ≤ 13
theorem Ends.pos {L : TL} (h : Ends L) : 1 ≤ L.length := by
  obtain ⟨T, z, rfl, _⟩ := h
  simp
theorem Ends.tail {L : TL} (h : Ends L) (h0 : kd L ≠ 0) : Ends L.tail := by
  obtain ⟨T, z, rfl, hz, hT⟩ := h
  cases T with
  | nil => exact absurd hz h0
  | cons p T => exact ⟨T, z, rfl, hz, fun q hq => hT q (by simp [hq])⟩
theorem Ends.kd {L : TL} (h : Ends L) : 0 ≤ kd L ∧ kd L ≤ 13 := by
  obtain ⟨T, z, rfl, hz, hT⟩ := h
  cases T with
  | nil => show 0 ≤ z.2.kind ∧ z.2.kind ≤ 13; omega
  | cons p T =>
    have := hT p (by simp)
    show 0 ≤ p.2.kind ∧ p.2.kind ≤ 13
    omega
theorem Ends.rep {L : TL} (h : Ends L) : Ends (repT L) := by
  unfold repT
  split
  · rename_i h8
    exact h.tail (by omega)
  · exact h
end Go.Proofs.YtanffablfgnioaaGreatDoor.Ps
