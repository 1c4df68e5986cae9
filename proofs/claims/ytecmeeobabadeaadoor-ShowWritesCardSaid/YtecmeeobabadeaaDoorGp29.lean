/- The landed show: Show. · The reference's tree (burinref06): Nullable. · The landed tree: nullable, with slices.ContainsFunc, IndexFunc and the closures; Nullable. · The landed tree: nullable, Nullable. · burinlaw06.letter, works. · The laws of show: the chapter's example. · The book's tree (burinbook): Weigh, Great. -/
import Derived.Test.YtecmeeobabadeaaDoorGp22
import Derived.Test.YtecmeeobabadeaaDoorGp28
import Derived.Test.YtecmeeobabadeaaDoorGp2
import Derived.IntWalk
import Derived.Test.YtecmeeobabadeaaDoorGp4
import Derived.Test.YtecmeeobabadeaaDoorGp17
import Derived.BigQuiet
namespace Go.Proofs.YtecmeeobabadeaaDoor
open Go.RowKit
set_option linter.unusedVariables false
/-- What Show answers: the error of Check; that it is too long; or the pattern. -/
def ShowIs (n : Nd) (T : ByteArray) (c : Int) : Prop := (Td.checkN n ≠ 0 ∧ T = ⟨#[]⟩ ∧ c = Td.checkN n) ∨ (Td.checkN n = 0 ∧ ShT (Sh.shL 1000 n) T c)
set_option maxRecDepth 100000 in
set_option maxHeartbeats 8000000 in
theorem show_any (W : World) (n : Nd) (cs : List Value) (hn : NdIs W n cs) (hE : EvS W) (hlen : (Td.all 1000 1 n).length ≤ 1000000) :
    Calls Tryd.prog 6 #[.agg cs.toArray] W fun e w' => ∃ T c, e = .returned (.tuple #[.string T, .int .i64 c]) ∧ ShowIs n T c ∧ Below W.heap.size W w' := by
  have hon := NdOn.of hn
  obtain ⟨u0, u1, u2, u3, u4, u5, u6, u7, sa, sc, aa, ac, rfl, F⟩ := hn.form_of
  obtain ⟨wb, hwb⟩ : ∃ wb, W.alloc (.cells #[u0, u1, u2, u3, u4, u5, u6, u7] 25) = wb := ⟨_, rfl⟩
  have hbb : Below W.heap.size W wb := by rw [← hwb]; exact (Below.refl _ _).alloc (Nat.le_refl _) _
  have hbx : wb.heap[W.heap.size]? = some (.cells #[u0, u1, u2, u3, u4, u5, u6, u7] 25 (0, 0)) := by rw [← hwb]; exact heap_alloc_new _ _
  have HCK := Lib.hid (callsIn_wide.1 (check_in 3 (by omega) wb n _ (hn.kept hbb) hlen))
  obtain ⟨d0, d1, d2, d3, d4, d5, d6, d7⟩ := box_cells hbx
  obtain ⟨s0, hs0⟩ : ∃ s0, W.heap.size = s0 := ⟨_, rfl⟩
  have HS0 := Lib.hid hs0
  have HWB := Lib.hid hwb
  have HBB := Lib.hid hbb
  have HBX := Lib.hid hbx
  have HON := Lib.hid hon
  have HE := Lib.hid hE
  have hszb : s0 + 1 = wb.heap.size := by rw [← hwb, World.size_alloc, hs0]
  obtain ⟨C, hC⟩ : ∃ C, Td.checkN n = C := ⟨_, rfl⟩
  have HC := Lib.hid hC
  rw [hC] at HCK
  obtain ⟨rfl, rfl, rfl, rfl, rfl, rfl, rfl, rfl⟩ := F
  clear hbb hbx hwb hon hE hn hC hlen
  rw [hs0] at d0 d1 d2 d3 d4 d5 d6 d7 HBX
  by_cases h0 : C = 0
  · subst h0
    have HFS := Lib.hid (fit_check HC.out)
    clear hs0
    go_enter Tryd.func6, Tryd.ntmps6
    go_wp2_with fail
    rw [HWB.out, HS0.out]
    refine HCK.out.mono ?_
    rintro e w1 ⟨rfl, hb1⟩
    have hb01 : Below W.heap.size W w1 := HBB.out.trans (hb1.mono HBB.out.size)
    have hx1 := (hb1.block _ (by omega)).trans HBX.out
    obtain ⟨wp, hwp⟩ : ∃ wp, w1.alloc (.cells #[.slice none 0 0] 37) = wp := ⟨_, rfl⟩
    have hbp : Below w1.heap.size w1 wp := by rw [← hwp]; exact (Below.refl _ _).alloc (Nat.le_refl _) _
    have hpx : wp.heap[w1.heap.size]? = some (.cells #[.slice none 0 0] 37 (0, 0)) := by rw [← hwp]; exact heap_alloc_new _ _
    have hs1 := hb01.size
    have hpr : PrOk wp w1.heap.size [] := ⟨_, hpx, rfl, .inl ⟨rfl, rfl⟩⟩
    have hb0p : Below W.heap.size W wp := hb01.trans (hbp.mono hs1)
    have hop := (HON.out.kept hb0p.size (fun b hb hlt => hb0p.block b hlt)).mono (S' := fun b => b < w1.heap.size) (fun b hb => Nat.lt_of_lt_of_le hb hs1)
    have HPT := Lib.hid (pattern_show w1 wp w1.heap.size 1000 n _ HFS.out hpr ⟨HE.out.below (Nat.le_refl _) hb01, Nat.le_refl _, hbp⟩ hop)
    have HB0P := Lib.hid hb0p
    obtain ⟨b0, b1, b2, b3, b4, b5, b6, b7⟩ := box_cells ((hbp.block _ (Array.getElem?_eq_some_iff.1 hx1).1).trans hx1)
    clear hb1 hb01 hx1 hbp hpx hpr hb0p hop
    go_wp2_with fail
    refine HPT.out.mono ?_
    rintro e w2 ⟨T, c, rfl, hT, hb2⟩
    have HFIN : Hid (ShowIs n T c) := Lib.hid (.inr ⟨HC.out, hT⟩)
    have HB2 : Hid (Below W.heap.size W w2) := Lib.hid (HB0P.out.trans (hb2.mono hs1))
    clear hT hb2
    go_wp2
    go_ret2
    exact ⟨T, c, rfl, HFIN.out, HB2.out⟩
  · have hC0 : (C == 0) = false := by rw [beq_eq_false_iff_ne]; exact h0
    have HFIN : Hid (ShowIs n ⟨#[]⟩ C) := Lib.hid (.inl ⟨by rw [HC.out]; exact h0, rfl, HC.out.symm⟩)
    clear hs0 h0
    go_enter Tryd.func6, Tryd.ntmps6
    go_wp2_with fail
    rw [HWB.out, HS0.out]
    refine HCK.out.mono ?_
    rintro e w1 ⟨rfl, hb1⟩
    have HB1 : Hid (Below W.heap.size W w1) := Lib.hid (HBB.out.trans (hb1.mono HBB.out.size))
    clear hb1
    go_wp2
    go_ret2
    exact ⟨_, _, rfl, HFIN.out, HB1.out⟩
end Go.Proofs.YtecmeeobabadeaaDoor
namespace Go.Proofs.YtecmeeobabadeaaDoor
open Go.RowKit
set_option linter.unusedVariables false
namespace Td
end Td



















































































































end Go.Proofs.YtecmeeobabadeaaDoor
namespace Go.Proofs.YtecmeeobabadeaaDoor
open Go.RowKit
set_option linter.unusedVariables false































































































































































end Go.Proofs.YtecmeeobabadeaaDoor
namespace Go.Proofs.YtecmeeobabadeaaDoor
open Go.RowKit
set_option linter.unusedVariables false
end Go.Proofs.YtecmeeobabadeaaDoor
namespace Go.Proofs.YtecmeeobabadeaaDoor
open Go.RowKit
set_option linter.unusedVariables false
def letN (c : Int) : Nd := .mk 3 [(c, c)] 0 ⟨#[]⟩ 0 0 false []
theorem i64_0 : I64 0 := by unfold I64; omega
def letC (g : Nat) : List Value := [.int .i64 3, .slice (some ⟨g, 0, none⟩) 1 1, .int .i64 0, .string ⟨#[]⟩, .int .i64 0, .int .i64 0, .bool false, .slice none 0 0]




















theorem isE0 : (⟨#[]⟩ : ByteArray).toList.isEmpty = true := by simp [ByteArray.toList_eq]
theorem fits_let (c : Int) (h : 0 ≤ c ∧ c ≤ 1114111) : Td.fitsB (letN c) = true := by
  rw [Td.told3 rfl]
  have h1 : Rg.checkF none [(c, c)] = 0 := by
    have h2 : Rg.check1 none (c, c) = 0 := by
      unfold Rg.check1
      rw [if_neg (by dsimp only; omega), if_neg (by simp)]
    unfold Rg.checkF
    rw [if_pos h2]; rfl
  show ((true && (Rg.checkF none [(c, c)] == 0)) && Td.sameB 1000 (.mk 3 [] 0 ⟨#[]⟩ 0 0 false []) (Td.zeroN 3)) = true
  rw [h1, Td.same_zero, isE0]; rfl
end Go.Proofs.YtecmeeobabadeaaDoor
namespace Go.Proofs.YtecmeeobabadeaaDoor
open Go.RowKit
set_option linter.unusedVariables false
set_option maxRecDepth 100000 in
set_option maxHeartbeats 4000000 in
theorem let10_any (W : World) (c : Int) (hc : I64 c) : Calls Tryd.prog 9 #[.int .i64 c] W fun e w' => e = .returned (.agg #[.int .i64 3, .slice (some ⟨W.heap.size + 1, 0, none⟩) 1 1, .int .i64 0, .string ⟨#[]⟩, .int .i64 0, .int .i64 0, .bool false, .slice none 0 0]) ∧ NdIs w' (letN c) [.int .i64 3, .slice (some ⟨W.heap.size + 1, 0, none⟩) 1 1, .int .i64 0, .string ⟨#[]⟩, .int .i64 0, .int .i64 0, .bool false, .slice none 0 0] ∧ Below W.heap.size W w' := by
  go_enter Tryd.func9, Tryd.ntmps9
  go_wp2
  refine ⟨rfl, .agg #[.int .i64 3, .slice (some ⟨W.heap.size + 1, 0, none⟩) 1 1, .int .i64 0, .string ⟨#[]⟩, .int .i64 0, .int .i64 0, .bool false, .slice none 0 0], by simp [results, Tryd.f9, go_sem], rfl, ?_, ((Below.refl W.heap.size W).alloc (Nat.le_refl _) _).alloc (by simp) _⟩
  refine .mk (fun _ => []) ⟨by unfold I64; omega, i64_0, i64_0, i64_0⟩ ⟨_, 1, rfl, by simp, ?_, ?_⟩ (Nat.zero_le _) (by simp) (fun j hj => absurd hj (by simp)) (fun j hj => absurd hj (by simp))
  · intro p hp
    have e : p = (c, c) := by simpa using hp
    subst e
    unfold I64 at hc
    exact ⟨hc.1, hc.2, hc.1, hc.2⟩
  · intro j hj
    have e : j = 0 := by simpa using hj
    subst e
    have key : ∀ X : World, (X.alloc (.cells #[.int .i64 c, .int .i64 c] 40)).cell? ⟨X.heap.size, 0, none⟩ = some (.int .i64 c) ∧ (X.alloc (.cells #[.int .i64 c, .int .i64 c] 40)).cell? ⟨X.heap.size, 1, none⟩ = some (.int .i64 c) := fun X => by constructor <;> simp
    have h9 := key (W.alloc (.cells #[.int .i64 3, .slice (some ⟨W.heap.size + 1, 0, none⟩) 1 1, .int .i64 0, .string ⟨#[]⟩, .int .i64 0, .int .i64 0, .bool false, .slice none 0 0] 25))
    rw [World.size_alloc] at h9
    exact ⟨W.heap.size + 1, 0, rfl, by simp, h9.1, h9.2⟩
def empN : Nd := .mk 1 [] 0 ⟨#[]⟩ 0 0 false []
def nilN : Nd := .mk 0 [] 0 ⟨#[]⟩ 0 0 false []
def ex10a : Nd := .mk 8 [] 0 ⟨#[]⟩ 0 0 false [letN 98, empN]
def ex10 : Nd := .mk 7 [] 0 ⟨#[]⟩ 0 0 false [letN 97, ex10a]
theorem nd_emp (w : World) : NdIs w empN [.int .i64 1, .slice none 0 0, .int .i64 0, .string ⟨#[]⟩, .int .i64 0, .int .i64 0, .bool false, .slice none 0 0] :=
  .mk (fun _ => []) ⟨by unfold I64; omega, i64_0, i64_0, i64_0⟩ (RRow.nil _) (by decide) (by decide) (fun j hj => absurd hj (by simp)) (fun j hj => absurd hj (by simp))
theorem nd_nil (w : World) : NdIs w nilN [.int .i64 0, .slice none 0 0, .int .i64 0, .string ⟨#[]⟩, .int .i64 0, .int .i64 0, .bool false, .slice none 0 0] :=
  .mk (fun _ => []) ⟨i64_0, i64_0, i64_0, i64_0⟩ (RRow.nil _) (by decide) (by decide) (fun j hj => absurd hj (by simp)) (fun j hj => absurd hj (by simp))
theorem all_ex10 : Td.all 1000 1 ex10 = [(1, ex10), (2, letN 97), (2, ex10a), (3, letN 98), (3, empN)] := rfl
theorem all_nil10 : Td.all 1000 1 nilN = [(1, nilN)] := rfl
theorem dep_ex10 : Td.dep 1001 ex10 = 3 := rfl
theorem dep_nil10 : Td.dep 1001 nilN = 1 := rfl
theorem fits_ex10 : Td.fitsB ex10 = true := by
  rw [Td.told7 (.inl rfl)]
  show (true && Td.sameB 1000 (.mk 7 [] 0 ⟨#[]⟩ 0 0 false []) (Td.zeroN 7)) = true
  rw [Td.same_zero, isE0]; rfl
theorem fits_ex10a : Td.fitsB ex10a = true := by
  rw [Td.told7 (.inr rfl)]
  show (true && Td.sameB 1000 (.mk 8 [] 0 ⟨#[]⟩ 0 0 false []) (Td.zeroN 8)) = true
  rw [Td.same_zero, isE0]; rfl
theorem fits_emp10 : Td.fitsB empN = true := by
  unfold Td.fitsB
  rw [show (Td.name empN) = ⟨#[]⟩ from rfl, isE0]
  rfl
theorem fits_nil10 : Td.fitsB nilN = false := by
  unfold Td.fitsB Td.fitsV
  rfl
theorem chk_ex10 : Td.checkN ex10 = 0 := by
  unfold Td.checkN
  rw [dep_ex10, if_neg (by omega), all_ex10, Td.chkF, if_neg (by rw [fits_ex10]; decide), if_pos (by decide), Td.chkF, if_neg (by rw [fits_let 97 (by omega)]; decide), if_pos (by decide), Td.chkF, if_neg (by rw [fits_ex10a]; decide), if_pos (by decide),
    Td.chkF, if_neg (by rw [fits_let 98 (by omega)]; decide), if_pos (by decide), Td.chkF, if_neg (by rw [fits_emp10]; decide), if_pos (by decide), Td.chkF]
theorem chk_nil10 : Td.checkN nilN = 60 := by
  unfold Td.checkN
  rw [dep_nil10, if_neg (by omega), all_nil10, Td.chkF, if_pos fits_nil10]
theorem sh_ex10 : Sh.shL 1000 ex10 = [97, 40, 63, 58, 98, 124, 40, 63, 58, 41, 41] := by decide +kernel
theorem is_ex10 {T : ByteArray} {c : Int} (h : ShowIs ex10 T c) : T = ⟨#[97, 40, 63, 58, 98, 124, 40, 63, 58, 41, 41]⟩ ∧ c = 0 := by
  rcases h with ⟨h, _⟩ | ⟨_, h⟩
  · exact absurd chk_ex10 h
  rw [sh_ex10] at h
  rcases h with ⟨_, h, hc⟩ | ⟨h, _⟩
  · exact ⟨Br.nums_inj' (h.trans (by decide +kernel)), hc⟩
  · exact absurd h (by decide)
theorem is_nil10 {T : ByteArray} {c : Int} (h : ShowIs nilN T c) : T = ⟨#[]⟩ ∧ c = 60 := by
  rcases h with ⟨_, h1, h2⟩ | ⟨h, _⟩
  · exact ⟨h1, by rw [h2, chk_nil10]⟩
  · rw [chk_nil10] at h; cases h
set_option maxRecDepth 100000 in
set_option maxHeartbeats 8000000 in
theorem works10_any (W : World) (hE : EvS W) : Calls Tryd.prog 5 #[] W fun e w' => e = .returned (.bool true) ∧ Below W.heap.size W w' := by
  have i97 : I64 97 := by unfold I64; omega
  have i98 : I64 98 := by unfold I64; omega
  have HE := Lib.hid hE
  clear hE
  go_enter Tryd.func5, Tryd.ntmps5
  go_wp2_with fail
  refine (let10_any W 97 i97).mono ?_
  rintro e w1 ⟨rfl, hn1, hb1⟩
  have HB1 := Lib.hid hb1
  have HN1 := Lib.hid hn1
  clear hn1 hb1
  go_wp2_with fail
  refine (let10_any w1 98 i98).mono ?_
  rintro e w2 ⟨rfl, hn2, hb2⟩
  have HB2 := Lib.hid (HB1.out.trans (hb2.mono HB1.out.size))
  have hn12 := HN1.out.kept hb2
  obtain ⟨wa, hwa⟩ : ∃ wa, w2.alloc (.cells #[.int .i64 3, .slice (some ⟨w1.heap.size + 1, 0, none⟩) 1 1, .int .i64 0, .string ⟨#[]⟩, .int .i64 0, .int .i64 0, .bool false, .slice none 0 0, .int .i64 1, .slice none 0 0, .int .i64 0, .string ⟨#[]⟩, .int .i64 0, .int .i64 0, .bool false, .slice none 0 0] 25) = wa := ⟨_, rfl⟩
  obtain ⟨wc, hwc⟩ : ∃ wc, wa.alloc (.cells #[.int .i64 3, .slice (some ⟨W.heap.size + 1, 0, none⟩) 1 1, .int .i64 0, .string ⟨#[]⟩, .int .i64 0, .int .i64 0, .bool false, .slice none 0 0, .int .i64 8, .slice none 0 0, .int .i64 0, .string ⟨#[]⟩, .int .i64 0, .int .i64 0, .bool false, .slice (some ⟨w2.heap.size, 0, none⟩) 2 2] 25) = wc := ⟨_, rfl⟩
  obtain ⟨w3, hw3⟩ : ∃ w3, wc.alloc (.cells #[.int .i64 7, .slice none 0 0, .int .i64 0, .string ⟨#[]⟩, .int .i64 0, .int .i64 0, .bool false, .slice (some ⟨w2.heap.size + 1, 0, none⟩) 2 2] 25) = w3 := ⟨_, rfl⟩
  have ea : wa.heap.size = w2.heap.size + 1 := by rw [← hwa, World.size_alloc]
  have ec : wc.heap.size = w2.heap.size + 2 := by rw [← hwc, World.size_alloc, ea]
  have hba : Below w2.heap.size w2 wa := by rw [← hwa]; exact (Below.refl _ w2).alloc (Nat.le_refl _) _
  have hbc : Below wa.heap.size wa wc := by rw [← hwc]; exact (Below.refl _ wa).alloc (Nat.le_refl _) _
  have hb3 : Below wc.heap.size wc w3 := by rw [← hw3]; exact (Below.refl _ wc).alloc (Nat.le_refl _) _
  have ga : wa.heap[w2.heap.size]? = some (.cells #[.int .i64 3, .slice (some ⟨w1.heap.size + 1, 0, none⟩) 1 1, .int .i64 0, .string ⟨#[]⟩, .int .i64 0, .int .i64 0, .bool false, .slice none 0 0, .int .i64 1, .slice none 0 0, .int .i64 0, .string ⟨#[]⟩, .int .i64 0, .int .i64 0, .bool false, .slice none 0 0] 25 (0, 0)) := by rw [← hwa]; exact heap_alloc_new w2 _
  have gc : wc.heap[w2.heap.size + 1]? = some (.cells #[.int .i64 3, .slice (some ⟨W.heap.size + 1, 0, none⟩) 1 1, .int .i64 0, .string ⟨#[]⟩, .int .i64 0, .int .i64 0, .bool false, .slice none 0 0, .int .i64 8, .slice none 0 0, .int .i64 0, .string ⟨#[]⟩, .int .i64 0, .int .i64 0, .bool false, .slice (some ⟨w2.heap.size, 0, none⟩) 2 2] 25 (0, 0)) := by rw [← hwc, ← ea]; exact heap_alloc_new wa _
  have g3 : w3.heap[w2.heap.size + 2]? = some (.cells #[.int .i64 7, .slice none 0 0, .int .i64 0, .string ⟨#[]⟩, .int .i64 0, .int .i64 0, .bool false, .slice (some ⟨w2.heap.size + 1, 0, none⟩) 2 2] 25 (0, 0)) := by rw [← hw3, ← ec]; exact heap_alloc_new wc _
  have ha : NdIs wa ex10a [.int .i64 8, .slice none 0 0, .int .i64 0, .string ⟨#[]⟩, .int .i64 0, .int .i64 0, .bool false, .slice (some ⟨w2.heap.size, 0, none⟩) 2 2] :=
    NdIs.row (L := [letN 98, empN]) (((NdsIs.nil wa).snoc (hn2.kept hba)).snoc (nd_emp wa)) ga (fun j hj => by simp) (by simp) ⟨by unfold I64; omega, i64_0, i64_0, i64_0⟩ (RRow.nil _) (Nat.zero_le _)
  have hc : NdIs wc ex10 [.int .i64 7, .slice none 0 0, .int .i64 0, .string ⟨#[]⟩, .int .i64 0, .int .i64 0, .bool false, .slice (some ⟨w2.heap.size + 1, 0, none⟩) 2 2] :=
    NdIs.row (L := [letN 97, ex10a]) (((NdsIs.nil wc).snoc ((hn12.kept hba).kept hbc)).snoc (ha.kept hbc)) gc (fun j hj => by simp) (by simp) ⟨by unfold I64; omega, i64_0, i64_0, i64_0⟩ (RRow.nil _) (Nat.zero_le _)
  have HCAT := Lib.hid (hc.kept hb3)
  have HB3 := Lib.hid (((HB2.out.trans (hba.mono HB2.out.size)).trans (hbc.mono (by have := HB2.out.size; omega))).trans (hb3.mono (by have := HB2.out.size; omega)))
  obtain ⟨b0, b1, b2, b3, b4, b5, b6, b7⟩ := box_cells g3
  clear hn2 hb2 hn12 hba hbc hb3 ga gc g3 ha hc HN1
  go_wp2_with fail
  refine (show_any w3 ex10 _ HCAT.out (HE.out.below (Nat.le_refl _) HB3.out) (by rw [all_ex10]; decide)).mono ?_
  rintro e w4 ⟨T, c, rfl, hT, hb4⟩
  obtain ⟨rfl, rfl⟩ := is_ex10 hT
  have HB4 := Lib.hid (HB3.out.trans (hb4.mono HB3.out.size))
  clear hT hb4 b0 b1 b2 b3 b4 b5 b6 b7 hwa hwc hw3 ea ec
  go_wp2_with fail
  refine (show_any w4 nilN _ (nd_nil w4) (HE.out.below (Nat.le_refl _) HB4.out) (by rw [all_nil10]; decide)).mono ?_
  rintro e w5 ⟨T, c, rfl, hT, hb5⟩
  obtain ⟨rfl, rfl⟩ := is_nil10 hT
  have HB5 := Lib.hid (HB4.out.trans (hb5.mono HB4.out.size))
  clear hT hb5
  go_wp2
  go_ret
  exact ⟨rfl, HB5.out⟩
end Go.Proofs.YtecmeeobabadeaaDoor
namespace Go.Proofs.YtecmeeobabadeaaDoor
open Go.RowKit
set_option linter.unusedVariables false
namespace Td
/-- What a tree weighs, down to a depth. -/
def wgt : Nat → Nd → Nat
  | 0, _ => 0
  | k + 1, n => 1 + (set n).length + ((subs n).map (wgt k)).sum
/-- Is a tree no deeper than that, and nothing in it too long? -/
def fit : Nat → Nd → Prop
  | 0, _ => False
  | k + 1, n => (set n).length ≤ 200 ∧ (name n).size ≤ 100 ∧ (subs n).length ≤ 200 ∧ ∀ m ∈ subs n, fit k m
theorem sum_take_succ (l : List Nat) (k : Nat) (hk : k < l.length) : (l.take (k + 1)).sum = (l.take k).sum + l[k] := by
  rw [List.take_succ_eq_append_getElem hk, List.sum_append]; simp
end Td
def WghOk (k : Nat) : Prop := ∀ (W : World) (n : Nd) (cs : List Value) (left : Int), -1000000 ≤ left → left ≤ 1000000 → NdIs W n cs →
  Calls Tryd.prog 8 #[.agg cs.toArray, .int .i64 left, .int .i64 (k : Int)] W fun e w' => ∃ r : Int, e = .returned (.int .i64 r) ∧ -1 ≤ r ∧ (0 ≤ r → r = left - Td.wgt k n ∧ Td.fit k n) ∧ Below W.heap.size W w'
set_option maxRecDepth 100000 in
set_option maxHeartbeats 4000000 in
theorem wgh_step (k M : Nat) (hM : M = k + 1) (hk : k ≤ 100000) (ih : WghOk k) : WghOk M := by
  intro W n cs left hl0 hl1 h
  have hM1 : (M : Int) - 1 = (k : Int) := by omega
  have hM0 : ¬ ((M : Int) = 0) := by omega
  have HM0 := Lib.hid hM
  obtain ⟨vs, a, cap, C, hC⟩ := h.cells
  obtain ⟨sa, scap, hvs, hsl, _, _⟩ := hC.set
  obtain ⟨N, hN⟩ : ∃ N, (Td.subs n).length = N := ⟨_, rfl⟩
  obtain ⟨L, hL⟩ : ∃ L, (Td.set n).length = L := ⟨_, rfl⟩
  have hcs := hC.eq
  have hlen := hC.len
  have hnm := hC.name
  rw [hN] at hcs hlen
  rw [hL] at hvs hsl
  subst hvs
  subst hcs
  have HC := Lib.hid hC
  have HNN := Lib.hid hN
  have HLL := Lib.hid hL
  have IH := Lib.hid ih
  clear h hC hN hL ih hM
  obtain ⟨W1, hW1⟩ : ∃ W1, W.alloc (.cells #[.int .i64 (Td.kind n), .slice sa L scap, .int .i64 (Td.num n), .string (Td.name n), .int .i64 (Td.mn n), .int .i64 (Td.mx n), .bool (Td.lazy n), .slice a N cap] 25) = W1 := ⟨_, rfl⟩
  have B1 := Lib.hid (hW1 ▸ (Below.refl W.heap.size W).alloc (Nat.le_refl _) (.cells #[.int .i64 (Td.kind n), .slice sa L scap, .int .i64 (Td.num n), .string (Td.name n), .int .i64 (Td.mn n), .int .i64 (Td.mx n), .bool (Td.lazy n), .slice a N cap] 25) : Below W.heap.size W W1)
  have hbx : W1.cell? ⟨W.heap.size, 7, none⟩ = some (.slice a N cap) := by rw [← hW1]; simp
  have hsz1 : W1.heap.size = W.heap.size + 1 := by rw [← hW1]; simp
  have HBX := Lib.hid hbx
  have HSZ := Lib.hid hsz1
  have HW1 := Lib.hid hW1
  clear hbx hsz1 hW1
  by_cases b1 : left - 1 < 0
  · go_enter Tryd.func8, Tryd.ntmps8
    go_wp2
    rw [HW1.out]
    go_ret
    exact ⟨-1, rfl, by omega, fun h => absurd h (by omega), B1.out⟩
  by_cases b2 : (200 : Int) < L
  · go_enter Tryd.func8, Tryd.ntmps8
    go_wp2
    rw [HW1.out]
    go_ret
    exact ⟨-1, rfl, by omega, fun h => absurd h (by omega), B1.out⟩
  by_cases b3 : (100 : Int) < (Td.name n).size
  · go_enter Tryd.func8, Tryd.ntmps8
    go_wp2
    rw [HW1.out]
    go_ret
    exact ⟨-1, rfl, by omega, fun h => absurd h (by omega), B1.out⟩
  by_cases b4 : (200 : Int) < N
  · go_enter Tryd.func8, Tryd.ntmps8
    go_wp2
    rw [HW1.out]
    go_ret
    exact ⟨-1, rfl, by omega, fun h => absurd h (by omega), B1.out⟩
  go_enter Tryd.func8, Tryd.ntmps8
  go_wp2
  go_loopw [1, 7] (fun vv iv wr => ∃ (i : Nat) (v : Int), i ≤ N ∧ vv = .int .i64 v ∧ iv = .int .i64 (i : Int) ∧ -200 ≤ v ∧ v ≤ 1000000 ∧ Hid (0 ≤ v → v = left - 1 - (L : Int) - ((((Td.subs n).map (Td.wgt k)).take i).sum : Nat) ∧ ∀ j (hj : j < (Td.subs n).length), j < i → Td.fit k (Td.subs n)[j]) ∧ Hid (Below W1.heap.size W1 wr)) (fun _ iv _ => N - (intOf iv).toNat)
  case atStart => exact ⟨0, left - 1 - L, Nat.zero_le _, by go_num, rfl, by omega, by omega, Lib.hid (fun _ => ⟨by simp, fun j hj h => absurd h (by omega)⟩), Lib.hid (by rw [← HW1.out]; exact Below.refl _ _)⟩
  case round =>
    obtain ⟨i, v, hi, rfl, rfl, hv0, hv1, HD2, HB⟩ := hrel
    have hbx : wr.cell? ⟨W.heap.size, 7, none⟩ = some (.slice a N cap) := (HB.out.cell (p := ⟨W.heap.size, 7, none⟩) (by rw [HSZ.out]; simp)).trans HBX.out
    have hbs : W.heap.size < wr.heap.size := by have := HB.out.size; rw [HSZ.out] at this; omega
    by_cases hlt : i < N
    · by_cases hv : 0 ≤ v
      · obtain ⟨b, off, m, u0, u1, u2, u3, u4, u5, u6, u7, rfl, hb, hm, hnd, q0, q1, q2, q3, q4, q5, q6, q7⟩ := HC.out.sub i (by rw [HNN.out]; exact hlt)
        have hbw : Below W.heap.size W wr := B1.out.trans (HB.out.mono B1.out.size)
        have kc : ∀ o v, W.cell? ⟨b, o, none⟩ = some v → wr.cell? ⟨b, o, none⟩ = some v := fun o v h => (hbw.cell (p := ⟨b, o, none⟩) hb).trans h
        replace q0 := kc _ _ q0; replace q1 := kc _ _ q1; replace q2 := kc _ _ q2; replace q3 := kc _ _ q3
        replace q4 := kc _ _ q4; replace q5 := kc _ _ q5; replace q6 := kc _ _ q6; replace q7 := kc _ _ q7
        have hbl : b < wr.heap.size := Nat.lt_of_lt_of_le hb hbw.size
        have HND := Lib.hid (hnd.kept hbw)
        have HM := Lib.hid hm
        clear kc hm hnd hbw
        go_wp2_with fail
        refine (IH.out _ _ _ _ (by omega) (by omega) HND.out).mono ?_
        rintro e w5 ⟨r, rfl, hr0, hr1, hb5⟩
        have HB5 := Lib.hid (HB.out.trans (hb5.mono HB.out.size))
        have hr2 : r ≤ 1000000 := by
          by_cases h0 : 0 ≤ r
          · have := (hr1 h0).1; omega
          · omega
        have HD3 : Hid (0 ≤ r → r = left - 1 - (L : Int) - ((((Td.subs n).map (Td.wgt k)).take (i + 1)).sum : Nat) ∧ ∀ j (hj : j < (Td.subs n).length), j < i + 1 → Td.fit k (Td.subs n)[j]) := Lib.hid (fun h0 => by
          obtain ⟨h1, h2⟩ := hr1 h0
          obtain ⟨h3, h4⟩ := HD2.out hv
          have hi0 : i < (Td.subs n).length := by rw [HNN.out]; exact hlt
          have hi' : i < ((Td.subs n).map (Td.wgt k)).length := by rw [List.length_map]; exact hi0
          have e0 : (Td.subs n)[i] = m := by
            have h5 := HM.out
            rw [List.getElem?_eq_getElem hi0] at h5
            exact Option.some.inj h5
          refine ⟨?_, fun j hj hji => ?_⟩
          · rw [Td.sum_take_succ _ _ hi', List.getElem_map, e0]
            omega
          · by_cases hjj : j < i
            · exact h4 j hj hjj
            · obtain rfl : j = i := by omega
              rw [e0]; exact h2)
        clear hb5 hr1 HD2
        go_wp2
        go_roundw
        case rel => exact ⟨i + 1, r, by omega, rfl, by go_num, by omega, hr2, HD3, HB5⟩
        case measure => simp [intOf]; omega
      · go_wp2
        all_goals go_ret
        all_goals exact ⟨_, rfl, by omega, fun h => absurd h (by omega), B1.out.trans (HB.out.mono B1.out.size)⟩
    · obtain rfl : i = N := by omega
      have hE : Hid (0 ≤ v → v = left - (Td.wgt M n : Nat) ∧ Td.fit M n) := Lib.hid (fun h0 => by
        obtain ⟨h1, h2⟩ := HD2.out h0
        rw [HM0.out]
        refine ⟨?_, ?_⟩
        · rw [Td.wgt, HLL.out, h1, List.take_of_length_le (by rw [List.length_map, HNN.out]; exact Nat.le_refl _)]
          omega
        · rw [Td.fit, HLL.out, HNN.out]
          refine ⟨by omega, by omega, by omega, fun m hm => ?_⟩
          obtain ⟨j, hj, rfl⟩ := List.getElem_of_mem hm
          exact h2 j hj (by rw [← HNN.out]; exact hj))
      have HB6 := Lib.hid (B1.out.trans (HB.out.mono B1.out.size))
      clear HD2
      by_cases hv : 0 ≤ v
      · go_wp2
        go_ret
        exact ⟨v, by first | rfl | exact congrArg (fun z : Int => Ending.returned (.int .i64 z)) (by omega : max v (-1) = v), by omega, hE.out, HB6.out⟩
      · go_wp2
        all_goals go_ret
        all_goals exact ⟨_, rfl, by omega, fun h => absurd h (by omega), HB6.out⟩
theorem refWeigh_any : ∀ k : Nat, k ≤ 100000 → WghOk k
  | 0, _ => by
    intro W n cs left hl0 hl1 h
    obtain ⟨vs, a, cap, C, hC⟩ := h.cells
    have hcs := hC.eq
    subst hcs
    clear hC h
    go_enter Tryd.func8, Tryd.ntmps8
    go_wp2
    go_ret
    exact ⟨-1, rfl, by omega, fun h => absurd h (by omega), (Below.refl _ _).alloc (Nat.le_refl _) _⟩
  | k + 1, h => wgh_step k _ rfl (by omega) (refWeigh_any k (by omega))
/-- Great, told no: the tree is small. -/
theorem refGreat_any (W : World) (n : Nd) (cs : List Value) (most : Int) (h0 : -1000000 ≤ most) (h1 : most ≤ 1000000) (h : NdIs W n cs) :
    Calls Tryd.prog 4 #[.agg cs.toArray, .int .i64 most] W fun e w' => ∃ b : Bool, e = .returned (.bool b) ∧ (b = false → (Td.wgt 40 n : Int) ≤ most ∧ Td.fit 40 n) ∧ Below W.heap.size W w' := by
  have H1 := Lib.hid (h.kept ((Below.refl W.heap.size W).alloc (Nat.le_refl _) (.cells cs.toArray 25)))
  have HB := Lib.hid ((Below.refl W.heap.size W).alloc (Nat.le_refl _) (.cells cs.toArray 25))
  obtain ⟨vs, a, cap, C, hC⟩ := h.cells
  have hcs := hC.eq
  subst hcs
  clear hC h
  go_enter Tryd.func4, Tryd.ntmps4
  go_wp2_with fail
  refine (refWeigh_any 40 (by omega) _ _ _ _ h0 h1 H1.out).mono ?_
  rintro e w5 ⟨r, rfl, hr0, hr1, hb5⟩
  have HB5 := Lib.hid (HB.out.trans (hb5.mono HB.out.size))
  by_cases hr : r < 0
  · go_wp2
    go_ret
    exact ⟨_, rfl, fun h => by simp [hr] at h, HB5.out⟩
  · go_wp2
    go_ret
    exact ⟨_, rfl, fun _ => ⟨by have := (hr1 (by omega)).1; omega, (hr1 (by omega)).2⟩, HB5.out⟩
end Go.Proofs.YtecmeeobabadeaaDoor
