/- burinlaw14.works. · burinbook.SpoilInsts. -/
import Derived.Test.YtfnimmbmcjgdpaaDoorGp30
import Derived.Test.YtfnimmbmcjgdpaaDoorGp10
import Derived.Test.YtfnimmbmcjgdpaaDoorGp5
namespace Go.Proofs.YtfnimmbmcjgdpaaDoor
open Go.RowKit
set_option linter.unusedVariables false
namespace Pgm
def wk14 : ByteArray := ⟨#[112, 114, 111, 103, 114, 97, 109, 32, 48, 32, 50, 10, 98, 121, 116, 101, 32, 57, 55, 32, 57, 57, 32, 49, 10, 109, 97, 116, 99, 104, 10]⟩
def wkL : List In := [⟨1, 97, 99, 1, 0⟩, ⟨5, 0, 0, 0, 0⟩]
theorem wk_ok : Ok wkL 0 2 := by
  refine ⟨by decide, by decide, by decide, by decide, by decide, by decide, ?_⟩
  rw [List.all_eq_true]
  intro i hi
  simp only [wkL, List.mem_cons, List.not_mem_nil, or_false] at hi
  rcases hi with rfl | rfl <;> decide
theorem wk_text : textL wkL 0 2 = wk14.data.toList := by decide +kernel
theorem wk_read : readL wk14.data.toList = some (wkL, 0, 2) := by rw [← wk_text]; exact read_text wk_ok
theorem wk_sh : shS wkL 0 2 = wk14 := by
  unfold shS
  rw [if_pos wk_ok, wk_text]
  exact txB_of _
theorem fit_zero : fitB ⟨0, 0, 0, 0, 0⟩ = false := by decide
theorem chk_zero : chk [] 0 0 = 130 := chk_not (fun h => by have := h.1; simp at this)
set_option maxRecDepth 100000 in
set_option maxHeartbeats 8000000 in
theorem works14_any (W : World) (hE : EvP W) : Calls Tryd.prog 18 #[] W fun e w' => e = .returned (.bool true) ∧ Below W.heap.size W w' := by
  have HE := Lib.hid hE
  have HR := Lib.hid (read14 W wk14 (by decide) hE)
  have HSH := Lib.hid (fun w vs hr he => show14 wkL 0 2 vs w hr he)
  rw [wk_sh, chk_ok wk_ok] at HSH
  have HF := Lib.hid (fun w he => fits_any ⟨0, 0, 0, 0, 0⟩ w he)
  rw [fit_zero] at HF
  have HC := Lib.hid (fun w he => check_any [] 0 0 (.slice none 0 0) w (InRow.nil w) he)
  rw [chk_zero] at HC
  unfold In.v at HF
  obtain ⟨S, hS⟩ : ∃ S, S = wk14 := ⟨_, rfl⟩
  have hs2 : S = ⟨#[112, 114, 111, 103, 114, 97, 109, 32, 48, 32, 50, 10, 98, 121, 116, 101, 32, 57, 55, 32, 57, 57, 32, 49, 10, 109, 97, 116, 99, 104, 10]⟩ := hS
  have HRD : Hid (readL S.data.toList = some (wkL, 0, 2)) := Lib.hid (by rw [hS]; exact wk_read)
  rw [← hS] at HR HSH
  clear hS hE
  go_enter Tryd.func18, Tryd.ntmps18
  rw [← hs2]
  clear hs2
  go_wp2_with fail
  refine HR.out.mono ?_
  rintro e w1 ⟨h | h, hb1⟩
  case inr => rw [HRD.out] at h; cases h.1
  obtain ⟨v, l, st, sl, h1, rfl, ho⟩ := h
  rw [HRD.out] at h1
  obtain ⟨rfl, rfl, rfl⟩ : wkL = l ∧ (0 : Int) = st ∧ (2 : Int) = sl := by
    injection h1 with h1; injection h1 with h1 h2; injection h2 with h2 h3; exact ⟨h1, h2, h3⟩
  obtain ⟨a9, c9, e9⟩ := ho.slice
  obtain ⟨L9, hL9⟩ : ∃ L9, wkL.length = L9 := ⟨_, rfl⟩
  have hL2 : L9 = 2 := by rw [← hL9]; rfl
  rw [hL9, hL2] at e9
  subst e9
  clear hL9 hL2 h1
  have HO := Lib.hid ho
  have HB1 := Lib.hid hb1
  clear ho hb1
  go_wp2_with fail
  obtain ⟨w2, hw2⟩ : ∃ w2, w1.alloc (.cells #[.slice a9 2 c9, .int .i64 0, .int .i64 2] 46) = w2 := ⟨_, rfl⟩
  have hb2 : Below w1.heap.size w1 w2 := by rw [← hw2]; exact (Below.refl _ _).alloc (Nat.le_refl _) _
  have HP2 : Hid (w2.heap[w1.heap.size]? = some (.cells #[.slice a9 2 c9, .int .i64 0, .int .i64 2] 46 (0, 0))) := Lib.hid (by rw [← hw2]; exact heap_alloc_new w1 _)
  have HB2 := Lib.hid (HB1.out.trans (hb2.mono HB1.out.size))
  have HO2 := Lib.hid (HO.out.below hb2 (Nat.le_refl _))
  rw [hw2]
  clear hw2 hb2
  refine (HSH.out w2 _ (HO2.out.row (by decide) (fun i hi => by
    simp only [wkL, List.mem_cons, List.not_mem_nil, or_false] at hi
    rcases hi with rfl | rfl <;> exact ⟨⟨by decide, by decide⟩, ⟨by decide, by decide⟩, ⟨by decide, by decide⟩, ⟨by decide, by decide⟩, ⟨by decide, by decide⟩⟩)) (HE.out.below HB2.out)).mono ?_
  rintro e w3 ⟨rfl, hb3⟩
  have HB3 := Lib.hid (HB2.out.trans (hb3.mono HB2.out.size))
  have ho3 := HO2.out.below hb3 (Nat.le_refl _)
  have hp3 := (hb3.block _ (Array.getElem?_eq_some_iff.1 HP2.out).1).trans HP2.out
  have p0 : w3.cell? ⟨w1.heap.size, 0, none⟩ = some (.slice a9 2 c9) := blkp hp3 0
  have p1 : w3.cell? ⟨w1.heap.size, 1, none⟩ = some (.int .i64 0) := blkp hp3 1
  have p2 : w3.cell? ⟨w1.heap.size, 2, none⟩ = some (.int .i64 2) := blkp hp3 2
  have HF2 := Lib.hid (HF.out w3 (HE.out.below HB3.out).ops)
  have HCC := Lib.hid (fun w (h : Below w3.heap.size w3 w) => HC.out w (HE.out.below (HB3.out.trans (h.mono HB3.out.size))).ops)
  have hsq : (S.toList == S.toList) = true := by simp
  have heq := eq_in ⟨1, 97, 99, 1, 0⟩ ⟨1, 97, 99, 1, 0⟩ w3
  rcases ho3.2 with ⟨e, e0⟩ | ⟨g, cap, cur, e, hbg, hg, hnc, hcm, hcs, hz⟩
  · exact absurd e0 (by decide)
  injection e with e1 e2 e3
  subst e1
  have h9 := fun k hk => World.ownsRow.cellAt (show w3.ownsRow _ 81 5 (.slice (some ⟨g, 0, none⟩) 2 c9) wkL.length (wkL.flatMap In.cs) from ho3) k hk
  have g0 : w3.cell? ⟨g, 0, none⟩ = some (.int .i64 1) := h9 0 (by decide)
  have g1 : w3.cell? ⟨g, 1, none⟩ = some (.int .i64 97) := h9 1 (by decide)
  have g2 : w3.cell? ⟨g, 2, none⟩ = some (.int .i64 99) := h9 2 (by decide)
  have g3 : w3.cell? ⟨g, 3, none⟩ = some (.int .i64 1) := h9 3 (by decide)
  have g4 : w3.cell? ⟨g, 4, none⟩ = some (.int .i64 0) := h9 4 (by decide)
  clear h9 hbg hg hnc hcm hcs hz ho3 hb3 hp3 e2 e3
  go_wp2_with fail
  refine HF2.out.mono ?_
  rintro e w4 ⟨rfl, hb4⟩
  have HB4 := Lib.hid hb4
  clear hb4
  go_wp2_with fail
  refine (HCC.out w4 HB4.out).mono ?_
  rintro e w5 ⟨rfl, hb5⟩
  have HB5 := Lib.hid (HB3.out.trans ((HB4.out.trans (hb5.mono HB4.out.size)).mono HB3.out.size))
  clear hb5
  go_wp2
  go_ret
  exact ⟨rfl, HB5.out⟩
end Pgm
end Go.Proofs.YtfnimmbmcjgdpaaDoor
namespace Go.Proofs.YtfnimmbmcjgdpaaDoor
open Go.RowKit
set_option linter.unusedVariables false
namespace Pgm
set_option maxRecDepth 100000 in
set_option maxHeartbeats 1000000 in
theorem spoili_nil (W : World) :
    Calls Tryd.prog 24 #[.slice none 0 0] W fun e w' => e = .returned (.tuple #[]) ∧ Below W.heap.size W w' := by
  go_enter Tryd.func24, Tryd.ntmps24
  go_wp2
  refine wp_loop_rounds 1 ?_
  rw [rounds_succ]
  go_wp2
  exact ⟨rfl, .tuple #[], by simp [results, Tryd.func24, go_sem], And.intro rfl (Below.refl _ _)⟩
theorem cell_in_rowi {w : World} {g i : Nat} {cs : Array Value} {t : TypeId} (hg : w.heap[g]? = some (.cells cs t (0, 0))) (hi : i < cs.size) : ∃ v, w.cell? ⟨g, i, none⟩ = some v := by
  simp [World.cell?, hg, hi]
set_option maxRecDepth 100000 in
set_option maxHeartbeats 1000000 in
theorem spoili_walk (W : World) (g n cap B : Nat) (cs : Array Value) (hB : B ≤ g) (hg : W.heap[g]? = some (.cells cs 81 (0, 0))) (hcs : cs.size = cap * 5) (hnc : n ≤ cap) (hcap : cap ≤ 9223372036854775807) :
    Calls Tryd.prog 24 #[.slice (some ⟨g, 0, none⟩) n cap] W fun e w' => e = .returned (.tuple #[]) ∧ Below B W w' := by
  have HG := Lib.hid hg
  have HCS := Lib.hid hcs
  clear hg hcs
  go_enter Tryd.func24, Tryd.ntmps24
  go_wp2
  go_loopw [2, 9] (fun V R wr => ∃ (k : Nat) (cs' : Array Value), k ≤ cap ∧ R = .int .i64 k ∧ Hid (wr.heap[g]? = some (.cells cs' 81 (0, 0))) ∧ Hid (cs'.size = cap * 5) ∧ Hid (Below B W wr)) (fun V R _ => cap - (intOf R).toNat)
  case atStart => exact ⟨0, cs, Nat.zero_le _, rfl, HG, HCS, Lib.hid (Below.refl _ _)⟩
  case round =>
    obtain ⟨k, cs', hk, rfl, HG', HCS', HB⟩ := hrel
    clear HG HCS
    by_cases hlt : k < cap
    · obtain ⟨v0, hv0⟩ := cell_in_rowi (i := k * 5) HG'.out (by rw [HCS'.out]; omega)
      obtain ⟨v1, hv1⟩ := cell_in_rowi (i := k * 5 + 1) HG'.out (by rw [HCS'.out]; omega)
      obtain ⟨v2, hv2⟩ := cell_in_rowi (i := k * 5 + 2) HG'.out (by rw [HCS'.out]; omega)
      obtain ⟨v3, hv3⟩ := cell_in_rowi (i := k * 5 + 3) HG'.out (by rw [HCS'.out]; omega)
      obtain ⟨v4, hv4⟩ := cell_in_rowi (i := k * 5 + 4) HG'.out (by rw [HCS'.out]; omega)
      have hf0 := frozen_of_row _ g (k * 5) _ _ HG'.out
      have hf1 := frozen_of_row _ g (k * 5 + 1) _ _ HG'.out
      have hf2 := frozen_of_row _ g (k * 5 + 2) _ _ HG'.out
      have hf3 := frozen_of_row _ g (k * 5 + 3) _ _ HG'.out
      have hf4 := frozen_of_row _ g (k * 5 + 4) _ _ HG'.out
      go_wp2
      go_roundw
      case rel => first | exact ⟨k + 1, _, by omega, by go_num, Lib.hid (heap_setCell_same _ g _ _ _ _ (heap_setCell_same _ g _ _ _ _ (heap_setCell_same _ g _ _ _ _ (heap_setCell_same _ g _ _ _ _ (heap_setCell_same _ g _ _ _ _ HG'.out))))), Lib.hid (by simp [HCS'.out]), Lib.hid (((((HB.out.setCell (p := ⟨g, k * 5, none⟩) hB _).setCell (p := ⟨g, k * 5 + 1, none⟩) hB _).setCell (p := ⟨g, k * 5 + 2, none⟩) hB _).setCell (p := ⟨g, k * 5 + 3, none⟩) hB _).setCell (p := ⟨g, k * 5 + 4, none⟩) hB _)⟩ | ((repeat apply Exists.intro); exact ⟨⟨k + 1, _, by omega, by go_num, Lib.hid (heap_setCell_same _ g _ _ _ _ (heap_setCell_same _ g _ _ _ _ (heap_setCell_same _ g _ _ _ _ (heap_setCell_same _ g _ _ _ _ (heap_setCell_same _ g _ _ _ _ HG'.out))))), Lib.hid (by simp [HCS'.out]), Lib.hid (((((HB.out.setCell (p := ⟨g, k * 5, none⟩) hB _).setCell (p := ⟨g, k * 5 + 1, none⟩) hB _).setCell (p := ⟨g, k * 5 + 2, none⟩) hB _).setCell (p := ⟨g, k * 5 + 3, none⟩) hB _).setCell (p := ⟨g, k * 5 + 4, none⟩) hB _)⟩, rfl⟩)
      case measure => simp [intOf]; omega
    · obtain rfl : k = cap := by omega
      go_wp2
      exact ⟨rfl, .tuple #[], by simp [results, Tryd.func24, go_sem], And.intro rfl (HB.out)⟩
/-- What a call owns is spoilt. -/
theorem spoili_own (W : World) (base : Nat) (v : Value) (l : List In) (h : InOwn W base v l) (hb : base ≤ W.heap.size) :
    Calls Tryd.prog 24 #[v] W fun e w' => e = .returned (.tuple #[]) ∧ Below base W w' := by
  rcases h.2 with ⟨rfl, _⟩ | ⟨g, cap, cur, rfl, hbg, hg, hnc, hcm, hcs, _⟩
  · exact (spoili_nil W).mono fun e w' h => ⟨h.1, h.2.mono hb⟩
  · exact spoili_walk W g _ cap base cur hbg hg hcs hnc (by simpa [maxLen] using hcm)
end Pgm
end Go.Proofs.YtfnimmbmcjgdpaaDoor
