/- burinlaw06.letter, works. -/
import Derived.Test.YtcomjkoaieeidaaGp12
import Derived.Test.YtcomjkoaieeidaaGp27
import Derived.Test.YtcomjkoaieeidaaGp29
namespace Go.Proofs.Ytcomjkoaieeidaa
open Go.RowKit
set_option linter.unusedVariables false
def letN (c : Int) : Nd := .mk 3 [(c, c)] 0 ⟨#[]⟩ 0 0 false []
theorem i64_0 : I64 0 := by unfold I64; omega
def letC (g : Nat) : List Value := [.int .i64 3, .slice (some ⟨g, 0, none⟩) 1 1, .int .i64 0, .string ⟨#[]⟩, .int .i64 0, .int .i64 0, .bool false, .slice none 0 0]
set_option maxRecDepth 100000 in
set_option maxHeartbeats 4000000 in
theorem let6_any (W : World) (c : Int) (hc : I64 c) : Calls Try.prog 11 #[.int .i64 c] W fun e w' => e = .returned (.agg #[.int .i64 3, .slice (some ⟨W.heap.size + 1, 0, none⟩) 1 1, .int .i64 0, .string ⟨#[]⟩, .int .i64 0, .int .i64 0, .bool false, .slice none 0 0]) ∧
    NdIs w' (letN c) [.int .i64 3, .slice (some ⟨W.heap.size + 1, 0, none⟩) 1 1, .int .i64 0, .string ⟨#[]⟩, .int .i64 0, .int .i64 0, .bool false, .slice none 0 0] ∧ Below W.heap.size W w' := by
  go_enter Try.func11, Try.ntmps11
  go_wp2
  refine ⟨rfl, .agg #[.int .i64 3, .slice (some ⟨W.heap.size + 1, 0, none⟩) 1 1, .int .i64 0, .string ⟨#[]⟩, .int .i64 0, .int .i64 0, .bool false, .slice none 0 0], by simp [results, Try.f11, go_sem], rfl, ?_, ((Below.refl W.heap.size W).alloc (Nat.le_refl _) _).alloc (by simp) _⟩
  refine .mk (fun _ => []) ⟨by unfold I64; omega, i64_0, i64_0, i64_0⟩ ⟨_, 1, rfl, by simp, ?_, ?_⟩ (Nat.zero_le _) (by simp) (fun j hj => absurd hj (by simp)) (fun j hj => absurd hj (by simp))
  · intro p hp
    have e : p = (c, c) := by simpa using hp
    subst e
    unfold I64 at hc
    exact ⟨hc.1, hc.2, hc.1, hc.2⟩
  · intro j hj
    have e : j = 0 := by simpa using hj
    subst e
    have key : ∀ X : World, (X.alloc (.cells #[.int .i64 c, .int .i64 c] 50)).cell? ⟨X.heap.size, 0, none⟩ = some (.int .i64 c) ∧ (X.alloc (.cells #[.int .i64 c, .int .i64 c] 50)).cell? ⟨X.heap.size, 1, none⟩ = some (.int .i64 c) := fun X => by constructor <;> simp
    have h9 := key (W.alloc (.cells #[.int .i64 3, .slice (some ⟨W.heap.size + 1, 0, none⟩) 1 1, .int .i64 0, .string ⟨#[]⟩, .int .i64 0, .int .i64 0, .bool false, .slice none 0 0] 25))
    rw [World.size_alloc] at h9
    exact ⟨W.heap.size + 1, 0, rfl, by simp, h9.1, h9.2⟩
def catN : Nd := .mk 7 [] 0 ⟨#[]⟩ 0 0 false [letN 97, letN 98]
def badN : Nd := .mk 9 [] 0 ⟨#[]⟩ 2 1 false [letN 97]
theorem trSize_any (W : World) (nd : Nd) (cs : List Value) (h : NdIs W nd cs) (hlen : (Td.all 1000 1 nd).length ≤ 1000000) :
    Calls Try.prog 12 #[.agg cs.toArray] W fun e W' => e = .returned (.int .i64 ((Td.all 1000 1 nd).length : Int)) ∧ Below W.heap.size W W' := callsIn_wide.1 (size_in 3 (by omega) W nd cs h hlen)
theorem trDepth_any (W : World) (nd : Nd) (cs : List Value) (h : NdIs W nd cs) :
    Calls Try.prog 13 #[.agg cs.toArray] W fun e W' => e = .returned (.int .i64 ((Td.dep 1001 nd : Nat) : Int)) ∧ Below W.heap.size W W' := callsIn_wide.1 (depth_in 3 (by omega) W nd cs h)


theorem trCheck_any (W : World) (nd : Nd) (cs : List Value) (h : NdIs W nd cs) (hlen : (Td.all 1000 1 nd).length ≤ 1000000) :
    Calls Try.prog 14 #[.agg cs.toArray] W fun e W' => e = .returned (.int .i64 (Td.checkN nd)) ∧ Below W.heap.size W W' := callsIn_wide.1 (check_in 3 (by omega) W nd cs h hlen)
theorem all_cat : Td.all 1000 1 catN = [(1, catN), (2, letN 97), (2, letN 98)] := rfl
theorem all_bad : Td.all 1000 1 badN = [(1, badN), (2, letN 97)] := rfl
theorem dep_cat : Td.dep 1001 catN = 2 := rfl
theorem dep_bad : Td.dep 1001 badN = 2 := rfl
theorem nul_cat : Td.nul 1000 catN = false := rfl
theorem isE0 : (⟨#[]⟩ : ByteArray).toList.isEmpty = true := by simp [ByteArray.toList_eq]
theorem fits_let (c : Int) (h : 0 ≤ c ∧ c ≤ 1114111) : Td.fitsB (letN c) = true := by
  rw [Td.told3 rfl]
  have h1 : Rg.checkF none [(c, c)] = 0 := by
    have h2 : Rg.check1 none (c, c) = 0 := by
      unfold Rg.check1
      rw [if_neg (by dsimp only; omega), if_neg (by simp)]
    unfold Rg.checkF
    rw [if_pos h2]; rfl
  show ((true && (Rg.checkF none [(c, c)] == 0)) && Td.sameB 1000 (.mk 3 [] 0 ⟨#[]⟩ 0 0 false []) (Td.zeroN 3)) = true
  rw [h1, Td.same_zero, isE0]; rfl
theorem fits_cat : Td.fitsB catN = true := by
  rw [Td.told7 (.inl rfl)]
  show (true && Td.sameB 1000 (.mk 7 [] 0 ⟨#[]⟩ 0 0 false []) (Td.zeroN 7)) = true
  rw [Td.same_zero, isE0]; rfl
theorem fits_bad : Td.fitsB badN = false := by
  rw [Td.told9 rfl]; rfl
theorem chk_cat : Td.checkN catN = 0 := by
  unfold Td.checkN
  rw [dep_cat, if_neg (by omega), all_cat, Td.chkF, if_neg (by rw [fits_cat]; decide), if_pos (by decide), Td.chkF, if_neg (by rw [fits_let 97 (by omega)]; decide), if_pos (by decide), Td.chkF, if_neg (by rw [fits_let 98 (by omega)]; decide), if_pos (by decide), Td.chkF]
theorem chk_bad : Td.checkN badN = 60 := by
  unfold Td.checkN
  rw [dep_bad, if_neg (by omega), all_bad, Td.chkF, if_pos fits_bad]
theorem name_yes : Td.nameB ⟨#[97, 95, 49]⟩ = true := by decide +kernel
theorem name_no : Td.nameB ⟨#[49, 97]⟩ = false := by decide +kernel
set_option maxRecDepth 100000 in
set_option maxHeartbeats 8000000 in
theorem works6_any (W : World) : Calls Try.prog 5 #[] W fun e w' => e = .returned (.bool true) ∧ Below W.heap.size W w' := by
  have i97 : I64 97 := by unfold I64; omega
  have i98 : I64 98 := by unfold I64; omega
  go_enter Try.func5, Try.ntmps5
  go_wp2_with fail
  refine (let6_any W 97 i97).mono ?_
  rintro e w1 ⟨rfl, hn1, hb1⟩
  have HB1 := Lib.hid hb1
  have HN1 := Lib.hid hn1
  clear hn1 hb1
  go_wp2_with fail
  refine (let6_any w1 98 i98).mono ?_
  rintro e w2 ⟨rfl, hn2, hb2⟩
  have HB2 := Lib.hid (HB1.out.trans (hb2.mono HB1.out.size))
  have hx : NdsIs w2 [letN 97, letN 98] [[.int .i64 3, .slice (some ⟨W.heap.size + 1, 0, none⟩) 1 1, .int .i64 0, .string ⟨#[]⟩, .int .i64 0, .int .i64 0, .bool false, .slice none 0 0], [.int .i64 3, .slice (some ⟨w1.heap.size + 1, 0, none⟩) 1 1, .int .i64 0, .string ⟨#[]⟩, .int .i64 0, .int .i64 0, .bool false, .slice none 0 0]] := ((NdsIs.nil w2).snoc (HN1.out.kept hb2)).snoc hn2
  obtain ⟨w3, hw3⟩ : ∃ w3, (w2.alloc (.cells #[.int .i64 3, .slice (some ⟨W.heap.size + 1, 0, none⟩) 1 1, .int .i64 0, .string ⟨#[]⟩, .int .i64 0, .int .i64 0, .bool false, .slice none 0 0, .int .i64 3, .slice (some ⟨w1.heap.size + 1, 0, none⟩) 1 1, .int .i64 0, .string ⟨#[]⟩, .int .i64 0, .int .i64 0, .bool false, .slice none 0 0] 25)).alloc (.cells #[.int .i64 7, .slice none 0 0, .int .i64 0, .string ⟨#[]⟩, .int .i64 0, .int .i64 0, .bool false, .slice (some ⟨w2.heap.size, 0, none⟩) 2 2] 25) = w3 := ⟨_, rfl⟩
  have hb3 : Below w2.heap.size w2 w3 := by rw [← hw3]; exact ((Below.refl _ w2).alloc (Nat.le_refl _) _).alloc (by simp) _
  have hg : w3.heap[w2.heap.size]? = some (.cells #[.int .i64 3, .slice (some ⟨W.heap.size + 1, 0, none⟩) 1 1, .int .i64 0, .string ⟨#[]⟩, .int .i64 0, .int .i64 0, .bool false, .slice none 0 0, .int .i64 3, .slice (some ⟨w1.heap.size + 1, 0, none⟩) 1 1, .int .i64 0, .string ⟨#[]⟩, .int .i64 0, .int .i64 0, .bool false, .slice none 0 0] 25 (0, 0)) := by
    rw [← hw3]; exact (Below.heap_alloc _ _ _ (by simp)).trans (heap_alloc_new w2 _)
  have hcat : NdIs w3 catN [.int .i64 7, .slice none 0 0, .int .i64 0, .string ⟨#[]⟩, .int .i64 0, .int .i64 0, .bool false, .slice (some ⟨w2.heap.size, 0, none⟩) 2 2] :=
    NdIs.row (hx.kept hb3) hg (fun j hj => by simp) (by simp) ⟨by unfold I64; omega, i64_0, i64_0, i64_0⟩ (RRow.nil _) (Nat.zero_le _)
  have hbx : w3.heap[w2.heap.size + 1]? = some (.cells #[.int .i64 7, .slice none 0 0, .int .i64 0, .string ⟨#[]⟩, .int .i64 0, .int .i64 0, .bool false, .slice (some ⟨w2.heap.size, 0, none⟩) 2 2] 25 (0, 0)) := by
    rw [← hw3]
    have h9 := heap_alloc_new (w2.alloc (.cells #[.int .i64 3, .slice (some ⟨W.heap.size + 1, 0, none⟩) 1 1, .int .i64 0, .string ⟨#[]⟩, .int .i64 0, .int .i64 0, .bool false, .slice none 0 0, .int .i64 3, .slice (some ⟨w1.heap.size + 1, 0, none⟩) 1 1, .int .i64 0, .string ⟨#[]⟩, .int .i64 0, .int .i64 0, .bool false, .slice none 0 0] 25)) (.cells #[.int .i64 7, .slice none 0 0, .int .i64 0, .string ⟨#[]⟩, .int .i64 0, .int .i64 0, .bool false, .slice (some ⟨w2.heap.size, 0, none⟩) 2 2] 25)
    rwa [World.size_alloc] at h9
  have HW3 := Lib.hid hw3
  have HB3 := Lib.hid (HB2.out.trans (hb3.mono HB2.out.size))
  have HCAT := Lib.hid hcat
  have HBX := Lib.hid hbx
  clear hn2 hb2 hx hw3 hb3 hg hcat hbx HN1
  go_wp2_with fail
  rw [HW3.out]
  refine (let6_any w3 97 i97).mono ?_
  rintro e w4 ⟨rfl, hn4, hb4⟩
  have hcat4 := HCAT.out.kept hb4
  have hbx4 := (hb4.block _ (Array.getElem?_eq_some_iff.1 HBX.out).1).trans HBX.out
  have hx : NdsIs w4 [letN 97] [[.int .i64 3, .slice (some ⟨w3.heap.size + 1, 0, none⟩) 1 1, .int .i64 0, .string ⟨#[]⟩, .int .i64 0, .int .i64 0, .bool false, .slice none 0 0]] := (NdsIs.nil w4).snoc hn4
  obtain ⟨w5, hw5⟩ : ∃ w5, (w4.alloc (.cells #[.int .i64 3, .slice (some ⟨w3.heap.size + 1, 0, none⟩) 1 1, .int .i64 0, .string ⟨#[]⟩, .int .i64 0, .int .i64 0, .bool false, .slice none 0 0] 25)).alloc (.cells #[.int .i64 9, .slice none 0 0, .int .i64 0, .string ⟨#[]⟩, .int .i64 2, .int .i64 1, .bool false, .slice (some ⟨w4.heap.size, 0, none⟩) 1 1] 25) = w5 := ⟨_, rfl⟩
  have hb5 : Below w4.heap.size w4 w5 := by rw [← hw5]; exact ((Below.refl _ w4).alloc (Nat.le_refl _) _).alloc (by simp) _
  have hg : w5.heap[w4.heap.size]? = some (.cells #[.int .i64 3, .slice (some ⟨w3.heap.size + 1, 0, none⟩) 1 1, .int .i64 0, .string ⟨#[]⟩, .int .i64 0, .int .i64 0, .bool false, .slice none 0 0] 25 (0, 0)) := by
    rw [← hw5]; exact (Below.heap_alloc _ _ _ (by simp)).trans (heap_alloc_new w4 _)
  have hbad : NdIs w5 badN [.int .i64 9, .slice none 0 0, .int .i64 0, .string ⟨#[]⟩, .int .i64 2, .int .i64 1, .bool false, .slice (some ⟨w4.heap.size, 0, none⟩) 1 1] :=
    NdIs.row (hx.kept hb5) hg (fun j hj => by simp) (by simp) ⟨by unfold I64; omega, i64_0, by unfold I64; omega, by unfold I64; omega⟩ (RRow.nil _) (Nat.zero_le _)
  have hby : w5.heap[w4.heap.size + 1]? = some (.cells #[.int .i64 9, .slice none 0 0, .int .i64 0, .string ⟨#[]⟩, .int .i64 2, .int .i64 1, .bool false, .slice (some ⟨w4.heap.size, 0, none⟩) 1 1] 25 (0, 0)) := by
    rw [← hw5]
    have h9 := heap_alloc_new (w4.alloc (.cells #[.int .i64 3, .slice (some ⟨w3.heap.size + 1, 0, none⟩) 1 1, .int .i64 0, .string ⟨#[]⟩, .int .i64 0, .int .i64 0, .bool false, .slice none 0 0] 25)) (.cells #[.int .i64 9, .slice none 0 0, .int .i64 0, .string ⟨#[]⟩, .int .i64 2, .int .i64 1, .bool false, .slice (some ⟨w4.heap.size, 0, none⟩) 1 1] 25)
    rwa [World.size_alloc] at h9
  have HCAT5 := Lib.hid (hcat4.kept hb5)
  have HBX5 := Lib.hid ((hb5.block _ (Array.getElem?_eq_some_iff.1 hbx4).1).trans hbx4)
  have HBAD := Lib.hid hbad
  have HBY := Lib.hid hby
  have HW5 := Lib.hid hw5
  have HB5 := Lib.hid ((HB3.out.trans (hb4.mono HB3.out.size)).trans (hb5.mono (HB3.out.trans (hb4.mono HB3.out.size)).size))
  clear hn4 hb4 hcat4 hbx4 hx hw5 hb5 hg hbad hby HBX HCAT
  have c0 : ((w4.alloc (.cells #[.int .i64 3, .slice (some ⟨w3.heap.size + 1, 0, none⟩) 1 1, .int .i64 0, .string ⟨#[]⟩, .int .i64 0, .int .i64 0, .bool false, .slice none 0 0] 25)).alloc (.cells #[.int .i64 9, .slice none 0 0, .int .i64 0, .string ⟨#[]⟩, .int .i64 2, .int .i64 1, .bool false, .slice (some ⟨w4.heap.size, 0, none⟩) 1 1] 25)).cell? ⟨w2.heap.size + 1, 0, none⟩ = some (.int .i64 7) := by rw [HW5.out]; simpa using blkc HBX5.out 0
  have c1 : ((w4.alloc (.cells #[.int .i64 3, .slice (some ⟨w3.heap.size + 1, 0, none⟩) 1 1, .int .i64 0, .string ⟨#[]⟩, .int .i64 0, .int .i64 0, .bool false, .slice none 0 0] 25)).alloc (.cells #[.int .i64 9, .slice none 0 0, .int .i64 0, .string ⟨#[]⟩, .int .i64 2, .int .i64 1, .bool false, .slice (some ⟨w4.heap.size, 0, none⟩) 1 1] 25)).cell? ⟨w2.heap.size + 1, 1, none⟩ = some (.slice none 0 0) := by rw [HW5.out]; simpa using blkc HBX5.out 1
  have c2 : ((w4.alloc (.cells #[.int .i64 3, .slice (some ⟨w3.heap.size + 1, 0, none⟩) 1 1, .int .i64 0, .string ⟨#[]⟩, .int .i64 0, .int .i64 0, .bool false, .slice none 0 0] 25)).alloc (.cells #[.int .i64 9, .slice none 0 0, .int .i64 0, .string ⟨#[]⟩, .int .i64 2, .int .i64 1, .bool false, .slice (some ⟨w4.heap.size, 0, none⟩) 1 1] 25)).cell? ⟨w2.heap.size + 1, 2, none⟩ = some (.int .i64 0) := by rw [HW5.out]; simpa using blkc HBX5.out 2
  have c3 : ((w4.alloc (.cells #[.int .i64 3, .slice (some ⟨w3.heap.size + 1, 0, none⟩) 1 1, .int .i64 0, .string ⟨#[]⟩, .int .i64 0, .int .i64 0, .bool false, .slice none 0 0] 25)).alloc (.cells #[.int .i64 9, .slice none 0 0, .int .i64 0, .string ⟨#[]⟩, .int .i64 2, .int .i64 1, .bool false, .slice (some ⟨w4.heap.size, 0, none⟩) 1 1] 25)).cell? ⟨w2.heap.size + 1, 3, none⟩ = some (.string ⟨#[]⟩) := by rw [HW5.out]; simpa using blkc HBX5.out 3
  have c4 : ((w4.alloc (.cells #[.int .i64 3, .slice (some ⟨w3.heap.size + 1, 0, none⟩) 1 1, .int .i64 0, .string ⟨#[]⟩, .int .i64 0, .int .i64 0, .bool false, .slice none 0 0] 25)).alloc (.cells #[.int .i64 9, .slice none 0 0, .int .i64 0, .string ⟨#[]⟩, .int .i64 2, .int .i64 1, .bool false, .slice (some ⟨w4.heap.size, 0, none⟩) 1 1] 25)).cell? ⟨w2.heap.size + 1, 4, none⟩ = some (.int .i64 0) := by rw [HW5.out]; simpa using blkc HBX5.out 4
  have c5 : ((w4.alloc (.cells #[.int .i64 3, .slice (some ⟨w3.heap.size + 1, 0, none⟩) 1 1, .int .i64 0, .string ⟨#[]⟩, .int .i64 0, .int .i64 0, .bool false, .slice none 0 0] 25)).alloc (.cells #[.int .i64 9, .slice none 0 0, .int .i64 0, .string ⟨#[]⟩, .int .i64 2, .int .i64 1, .bool false, .slice (some ⟨w4.heap.size, 0, none⟩) 1 1] 25)).cell? ⟨w2.heap.size + 1, 5, none⟩ = some (.int .i64 0) := by rw [HW5.out]; simpa using blkc HBX5.out 5
  have c6 : ((w4.alloc (.cells #[.int .i64 3, .slice (some ⟨w3.heap.size + 1, 0, none⟩) 1 1, .int .i64 0, .string ⟨#[]⟩, .int .i64 0, .int .i64 0, .bool false, .slice none 0 0] 25)).alloc (.cells #[.int .i64 9, .slice none 0 0, .int .i64 0, .string ⟨#[]⟩, .int .i64 2, .int .i64 1, .bool false, .slice (some ⟨w4.heap.size, 0, none⟩) 1 1] 25)).cell? ⟨w2.heap.size + 1, 6, none⟩ = some (.bool false) := by rw [HW5.out]; simpa using blkc HBX5.out 6
  have c7 : ((w4.alloc (.cells #[.int .i64 3, .slice (some ⟨w3.heap.size + 1, 0, none⟩) 1 1, .int .i64 0, .string ⟨#[]⟩, .int .i64 0, .int .i64 0, .bool false, .slice none 0 0] 25)).alloc (.cells #[.int .i64 9, .slice none 0 0, .int .i64 0, .string ⟨#[]⟩, .int .i64 2, .int .i64 1, .bool false, .slice (some ⟨w4.heap.size, 0, none⟩) 1 1] 25)).cell? ⟨w2.heap.size + 1, 7, none⟩ = some (.slice (some ⟨w2.heap.size, 0, none⟩) 2 2) := by rw [HW5.out]; simpa using blkc HBX5.out 7
  go_wp2_with fail
  rw [HW5.out]
  refine (trSize_any w5 catN _ HCAT5.out (by rw [all_cat]; decide)).mono ?_
  rintro e x0 ⟨rfl, hb⟩
  rw [all_cat]
  replace HCAT5 := Lib.hid (HCAT5.out.kept hb)
  replace HBAD := Lib.hid (HBAD.out.kept hb)
  replace HBX5 := Lib.hid ((hb.block _ (Array.getElem?_eq_some_iff.1 HBX5.out).1).trans HBX5.out)
  replace HBY := Lib.hid ((hb.block _ (Array.getElem?_eq_some_iff.1 HBY.out).1).trans HBY.out)
  replace HB5 := Lib.hid (HB5.out.trans (hb.mono HB5.out.size))
  clear hb c0 c1 c2 c3 c4 c5 c6 c7
  rw [show ((([(1, catN), (2, letN 97), (2, letN 98)] : List (Nat × Nd)).length : Nat) : Int) = 3 from rfl]
  have c0 := blkc HBX5.out 0
  have c1 := blkc HBX5.out 1
  have c2 := blkc HBX5.out 2
  have c3 := blkc HBX5.out 3
  have c4 := blkc HBX5.out 4
  have c5 := blkc HBX5.out 5
  have c6 := blkc HBX5.out 6
  have c7 := blkc HBX5.out 7
  simp only [List.getElem?_toArray, List.getElem?_cons_zero, List.getElem?_cons_succ] at c0 c1 c2 c3 c4 c5 c6 c7
  go_wp2_with fail
  refine (trDepth_any x0 catN _ HCAT5.out ).mono ?_
  rintro e x1 ⟨rfl, hb⟩
  rw [dep_cat]
  replace HCAT5 := Lib.hid (HCAT5.out.kept hb)
  replace HBAD := Lib.hid (HBAD.out.kept hb)
  replace HBX5 := Lib.hid ((hb.block _ (Array.getElem?_eq_some_iff.1 HBX5.out).1).trans HBX5.out)
  replace HBY := Lib.hid ((hb.block _ (Array.getElem?_eq_some_iff.1 HBY.out).1).trans HBY.out)
  replace HB5 := Lib.hid (HB5.out.trans (hb.mono HB5.out.size))
  clear hb c0 c1 c2 c3 c4 c5 c6 c7
  have c0 := blkc HBX5.out 0
  have c1 := blkc HBX5.out 1
  have c2 := blkc HBX5.out 2
  have c3 := blkc HBX5.out 3
  have c4 := blkc HBX5.out 4
  have c5 := blkc HBX5.out 5
  have c6 := blkc HBX5.out 6
  have c7 := blkc HBX5.out 7
  simp only [List.getElem?_toArray, List.getElem?_cons_zero, List.getElem?_cons_succ] at c0 c1 c2 c3 c4 c5 c6 c7
  go_wp2_with fail
  refine (trCheck_any x1 catN _ HCAT5.out (by rw [all_cat]; decide)).mono ?_
  rintro e x2 ⟨rfl, hb⟩
  rw [chk_cat]
  replace HCAT5 := Lib.hid (HCAT5.out.kept hb)
  replace HBAD := Lib.hid (HBAD.out.kept hb)
  replace HBX5 := Lib.hid ((hb.block _ (Array.getElem?_eq_some_iff.1 HBX5.out).1).trans HBX5.out)
  replace HBY := Lib.hid ((hb.block _ (Array.getElem?_eq_some_iff.1 HBY.out).1).trans HBY.out)
  replace HB5 := Lib.hid (HB5.out.trans (hb.mono HB5.out.size))
  clear hb c0 c1 c2 c3 c4 c5 c6 c7
  have c0 := blkc HBY.out 0
  have c1 := blkc HBY.out 1
  have c2 := blkc HBY.out 2
  have c3 := blkc HBY.out 3
  have c4 := blkc HBY.out 4
  have c5 := blkc HBY.out 5
  have c6 := blkc HBY.out 6
  have c7 := blkc HBY.out 7
  simp only [List.getElem?_toArray, List.getElem?_cons_zero, List.getElem?_cons_succ] at c0 c1 c2 c3 c4 c5 c6 c7
  go_wp2_with fail
  refine (trCheck_any x2 badN _ HBAD.out (by rw [all_bad]; decide)).mono ?_
  rintro e x3 ⟨rfl, hb⟩
  rw [chk_bad]
  replace HCAT5 := Lib.hid (HCAT5.out.kept hb)
  replace HBAD := Lib.hid (HBAD.out.kept hb)
  replace HBX5 := Lib.hid ((hb.block _ (Array.getElem?_eq_some_iff.1 HBX5.out).1).trans HBX5.out)
  replace HBY := Lib.hid ((hb.block _ (Array.getElem?_eq_some_iff.1 HBY.out).1).trans HBY.out)
  replace HB5 := Lib.hid (HB5.out.trans (hb.mono HB5.out.size))
  clear hb c0 c1 c2 c3 c4 c5 c6 c7
  have c0 := blkc HBX5.out 0
  have c1 := blkc HBX5.out 1
  have c2 := blkc HBX5.out 2
  have c3 := blkc HBX5.out 3
  have c4 := blkc HBX5.out 4
  have c5 := blkc HBX5.out 5
  have c6 := blkc HBX5.out 6
  have c7 := blkc HBX5.out 7
  simp only [List.getElem?_toArray, List.getElem?_cons_zero, List.getElem?_cons_succ] at c0 c1 c2 c3 c4 c5 c6 c7
  go_wp2_with fail
  refine (trNullable_any x3 catN _ HCAT5.out ).mono ?_
  rintro e x4 ⟨rfl, hb⟩
  rw [nul_cat]
  replace HCAT5 := Lib.hid (HCAT5.out.kept hb)
  replace HBAD := Lib.hid (HBAD.out.kept hb)
  replace HBX5 := Lib.hid ((hb.block _ (Array.getElem?_eq_some_iff.1 HBX5.out).1).trans HBX5.out)
  replace HBY := Lib.hid ((hb.block _ (Array.getElem?_eq_some_iff.1 HBY.out).1).trans HBY.out)
  replace HB5 := Lib.hid (HB5.out.trans (hb.mono HB5.out.size))
  clear hb c0 c1 c2 c3 c4 c5 c6 c7
  go_wp2_with fail
  refine (trName_any _ _ (by decide)).mono ?_
  rintro e x5 ⟨rfl, rfl⟩
  rw [name_yes]
  go_wp2_with fail
  refine (trName_any _ _ (by decide)).mono ?_
  rintro e x6 ⟨rfl, rfl⟩
  rw [name_no]
  go_wp2
  go_ret
  exact ⟨rfl, HB5.out⟩
end Go.Proofs.Ytcomjkoaieeidaa
