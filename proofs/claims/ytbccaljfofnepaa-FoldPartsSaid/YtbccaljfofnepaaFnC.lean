/- The landed fold: the contracts of Least, Next, Same. -/
import Derived.Test.YtbccaljfofnepaaFnB
import Derived.Test.YtbccaljfofnepaaRf3M
namespace Go.Proofs.Ytbccaljfofnepaa
open Go.RowKit
set_option linter.unusedVariables false
def famHead (r : Int) : Int := (Fd.fam r)[0]?.getD 0
set_option maxRecDepth 100000 in
set_option maxHeartbeats 2000000 in
theorem least_any (W : World) (r : Int) :
    Calls Try.prog 11 #[.int .i64 r] W fun e w' => e = .returned (.int .i64 (famHead r)) ∧ Below W.heap.size W w' := by
  have HF := Lib.hid (fam_any W r)
  have hfl := (Fd.fam_len r).1
  unfold famHead
  obtain ⟨l, hl⟩ : ∃ l, Fd.fam r = l := ⟨_, rfl⟩
  rw [hl] at HF hfl ⊢
  obtain ⟨x, hx⟩ : ∃ x, l[0]?.getD 0 = x := ⟨_, rfl⟩
  rw [hx]
  have HX := Lib.hid hx
  obtain ⟨n, hn⟩ : ∃ n, l.length = n := ⟨_, rfl⟩
  have HN := Lib.hid hn
  rw [hn] at hfl
  have HL3 := Lib.hid (Fd.fam_len r).2
  rw [hl, hn] at HL3
  clear hl hx hn
  go_enter Try.func11, Try.ntmps11
  go_wp2_with fail
  refine HF.out.mono ?_
  rintro e w1 ⟨v, rfl, ho, hb⟩
  obtain ⟨a, cap, rfl, h1, h2, hc⟩ := ho.row
  obtain ⟨g, rfl, hg, hcell⟩ := hc 0 (by rw [HN.out]; exact hfl)
  rw [HX.out] at hcell
  have h3 := HL3.out
  rw [HN.out] at h1 ⊢
  have k1 : (0 : Int) < (n : Int) := by omega
  have HB := Lib.hid hb
  clear hc ho hb
  go_wp2
  go_ret
  exact ⟨rfl, HB.out⟩
theorem next_idx (l : List Int) (r : Int) (ha : l.Pairwise (· < ·)) (h1 : 1 ≤ l.length) (h3 : l.length ≤ 3) (hr : r ∈ l) :
    ∃ k : Nat, k < l.length ∧ Lib.idxOf l r = (k : Int) ∧ (k + 1 < l.length → l[k + 1]?.getD 0 = Fd.nextL l r) ∧ (k + 1 = l.length → l[0]?.getD 0 = Fd.nextL l r) := by
  match l, ha, h1, h3, hr with
  | [a], _, _, _, hr =>
    have e : r = a := by simpa using hr
    subst e
    exact ⟨0, by simp, by simp [Lib.idxOf, Lib.idxFrom], by simp, by simp [Fd.nextL]⟩
  | [a, b], ha, _, _, hr =>
    have hab : a < b := by simp at ha; exact ha
    have hr' : r = a ∨ r = b := by simpa using hr
    rcases hr' with rfl | rfl
    · exact ⟨0, by simp, by simp [Lib.idxOf, Lib.idxFrom], by simp [Fd.nextL, hab], by simp⟩
    · exact ⟨1, by simp, by simp [Lib.idxOf, Lib.idxFrom, show ¬ a = r by omega, show ¬ r = a by omega], by simp, by simp [Fd.nextL, show ¬ r < a by omega]⟩
  | [a, b, c], ha, _, _, hr =>
    have hab : a < b ∧ a < c ∧ b < c := by simp at ha; omega
    obtain ⟨q1, q2, q3⟩ := hab
    have hr' : r = a ∨ r = b ∨ r = c := by simpa using hr
    rcases hr' with rfl | rfl | rfl
    · exact ⟨0, by simp, by simp [Lib.idxOf, Lib.idxFrom], by simp [Fd.nextL, q1], by simp⟩
    · exact ⟨1, by simp, by simp [Lib.idxOf, Lib.idxFrom, show ¬ a = r by omega, show ¬ r = a by omega], by simp [Fd.nextL, show ¬ r < a by omega, q3], by simp⟩
    · exact ⟨2, by simp, by simp [Lib.idxOf, Lib.idxFrom, show ¬ a = r by omega, show ¬ r = a by omega, show ¬ b = r by omega, show ¬ r = b by omega], by simp, by simp [Fd.nextL, show ¬ r < a by omega, show ¬ r < b by omega]⟩
  | _ :: _ :: _ :: _ :: _, _, _, h, _ => simp at h
set_option maxRecDepth 100000 in
set_option maxHeartbeats 2000000 in
theorem nextl_any (W : World) (r : Int) :
    Calls Try.prog 12 #[.int .i64 r] W fun e w' => e = .returned (.int .i64 (Fd.nextL (Fd.fam r) r)) ∧ Below W.heap.size W w' := by
  have HF := Lib.hid (fam_any W r)
  obtain ⟨n1, n3⟩ := Fd.fam_len r
  obtain ⟨k, hk, hi, hx1, hx2⟩ := next_idx (Fd.fam r) r (Fd.fam_asc r) n1 n3 (Fd.fam_self r)
  obtain ⟨l, hl⟩ : ∃ l, Fd.fam r = l := ⟨_, rfl⟩
  rw [hl] at HF n1 n3 hk hi hx1 hx2 ⊢
  obtain ⟨x, hx⟩ : ∃ x, Fd.nextL l r = x := ⟨_, rfl⟩
  rw [hx] at hx1 hx2 ⊢
  obtain ⟨n, hn⟩ : ∃ n, l.length = n := ⟨_, rfl⟩
  have HN := Lib.hid hn
  rw [hn] at n1 n3 hk hx1 hx2
  have HX1 := Lib.hid hx1
  have HX2 := Lib.hid hx2
  have HI := Lib.hid hi
  clear hl hx hn hx1 hx2 hi
  go_enter Try.func12, Try.ntmps12
  go_wp2_with fail
  refine HF.out.mono ?_
  rintro e w1 ⟨v, rfl, ho, hb⟩
  have hii := idx_ints w1 v l r ho.row (by rw [HN.out]; omega)
  rw [HI.out] at hii
  obtain ⟨a, cap, rfl, h1, h2, hc⟩ := ho.row
  rw [HN.out] at h1 hc hii ⊢
  have HC := Lib.hid hc
  have HII := Lib.hid hii
  have HB := Lib.hid hb
  clear hc ho hb hii
  go_wp2_with fail
  refine HII.out.mono ?_
  rintro e w2 ⟨rfl, hw2⟩
  subst hw2
  by_cases hlt : k + 1 < n
  · obtain ⟨g, rfl, hg, hcell⟩ := HC.out (k + 1) hlt
    rw [HX1.out hlt] at hcell
    have e1 : ((k : Int) + 1).tmod (n : Int) = ((k + 1 : Nat) : Int) := by rw [Int.tmod_eq_emod_of_nonneg (by omega), Int.emod_eq_of_lt (by omega) (by omega)]; omega
    have e2 : (n : Int) ≠ 0 := by omega
    go_wp2
    go_ret
    exact ⟨rfl, HB.out⟩
  · have hkn : k + 1 = n := by omega
    obtain ⟨g, rfl, hg, hcell⟩ := HC.out 0 (by omega)
    rw [HX2.out hkn] at hcell
    have e1 : ((k : Int) + 1).tmod (n : Int) = 0 := by rw [Int.tmod_eq_emod_of_nonneg (by omega), show (k : Int) + 1 = (n : Int) by omega, Int.emod_self]
    have e2 : (n : Int) ≠ 0 := by omega
    go_wp2
    go_ret
    exact ⟨rfl, HB.out⟩
theorem same_heads (a b : Int) : decide (famHead a = famHead b) = Fd.joinB (Fd.fam a) b := by
  rw [Bool.eq_iff_iff, decide_eq_true_eq, Fd.joinB_iff]
  have hm : ∀ r, famHead r ∈ Fd.fam r := fun r => by
    have := (Fd.fam_len r).1
    unfold famHead
    rw [List.getElem?_eq_getElem (by omega)]; exact List.getElem_mem _
  constructor
  · intro h
    have h1 := Fd.fam_same (hm a)
    have h2 := Fd.fam_same (hm b)
    rw [← h1, h, h2]; exact Fd.fam_self b
  · intro h
    unfold famHead
    rw [Fd.fam_same h]
set_option maxRecDepth 100000 in
set_option maxHeartbeats 2000000 in
theorem same_any (W : World) (a b : Int) :
    Calls Try.prog 14 #[.int .i64 a, .int .i64 b] W fun e w' => e = .returned (.bool (Fd.joinB (Fd.fam a) b)) ∧ Below W.heap.size W w' := by
  rw [← same_heads]
  have H1 := Lib.hid (least_any W a)
  have H2 := Lib.hid (fun W' => least_any W' b)
  obtain ⟨x, hx⟩ : ∃ x, famHead a = x := ⟨_, rfl⟩
  obtain ⟨y, hy⟩ : ∃ y, famHead b = y := ⟨_, rfl⟩
  rw [hx] at H1 ⊢
  rw [hy] at H2 ⊢
  clear hx hy
  go_enter Try.func14, Try.ntmps14
  go_wp2_with fail
  refine H1.out.mono ?_
  rintro e w1 ⟨rfl, hb⟩
  have HB := Lib.hid hb
  clear hb
  go_wp2_with fail
  refine (H2.out w1).mono ?_
  rintro e w2 ⟨rfl, hb⟩
  have HB2 := Lib.hid (HB.out.trans (hb.mono HB.out.size))
  clear hb
  go_wp2
  go_ret
  exact ⟨rfl, HB2.out⟩
end Go.Proofs.Ytbccaljfofnepaa
