/- burinlaw03.FoldRounds: the walk. -/
import Derived.Test.YtbccaljfofnepaaLaw03W
namespace Go.Proofs.Ytbccaljfofnepaa
open Go.RowKit
set_option linter.unusedVariables false
namespace Fd
def itL (l : List Int) (a : Int) : Nat → Int
  | 0 => a
  | i + 1 => nextL l (itL l a i)
theorem nextL_mem {l : List Int} (h : 1 ≤ l.length) (x : Int) : nextL l x ∈ l := by
  unfold nextL
  cases hf : l.find? fun y => decide (x < y) with
  | none => simp only [Option.getD_none]; rw [List.getElem?_eq_getElem (by omega)]; exact List.getElem_mem _
  | some y => exact List.mem_of_find?_eq_some hf
theorem itL_mem {l : List Int} {a : Int} (h : 1 ≤ l.length) (ha : a ∈ l) : ∀ i, itL l a i ∈ l
  | 0 => ha
  | i + 1 => nextL_mem h _
theorem itL_back (l : List Int) (a : Int) (hp : l.Pairwise (· < ·)) (h1 : 1 ≤ l.length) (h3 : l.length ≤ 3) (ha : a ∈ l) : itL l a l.length = a := by
  match l, hp, h1, h3, ha with
  | [x], _, _, _, ha =>
    have e : a = x := by simpa using ha
    subst e
    simp [itL, nextL]
  | [x, y], hp, _, _, ha =>
    have hxy : x < y := by simp at hp; exact hp
    have ha' : a = x ∨ a = y := by simpa using ha
    rcases ha' with rfl | rfl
    · simp [itL, nextL, hxy, show ¬ y < a by omega]
    · simp [itL, nextL, hxy, show ¬ a < x by omega]
  | [x, y, z], hp, _, _, ha =>
    have hxy : x < y ∧ x < z ∧ y < z := by simp at hp; omega
    obtain ⟨q1, q2, q3⟩ := hxy
    have ha' : a = x ∨ a = y ∨ a = z := by simpa using ha
    rcases ha' with rfl | rfl | rfl
    · simp [itL, nextL, q1, q3, show ¬ y < a by omega, show ¬ z < a by omega, show ¬ z < y by omega]
    · simp [itL, nextL, q1, q3, show ¬ a < x by omega, show ¬ z < x by omega, show ¬ z < a by omega]
    · simp [itL, nextL, q1, q3, show ¬ a < x by omega, show ¬ a < y by omega, show ¬ y < x by omega]
  | _ :: _ :: _ :: _ :: _, _, _, h, _ => simp at h
end Fd
set_option maxRecDepth 100000 in
set_option maxHeartbeats 4000000 in
theorem walkFoldRounds (W : World) (a : Int) (ha : (Lit.int .i64 a).wf = true) :
    Calls Try.prog 6 #[.int .i64 a] W fun e w' => e = .returned (.bool true) ∧ Below W.heap.size W w' := by
  obtain ⟨n1, n3⟩ := Fd.fam_len a
  have hself := Fd.fam_self a
  have HFA := fun W' => fam_any W' a
  have HNX : ∀ x, x ∈ Fd.fam a → ∀ W', Calls Try.prog 12 #[.int .i64 x] W' fun e w' => e = .returned (.int .i64 (Fd.nextL (Fd.fam a) x)) ∧ Below W'.heap.size W' w' :=
    fun x hx W' => by rw [← Fd.fam_same hx]; exact nextl_any W' x
  have HSA : ∀ x, x ∈ Fd.fam a → ∀ W', Calls Try.prog 14 #[.int .i64 a, .int .i64 x] W' fun e w' => e = .returned (.bool true) ∧ Below W'.heap.size W' w' :=
    fun x hx W' => by have := same_any W' a x; rwa [(Fd.joinB_iff _ _).2 hx] at this
  have HBK := Lib.hid (Fd.itL_back (Fd.fam a) a (Fd.fam_asc a) n1 n3 hself)
  have HIM := Lib.hid (Fd.itL_mem n1 hself)
  obtain ⟨l, hl⟩ : ∃ l, Fd.fam a = l := ⟨_, rfl⟩
  rw [hl] at n1 n3 HFA HNX HSA HBK HIM
  have HF := Lib.hid HFA
  have HN := Lib.hid HNX
  have HS := Lib.hid HSA
  obtain ⟨n, hn⟩ : ∃ n, l.length = n := ⟨_, rfl⟩
  rw [hn] at n1 n3 HBK
  have HL := Lib.hid hn
  clear hl hn HFA HNX HSA hself ha
  go_enter Try.func6, Try.ntmps6
  go_wp2_with fail
  refine (works_any _).mono ?_
  rintro e w1 ⟨rfl, hb⟩
  have HB1 := Lib.hid hb
  clear hb
  go_wp2_with fail
  refine (HF.out _).mono ?_
  rintro e w2 ⟨v, rfl, ho, hb⟩
  obtain ⟨fa, fc, rfl, h1, h2, _⟩ := ho.row
  rw [HL.out] at h1 ⊢
  have HB2 := Lib.hid (HB1.out.trans (hb.mono HB1.out.size))
  clear ho hb HB1
  have e0 : ((n : Int) == 0) = false := beq_eq_false_iff_ne.2 (by omega)
  have e1 : ¬ (10 : Int) < (n : Int) := by omega
  go_wp2
  go_loopw [4, 5, 6] (fun A C I wr => ∃ (i : Nat) (c x : Int), i ≤ n ∧ I = .int .i64 i ∧ A = .int .i64 x ∧ C = .int .i64 c ∧ 0 ≤ c ∧ c ≤ i ∧ (i = n → 1 ≤ c) ∧ Hid (Fd.itL l a i = x) ∧ Hid (Below W.heap.size W wr)) (fun _ _ I _ => n - (intOf I).toNat)
  case atStart => exact ⟨0, 0, a, by omega, rfl, rfl, rfl, by omega, by omega, by omega, Lib.hid rfl, HB2⟩
  case round =>
    obtain ⟨i, c, x, hi, rfl, rfl, rfl, hc0, hci, hcn, HX, HE⟩ := hrel
    by_cases hlt : i < n
    · have hxm := HIM.out i
      have hym := HIM.out (i + 1)
      rw [HX.out] at hxm
      have HXM := Lib.hid hxm
      have hyy : Fd.itL l a (i + 1) = Fd.nextL l x := by rw [Fd.itL, HX.out]
      have HNC := Lib.hid (HN.out x hxm)
      obtain ⟨y, hy⟩ : ∃ y, Fd.nextL l x = y := ⟨_, rfl⟩
      rw [hy] at HNC hyy
      rw [hyy] at hym
      have HSC := Lib.hid (HS.out y hym)
      have HY := Lib.hid hyy
      have hlast : i + 1 = n → y = a := fun h => by rw [← hyy, h]; exact HBK.out
      clear hxm hym hy hyy
      go_wp2_with fail
      refine (HNC.out _).mono ?_
      rintro e w3 ⟨rfl, hb⟩
      have HB3 := Lib.hid (HE.out.trans (hb.mono HE.out.size))
      clear hb
      go_wp2_with fail
      refine (HSC.out _).mono ?_
      rintro e w4 ⟨rfl, hb⟩
      have HB4 := Lib.hid (HB3.out.trans (hb.mono HB3.out.size))
      clear hb
      by_cases hya : y ≤ a
      · have HLA := Lib.hid hlast
        clear hlast
        go_wp2
        go_roundw
        case rel => exact ⟨i + 1, c + 1, y, by omega, by go_num, rfl, rfl, by omega, by omega, by omega, HY, HB4⟩
        case measure => simp [intOf]; omega
      · have HLA := Lib.hid hlast
        clear hlast
        go_wp2
        go_roundw
        case rel => exact ⟨i + 1, c, y, by omega, by go_num, rfl, rfl, by omega, by omega, fun h => by have := HLA.out h; omega, HY, HB4⟩
        case measure => simp [intOf]; omega
    · obtain rfl : i = n := by omega
      have hxa : x = a := by rw [← HX.out]; exact HBK.out
      subst hxa
      have hc1 := hcn rfl
      clear hcn
      have d1 : (x == x) = true := by simp
      go_wp2
      go_ret
      exact ⟨rfl, HE.out⟩
end Go.Proofs.Ytbccaljfofnepaa
