/- The landed tree: nullable, Nullable. -/
import Derived.Test.YtcomjkoaieeidaaGp28
namespace Go.Proofs.Ytcomjkoaieeidaa
open Go.RowKit
set_option linter.unusedVariables false
theorem not_any_all (l : List Nd) (f : Nd → Bool) : (!(l.any (fun m => f m == false))) = l.all f := by
  induction l with
  | nil => rfl
  | cons a l ih =>
    simp only [List.any_cons, List.all_cons, Bool.not_or, ih]
    cases f a <;> rfl
theorem any_true' (l : List Nd) (f : Nd → Bool) : (l.any (fun m => f m == true)) = l.any f := by
  congr 1; funext m; cases f m <;> rfl
set_option maxRecDepth 100000 in
set_option maxHeartbeats 8000000 in
theorem tnul_step (k M : Nat) (hM : M = k + 1) (ih : TNulOk k) : TNulOk M := by
  intro d hd W n cs h
  have hd0 : ¬ (1000 : Int) < (d : Int) := by omega
  have hd1 : (d : Int) ≤ 1000 := by omega
  obtain ⟨R, hR⟩ : ∃ R, Td.nul M n = R := ⟨_, rfl⟩
  rw [hR]
  rw [hM, Td.nul] at hR
  obtain ⟨u0, u1, u2, u3, u4, u5, u6, u7, sa, sc, a, c, hcs, F⟩ := h.form_of
  subst hcs
  obtain ⟨rfl, rfl, rfl, rfl, rfl, rfl, rfl, rfl⟩ := F
  have hb2 : Below W.heap.size W ((W.alloc (.cells #[.int .i64 (Td.kind n), .slice sa (Td.set n).length sc, .int .i64 (Td.num n), .string (Td.name n), .int .i64 (Td.mn n), .int .i64 (Td.mx n), .bool (Td.lazy n), .slice a (Td.subs n).length c] 25)).alloc (.cells #[.int .i64 (d : Int)] 3)) := ((Below.refl _ W).alloc (Nat.le_refl _) _).alloc (by simp) _
  have hnw : ((W.alloc (.cells #[.int .i64 (Td.kind n), .slice sa (Td.set n).length sc, .int .i64 (Td.num n), .string (Td.name n), .int .i64 (Td.mn n), .int .i64 (Td.mx n), .bool (Td.lazy n), .slice a (Td.subs n).length c] 25)).alloc (.cells #[.int .i64 (d : Int)] 3)).heap[W.heap.size]? = some (.cells [.int .i64 (Td.kind n), .slice sa (Td.set n).length sc, .int .i64 (Td.num n), .string (Td.name n), .int .i64 (Td.mn n), .int .i64 (Td.mx n), .bool (Td.lazy n), .slice a (Td.subs n).length c].toArray 25 (0, 0)) :=
    (Below.heap_alloc _ _ _ (by simp)).trans (heap_alloc_new W _)
  have hdw : ((W.alloc (.cells #[.int .i64 (Td.kind n), .slice sa (Td.set n).length sc, .int .i64 (Td.num n), .string (Td.name n), .int .i64 (Td.mn n), .int .i64 (Td.mx n), .bool (Td.lazy n), .slice a (Td.subs n).length c] 25)).alloc (.cells #[.int .i64 (d : Int)] 3)).cell? ⟨W.heap.size + 1, 0, none⟩ = some (.int .i64 (d : Int)) := by
    have key : ∀ X : World, (X.alloc (.cells #[.int .i64 (d : Int)] 3)).cell? ⟨X.heap.size, 0, none⟩ = some (.int .i64 (d : Int)) := fun X => by simp
    have h9 := key (W.alloc (.cells #[.int .i64 (Td.kind n), .slice sa (Td.set n).length sc, .int .i64 (Td.num n), .string (Td.name n), .int .i64 (Td.mn n), .int .i64 (Td.mx n), .bool (Td.lazy n), .slice a (Td.subs n).length c] 25))
    rwa [World.size_alloc] at h9
  have HX := Lib.hid (fun is => null1_any k d (by omega) ih _ W.heap.size (W.heap.size + 1) is n _ hnw hdw (by simp) (h.kept hb2))
  have HB2 := Lib.hid hb2
  clear hb2 hnw hdw ih h hM
  obtain ⟨Z, hZ⟩ : ∃ Z, ((Td.subs n).any (fun m => Td.nul k m == false)) = Z := ⟨_, rfl⟩
  obtain ⟨Y, hY⟩ : ∃ Y, ((Td.subs n).any (fun m => Td.nul k m == true)) = Y := ⟨_, rfl⟩
  have HX0 := Lib.hid (HX.out false)
  have HX1 := Lib.hid (HX.out true)
  rw [hZ] at HX0
  rw [hY] at HX1
  have e1 := not_any_all (Td.subs n) (Td.nul k)
  have e2 := any_true' (Td.subs n) (Td.nul k)
  rw [hZ] at e1
  rw [hY] at e2
  rw [← e1, ← e2] at hR
  clear HX hZ hY e1 e2
  obtain ⟨K, hK⟩ : ∃ K, Td.kind n = K := ⟨_, rfl⟩
  obtain ⟨mn, hmn⟩ : ∃ mn, Td.mn n = mn := ⟨_, rfl⟩
  rw [hK, hmn] at hR HX0 HX1 HB2 ⊢
  clear hK hmn
  by_cases k1 : K = 1
  · have HR : Hid (R = true) := Lib.hid (by rw [← hR]; simp [k1])
    clear hR
    subst k1
    go_enter Try.func23, Try.ntmps23
    go_wp2
    go_ret
    exact ⟨by rw [HR.out]; rfl, HB2.out⟩
  by_cases k5 : K = 5
  · have HR : Hid (R = true) := Lib.hid (by rw [← hR]; simp [k5])
    clear hR
    subst k5
    go_enter Try.func23, Try.ntmps23
    go_wp2
    go_ret
    exact ⟨by rw [HR.out]; rfl, HB2.out⟩
  by_cases k6 : K = 6
  · have HR : Hid (R = !Z) := Lib.hid (by rw [← hR]; simp [k6])
    clear hR
    subst k6
    go_enter Try.func23, Try.ntmps23
    go_wp2_with fail
    refine HX0.out.mono ?_
    rintro e w5 ⟨rfl, hb5⟩
    have HB5 := Lib.hid (HB2.out.trans (hb5.mono HB2.out.size))
    clear hb5
    go_wp2
    go_ret
    exact ⟨by rw [HR.out]; rfl, HB5.out⟩
  by_cases k7 : K = 7
  · have HR : Hid (R = !Z) := Lib.hid (by rw [← hR]; simp [k7])
    clear hR
    subst k7
    go_enter Try.func23, Try.ntmps23
    go_wp2_with fail
    refine HX0.out.mono ?_
    rintro e w5 ⟨rfl, hb5⟩
    have HB5 := Lib.hid (HB2.out.trans (hb5.mono HB2.out.size))
    clear hb5
    go_wp2
    go_ret
    exact ⟨by rw [HR.out]; rfl, HB5.out⟩
  by_cases k8 : K = 8
  · have HR : Hid (R = Y) := Lib.hid (by rw [← hR]; simp [k8])
    clear hR
    subst k8
    go_enter Try.func23, Try.ntmps23
    go_wp2_with fail
    refine HX1.out.mono ?_
    rintro e w5 ⟨rfl, hb5⟩
    have HB5 := Lib.hid (HB2.out.trans (hb5.mono HB2.out.size))
    clear hb5
    go_wp2
    go_ret
    exact ⟨by rw [HR.out]; rfl, HB5.out⟩
  by_cases k9 : K = 9
  · by_cases m0 : mn = 0
    · have HR : Hid (R = true) := Lib.hid (by rw [← hR]; simp [k9, m0])
      clear hR
      subst k9
      subst m0
      go_enter Try.func23, Try.ntmps23
      go_wp2
      go_ret
      exact ⟨by rw [HR.out]; rfl, HB2.out⟩
    · have HR : Hid (R = (mn == 0 || !Z)) := Lib.hid (by rw [← hR]; simp [k9])
      clear hR
      subst k9
      go_enter Try.func23, Try.ntmps23
      go_wp2_with fail
      refine HX0.out.mono ?_
      rintro e w5 ⟨rfl, hb5⟩
      have HB5 := Lib.hid (HB2.out.trans (hb5.mono HB2.out.size))
      clear hb5
      go_wp2
      go_ret
      exact ⟨by rw [HR.out]; rfl, HB5.out⟩
  · have HR : Hid (R = false) := Lib.hid (by rw [← hR]; simp [*])
    clear hR
    go_enter Try.func23, Try.ntmps23
    go_wp2
    go_ret
    exact ⟨by rw [HR.out]; rfl, HB2.out⟩
theorem tnul_any : ∀ k : Nat, TNulOk k
  | 0 => by
    intro d hd W n cs h
    have hd0 : (1000 : Int) < (d : Int) := by omega
    obtain ⟨u0, u1, u2, u3, u4, u5, u6, u7, sa, sc, a, c, hcs, F⟩ := h.form_of
    subst hcs
    obtain ⟨rfl, rfl, rfl, rfl, rfl, rfl, rfl, rfl⟩ := F
    clear h
    go_enter Try.func23, Try.ntmps23
    go_wp2
    go_ret
    exact ⟨rfl, ((Below.refl W.heap.size W).alloc (Nat.le_refl _) _).alloc (by simp) _⟩
  | k + 1 => tnul_step k _ rfl (tnul_any k)
set_option maxRecDepth 100000 in
set_option maxHeartbeats 4000000 in
theorem trNullable_any (W : World) (n : Nd) (cs : List Value) (h : NdIs W n cs) :
    Calls Try.prog 15 #[.agg cs.toArray] W fun e w' => e = .returned (.bool (Td.nul 1000 n)) ∧ Below W.heap.size W w' := by
  have hb2 : Below W.heap.size W (W.alloc (.cells cs.toArray 25)) := (Below.refl W.heap.size W).alloc (Nat.le_refl _) _
  have HB2 := Lib.hid hb2
  have H1 := Lib.hid (h.kept hb2)
  have IH := Lib.hid (tnul_any 1000 1 rfl)
  obtain ⟨u0, u1, u2, u3, u4, u5, u6, u7, sa, sc, a, c, hcs, F⟩ := h.form_of
  subst hcs
  obtain ⟨rfl, rfl, rfl, rfl, rfl, rfl, rfl, rfl⟩ := F
  clear h hb2
  go_enter Try.func15, Try.ntmps15
  go_wp2_with fail
  refine (IH.out _ n _ H1.out).mono ?_
  rintro e w5 ⟨rfl, hb5⟩
  have HB5 := Lib.hid (HB2.out.trans (hb5.mono HB2.out.size))
  go_wp2
  go_ret
  exact ⟨rfl, HB5.out⟩
end Go.Proofs.Ytcomjkoaieeidaa
