/- burinlaw11: mathematics of NormAgain and NormCores. · burinlaw11.count. -/
import Derived.Test.YtanffablfgnioaaGp39
import Derived.Test.YtanffablfgnioaaGp34
import Derived.Test.YtanffablfgnioaaGp35
import Derived.Test.YtanffablfgnioaaGp30
import Derived.Test.YtanffablfgnioaaGp29
namespace Go.Proofs.Ytanffablfgnioaa
open Go.RowKit
open Go.Proofs.Ytanffablfgnioaa.Nm
set_option linter.unusedVariables false
set_option linter.unusedSimpArgs false
namespace Nm
theorem fit_hgt : ∀ (k : Nat) (n : Nd), Td.fit k n → hgt n ≤ k
  | 0, n, h => h.elim
  | k + 1, n, h => hgt_le (fun m hm => fit_hgt k m (h.2.2.2 m hm))
/-- What is so of a core made of a small tree. -/
theorem coreF_ok {n : Nd} (hf : Td.fit 40 n) (h : (CoreF n).2 = 0) : (CoreF n).1 = coreI n ∧ AllN (Qc (Pg (Td.groups (Td.all 1000 1 n)).length)) (coreI n) ∧ hgt (coreI n) ≤ 80 ∧ cnt (coreI n) ≤ 4000 ∧ cnt (coreI n) ≤ wtN 1000 n ∧ nulI (coreI n) = nulI n ∧ Td.checkN n = 0 := by
  have hh := fit_hgt 40 n hf
  unfold CoreF at h ⊢
  by_cases hc : Td.checkN n ≠ 0
  · rw [if_pos hc] at h; exact absurd h hc
  rw [if_neg hc] at h ⊢
  by_cases hw : 4000 < wtN 1000 n
  · rw [if_pos hw] at h; cases h
  rw [if_neg hw]
  have hc0 : Td.checkN n = 0 := by omega
  obtain ⟨ha, -⟩ := check_all hc0
  have hw2 := wt_st 1000 n (by omega)
  have := core_is _ (fun x hx => hx.2.1) n ha (by omega)
  have h1 := this.hgt
  have h2 := this.cnt
  exact ⟨rfl, this.ok, by omega, by omega, by omega, this.nul, hc0⟩
theorem topG_le : ∀ (l : List (Nat × Nd)) (a G : Int), a ≤ G → (∀ p ∈ l, Td.kind p.2 = 6 → Td.num p.2 ≤ G) → l.foldl (fun a p => if Td.kind p.2 = 6 then max a (Td.num p.2) else a) a ≤ G
  | [], a, G, h, _ => h
  | x :: l, a, G, h, hl => by
    refine topG_le l _ G ?_ (fun p hp => hl p (List.mem_cons_of_mem _ hp))
    have hx := hl x (by simp)
    by_cases h6 : Td.kind x.2 = 6
    · have := hx h6
      simp only [h6, if_true]
      omega
    · simp only [h6, if_false]
      exact h
theorem slots_le {c : Nd} {G : Nat} (h : AllN (Qc (Pg G)) c) : topG (Td.all 2000 1 c) ≤ G := by
  unfold topG
  exact topG_le _ 0 G (by omega) (fun p hp hk => ((h.all 2000 1 p hp).2.2 hk).2.2)
theorem groups_len (l : List (Nat × Nd)) : (Td.groups l).length ≤ l.length := by
  unfold Td.groups
  rw [List.length_map]
  exact List.length_filter_le _ _
end Nm
end Go.Proofs.Ytanffablfgnioaa
namespace Go.Proofs.Ytanffablfgnioaa
open Go.RowKit
open Go.Proofs.Ytanffablfgnioaa.Nm
set_option linter.unusedVariables false
set_option linter.unusedSimpArgs false
def CntOk (k : Nat) : Prop := ∀ (W : World) (n : Nd) (cs : List Value), hgt n ≤ k → cnt n ≤ 5000 → NdIs W n cs → Calls Try.prog 17 #[.agg cs.toArray] W fun e w' => e = .returned (.int .i64 (cnt n : Int)) ∧ Below W.heap.size W w'
theorem sumC_take (l : List Nd) (i : Nat) (m : Nd) (h : l[i]? = some m) : sumC (l.take (i + 1)) = sumC (l.take i) + cnt m := by
  obtain ⟨hi, rfl⟩ := List.getElem?_eq_some_iff.1 h
  rw [List.take_succ_eq_append_getElem hi, sumC_app, sumC_cons, sumC_nil, Nat.add_zero]
theorem sumC_take_le (l : List Nd) (i : Nat) : sumC (l.take i) ≤ sumC l := by
  conv => rhs; rw [← List.take_append_drop i l, sumC_app]
  omega
set_option maxRecDepth 100000 in
set_option maxHeartbeats 8000000 in
theorem cnt_step (k : Nat) (ih : CntOk k) : CntOk (k + 1) := by
  intro W n cs hh hc h
  obtain ⟨vs, a, cap, C, hC⟩ := h.cells
  obtain ⟨sa, sk, sc, rfl⟩ : ∃ a k c, vs = .slice a k c := by obtain ⟨a, c, h, -⟩ := hC.set; exact ⟨a, _, c, h⟩
  have hcs := hC.eq
  have HSUB := Lib.hid hC.sub
  have HSH := Lib.hid (fun m (hm : m ∈ Td.subs n) => hgt_sub hm)
  have HHH := Lib.hid hh
  have HCE := Lib.hid (cnt_subs n)
  have HCC := Lib.hid hc
  have IH := Lib.hid ih
  subst hcs
  obtain ⟨L, hL⟩ : ∃ L, (Td.subs n).length = L := ⟨_, rfl⟩
  have HL := Lib.hid hL
  rw [hL] at HSUB ⊢
  have hLb : L ≤ 5000 := by
    have := len_sumC (Td.subs n)
    have := cnt_subs n
    omega
  obtain ⟨T, hT⟩ : ∃ T, cnt n = T := ⟨_, rfl⟩
  rw [hT] at HCE HCC ⊢
  obtain ⟨W1, hW1⟩ : ∃ W1, W.alloc (.cells #[.int .i64 (Td.kind n), .slice sa sk sc, .int .i64 (Td.num n), .string (Td.name n), .int .i64 (Td.mn n), .int .i64 (Td.mx n), .bool (Td.lazy n), .slice a L cap] 25) = W1 := ⟨_, rfl⟩
  have HX1 : Hid (W1.heap[W.heap.size]? = some (.cells #[.int .i64 (Td.kind n), .slice sa sk sc, .int .i64 (Td.num n), .string (Td.name n), .int .i64 (Td.mn n), .int .i64 (Td.mx n), .bool (Td.lazy n), .slice a L cap] 25 (0, 0))) := Lib.hid (by rw [← hW1]; exact heap_alloc_new _ _)
  have HB1 : Hid (Below W.heap.size W W1) := Lib.hid (by rw [← hW1]; exact (Below.refl _ _).alloc (Nat.le_refl _) _)
  have hs1 : W.heap.size < W1.heap.size := by rw [← hW1]; simp
  have HS1 := Lib.hid hs1
  obtain ⟨p0, p1, p2, p3, p4, p5, p6, p7⟩ := nbox_cells HX1.out
  rw [← hW1] at p0 p1 p2 p3 p4 p5 p6 p7
  have HW1 := Lib.hid hW1
  clear hW1 hC h hL hT hh hc ih hs1
  go_enter Try.func17, Try.ntmps17
  go_wp2
  rw [HW1.out]
  clear p0 p1 p2 p3 p4 p5 p6 p7 HW1
  go_loopw [3, 8] (fun kv iv wr => ∃ i : Nat, i ≤ L ∧ iv = .int .i64 (i : Int) ∧ kv = .int .i64 ((1 + sumC ((Td.subs n).take i) : Nat) : Int) ∧ Hid (Below W1.heap.size W1 wr)) (fun _ iv _ => L - (intOf iv).toNat)
  case atStart => exact ⟨0, by omega, rfl, rfl, Lib.hid (Below.refl _ _)⟩
  case round =>
    obtain ⟨i, hi, rfl, rfl, HBW⟩ := hrel
    by_cases hlt : i < L
    · obtain ⟨b, off, m, u0, u1, u2, u3, u4, u5, u6, u7, rfl, hb, hm, hnd, q0, q1, q2, q3, q4, q5, q6, q7⟩ := HSUB.out i hlt
      have hBW := HB1.out.trans (HBW.out.mono HB1.out.size)
      have kc : ∀ o v, W.cell? ⟨b, o, none⟩ = some v → wr.cell? ⟨b, o, none⟩ = some v := fun o v h => (hBW.cell (p := ⟨b, o, none⟩) hb).trans h
      replace q0 := kc _ _ q0; replace q1 := kc _ _ q1; replace q2 := kc _ _ q2; replace q3 := kc _ _ q3
      replace q4 := kc _ _ q4; replace q5 := kc _ _ q5; replace q6 := kc _ _ q6; replace q7 := kc _ _ q7
      obtain ⟨f1, f2, f3, f4, F1⟩ := hnd.form
      obtain ⟨rfl, rfl, rfl, rfl, rfl, rfl, rfl, rfl⟩ := F1
      have p7 := (nbox_cells ((HBW.out.block _ HS1.out).trans HX1.out)).2.2.2.2.2.2.2
      have hmem : m ∈ Td.subs n := List.mem_of_getElem? hm
      have hst := sumC_take _ i m hm
      have hsl := sumC_take_le (Td.subs n) (i + 1)
      have hce := HCE.out
      have hcc := HCC.out
      have HC := Lib.hid (IH.out wr m _ (by have := HSH.out m hmem; have := HHH.out; omega) (by omega) (hnd.kept hBW))
      have HST := Lib.hid hst
      obtain ⟨S, hS⟩ : ∃ S, sumC ((Td.subs n).take i) = S := ⟨_, rfl⟩
      obtain ⟨V, hV⟩ : ∃ V, cnt m = V := ⟨_, rfl⟩
      rw [hS, hV] at HST
      rw [hV] at HC hst
      rw [hS] at hst ⊢
      have w1 : IntKind.i64.wrap (((1 + S : Nat) : Int) + (V : Int)) = ((1 + (S + V) : Nat) : Int) := by rw [IntKind.wrap_i64]; omega
      have w1' : IntKind.i64.wrap (1 + (S : Int) + (V : Int)) = 1 + ((S : Int) + (V : Int)) := by rw [IntKind.wrap_i64]; omega
      have k0 : (0 : Int) ≤ (i : Int) := by omega
      have k1 : (i : Int) < (L : Int) := by omega
      have w2 : IntKind.i64.wrap ((i : Int) + 1) = ((i + 1 : Nat) : Int) := by rw [IntKind.wrap_i64]; omega
      clear kc hm hmem hst hsl hce hcc hS hV hnd hb hBW
      go_wp2_with fail
      refine HC.out.mono ?_
      rintro e w4 ⟨rfl, hb4⟩
      have HB4 := Lib.hid (HBW.out.trans (hb4.mono HBW.out.size))
      clear hb4 q0 q1 q2 q3 q4 q5 q6 q7 p7
      go_wp2
      go_roundw
      case rel => exact ⟨i + 1, by omega, rfl, by rw [HST.out]; first | rfl | (congr 1; omega), HB4⟩
      case measure => simp [intOf]; omega
    · obtain rfl : i = L := by omega
      have hT : 1 + sumC ((Td.subs n).take i) = T := by rw [HCE.out, List.take_of_length_le (by rw [HL.out]; exact Nat.le_refl _)]
      rw [hT]
      have HBZ := Lib.hid (HB1.out.trans (HBW.out.mono HB1.out.size))
      clear hT
      go_wp2
      go_ret
      exact ⟨rfl, HBZ.out⟩
theorem count_any : ∀ k, CntOk k
  | 0 => fun W n cs h _ _ => by have := hgt_pos n; omega
  | k + 1 => cnt_step k (count_any k)
end Go.Proofs.Ytanffablfgnioaa
