/- The reference's tree (burinref06): Nullable. · The landed tree: nullable, with slices.ContainsFunc, IndexFunc and the closures; Nullable. -/
import Derived.Test.YtcomjkoaieeidaaGp6
import Derived.IntWalk
import Derived.Test.YtcomjkoaieeidaaGp7
import Derived.Test.YtcomjkoaieeidaaGp10
import Derived.BigQuiet
namespace Go.Proofs.Ytcomjkoaieeidaa
open Go.RowKit
set_option linter.unusedVariables false
namespace Td
/-- May it match nothing? Down to a depth. -/
def nul : Nat → Nd → Bool
  | 0, _ => false
  | k + 1, n => if kind n = 1 ∨ kind n = 5 then true else if kind n = 6 ∨ kind n = 7 then (subs n).all (nul k) else if kind n = 8 then (subs n).any (nul k) else if kind n = 9 then mn n == 0 || (subs n).all (nul k) else false
theorem all_take_succ (l : List Nd) (f : Nd → Bool) (k : Nat) (m : Nd) (hk : l[k]? = some m) : (l.take (k + 1)).all f = ((l.take k).all f && f m) := by
  obtain ⟨h, rfl⟩ := List.getElem?_eq_some_iff.1 hk
  rw [List.take_succ_eq_append_getElem h, List.all_append]; simp
theorem any_take_succ (l : List Nd) (f : Nd → Bool) (k : Nat) (m : Nd) (hk : l[k]? = some m) : (l.take (k + 1)).any f = ((l.take k).any f || f m) := by
  obtain ⟨h, rfl⟩ := List.getElem?_eq_some_iff.1 hk
  rw [List.take_succ_eq_append_getElem h, List.any_append]; simp
end Td



















































































































end Go.Proofs.Ytcomjkoaieeidaa
namespace Go.Proofs.Ytcomjkoaieeidaa
open Go.RowKit
set_option linter.unusedVariables false
def TNulOk (k : Nat) : Prop := ∀ (d : Nat), d + k = 1001 → ∀ (W : World) (n : Nd) (cs : List Value), NdIs W n cs → Calls Try.prog 23 #[.agg cs.toArray, .int .i64 (d : Int)] W fun e w' => e = .returned (.bool (Td.nul k n)) ∧ Below W.heap.size W w'
set_option maxRecDepth 100000 in
set_option maxHeartbeats 4000000 in
theorem null11_any (k d : Nat) (hd : d + 1 + k = 1001) (ih : TNulOk k) (W : World) (Bd Bi : Nat) (is : Bool) (m : Nd) (cs : List Value) (hBd : W.cell? ⟨Bd, 0, none⟩ = some (.int .i64 (d : Int))) (hBdl : Bd < W.heap.size)
    (hBi : W.cell? ⟨Bi, 0, none⟩ = some (.bool is)) (hBil : Bi < W.heap.size) (h : NdIs W m cs) :
    Calls Try.prog 37 #[.agg cs.toArray, .pointer (some ⟨Bd, 0, none⟩), .pointer (some ⟨Bi, 0, none⟩)] W fun e w' => e = .returned (.bool (Td.nul k m == is)) ∧ Below W.heap.size W w' := by
  have mixed : Try.prog.follows .mixedOrders = true := by kernel_rfl
  have hw : IntKind.i64.wrap ((d : Int) + 1) = ((d + 1 : Nat) : Int) := by rw [IntKind.wrap_i64]; omega
  have hb1 : Below W.heap.size W (W.alloc (.cells cs.toArray 25)) := (Below.refl W.heap.size W).alloc (Nat.le_refl _) _
  have hnew := heap_alloc_new W (.cells cs.toArray 25)
  obtain ⟨W1, hW1⟩ : ∃ W1, W.alloc (.cells cs.toArray 25) = W1 := ⟨_, rfl⟩
  have hsz : W.heap.size < W1.heap.size := by rw [← hW1]; simp
  rw [hW1] at hb1 hnew
  have HB1 := Lib.hid hb1
  obtain ⟨x, hx⟩ : ∃ x, Td.nul k m = x := ⟨_, rfl⟩
  have HCL := Lib.hid (fun p : GrownTo W1 => ih (d + 1) hd p.W' m cs (h.kept (hb1.trans (p.h.mono hb1.size))))
  rw [hx] at HCL
  rw [hx]
  have hd2 := fun p : GrownTo W1 => cell_grownTo (w := W1) (a := ⟨Bd, 0, none⟩) (Nat.lt_of_lt_of_le hBdl hb1.size) ((hb1.cell (p := ⟨Bd, 0, none⟩) hBdl).trans hBd) p
  have hi2 := fun p : GrownTo W1 => cell_grownTo (w := W1) (a := ⟨Bi, 0, none⟩) (Nat.lt_of_lt_of_le hBil hb1.size) ((hb1.cell (p := ⟨Bi, 0, none⟩) hBil).trans hBi) p
  have hn2 := fun (p : GrownTo W1) => (p.h.block _ hsz).trans hnew
  obtain ⟨u0, u1, u2, u3, u4, u5, u6, u7, sa, sc, a, c, hcs, F⟩ := h.form_of
  subst hcs
  obtain ⟨rfl, rfl, rfl, rfl, rfl, rfl, rfl, rfl⟩ := F
  have q : ∀ (p : GrownTo W1) (i : Nat) (v : Value), (#[Value.int .i64 (Td.kind m), .slice sa (Td.set m).length sc, .int .i64 (Td.num m), .string (Td.name m), .int .i64 (Td.mn m), .int .i64 (Td.mx m), .bool (Td.lazy m), .slice a (Td.subs m).length c] : Array Value)[i]? = some v → p.W'.cell? ⟨W.heap.size, i, none⟩ = some v := fun p i v hv => by
    simp only [World.cell?, hn2 p]
    simpa using hv
  have q0 := fun p => q p 0 _ rfl
  have q1 := fun p => q p 1 _ rfl
  have q2 := fun p => q p 2 _ rfl
  have q3 := fun p => q p 3 _ rfl
  have q4 := fun p => q p 4 _ rfl
  have q5 := fun p => q p 5 _ rfl
  have q6 := fun p => q p 6 _ rfl
  have q7 := fun p => q p 7 _ rfl
  have HF := Lib.hid (And.intro hd2 (And.intro hi2 (And.intro q0 (And.intro q1 (And.intro q2 (And.intro q3 (And.intro q4 (And.intro q5 (And.intro q6 q7)))))))))
  have HW1 := Lib.hid hW1
  clear q q0 q1 q2 q3 q4 q5 q6 q7 hd2 hi2 hn2 h hb1 hnew hW1 ih hx hBd hBi
  go_enter Try.func37, Try.ntmps37
  go_wp2
  rw [HW1.out]
  obtain ⟨hd2, hi2, q0, q1, q2, q3, q4, q5, q6, q7⟩ := HF.out
  refine wp_region_quiet_below (by assumption) (by kernel_rfl) ?_
  repeat (quiet_step (first | (go_at_call 23; exact calls_grownTo (HCL.out _))))
  refine wpQuiet_nil ?_
  intro _ hw'
  obtain ⟨⟨wz, hbz⟩, hw''⟩ := hw'
  subst hw''
  have HBZ := Lib.hid (HB1.out.trans (hbz.mono HB1.out.size))
  clear hbz q0 q1 q2 q3 q4 q5 q6 q7 hd2 hi2
  go_wp2
  go_ret
  exact ⟨rfl, HBZ.out⟩
set_option maxRecDepth 100000 in
set_option maxHeartbeats 4000000 in
theorem ixf_any (k d : Nat) (hd : d + 1 + k = 1001) (ih : TNulOk k) (W : World) (Bd Bi : Nat) (is : Bool) (n : Nd) (vs : Value) (a : Option Addr) (cap : Nat) (C : Nat → List Value) (ca : List Value) (hBd : W.cell? ⟨Bd, 0, none⟩ = some (.int .i64 (d : Int))) (hBdl : Bd < W.heap.size)
    (hBi : W.cell? ⟨Bi, 0, none⟩ = some (.bool is)) (hBil : Bi < W.heap.size) (hC : NdCells W ca n vs a cap C) :
    Calls Try.prog 39 #[.slice a (Td.subs n).length cap, .func (.func 37) #[] #[.pointer (some ⟨Bd, 0, none⟩), .pointer (some ⟨Bi, 0, none⟩)]] W
      fun e w' => ∃ r : Int, e = .returned (.int .i64 r) ∧ (decide (0 ≤ r) = (Td.subs n).any (fun m => Td.nul k m == is)) ∧ Below W.heap.size W w' := by
  have HSUB := Lib.hid hC.sub
  have hla := hC.len
  have HCL := Lib.hid (null11_any k d hd ih)
  obtain ⟨L, eL⟩ : ∃ L, (Td.subs n).length = L := ⟨_, rfl⟩
  rw [eL] at hla HSUB
  rw [eL]
  have HL := Lib.hid eL
  have HBD := Lib.hid hBd
  have HBI := Lib.hid hBi
  clear eL hC ih hBd hBi
  go_enter Try.func39, Try.ntmps39
  go_wp2
  go_loopw [5, 8] (fun jv iv wr => ∃ i : Nat, i ≤ L ∧ iv = .int .i64 (i : Int) ∧ Hid (((Td.subs n).take i).any (fun m => Td.nul k m == is) = false) ∧ Hid (Below W.heap.size W wr)) (fun _ iv _ => L - (intOf iv).toNat)
  case atStart => exact ⟨0, Nat.zero_le _, rfl, Lib.hid (by simp), Lib.hid (Below.refl _ _)⟩
  case round =>
    obtain ⟨i, hi, rfl, HA, HB⟩ := hrel
    by_cases hlt : i < L
    · obtain ⟨g, off, x, u0, u1, u2, u3, u4, u5, u6, u7, rfl, hb, hm, hnd, q0, q1, q2, q3, q4, q5, q6, q7⟩ := HSUB.out i hlt
      have hbw := HB.out
      have kc : ∀ o v, W.cell? ⟨g, o, none⟩ = some v → wr.cell? ⟨g, o, none⟩ = some v := fun o v h => (hbw.cell (p := ⟨g, o, none⟩) hb).trans h
      replace q0 := kc _ _ q0; replace q1 := kc _ _ q1; replace q2 := kc _ _ q2; replace q3 := kc _ _ q3
      replace q4 := kc _ _ q4; replace q5 := kc _ _ q5; replace q6 := kc _ _ q6; replace q7 := kc _ _ q7
      have hbl : g < wr.heap.size := Nat.lt_of_lt_of_le hb hbw.size
      have HND := Lib.hid (hnd.kept hbw)
      have HBD2 := Lib.hid ((hbw.cell (p := ⟨Bd, 0, none⟩) hBdl).trans HBD.out)
      have HBI2 := Lib.hid ((hbw.cell (p := ⟨Bi, 0, none⟩) hBil).trans HBI.out)
      have HSZ := Lib.hid hbw.size
      have HM := Lib.hid hm
      obtain ⟨Q, hQ⟩ : ∃ Q, (Td.nul k x == is) = Q := ⟨_, rfl⟩
      have HYES : Hid (((Td.subs n).take (i + 1)).any (fun m => Td.nul k m == is) = Q) := Lib.hid (by rw [Td.any_take_succ _ _ _ _ hm, HA.out, hQ]; rfl)
      have HNO : Hid (Q = true → (Td.subs n).any (fun m => Td.nul k m == is) = true) := Lib.hid (fun e => by
        rw [List.any_eq_true]; exact ⟨x, List.mem_of_getElem? hm, by rw [hQ]; exact e⟩)
      have HQ := Lib.hid hQ
      clear kc hm hnd hbw hQ
      go_wp2_with fail
      refine (HCL.out _ Bd Bi is x _ HBD2.out (Nat.lt_of_lt_of_le hBdl HSZ.out) HBI2.out (Nat.lt_of_lt_of_le hBil HSZ.out) HND.out).mono ?_
      rintro e w5 ⟨rfl, hb5⟩
      have HB5 := Lib.hid (HB.out.trans (hb5.mono HSZ.out))
      rw [HQ.out]
      clear hb5 q0 q1 q2 q3 q4 q5 q6 q7
      cases Q with
      | false =>
        go_wp2
        go_roundw
        case rel => exact ⟨i + 1, by omega, by go_num, HYES, HB5⟩
        case measure => simp [intOf]; omega
      | true =>
        have HF := Lib.hid (HNO.out rfl)
        go_wp2
        go_ret
        exact ⟨(i : Int), rfl, by rw [HF.out]; simp, HB5.out⟩
    · obtain rfl : i = L := by omega
      have HE : Hid ((Td.subs n).any (fun m => Td.nul k m == is) = false) := Lib.hid (by
        have := HA.out
        rwa [List.take_of_length_le (by rw [HL.out]; exact Nat.le_refl _)] at this)
      go_wp2
      go_ret
      exact ⟨-1, rfl, by rw [HE.out]; rfl, HB.out⟩
set_option maxRecDepth 100000 in
set_option maxHeartbeats 4000000 in
theorem cnf_any (k d : Nat) (hd : d + 1 + k = 1001) (ih : TNulOk k) (W : World) (Bd Bi : Nat) (is : Bool) (n : Nd) (vs : Value) (a : Option Addr) (cap : Nat) (C : Nat → List Value) (ca : List Value) (hBd : W.cell? ⟨Bd, 0, none⟩ = some (.int .i64 (d : Int))) (hBdl : Bd < W.heap.size)
    (hBi : W.cell? ⟨Bi, 0, none⟩ = some (.bool is)) (hBil : Bi < W.heap.size) (hC : NdCells W ca n vs a cap C) :
    Calls Try.prog 36 #[.slice a (Td.subs n).length cap, .func (.func 37) #[] #[.pointer (some ⟨Bd, 0, none⟩), .pointer (some ⟨Bi, 0, none⟩)]] W
      fun e w' => e = .returned (.bool ((Td.subs n).any (fun m => Td.nul k m == is))) ∧ Below W.heap.size W w' := by
  have HX := Lib.hid (ixf_any k d hd ih W Bd Bi is n vs a cap C ca hBd hBdl hBi hBil hC)
  clear hC ih
  go_enter Try.func36, Try.ntmps36
  go_wp2_with fail
  refine HX.out.mono ?_
  rintro e w5 ⟨r, rfl, hr, hb5⟩
  have HR := Lib.hid hr
  have HB := Lib.hid hb5
  clear hr hb5
  go_wp2
  go_ret
  exact ⟨by rw [← HR.out]; rfl, HB.out⟩
set_option maxRecDepth 100000 in
set_option maxHeartbeats 4000000 in
theorem null1_any (k d : Nat) (hd : d + 1 + k = 1001) (ih : TNulOk k) (W : World) (Bn Bd : Nat) (is : Bool) (n : Nd) (cs : List Value) (hBn : W.heap[Bn]? = some (.cells cs.toArray 25 (0, 0))) (hBd : W.cell? ⟨Bd, 0, none⟩ = some (.int .i64 (d : Int))) (hBdl : Bd < W.heap.size) (h : NdIs W n cs) :
    Calls Try.prog 35 #[.bool is, .pointer (some ⟨Bn, 0, none⟩), .pointer (some ⟨Bd, 0, none⟩)] W
      fun e w' => e = .returned (.bool ((Td.subs n).any (fun m => Td.nul k m == is))) ∧ Below W.heap.size W w' := by
  have hb1 : Below W.heap.size W (W.alloc (.cells #[.bool is] 4)) := (Below.refl W.heap.size W).alloc (Nat.le_refl _) _
  have HB1 := Lib.hid hb1
  have key : (W.alloc (.cells #[.bool is] 4)).cell? ⟨W.heap.size, 0, none⟩ = some (.bool is) := by simp
  obtain ⟨vs, a, cap, C, hC⟩ := (h.kept hb1).cells
  have hcs := hC.eq
  subst hcs
  have HX := Lib.hid (cnf_any k d hd ih _ Bd W.heap.size is n vs a cap C _ ((hb1.cell (p := ⟨Bd, 0, none⟩) hBdl).trans hBd) (by simp; omega) key (by simp) hC)
  have b7 : W.cell? ⟨Bn, 7, none⟩ = some (.slice a (Td.subs n).length cap) := by simp [World.cell?, hBn]
  have hBnl : Bn < W.heap.size := (Array.getElem?_eq_some_iff.1 hBn).1
  clear hC ih h hBn hb1 key
  go_enter Try.func35, Try.ntmps35
  go_wp2_with fail
  refine HX.out.mono ?_
  rintro e w5 ⟨rfl, hb5⟩
  have HB := Lib.hid (HB1.out.trans (hb5.mono HB1.out.size))
  clear hb5
  go_wp2
  go_ret
  exact ⟨rfl, HB.out⟩
end Go.Proofs.Ytcomjkoaieeidaa
