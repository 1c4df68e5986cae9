/- The landed norm: core and Core. · The landed tree: nullable, with slices.ContainsFunc, IndexFunc and the closures; Nullable. -/
import Derived.Test.YtanffablfgnioaaGp30
import Derived.Test.YtanffablfgnioaaGp31
import Derived.Test.YtanffablfgnioaaGp32
import Derived.Test.YtanffablfgnioaaGp27
import Derived.Test.YtanffablfgnioaaGp3
import Derived.Test.YtanffablfgnioaaGp11
import Derived.IntWalk
import Derived.BigQuiet
namespace Go.Proofs.Ytanffablfgnioaa
open Go.RowKit
open Go.Proofs.Ytanffablfgnioaa.Nm
set_option linter.unusedVariables false
set_option linter.unusedSimpArgs false
theorem shal_of : ∀ (d : Nat) (x : Nd), hgt x ≤ d → cnt x ≤ 999999 → Shal d x
  | 0, x, h, _ => by have := hgt_pos x; omega
  | d + 1, x, h, hc => by
    rw [cnt_subs] at hc
    refine ⟨?_, fun m hm => shal_of d m (by have := hgt_sub hm; omega) (by have := sumC_mem hm; omega)⟩
    have := len_sumC (Td.subs x)
    omega
theorem sum_core {P : Int → Prop} : ∀ l : List Nd, (∀ m ∈ l, CoreIs P m (coreI m)) → sumC (l.map coreI) ≤ (l.map wtI).sum
  | [], _ => Nat.le_refl _
  | a :: l, h => by
    rw [List.map_cons, sumC_cons, List.map_cons, List.sum_cons]
    have := (h a (by simp)).cnt
    have := sum_core l (fun m hm => h m (List.mem_cons_of_mem _ hm))
    omega
/-- A tree that core is asked of. -/
def goodK (P : Int → Prop) (k : Nat) (n : Nd) : Prop := AllN (Qt P) n ∧ wtI n ≤ 4000 ∧ hgt n ≤ k
theorem coreOk (P : Int → Prop) (hP : ∀ x, P x → x ≤ 31) : ∀ k, CoreOk (goodK P k) coreI
  | 0 => fun W n cs h _ => by have := hgt_pos n; have := h.2.2; omega
  | k + 1 => fun W n cs h hn => by
    have ih := coreOk P hP k
    obtain ⟨ha, hw, hh⟩ := h
    have hf := ha.here.1
    have hg : (Td.kind n = 9 → Td.mx n ≠ 0) → ∀ m ∈ Td.subs n, goodK P k m := fun hx m hm => ⟨ha.sub hm, wt_sub hf hw hm hx, by have := hgt_sub hm; omega⟩
    have hci : (Td.kind n = 9 → Td.mx n ≠ 0) → ∀ m ∈ Td.subs n, CoreIs P m (coreI m) := fun hx m hm => core_is P hP m (ha.sub hm) (wt_sub hf hw hm hx)
    have hce := coreI_eq n
    unfold coreS at hce
    by_cases k6 : Td.kind n = 6
    · rw [if_pos k6] at hce
      rw [hce]
      refine core_6 (goodK P k) coreI ih W n cs hn k6 ?_ (hg (fun e => by omega))
      rcases fits_cases hf with ⟨k, h1, rfl⟩ | ⟨s, h1, h2, rfl⟩ | ⟨a, h1, h2, rfl⟩ | ⟨a, nm, m', h1, rfl⟩ | ⟨k, l, h1, h2, rfl⟩ | ⟨a, b, lz, m', h1, h2, h3, rfl⟩ <;> simp only [Td.kind] at k6 <;> first | omega | rfl
    rw [if_neg k6] at hce
    by_cases k7 : Td.kind n = 7
    · rw [if_pos k7] at hce
      rw [hce]
      have hc := hci (fun e => by omega)
      have hs := sum_core _ hc
      have hws := wt_678 (n := n) (.inr (.inl k7))
      have h2 := many_of hf (.inl k7)
      have hl := len_sumC (catL ((Td.subs n).map coreI))
      have hl2 := catL_sum ((Td.subs n).map coreI)
      have hl3 := len_sumC ((Td.subs n).map coreI)
      rw [List.length_map] at hl3
      exact core_7 (goodK P k) coreI ih W n cs hn k7 (by omega) (by omega) (hg (fun e => by omega)) (fun m hm e => by have := many_of (hc m hm).ok.here.1 (.inl e); omega) (by omega)
    rw [if_neg k7] at hce
    by_cases k8 : Td.kind n = 8
    · rw [if_pos k8] at hce
      rw [hce]
      have hc := hci (fun e => by omega)
      have hs := sum_core _ hc
      have hws := wt_678 (n := n) (.inr (.inr k8))
      have h2 := many_of hf (.inr k8)
      have hl := len_sumC (altL ((Td.subs n).map coreI))
      have hl2 := altL_sum ((Td.subs n).map coreI)
      have hl3 := len_sumC ((Td.subs n).map coreI)
      rw [List.length_map] at hl3
      exact core_8 (goodK P k) coreI ih W n cs hn k8 (by omega) (by omega) (hg (fun e => by omega)) (fun m hm e => by have := many_of (hc m hm).ok.here.1 (.inr e); omega) (by omega)
    rw [if_neg k8] at hce
    by_cases k9 : Td.kind n = 9
    · rw [if_pos k9] at hce
      rw [hce]
      refine core_9 W n cs hn k9 _ (fun w hwb => ?_)
      by_cases hx : Td.mx n = 0
      · have e : repS n (((Td.subs n).map coreI).headD leaf1) = leaf1 := by unfold repS; rw [if_pos hx]
        rw [e]
        obtain ⟨vs, a, cap, C, hC⟩ := hn.cells
        obtain ⟨sa, sk, sc, rfl⟩ : ∃ a k c, vs = .slice a k c := by obtain ⟨a, c, h, -⟩ := hC.set; exact ⟨a, _, c, h⟩
        have hcs := hC.eq
        subst hcs
        exact repeat_0 w (Td.kind n) (Td.num n) (Td.mn n) (Td.mx n) sa sk sc (Td.name n) (Td.lazy n) a (Td.subs n).length cap hx
      · have hg9 := hg (fun _ => hx)
        have hc := hci (fun _ => hx)
        rcases fits_cases hf with ⟨k, h1, rfl⟩ | ⟨s, h1, h2, rfl⟩ | ⟨a, h1, h2, rfl⟩ | ⟨a, nm, m', h1, rfl⟩ | ⟨k, l, h1, h2, rfl⟩ | ⟨a, b, lz, m, h1, h2, h3, rfl⟩ <;> simp only [Td.kind] at k9
        · omega
        · omega
        · omega
        · omega
        · omega
        have hm := hg9 m (by simp [Td.subs])
        have hcm := hc m (by simp [Td.subs])
        have hb0 : b ≠ 0 := hx
        have hwr := wt_rep (a := a) (b := b) (lz := lz) (s := []) (num := 0) (nm := ⟨#[]⟩) (m := m) (by omega)
        have hwm := hm.2.1
        have hcc := hcm.cnt
        refine repeat_1 (goodK P k) coreI ih (hgt (coreI m)) w (.mk 9 [] 0 ⟨#[]⟩ a b lz [m]) m cs (hn.kept hwb) ⟨rfl, ⟨h1, h2⟩, h3, hm, shal_of _ _ (Nat.le_refl _) (by omega), fun e => by have := many_of hcm.ok.here.1 (.inl e); omega, ?_⟩ hx
        have hl := len_sumC (catL (List.replicate a.toNat (coreI m)))
        have hl2 := catL_sum (List.replicate a.toNat (coreI m))
        rw [sumC_rep] at hl2
        have hmul : a.toNat * cnt (coreI m) ≤ a.toNat * wtI m := Nat.mul_le_mul_left _ hcc
        have hmin : min 4001 (wtI m) = wtI m := by omega
        rw [hmin] at hwr
        unfold repW at hwr
        rw [show min a.toNat 4001 = a.toNat by omega] at hwr
        have h9 : a.toNat * wtI m ≤ 4000 := by
          split at hwr
          · omega
          · split at hwr
            · omega
            · omega
        show (catL (List.replicate a.toNat (coreI m))).length ≤ 999998
        omega
    rw [if_neg k9] at hce
    rw [hce]
    exact core_leaf W n cs hn ⟨k6, k7, k8, k9⟩
end Go.Proofs.Ytanffablfgnioaa
namespace Go.Proofs.Ytanffablfgnioaa
open Go.RowKit
set_option linter.unusedVariables false
def TNulOk (k : Nat) : Prop := ∀ (d : Nat), d + k = 1001 → ∀ (W : World) (n : Nd) (cs : List Value), NdIs W n cs → Calls Try.prog 34 #[.agg cs.toArray, .int .i64 (d : Int)] W fun e w' => e = .returned (.bool (Td.nul k n)) ∧ Below W.heap.size W w'
set_option maxRecDepth 100000 in
set_option maxHeartbeats 4000000 in
theorem null11_any (k d : Nat) (hd : d + 1 + k = 1001) (ih : TNulOk k) (W : World) (Bd Bi : Nat) (is : Bool) (m : Nd) (cs : List Value) (hBd : W.cell? ⟨Bd, 0, none⟩ = some (.int .i64 (d : Int))) (hBdl : Bd < W.heap.size)
    (hBi : W.cell? ⟨Bi, 0, none⟩ = some (.bool is)) (hBil : Bi < W.heap.size) (h : NdIs W m cs) :
    Calls Try.prog 57 #[.agg cs.toArray, .pointer (some ⟨Bd, 0, none⟩), .pointer (some ⟨Bi, 0, none⟩)] W fun e w' => e = .returned (.bool (Td.nul k m == is)) ∧ Below W.heap.size W w' := by
  have mixed : Try.prog.follows .mixedOrders = true := by kernel_rfl
  have hw : IntKind.i64.wrap ((d : Int) + 1) = ((d + 1 : Nat) : Int) := by rw [IntKind.wrap_i64]; omega
  have hb1 : Below W.heap.size W (W.alloc (.cells cs.toArray 25)) := (Below.refl W.heap.size W).alloc (Nat.le_refl _) _
  have hnew := heap_alloc_new W (.cells cs.toArray 25)
  obtain ⟨W1, hW1⟩ : ∃ W1, W.alloc (.cells cs.toArray 25) = W1 := ⟨_, rfl⟩
  have hsz : W.heap.size < W1.heap.size := by rw [← hW1]; simp
  rw [hW1] at hb1 hnew
  have HB1 := Lib.hid hb1
  obtain ⟨x, hx⟩ : ∃ x, Td.nul k m = x := ⟨_, rfl⟩
  have HCL := Lib.hid (fun p : GrownTo W1 => ih (d + 1) hd p.W' m cs (h.kept (hb1.trans (p.h.mono hb1.size))))
  rw [hx] at HCL
  rw [hx]
  have hd2 := fun p : GrownTo W1 => cell_grownTo (w := W1) (a := ⟨Bd, 0, none⟩) (Nat.lt_of_lt_of_le hBdl hb1.size) ((hb1.cell (p := ⟨Bd, 0, none⟩) hBdl).trans hBd) p
  have hi2 := fun p : GrownTo W1 => cell_grownTo (w := W1) (a := ⟨Bi, 0, none⟩) (Nat.lt_of_lt_of_le hBil hb1.size) ((hb1.cell (p := ⟨Bi, 0, none⟩) hBil).trans hBi) p
  have hn2 := fun (p : GrownTo W1) => (p.h.block _ hsz).trans hnew
  obtain ⟨u0, u1, u2, u3, u4, u5, u6, u7, sa, sc, a, c, hcs, F⟩ := h.form_of
  subst hcs
  obtain ⟨rfl, rfl, rfl, rfl, rfl, rfl, rfl, rfl⟩ := F
  have q : ∀ (p : GrownTo W1) (i : Nat) (v : Value), (#[Value.int .i64 (Td.kind m), .slice sa (Td.set m).length sc, .int .i64 (Td.num m), .string (Td.name m), .int .i64 (Td.mn m), .int .i64 (Td.mx m), .bool (Td.lazy m), .slice a (Td.subs m).length c] : Array Value)[i]? = some v → p.W'.cell? ⟨W.heap.size, i, none⟩ = some v := fun p i v hv => by
    simp only [World.cell?, hn2 p]
    simpa using hv
  have q0 := fun p => q p 0 _ rfl
  have q1 := fun p => q p 1 _ rfl
  have q2 := fun p => q p 2 _ rfl
  have q3 := fun p => q p 3 _ rfl
  have q4 := fun p => q p 4 _ rfl
  have q5 := fun p => q p 5 _ rfl
  have q6 := fun p => q p 6 _ rfl
  have q7 := fun p => q p 7 _ rfl
  have HF := Lib.hid (And.intro hd2 (And.intro hi2 (And.intro q0 (And.intro q1 (And.intro q2 (And.intro q3 (And.intro q4 (And.intro q5 (And.intro q6 q7)))))))))
  have HW1 := Lib.hid hW1
  clear q q0 q1 q2 q3 q4 q5 q6 q7 hd2 hi2 hn2 h hb1 hnew hW1 ih hx hBd hBi
  go_enter Try.func57, Try.ntmps57
  go_wp2
  rw [HW1.out]
  obtain ⟨hd2, hi2, q0, q1, q2, q3, q4, q5, q6, q7⟩ := HF.out
  refine wp_region_quiet_below (by assumption) (by kernel_rfl) ?_
  repeat (quiet_step (first | (go_at_call 34; exact calls_grownTo (HCL.out _))))
  refine wpQuiet_nil ?_
  intro _ hw'
  obtain ⟨⟨wz, hbz⟩, hw''⟩ := hw'
  subst hw''
  have HBZ := Lib.hid (HB1.out.trans (hbz.mono HB1.out.size))
  clear hbz q0 q1 q2 q3 q4 q5 q6 q7 hd2 hi2
  go_wp2
  go_ret
  exact ⟨rfl, HBZ.out⟩
set_option maxRecDepth 100000 in
set_option maxHeartbeats 4000000 in
theorem ixf_any (k d : Nat) (hd : d + 1 + k = 1001) (ih : TNulOk k) (W : World) (Bd Bi : Nat) (is : Bool) (n : Nd) (vs : Value) (a : Option Addr) (cap : Nat) (C : Nat → List Value) (ca : List Value) (hBd : W.cell? ⟨Bd, 0, none⟩ = some (.int .i64 (d : Int))) (hBdl : Bd < W.heap.size)
    (hBi : W.cell? ⟨Bi, 0, none⟩ = some (.bool is)) (hBil : Bi < W.heap.size) (hC : NdCells W ca n vs a cap C) :
    Calls Try.prog 70 #[.slice a (Td.subs n).length cap, .func (.func 57) #[] #[.pointer (some ⟨Bd, 0, none⟩), .pointer (some ⟨Bi, 0, none⟩)]] W
      fun e w' => ∃ r : Int, e = .returned (.int .i64 r) ∧ (decide (0 ≤ r) = (Td.subs n).any (fun m => Td.nul k m == is)) ∧ Below W.heap.size W w' := by
  have HSUB := Lib.hid hC.sub
  have hla := hC.len
  have HCL := Lib.hid (null11_any k d hd ih)
  obtain ⟨L, eL⟩ : ∃ L, (Td.subs n).length = L := ⟨_, rfl⟩
  rw [eL] at hla HSUB
  rw [eL]
  have HL := Lib.hid eL
  have HBD := Lib.hid hBd
  have HBI := Lib.hid hBi
  clear eL hC ih hBd hBi
  go_enter Try.func70, Try.ntmps70
  go_wp2
  go_loopw [5, 8] (fun jv iv wr => ∃ i : Nat, i ≤ L ∧ iv = .int .i64 (i : Int) ∧ Hid (((Td.subs n).take i).any (fun m => Td.nul k m == is) = false) ∧ Hid (Below W.heap.size W wr)) (fun _ iv _ => L - (intOf iv).toNat)
  case atStart => exact ⟨0, Nat.zero_le _, rfl, Lib.hid (by simp), Lib.hid (Below.refl _ _)⟩
  case round =>
    obtain ⟨i, hi, rfl, HA, HB⟩ := hrel
    by_cases hlt : i < L
    · obtain ⟨g, off, x, u0, u1, u2, u3, u4, u5, u6, u7, rfl, hb, hm, hnd, q0, q1, q2, q3, q4, q5, q6, q7⟩ := HSUB.out i hlt
      have hbw := HB.out
      have kc : ∀ o v, W.cell? ⟨g, o, none⟩ = some v → wr.cell? ⟨g, o, none⟩ = some v := fun o v h => (hbw.cell (p := ⟨g, o, none⟩) hb).trans h
      replace q0 := kc _ _ q0; replace q1 := kc _ _ q1; replace q2 := kc _ _ q2; replace q3 := kc _ _ q3
      replace q4 := kc _ _ q4; replace q5 := kc _ _ q5; replace q6 := kc _ _ q6; replace q7 := kc _ _ q7
      have hbl : g < wr.heap.size := Nat.lt_of_lt_of_le hb hbw.size
      have HND := Lib.hid (hnd.kept hbw)
      have HBD2 := Lib.hid ((hbw.cell (p := ⟨Bd, 0, none⟩) hBdl).trans HBD.out)
      have HBI2 := Lib.hid ((hbw.cell (p := ⟨Bi, 0, none⟩) hBil).trans HBI.out)
      have HSZ := Lib.hid hbw.size
      have HM := Lib.hid hm
      obtain ⟨Q, hQ⟩ : ∃ Q, (Td.nul k x == is) = Q := ⟨_, rfl⟩
      have HYES : Hid (((Td.subs n).take (i + 1)).any (fun m => Td.nul k m == is) = Q) := Lib.hid (by rw [Td.any_take_succ _ _ _ _ hm, HA.out, hQ]; rfl)
      have HNO : Hid (Q = true → (Td.subs n).any (fun m => Td.nul k m == is) = true) := Lib.hid (fun e => by
        rw [List.any_eq_true]; exact ⟨x, List.mem_of_getElem? hm, by rw [hQ]; exact e⟩)
      have HQ := Lib.hid hQ
      clear kc hm hnd hbw hQ
      go_wp2_with fail
      refine (HCL.out _ Bd Bi is x _ HBD2.out (Nat.lt_of_lt_of_le hBdl HSZ.out) HBI2.out (Nat.lt_of_lt_of_le hBil HSZ.out) HND.out).mono ?_
      rintro e w5 ⟨rfl, hb5⟩
      have HB5 := Lib.hid (HB.out.trans (hb5.mono HSZ.out))
      rw [HQ.out]
      clear hb5 q0 q1 q2 q3 q4 q5 q6 q7
      cases Q with
      | false =>
        go_wp2
        go_roundw
        case rel => exact ⟨i + 1, by omega, by go_num, HYES, HB5⟩
        case measure => simp [intOf]; omega
      | true =>
        have HF := Lib.hid (HNO.out rfl)
        go_wp2
        go_ret
        exact ⟨(i : Int), rfl, by rw [HF.out]; simp, HB5.out⟩
    · obtain rfl : i = L := by omega
      have HE : Hid ((Td.subs n).any (fun m => Td.nul k m == is) = false) := Lib.hid (by
        have := HA.out
        rwa [List.take_of_length_le (by rw [HL.out]; exact Nat.le_refl _)] at this)
      go_wp2
      go_ret
      exact ⟨-1, rfl, by rw [HE.out]; rfl, HB.out⟩
set_option maxRecDepth 100000 in
set_option maxHeartbeats 4000000 in
theorem cnf_any (k d : Nat) (hd : d + 1 + k = 1001) (ih : TNulOk k) (W : World) (Bd Bi : Nat) (is : Bool) (n : Nd) (vs : Value) (a : Option Addr) (cap : Nat) (C : Nat → List Value) (ca : List Value) (hBd : W.cell? ⟨Bd, 0, none⟩ = some (.int .i64 (d : Int))) (hBdl : Bd < W.heap.size)
    (hBi : W.cell? ⟨Bi, 0, none⟩ = some (.bool is)) (hBil : Bi < W.heap.size) (hC : NdCells W ca n vs a cap C) :
    Calls Try.prog 56 #[.slice a (Td.subs n).length cap, .func (.func 57) #[] #[.pointer (some ⟨Bd, 0, none⟩), .pointer (some ⟨Bi, 0, none⟩)]] W
      fun e w' => e = .returned (.bool ((Td.subs n).any (fun m => Td.nul k m == is))) ∧ Below W.heap.size W w' := by
  have HX := Lib.hid (ixf_any k d hd ih W Bd Bi is n vs a cap C ca hBd hBdl hBi hBil hC)
  clear hC ih
  go_enter Try.func56, Try.ntmps56
  go_wp2_with fail
  refine HX.out.mono ?_
  rintro e w5 ⟨r, rfl, hr, hb5⟩
  have HR := Lib.hid hr
  have HB := Lib.hid hb5
  clear hr hb5
  go_wp2
  go_ret
  exact ⟨by rw [← HR.out]; rfl, HB.out⟩
set_option maxRecDepth 100000 in
set_option maxHeartbeats 4000000 in
theorem null1_any (k d : Nat) (hd : d + 1 + k = 1001) (ih : TNulOk k) (W : World) (Bn Bd : Nat) (is : Bool) (n : Nd) (cs : List Value) (hBn : W.heap[Bn]? = some (.cells cs.toArray 25 (0, 0))) (hBd : W.cell? ⟨Bd, 0, none⟩ = some (.int .i64 (d : Int))) (hBdl : Bd < W.heap.size) (h : NdIs W n cs) :
    Calls Try.prog 55 #[.bool is, .pointer (some ⟨Bn, 0, none⟩), .pointer (some ⟨Bd, 0, none⟩)] W
      fun e w' => e = .returned (.bool ((Td.subs n).any (fun m => Td.nul k m == is))) ∧ Below W.heap.size W w' := by
  have hb1 : Below W.heap.size W (W.alloc (.cells #[.bool is] 4)) := (Below.refl W.heap.size W).alloc (Nat.le_refl _) _
  have HB1 := Lib.hid hb1
  have key : (W.alloc (.cells #[.bool is] 4)).cell? ⟨W.heap.size, 0, none⟩ = some (.bool is) := by simp
  obtain ⟨vs, a, cap, C, hC⟩ := (h.kept hb1).cells
  have hcs := hC.eq
  subst hcs
  have HX := Lib.hid (cnf_any k d hd ih _ Bd W.heap.size is n vs a cap C _ ((hb1.cell (p := ⟨Bd, 0, none⟩) hBdl).trans hBd) (by simp; omega) key (by simp) hC)
  have b7 : W.cell? ⟨Bn, 7, none⟩ = some (.slice a (Td.subs n).length cap) := by simp [World.cell?, hBn]
  have hBnl : Bn < W.heap.size := (Array.getElem?_eq_some_iff.1 hBn).1
  clear hC ih h hBn hb1 key
  go_enter Try.func55, Try.ntmps55
  go_wp2_with fail
  refine HX.out.mono ?_
  rintro e w5 ⟨rfl, hb5⟩
  have HB := Lib.hid (HB1.out.trans (hb5.mono HB1.out.size))
  clear hb5
  go_wp2
  go_ret
  exact ⟨rfl, HB.out⟩
end Go.Proofs.Ytanffablfgnioaa
