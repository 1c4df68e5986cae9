/- The landed show: what a part is; enclosed. · The landed show: part. -/
import Derived.Test.YtdcielcniboloaaDoorGp9
namespace Go.Proofs.YtdcielcniboloaaDoor
open Go.RowKit
set_option linter.unusedVariables false
/-- A tree that can be printed. -/
structure FitN (n : Nd) : Prop where
  kind : 1 ≤ Td.kind n ∧ Td.kind n ≤ 9
  set : Td.kind n = 3 → Td.set n ≠ [] ∧ ∀ p ∈ Td.set n, 0 ≤ p.1 ∧ p.1 ≤ p.2 ∧ p.2 ≤ 1114111
  about : Td.kind n = 5 → 1 ≤ Td.num n ∧ Td.num n ≤ 6
  group : Td.kind n = 6 → (Td.name n).size ≤ 100 ∧ (Td.subs n).length = 1
  rep : Td.kind n = 9 → (Td.subs n).length = 1 ∧ 0 ≤ Td.mn n ∧ Td.mn n ≤ 1000 ∧ (Td.mx n = -1 ∨ Td.mn n ≤ Td.mx n ∧ Td.mx n ≤ 1000)
def FitS : Nat → Nd → Prop
  | 0, _ => False
  | k + 1, n => FitN n ∧ ∀ m ∈ Td.subs n, FitS k m
/-- The landed node, down to a depth. -/
def ShOK (k : Nat) : Prop := ∀ (W0 W : World) (B : Nat) (O : List Int) (n : Nd) (cs : List Value), FitS k n → PrOk W B O → O.length ≤ 4096 → PrEv W0 B W → NdOn (fun b => b < B) W n cs →
  Calls Tryd.prog 20 #[.pointer (some ⟨B, 0, none⟩), .agg cs.toArray] W (PrQ W B O (Sh.shL k n))
theorem box_cells {w : World} {B : Nat} {u0 u1 u2 u3 u4 u5 u6 u7 : Value} {t : TypeId} (h : w.heap[B]? = some (.cells #[u0, u1, u2, u3, u4, u5, u6, u7] t (0, 0))) :
    w.cell? ⟨B, 0, none⟩ = some u0 ∧ w.cell? ⟨B, 1, none⟩ = some u1 ∧ w.cell? ⟨B, 2, none⟩ = some u2 ∧ w.cell? ⟨B, 3, none⟩ = some u3 ∧ w.cell? ⟨B, 4, none⟩ = some u4 ∧ w.cell? ⟨B, 5, none⟩ = some u5 ∧ w.cell? ⟨B, 6, none⟩ = some u6 ∧ w.cell? ⟨B, 7, none⟩ = some u7 := by
  refine ⟨?_, ?_, ?_, ?_, ?_, ?_, ?_, ?_⟩ <;> simp [World.cell?, h]
theorem NdOn.kp {W W' : World} {B : Nat} {n : Nd} {cs : List Value} (h : NdOn (fun b => b < B) W n cs) (k : Kp W B W') : NdOn (fun b => b < B) W' n cs :=
  h.kept k.size (fun b hb hlt => k.block b hlt (.inl hb))
set_option maxRecDepth 100000 in
set_option maxHeartbeats 4000000 in
theorem index_ints (W : World) (b n cap : Nat) (l : List Int) (k : Int) (hn : l.length = n) (hn9 : n ≤ 100) (hc : ∀ j (h : j < l.length), W.cell? ⟨b, j, none⟩ = some (.int .i64 l[j])) :
    Calls Tryd.prog 60 #[.slice (some ⟨b, 0, none⟩) n cap, .int .i64 k] W fun e w' => (∃ r : Int, e = .returned (.int .i64 r) ∧ (0 ≤ r ↔ k ∈ l)) ∧ W = w' := by
  have HC := Lib.hid hc
  have HN := Lib.hid hn
  clear hc hn
  go_enter Tryd.func60, Tryd.ntmps60
  go_wp2
  go_loop [8] (fun I => ∃ i : Nat, i ≤ n ∧ I = .int .i64 (i : Int) ∧ Hid (∀ j (h : j < l.length), j < i → k ≠ l[j])) (fun I => n - (intOf I).toNat)
  case atStart => exact ⟨0, by omega, rfl, Lib.hid (fun j _ h => absurd h (by omega))⟩
  case round =>
    obtain ⟨i, hi, rfl, HNO⟩ := hrel
    by_cases hlt : i < n
    · have hil : i < l.length := by rw [HN.out]; exact hlt
      have hx := HC.out i hil
      obtain ⟨z, hz⟩ : ∃ z, l[i] = z := ⟨_, rfl⟩
      rw [hz] at hx
      have HZ := Lib.hid hz
      have k0 : (0 : Int) ≤ (i : Int) := by omega
      have k1 : (i : Int) < (n : Int) := by omega
      clear hz
      by_cases hk : k = z
      · subst hk
        go_wp2
        go_ret
        exact ⟨⟨(i : Int), rfl, fun _ => by rw [← HZ.out]; exact List.getElem_mem hil, fun _ => by omega⟩, rfl⟩
      · have hkz : (k == z) = false := by rw [beq_eq_false_iff_ne]; exact hk
        have HKZ := Lib.hid hk
        clear hk
        go_wp2
        go_round
        case rel =>
          refine ⟨i + 1, by omega, by go_num, Lib.hid (fun j hj hji => ?_)⟩
          rcases Nat.lt_or_ge j i with h | h
          · exact HNO.out j hj h
          · obtain rfl : j = i := by omega
            rw [HZ.out]; exact HKZ.out
        case measure => simp [intOf]; omega
    · obtain rfl : i = n := by omega
      go_wp2
      go_ret
      refine ⟨⟨-1, rfl, fun h => absurd h (by decide), fun h => ?_⟩, rfl⟩
      obtain ⟨j, hj, e⟩ := List.getElem_of_mem h
      exact absurd e.symm (HNO.out j hj (by rw [← HN.out]; exact hj))
set_option maxRecDepth 100000 in
set_option maxHeartbeats 4000000 in
theorem contains_ints (W : World) (b n cap : Nat) (l : List Int) (k : Int) (hn : l.length = n) (hn9 : n ≤ 100) (hc : ∀ j (h : j < l.length), W.cell? ⟨b, j, none⟩ = some (.int .i64 l[j])) :
    Calls Tryd.prog 53 #[.slice (some ⟨b, 0, none⟩) n cap, .int .i64 k] W fun e w' => e = .returned (.bool (decide (k ∈ l))) ∧ W = w' := by
  have HI := Lib.hid (index_ints W b n cap l k hn hn9 hc)
  clear hc hn
  go_enter Tryd.func53, Tryd.ntmps53
  go_wp2_with fail
  refine HI.out.mono ?_
  rintro e w' ⟨⟨r, rfl, hr⟩, rfl⟩
  have hd : decide (0 ≤ r) = decide (k ∈ l) := decide_eq_decide.2 hr
  clear hr
  go_wp2
  go_ret
  exact ⟨by first | rw [hd] | rfl, rfl⟩
set_option maxRecDepth 100000 in
set_option maxHeartbeats 8000000 in
theorem enclosed_show (k : Nat) (hOK : ShOK k) (W0 W : World) (B : Nat) (O : List Int) (op : ByteArray) (n : Nd) (cs : List Value) (hz : op.size ≤ 105) (hf : FitS k n) (hp : PrOk W B O) (hl : O.length ≤ 4096) (hE : PrEv W0 B W) (hn : NdOn (fun b => b < B) W n cs) :
    Calls Tryd.prog 38 #[.pointer (some ⟨B, 0, none⟩), .string op, .agg cs.toArray] W (PrQ W B O (Utf.nums op ++ (Sh.shL k n ++ [41]))) := by
  obtain ⟨u0, u1, u2, u3, u4, u5, u6, u7, sa, sc, aa, ac, rfl, F⟩ := hn.is.form_of
  have hBlt := hp.lt
  obtain ⟨wb, hwb⟩ : ∃ wb, W.alloc (.cells #[u0, u1, u2, u3, u4, u5, u6, u7] 25) = wb := ⟨_, rfl⟩
  have hbb : Below W.heap.size W wb := by rw [← hwb]; exact (Below.refl _ _).alloc (Nat.le_refl _) _
  have hbx : wb.heap[W.heap.size]? = some (.cells #[u0, u1, u2, u3, u4, u5, u6, u7] 25 (0, 0)) := by rw [← hwb]; exact heap_alloc_new _ _
  obtain ⟨pb, kb⟩ := hp.kpb hbb
  have HWO := Lib.hid (write_any wb B O op pb hl (by omega))
  have HKB := Lib.hid kb
  have HBX := Lib.hid hbx
  have HWB := Lib.hid hwb
  have HN := Lib.hid (hn.kp kb)
  have HE := Lib.hid (hE.kp (by omega) kb)
  have HOK := Lib.hid hOK
  have HF := Lib.hid hf
  have hsb := kb.size
  obtain ⟨rfl, rfl, rfl, rfl, rfl, rfl, rfl, rfl⟩ := F
  clear hbb hbx pb kb hwb hn hE hp hOK hf
  go_enter_defers Tryd.func38, Tryd.ntmps38
  go_wp2_with fail
  rw [HWB.out]
  refine HWO.out.mono ?_
  rintro e w1 h1
  have HQ := Lib.hid (PrQ.from HKB.out h1)
  obtain ⟨k1, h1⟩ := h1
  have HK1 := Lib.hid (HKB.out.trans k1)
  rcases h1 with ⟨l1, rfl, p1⟩ | ⟨l1, O', a1, a2, rfl, a3⟩
  · have hx1 := k1.kept HBX.out (noP_of (by decide) (by decide))
    have hl1 : (O ++ Utf.nums op).length ≤ 4096 := by rw [List.length_append]; exact l1
    have HL1 := Lib.hid hl1
    have HC := Lib.hid (HOK.out W0 w1 B _ n _ HF.out p1 hl1 (HE.out.kp (by omega) k1) (HN.out.kp k1))
    obtain ⟨d0, d1, d2, d3, d4, d5, d6, d7⟩ := box_cells hx1
    clear k1 hl1 p1 l1 hx1
    go_wp2_with fail
    refine HC.out.mono ?_
    rintro e w2 h2
    obtain ⟨k2, h2⟩ := h2
    have HK2 := Lib.hid (HK1.out.trans k2)
    rcases h2 with ⟨l2, rfl, p2⟩ | ⟨l2, O', a1, a2, rfl, a3⟩
    · have hl2 : ((O ++ Utf.nums op) ++ Sh.shL k n).length ≤ 4096 := by rw [List.length_append]; exact l2
      have HWD := Lib.hid (writeD_any .returning w2 B _ ⟨#[41]⟩ p2 hl2 (by decide))
      have HLN : Hid (((O ++ Utf.nums op) ++ Sh.shL k n).length + (Utf.nums ⟨#[41]⟩).length = O.length + (Utf.nums op ++ (Sh.shL k n ++ [41])).length) := Lib.hid (by simp only [List.length_append]; show _ + 1 = _ + (_ + (_ + 1)); omega)
      have HEQ : Hid (((O ++ Utf.nums op) ++ Sh.shL k n) ++ Utf.nums ⟨#[41]⟩ = O ++ (Utf.nums op ++ (Sh.shL k n ++ [41]))) := Lib.hid (by show _ ++ [41] = _; simp)
      clear k2 p2 l2 hl2
      go_wp2
      refine leaves_cons (f := 34) (args := #[.pointer (some ⟨B, 0, none⟩), .string ⟨#[41]⟩]) (by simp) (by simp [go_sem]) ?_
      refine HWD.out.mono ?_
      rintro e u' w3 ⟨rfl, k3, h3⟩
      rw [HLN.out, HEQ.out] at h3
      have HK3 := Lib.hid (HK2.out.trans k3)
      rcases h3 with ⟨l3, rfl, p3⟩ | ⟨l3, O', a1, a2, rfl, a3⟩
      · have HFIN : Hid (PrQ W B O (Utf.nums op ++ (Sh.shL k n ++ [41])) (.returned (.tuple #[])) w3) := Lib.hid ⟨HK3.out, .inl ⟨l3, rfl, p3⟩⟩
        clear l3 p3 k3
        simp [Leaves, settle, results, Tryd.f38, go_sem]
        exact HFIN.out
      · have HFIN : Hid (PrQ W B O (Utf.nums op ++ (Sh.shL k n ++ [41])) (.panicked [{ v := .iface 50 (.agg #[]), recovered := false }]) w3) := Lib.hid ⟨HK3.out, .inr ⟨l3, O', a1, a2, rfl, a3⟩⟩
        clear l3 a3 k3
        simp [Leaves, raised, settle, results, Tryd.f38, go_sem]
        exact HFIN.out
    · have HWL := Lib.hid (writeL_any (.panicking [{ v := .iface 50 (.agg #[]), recovered := false }]) w2 B O' ⟨#[41]⟩ a3 a1 a2)
      have HFIN : Hid (PrQ W B O (Utf.nums op ++ (Sh.shL k n ++ [41])) (.panicked [{ v := .iface 50 (.agg #[]), recovered := false }]) w2) := Lib.hid ⟨HK2.out, .inr ⟨by simp only [List.length_append, List.length_cons, List.length_nil] at l2 ⊢; omega, O', a1, a2, rfl, a3⟩⟩
      clear a3 k2 l2
      refine leaves_cons (f := 34) (args := #[.pointer (some ⟨B, 0, none⟩), .string ⟨#[41]⟩]) (by simp) (by simp [go_sem]) ?_
      refine HWL.out.mono ?_
      rintro e u' w3 ⟨rfl, rfl, rfl⟩
      simp [Leaves, settle, results, Tryd.f38, go_sem]
      exact HFIN.out
  · have HFIN : Hid (PrQ W B O (Utf.nums op ++ (Sh.shL k n ++ [41])) (.panicked [{ v := .iface 50 (.agg #[]), recovered := false }]) w1) := Lib.hid (PrQ.far HQ.out l1)
    clear k1 l1 a3 HQ
    simp [Leaves, settle, results, Tryd.f38, go_sem]
    exact HFIN.out
end Go.Proofs.YtdcielcniboloaaDoor
namespace Go.Proofs.YtdcielcniboloaaDoor
open Go.RowKit
set_option linter.unusedVariables false
set_option maxRecDepth 100000 in
set_option maxHeartbeats 8000000 in
theorem part_show (k : Nat) (hOK : ShOK k) (W0 W : World) (B : Nat) (O : List Int) (n : Nd) (cs : List Value) (b m cap : Nat) (l : List Int) (hm : l.length = m) (hm9 : m ≤ 100) (hc : ∀ j (h : j < l.length), W.cell? ⟨b, j, none⟩ = some (.int .i64 l[j]))
    (hb9 : b < W.heap.size) (hf : FitS k n) (hp : PrOk W B O) (hl : O.length ≤ 4096) (hE : PrEv W0 B W) (hn : NdOn (fun b => b < B) W n cs) :
    Calls Tryd.prog 40 #[.pointer (some ⟨B, 0, none⟩), .agg cs.toArray, .slice (some ⟨b, 0, none⟩) m cap] W (PrQ W B O (Sh.wrapL (decide (Td.kind n ∈ l)) (Sh.shL k n))) := by
  obtain ⟨u0, u1, u2, u3, u4, u5, u6, u7, sa, sc, aa, ac, rfl, F⟩ := hn.is.form_of
  have hBlt := hp.lt
  obtain ⟨wb, hwb⟩ : ∃ wb, W.alloc (.cells #[u0, u1, u2, u3, u4, u5, u6, u7] 25) = wb := ⟨_, rfl⟩
  have hbb : Below W.heap.size W wb := by rw [← hwb]; exact (Below.refl _ _).alloc (Nat.le_refl _) _
  have hbx : wb.heap[W.heap.size]? = some (.cells #[u0, u1, u2, u3, u4, u5, u6, u7] 25 (0, 0)) := by rw [← hwb]; exact heap_alloc_new _ _
  obtain ⟨pb, kb⟩ := hp.kpb hbb
  have HCI := Lib.hid (contains_ints wb b m cap l (Td.kind n) hm hm9 (fun j hj => (hbb.cell (p := ⟨b, j, none⟩) hb9).trans (hc j hj)))
  have HKB := Lib.hid kb
  have HWB := Lib.hid hwb
  have hEb := hE.kp (by omega) kb
  have hnb := hn.kp kb
  have HEN := Lib.hid (enclosed_show k hOK W0 wb B O ⟨#[40, 63, 58]⟩ n _ (by decide) hf pb hl hEb hnb)
  have HND := Lib.hid (hOK W0 wb B O n _ hf pb hl hEb hnb)
  have hsb := kb.size
  obtain ⟨d0, d1, d2, d3, d4, d5, d6, d7⟩ := box_cells hbx
  obtain ⟨rfl, rfl, rfl, rfl, rfl, rfl, rfl, rfl⟩ := F
  clear hbb hbx pb kb hwb hn hE hp hOK hf hEb hnb hc
  by_cases hin : Td.kind n ∈ l
  · have HD : Hid (Sh.wrapL (decide (Td.kind n ∈ l)) (Sh.shL k n) = Utf.nums ⟨#[40, 63, 58]⟩ ++ (Sh.shL k n ++ [41])) := Lib.hid (by
      rw [decide_eq_true hin]; unfold Sh.wrapL; rw [if_pos rfl, List.append_assoc]; rfl)
    rw [decide_eq_true hin] at HCI
    rw [HD.out]
    clear hin
    go_enter Tryd.func40, Tryd.ntmps40
    go_wp2_with fail
    rw [HWB.out]
    refine HCI.out.mono ?_
    rintro e w1 ⟨rfl, rfl⟩
    go_wp2_with fail
    refine HEN.out.mono ?_
    rintro e w2 h2
    have HQ := Lib.hid (PrQ.from HKB.out h2)
    rcases h2 with ⟨_, ⟨_, rfl, _⟩ | ⟨_, O', _, _, rfl, _⟩⟩
    · go_wp2
      refine ⟨rfl, .tuple #[], by simp [results, Tryd.f40, go_sem], ?_⟩
      exact HQ.out
    · exact ⟨rfl, HQ.out⟩
  · have HD : Hid (Sh.wrapL (decide (Td.kind n ∈ l)) (Sh.shL k n) = Sh.shL k n) := Lib.hid (by
      rw [decide_eq_false hin]; unfold Sh.wrapL; rw [if_neg (by decide)])
    rw [decide_eq_false hin] at HCI
    rw [HD.out]
    clear hin
    go_enter Tryd.func40, Tryd.ntmps40
    go_wp2_with fail
    rw [HWB.out]
    refine HCI.out.mono ?_
    rintro e w1 ⟨rfl, rfl⟩
    go_wp2_with fail
    refine HND.out.mono ?_
    rintro e w2 h2
    have HQ := Lib.hid (PrQ.from HKB.out h2)
    rcases h2 with ⟨_, ⟨_, rfl, _⟩ | ⟨_, O', _, _, rfl, _⟩⟩
    · go_wp2
      refine ⟨rfl, .tuple #[], by simp [results, Tryd.f40, go_sem], ?_⟩
      exact HQ.out
    · exact ⟨rfl, HQ.out⟩
end Go.Proofs.YtdcielcniboloaaDoor
