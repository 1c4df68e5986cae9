/- The landed show: what a part is; enclosed. · The landed show: part. · The landed show: alternatives. -/
import Derived.Test.YtecmeeobabadeaaDoorGp9
namespace Go.Proofs.YtecmeeobabadeaaDoor
open Go.RowKit
set_option linter.unusedVariables false
/-- A tree that can be printed. -/
structure FitN (n : Nd) : Prop where
  kind : 1 ≤ Td.kind n ∧ Td.kind n ≤ 9
  set : Td.kind n = 3 → Td.set n ≠ [] ∧ ∀ p ∈ Td.set n, 0 ≤ p.1 ∧ p.1 ≤ p.2 ∧ p.2 ≤ 1114111
  about : Td.kind n = 5 → 1 ≤ Td.num n ∧ Td.num n ≤ 6
  group : Td.kind n = 6 → (Td.name n).size ≤ 100 ∧ (Td.subs n).length = 1
  rep : Td.kind n = 9 → (Td.subs n).length = 1 ∧ 0 ≤ Td.mn n ∧ Td.mn n ≤ 1000 ∧ (Td.mx n = -1 ∨ Td.mn n ≤ Td.mx n ∧ Td.mx n ≤ 1000)
def FitS : Nat → Nd → Prop
  | 0, _ => False
  | k + 1, n => FitN n ∧ ∀ m ∈ Td.subs n, FitS k m
/-- The landed node, down to a depth. -/
def ShOK (k : Nat) : Prop := ∀ (W0 W : World) (B : Nat) (O : List Int) (n : Nd) (cs : List Value), FitS k n → PrOk W B O → O.length ≤ 4096 → PrEv W0 B W → NdOn (fun b => b < B) W n cs →
  Calls Tryd.prog 18 #[.pointer (some ⟨B, 0, none⟩), .agg cs.toArray] W (PrQ W B O (Sh.shL k n))
theorem box_cells {w : World} {B : Nat} {u0 u1 u2 u3 u4 u5 u6 u7 : Value} {t : TypeId} (h : w.heap[B]? = some (.cells #[u0, u1, u2, u3, u4, u5, u6, u7] t (0, 0))) :
    w.cell? ⟨B, 0, none⟩ = some u0 ∧ w.cell? ⟨B, 1, none⟩ = some u1 ∧ w.cell? ⟨B, 2, none⟩ = some u2 ∧ w.cell? ⟨B, 3, none⟩ = some u3 ∧ w.cell? ⟨B, 4, none⟩ = some u4 ∧ w.cell? ⟨B, 5, none⟩ = some u5 ∧ w.cell? ⟨B, 6, none⟩ = some u6 ∧ w.cell? ⟨B, 7, none⟩ = some u7 := by
  refine ⟨?_, ?_, ?_, ?_, ?_, ?_, ?_, ?_⟩ <;> simp [World.cell?, h]
theorem NdOn.kp {W W' : World} {B : Nat} {n : Nd} {cs : List Value} (h : NdOn (fun b => b < B) W n cs) (k : Kp W B W') : NdOn (fun b => b < B) W' n cs :=
  h.kept k.size (fun b hb hlt => k.block b hlt (.inl hb))
set_option maxRecDepth 100000 in
set_option maxHeartbeats 4000000 in
theorem index_ints (W : World) (b n cap : Nat) (l : List Int) (k : Int) (hn : l.length = n) (hn9 : n ≤ 100) (hc : ∀ j (h : j < l.length), W.cell? ⟨b, j, none⟩ = some (.int .i64 l[j])) :
    Calls Tryd.prog 58 #[.slice (some ⟨b, 0, none⟩) n cap, .int .i64 k] W fun e w' => (∃ r : Int, e = .returned (.int .i64 r) ∧ (0 ≤ r ↔ k ∈ l)) ∧ W = w' := by
  have HC := Lib.hid hc
  have HN := Lib.hid hn
  clear hc hn
  go_enter Tryd.func58, Tryd.ntmps58
  go_wp2
  go_loop [8] (fun I => ∃ i : Nat, i ≤ n ∧ I = .int .i64 (i : Int) ∧ Hid (∀ j (h : j < l.length), j < i → k ≠ l[j])) (fun I => n - (intOf I).toNat)
  case atStart => exact ⟨0, by omega, rfl, Lib.hid (fun j _ h => absurd h (by omega))⟩
  case round =>
    obtain ⟨i, hi, rfl, HNO⟩ := hrel
    by_cases hlt : i < n
    · have hil : i < l.length := by rw [HN.out]; exact hlt
      have hx := HC.out i hil
      obtain ⟨z, hz⟩ : ∃ z, l[i] = z := ⟨_, rfl⟩
      rw [hz] at hx
      have HZ := Lib.hid hz
      have k0 : (0 : Int) ≤ (i : Int) := by omega
      have k1 : (i : Int) < (n : Int) := by omega
      clear hz
      by_cases hk : k = z
      · subst hk
        go_wp2
        go_ret
        exact ⟨⟨(i : Int), rfl, fun _ => by rw [← HZ.out]; exact List.getElem_mem hil, fun _ => by omega⟩, rfl⟩
      · have hkz : (k == z) = false := by rw [beq_eq_false_iff_ne]; exact hk
        have HKZ := Lib.hid hk
        clear hk
        go_wp2
        go_round
        case rel =>
          refine ⟨i + 1, by omega, by go_num, Lib.hid (fun j hj hji => ?_)⟩
          rcases Nat.lt_or_ge j i with h | h
          · exact HNO.out j hj h
          · obtain rfl : j = i := by omega
            rw [HZ.out]; exact HKZ.out
        case measure => simp [intOf]; omega
    · obtain rfl : i = n := by omega
      go_wp2
      go_ret
      refine ⟨⟨-1, rfl, fun h => absurd h (by decide), fun h => ?_⟩, rfl⟩
      obtain ⟨j, hj, e⟩ := List.getElem_of_mem h
      exact absurd e.symm (HNO.out j hj (by rw [← HN.out]; exact hj))
set_option maxRecDepth 100000 in
set_option maxHeartbeats 4000000 in
theorem contains_ints (W : World) (b n cap : Nat) (l : List Int) (k : Int) (hn : l.length = n) (hn9 : n ≤ 100) (hc : ∀ j (h : j < l.length), W.cell? ⟨b, j, none⟩ = some (.int .i64 l[j])) :
    Calls Tryd.prog 51 #[.slice (some ⟨b, 0, none⟩) n cap, .int .i64 k] W fun e w' => e = .returned (.bool (decide (k ∈ l))) ∧ W = w' := by
  have HI := Lib.hid (index_ints W b n cap l k hn hn9 hc)
  clear hc hn
  go_enter Tryd.func51, Tryd.ntmps51
  go_wp2_with fail
  refine HI.out.mono ?_
  rintro e w' ⟨⟨r, rfl, hr⟩, rfl⟩
  have hd : decide (0 ≤ r) = decide (k ∈ l) := decide_eq_decide.2 hr
  clear hr
  go_wp2
  go_ret
  exact ⟨by first | rw [hd] | rfl, rfl⟩
set_option maxRecDepth 100000 in
set_option maxHeartbeats 8000000 in
theorem enclosed_show (k : Nat) (hOK : ShOK k) (W0 W : World) (B : Nat) (O : List Int) (op : ByteArray) (n : Nd) (cs : List Value) (hz : op.size ≤ 105) (hf : FitS k n) (hp : PrOk W B O) (hl : O.length ≤ 4096) (hE : PrEv W0 B W) (hn : NdOn (fun b => b < B) W n cs) :
    Calls Tryd.prog 36 #[.pointer (some ⟨B, 0, none⟩), .string op, .agg cs.toArray] W (PrQ W B O (Utf.nums op ++ (Sh.shL k n ++ [41]))) := by
  obtain ⟨u0, u1, u2, u3, u4, u5, u6, u7, sa, sc, aa, ac, rfl, F⟩ := hn.is.form_of
  have hBlt := hp.lt
  obtain ⟨wb, hwb⟩ : ∃ wb, W.alloc (.cells #[u0, u1, u2, u3, u4, u5, u6, u7] 25) = wb := ⟨_, rfl⟩
  have hbb : Below W.heap.size W wb := by rw [← hwb]; exact (Below.refl _ _).alloc (Nat.le_refl _) _
  have hbx : wb.heap[W.heap.size]? = some (.cells #[u0, u1, u2, u3, u4, u5, u6, u7] 25 (0, 0)) := by rw [← hwb]; exact heap_alloc_new _ _
  obtain ⟨pb, kb⟩ := hp.kpb hbb
  have HWO := Lib.hid (write_any wb B O op pb hl (by omega))
  have HKB := Lib.hid kb
  have HBX := Lib.hid hbx
  have HWB := Lib.hid hwb
  have HN := Lib.hid (hn.kp kb)
  have HE := Lib.hid (hE.kp (by omega) kb)
  have HOK := Lib.hid hOK
  have HF := Lib.hid hf
  have hsb := kb.size
  obtain ⟨rfl, rfl, rfl, rfl, rfl, rfl, rfl, rfl⟩ := F
  clear hbb hbx pb kb hwb hn hE hp hOK hf
  go_enter_defers Tryd.func36, Tryd.ntmps36
  go_wp2_with fail
  rw [HWB.out]
  refine HWO.out.mono ?_
  rintro e w1 h1
  have HQ := Lib.hid (PrQ.from HKB.out h1)
  obtain ⟨k1, h1⟩ := h1
  have HK1 := Lib.hid (HKB.out.trans k1)
  rcases h1 with ⟨l1, rfl, p1⟩ | ⟨l1, O', a1, a2, rfl, a3⟩
  · have hx1 := k1.kept HBX.out (noP_of (by decide) (by decide))
    have hl1 : (O ++ Utf.nums op).length ≤ 4096 := by rw [List.length_append]; exact l1
    have HL1 := Lib.hid hl1
    have HC := Lib.hid (HOK.out W0 w1 B _ n _ HF.out p1 hl1 (HE.out.kp (by omega) k1) (HN.out.kp k1))
    obtain ⟨d0, d1, d2, d3, d4, d5, d6, d7⟩ := box_cells hx1
    clear k1 hl1 p1 l1 hx1
    go_wp2_with fail
    refine HC.out.mono ?_
    rintro e w2 h2
    obtain ⟨k2, h2⟩ := h2
    have HK2 := Lib.hid (HK1.out.trans k2)
    rcases h2 with ⟨l2, rfl, p2⟩ | ⟨l2, O', a1, a2, rfl, a3⟩
    · have hl2 : ((O ++ Utf.nums op) ++ Sh.shL k n).length ≤ 4096 := by rw [List.length_append]; exact l2
      have HWD := Lib.hid (writeD_any .returning w2 B _ ⟨#[41]⟩ p2 hl2 (by decide))
      have HLN : Hid (((O ++ Utf.nums op) ++ Sh.shL k n).length + (Utf.nums ⟨#[41]⟩).length = O.length + (Utf.nums op ++ (Sh.shL k n ++ [41])).length) := Lib.hid (by simp only [List.length_append]; show _ + 1 = _ + (_ + (_ + 1)); omega)
      have HEQ : Hid (((O ++ Utf.nums op) ++ Sh.shL k n) ++ Utf.nums ⟨#[41]⟩ = O ++ (Utf.nums op ++ (Sh.shL k n ++ [41]))) := Lib.hid (by show _ ++ [41] = _; simp)
      clear k2 p2 l2 hl2
      go_wp2
      refine leaves_cons (f := 32) (args := #[.pointer (some ⟨B, 0, none⟩), .string ⟨#[41]⟩]) (by simp) (by simp [go_sem]) ?_
      refine HWD.out.mono ?_
      rintro e u' w3 ⟨rfl, k3, h3⟩
      rw [HLN.out, HEQ.out] at h3
      have HK3 := Lib.hid (HK2.out.trans k3)
      rcases h3 with ⟨l3, rfl, p3⟩ | ⟨l3, O', a1, a2, rfl, a3⟩
      · have HFIN : Hid (PrQ W B O (Utf.nums op ++ (Sh.shL k n ++ [41])) (.returned (.tuple #[])) w3) := Lib.hid ⟨HK3.out, .inl ⟨l3, rfl, p3⟩⟩
        clear l3 p3 k3
        simp [Leaves, settle, results, Tryd.f36, go_sem]
        exact HFIN.out
      · have HFIN : Hid (PrQ W B O (Utf.nums op ++ (Sh.shL k n ++ [41])) (.panicked [{ v := .iface 48 (.agg #[]), recovered := false }]) w3) := Lib.hid ⟨HK3.out, .inr ⟨l3, O', a1, a2, rfl, a3⟩⟩
        clear l3 a3 k3
        simp [Leaves, raised, settle, results, Tryd.f36, go_sem]
        exact HFIN.out
    · have HWL := Lib.hid (writeL_any (.panicking [{ v := .iface 48 (.agg #[]), recovered := false }]) w2 B O' ⟨#[41]⟩ a3 a1 a2)
      have HFIN : Hid (PrQ W B O (Utf.nums op ++ (Sh.shL k n ++ [41])) (.panicked [{ v := .iface 48 (.agg #[]), recovered := false }]) w2) := Lib.hid ⟨HK2.out, .inr ⟨by simp only [List.length_append, List.length_cons, List.length_nil] at l2 ⊢; omega, O', a1, a2, rfl, a3⟩⟩
      clear a3 k2 l2
      refine leaves_cons (f := 32) (args := #[.pointer (some ⟨B, 0, none⟩), .string ⟨#[41]⟩]) (by simp) (by simp [go_sem]) ?_
      refine HWL.out.mono ?_
      rintro e u' w3 ⟨rfl, rfl, rfl⟩
      simp [Leaves, settle, results, Tryd.f36, go_sem]
      exact HFIN.out
  · have HFIN : Hid (PrQ W B O (Utf.nums op ++ (Sh.shL k n ++ [41])) (.panicked [{ v := .iface 48 (.agg #[]), recovered := false }]) w1) := Lib.hid (PrQ.far HQ.out l1)
    clear k1 l1 a3 HQ
    simp [Leaves, settle, results, Tryd.f36, go_sem]
    exact HFIN.out
end Go.Proofs.YtecmeeobabadeaaDoor
namespace Go.Proofs.YtecmeeobabadeaaDoor
open Go.RowKit
set_option linter.unusedVariables false
set_option maxRecDepth 100000 in
set_option maxHeartbeats 8000000 in
theorem part_show (k : Nat) (hOK : ShOK k) (W0 W : World) (B : Nat) (O : List Int) (n : Nd) (cs : List Value) (b m cap : Nat) (l : List Int) (hm : l.length = m) (hm9 : m ≤ 100) (hc : ∀ j (h : j < l.length), W.cell? ⟨b, j, none⟩ = some (.int .i64 l[j]))
    (hb9 : b < W.heap.size) (hf : FitS k n) (hp : PrOk W B O) (hl : O.length ≤ 4096) (hE : PrEv W0 B W) (hn : NdOn (fun b => b < B) W n cs) :
    Calls Tryd.prog 38 #[.pointer (some ⟨B, 0, none⟩), .agg cs.toArray, .slice (some ⟨b, 0, none⟩) m cap] W (PrQ W B O (Sh.wrapL (decide (Td.kind n ∈ l)) (Sh.shL k n))) := by
  obtain ⟨u0, u1, u2, u3, u4, u5, u6, u7, sa, sc, aa, ac, rfl, F⟩ := hn.is.form_of
  have hBlt := hp.lt
  obtain ⟨wb, hwb⟩ : ∃ wb, W.alloc (.cells #[u0, u1, u2, u3, u4, u5, u6, u7] 25) = wb := ⟨_, rfl⟩
  have hbb : Below W.heap.size W wb := by rw [← hwb]; exact (Below.refl _ _).alloc (Nat.le_refl _) _
  have hbx : wb.heap[W.heap.size]? = some (.cells #[u0, u1, u2, u3, u4, u5, u6, u7] 25 (0, 0)) := by rw [← hwb]; exact heap_alloc_new _ _
  obtain ⟨pb, kb⟩ := hp.kpb hbb
  have HCI := Lib.hid (contains_ints wb b m cap l (Td.kind n) hm hm9 (fun j hj => (hbb.cell (p := ⟨b, j, none⟩) hb9).trans (hc j hj)))
  have HKB := Lib.hid kb
  have HWB := Lib.hid hwb
  have hEb := hE.kp (by omega) kb
  have hnb := hn.kp kb
  have HEN := Lib.hid (enclosed_show k hOK W0 wb B O ⟨#[40, 63, 58]⟩ n _ (by decide) hf pb hl hEb hnb)
  have HND := Lib.hid (hOK W0 wb B O n _ hf pb hl hEb hnb)
  have hsb := kb.size
  obtain ⟨d0, d1, d2, d3, d4, d5, d6, d7⟩ := box_cells hbx
  obtain ⟨rfl, rfl, rfl, rfl, rfl, rfl, rfl, rfl⟩ := F
  clear hbb hbx pb kb hwb hn hE hp hOK hf hEb hnb hc
  by_cases hin : Td.kind n ∈ l
  · have HD : Hid (Sh.wrapL (decide (Td.kind n ∈ l)) (Sh.shL k n) = Utf.nums ⟨#[40, 63, 58]⟩ ++ (Sh.shL k n ++ [41])) := Lib.hid (by
      rw [decide_eq_true hin]; unfold Sh.wrapL; rw [if_pos rfl, List.append_assoc]; rfl)
    rw [decide_eq_true hin] at HCI
    rw [HD.out]
    clear hin
    go_enter Tryd.func38, Tryd.ntmps38
    go_wp2_with fail
    rw [HWB.out]
    refine HCI.out.mono ?_
    rintro e w1 ⟨rfl, rfl⟩
    go_wp2_with fail
    refine HEN.out.mono ?_
    rintro e w2 h2
    have HQ := Lib.hid (PrQ.from HKB.out h2)
    rcases h2 with ⟨_, ⟨_, rfl, _⟩ | ⟨_, O', _, _, rfl, _⟩⟩
    · go_wp2
      refine ⟨rfl, .tuple #[], by simp [results, Tryd.f38, go_sem], ?_⟩
      exact HQ.out
    · exact ⟨rfl, HQ.out⟩
  · have HD : Hid (Sh.wrapL (decide (Td.kind n ∈ l)) (Sh.shL k n) = Sh.shL k n) := Lib.hid (by
      rw [decide_eq_false hin]; unfold Sh.wrapL; rw [if_neg (by decide)])
    rw [decide_eq_false hin] at HCI
    rw [HD.out]
    clear hin
    go_enter Tryd.func38, Tryd.ntmps38
    go_wp2_with fail
    rw [HWB.out]
    refine HCI.out.mono ?_
    rintro e w1 ⟨rfl, rfl⟩
    go_wp2_with fail
    refine HND.out.mono ?_
    rintro e w2 h2
    have HQ := Lib.hid (PrQ.from HKB.out h2)
    rcases h2 with ⟨_, ⟨_, rfl, _⟩ | ⟨_, O', _, _, rfl, _⟩⟩
    · go_wp2
      refine ⟨rfl, .tuple #[], by simp [results, Tryd.f38, go_sem], ?_⟩
      exact HQ.out
    · exact ⟨rfl, HQ.out⟩
end Go.Proofs.YtecmeeobabadeaaDoor
namespace Go.Proofs.YtecmeeobabadeaaDoor
open Go.RowKit
set_option linter.unusedVariables false
/-- The row of a node's parts, as the printer reads it. -/
def SubsIn (W : World) (B : Nat) (a : Option Addr) (L : List Nd) : Prop := L.length ≤ 8796093022208 ∧ ∀ j (hj : j < L.length), ∃ g off u0 u1 u2 u3 u4 u5 u6 u7, a = some ⟨g, off, none⟩ ∧ g < B ∧ NdOn (fun b => b < B) W L[j] [u0, u1, u2, u3, u4, u5, u6, u7] ∧
    W.cell? ⟨g, off + j * 8, none⟩ = some u0 ∧ W.cell? ⟨g, off + j * 8 + 1, none⟩ = some u1 ∧ W.cell? ⟨g, off + j * 8 + 2, none⟩ = some u2 ∧ W.cell? ⟨g, off + j * 8 + 3, none⟩ = some u3 ∧
    W.cell? ⟨g, off + j * 8 + 4, none⟩ = some u4 ∧ W.cell? ⟨g, off + j * 8 + 5, none⟩ = some u5 ∧ W.cell? ⟨g, off + j * 8 + 6, none⟩ = some u6 ∧ W.cell? ⟨g, off + j * 8 + 7, none⟩ = some u7
theorem NdOn.open {W : World} {B : Nat} {n : Nd} {cs : List Value} (h : NdOn (fun b => b < B) W n cs) : ∃ vs a cap, cs = [.int .i64 (Td.kind n), vs, .int .i64 (Td.num n), .string (Td.name n), .int .i64 (Td.mn n), .int .i64 (Td.mx n), .bool (Td.lazy n), .slice a (Td.subs n).length cap] ∧
    RRowOn (fun b => b < B) W vs (Td.set n) ∧ SubsIn W B a (Td.subs n) := by
  cases h with
  | mk C hk hset hname hlen hrow hsub =>
    refine ⟨_, _, _, rfl, hset, hlen, fun j hj => ?_⟩
    obtain ⟨b, off, ha, hS, hb, hl, hc⟩ := hrow j hj
    have hs := hsub j hj
    match hC : C j, hl with
    | [u0, u1, u2, u3, u4, u5, u6, u7], _ =>
      rw [hC] at hs hc
      exact ⟨b, off, u0, u1, u2, u3, u4, u5, u6, u7, ha, hS, hs, hc 0 (by omega), hc 1 (by omega), hc 2 (by omega), hc 3 (by omega), hc 4 (by omega), hc 5 (by omega), hc 6 (by omega), hc 7 (by omega)⟩
theorem altL_app : ∀ (Y X : List (List Int)), ∃ Z, Sh.altL (X ++ Y) = Sh.altL X ++ Z
  | [], X => ⟨[], by rw [List.append_nil, List.append_nil]⟩
  | y :: Y, X => by
    obtain ⟨Z, hZ⟩ := altL_app Y (X ++ [y])
    have e : X ++ y :: Y = (X ++ [y]) ++ Y := by simp
    rw [e, hZ]
    by_cases hx : X = []
    · subst hx
      exact ⟨y ++ Z, by show y ++ Z = [] ++ (y ++ Z); rfl⟩
    · rw [Sh.altL_snoc y X hx]
      exact ⟨124 :: y ++ Z, by simp⟩
theorem alt_step (F : Nd → List Int) (L : List Nd) (i : Nat) (hi : i < L.length) : (i = 0 → Sh.altL ((L.take (i + 1)).map F) = F L[i]) ∧ (0 < i → Sh.altL ((L.take (i + 1)).map F) = Sh.altL ((L.take i).map F) ++ 124 :: F L[i]) ∧
    ∃ Z, Sh.altL (L.map F) = Sh.altL ((L.take (i + 1)).map F) ++ Z := by
  have h1 : (L.take (i + 1)).map F = (L.take i).map F ++ [F L[i]] := by rw [List.take_succ_eq_append_getElem hi, List.map_append]; rfl
  refine ⟨fun e => ?_, fun h => ?_, ?_⟩
  · subst e
    rw [h1, List.take_zero]; rfl
  · rw [h1]
    exact Sh.altL_snoc _ _ (fun e => by
      have := congrArg List.length e
      rw [List.length_map, List.length_take, List.length_nil] at this
      omega)
  · obtain ⟨Z, hZ⟩ := altL_app ((L.drop (i + 1)).map F) ((L.take (i + 1)).map F)
    refine ⟨Z, ?_⟩
    rw [← hZ, ← List.map_append, List.take_append_drop]
theorem wrap8 (k : Nat) (m : Nd) : Sh.wrapL (decide (Td.kind m ∈ ([8] : List Int))) (Sh.shL k m) = Sh.partL k 8 m := by
  unfold Sh.partL
  congr 1
  unfold Sh.wrapB
  simp
set_option maxRecDepth 100000 in
set_option maxHeartbeats 8000000 in
theorem alternatives_show (k : Nat) (hOK : ShOK k) (W0 W : World) (B : Nat) (O : List Int) (a : Option Addr) (L : List Nd) (cap : Nat) (hf : ∀ m ∈ L, FitS k m) (hp : PrOk W B O) (hl : O.length ≤ 4096) (hE : PrEv W0 B W) (hn : SubsIn W B a L) :
    Calls Tryd.prog 39 #[.pointer (some ⟨B, 0, none⟩), .slice a L.length cap] W (PrQ W B O (Sh.altL (L.map (Sh.partL k 8)))) := by
  obtain ⟨hlen, hrow⟩ := hn
  obtain ⟨n, hn⟩ : ∃ n, L.length = n := ⟨_, rfl⟩
  have HP := Lib.hid hp
  have HOK := Lib.hid hOK
  have HF := Lib.hid hf
  have HEV := Lib.hid hE
  have HROW := Lib.hid hrow
  have HN := Lib.hid hn
  have hBlt := hp.lt
  rw [hn] at hlen ⊢
  clear hp hOK hf hE hrow hn
  go_enter Tryd.func39, Tryd.ntmps39
  go_wp2
  go_loopw [8] (fun I wr => ∃ i : Nat, i ≤ n ∧ I = .int .i64 (i : Int) ∧ Hid (PrOk wr B (O ++ Sh.altL ((L.take i).map (Sh.partL k 8)))) ∧ Hid ((O ++ Sh.altL ((L.take i).map (Sh.partL k 8))).length ≤ 4096) ∧ Hid (Kp W B wr)) (fun I _ => n - (intOf I).toNat)
  case atStart => exact ⟨0, by omega, rfl, Lib.hid (by rw [List.take_zero]; show PrOk W B (O ++ []); rw [List.append_nil]; exact HP.out), Lib.hid (by rw [List.take_zero]; show (O ++ []).length ≤ 4096; rw [List.append_nil]; exact hl), Lib.hid (Kp.refl W B)⟩
  case round =>
    obtain ⟨i, hi, rfl, HPR, HLR, HKR⟩ := hrel
    have hsz := HKR.out.size
    have hBr : B < wr.heap.size := by omega
    obtain ⟨O1, hO1⟩ : ∃ O1, O ++ Sh.altL ((L.take i).map (Sh.partL k 8)) = O1 := ⟨_, rfl⟩
    rw [hO1] at HPR HLR
    have HO1 := Lib.hid hO1
    clear hO1
    by_cases hlt : i < n
    · have hil : i < L.length := by rw [HN.out]; exact hlt
      obtain ⟨g, off, u0, u1, u2, u3, u4, u5, u6, u7, rfl, hgB, hnd, c0, c1, c2, c3, c4, c5, c6, c7⟩ := HROW.out i hil
      have hkb := HKR.out.below (B := B) (by omega)
      rw [← hkb.cell (p := ⟨g, off + i * 8, none⟩) hgB] at c0
      rw [← hkb.cell (p := ⟨g, off + i * 8 + 1, none⟩) hgB] at c1
      rw [← hkb.cell (p := ⟨g, off + i * 8 + 2, none⟩) hgB] at c2
      rw [← hkb.cell (p := ⟨g, off + i * 8 + 3, none⟩) hgB] at c3
      rw [← hkb.cell (p := ⟨g, off + i * 8 + 4, none⟩) hgB] at c4
      rw [← hkb.cell (p := ⟨g, off + i * 8 + 5, none⟩) hgB] at c5
      rw [← hkb.cell (p := ⟨g, off + i * 8 + 6, none⟩) hgB] at c6
      rw [← hkb.cell (p := ⟨g, off + i * 8 + 7, none⟩) hgB] at c7
      have hgr : g < wr.heap.size := by omega
      obtain ⟨s1, s2, Z, s3⟩ := alt_step (Sh.partL k 8) L i hil
      have hfx := HF.out L[i] (List.getElem_mem hil)
      obtain ⟨x, hx⟩ : ∃ x, L[i] = x := ⟨_, rfl⟩
      rw [hx] at s1 s2 hfx hnd
      have HNX := Lib.hid (hnd.kp HKR.out)
      have HFX := Lib.hid hfx
      have HS1 := Lib.hid s1
      have HS2 := Lib.hid s2
      have HS3 := Lib.hid s3
      have k0 : (0 : Int) ≤ (i : Int) := by omega
      have k1 : (i : Int) < (n : Int) := by omega
      obtain ⟨v0, v1, v2, v3, v4, v5, v6, v7, sa, sc, aa, ac, hcs, F⟩ := hnd.is.form_of
      simp only [List.cons.injEq, and_true] at hcs
      obtain ⟨rfl, rfl, rfl, rfl, rfl, rfl, rfl, rfl⟩ := hcs
      obtain ⟨rfl, rfl, rfl, rfl, rfl, rfl, rfl, rfl⟩ := F
      obtain ⟨wb, hwb⟩ : ∃ wb, wr.alloc (.cells #[.int .i64 (Td.kind x), .slice sa (Td.set x).length sc, .int .i64 (Td.num x), .string (Td.name x), .int .i64 (Td.mn x), .int .i64 (Td.mx x), .bool (Td.lazy x), .slice aa (Td.subs x).length ac] 25) = wb := ⟨_, rfl⟩
      have hbb : Below wr.heap.size wr wb := by rw [← hwb]; exact (Below.refl _ _).alloc (Nat.le_refl _) _
      have hbx : wb.heap[wr.heap.size]? = some (.cells #[.int .i64 (Td.kind x), .slice sa (Td.set x).length sc, .int .i64 (Td.num x), .string (Td.name x), .int .i64 (Td.mn x), .int .i64 (Td.mx x), .bool (Td.lazy x), .slice aa (Td.subs x).length ac] 25 (0, 0)) := by rw [← hwb]; exact heap_alloc_new _ _
      obtain ⟨pb, kb⟩ := HPR.out.kpb hbb
      have hszb := kb.size
      clear hkb hil hx hnd s1 s2 s3 hfx hbb
      by_cases h0 : 0 < i
      · have h0' : (0 : Int) < (i : Int) := by omega
        have HWB := Lib.hid hwb
        have HKB := Lib.hid (HKR.out.trans kb)
        have HKB1 := Lib.hid kb
        have HWR := Lib.hid (write_any wb B O1 ⟨#[124]⟩ pb HLR.out (by decide))
        have HBX := Lib.hid hbx
        clear hwb pb kb hbx
        go_wp2_with fail
        rw [HWB.out]
        refine HWR.out.mono ?_
        rintro e w3 ⟨k3, h3⟩
        have HK3 := Lib.hid (HKB.out.trans k3)
        have HKX := Lib.hid (HKB1.out.trans k3)
        have hbx3 := k3.kept HBX.out (noP_of (by decide) (by decide))
        have hsz3 := k3.size
        rcases h3 with ⟨l3, rfl, p3⟩ | ⟨l3, O', a1, a2, rfl, a3⟩
        · have hl3 : (O1 ++ [124]).length ≤ 4096 := by rw [List.length_append]; exact l3
          have hp3 : PrOk w3 B (O1 ++ [124]) := p3
          obtain ⟨d0, d1, d2, d3, d4, d5, d6, d7⟩ := box_cells hbx3
          clear k3 l3 p3 hbx3
          obtain ⟨wp, hwp⟩ : ∃ wp, w3.alloc (.cells #[.int .i64 8] 3) = wp := ⟨_, rfl⟩
          have hbp : Below w3.heap.size w3 wp := by rw [← hwp]; exact (Below.refl _ _).alloc (Nat.le_refl _) _
          have hrw : wp.heap[w3.heap.size]? = some (.cells #[.int .i64 8] 3 (0, 0)) := by rw [← hwp]; exact heap_alloc_new _ _
          have hcr : ∀ j (h : j < ([8] : List Int).length), wp.cell? ⟨w3.heap.size, j, none⟩ = some (.int .i64 ([8] : List Int)[j]) := fun j h => by
            have h9 : j < 1 := h
            rcases (show j = 0 by omega) with rfl <;> simp [World.cell?, hrw]
          obtain ⟨pp, kp⟩ := PrOk.kpb hp3 hbp
          have HKP := Lib.hid (HK3.out.trans kp)
          have hsp := (Array.getElem?_eq_some_iff.1 hrw).1
          have HPT := Lib.hid (part_show k HOK.out W0 wp B _ x _ w3.heap.size 1 1 [8] rfl (by decide) hcr hsp HFX.out pp hl3 (HEV.out.kp (by omega) HKP.out) (HNX.out.kp (HKX.out.trans kp)))
          have HWP := Lib.hid hwp
          clear hbp hrw hcr pp kp hwp
          go_wp2_with fail
          rw [HWP.out]
          refine HPT.out.mono ?_
          rintro e w4 ⟨k4, h4⟩
          have HK4 := Lib.hid (HKP.out.trans k4)
          rcases h4 with ⟨l4, rfl, p4⟩ | ⟨l4, O', a1, a2, rfl, a3⟩
          · rw [wrap8] at p4 l4
            have hfin : (O1 ++ [124]) ++ Sh.partL k 8 x = O ++ Sh.altL ((L.take (i + 1)).map (Sh.partL k 8)) := by rw [HS2.out h0, ← HO1.out]; simp
            have HP4 := Lib.hid p4
            have HL4 : Hid (((O1 ++ [124]) ++ Sh.partL k 8 x).length ≤ 4096) := Lib.hid (by rw [List.length_append]; exact l4)
            rw [hfin] at HP4 HL4
            clear hfin p4 l4 k4
            go_wp2
            go_roundw
            case rel => exact ⟨i + 1, by omega, by go_num, HP4, HL4, HK4⟩
            case measure => simp [intOf]; omega
          · refine ⟨rfl, HK4.out, .inr ⟨?_, O', a1, a2, rfl, a3⟩⟩
            rw [wrap8] at l4
            rw [HS3.out, HS2.out h0]
            rw [← HO1.out] at l4
            simp only [List.length_append, List.length_cons, List.length_nil] at l4 ⊢
            omega
        · refine ⟨rfl, HK3.out, .inr ⟨?_, O', a1, a2, rfl, a3⟩⟩
          have l9 : 4096 < O1.length + 1 := l3
          rw [HS3.out, HS2.out h0]
          rw [← HO1.out] at l9
          simp only [List.length_append, List.length_cons, List.length_nil] at l9 ⊢
          omega
      · have h0' : ¬ (0 : Int) < (i : Int) := by omega
        have HWB := Lib.hid hwb
        have HKX := Lib.hid kb
        have HKB := Lib.hid (HKR.out.trans kb)
        obtain ⟨d0, d1, d2, d3, d4, d5, d6, d7⟩ := box_cells hbx
        clear kb hbx
        obtain ⟨wp, hwp⟩ : ∃ wp, wb.alloc (.cells #[.int .i64 8] 3) = wp := ⟨_, rfl⟩
        have hbp : Below wb.heap.size wb wp := by rw [← hwp]; exact (Below.refl _ _).alloc (Nat.le_refl _) _
        have hrw : wp.heap[wb.heap.size]? = some (.cells #[.int .i64 8] 3 (0, 0)) := by rw [← hwp]; exact heap_alloc_new _ _
        have hcr : ∀ j (h : j < ([8] : List Int).length), wp.cell? ⟨wb.heap.size, j, none⟩ = some (.int .i64 ([8] : List Int)[j]) := fun j h => by
          have h9 : j < 1 := h
          rcases (show j = 0 by omega) with rfl <;> simp [World.cell?, hrw]
        obtain ⟨pp, kp⟩ := PrOk.kpb pb hbp
        have HKP := Lib.hid (HKB.out.trans kp)
        have hsp := (Array.getElem?_eq_some_iff.1 hrw).1
        have HPT := Lib.hid (part_show k HOK.out W0 wp B _ x _ wb.heap.size 1 1 [8] rfl (by decide) hcr hsp HFX.out pp HLR.out (HEV.out.kp (by omega) HKP.out) (HNX.out.kp (HKX.out.trans kp)))
        have HWP := Lib.hid hwp
        clear hbp hrw hcr pp kp hwp
        go_wp2_with fail
        rw [HWP.out]
        refine HPT.out.mono ?_
        rintro e w4 ⟨k4, h4⟩
        have HK4 := Lib.hid (HKP.out.trans k4)
        rcases h4 with ⟨l4, rfl, p4⟩ | ⟨l4, O', a1, a2, rfl, a3⟩
        · rw [wrap8] at p4 l4
          have hfin : O1 ++ Sh.partL k 8 x = O ++ Sh.altL ((L.take (i + 1)).map (Sh.partL k 8)) := by rw [HS1.out (by omega), ← HO1.out]; rw [show i = 0 by omega]; rw [List.take_zero]; show (O ++ []) ++ _ = _; rw [List.append_nil]
          have HP4 := Lib.hid p4
          have HL4 : Hid ((O1 ++ Sh.partL k 8 x).length ≤ 4096) := Lib.hid (by rw [List.length_append]; exact l4)
          rw [hfin] at HP4 HL4
          clear hfin p4 l4 k4
          go_wp2
          go_roundw
          case rel => exact ⟨i + 1, by omega, by go_num, HP4, HL4, HK4⟩
          case measure => simp [intOf]; omega
        · refine ⟨rfl, HK4.out, .inr ⟨?_, O', a1, a2, rfl, a3⟩⟩
          rw [wrap8] at l4
          rw [HS3.out, HS1.out (by omega)]
          rw [← HO1.out, show i = 0 by omega, List.take_zero] at l4
          have l5 : 4096 < (O ++ []).length + (Sh.partL k 8 x).length := l4
          rw [List.append_nil] at l5
          simp only [List.length_append, List.length_cons, List.length_nil] at ⊢
          omega
    · obtain rfl : i = n := by omega
      have HFA : Hid (O1 = O ++ Sh.altL (L.map (Sh.partL k 8))) := Lib.hid (by rw [← HO1.out, ← HN.out, List.take_length])
      rw [HFA.out] at HPR HLR
      have HLF : Hid (O.length + (Sh.altL (L.map (Sh.partL k 8))).length ≤ 4096) := Lib.hid (by have h := HLR.out; rw [List.length_append] at h; exact h)
      go_wp2
      refine ⟨rfl, .tuple #[], by simp [results, Tryd.f39, go_sem], ?_⟩
      exact ⟨HKR.out, .inl ⟨HLF.out, rfl, HPR.out⟩⟩
end Go.Proofs.YtecmeeobabadeaaDoor
