/- The landed show: part. · The landed show: alternatives. · The landed show: node. -/
import Derived.Test.YtanffablfgnioaaGreatDoorGp8
import Derived.StillTailTactics
namespace Go.Proofs.YtanffablfgnioaaGreatDoor
open Go.RowKit
set_option linter.unusedVariables false
set_option maxRecDepth 100000 in
set_option maxHeartbeats 8000000 in
theorem part_show (k : Nat) (hOK : ShOK k) (W0 W : World) (B : Nat) (O : List Int) (n : Nd) (cs : List Value) (b m cap : Nat) (l : List Int) (hm : l.length = m) (hm9 : m ≤ 100) (hc : ∀ j (h : j < l.length), W.cell? ⟨b, j, none⟩ = some (.int .i64 l[j]))
    (hb9 : b < W.heap.size) (hf : FitS k n) (hp : PrOk W B O) (hl : O.length ≤ 4096) (hE : PrEv W0 B W) (hn : NdOn (fun b => b < B) W n cs) :
    Calls Tryz.prog 51 #[.pointer (some ⟨B, 0, none⟩), .agg cs.toArray, .slice (some ⟨b, 0, none⟩) m cap] W (PrQ W B O (Sh.wrapL (decide (Td.kind n ∈ l)) (Sh.shL k n))) := by
  obtain ⟨u0, u1, u2, u3, u4, u5, u6, u7, sa, sc, aa, ac, rfl, F⟩ := hn.is.form_of
  have hBlt := hp.lt
  obtain ⟨wb, hwb⟩ : ∃ wb, W.alloc (.cells #[u0, u1, u2, u3, u4, u5, u6, u7] 26) = wb := ⟨_, rfl⟩
  have hbb : Below W.heap.size W wb := by rw [← hwb]; exact (Below.refl _ _).alloc (Nat.le_refl _) _
  have hbx : wb.heap[W.heap.size]? = some (.cells #[u0, u1, u2, u3, u4, u5, u6, u7] 26 (0, 0)) := by rw [← hwb]; exact heap_alloc_new _ _
  obtain ⟨pb, kb⟩ := hp.kpb hbb
  have HCI := Lib.hid (contains_ints wb b m cap l (Td.kind n) hm hm9 (fun j hj => (hbb.cell (p := ⟨b, j, none⟩) hb9).trans (hc j hj)))
  have HKB := Lib.hid kb
  have HWB := Lib.hid hwb
  have hEb := hE.kp (by omega) kb
  have hnb := hn.kp kb
  have HEN := Lib.hid (enclosed_show k hOK W0 wb B O ⟨#[40, 63, 58]⟩ n _ (by decide) hf pb hl hEb hnb)
  have HND := Lib.hid (hOK W0 wb B O n _ hf pb hl hEb hnb)
  have hsb := kb.size
  obtain ⟨d0, d1, d2, d3, d4, d5, d6, d7⟩ := box_cells hbx
  obtain ⟨rfl, rfl, rfl, rfl, rfl, rfl, rfl, rfl⟩ := F
  clear hbb hbx pb kb hwb hn hE hp hOK hf hEb hnb hc
  by_cases hin : Td.kind n ∈ l
  · have HD : Hid (Sh.wrapL (decide (Td.kind n ∈ l)) (Sh.shL k n) = Utf.nums ⟨#[40, 63, 58]⟩ ++ (Sh.shL k n ++ [41])) := Lib.hid (by
      rw [decide_eq_true hin]; unfold Sh.wrapL; rw [if_pos rfl, List.append_assoc]; rfl)
    rw [decide_eq_true hin] at HCI
    rw [HD.out]
    clear hin
    go_enter Tryz.func51, Tryz.ntmps51
    go_wp2_with fail
    rw [HWB.out]
    refine HCI.out.mono ?_
    rintro e w1 ⟨rfl, rfl⟩
    go_wp2_with fail
    refine HEN.out.mono ?_
    rintro e w2 h2
    have HQ := Lib.hid (PrQ.from HKB.out h2)
    rcases h2 with ⟨_, ⟨_, rfl, _⟩ | ⟨_, O', _, _, rfl, _⟩⟩
    · go_wp2
      refine ⟨rfl, .tuple #[], by simp [results, Tryz.f51, go_sem], ?_⟩
      exact HQ.out
    · exact ⟨rfl, HQ.out⟩
  · have HD : Hid (Sh.wrapL (decide (Td.kind n ∈ l)) (Sh.shL k n) = Sh.shL k n) := Lib.hid (by
      rw [decide_eq_false hin]; unfold Sh.wrapL; rw [if_neg (by decide)])
    rw [decide_eq_false hin] at HCI
    rw [HD.out]
    clear hin
    go_enter Tryz.func51, Tryz.ntmps51
    go_wp2_with fail
    rw [HWB.out]
    refine HCI.out.mono ?_
    rintro e w1 ⟨rfl, rfl⟩
    go_wp2_with fail
    refine HND.out.mono ?_
    rintro e w2 h2
    have HQ := Lib.hid (PrQ.from HKB.out h2)
    rcases h2 with ⟨_, ⟨_, rfl, _⟩ | ⟨_, O', _, _, rfl, _⟩⟩
    · go_wp2
      refine ⟨rfl, .tuple #[], by simp [results, Tryz.f51, go_sem], ?_⟩
      exact HQ.out
    · exact ⟨rfl, HQ.out⟩
end Go.Proofs.YtanffablfgnioaaGreatDoor
namespace Go.Proofs.YtanffablfgnioaaGreatDoor
open Go.RowKit
set_option linter.unusedVariables false
/-- The row of a node's parts, as the printer reads it. -/
def SubsIn (W : World) (B : Nat) (a : Option Addr) (L : List Nd) : Prop := L.length ≤ 8796093022208 ∧ ∀ j (hj : j < L.length), ∃ g off u0 u1 u2 u3 u4 u5 u6 u7, a = some ⟨g, off, none⟩ ∧ g < B ∧ NdOn (fun b => b < B) W L[j] [u0, u1, u2, u3, u4, u5, u6, u7] ∧
    W.cell? ⟨g, off + j * 8, none⟩ = some u0 ∧ W.cell? ⟨g, off + j * 8 + 1, none⟩ = some u1 ∧ W.cell? ⟨g, off + j * 8 + 2, none⟩ = some u2 ∧ W.cell? ⟨g, off + j * 8 + 3, none⟩ = some u3 ∧
    W.cell? ⟨g, off + j * 8 + 4, none⟩ = some u4 ∧ W.cell? ⟨g, off + j * 8 + 5, none⟩ = some u5 ∧ W.cell? ⟨g, off + j * 8 + 6, none⟩ = some u6 ∧ W.cell? ⟨g, off + j * 8 + 7, none⟩ = some u7
theorem NdOn.open {W : World} {B : Nat} {n : Nd} {cs : List Value} (h : NdOn (fun b => b < B) W n cs) : ∃ vs a cap, cs = [.int .i64 (Td.kind n), vs, .int .i64 (Td.num n), .string (Td.name n), .int .i64 (Td.mn n), .int .i64 (Td.mx n), .bool (Td.lazy n), .slice a (Td.subs n).length cap] ∧
    RRowOn (fun b => b < B) W vs (Td.set n) ∧ SubsIn W B a (Td.subs n) := by
  cases h with
  | mk C hk hset hname hlen hrow hsub =>
    refine ⟨_, _, _, rfl, hset, hlen, fun j hj => ?_⟩
    obtain ⟨b, off, ha, hS, hb, hl, hc⟩ := hrow j hj
    have hs := hsub j hj
    match hC : C j, hl with
    | [u0, u1, u2, u3, u4, u5, u6, u7], _ =>
      rw [hC] at hs hc
      exact ⟨b, off, u0, u1, u2, u3, u4, u5, u6, u7, ha, hS, hs, hc 0 (by omega), hc 1 (by omega), hc 2 (by omega), hc 3 (by omega), hc 4 (by omega), hc 5 (by omega), hc 6 (by omega), hc 7 (by omega)⟩
theorem altL_app : ∀ (Y X : List (List Int)), ∃ Z, Sh.altL (X ++ Y) = Sh.altL X ++ Z
  | [], X => ⟨[], by rw [List.append_nil, List.append_nil]⟩
  | y :: Y, X => by
    obtain ⟨Z, hZ⟩ := altL_app Y (X ++ [y])
    have e : X ++ y :: Y = (X ++ [y]) ++ Y := by simp
    rw [e, hZ]
    by_cases hx : X = []
    · subst hx
      exact ⟨y ++ Z, by show y ++ Z = [] ++ (y ++ Z); rfl⟩
    · rw [Sh.altL_snoc y X hx]
      exact ⟨124 :: y ++ Z, by simp⟩
theorem alt_step (F : Nd → List Int) (L : List Nd) (i : Nat) (hi : i < L.length) : (i = 0 → Sh.altL ((L.take (i + 1)).map F) = F L[i]) ∧ (0 < i → Sh.altL ((L.take (i + 1)).map F) = Sh.altL ((L.take i).map F) ++ 124 :: F L[i]) ∧
    ∃ Z, Sh.altL (L.map F) = Sh.altL ((L.take (i + 1)).map F) ++ Z := by
  have h1 : (L.take (i + 1)).map F = (L.take i).map F ++ [F L[i]] := by rw [List.take_succ_eq_append_getElem hi, List.map_append]; rfl
  refine ⟨fun e => ?_, fun h => ?_, ?_⟩
  · subst e
    rw [h1, List.take_zero]; rfl
  · rw [h1]
    exact Sh.altL_snoc _ _ (fun e => by
      have := congrArg List.length e
      rw [List.length_map, List.length_take, List.length_nil] at this
      omega)
  · obtain ⟨Z, hZ⟩ := altL_app ((L.drop (i + 1)).map F) ((L.take (i + 1)).map F)
    refine ⟨Z, ?_⟩
    rw [← hZ, ← List.map_append, List.take_append_drop]
theorem wrap8 (k : Nat) (m : Nd) : Sh.wrapL (decide (Td.kind m ∈ ([8] : List Int))) (Sh.shL k m) = Sh.partL k 8 m := by
  unfold Sh.partL
  congr 1
  unfold Sh.wrapB
  simp
set_option maxRecDepth 100000 in
set_option maxHeartbeats 8000000 in
theorem alternatives_show (k : Nat) (hOK : ShOK k) (W0 W : World) (B : Nat) (O : List Int) (a : Option Addr) (L : List Nd) (cap : Nat) (hf : ∀ m ∈ L, FitS k m) (hp : PrOk W B O) (hl : O.length ≤ 4096) (hE : PrEv W0 B W) (hn : SubsIn W B a L) :
    Calls Tryz.prog 52 #[.pointer (some ⟨B, 0, none⟩), .slice a L.length cap] W (PrQ W B O (Sh.altL (L.map (Sh.partL k 8)))) := by
  obtain ⟨hlen, hrow⟩ := hn
  obtain ⟨n, hn⟩ : ∃ n, L.length = n := ⟨_, rfl⟩
  have HP := Lib.hid hp
  have HOK := Lib.hid hOK
  have HF := Lib.hid hf
  have HEV := Lib.hid hE
  have HROW := Lib.hid hrow
  have HN := Lib.hid hn
  have hBlt := hp.lt
  rw [hn] at hlen ⊢
  clear hp hOK hf hE hrow hn
  go_enter Tryz.func52, Tryz.ntmps52
  go_wp2
  go_loopw [8] (fun I wr => ∃ i : Nat, i ≤ n ∧ I = .int .i64 (i : Int) ∧ Hid (PrOk wr B (O ++ Sh.altL ((L.take i).map (Sh.partL k 8)))) ∧ Hid ((O ++ Sh.altL ((L.take i).map (Sh.partL k 8))).length ≤ 4096) ∧ Hid (Kp W B wr)) (fun I _ => n - (intOf I).toNat)
  case atStart => exact ⟨0, by omega, rfl, Lib.hid (by rw [List.take_zero]; show PrOk W B (O ++ []); rw [List.append_nil]; exact HP.out), Lib.hid (by rw [List.take_zero]; show (O ++ []).length ≤ 4096; rw [List.append_nil]; exact hl), Lib.hid (Kp.refl W B)⟩
  case round =>
    obtain ⟨i, hi, rfl, HPR, HLR, HKR⟩ := hrel
    have hsz := HKR.out.size
    have hBr : B < wr.heap.size := by omega
    obtain ⟨O1, hO1⟩ : ∃ O1, O ++ Sh.altL ((L.take i).map (Sh.partL k 8)) = O1 := ⟨_, rfl⟩
    rw [hO1] at HPR HLR
    have HO1 := Lib.hid hO1
    clear hO1
    by_cases hlt : i < n
    · have hil : i < L.length := by rw [HN.out]; exact hlt
      obtain ⟨g, off, u0, u1, u2, u3, u4, u5, u6, u7, rfl, hgB, hnd, c0, c1, c2, c3, c4, c5, c6, c7⟩ := HROW.out i hil
      have hkb := HKR.out.below (B := B) (by omega)
      rw [← hkb.cell (p := ⟨g, off + i * 8, none⟩) hgB] at c0
      rw [← hkb.cell (p := ⟨g, off + i * 8 + 1, none⟩) hgB] at c1
      rw [← hkb.cell (p := ⟨g, off + i * 8 + 2, none⟩) hgB] at c2
      rw [← hkb.cell (p := ⟨g, off + i * 8 + 3, none⟩) hgB] at c3
      rw [← hkb.cell (p := ⟨g, off + i * 8 + 4, none⟩) hgB] at c4
      rw [← hkb.cell (p := ⟨g, off + i * 8 + 5, none⟩) hgB] at c5
      rw [← hkb.cell (p := ⟨g, off + i * 8 + 6, none⟩) hgB] at c6
      rw [← hkb.cell (p := ⟨g, off + i * 8 + 7, none⟩) hgB] at c7
      have hgr : g < wr.heap.size := by omega
      obtain ⟨s1, s2, Z, s3⟩ := alt_step (Sh.partL k 8) L i hil
      have hfx := HF.out L[i] (List.getElem_mem hil)
      obtain ⟨x, hx⟩ : ∃ x, L[i] = x := ⟨_, rfl⟩
      rw [hx] at s1 s2 hfx hnd
      have HNX := Lib.hid (hnd.kp HKR.out)
      have HFX := Lib.hid hfx
      have HS1 := Lib.hid s1
      have HS2 := Lib.hid s2
      have HS3 := Lib.hid s3
      have k0 : (0 : Int) ≤ (i : Int) := by omega
      have k1 : (i : Int) < (n : Int) := by omega
      obtain ⟨v0, v1, v2, v3, v4, v5, v6, v7, sa, sc, aa, ac, hcs, F⟩ := hnd.is.form_of
      simp only [List.cons.injEq, and_true] at hcs
      obtain ⟨rfl, rfl, rfl, rfl, rfl, rfl, rfl, rfl⟩ := hcs
      obtain ⟨rfl, rfl, rfl, rfl, rfl, rfl, rfl, rfl⟩ := F
      obtain ⟨wb, hwb⟩ : ∃ wb, wr.alloc (.cells #[.int .i64 (Td.kind x), .slice sa (Td.set x).length sc, .int .i64 (Td.num x), .string (Td.name x), .int .i64 (Td.mn x), .int .i64 (Td.mx x), .bool (Td.lazy x), .slice aa (Td.subs x).length ac] 26) = wb := ⟨_, rfl⟩
      have hbb : Below wr.heap.size wr wb := by rw [← hwb]; exact (Below.refl _ _).alloc (Nat.le_refl _) _
      have hbx : wb.heap[wr.heap.size]? = some (.cells #[.int .i64 (Td.kind x), .slice sa (Td.set x).length sc, .int .i64 (Td.num x), .string (Td.name x), .int .i64 (Td.mn x), .int .i64 (Td.mx x), .bool (Td.lazy x), .slice aa (Td.subs x).length ac] 26 (0, 0)) := by rw [← hwb]; exact heap_alloc_new _ _
      obtain ⟨pb, kb⟩ := HPR.out.kpb hbb
      have hszb := kb.size
      clear hkb hil hx hnd s1 s2 s3 hfx hbb
      by_cases h0 : 0 < i
      · have h0' : (0 : Int) < (i : Int) := by omega
        have HWB := Lib.hid hwb
        have HKB := Lib.hid (HKR.out.trans kb)
        have HKB1 := Lib.hid kb
        have HWR := Lib.hid (write_any wb B O1 ⟨#[124]⟩ pb HLR.out (by decide))
        have HBX := Lib.hid hbx
        clear hwb pb kb hbx
        go_wp2_with fail
        rw [HWB.out]
        refine HWR.out.mono ?_
        rintro e w3 ⟨k3, h3⟩
        have HK3 := Lib.hid (HKB.out.trans k3)
        have HKX := Lib.hid (HKB1.out.trans k3)
        have hbx3 := k3.kept HBX.out (noP_of (by decide) (by decide))
        have hsz3 := k3.size
        rcases h3 with ⟨l3, rfl, p3⟩ | ⟨l3, O', a1, a2, rfl, a3⟩
        · have hl3 : (O1 ++ [124]).length ≤ 4096 := by rw [List.length_append]; exact l3
          have hp3 : PrOk w3 B (O1 ++ [124]) := p3
          obtain ⟨d0, d1, d2, d3, d4, d5, d6, d7⟩ := box_cells hbx3
          clear k3 l3 p3 hbx3
          obtain ⟨wp, hwp⟩ : ∃ wp, w3.alloc (.cells #[.int .i64 8] 3) = wp := ⟨_, rfl⟩
          have hbp : Below w3.heap.size w3 wp := by rw [← hwp]; exact (Below.refl _ _).alloc (Nat.le_refl _) _
          have hrw : wp.heap[w3.heap.size]? = some (.cells #[.int .i64 8] 3 (0, 0)) := by rw [← hwp]; exact heap_alloc_new _ _
          have hcr : ∀ j (h : j < ([8] : List Int).length), wp.cell? ⟨w3.heap.size, j, none⟩ = some (.int .i64 ([8] : List Int)[j]) := fun j h => by
            have h9 : j < 1 := h
            rcases (show j = 0 by omega) with rfl <;> simp [World.cell?, hrw]
          obtain ⟨pp, kp⟩ := PrOk.kpb hp3 hbp
          have HKP := Lib.hid (HK3.out.trans kp)
          have hsp := (Array.getElem?_eq_some_iff.1 hrw).1
          have HPT := Lib.hid (part_show k HOK.out W0 wp B _ x _ w3.heap.size 1 1 [8] rfl (by decide) hcr hsp HFX.out pp hl3 (HEV.out.kp (by omega) HKP.out) (HNX.out.kp (HKX.out.trans kp)))
          have HWP := Lib.hid hwp
          clear hbp hrw hcr pp kp hwp
          go_wp2_with fail
          rw [HWP.out]
          refine HPT.out.mono ?_
          rintro e w4 ⟨k4, h4⟩
          have HK4 := Lib.hid (HKP.out.trans k4)
          rcases h4 with ⟨l4, rfl, p4⟩ | ⟨l4, O', a1, a2, rfl, a3⟩
          · rw [wrap8] at p4 l4
            have hfin : (O1 ++ [124]) ++ Sh.partL k 8 x = O ++ Sh.altL ((L.take (i + 1)).map (Sh.partL k 8)) := by rw [HS2.out h0, ← HO1.out]; simp
            have HP4 := Lib.hid p4
            have HL4 : Hid (((O1 ++ [124]) ++ Sh.partL k 8 x).length ≤ 4096) := Lib.hid (by rw [List.length_append]; exact l4)
            rw [hfin] at HP4 HL4
            clear hfin p4 l4 k4
            go_wp2
            go_roundw
            case rel => exact ⟨i + 1, by omega, by go_num, HP4, HL4, HK4⟩
            case measure => simp [intOf]; omega
          · refine ⟨rfl, HK4.out, .inr ⟨?_, O', a1, a2, rfl, a3⟩⟩
            rw [wrap8] at l4
            rw [HS3.out, HS2.out h0]
            rw [← HO1.out] at l4
            simp only [List.length_append, List.length_cons, List.length_nil] at l4 ⊢
            omega
        · refine ⟨rfl, HK3.out, .inr ⟨?_, O', a1, a2, rfl, a3⟩⟩
          have l9 : 4096 < O1.length + 1 := l3
          rw [HS3.out, HS2.out h0]
          rw [← HO1.out] at l9
          simp only [List.length_append, List.length_cons, List.length_nil] at l9 ⊢
          omega
      · have h0' : ¬ (0 : Int) < (i : Int) := by omega
        have HWB := Lib.hid hwb
        have HKX := Lib.hid kb
        have HKB := Lib.hid (HKR.out.trans kb)
        obtain ⟨d0, d1, d2, d3, d4, d5, d6, d7⟩ := box_cells hbx
        clear kb hbx
        obtain ⟨wp, hwp⟩ : ∃ wp, wb.alloc (.cells #[.int .i64 8] 3) = wp := ⟨_, rfl⟩
        have hbp : Below wb.heap.size wb wp := by rw [← hwp]; exact (Below.refl _ _).alloc (Nat.le_refl _) _
        have hrw : wp.heap[wb.heap.size]? = some (.cells #[.int .i64 8] 3 (0, 0)) := by rw [← hwp]; exact heap_alloc_new _ _
        have hcr : ∀ j (h : j < ([8] : List Int).length), wp.cell? ⟨wb.heap.size, j, none⟩ = some (.int .i64 ([8] : List Int)[j]) := fun j h => by
          have h9 : j < 1 := h
          rcases (show j = 0 by omega) with rfl <;> simp [World.cell?, hrw]
        obtain ⟨pp, kp⟩ := PrOk.kpb pb hbp
        have HKP := Lib.hid (HKB.out.trans kp)
        have hsp := (Array.getElem?_eq_some_iff.1 hrw).1
        have HPT := Lib.hid (part_show k HOK.out W0 wp B _ x _ wb.heap.size 1 1 [8] rfl (by decide) hcr hsp HFX.out pp HLR.out (HEV.out.kp (by omega) HKP.out) (HNX.out.kp (HKX.out.trans kp)))
        have HWP := Lib.hid hwp
        clear hbp hrw hcr pp kp hwp
        go_wp2_with fail
        rw [HWP.out]
        refine HPT.out.mono ?_
        rintro e w4 ⟨k4, h4⟩
        have HK4 := Lib.hid (HKP.out.trans k4)
        rcases h4 with ⟨l4, rfl, p4⟩ | ⟨l4, O', a1, a2, rfl, a3⟩
        · rw [wrap8] at p4 l4
          have hfin : O1 ++ Sh.partL k 8 x = O ++ Sh.altL ((L.take (i + 1)).map (Sh.partL k 8)) := by rw [HS1.out (by omega), ← HO1.out]; rw [show i = 0 by omega]; rw [List.take_zero]; show (O ++ []) ++ _ = _; rw [List.append_nil]
          have HP4 := Lib.hid p4
          have HL4 : Hid ((O1 ++ Sh.partL k 8 x).length ≤ 4096) := Lib.hid (by rw [List.length_append]; exact l4)
          rw [hfin] at HP4 HL4
          clear hfin p4 l4 k4
          go_wp2
          go_roundw
          case rel => exact ⟨i + 1, by omega, by go_num, HP4, HL4, HK4⟩
          case measure => simp [intOf]; omega
        · refine ⟨rfl, HK4.out, .inr ⟨?_, O', a1, a2, rfl, a3⟩⟩
          rw [wrap8] at l4
          rw [HS3.out, HS1.out (by omega)]
          rw [← HO1.out, show i = 0 by omega, List.take_zero] at l4
          have l5 : 4096 < (O ++ []).length + (Sh.partL k 8 x).length := l4
          rw [List.append_nil] at l5
          simp only [List.length_append, List.length_cons, List.length_nil] at ⊢
          omega
    · obtain rfl : i = n := by omega
      have HFA : Hid (O1 = O ++ Sh.altL (L.map (Sh.partL k 8))) := Lib.hid (by rw [← HO1.out, ← HN.out, List.take_length])
      rw [HFA.out] at HPR HLR
      have HLF : Hid (O.length + (Sh.altL (L.map (Sh.partL k 8))).length ≤ 4096) := Lib.hid (by have h := HLR.out; rw [List.length_append] at h; exact h)
      go_wp2
      refine ⟨rfl, .tuple #[], by simp [results, Tryz.f52, go_sem], ?_⟩
      exact ⟨HKR.out, .inl ⟨HLF.out, rfl, HPR.out⟩⟩
end Go.Proofs.YtanffablfgnioaaGreatDoor
namespace Go.Proofs.YtanffablfgnioaaGreatDoor
open Go.RowKit
set_option linter.unusedVariables false
theorem noneL_nums (T T2 : ByteArray) (h1 : Utf.nums T = Br.esc 0) (h2 : Utf.nums T2 = Br.esc 1114111) : Utf.nums (((((⟨#[91, 94]⟩ : ByteArray) ++ T) ++ (⟨#[45]⟩ : ByteArray)) ++ T2) ++ (⟨#[93]⟩ : ByteArray)) = Sh.noneL := by
  rw [Br.nums_append', Br.nums_append', Br.nums_append', Br.nums_append', h1, h2]
  unfold Sh.noneL
  show ((([91, 94] ++ Br.esc 0) ++ [45]) ++ Br.esc 1114111) ++ [93] = _
  simp
set_option maxRecDepth 100000 in
set_option maxHeartbeats 4000000 in
theorem node_1 (k : Nat) (hOK : ShOK k) (W0 W : World) (B : Nat) (O : List Int) (n : Nd) (cs : List Value) (hk : Td.kind n = 1) (hf : FitS (k + 1) n) (hp : PrOk W B O) (hl : O.length ≤ 4096) (hE : PrEv W0 B W) (hn : NdOn (fun b => b < B) W n cs) :
    Calls Tryz.prog 26 #[.pointer (some ⟨B, 0, none⟩), .agg cs.toArray] W (PrQ W B O (Sh.shL (k + 1) n)) := by
  obtain ⟨vs, a, cap, rfl, hset, hsub⟩ := hn.open
  obtain ⟨hfn, hfs⟩ := hf
  obtain ⟨sa, sc, rfl, _⟩ := id hset.1
  have hBlt := hp.lt
  rw [hk]
  obtain ⟨wb, hwb⟩ : ∃ wb, W.alloc (.cells #[.int .i64 1, .slice sa (Td.set n).length sc, .int .i64 (Td.num n), .string (Td.name n), .int .i64 (Td.mn n), .int .i64 (Td.mx n), .bool (Td.lazy n), .slice a (Td.subs n).length cap] 26) = wb := ⟨_, rfl⟩
  have hbb : Below W.heap.size W wb := by rw [← hwb]; exact (Below.refl _ _).alloc (Nat.le_refl _) _
  have hbx : wb.heap[W.heap.size]? = some (.cells #[.int .i64 1, .slice sa (Td.set n).length sc, .int .i64 (Td.num n), .string (Td.name n), .int .i64 (Td.mn n), .int .i64 (Td.mx n), .bool (Td.lazy n), .slice a (Td.subs n).length cap] 26 (0, 0)) := by rw [← hwb]; exact heap_alloc_new _ _
  obtain ⟨pb, kb⟩ := hp.kpb hbb
  have HKB := Lib.hid kb
  have HPB := Lib.hid pb
  have HWB := Lib.hid hwb
  have HBX := Lib.hid hbx
  have HEB := Lib.hid (hE.kp (by omega) kb)
  have HEV := Lib.hid hE
  have hsb := kb.size
  obtain ⟨d0, d1, d2, d3, d4, d5, d6, d7⟩ := box_cells hbx
  have HL : Hid (Sh.shL (k + 1) n = [40, 63, 58, 41]) := Lib.hid (by rw [Sh.shL, hk]; simp)
  rw [HL.out]
  have HW : Hid (Calls Tryz.prog 45 #[.pointer (some ⟨B, 0, none⟩), .string ⟨#[40, 63, 58, 41]⟩] wb (PrQ wb B O [40, 63, 58, 41])) := Lib.hid (write_any wb B O ⟨#[40, 63, 58, 41]⟩ pb hl (by decide))
  clear hbb hbx pb kb hwb hE hp hset
  go_enter Tryz.func26, Tryz.ntmps26
  go_wp2_with fail
  rw [HWB.out]
  refine HW.out.mono ?_
  rintro e w2 h2
  have HQ := Lib.hid (PrQ.from HKB.out h2)
  rcases h2 with ⟨_, ⟨_, rfl, _⟩ | ⟨_, O', _, _, rfl, _⟩⟩
  · go_wp2
    refine ⟨rfl, .tuple #[], by simp [results, Tryz.f26, go_sem], ?_⟩
    exact HQ.out
  · exact ⟨rfl, HQ.out⟩
set_option maxRecDepth 100000 in
set_option maxHeartbeats 4000000 in
theorem node_4 (k : Nat) (hOK : ShOK k) (W0 W : World) (B : Nat) (O : List Int) (n : Nd) (cs : List Value) (hk : Td.kind n = 4) (hf : FitS (k + 1) n) (hp : PrOk W B O) (hl : O.length ≤ 4096) (hE : PrEv W0 B W) (hn : NdOn (fun b => b < B) W n cs) :
    Calls Tryz.prog 26 #[.pointer (some ⟨B, 0, none⟩), .agg cs.toArray] W (PrQ W B O (Sh.shL (k + 1) n)) := by
  obtain ⟨vs, a, cap, rfl, hset, hsub⟩ := hn.open
  obtain ⟨hfn, hfs⟩ := hf
  obtain ⟨sa, sc, rfl, _⟩ := id hset.1
  have hBlt := hp.lt
  rw [hk]
  obtain ⟨wb, hwb⟩ : ∃ wb, W.alloc (.cells #[.int .i64 4, .slice sa (Td.set n).length sc, .int .i64 (Td.num n), .string (Td.name n), .int .i64 (Td.mn n), .int .i64 (Td.mx n), .bool (Td.lazy n), .slice a (Td.subs n).length cap] 26) = wb := ⟨_, rfl⟩
  have hbb : Below W.heap.size W wb := by rw [← hwb]; exact (Below.refl _ _).alloc (Nat.le_refl _) _
  have hbx : wb.heap[W.heap.size]? = some (.cells #[.int .i64 4, .slice sa (Td.set n).length sc, .int .i64 (Td.num n), .string (Td.name n), .int .i64 (Td.mn n), .int .i64 (Td.mx n), .bool (Td.lazy n), .slice a (Td.subs n).length cap] 26 (0, 0)) := by rw [← hwb]; exact heap_alloc_new _ _
  obtain ⟨pb, kb⟩ := hp.kpb hbb
  have HKB := Lib.hid kb
  have HPB := Lib.hid pb
  have HWB := Lib.hid hwb
  have HBX := Lib.hid hbx
  have HEB := Lib.hid (hE.kp (by omega) kb)
  have HEV := Lib.hid hE
  have hsb := kb.size
  obtain ⟨d0, d1, d2, d3, d4, d5, d6, d7⟩ := box_cells hbx
  have HL : Hid (Sh.shL (k + 1) n = [92, 67]) := Lib.hid (by rw [Sh.shL, hk]; simp)
  rw [HL.out]
  have HW : Hid (Calls Tryz.prog 45 #[.pointer (some ⟨B, 0, none⟩), .string ⟨#[92, 67]⟩] wb (PrQ wb B O [92, 67])) := Lib.hid (write_any wb B O ⟨#[92, 67]⟩ pb hl (by decide))
  clear hbb hbx pb kb hwb hE hp hset
  go_enter Tryz.func26, Tryz.ntmps26
  go_wp2_with fail
  rw [HWB.out]
  refine HW.out.mono ?_
  rintro e w2 h2
  have HQ := Lib.hid (PrQ.from HKB.out h2)
  rcases h2 with ⟨_, ⟨_, rfl, _⟩ | ⟨_, O', _, _, rfl, _⟩⟩
  · go_wp2
    refine ⟨rfl, .tuple #[], by simp [results, Tryz.f26, go_sem], ?_⟩
    exact HQ.out
  · exact ⟨rfl, HQ.out⟩
set_option maxRecDepth 100000 in
set_option maxHeartbeats 4000000 in
theorem node_2 (k : Nat) (hOK : ShOK k) (W0 W : World) (B : Nat) (O : List Int) (n : Nd) (cs : List Value) (hk : Td.kind n = 2) (hf : FitS (k + 1) n) (hp : PrOk W B O) (hl : O.length ≤ 4096) (hE : PrEv W0 B W) (hn : NdOn (fun b => b < B) W n cs) :
    Calls Tryz.prog 26 #[.pointer (some ⟨B, 0, none⟩), .agg cs.toArray] W (PrQ W B O (Sh.shL (k + 1) n)) := by
  obtain ⟨vs, a, cap, rfl, hset, hsub⟩ := hn.open
  obtain ⟨hfn, hfs⟩ := hf
  obtain ⟨sa, sc, rfl, _⟩ := id hset.1
  have hBlt := hp.lt
  rw [hk]
  obtain ⟨wb, hwb⟩ : ∃ wb, W.alloc (.cells #[.int .i64 2, .slice sa (Td.set n).length sc, .int .i64 (Td.num n), .string (Td.name n), .int .i64 (Td.mn n), .int .i64 (Td.mx n), .bool (Td.lazy n), .slice a (Td.subs n).length cap] 26) = wb := ⟨_, rfl⟩
  have hbb : Below W.heap.size W wb := by rw [← hwb]; exact (Below.refl _ _).alloc (Nat.le_refl _) _
  have hbx : wb.heap[W.heap.size]? = some (.cells #[.int .i64 2, .slice sa (Td.set n).length sc, .int .i64 (Td.num n), .string (Td.name n), .int .i64 (Td.mn n), .int .i64 (Td.mx n), .bool (Td.lazy n), .slice a (Td.subs n).length cap] 26 (0, 0)) := by rw [← hwb]; exact heap_alloc_new _ _
  obtain ⟨pb, kb⟩ := hp.kpb hbb
  have HKB := Lib.hid kb
  have HPB := Lib.hid pb
  have HWB := Lib.hid hwb
  have HBX := Lib.hid hbx
  have HEB := Lib.hid (hE.kp (by omega) kb)
  have HEV := Lib.hid hE
  have hsb := kb.size
  obtain ⟨d0, d1, d2, d3, d4, d5, d6, d7⟩ := box_cells hbx
  have HL : Hid (Sh.shL (k + 1) n = Sh.noneL) := Lib.hid (by rw [Sh.shL, hk]; simp)
  rw [HL.out]
  have HES := Lib.hid (fun (w0 : World) (r : Nat) (hr : r ≤ 1114111) (he : EvS w0) => escape_show w0 r hr he.tz)
  clear hbb hbx pb kb hwb hE hp hset
  go_enter Tryz.func26, Tryz.ntmps26
  go_wp2_with fail
  rw [HWB.out]
  refine (HES.out wb 0 (by decide) HEB.out.now).mono ?_
  rintro e w2 ⟨T, rfl, hT, hb⟩
  obtain ⟨p2, k2⟩ := HPB.out.kpb hb
  have HK2 := Lib.hid (HKB.out.trans k2)
  have HE2 := Lib.hid (HEB.out.kp (by omega) k2)
  have HP2 := Lib.hid p2
  have hz1 : T.size ≤ 10 := by rw [← Utf.nums_length, hT, Br.esc_len]; have := (Br.hexL6 (n := 0) (by decide)).2; omega
  have HT := Lib.hid hT
  have hs2 := k2.size
  have hA : ((⟨#[91, 94]⟩ : ByteArray) ++ T).size = 2 + T.size := ByteArray.size_append ..
  have hB2 : (((⟨#[91, 94]⟩ : ByteArray) ++ T) ++ (⟨#[45]⟩ : ByteArray)).size = 2 + T.size + 1 := by rw [ByteArray.size_append, hA]; rfl
  have n1 : ¬ 9223372036854775807 < 2 + T.size := by omega
  have n2 : ¬ 9223372036854775807 < 2 + T.size + 1 := by omega
  have n3 : ¬ 9223372036854775807 < ((⟨#[91, 94]⟩ : ByteArray) ++ T).size + 1 := by omega
  clear hT hb p2 k2 d0 d1 d2 d3 d4 d5 d6 d7
  go_wp2_with fail
  refine (HES.out w2 1114111 (by decide) HE2.out.now).mono ?_
  rintro e w3 ⟨T2, rfl, hT2, hb3⟩
  obtain ⟨p3, k3⟩ := HP2.out.kpb hb3
  have HK3 := Lib.hid (HK2.out.trans k3)
  have hz2 : T2.size ≤ 10 := by rw [← Utf.nums_length, hT2, Br.esc_len]; have := (Br.hexL6 (n := 1114111) (by decide)).2; omega
  have hC : ((((⟨#[91, 94]⟩ : ByteArray) ++ T) ++ (⟨#[45]⟩ : ByteArray)) ++ T2).size = 2 + T.size + 1 + T2.size := by rw [ByteArray.size_append, hB2]
  have n4 : ¬ 9223372036854775807 < 2 + T.size + 1 + T2.size := by omega
  have n5 : ¬ 9223372036854775807 < 2 + T.size + 1 + T2.size + 1 := by omega
  have n6 : ¬ 9223372036854775807 < (((⟨#[91, 94]⟩ : ByteArray) ++ T) ++ (⟨#[45]⟩ : ByteArray)).size + T2.size := by omega
  have n7 : ¬ 9223372036854775807 < ((((⟨#[91, 94]⟩ : ByteArray) ++ T) ++ (⟨#[45]⟩ : ByteArray)) ++ T2).size + 1 := by omega
  have HW := Lib.hid (write_any w3 B O (((((⟨#[91, 94]⟩ : ByteArray) ++ T) ++ (⟨#[45]⟩ : ByteArray)) ++ T2) ++ (⟨#[93]⟩ : ByteArray)) p3 hl (by rw [ByteArray.size_append, hC]; show _ + 1 ≤ _; omega))
  rw [noneL_nums T T2 HT.out hT2] at HW
  clear hT2 hb3 p3 k3
  go_wp2_with fail
  refine HW.out.mono ?_
  rintro e w4 h4
  have HQ := Lib.hid (PrQ.from HK3.out h4)
  rcases h4 with ⟨_, ⟨_, rfl, _⟩ | ⟨_, O', _, _, rfl, _⟩⟩
  · go_wp2
    refine ⟨rfl, .tuple #[], by simp [results, Tryz.f26, go_sem], ?_⟩
    exact HQ.out
  · exact ⟨rfl, HQ.out⟩
set_option maxRecDepth 100000 in
set_option maxHeartbeats 4000000 in
theorem node_3 (k : Nat) (hOK : ShOK k) (W0 W : World) (B : Nat) (O : List Int) (n : Nd) (cs : List Value) (hk : Td.kind n = 3) (hf : FitS (k + 1) n) (hp : PrOk W B O) (hl : O.length ≤ 4096) (hE : PrEv W0 B W) (hn : NdOn (fun b => b < B) W n cs) :
    Calls Tryz.prog 26 #[.pointer (some ⟨B, 0, none⟩), .agg cs.toArray] W (PrQ W B O (Sh.shL (k + 1) n)) := by
  obtain ⟨vs, a, cap, rfl, hset, hsub⟩ := hn.open
  obtain ⟨hfn, hfs⟩ := hf
  obtain ⟨sa, sc, rfl, _⟩ := id hset.1
  have hBlt := hp.lt
  rw [hk]
  obtain ⟨wb, hwb⟩ : ∃ wb, W.alloc (.cells #[.int .i64 3, .slice sa (Td.set n).length sc, .int .i64 (Td.num n), .string (Td.name n), .int .i64 (Td.mn n), .int .i64 (Td.mx n), .bool (Td.lazy n), .slice a (Td.subs n).length cap] 26) = wb := ⟨_, rfl⟩
  have hbb : Below W.heap.size W wb := by rw [← hwb]; exact (Below.refl _ _).alloc (Nat.le_refl _) _
  have hbx : wb.heap[W.heap.size]? = some (.cells #[.int .i64 3, .slice sa (Td.set n).length sc, .int .i64 (Td.num n), .string (Td.name n), .int .i64 (Td.mn n), .int .i64 (Td.mx n), .bool (Td.lazy n), .slice a (Td.subs n).length cap] 26 (0, 0)) := by rw [← hwb]; exact heap_alloc_new _ _
  obtain ⟨pb, kb⟩ := hp.kpb hbb
  have HKB := Lib.hid kb
  have HPB := Lib.hid pb
  have HWB := Lib.hid hwb
  have HBX := Lib.hid hbx
  have HEB := Lib.hid (hE.kp (by omega) kb)
  have HEV := Lib.hid hE
  have hsb := kb.size
  obtain ⟨d0, d1, d2, d3, d4, d5, d6, d7⟩ := box_cells hbx
  have HL : Hid (Sh.shL (k + 1) n = Sh.setL (Td.set n)) := Lib.hid (by rw [Sh.shL, hk]; simp)
  rw [HL.out]
  have HW := Lib.hid (set_show W0 wb B O _ (Td.set n) pb hl (hE.kp (by omega) kb) ⟨hset.kept kb.size (fun b hb hlt => kb.block b hlt (.inl hb)), (hfn.set hk).2⟩ (hfn.set hk).1)
  clear hbb hbx pb kb hwb hE hp hset
  go_enter Tryz.func26, Tryz.ntmps26
  go_wp2_with fail
  rw [HWB.out]
  refine HW.out.mono ?_
  rintro e w2 h2
  have HQ := Lib.hid (PrQ.from HKB.out h2)
  rcases h2 with ⟨_, ⟨_, rfl, _⟩ | ⟨_, O', _, _, rfl, _⟩⟩
  · go_wp2
    refine ⟨rfl, .tuple #[], by simp [results, Tryz.f26, go_sem], ?_⟩
    exact HQ.out
  · exact ⟨rfl, HQ.out⟩
set_option maxRecDepth 100000 in
set_option maxHeartbeats 4000000 in
theorem node_5 (k : Nat) (hOK : ShOK k) (W0 W : World) (B : Nat) (O : List Int) (n : Nd) (cs : List Value) (hk : Td.kind n = 5) (hf : FitS (k + 1) n) (hp : PrOk W B O) (hl : O.length ≤ 4096) (hE : PrEv W0 B W) (hn : NdOn (fun b => b < B) W n cs) :
    Calls Tryz.prog 26 #[.pointer (some ⟨B, 0, none⟩), .agg cs.toArray] W (PrQ W B O (Sh.shL (k + 1) n)) := by
  obtain ⟨vs, a, cap, rfl, hset, hsub⟩ := hn.open
  obtain ⟨hfn, hfs⟩ := hf
  obtain ⟨sa, sc, rfl, _⟩ := id hset.1
  have hBlt := hp.lt
  rw [hk]
  obtain ⟨wb, hwb⟩ : ∃ wb, W.alloc (.cells #[.int .i64 5, .slice sa (Td.set n).length sc, .int .i64 (Td.num n), .string (Td.name n), .int .i64 (Td.mn n), .int .i64 (Td.mx n), .bool (Td.lazy n), .slice a (Td.subs n).length cap] 26) = wb := ⟨_, rfl⟩
  have hbb : Below W.heap.size W wb := by rw [← hwb]; exact (Below.refl _ _).alloc (Nat.le_refl _) _
  have hbx : wb.heap[W.heap.size]? = some (.cells #[.int .i64 5, .slice sa (Td.set n).length sc, .int .i64 (Td.num n), .string (Td.name n), .int .i64 (Td.mn n), .int .i64 (Td.mx n), .bool (Td.lazy n), .slice a (Td.subs n).length cap] 26 (0, 0)) := by rw [← hwb]; exact heap_alloc_new _ _
  obtain ⟨pb, kb⟩ := hp.kpb hbb
  have HKB := Lib.hid kb
  have HPB := Lib.hid pb
  have HWB := Lib.hid hwb
  have HBX := Lib.hid hbx
  have HEB := Lib.hid (hE.kp (by omega) kb)
  have HEV := Lib.hid hE
  have hsb := kb.size
  obtain ⟨d0, d1, d2, d3, d4, d5, d6, d7⟩ := box_cells hbx
  have HL : Hid (Sh.shL (k + 1) n = Sh.aboutL (Td.num n)) := Lib.hid (by rw [Sh.shL, hk]; simp)
  rw [HL.out]
  have HW := Lib.hid (assertion_show wb (Td.num n) (hfn.about hk))
  clear hbb hbx pb kb hwb hE hp hset
  go_enter Tryz.func26, Tryz.ntmps26
  go_wp2_with fail
  rw [HWB.out]
  refine HW.out.mono ?_
  rintro e w2 ⟨T, rfl, hT, hz, rfl⟩
  have HWR := Lib.hid (write_any wb B O T HPB.out hl (by omega))
  rw [hT] at HWR
  clear hT
  go_wp2_with fail
  refine HWR.out.mono ?_
  rintro e w3 h3
  have HQ := Lib.hid (PrQ.from HKB.out h3)
  rcases h3 with ⟨_, ⟨_, rfl, _⟩ | ⟨_, O', _, _, rfl, _⟩⟩
  · go_wp2
    refine ⟨rfl, .tuple #[], by simp [results, Tryz.f26, go_sem], ?_⟩
    exact HQ.out
  · exact ⟨rfl, HQ.out⟩
end Go.Proofs.YtanffablfgnioaaGreatDoor
