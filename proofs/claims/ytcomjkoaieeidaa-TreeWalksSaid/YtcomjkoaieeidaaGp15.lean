/- tree.renew. -/
import Derived.Test.YtcomjkoaieeidaaGp14
import Derived.Test.YtcomjkoaieeidaaGp9
namespace Go.Proofs.Ytcomjkoaieeidaa
open Go.RowKit
set_option linter.unusedVariables false
/-- A node at its place in a block, renewed: it reads as before, in blocks made since. -/
def RenewPost (W : World) (B o : Nat) (cur : Array Value) (t : TypeId) (cs : List Value) (nd : Nd) (e : Ending) (W' : World) : Prop :=
  e = .returned (.tuple #[]) ∧ ∃ v1 v7, NdOn (fun b => W.heap.size ≤ b) W' nd ((cs.set 1 v1).set 7 v7) ∧ W'.heap[B]? = some (.cells ((cur.setIfInBounds (o + 1) v1).setIfInBounds (o + 7) v7) t (0, 0)) ∧ W.grownBy W' (some B)
theorem NdOn.within {S : Nat → Prop} {W : World} : ∀ {n : Nd} {cs : List Value}, NdOn S W n cs → NdOn (fun b => S b ∧ b < W.heap.size) W n cs := by
  intro n cs h
  induction h with
  | mk cs hkk hset hname hlen hrow hsub ih =>
    refine .mk cs hkk ⟨hset.1, fun g off len cap e hl => ⟨hset.2 g off len cap e hl, (RRowOn.of hset.1).2 g off len cap e hl⟩⟩ hname hlen (fun j hj => ?_) ih
    obtain ⟨b, off, ha, hS, hb, hl, hc⟩ := hrow j hj
    exact ⟨b, off, ha, ⟨hS, hb⟩, hb, hl, hc⟩
def RenewOk (k : Nat) : Prop :=
  ∀ (W : World) (nd : Nd) (cs : List Value) (B o L : Nat) (cur : Array Value) (t : TypeId), Td.fit k nd → k ≤ L → L ≤ 65536 → NdOn (· ≠ B) W nd cs → W.heap[B]? = some (.cells cur t (0, 0)) → (∀ i, i < 8 → cur[o + i]? = cs[i]?) →
    Calls Try.prog 17 #[.pointer (some ⟨B, o, none⟩), .int .i64 (L : Int)] W (RenewPost W B o cur t cs nd)
set_option maxRecDepth 100000 in
set_option maxHeartbeats 4000000 in
theorem renew_step (k : Nat) (ih : RenewOk k) : RenewOk (k + 1) := by
  intro W nd cs B o L cur t hfit hkL hL hnd hB hcur
  have mixed : Try.prog.follows .mixedOrders = true := by kernel_rfl
  cases hnd with
  | @mk K num mn mx set name lz subs vs a cap c hk hset hname hlen hrow hsub =>
  have hBl : B < W.heap.size := (Array.getElem?_eq_some_iff.1 hB).1
  obtain ⟨⟨sa, sc, hvs, hsl, hsc⟩, hso⟩ := hset
  subst hvs
  have cell : ∀ (i : Nat) (v : Value), ([.int .i64 K, .slice sa set.length sc, .int .i64 num, .string name, .int .i64 mn, .int .i64 mx, .bool lz, .slice a subs.length cap] : List Value)[i]? = some v → W.cell? ⟨B, o + i, none⟩ = some v := fun i v hv => by
    have hi : i < 8 := by have := (List.getElem?_eq_some_iff.1 hv).1; simpa using this
    simp [World.cell?, hB, hcur i hi, hv]
  have c1 := cell 1 _ rfl
  have c7 := cell 7 _ rfl
  have f1 : W.frozen? ⟨B, o + 1, none⟩ = false := by simp [World.frozen?, hB]
  have f7 : W.frozen? ⟨B, o + 7, none⟩ = false := by simp [World.frozen?, hB]
  have HB := Lib.hid hB
  have HCUR := Lib.hid hcur
  have HROW := Lib.hid hrow
  have HSUB := Lib.hid hsub
  have HSC := Lib.hid hsc
  have HSO := Lib.hid hso
  have HFIT := Lib.hid hfit
  clear hB hcur hrow hsub hsc hso hfit cell
  go_enter Try.func17, Try.ntmps17
  go_wp2_with fail
  refine (clR_any W _ set ⟨sa, sc, rfl, hsl, HSC.out⟩).mono ?_
  rintro e w1 ⟨v1, rfl, hset1, hb1⟩
  obtain ⟨a1, q1, rfl⟩ : ∃ a1 q1, v1 = .slice a1 set.length q1 := by
    obtain ⟨⟨a1, q1, e, _⟩, _⟩ := hset1
    exact ⟨a1, q1, e⟩
  have hx1 := (hb1.block B hBl).trans HB.out
  have hs1 := hb1.size
  have d1 := (hb1.cell (p := ⟨B, o + 1, none⟩) hBl).trans c1
  have d7 := (hb1.cell (p := ⟨B, o + 7, none⟩) hBl).trans c7
  have g1 : w1.frozen? ⟨B, o + 1, none⟩ = false := by simp [World.frozen?, hx1]
  have g7 : w1.frozen? ⟨B, o + 7, none⟩ = false := by simp [World.frozen?, hx1]
  obtain ⟨W2, hW2⟩ : ∃ W2, w1.setCell ⟨B, o + 1, none⟩ (.slice a1 set.length q1) = W2 := ⟨_, rfl⟩
  have HW2 := Lib.hid hW2
  have HS1 := Lib.hid hset1
  have HB1 := Lib.hid hb1
  have HX1 := Lib.hid hx1
  clear c1 c7 f1 f7 hset1 hb1 hx1 hW2
  have hx2 : W2.heap[B]? = some (.cells (cur.setIfInBounds (o + 1) (.slice a1 set.length q1)) t (0, 0)) := by
    rw [← HW2.out]; exact heap_setCell_same w1 B (o + 1) _ _ _ HX1.out
  have hs2 : W2.heap.size = w1.heap.size := by rw [← HW2.out]; simp
  have hk2 : ∀ b, b ≠ B → W2.heap[b]? = w1.heap[b]? := fun b hb => by rw [← HW2.out]; exact heap_setCell_other _ _ _ _ (by exact hb)
  have HG2 : Hid (W.grownBy W2 (some B)) := Lib.hid (by
    refine ⟨by rw [← HW2.out]; exact HB1.out.os, by rw [← HW2.out]; exact HB1.out.tape, by rw [← HW2.out]; exact HB1.out.output, by omega, fun b hb hne => ?_⟩
    exact (hk2 b (fun e => hne (by rw [e]))).trans (HB1.out.block b hb))
  have HS2 : Hid (RRowOn (fun b => W.heap.size ≤ b) W2 (.slice a1 set.length q1) set) := Lib.hid (HS1.out.kept (by omega) (fun b hb _ => hk2 b (by omega)))
  have hl2 : o + 7 < cur.size := by
    have h := HCUR.out 7 (by omega)
    exact (Array.getElem?_eq_some_iff.1 h).1
  have HX2 := Lib.hid hx2
  have HK2 := Lib.hid hk2
  clear hx2 hk2
  by_cases hL1 : (L : Int) = 1
  · have hk0 : k = 0 := by omega
    have he : subs = [] := by
      have h := HFIT.out.2.2.2
      subst hk0
      cases subs with
      | nil => rfl
      | cons x l => exact absurd (h x (by simp [Td.subs])) (by simp [Td.fit])
    subst he
    go_wp2
    rw [HW2.out]
    refine ⟨rfl, .tuple #[], by simp [results, Try.f17, go_sem], ?_⟩
    unfold RenewPost
    refine ⟨rfl, .slice a1 set.length q1, .slice none 0 0, ?_, heap_setCell_same W2 B (o + 7) _ _ _ HX2.out, ?_⟩
    · exact .mk (fun _ => []) hk (HS2.out.kept (by simp) (fun b hb _ => heap_setCell_other _ _ _ _ (by show b ≠ B; omega))) hname (by simp) (fun j hj => absurd hj (by simp)) (fun j hj => absurd hj (by simp))
    · exact ⟨HG2.out.os, HG2.out.tape, HG2.out.output, by have := HG2.out.size; simpa using this, fun b hb hne => (heap_setCell_other _ _ _ _ (by show b ≠ B; exact fun e => hne (by rw [e]))).trans (HG2.out.block b hb hne)⟩
  · go_wp2_with fail
    rw [HW2.out]
    obtain ⟨m, hm⟩ : ∃ m, subs.length = m := ⟨_, rfl⟩
    have hm2 : m ≤ 200 := by have h := HFIT.out.2.2.1; rw [← hm]; exact h
    rw [hm] at HROW hlen ⊢
    have HM := Lib.hid hm
    refine (clN_any W2 a cap m c (by omega) (fun j hj => ?_) (fun j hj => one8 (HSUB.out j (by omega)))).mono ?_
    · obtain ⟨b, off, h1, h2, h3, h4, h5⟩ := HROW.out j hj
      exact ⟨b, off, h1, h4, fun i hi => (cell_of_blk (HG2.out.block b h3 (by intro e; injection e with e; exact h2 e)) _).trans (h5 i hi)⟩
    rintro e w3 ⟨v7, rfl, hown, hb3⟩
    have hB2 : B < W2.heap.size := (Array.getElem?_eq_some_iff.1 HX2.out).1
    have hx3 := (hb3.block B hB2).trans HX2.out
    have e7 : w3.cell? ⟨B, o + 7, none⟩ = some (.slice a m cap) := by
      have h := HCUR.out 7 (by omega)
      simp only [World.cell?, hx3]
      simp [h, hm]
    have e8 : w3.frozen? ⟨B, o + 7, none⟩ = false := by simp [World.frozen?, hx3]
    clear hm
    obtain ⟨a7, q7, hv7, hrow7⟩ : ∃ a7 q7, v7 = .slice a7 m q7 ∧ (0 < m → ∃ g cur7, a7 = some ⟨g, 0, none⟩ ∧ W2.heap.size ≤ g ∧ w3.heap[g]? = some (.cells cur7 25 (0, 0)) ∧ ∀ j, j < m → ∀ i, i < 8 → cur7[j * 8 + i]? = (c j)[i]?) := by
      rcases hown.2 with ⟨h1, h2⟩ | ⟨g, cap7, cur7, h1, h2, h3, h4, h5, h6, h7⟩
      · exact ⟨none, 0, by rw [h1, h2], fun h => by omega⟩
      · refine ⟨_, cap7, h1, fun _ => ⟨g, cur7, rfl, h2, h3, fun j hj i hi => ?_⟩⟩
        have hX : ((List.range m).map c)[j]? = some (c j) := by simp [hj]
        have h8 : ∀ x ∈ (List.range m).map c, x.length = 8 := fun x hx => by
          obtain ⟨j', hj', rfl⟩ := List.mem_map.1 hx
          obtain ⟨_, _, _, _, _, h, _⟩ := HROW.out j' (List.mem_range.1 hj')
          exact h
        rw [← flat8_at _ h8 j i _ hX hi, ← h7, List.getElem?_take, if_pos (by omega)]
        simp
    subst hv7
    obtain ⟨W4, hW4⟩ : ∃ W4, w3.setCell ⟨B, o + 7, none⟩ (.slice a7 m q7) = W4 := ⟨_, rfl⟩
    have hx4 : W4.heap[B]? = some (.cells ((cur.setIfInBounds (o + 1) (.slice a1 set.length q1)).setIfInBounds (o + 7) (.slice a7 m q7)) t (0, 0)) := by
      rw [← hW4]; exact heap_setCell_same w3 B (o + 7) _ _ _ hx3
    have hs4 : W4.heap.size = w3.heap.size := by rw [← hW4]; simp
    have hs3 := hb3.size
    have hk4 : ∀ b, b ≠ B → W4.heap[b]? = w3.heap[b]? := fun b hb => by rw [← hW4]; exact heap_setCell_other _ _ _ _ (by exact hb)
    have HG4 : Hid (W.grownBy W4 (some B)) := Lib.hid (by
      have h2 := HG2.out
      have hz := h2.size
      refine ⟨by rw [← hW4]; exact hb3.os.trans h2.os, by rw [← hW4]; exact hb3.tape.trans h2.tape, by rw [← hW4]; exact hb3.output.trans h2.output, by omega, fun b hb hne => ?_⟩
      exact (hk4 b (fun e => hne (by rw [e]))).trans ((hb3.block b (by omega)).trans (h2.block b hb hne)))
    have HS4 : Hid (RRowOn (fun b => W.heap.size ≤ b ∧ b < W2.heap.size) W4 (.slice a1 set.length q1) set) := Lib.hid (by
      have h := HS2.out
      have h2 : RRowOn (fun b => W.heap.size ≤ b ∧ b < W2.heap.size) W2 (.slice a1 set.length q1) set := ⟨h.1, fun g off len cap e hl => ⟨h.2 g off len cap e hl, (RRowOn.of h.1).2 g off len cap e hl⟩⟩
      exact h2.kept (by omega) (fun b hb hl => (hk4 b (by omega)).trans (hb3.block b hl)))
    have e9 : W4.cell? ⟨B, o + 7, none⟩ = some (.slice a7 m q7) := by
      simp [World.cell?, hx4, hl2]
    have HX4 := Lib.hid hx4
    have HW4 := Lib.hid hW4
    have HK4 := Lib.hid hk4
    have HR7 := Lib.hid hrow7
    have HB3 := Lib.hid hb3
    clear hx4 hW4 hk4 hrow7 hown hb3 hx3 d1 d7 g1 g7
    by_cases hm0 : m = 0
    · subst hm0
      have he : subs = [] := List.length_eq_zero_iff.1 HM.out
      go_wp2
      rw [HW4.out]
      go_loopw [4, 31] (fun x4 iv wr => iv = .int .i64 0 ∧ wr = W4) (fun _ _ _ => 0)
      case atStart => exact ⟨rfl, rfl⟩
      case round =>
        obtain ⟨rfl, rfl⟩ := hrel
        go_wp2
        refine ⟨rfl, .tuple #[], by simp [results, Try.f17, go_sem], ?_⟩
        unfold RenewPost
        refine ⟨rfl, .slice a1 set.length q1, .slice a7 0 q7, ?_, HX4.out, HG4.out⟩
        subst he
        exact .mk (fun _ => []) hk ⟨HS4.out.1, fun g off len cap e hl => (HS4.out.2 g off len cap e hl).1⟩ hname (by simp) (fun j hj => absurd hj (by simp)) (fun j hj => absurd hj (by simp))
    · obtain ⟨g, cur7, rfl, hg1, hg2, hg3⟩ := HR7.out (by omega)
      have hB2 : B < W2.heap.size := (Array.getElem?_eq_some_iff.1 HX2.out).1
      have hgB : g ≠ B := by omega
      have hB4 : B < W4.heap.size := (Array.getElem?_eq_some_iff.1 HX4.out).1
      have hg4 := (HK4.out g hgB).trans hg2
      have hs2w : W.heap.size ≤ W2.heap.size := by omega
      have HG5 := Lib.hid hg4
      have HG6 := Lib.hid hg3
      have hf : ∀ x ∈ subs, Td.fit k x := HFIT.out.2.2.2
      have HF := Lib.hid hf
      have hgl4 : g < W4.heap.size := (Array.getElem?_eq_some_iff.1 hg4).1
      clear hg2 hg3 hg4 hf
      go_wp2
      rw [HW4.out]
      go_loopw [4, 31] (fun x4 iv wr => ∃ (i : Nat) (curi : Array Value) (Y : Nat → List Value), i ≤ m ∧ iv = .int .i64 (i : Int) ∧ Hid (W4.grownBy wr (some g)) ∧ Hid (wr.heap[g]? = some (.cells curi 25 (0, 0))) ∧
        Hid (∀ j, j < m → ∀ q, q < 8 → curi[j * 8 + q]? = (Y j)[q]?) ∧ Hid (∀ j, i ≤ j → j < m → Y j = c j) ∧ Hid (∀ j (h : j < subs.length), j < i → NdOn (fun b => g < b) wr subs[j] (Y j))) (fun _ iv _ => m - (intOf iv).toNat)
      case atStart => exact ⟨0, cur7, c, Nat.zero_le _, rfl, Lib.hid ⟨rfl, rfl, rfl, Nat.le_refl _, fun _ _ _ => rfl⟩, HG5, HG6, Lib.hid (fun _ _ _ => rfl), Lib.hid (fun j h hj => absurd hj (by omega))⟩
      case round =>
        obtain ⟨i, curi, Y, him, rfl, HGR, HGI, HCI, HYC, HYD⟩ := hrel
        have hBr : wr.heap[B]? = _ := (HGR.out.block B hB4 (by intro e; injection e with e; exact hgB e.symm)).trans HX4.out
        by_cases hlt : i < m
        · have hYi : Y i = c i := HYC.out i (Nat.le_refl _) hlt
          have hi8 : (Y i).length = 8 := by
            rw [hYi]; obtain ⟨_, _, _, _, _, h, _⟩ := HROW.out i hlt; exact h
          have hls : i < subs.length := by rw [HM.out]; exact hlt
          have hsr : NdOn (· ≠ g) wr subs[i] (Y i) := by
            rw [hYi]
            exact ((HSUB.out i hls).within.kept (W' := wr) (by have := HG4.out.size; have := HGR.out.size; omega) (fun b hb hl => (HGR.out.block b (by omega) (by intro e; injection e with e; omega)).trans (HG4.out.block b hl (by intro e; injection e with e; exact hb.1 e)))).mono (fun b hb => by have := hb.2; omega)
          have HSR := Lib.hid hsr
          have HI8 := Lib.hid hi8
          have r7 : wr.cell? ⟨B, o + 7, none⟩ = some (.slice (some ⟨g, 0, none⟩) m q7) := by
            simp [World.cell?, hBr, hl2]
          have hw : IntKind.i64.wrap ((L : Int) - 1) = ((L - 1 : Nat) : Int) := by rw [IntKind.wrap_i64]; omega
          have hi0 : (0 : Int) ≤ (i : Int) := by omega
          have him2 : (i : Int) < (m : Int) := by omega
          clear hsr hi8 hYi hBr e7 e8 e9
          go_wp2_with fail
          refine (ih wr subs[i] (Y i) g (i * 8) (L - 1) curi _ (HF.out _ (List.getElem_mem _)) (by omega) (by omega) HSR.out HGI.out (fun q hq => HCI.out i hlt q hq)).mono ?_
          rintro e wv ⟨rfl, u1, u7, hn, hx, hgr⟩
          have HN := Lib.hid hn
          have HX := Lib.hid hx
          have HV := Lib.hid hgr
          have hgw : g < wr.heap.size := (Array.getElem?_eq_some_iff.1 HGI.out).1
          clear hn hx hgr
          go_wp2
          go_roundw
          case rel =>
            refine ⟨i + 1, _, fun j => if j = i then ((Y i).set 1 u1).set 7 u7 else Y j, by omega, by go_num, Lib.hid (HGR.out.trans HV.out), HX, Lib.hid (fun j hj q hq => ?_), Lib.hid (fun j h1 h2 => ?_), Lib.hid (fun j h hj => ?_)⟩
            · have hsz : ∀ r, r < 8 → i * 8 + r < curi.size := fun r hr => by
                have h := HCI.out i hlt r hr
                rw [List.getElem?_eq_getElem (by rw [HI8.out]; exact hr)] at h
                exact (Array.getElem?_eq_some_iff.1 h).1
              have h1 := hsz 1 (by omega)
              have h7 := hsz 7 (by omega)
              have hl := HI8.out
              dsimp only
              by_cases hji : j = i
              · subst hji
                rw [if_pos rfl]
                by_cases hq7 : q = 7
                · subst hq7
                  rw [Array.getElem?_setIfInBounds_self_of_lt (by simpa using h7), List.getElem?_set_self (by simp; omega)]
                · rw [Array.getElem?_setIfInBounds_ne (by omega), List.getElem?_set_ne (by omega)]
                  by_cases hq1 : q = 1
                  · subst hq1
                    rw [Array.getElem?_setIfInBounds_self_of_lt h1, List.getElem?_set_self (by omega)]
                  · rw [Array.getElem?_setIfInBounds_ne (by omega), List.getElem?_set_ne (by omega)]
                    exact HCI.out j hj q hq
              · rw [if_neg hji, Array.getElem?_setIfInBounds_ne (by omega), Array.getElem?_setIfInBounds_ne (by omega)]
                exact HCI.out j hj q hq
            · show (if j = i then _ else Y j) = c j
              rw [if_neg (by omega)]
              exact HYC.out j (by omega) h2
            · show NdOn _ wv subs[j] (if j = i then _ else Y j)
              by_cases hji : j = i
              · subst hji
                rw [if_pos rfl]
                exact HN.out.mono (fun b hb => by omega)
              · rw [if_neg hji]
                exact (HYD.out j h (by omega)).kept HV.out.size (fun b hb hl => HV.out.block b hl (by intro e; injection e with e; omega))
          case measure => simp [intOf]; omega
        · obtain rfl : i = m := by omega
          go_wp2
          refine ⟨rfl, .tuple #[], by simp [results, Try.f17, go_sem], ?_⟩
          unfold RenewPost
          have hgl : g < wr.heap.size := (Array.getElem?_eq_some_iff.1 HGI.out).1
          refine ⟨rfl, .slice a1 set.length q1, .slice (some ⟨g, 0, none⟩) i q7, ?_, hBr, HG4.out.andThen HGR.out (fun j e => by injection e with e; left; omega)⟩
          have hset5 : RRowOn (fun b => W.heap.size ≤ b) wr (.slice a1 set.length q1) set := (HS4.out.kept HGR.out.size (fun b hb hl => HGR.out.block b hl (by intro e; injection e with e; omega))).mono (fun b hb => hb.1)
          have hm := HM.out
          subst hm
          exact .mk Y hk hset5 hname (by omega) (fun j hj => ⟨g, 0, rfl, by omega, hgl, (HYD.out j hj hj).is.len, fun q hq => by rw [← HCI.out j hj q hq]; simp [World.cell?, HGI.out]⟩) (fun j hj => (HYD.out j hj hj).mono (fun b hb => by omega))
theorem renew_ok : ∀ k, RenewOk k
  | 0 => fun W nd cs B o L cur t hf => absurd hf (by simp [Td.fit])
  | k + 1 => renew_step k (renew_ok k)
end Go.Proofs.Ytcomjkoaieeidaa
