/- The landed parse: pattern. · Functions of the library: the library's contracts, laid over this translation. -/
import Derived.Test.YtanffablfgnioaaGreatDoorGp32
import Derived.Test.YtanffablfgnioaaGreatDoorGp16
import Derived.Shelf.Strings.IndexAnyAll
import Derived.Shelf.Strings.SlTrimAscii
import Derived.Shelf.Strconv.Atoi
import Derived.Shelf.Small.Strs
import Derived.Test.YtanffablfgnioaaGreatDoorProg
namespace Go.Proofs.YtanffablfgnioaaGreatDoor
open Go.RowKit
open Lx (Tk)
open Ps (TL)
set_option linter.unusedVariables false
/-- What a pattern's tokens are parsed as: a tree, or an error with its place. -/
noncomputable def patF (R : Ps.PR) : Option Nd × Int × Int :=
  match R with
  | .bad a c => (none, a, c)
  | .ok x L' _ _ => if Ps.kd L' = 11 then (none, Ps.pl L', 90) else if Td.checkN x = 0 then (some x, 0, 0) else (none, 0, Td.checkN x)
def PatQ (lo B : Nat) (X : Option Nd × Int × Int) (W : World) (e : Ending) (w' : World) : Prop :=
  ∃ cs, e = .returned (.tuple #[.agg cs.toArray, .int .i64 X.2.1, .int .i64 X.2.2]) ∧ NdOn (fun b => lo ≤ b) w' (X.1.getD (Ps.leafN 0 0)) cs ∧ W.grownBy w' (some B)
theorem nd_zero {S : Nat → Prop} (w : World) : NdOn S w (Ps.leafN 0 0) [.int .i64 0, .slice none 0 0, .int .i64 0, .string ⟨#[]⟩, .int .i64 0, .int .i64 0, .bool false, .slice none 0 0] :=
  .mk (fun _ => []) ⟨i64_lit _ (by decide), i64_lit _ (by decide), i64_lit _ (by decide), i64_lit _ (by decide)⟩ RRowOn.nil (by decide) (by decide) (fun j hj => absurd hj (by simp)) (fun j hj => absurd hj (by simp))
set_option maxRecDepth 100000 in
set_option maxHeartbeats 8000000 in
theorem pattern_any (W0 : World) {W : World} {lo B P0 : Nat} {v : Value} {L : TL} {f g : Int} (h : PSt lo W B P0 v L f g) (hE : PEv W0 B W) (hlo : lo ≤ W.heap.size) : Calls Tryz.prog 10 #[.pointer (some ⟨B, 0, none⟩)] W (PatQ lo B (patF (Ps.altP (3 * L.length + 3) L f g [])) W) := by
  have hmf : ∀ (fn : Fn) (first cap : Array Value) (w : World), (Instr.makeFunc fn first cap).run Tryz.prog w = .ok (.func fn first cap) w := fun _ _ _ _ => rfl
  obtain ⟨R, hR⟩ : ∃ R, Ps.altP (3 * L.length + 3) L f g [] = R := ⟨_, rfl⟩
  have hszx := (Ps.sz_all (3 * L.length + 3)).1 L f g [] 0 (fun k => by simp [Ps.szL])
  rw [hR] at hszx ⊢
  obtain ⟨w1, hw1⟩ : ∃ w1, ((W.alloc (.cells #[.int .i64 0, .slice none 0 0, .int .i64 0, .string ⟨#[]⟩, .int .i64 0, .int .i64 0, .bool false, .slice none 0 0] 26)).alloc (.cells #[.int .i64 0] 3)).alloc (.cells #[.int .i64 0] 27) = w1 := ⟨_, rfl⟩
  obtain ⟨nb, hnb⟩ : ∃ nb, W.heap.size = nb := ⟨_, rfl⟩
  have hb1 : Below W.heap.size W w1 := by rw [← hw1]; exact (((Below.refl _ _).alloc (Nat.le_refl _) _).alloc (by simp) _).alloc (by simp; omega) _
  have hn1 : w1.heap[nb]? = some (.cells #[.int .i64 0, .slice none 0 0, .int .i64 0, .string ⟨#[]⟩, .int .i64 0, .int .i64 0, .bool false, .slice none 0 0] 26 (0, 0)) := by rw [← hw1, ← hnb]; exact heap_alloc_oldp (heap_alloc_oldp (heap_alloc_new _ _))
  have ha1 : w1.heap[nb + 1]? = some (.cells #[.int .i64 0] 3 (0, 0)) := by rw [← hw1, ← hnb]; exact heap_alloc_oldp (heap_alloc_new' _ _ _ (by simp))
  have he1 : w1.heap[nb + 1 + 1]? = some (.cells #[.int .i64 0] 27 (0, 0)) := by rw [← hw1, ← hnb]; exact heap_alloc_new' _ _ _ (by simp)
  have HAL := Lib.hid (altOK W0 L.length w1 lo B P0 v L f g (3 * L.length + 3) (Nat.le_refl _) (Nat.le_refl _) (h.below hb1) (hE.grown (below_grown (n := 0) hb1 _)))
  rw [hR] at HAL
  have hB := h.hB
  have hP := h.hP
  have hLen := h.len
  have HE := Lib.hid hE
  have HB1 := Lib.hid hb1
  have HN1 := Lib.hid hn1
  have HA1 := Lib.hid ha1
  have HE1 := Lib.hid he1
  have HW1 := Lib.hid hw1
  have HNB := Lib.hid hnb
  have HSX := Lib.hid hszx
  have hnB : B < nb := by omega
  clear h hE hb1 hn1 ha1 he1 hw1 hnb hszx hR
  go_enter_defers Tryz.func10, Tryz.ntmps10
  go_wp2_with fail
  rw [HW1.out, HNB.out]
  refine HAL.out.mono ?_
  rintro e w2 ⟨hg2, h2⟩
  have hn2 := box_gr HN1.out hg2 (by omega)
  have ha2 := box_gr HA1.out hg2 (by omega)
  have he2 := box_gr HE1.out hg2 (by omega)
  have HG2 := Lib.hid (grown_trans (below_grown (n := 0) HB1.out (some B)) hg2)
  have HG12 := Lib.hid hg2
  rcases h2 with ⟨ba, bc, rfl, rfl⟩ | ⟨x, L', f', g', cs, v', rfl, rfl, hx, hps2⟩
  · have hs2 : nb ≤ w2.heap.size := by have := (Array.getElem?_eq_some_iff.1 hn2).1; omega
    refine leaves_cons (f := 17) (args := #[.pointer (some ⟨nb, 0, none⟩), .pointer (some ⟨nb + 1, 0, none⟩), .pointer (some ⟨nb + 1 + 1, 0, none⟩)]) (by simp) (by simp [go_sem]) ?_
    refine (catch_failure nb (nb + 1) (nb + 1 + 1) nb w2 ba bc [] hn2 ha2 he2 (by omega) (by omega)).mono ?_
    rintro e u' w3 ⟨rfl, rfl, hn3, ha3, he3, hb3⟩
    obtain ⟨q0, q1, q2, q3, q4, q5, q6, q7, _⟩ := box_facts hn3
    have qa : w3.cell? ⟨nb + 1, 0, none⟩ = some (.int .i64 ba) := by simp [World.cell?, ha3]
    have qe : w3.cell? ⟨nb + 1 + 1, 0, none⟩ = some (.int .i64 bc) := by simp [World.cell?, he3]
    have HFIN : Hid (PatQ lo B (patF (.bad ba bc)) W (.returned (.tuple #[.agg #[.int .i64 0, .slice none 0 0, .int .i64 0, .string ⟨#[]⟩, .int .i64 0, .int .i64 0, .bool false, .slice none 0 0], .int .i64 ba, .int .i64 bc])) w3) :=
      Lib.hid ⟨_, rfl, nd_zero w3, grown_belowP HG2.out hb3 (by rw [HNB.out]; exact Nat.le_refl _)⟩
    clear hn3 ha3 he3 hb3
    simp [Leaves, settle, results, Tryz.f10, go_sem, q0, q1, q2, q3, q4, q5, q6, q7, qa, qe]
    exact HFIN.out
  · obtain ⟨u0, u1, u2, u3, u4, u5, u6, u7, sa, sc, ia, ic, hcs, F⟩ := hx.is.form_of
    subst hcs
    obtain ⟨rfl, rfl, rfl, rfl, rfl, rfl, rfl, rfl⟩ := F
    obtain ⟨d0, d1, d2, d3, d4, d5, d6, d7, g0, g1, g2, g3, g4, g5, g6, g7⟩ := box_facts hn2
    obtain ⟨w3, hw3⟩ : ∃ w3, (((((((w2.setCell ⟨nb, 0, none⟩ (.int .i64 (Td.kind x))).setCell ⟨nb, 1, none⟩ (.slice sa (Td.set x).length sc)).setCell ⟨nb, 2, none⟩ (.int .i64 (Td.num x))).setCell ⟨nb, 3, none⟩ (.string (Td.name x))).setCell ⟨nb, 4, none⟩ (.int .i64 (Td.mn x))).setCell ⟨nb, 5, none⟩ (.int .i64 (Td.mx x))).setCell ⟨nb, 6, none⟩ (.bool (Td.lazy x))).setCell ⟨nb, 7, none⟩ (.slice ia (Td.subs x).length ic) = w3 := ⟨_, rfl⟩
    have hn3 : w3.heap[nb]? = some (.cells #[.int .i64 (Td.kind x), .slice sa (Td.set x).length sc, .int .i64 (Td.num x), .string (Td.name x), .int .i64 (Td.mn x), .int .i64 (Td.mx x), .bool (Td.lazy x), .slice ia (Td.subs x).length ic] 26 (0, 0)) := by rw [← hw3]; exact set8_blk _ _ _ _ _ _ _ _ _ _ hn2
    have ho3 : ∀ b, b ≠ nb → w3.heap[b]? = w2.heap[b]? := fun b hb => by rw [← hw3]; exact set8_other _ _ _ _ _ _ _ _ _ _ b hb
    have hs3 : w3.heap.size = w2.heap.size := by rw [← hw3]; exact set8_size _ _ _ _ _ _ _ _ _ _
    have hg3 : W.grownBy w3 (some B) := by rw [← hw3]; exact set8_grown HG2.out nb (by rw [HNB.out]; exact Nat.le_refl _) _ _ _ _ _ _ _ _
    have ha3 := (ho3 (nb + 1) (by omega)).trans ha2
    have he3 := (ho3 (nb + 1 + 1) (by omega)).trans he2
    have hs2 : nb + 3 ≤ w3.heap.size := by have := (Array.getElem?_eq_some_iff.1 he3).1; omega
    have hsw1 : nb + 3 ≤ w1.heap.size := by have := (Array.getElem?_eq_some_iff.1 HE1.out).1; omega
    have hW := HNB.out
    have hps3 : PSt lo w3 B P0 v' L' f' g' := hps2.other (by omega) (fun b hb => ho3 b (by omega))
    have hx3 := hx.to (W' := w3) (by omega) (fun b hb hlt => ho3 b (by rcases hb with h | h <;> omega))
    have hlen : (Td.all 1000 1 x).length ≤ 1000000 := by
      rw [Ps.all_sz]
      have := HSX.out x L' f' g' rfl 1000
      omega
    have HN3 := Lib.hid hn3
    have HA3 := Lib.hid ha3
    have HE3 := Lib.hid he3
    have HG3 := Lib.hid hg3
    have HW3 := Lib.hid hw3
    have HX3 := Lib.hid hx3
    have HK := Lib.hid (kind_any hps3)
    have HAT := Lib.hid (at_any hps3)
    have HCK := Lib.hid (callsIn_wide.1 (check_in 3 (by omega) w3 x _ hx3.is hlen))
    clear hn2 ha2 he2 hx hps2 hg2 hw3 hn3 ho3 hs3 hg3 ha3 he3 hps3 hx3 hlen
    go_wp2_with fail
    rw [HW3.out]
    by_cases h11 : Ps.kd L' = 11
    · have HPF : Hid (patF (.ok x L' f' g') = (none, Ps.pl L', 90)) := Lib.hid (by unfold patF; dsimp only; rw [if_pos h11])
      rw [h11] at HK
      clear h11
      refine HK.out.mono ?_
      rintro e w4 ⟨rfl, rfl⟩
      go_wp2_with fail
      refine HAT.out.mono ?_
      rintro e w4 ⟨rfl, rfl⟩
      go_wp2_with fail
      refine (fail_any _ _ _).mono ?_
      rintro e w5 ⟨rfl, hb5⟩
      have hn5 := box_gr HN3.out (below_grown (n := 0) hb5 (some B)) (by omega)
      have ha5 := box_gr HA3.out (below_grown (n := 0) hb5 (some B)) (by omega)
      have he5 := box_gr HE3.out (below_grown (n := 0) hb5 (some B)) (by omega)
      have hs5 := hb5.size
      have HG5 := Lib.hid (grown_trans HG3.out (below_grown (n := 0) hb5 (some B)))
      clear hb5
      refine leaves_cons (f := 17) (args := #[.pointer (some ⟨nb, 0, none⟩), .pointer (some ⟨nb + 1, 0, none⟩), .pointer (some ⟨nb + 1 + 1, 0, none⟩)]) (by simp) (by simp [go_sem]) ?_
      refine (catch_failure nb (nb + 1) (nb + 1 + 1) nb _ (Ps.pl L') 90 [] hn5 ha5 he5 (by omega) (by omega)).mono ?_
      rintro e u' w9 ⟨rfl, rfl, hn9, ha9, he9, hb9⟩
      obtain ⟨q0, q1, q2, q3, q4, q5, q6, q7, _⟩ := box_facts hn9
      have qa : w9.cell? ⟨nb + 1, 0, none⟩ = some (.int .i64 (Ps.pl L')) := by simp [World.cell?, ha9]
      have qe : w9.cell? ⟨nb + 1 + 1, 0, none⟩ = some (.int .i64 (90)) := by simp [World.cell?, he9]
      have HFIN : Hid (PatQ lo B (patF (.ok x L' f' g')) W (.returned (.tuple #[.agg #[.int .i64 0, .slice none 0 0, .int .i64 0, .string ⟨#[]⟩, .int .i64 0, .int .i64 0, .bool false, .slice none 0 0], .int .i64 (Ps.pl L'), .int .i64 (90)])) w9) :=
        Lib.hid (by rw [HPF.out]; exact ⟨_, rfl, nd_zero w9, grown_belowP HG5.out hb9 (by rw [HNB.out]; exact Nat.le_refl _)⟩)
      clear hn9 ha9 he9 hb9
      simp [Leaves, settle, results, Tryz.f10, go_sem, q0, q1, q2, q3, q4, q5, q6, q7, qa, qe]
      exact HFIN.out
    · obtain ⟨K, hK⟩ : ∃ K, Ps.kd L' = K := ⟨_, rfl⟩
      have k11 : (K == 11) = false := by rw [beq_eq_false_iff_ne, ← hK]; exact h11
      obtain ⟨C, hC⟩ : ∃ C, Td.checkN x = C := ⟨_, rfl⟩
      have HPF0 : Hid (patF (.ok x L' f' g') = if C = 0 then (some x, 0, 0) else (none, 0, C)) := Lib.hid (by unfold patF; dsimp only; rw [if_neg h11, hC])
      rw [hK] at HK
      rw [hC] at HCK
      clear hK hC h11
      refine HK.out.mono ?_
      rintro e w4 ⟨rfl, rfl⟩
      obtain ⟨y0, y1, y2, y3, y4, y5, y6, y7, z0, z1, z2, z3, z4, z5, z6, z7⟩ := box_facts HN3.out
      go_wp2_with fail
      refine HCK.out.mono ?_
      rintro e w5 ⟨rfl, hb5⟩
      have hn5 := box_gr HN3.out (below_grown (n := 0) hb5 (some B)) (by omega)
      have ha5 := box_gr HA3.out (below_grown (n := 0) hb5 (some B)) (by omega)
      have he5 := box_gr HE3.out (below_grown (n := 0) hb5 (some B)) (by omega)
      have hs5 := hb5.size
      have HG5 := Lib.hid (grown_trans HG3.out (below_grown (n := 0) hb5 (some B)))
      have HX5 := Lib.hid (HX3.out.to (W' := w5) hb5.size (fun b _ hlt => hb5.block b hlt))
      by_cases h0 : C = 0
      · have HPF : Hid (patF (.ok x L' f' g') = (some x, 0, 0)) := Lib.hid (by rw [HPF0.out, if_pos h0])
        subst h0
        clear hb5
        obtain ⟨b0, b1, b2, b3, b4, b5, b6, b7, c0, c1, c2, c3, c4, c5, c6, c7⟩ := box_facts hn5
        have pa : w5.cell? ⟨nb + 1, 0, none⟩ = some (.int .i64 0) := by simp [World.cell?, ha5]
        have pe : w5.cell? ⟨nb + 1 + 1, 0, none⟩ = some (.int .i64 0) := by simp [World.cell?, he5]
        have pa2 : w5.frozen? ⟨nb + 1, 0, none⟩ = false := by simp [World.frozen?, ha5]
        have pe2 : w5.frozen? ⟨nb + 1 + 1, 0, none⟩ = false := by simp [World.frozen?, he5]
        have HN5 := Lib.hid hn5
        have HA5 := Lib.hid ha5
        have HE5 := Lib.hid he5
        clear hn5 ha5 he5
        go_wp2
        obtain ⟨w6, hw6⟩ : ∃ w6, (((((((w5.setCell ⟨nb, 0, none⟩ (.int .i64 (Td.kind x))).setCell ⟨nb, 1, none⟩ (.slice sa (Td.set x).length sc)).setCell ⟨nb, 2, none⟩ (.int .i64 (Td.num x))).setCell ⟨nb, 3, none⟩ (.string (Td.name x))).setCell ⟨nb, 4, none⟩ (.int .i64 (Td.mn x))).setCell ⟨nb, 5, none⟩ (.int .i64 (Td.mx x))).setCell ⟨nb, 6, none⟩ (.bool (Td.lazy x))).setCell ⟨nb, 7, none⟩ (.slice ia (Td.subs x).length ic) = w6 := ⟨_, rfl⟩
        have hn6 : w6.heap[nb]? = some (.cells #[.int .i64 (Td.kind x), .slice sa (Td.set x).length sc, .int .i64 (Td.num x), .string (Td.name x), .int .i64 (Td.mn x), .int .i64 (Td.mx x), .bool (Td.lazy x), .slice ia (Td.subs x).length ic] 26 (0, 0)) := by rw [← hw6]; exact set8_blk _ _ _ _ _ _ _ _ _ _ HN5.out
        have ho6 : ∀ b, b ≠ nb → w6.heap[b]? = w5.heap[b]? := fun b hb => by rw [← hw6]; exact set8_other _ _ _ _ _ _ _ _ _ _ b hb
        have hg6 : W.grownBy w6 (some B) := by rw [← hw6]; exact set8_grown HG5.out nb (by omega) _ _ _ _ _ _ _ _
        have hz6 : w6.heap.size = w5.heap.size := by rw [← hw6]; exact set8_size _ _ _ _ _ _ _ _ _ _
        rw [hw6]
        have ha6 := (ho6 (nb + 1) (by omega)).trans HA5.out
        have he6 := (ho6 (nb + 1 + 1) (by omega)).trans HE5.out
        obtain ⟨w7, hw7⟩ : ∃ w7, (w6.setCell ⟨nb + 1, 0, none⟩ (.int .i64 0)).setCell ⟨nb + 1 + 1, 0, none⟩ (.int .i64 0) = w7 := ⟨_, rfl⟩
        have hne1 : nb ≠ nb + 1 + 1 := by omega
        have hne2 : nb ≠ nb + 1 := by omega
        have hne3 : nb + 1 ≠ nb + 1 + 1 := by omega
        have hn7 : w7.heap[nb]? = some (.cells #[.int .i64 (Td.kind x), .slice sa (Td.set x).length sc, .int .i64 (Td.num x), .string (Td.name x), .int .i64 (Td.mn x), .int .i64 (Td.mx x), .bool (Td.lazy x), .slice ia (Td.subs x).length ic] 26 (0, 0)) := by
          rw [← hw7]; exact (heap_setCell_other _ ⟨nb + 1 + 1, 0, none⟩ nb _ hne1).trans ((heap_setCell_other _ ⟨nb + 1, 0, none⟩ nb _ hne2).trans hn6)
        have ha7 : w7.heap[nb + 1]? = some (.cells #[.int .i64 0] 3 (0, 0)) := by
          rw [← hw7]
          refine (heap_setCell_other _ ⟨nb + 1 + 1, 0, none⟩ (nb + 1) _ hne3).trans ?_
          have h9 := heap_setCell_same w6 (nb + 1) 0 _ _ (.int .i64 0) ha6
          simpa using h9
        have he7 : w7.heap[nb + 1 + 1]? = some (.cells #[.int .i64 0] 27 (0, 0)) := by
          rw [← hw7]
          have h8 := (heap_setCell_other w6 ⟨nb + 1, 0, none⟩ (nb + 1 + 1) (.int .i64 0) (fun e => hne3 e.symm)).trans he6
          have h9 := heap_setCell_same _ (nb + 1 + 1) 0 _ _ (.int .i64 0) h8
          simpa using h9
        have ho7 : ∀ b, b ≠ nb + 1 → b ≠ nb + 1 + 1 → w7.heap[b]? = w6.heap[b]? := fun b h1 h2 => by
          rw [← hw7]; exact (heap_setCell_other _ ⟨nb + 1 + 1, 0, none⟩ b _ h2).trans (heap_setCell_other _ ⟨nb + 1, 0, none⟩ b _ h1)
        have hg7 : W.grownBy w7 (some B) := by rw [← hw7]; exact grown_set (grown_set hg6 _ _ (.inl (by show W.heap.size ≤ nb + 1; omega))) _ _ (.inl (by show W.heap.size ≤ nb + 1 + 1; omega))
        have hz7 : w7.heap.size = w5.heap.size := by rw [← hw7]; simp [hz6]
        have hx7 := HX5.out.to (W' := w7) (by omega) (fun b hb hlt => (ho7 b (by rcases hb with h | h <;> omega) (by rcases hb with h | h <;> omega)).trans (ho6 b (by rcases hb with h | h <;> omega)))
        rw [hw7]
        clear hw6 hn6 ho6 hg6 hz6 ha6 he6 hw7 ho7 b0 b1 b2 b3 b4 b5 b6 b7 c0 c1 c2 c3 c4 c5 c6 c7 pa pe pa2 pe2
        refine leaves_cons (f := 17) (args := #[.pointer (some ⟨nb, 0, none⟩), .pointer (some ⟨nb + 1, 0, none⟩), .pointer (some ⟨nb + 1 + 1, 0, none⟩)]) (by simp) (by simp [go_sem]) ?_
        refine (catch_idle nb (nb + 1) (nb + 1 + 1) _).mono ?_
        rintro e u' w9 ⟨rfl, rfl, hb9⟩
        have hn9 := box_gr hn7 (below_grown (n := 0) hb9 (some B)) (by omega)
        have ha9 := box_gr ha7 (below_grown (n := 0) hb9 (some B)) (by omega)
        have he9 := box_gr he7 (below_grown (n := 0) hb9 (some B)) (by omega)
        obtain ⟨q0, q1, q2, q3, q4, q5, q6, q7, _⟩ := box_facts hn9
        have qa : w9.cell? ⟨nb + 1, 0, none⟩ = some (.int .i64 0) := by simp [World.cell?, ha9]
        have qe : w9.cell? ⟨nb + 1 + 1, 0, none⟩ = some (.int .i64 0) := by simp [World.cell?, he9]
        have HFIN : Hid (PatQ lo B (patF (.ok x L' f' g')) W (.returned (.tuple #[.agg #[.int .i64 (Td.kind x), .slice sa (Td.set x).length sc, .int .i64 (Td.num x), .string (Td.name x), .int .i64 (Td.mn x), .int .i64 (Td.mx x), .bool (Td.lazy x), .slice ia (Td.subs x).length ic], .int .i64 0, .int .i64 0])) w9) :=
          Lib.hid (by rw [HPF.out]; exact ⟨[.int .i64 (Td.kind x), .slice sa (Td.set x).length sc, .int .i64 (Td.num x), .string (Td.name x), .int .i64 (Td.mn x), .int .i64 (Td.mx x), .bool (Td.lazy x), .slice ia (Td.subs x).length ic], rfl, (NdOn.kept hb9.size (fun b _ hlt => hb9.block b hlt) hx7).mono (fun b hb => by rcases hb.1 with h | h <;> omega), grown_trans hg7 (below_grown (n := 0) hb9 (some B))⟩)
        clear hn9 ha9 he9 hb9 hn7 ha7 he7 hg7 hx7
        simp [Leaves, settle, results, Tryz.f10, go_sem, q0, q1, q2, q3, q4, q5, q6, q7, qa, qe]
        exact HFIN.out
      · have HPF : Hid (patF (.ok x L' f' g') = (none, 0, C)) := Lib.hid (by rw [HPF0.out, if_neg h0])
        have k0 : (C != 0) = true := by simpa using h0
        clear hb5 h0
        go_wp2_with fail
        refine (fail_any _ _ _).mono ?_
        rintro e w6 ⟨rfl, hb6⟩
        have hn6 := box_gr hn5 (below_grown (n := 0) hb6 (some B)) (by omega)
        have ha6 := box_gr ha5 (below_grown (n := 0) hb6 (some B)) (by omega)
        have he6 := box_gr he5 (below_grown (n := 0) hb6 (some B)) (by omega)
        have hs6 := hb6.size
        have HG6 := Lib.hid (grown_trans HG5.out (below_grown (n := 0) hb6 (some B)))
        clear hb6
        refine leaves_cons (f := 17) (args := #[.pointer (some ⟨nb, 0, none⟩), .pointer (some ⟨nb + 1, 0, none⟩), .pointer (some ⟨nb + 1 + 1, 0, none⟩)]) (by simp) (by simp [go_sem]) ?_
        refine (catch_failure nb (nb + 1) (nb + 1 + 1) nb _ 0 C [] hn6 ha6 he6 (by omega) (by omega)).mono ?_
        rintro e u' w9 ⟨rfl, rfl, hn9, ha9, he9, hb9⟩
        obtain ⟨q0, q1, q2, q3, q4, q5, q6, q7, _⟩ := box_facts hn9
        have qa : w9.cell? ⟨nb + 1, 0, none⟩ = some (.int .i64 (0)) := by simp [World.cell?, ha9]
        have qe : w9.cell? ⟨nb + 1 + 1, 0, none⟩ = some (.int .i64 (C)) := by simp [World.cell?, he9]
        have HFIN : Hid (PatQ lo B (patF (.ok x L' f' g')) W (.returned (.tuple #[.agg #[.int .i64 0, .slice none 0 0, .int .i64 0, .string ⟨#[]⟩, .int .i64 0, .int .i64 0, .bool false, .slice none 0 0], .int .i64 (0), .int .i64 (C)])) w9) :=
          Lib.hid (by rw [HPF.out]; exact ⟨_, rfl, nd_zero w9, grown_belowP HG6.out hb9 (by rw [HNB.out]; exact Nat.le_refl _)⟩)
        clear hn9 ha9 he9 hb9
        simp [Leaves, settle, results, Tryz.f10, go_sem, q0, q1, q2, q3, q4, q5, q6, q7, qa, qe]
        exact HFIN.out
end Go.Proofs.YtanffablfgnioaaGreatDoor
namespace Go.Proofs
open Go.Shelf
def Tryz.layIndexAny_ren : Go.Shelf.Ren := ⟨fun | 153 => 88 | 152 => 118 | 226 => 119 | 227 => 120 | 228 => 121 | 137 => 154 | 119 => 155 | 224 => 156 | 225 => 157 | 217 => 158 | 266 => 184 | n => n, fun | 9 => 9 | 3 => 3 | 4 => 4 | 5 => 5 | 21 => 21 | 117 => 151 | 116 => 150 | 0 => 0 | 46 => 107 | 124 => 155 | n => n, fun | n => n⟩
theorem Tryz.layIndexAny : Go.Proofs.Lays.n153 Tryz.prog Tryz.layIndexAny_ren := {
  mixed := by kernel_rfl
  f119 := Tryz.func155.trans (congrArg some (by kernel_rfl))
  f137 := Tryz.func154.trans (congrArg some (by kernel_rfl))
  f152 := Tryz.func118.trans (congrArg some (by kernel_rfl))
  f153 := Tryz.func88.trans (congrArg some (by kernel_rfl))
  f217 := Tryz.func158.trans (congrArg some (by kernel_rfl))
  f224 := Tryz.func156.trans (congrArg some (by kernel_rfl))
  f225 := Tryz.func157.trans (congrArg some (by kernel_rfl))
  f226 := Tryz.func119.trans (congrArg some (by kernel_rfl))
  f227 := Tryz.func120.trans (congrArg some (by kernel_rfl))
  f228 := Tryz.func121.trans (congrArg some (by kernel_rfl))
  f266 := Tryz.func184.trans (congrArg some (by kernel_rfl))
  t0 := Tryz.underlying0
  a0 := Tryz.isAgg0
  z0 := Tryz.sizeOf0
  v0 := Tryz.zeroValue0
  t3 := Tryz.underlying3
  a3 := Tryz.isAgg3
  z3 := Tryz.sizeOf3
  v3 := Tryz.zeroValue3
  t4 := Tryz.underlying4
  a4 := Tryz.isAgg4
  z4 := Tryz.sizeOf4
  v4 := Tryz.zeroValue4
  t5 := Tryz.underlying5
  a5 := Tryz.isAgg5
  z5 := Tryz.sizeOf5
  v5 := Tryz.zeroValue5
  t9 := Tryz.underlying9
  a9 := Tryz.isAgg9
  z9 := Tryz.sizeOf9
  v9 := Tryz.zeroValue9
  t21 := Tryz.underlying21
  a21 := Tryz.isAgg21
  z21 := Tryz.sizeOf21
  v21 := Tryz.zeroValue21
  t46 := Tryz.underlying107
  a46 := Tryz.isAgg107
  z46 := Tryz.sizeOf107
  v46 := Tryz.zeroValue107
  t116 := Tryz.underlying150
  a116 := Tryz.isAgg150
  z116 := Tryz.sizeOf150
  t117 := Tryz.underlying151
  a117 := Tryz.isAgg151
  z117 := Tryz.sizeOf151
  v117 := Tryz.zeroValue151
  t124 := Tryz.underlying155
  a124 := Tryz.isAgg155
  z124 := Tryz.sizeOf155
  v124 := Tryz.zeroValue155 }
def Tryz.layTrim_ren : Go.Shelf.Ren := ⟨fun | 160 => 91 | 232 => 125 | 231 => 124 | 227 => 120 | 234 => 127 | 233 => 126 | 236 => 129 | 235 => 128 | 228 => 121 | 271 => 162 | 151 => 161 | 197 => 160 | 120 => 187 | 152 => 118 | 260 => 186 | 137 => 154 | 119 => 155 | 224 => 156 | 225 => 157 | 217 => 158 | 266 => 184 | n => n, fun | 9 => 9 | 4 => 4 | 3 => 3 | 5 => 5 | 117 => 151 | 116 => 150 | 0 => 0 | 124 => 155 | 21 => 21 | 105 => 180 | 46 => 107 | 119 => 213 | 139 => 230 | 138 => 229 | n => n, fun | 3 => 5 | 4 => 6 | n => n⟩
theorem Tryz.layTrim : Go.Proofs.Lays.n160 Tryz.prog Tryz.layTrim_ren := {
  mixed := by kernel_rfl
  f119 := Tryz.func155.trans (congrArg some (by kernel_rfl))
  f120 := Tryz.func187.trans (congrArg some (by kernel_rfl))
  f137 := Tryz.func154.trans (congrArg some (by kernel_rfl))
  f151 := Tryz.func161.trans (congrArg some (by kernel_rfl))
  f152 := Tryz.func118.trans (congrArg some (by kernel_rfl))
  f160 := Tryz.func91.trans (congrArg some (by kernel_rfl))
  f197 := Tryz.func160.trans (congrArg some (by kernel_rfl))
  f217 := Tryz.func158.trans (congrArg some (by kernel_rfl))
  f224 := Tryz.func156.trans (congrArg some (by kernel_rfl))
  f225 := Tryz.func157.trans (congrArg some (by kernel_rfl))
  f227 := Tryz.func120.trans (congrArg some (by kernel_rfl))
  f228 := Tryz.func121.trans (congrArg some (by kernel_rfl))
  f231 := Tryz.func124.trans (congrArg some (by kernel_rfl))
  f232 := Tryz.func125.trans (congrArg some (by kernel_rfl))
  f233 := Tryz.func126.trans (congrArg some (by kernel_rfl))
  f234 := Tryz.func127.trans (congrArg some (by kernel_rfl))
  f235 := Tryz.func128.trans (congrArg some (by kernel_rfl))
  f236 := Tryz.func129.trans (congrArg some (by kernel_rfl))
  f260 := Tryz.func186.trans (congrArg some (by kernel_rfl))
  f266 := Tryz.func184.trans (congrArg some (by kernel_rfl))
  f271 := Tryz.func162.trans (congrArg some (by kernel_rfl))
  t0 := Tryz.underlying0
  a0 := Tryz.isAgg0
  z0 := Tryz.sizeOf0
  v0 := Tryz.zeroValue0
  t3 := Tryz.underlying3
  a3 := Tryz.isAgg3
  z3 := Tryz.sizeOf3
  v3 := Tryz.zeroValue3
  t4 := Tryz.underlying4
  a4 := Tryz.isAgg4
  z4 := Tryz.sizeOf4
  v4 := Tryz.zeroValue4
  t5 := Tryz.underlying5
  a5 := Tryz.isAgg5
  z5 := Tryz.sizeOf5
  v5 := Tryz.zeroValue5
  t9 := Tryz.underlying9
  a9 := Tryz.isAgg9
  z9 := Tryz.sizeOf9
  v9 := Tryz.zeroValue9
  t21 := Tryz.underlying21
  a21 := Tryz.isAgg21
  z21 := Tryz.sizeOf21
  v21 := Tryz.zeroValue21
  t46 := Tryz.underlying107
  a46 := Tryz.isAgg107
  z46 := Tryz.sizeOf107
  v46 := Tryz.zeroValue107
  t105 := Tryz.underlying180
  a105 := Tryz.isAgg180
  z105 := Tryz.sizeOf180
  v105 := Tryz.zeroValue180
  t116 := Tryz.underlying150
  a116 := Tryz.isAgg150
  z116 := Tryz.sizeOf150
  t117 := Tryz.underlying151
  a117 := Tryz.isAgg151
  z117 := Tryz.sizeOf151
  v117 := Tryz.zeroValue151
  t119 := Tryz.underlying213
  a119 := Tryz.isAgg213
  z119 := Tryz.sizeOf213
  t124 := Tryz.underlying155
  a124 := Tryz.isAgg155
  z124 := Tryz.sizeOf155
  v124 := Tryz.zeroValue155
  t138 := Tryz.underlying229
  a138 := Tryz.isAgg229
  z138 := Tryz.sizeOf229
  v138 := Tryz.zeroValue229
  t139 := Tryz.underlying230
  a139 := Tryz.isAgg230
  z139 := Tryz.sizeOf230
  v139 := Tryz.zeroValue230
  g3 := by kernel_rfl
  g4 := by kernel_rfl }
def Tryz.layAtoi_ren : Go.Shelf.Ren := ⟨fun | 172 => 92 | 244 => 130 | 245 => 131 | 247 => 163 | 279 => 164 | 280 => 165 | 281 => 166 | 282 => 167 | 287 => 188 | 316 => 189 | 171 => 102 | 205 => 190 | 321 => 215 | 322 => 216 | 243 => 136 | 246 => 100 | 283 => 132 | 284 => 133 | 285 => 134 | 286 => 135 | 129 => 169 | 317 => 168 | 318 => 170 | 319 => 171 | 320 => 172 | 337 => 191 | 338 => 192 | n => n, fun | 9 => 9 | 3 => 3 | 75 => 132 | 76 => 133 | 4 => 4 | 5 => 5 | 167 => 183 | 37 => 44 | 0 => 0 | 85 => 184 | 2 => 2 | 168 => 186 | 53 => 158 | 175 => 207 | 46 => 107 | 210 => 210 | 127 => 232 | 145 => 235 | 143 => 233 | 21 => 21 | 171 => 157 | 173 => 161 | 212 => 190 | 51 => 191 | 20 => 20 | 213 => 192 | 232 => 236 | 233 => 237 | 80 => 267 | n => n, fun | 15 => 2 | 16 => 3 | 17 => 1 | 18 => 7 | 19 => 8 | n => n⟩
theorem Tryz.layAtoi : Go.Proofs.Lays.n172 Tryz.prog Tryz.layAtoi_ren := {
  mixed := by kernel_rfl
  f129 := Tryz.func169.trans (congrArg some (by kernel_rfl))
  f171 := Tryz.func102.trans (congrArg some (by kernel_rfl))
  f172 := Tryz.func92.trans (congrArg some (by kernel_rfl))
  f205 := Tryz.func190.trans (congrArg some (by kernel_rfl))
  f243 := Tryz.func136.trans (congrArg some (by kernel_rfl))
  f244 := Tryz.func130.trans (congrArg some (by kernel_rfl))
  f245 := Tryz.func131.trans (congrArg some (by kernel_rfl))
  f246 := Tryz.func100.trans (congrArg some (by kernel_rfl))
  f247 := Tryz.func163.trans (congrArg some (by kernel_rfl))
  f279 := Tryz.func164.trans (congrArg some (by kernel_rfl))
  f280 := Tryz.func165.trans (congrArg some (by kernel_rfl))
  f281 := Tryz.func166.trans (congrArg some (by kernel_rfl))
  f282 := Tryz.func167.trans (congrArg some (by kernel_rfl))
  f283 := Tryz.func132.trans (congrArg some (by kernel_rfl))
  f284 := Tryz.func133.trans (congrArg some (by kernel_rfl))
  f285 := Tryz.func134.trans (congrArg some (by kernel_rfl))
  f286 := Tryz.func135.trans (congrArg some (by kernel_rfl))
  f287 := Tryz.func188.trans (congrArg some (by kernel_rfl))
  f316 := Tryz.func189.trans (congrArg some (by kernel_rfl))
  f317 := Tryz.func168.trans (congrArg some (by kernel_rfl))
  f318 := Tryz.func170.trans (congrArg some (by kernel_rfl))
  f319 := Tryz.func171.trans (congrArg some (by kernel_rfl))
  f320 := Tryz.func172.trans (congrArg some (by kernel_rfl))
  f321 := Tryz.func215.trans (congrArg some (by kernel_rfl))
  f322 := Tryz.func216.trans (congrArg some (by kernel_rfl))
  f337 := Tryz.func191.trans (congrArg some (by kernel_rfl))
  f338 := Tryz.func192.trans (congrArg some (by kernel_rfl))
  t0 := Tryz.underlying0
  a0 := Tryz.isAgg0
  z0 := Tryz.sizeOf0
  v0 := Tryz.zeroValue0
  t2 := Tryz.underlying2
  a2 := Tryz.isAgg2
  z2 := Tryz.sizeOf2
  v2 := Tryz.zeroValue2
  t3 := Tryz.underlying3
  a3 := Tryz.isAgg3
  z3 := Tryz.sizeOf3
  v3 := Tryz.zeroValue3
  t4 := Tryz.underlying4
  a4 := Tryz.isAgg4
  z4 := Tryz.sizeOf4
  v4 := Tryz.zeroValue4
  t5 := Tryz.underlying5
  a5 := Tryz.isAgg5
  z5 := Tryz.sizeOf5
  v5 := Tryz.zeroValue5
  t9 := Tryz.underlying9
  a9 := Tryz.isAgg9
  z9 := Tryz.sizeOf9
  v9 := Tryz.zeroValue9
  t20 := Tryz.underlying20
  a20 := Tryz.isAgg20
  z20 := Tryz.sizeOf20
  v20 := Tryz.zeroValue20
  t21 := Tryz.underlying21
  a21 := Tryz.isAgg21
  z21 := Tryz.sizeOf21
  v21 := Tryz.zeroValue21
  t37 := Tryz.underlying44
  a37 := Tryz.isAgg44
  z37 := Tryz.sizeOf44
  v37 := Tryz.zeroValue44
  t46 := Tryz.underlying107
  a46 := Tryz.isAgg107
  z46 := Tryz.sizeOf107
  v46 := Tryz.zeroValue107
  t51 := Tryz.underlying191
  a51 := Tryz.isAgg191
  z51 := Tryz.sizeOf191
  v51 := Tryz.zeroValue191
  t53 := Tryz.underlying158
  a53 := Tryz.isAgg158
  z53 := Tryz.sizeOf158
  v53 := Tryz.zeroValue158
  t75 := Tryz.underlying132
  a75 := Tryz.isAgg132
  z75 := Tryz.sizeOf132
  v75 := Tryz.zeroValue132
  t76 := Tryz.underlying133
  a76 := Tryz.isAgg133
  z76 := Tryz.sizeOf133
  v76 := Tryz.zeroValue133
  t85 := Tryz.underlying184
  a85 := Tryz.isAgg184
  z85 := Tryz.sizeOf184
  v85 := Tryz.zeroValue184
  t127 := Tryz.underlying232
  a127 := Tryz.isAgg232
  z127 := Tryz.sizeOf232
  v127 := Tryz.zeroValue232
  t143 := Tryz.underlying233
  a143 := Tryz.isAgg233
  z143 := Tryz.sizeOf233
  v143 := Tryz.zeroValue233
  t145 := Tryz.underlying235
  a145 := Tryz.isAgg235
  z145 := Tryz.sizeOf235
  v145 := Tryz.zeroValue235
  t167 := Tryz.underlying183
  a167 := Tryz.isAgg183
  z167 := Tryz.sizeOf183
  v167 := Tryz.zeroValue183
  t168 := Tryz.underlying186
  a168 := Tryz.isAgg186
  z168 := Tryz.sizeOf186
  v168 := Tryz.zeroValue186
  t171 := Tryz.underlying157
  a171 := Tryz.isAgg157
  z171 := Tryz.sizeOf157
  v171 := Tryz.zeroValue157
  t173 := Tryz.underlying161
  a173 := Tryz.isAgg161
  z173 := Tryz.sizeOf161
  v173 := Tryz.zeroValue161
  t175 := Tryz.underlying207
  a175 := Tryz.isAgg207
  z175 := Tryz.sizeOf207
  v175 := Tryz.zeroValue207
  t210 := Tryz.underlying210
  a210 := Tryz.isAgg210
  z210 := Tryz.sizeOf210
  v210 := Tryz.zeroValue210
  t212 := Tryz.underlying190
  a212 := Tryz.isAgg190
  z212 := Tryz.sizeOf190
  v212 := Tryz.zeroValue190
  t213 := Tryz.underlying192
  a213 := Tryz.isAgg192
  z213 := Tryz.sizeOf192
  t232 := Tryz.underlying236
  a232 := Tryz.isAgg236
  z232 := Tryz.sizeOf236
  v232 := Tryz.zeroValue236
  t233 := Tryz.underlying237
  a233 := Tryz.isAgg237
  z233 := Tryz.sizeOf237
  v233 := Tryz.zeroValue237
  g15 := by kernel_rfl
  g16 := by kernel_rfl
  g17 := by kernel_rfl
  g18 := by kernel_rfl
  g19 := by kernel_rfl }
def Tryz.layIdxByte_ren : Go.Shelf.Ren := ⟨fun | 137 => 154 | 217 => 158 | 266 => 184 | n => n, fun | 9 => 9 | 5 => 5 | 3 => 3 | n => n, fun | n => n⟩
theorem Tryz.layIdxByte : Go.Proofs.Lays.n137 Tryz.prog Tryz.layIdxByte_ren := {
  mixed := by kernel_rfl
  f137 := Tryz.func154.trans (congrArg some (by kernel_rfl))
  f217 := Tryz.func158.trans (congrArg some (by kernel_rfl))
  f266 := Tryz.func184.trans (congrArg some (by kernel_rfl))
  t3 := Tryz.underlying3
  a3 := Tryz.isAgg3
  z3 := Tryz.sizeOf3
  v3 := Tryz.zeroValue3
  t5 := Tryz.underlying5
  a5 := Tryz.isAgg5
  z5 := Tryz.sizeOf5
  v5 := Tryz.zeroValue5
  t9 := Tryz.underlying9
  a9 := Tryz.isAgg9
  z9 := Tryz.sizeOf9
  v9 := Tryz.zeroValue9 }
end Go.Proofs
