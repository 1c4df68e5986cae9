/- The landed parse: pattern. · Functions of the library: the library's contracts, laid over this translation. · The landed lex: bracket expressions; a number of one to four digits. -/
import Derived.Test.YtecmeeobabadeaaGreatDoorGp32
import Derived.Test.YtecmeeobabadeaaGreatDoorGp17
import Derived.Shelf.Strings.IndexAnyAll
import Derived.Shelf.Strings.SlTrimAscii
import Derived.Shelf.Strconv.Atoi
import Derived.Shelf.Small.Strs
import Derived.Test.YtecmeeobabadeaaGreatDoorProg
import Derived.Test.YtecmeeobabadeaaGreatDoorGp29
import Derived.Lib.AtoiErrMem
namespace Go.Proofs.YtecmeeobabadeaaGreatDoor
open Go.RowKit
open Lx (Tk)
open Ps (TL)
set_option linter.unusedVariables false
/-- What a pattern's tokens are parsed as: a tree, or an error with its place. -/
noncomputable def patF (R : Ps.PR) : Option Nd × Int × Int :=
  match R with
  | .bad a c => (none, a, c)
  | .ok x L' _ _ => if Ps.kd L' = 11 then (none, Ps.pl L', 90) else if Td.checkN x = 0 then (some x, 0, 0) else (none, 0, Td.checkN x)
def PatQ (lo B : Nat) (X : Option Nd × Int × Int) (W : World) (e : Ending) (w' : World) : Prop :=
  ∃ cs, e = .returned (.tuple #[.agg cs.toArray, .int .i64 X.2.1, .int .i64 X.2.2]) ∧ NdOn (fun b => lo ≤ b) w' (X.1.getD (Ps.leafN 0 0)) cs ∧ W.grownBy w' (some B)
theorem nd_zero {S : Nat → Prop} (w : World) : NdOn S w (Ps.leafN 0 0) [.int .i64 0, .slice none 0 0, .int .i64 0, .string ⟨#[]⟩, .int .i64 0, .int .i64 0, .bool false, .slice none 0 0] :=
  .mk (fun _ => []) ⟨i64_lit _ (by decide), i64_lit _ (by decide), i64_lit _ (by decide), i64_lit _ (by decide)⟩ RRowOn.nil (by decide) (by decide) (fun j hj => absurd hj (by simp)) (fun j hj => absurd hj (by simp))
set_option maxRecDepth 100000 in
set_option maxHeartbeats 8000000 in
theorem pattern_any (W0 : World) {W : World} {lo B P0 : Nat} {v : Value} {L : TL} {f g : Int} (h : PSt lo W B P0 v L f g) (hE : PEv W0 B W) (hlo : lo ≤ W.heap.size) : Calls Tryz.prog 16 #[.pointer (some ⟨B, 0, none⟩)] W (PatQ lo B (patF (Ps.altP (3 * L.length + 3) L f g [])) W) := by
  have hmf : ∀ (fn : Fn) (first cap : Array Value) (w : World), (Instr.makeFunc fn first cap).run Tryz.prog w = .ok (.func fn first cap) w := fun _ _ _ _ => rfl
  obtain ⟨R, hR⟩ : ∃ R, Ps.altP (3 * L.length + 3) L f g [] = R := ⟨_, rfl⟩
  have hszx := (Ps.sz_all (3 * L.length + 3)).1 L f g [] 0 (fun k => by simp [Ps.szL])
  rw [hR] at hszx ⊢
  obtain ⟨w1, hw1⟩ : ∃ w1, ((W.alloc (.cells #[.int .i64 0, .slice none 0 0, .int .i64 0, .string ⟨#[]⟩, .int .i64 0, .int .i64 0, .bool false, .slice none 0 0] 26)).alloc (.cells #[.int .i64 0] 3)).alloc (.cells #[.int .i64 0] 27) = w1 := ⟨_, rfl⟩
  obtain ⟨nb, hnb⟩ : ∃ nb, W.heap.size = nb := ⟨_, rfl⟩
  have hb1 : Below W.heap.size W w1 := by rw [← hw1]; exact (((Below.refl _ _).alloc (Nat.le_refl _) _).alloc (by simp) _).alloc (by simp; omega) _
  have hn1 : w1.heap[nb]? = some (.cells #[.int .i64 0, .slice none 0 0, .int .i64 0, .string ⟨#[]⟩, .int .i64 0, .int .i64 0, .bool false, .slice none 0 0] 26 (0, 0)) := by rw [← hw1, ← hnb]; exact heap_alloc_oldp (heap_alloc_oldp (heap_alloc_new _ _))
  have ha1 : w1.heap[nb + 1]? = some (.cells #[.int .i64 0] 3 (0, 0)) := by rw [← hw1, ← hnb]; exact heap_alloc_oldp (heap_alloc_new' _ _ _ (by simp))
  have he1 : w1.heap[nb + 1 + 1]? = some (.cells #[.int .i64 0] 27 (0, 0)) := by rw [← hw1, ← hnb]; exact heap_alloc_new' _ _ _ (by simp)
  have HAL := Lib.hid (altOK W0 L.length w1 lo B P0 v L f g (3 * L.length + 3) (Nat.le_refl _) (Nat.le_refl _) (h.below hb1) (hE.grown (below_grown (n := 0) hb1 _)))
  rw [hR] at HAL
  have hB := h.hB
  have hP := h.hP
  have hLen := h.len
  have HE := Lib.hid hE
  have HB1 := Lib.hid hb1
  have HN1 := Lib.hid hn1
  have HA1 := Lib.hid ha1
  have HE1 := Lib.hid he1
  have HW1 := Lib.hid hw1
  have HNB := Lib.hid hnb
  have HSX := Lib.hid hszx
  have hnB : B < nb := by omega
  clear h hE hb1 hn1 ha1 he1 hw1 hnb hszx hR
  go_enter_defers Tryz.func16, Tryz.ntmps16
  go_wp2_with fail
  rw [HW1.out, HNB.out]
  refine HAL.out.mono ?_
  rintro e w2 ⟨hg2, h2⟩
  have hn2 := box_gr HN1.out hg2 (by omega)
  have ha2 := box_gr HA1.out hg2 (by omega)
  have he2 := box_gr HE1.out hg2 (by omega)
  have HG2 := Lib.hid (grown_trans (below_grown (n := 0) HB1.out (some B)) hg2)
  have HG12 := Lib.hid hg2
  rcases h2 with ⟨ba, bc, rfl, rfl⟩ | ⟨x, L', f', g', cs, v', rfl, rfl, hx, hps2⟩
  · have hs2 : nb ≤ w2.heap.size := by have := (Array.getElem?_eq_some_iff.1 hn2).1; omega
    refine leaves_cons (f := 33) (args := #[.pointer (some ⟨nb, 0, none⟩), .pointer (some ⟨nb + 1, 0, none⟩), .pointer (some ⟨nb + 1 + 1, 0, none⟩)]) (by simp) (by simp [go_sem]) ?_
    refine (catch_failure nb (nb + 1) (nb + 1 + 1) nb w2 ba bc [] hn2 ha2 he2 (by omega) (by omega)).mono ?_
    rintro e u' w3 ⟨rfl, rfl, hn3, ha3, he3, hb3⟩
    obtain ⟨q0, q1, q2, q3, q4, q5, q6, q7, _⟩ := box_facts hn3
    have qa : w3.cell? ⟨nb + 1, 0, none⟩ = some (.int .i64 ba) := by simp [World.cell?, ha3]
    have qe : w3.cell? ⟨nb + 1 + 1, 0, none⟩ = some (.int .i64 bc) := by simp [World.cell?, he3]
    have HFIN : Hid (PatQ lo B (patF (.bad ba bc)) W (.returned (.tuple #[.agg #[.int .i64 0, .slice none 0 0, .int .i64 0, .string ⟨#[]⟩, .int .i64 0, .int .i64 0, .bool false, .slice none 0 0], .int .i64 ba, .int .i64 bc])) w3) :=
      Lib.hid ⟨_, rfl, nd_zero w3, grown_belowP HG2.out hb3 (by rw [HNB.out]; exact Nat.le_refl _)⟩
    clear hn3 ha3 he3 hb3
    simp [Leaves, settle, results, Tryz.f16, go_sem, q0, q1, q2, q3, q4, q5, q6, q7, qa, qe]
    exact HFIN.out
  · obtain ⟨u0, u1, u2, u3, u4, u5, u6, u7, sa, sc, ia, ic, hcs, F⟩ := hx.is.form_of
    subst hcs
    obtain ⟨rfl, rfl, rfl, rfl, rfl, rfl, rfl, rfl⟩ := F
    obtain ⟨d0, d1, d2, d3, d4, d5, d6, d7, g0, g1, g2, g3, g4, g5, g6, g7⟩ := box_facts hn2
    obtain ⟨w3, hw3⟩ : ∃ w3, (((((((w2.setCell ⟨nb, 0, none⟩ (.int .i64 (Td.kind x))).setCell ⟨nb, 1, none⟩ (.slice sa (Td.set x).length sc)).setCell ⟨nb, 2, none⟩ (.int .i64 (Td.num x))).setCell ⟨nb, 3, none⟩ (.string (Td.name x))).setCell ⟨nb, 4, none⟩ (.int .i64 (Td.mn x))).setCell ⟨nb, 5, none⟩ (.int .i64 (Td.mx x))).setCell ⟨nb, 6, none⟩ (.bool (Td.lazy x))).setCell ⟨nb, 7, none⟩ (.slice ia (Td.subs x).length ic) = w3 := ⟨_, rfl⟩
    have hn3 : w3.heap[nb]? = some (.cells #[.int .i64 (Td.kind x), .slice sa (Td.set x).length sc, .int .i64 (Td.num x), .string (Td.name x), .int .i64 (Td.mn x), .int .i64 (Td.mx x), .bool (Td.lazy x), .slice ia (Td.subs x).length ic] 26 (0, 0)) := by rw [← hw3]; exact set8_blk _ _ _ _ _ _ _ _ _ _ hn2
    have ho3 : ∀ b, b ≠ nb → w3.heap[b]? = w2.heap[b]? := fun b hb => by rw [← hw3]; exact set8_other _ _ _ _ _ _ _ _ _ _ b hb
    have hs3 : w3.heap.size = w2.heap.size := by rw [← hw3]; exact set8_size _ _ _ _ _ _ _ _ _ _
    have hg3 : W.grownBy w3 (some B) := by rw [← hw3]; exact set8_grown HG2.out nb (by rw [HNB.out]; exact Nat.le_refl _) _ _ _ _ _ _ _ _
    have ha3 := (ho3 (nb + 1) (by omega)).trans ha2
    have he3 := (ho3 (nb + 1 + 1) (by omega)).trans he2
    have hs2 : nb + 3 ≤ w3.heap.size := by have := (Array.getElem?_eq_some_iff.1 he3).1; omega
    have hsw1 : nb + 3 ≤ w1.heap.size := by have := (Array.getElem?_eq_some_iff.1 HE1.out).1; omega
    have hW := HNB.out
    have hps3 : PSt lo w3 B P0 v' L' f' g' := hps2.other (by omega) (fun b hb => ho3 b (by omega))
    have hx3 := hx.to (W' := w3) (by omega) (fun b hb hlt => ho3 b (by rcases hb with h | h <;> omega))
    have hlen : (Td.all 1000 1 x).length ≤ 1000000 := by
      rw [Ps.all_sz]
      have := HSX.out x L' f' g' rfl 1000
      omega
    have HN3 := Lib.hid hn3
    have HA3 := Lib.hid ha3
    have HE3 := Lib.hid he3
    have HG3 := Lib.hid hg3
    have HW3 := Lib.hid hw3
    have HX3 := Lib.hid hx3
    have HK := Lib.hid (kind_any hps3)
    have HAT := Lib.hid (at_any hps3)
    have HCK := Lib.hid (callsIn_wide.1 (check_in 3 (by omega) w3 x _ hx3.is hlen))
    clear hn2 ha2 he2 hx hps2 hg2 hw3 hn3 ho3 hs3 hg3 ha3 he3 hps3 hx3 hlen
    go_wp2_with fail
    rw [HW3.out]
    by_cases h11 : Ps.kd L' = 11
    · have HPF : Hid (patF (.ok x L' f' g') = (none, Ps.pl L', 90)) := Lib.hid (by unfold patF; dsimp only; rw [if_pos h11])
      rw [h11] at HK
      clear h11
      refine HK.out.mono ?_
      rintro e w4 ⟨rfl, rfl⟩
      go_wp2_with fail
      refine HAT.out.mono ?_
      rintro e w4 ⟨rfl, rfl⟩
      go_wp2_with fail
      refine (fail_any _ _ _).mono ?_
      rintro e w5 ⟨rfl, hb5⟩
      have hn5 := box_gr HN3.out (below_grown (n := 0) hb5 (some B)) (by omega)
      have ha5 := box_gr HA3.out (below_grown (n := 0) hb5 (some B)) (by omega)
      have he5 := box_gr HE3.out (below_grown (n := 0) hb5 (some B)) (by omega)
      have hs5 := hb5.size
      have HG5 := Lib.hid (grown_trans HG3.out (below_grown (n := 0) hb5 (some B)))
      clear hb5
      refine leaves_cons (f := 33) (args := #[.pointer (some ⟨nb, 0, none⟩), .pointer (some ⟨nb + 1, 0, none⟩), .pointer (some ⟨nb + 1 + 1, 0, none⟩)]) (by simp) (by simp [go_sem]) ?_
      refine (catch_failure nb (nb + 1) (nb + 1 + 1) nb _ (Ps.pl L') 90 [] hn5 ha5 he5 (by omega) (by omega)).mono ?_
      rintro e u' w9 ⟨rfl, rfl, hn9, ha9, he9, hb9⟩
      obtain ⟨q0, q1, q2, q3, q4, q5, q6, q7, _⟩ := box_facts hn9
      have qa : w9.cell? ⟨nb + 1, 0, none⟩ = some (.int .i64 (Ps.pl L')) := by simp [World.cell?, ha9]
      have qe : w9.cell? ⟨nb + 1 + 1, 0, none⟩ = some (.int .i64 (90)) := by simp [World.cell?, he9]
      have HFIN : Hid (PatQ lo B (patF (.ok x L' f' g')) W (.returned (.tuple #[.agg #[.int .i64 0, .slice none 0 0, .int .i64 0, .string ⟨#[]⟩, .int .i64 0, .int .i64 0, .bool false, .slice none 0 0], .int .i64 (Ps.pl L'), .int .i64 (90)])) w9) :=
        Lib.hid (by rw [HPF.out]; exact ⟨_, rfl, nd_zero w9, grown_belowP HG5.out hb9 (by rw [HNB.out]; exact Nat.le_refl _)⟩)
      clear hn9 ha9 he9 hb9
      simp [Leaves, settle, results, Tryz.f16, go_sem, q0, q1, q2, q3, q4, q5, q6, q7, qa, qe]
      exact HFIN.out
    · obtain ⟨K, hK⟩ : ∃ K, Ps.kd L' = K := ⟨_, rfl⟩
      have k11 : (K == 11) = false := by rw [beq_eq_false_iff_ne, ← hK]; exact h11
      obtain ⟨C, hC⟩ : ∃ C, Td.checkN x = C := ⟨_, rfl⟩
      have HPF0 : Hid (patF (.ok x L' f' g') = if C = 0 then (some x, 0, 0) else (none, 0, C)) := Lib.hid (by unfold patF; dsimp only; rw [if_neg h11, hC])
      rw [hK] at HK
      rw [hC] at HCK
      clear hK hC h11
      refine HK.out.mono ?_
      rintro e w4 ⟨rfl, rfl⟩
      obtain ⟨y0, y1, y2, y3, y4, y5, y6, y7, z0, z1, z2, z3, z4, z5, z6, z7⟩ := box_facts HN3.out
      go_wp2_with fail
      refine HCK.out.mono ?_
      rintro e w5 ⟨rfl, hb5⟩
      have hn5 := box_gr HN3.out (below_grown (n := 0) hb5 (some B)) (by omega)
      have ha5 := box_gr HA3.out (below_grown (n := 0) hb5 (some B)) (by omega)
      have he5 := box_gr HE3.out (below_grown (n := 0) hb5 (some B)) (by omega)
      have hs5 := hb5.size
      have HG5 := Lib.hid (grown_trans HG3.out (below_grown (n := 0) hb5 (some B)))
      have HX5 := Lib.hid (HX3.out.to (W' := w5) hb5.size (fun b _ hlt => hb5.block b hlt))
      by_cases h0 : C = 0
      · have HPF : Hid (patF (.ok x L' f' g') = (some x, 0, 0)) := Lib.hid (by rw [HPF0.out, if_pos h0])
        subst h0
        clear hb5
        obtain ⟨b0, b1, b2, b3, b4, b5, b6, b7, c0, c1, c2, c3, c4, c5, c6, c7⟩ := box_facts hn5
        have pa : w5.cell? ⟨nb + 1, 0, none⟩ = some (.int .i64 0) := by simp [World.cell?, ha5]
        have pe : w5.cell? ⟨nb + 1 + 1, 0, none⟩ = some (.int .i64 0) := by simp [World.cell?, he5]
        have pa2 : w5.frozen? ⟨nb + 1, 0, none⟩ = false := by simp [World.frozen?, ha5]
        have pe2 : w5.frozen? ⟨nb + 1 + 1, 0, none⟩ = false := by simp [World.frozen?, he5]
        have HN5 := Lib.hid hn5
        have HA5 := Lib.hid ha5
        have HE5 := Lib.hid he5
        clear hn5 ha5 he5
        go_wp2
        obtain ⟨w6, hw6⟩ : ∃ w6, (((((((w5.setCell ⟨nb, 0, none⟩ (.int .i64 (Td.kind x))).setCell ⟨nb, 1, none⟩ (.slice sa (Td.set x).length sc)).setCell ⟨nb, 2, none⟩ (.int .i64 (Td.num x))).setCell ⟨nb, 3, none⟩ (.string (Td.name x))).setCell ⟨nb, 4, none⟩ (.int .i64 (Td.mn x))).setCell ⟨nb, 5, none⟩ (.int .i64 (Td.mx x))).setCell ⟨nb, 6, none⟩ (.bool (Td.lazy x))).setCell ⟨nb, 7, none⟩ (.slice ia (Td.subs x).length ic) = w6 := ⟨_, rfl⟩
        have hn6 : w6.heap[nb]? = some (.cells #[.int .i64 (Td.kind x), .slice sa (Td.set x).length sc, .int .i64 (Td.num x), .string (Td.name x), .int .i64 (Td.mn x), .int .i64 (Td.mx x), .bool (Td.lazy x), .slice ia (Td.subs x).length ic] 26 (0, 0)) := by rw [← hw6]; exact set8_blk _ _ _ _ _ _ _ _ _ _ HN5.out
        have ho6 : ∀ b, b ≠ nb → w6.heap[b]? = w5.heap[b]? := fun b hb => by rw [← hw6]; exact set8_other _ _ _ _ _ _ _ _ _ _ b hb
        have hg6 : W.grownBy w6 (some B) := by rw [← hw6]; exact set8_grown HG5.out nb (by omega) _ _ _ _ _ _ _ _
        have hz6 : w6.heap.size = w5.heap.size := by rw [← hw6]; exact set8_size _ _ _ _ _ _ _ _ _ _
        rw [hw6]
        have ha6 := (ho6 (nb + 1) (by omega)).trans HA5.out
        have he6 := (ho6 (nb + 1 + 1) (by omega)).trans HE5.out
        obtain ⟨w7, hw7⟩ : ∃ w7, (w6.setCell ⟨nb + 1, 0, none⟩ (.int .i64 0)).setCell ⟨nb + 1 + 1, 0, none⟩ (.int .i64 0) = w7 := ⟨_, rfl⟩
        have hne1 : nb ≠ nb + 1 + 1 := by omega
        have hne2 : nb ≠ nb + 1 := by omega
        have hne3 : nb + 1 ≠ nb + 1 + 1 := by omega
        have hn7 : w7.heap[nb]? = some (.cells #[.int .i64 (Td.kind x), .slice sa (Td.set x).length sc, .int .i64 (Td.num x), .string (Td.name x), .int .i64 (Td.mn x), .int .i64 (Td.mx x), .bool (Td.lazy x), .slice ia (Td.subs x).length ic] 26 (0, 0)) := by
          rw [← hw7]; exact (heap_setCell_other _ ⟨nb + 1 + 1, 0, none⟩ nb _ hne1).trans ((heap_setCell_other _ ⟨nb + 1, 0, none⟩ nb _ hne2).trans hn6)
        have ha7 : w7.heap[nb + 1]? = some (.cells #[.int .i64 0] 3 (0, 0)) := by
          rw [← hw7]
          refine (heap_setCell_other _ ⟨nb + 1 + 1, 0, none⟩ (nb + 1) _ hne3).trans ?_
          have h9 := heap_setCell_same w6 (nb + 1) 0 _ _ (.int .i64 0) ha6
          simpa using h9
        have he7 : w7.heap[nb + 1 + 1]? = some (.cells #[.int .i64 0] 27 (0, 0)) := by
          rw [← hw7]
          have h8 := (heap_setCell_other w6 ⟨nb + 1, 0, none⟩ (nb + 1 + 1) (.int .i64 0) (fun e => hne3 e.symm)).trans he6
          have h9 := heap_setCell_same _ (nb + 1 + 1) 0 _ _ (.int .i64 0) h8
          simpa using h9
        have ho7 : ∀ b, b ≠ nb + 1 → b ≠ nb + 1 + 1 → w7.heap[b]? = w6.heap[b]? := fun b h1 h2 => by
          rw [← hw7]; exact (heap_setCell_other _ ⟨nb + 1 + 1, 0, none⟩ b _ h2).trans (heap_setCell_other _ ⟨nb + 1, 0, none⟩ b _ h1)
        have hg7 : W.grownBy w7 (some B) := by rw [← hw7]; exact grown_set (grown_set hg6 _ _ (.inl (by show W.heap.size ≤ nb + 1; omega))) _ _ (.inl (by show W.heap.size ≤ nb + 1 + 1; omega))
        have hz7 : w7.heap.size = w5.heap.size := by rw [← hw7]; simp [hz6]
        have hx7 := HX5.out.to (W' := w7) (by omega) (fun b hb hlt => (ho7 b (by rcases hb with h | h <;> omega) (by rcases hb with h | h <;> omega)).trans (ho6 b (by rcases hb with h | h <;> omega)))
        rw [hw7]
        clear hw6 hn6 ho6 hg6 hz6 ha6 he6 hw7 ho7 b0 b1 b2 b3 b4 b5 b6 b7 c0 c1 c2 c3 c4 c5 c6 c7 pa pe pa2 pe2
        refine leaves_cons (f := 33) (args := #[.pointer (some ⟨nb, 0, none⟩), .pointer (some ⟨nb + 1, 0, none⟩), .pointer (some ⟨nb + 1 + 1, 0, none⟩)]) (by simp) (by simp [go_sem]) ?_
        refine (catch_idle nb (nb + 1) (nb + 1 + 1) _).mono ?_
        rintro e u' w9 ⟨rfl, rfl, hb9⟩
        have hn9 := box_gr hn7 (below_grown (n := 0) hb9 (some B)) (by omega)
        have ha9 := box_gr ha7 (below_grown (n := 0) hb9 (some B)) (by omega)
        have he9 := box_gr he7 (below_grown (n := 0) hb9 (some B)) (by omega)
        obtain ⟨q0, q1, q2, q3, q4, q5, q6, q7, _⟩ := box_facts hn9
        have qa : w9.cell? ⟨nb + 1, 0, none⟩ = some (.int .i64 0) := by simp [World.cell?, ha9]
        have qe : w9.cell? ⟨nb + 1 + 1, 0, none⟩ = some (.int .i64 0) := by simp [World.cell?, he9]
        have HFIN : Hid (PatQ lo B (patF (.ok x L' f' g')) W (.returned (.tuple #[.agg #[.int .i64 (Td.kind x), .slice sa (Td.set x).length sc, .int .i64 (Td.num x), .string (Td.name x), .int .i64 (Td.mn x), .int .i64 (Td.mx x), .bool (Td.lazy x), .slice ia (Td.subs x).length ic], .int .i64 0, .int .i64 0])) w9) :=
          Lib.hid (by rw [HPF.out]; exact ⟨[.int .i64 (Td.kind x), .slice sa (Td.set x).length sc, .int .i64 (Td.num x), .string (Td.name x), .int .i64 (Td.mn x), .int .i64 (Td.mx x), .bool (Td.lazy x), .slice ia (Td.subs x).length ic], rfl, (NdOn.kept hb9.size (fun b _ hlt => hb9.block b hlt) hx7).mono (fun b hb => by rcases hb.1 with h | h <;> omega), grown_trans hg7 (below_grown (n := 0) hb9 (some B))⟩)
        clear hn9 ha9 he9 hb9 hn7 ha7 he7 hg7 hx7
        simp [Leaves, settle, results, Tryz.f16, go_sem, q0, q1, q2, q3, q4, q5, q6, q7, qa, qe]
        exact HFIN.out
      · have HPF : Hid (patF (.ok x L' f' g') = (none, 0, C)) := Lib.hid (by rw [HPF0.out, if_neg h0])
        have k0 : (C != 0) = true := by simpa using h0
        clear hb5 h0
        go_wp2_with fail
        refine (fail_any _ _ _).mono ?_
        rintro e w6 ⟨rfl, hb6⟩
        have hn6 := box_gr hn5 (below_grown (n := 0) hb6 (some B)) (by omega)
        have ha6 := box_gr ha5 (below_grown (n := 0) hb6 (some B)) (by omega)
        have he6 := box_gr he5 (below_grown (n := 0) hb6 (some B)) (by omega)
        have hs6 := hb6.size
        have HG6 := Lib.hid (grown_trans HG5.out (below_grown (n := 0) hb6 (some B)))
        clear hb6
        refine leaves_cons (f := 33) (args := #[.pointer (some ⟨nb, 0, none⟩), .pointer (some ⟨nb + 1, 0, none⟩), .pointer (some ⟨nb + 1 + 1, 0, none⟩)]) (by simp) (by simp [go_sem]) ?_
        refine (catch_failure nb (nb + 1) (nb + 1 + 1) nb _ 0 C [] hn6 ha6 he6 (by omega) (by omega)).mono ?_
        rintro e u' w9 ⟨rfl, rfl, hn9, ha9, he9, hb9⟩
        obtain ⟨q0, q1, q2, q3, q4, q5, q6, q7, _⟩ := box_facts hn9
        have qa : w9.cell? ⟨nb + 1, 0, none⟩ = some (.int .i64 (0)) := by simp [World.cell?, ha9]
        have qe : w9.cell? ⟨nb + 1 + 1, 0, none⟩ = some (.int .i64 (C)) := by simp [World.cell?, he9]
        have HFIN : Hid (PatQ lo B (patF (.ok x L' f' g')) W (.returned (.tuple #[.agg #[.int .i64 0, .slice none 0 0, .int .i64 0, .string ⟨#[]⟩, .int .i64 0, .int .i64 0, .bool false, .slice none 0 0], .int .i64 (0), .int .i64 (C)])) w9) :=
          Lib.hid (by rw [HPF.out]; exact ⟨_, rfl, nd_zero w9, grown_belowP HG6.out hb9 (by rw [HNB.out]; exact Nat.le_refl _)⟩)
        clear hn9 ha9 he9 hb9
        simp [Leaves, settle, results, Tryz.f16, go_sem, q0, q1, q2, q3, q4, q5, q6, q7, qa, qe]
        exact HFIN.out
end Go.Proofs.YtecmeeobabadeaaGreatDoor
namespace Go.Proofs
open Go.Shelf
def Tryz.layIndexAny_ren : Go.Shelf.Ren := ⟨fun | 153 => 136 | 152 => 179 | 226 => 180 | 227 => 181 | 228 => 182 | 137 => 218 | 119 => 219 | 224 => 220 | 225 => 221 | 217 => 222 | 266 => 253 | n => n, fun | 9 => 9 | 3 => 3 | 4 => 4 | 5 => 5 | 21 => 21 | 117 => 183 | 116 => 182 | 0 => 0 | 46 => 129 | 124 => 187 | n => n, fun | n => n⟩
theorem Tryz.layIndexAny : Go.Proofs.Lays.n153 Tryz.prog Tryz.layIndexAny_ren := {
  mixed := by kernel_rfl
  f119 := Tryz.func219.trans (congrArg some (by kernel_rfl))
  f137 := Tryz.func218.trans (congrArg some (by kernel_rfl))
  f152 := Tryz.func179.trans (congrArg some (by kernel_rfl))
  f153 := Tryz.func136.trans (congrArg some (by kernel_rfl))
  f217 := Tryz.func222.trans (congrArg some (by kernel_rfl))
  f224 := Tryz.func220.trans (congrArg some (by kernel_rfl))
  f225 := Tryz.func221.trans (congrArg some (by kernel_rfl))
  f226 := Tryz.func180.trans (congrArg some (by kernel_rfl))
  f227 := Tryz.func181.trans (congrArg some (by kernel_rfl))
  f228 := Tryz.func182.trans (congrArg some (by kernel_rfl))
  f266 := Tryz.func253.trans (congrArg some (by kernel_rfl))
  t0 := Tryz.underlying0
  a0 := Tryz.isAgg0
  z0 := Tryz.sizeOf0
  v0 := Tryz.zeroValue0
  t3 := Tryz.underlying3
  a3 := Tryz.isAgg3
  z3 := Tryz.sizeOf3
  v3 := Tryz.zeroValue3
  t4 := Tryz.underlying4
  a4 := Tryz.isAgg4
  z4 := Tryz.sizeOf4
  v4 := Tryz.zeroValue4
  t5 := Tryz.underlying5
  a5 := Tryz.isAgg5
  z5 := Tryz.sizeOf5
  v5 := Tryz.zeroValue5
  t9 := Tryz.underlying9
  a9 := Tryz.isAgg9
  z9 := Tryz.sizeOf9
  v9 := Tryz.zeroValue9
  t21 := Tryz.underlying21
  a21 := Tryz.isAgg21
  z21 := Tryz.sizeOf21
  v21 := Tryz.zeroValue21
  t46 := Tryz.underlying129
  a46 := Tryz.isAgg129
  z46 := Tryz.sizeOf129
  v46 := Tryz.zeroValue129
  t116 := Tryz.underlying182
  a116 := Tryz.isAgg182
  z116 := Tryz.sizeOf182
  t117 := Tryz.underlying183
  a117 := Tryz.isAgg183
  z117 := Tryz.sizeOf183
  v117 := Tryz.zeroValue183
  t124 := Tryz.underlying187
  a124 := Tryz.isAgg187
  z124 := Tryz.sizeOf187
  v124 := Tryz.zeroValue187 }
def Tryz.layTrim_ren : Go.Shelf.Ren := ⟨fun | 160 => 139 | 232 => 186 | 231 => 185 | 227 => 181 | 234 => 188 | 233 => 187 | 236 => 190 | 235 => 189 | 228 => 182 | 271 => 226 | 151 => 225 | 197 => 224 | 120 => 256 | 152 => 179 | 260 => 255 | 137 => 218 | 119 => 219 | 224 => 220 | 225 => 221 | 217 => 222 | 266 => 253 | n => n, fun | 9 => 9 | 4 => 4 | 3 => 3 | 5 => 5 | 117 => 183 | 116 => 182 | 0 => 0 | 124 => 187 | 21 => 21 | 105 => 213 | 46 => 129 | 119 => 244 | 139 => 261 | 138 => 260 | n => n, fun | 3 => 5 | 4 => 6 | n => n⟩
theorem Tryz.layTrim : Go.Proofs.Lays.n160 Tryz.prog Tryz.layTrim_ren := {
  mixed := by kernel_rfl
  f119 := Tryz.func219.trans (congrArg some (by kernel_rfl))
  f120 := Tryz.func256.trans (congrArg some (by kernel_rfl))
  f137 := Tryz.func218.trans (congrArg some (by kernel_rfl))
  f151 := Tryz.func225.trans (congrArg some (by kernel_rfl))
  f152 := Tryz.func179.trans (congrArg some (by kernel_rfl))
  f160 := Tryz.func139.trans (congrArg some (by kernel_rfl))
  f197 := Tryz.func224.trans (congrArg some (by kernel_rfl))
  f217 := Tryz.func222.trans (congrArg some (by kernel_rfl))
  f224 := Tryz.func220.trans (congrArg some (by kernel_rfl))
  f225 := Tryz.func221.trans (congrArg some (by kernel_rfl))
  f227 := Tryz.func181.trans (congrArg some (by kernel_rfl))
  f228 := Tryz.func182.trans (congrArg some (by kernel_rfl))
  f231 := Tryz.func185.trans (congrArg some (by kernel_rfl))
  f232 := Tryz.func186.trans (congrArg some (by kernel_rfl))
  f233 := Tryz.func187.trans (congrArg some (by kernel_rfl))
  f234 := Tryz.func188.trans (congrArg some (by kernel_rfl))
  f235 := Tryz.func189.trans (congrArg some (by kernel_rfl))
  f236 := Tryz.func190.trans (congrArg some (by kernel_rfl))
  f260 := Tryz.func255.trans (congrArg some (by kernel_rfl))
  f266 := Tryz.func253.trans (congrArg some (by kernel_rfl))
  f271 := Tryz.func226.trans (congrArg some (by kernel_rfl))
  t0 := Tryz.underlying0
  a0 := Tryz.isAgg0
  z0 := Tryz.sizeOf0
  v0 := Tryz.zeroValue0
  t3 := Tryz.underlying3
  a3 := Tryz.isAgg3
  z3 := Tryz.sizeOf3
  v3 := Tryz.zeroValue3
  t4 := Tryz.underlying4
  a4 := Tryz.isAgg4
  z4 := Tryz.sizeOf4
  v4 := Tryz.zeroValue4
  t5 := Tryz.underlying5
  a5 := Tryz.isAgg5
  z5 := Tryz.sizeOf5
  v5 := Tryz.zeroValue5
  t9 := Tryz.underlying9
  a9 := Tryz.isAgg9
  z9 := Tryz.sizeOf9
  v9 := Tryz.zeroValue9
  t21 := Tryz.underlying21
  a21 := Tryz.isAgg21
  z21 := Tryz.sizeOf21
  v21 := Tryz.zeroValue21
  t46 := Tryz.underlying129
  a46 := Tryz.isAgg129
  z46 := Tryz.sizeOf129
  v46 := Tryz.zeroValue129
  t105 := Tryz.underlying213
  a105 := Tryz.isAgg213
  z105 := Tryz.sizeOf213
  v105 := Tryz.zeroValue213
  t116 := Tryz.underlying182
  a116 := Tryz.isAgg182
  z116 := Tryz.sizeOf182
  t117 := Tryz.underlying183
  a117 := Tryz.isAgg183
  z117 := Tryz.sizeOf183
  v117 := Tryz.zeroValue183
  t119 := Tryz.underlying244
  a119 := Tryz.isAgg244
  z119 := Tryz.sizeOf244
  t124 := Tryz.underlying187
  a124 := Tryz.isAgg187
  z124 := Tryz.sizeOf187
  v124 := Tryz.zeroValue187
  t138 := Tryz.underlying260
  a138 := Tryz.isAgg260
  z138 := Tryz.sizeOf260
  v138 := Tryz.zeroValue260
  t139 := Tryz.underlying261
  a139 := Tryz.isAgg261
  z139 := Tryz.sizeOf261
  v139 := Tryz.zeroValue261
  g3 := by kernel_rfl
  g4 := by kernel_rfl }
def Tryz.layAtoi_ren : Go.Shelf.Ren := ⟨fun | 172 => 140 | 244 => 191 | 245 => 192 | 247 => 227 | 279 => 228 | 280 => 229 | 281 => 230 | 282 => 231 | 287 => 257 | 316 => 258 | 171 => 163 | 205 => 259 | 321 => 284 | 322 => 285 | 243 => 200 | 246 => 161 | 283 => 196 | 284 => 197 | 285 => 198 | 286 => 199 | 129 => 238 | 317 => 237 | 318 => 239 | 319 => 240 | 320 => 241 | 337 => 260 | 338 => 261 | n => n, fun | 9 => 9 | 3 => 3 | 75 => 161 | 76 => 162 | 4 => 4 | 5 => 5 | 167 => 216 | 37 => 54 | 0 => 0 | 85 => 217 | 2 => 2 | 168 => 219 | 53 => 191 | 175 => 238 | 46 => 129 | 210 => 241 | 127 => 263 | 145 => 266 | 143 => 264 | 21 => 21 | 171 => 190 | 173 => 194 | 212 => 223 | 51 => 224 | 20 => 20 | 213 => 225 | 232 => 267 | 233 => 268 | 80 => 298 | n => n, fun | 15 => 2 | 16 => 3 | 17 => 1 | 18 => 7 | 19 => 8 | n => n⟩
theorem Tryz.layAtoi : Go.Proofs.Lays.n172 Tryz.prog Tryz.layAtoi_ren := {
  mixed := by kernel_rfl
  f129 := Tryz.func238.trans (congrArg some (by kernel_rfl))
  f171 := Tryz.func163.trans (congrArg some (by kernel_rfl))
  f172 := Tryz.func140.trans (congrArg some (by kernel_rfl))
  f205 := Tryz.func259.trans (congrArg some (by kernel_rfl))
  f243 := Tryz.func200.trans (congrArg some (by kernel_rfl))
  f244 := Tryz.func191.trans (congrArg some (by kernel_rfl))
  f245 := Tryz.func192.trans (congrArg some (by kernel_rfl))
  f246 := Tryz.func161.trans (congrArg some (by kernel_rfl))
  f247 := Tryz.func227.trans (congrArg some (by kernel_rfl))
  f279 := Tryz.func228.trans (congrArg some (by kernel_rfl))
  f280 := Tryz.func229.trans (congrArg some (by kernel_rfl))
  f281 := Tryz.func230.trans (congrArg some (by kernel_rfl))
  f282 := Tryz.func231.trans (congrArg some (by kernel_rfl))
  f283 := Tryz.func196.trans (congrArg some (by kernel_rfl))
  f284 := Tryz.func197.trans (congrArg some (by kernel_rfl))
  f285 := Tryz.func198.trans (congrArg some (by kernel_rfl))
  f286 := Tryz.func199.trans (congrArg some (by kernel_rfl))
  f287 := Tryz.func257.trans (congrArg some (by kernel_rfl))
  f316 := Tryz.func258.trans (congrArg some (by kernel_rfl))
  f317 := Tryz.func237.trans (congrArg some (by kernel_rfl))
  f318 := Tryz.func239.trans (congrArg some (by kernel_rfl))
  f319 := Tryz.func240.trans (congrArg some (by kernel_rfl))
  f320 := Tryz.func241.trans (congrArg some (by kernel_rfl))
  f321 := Tryz.func284.trans (congrArg some (by kernel_rfl))
  f322 := Tryz.func285.trans (congrArg some (by kernel_rfl))
  f337 := Tryz.func260.trans (congrArg some (by kernel_rfl))
  f338 := Tryz.func261.trans (congrArg some (by kernel_rfl))
  t0 := Tryz.underlying0
  a0 := Tryz.isAgg0
  z0 := Tryz.sizeOf0
  v0 := Tryz.zeroValue0
  t2 := Tryz.underlying2
  a2 := Tryz.isAgg2
  z2 := Tryz.sizeOf2
  v2 := Tryz.zeroValue2
  t3 := Tryz.underlying3
  a3 := Tryz.isAgg3
  z3 := Tryz.sizeOf3
  v3 := Tryz.zeroValue3
  t4 := Tryz.underlying4
  a4 := Tryz.isAgg4
  z4 := Tryz.sizeOf4
  v4 := Tryz.zeroValue4
  t5 := Tryz.underlying5
  a5 := Tryz.isAgg5
  z5 := Tryz.sizeOf5
  v5 := Tryz.zeroValue5
  t9 := Tryz.underlying9
  a9 := Tryz.isAgg9
  z9 := Tryz.sizeOf9
  v9 := Tryz.zeroValue9
  t20 := Tryz.underlying20
  a20 := Tryz.isAgg20
  z20 := Tryz.sizeOf20
  v20 := Tryz.zeroValue20
  t21 := Tryz.underlying21
  a21 := Tryz.isAgg21
  z21 := Tryz.sizeOf21
  v21 := Tryz.zeroValue21
  t37 := Tryz.underlying54
  a37 := Tryz.isAgg54
  z37 := Tryz.sizeOf54
  v37 := Tryz.zeroValue54
  t46 := Tryz.underlying129
  a46 := Tryz.isAgg129
  z46 := Tryz.sizeOf129
  v46 := Tryz.zeroValue129
  t51 := Tryz.underlying224
  a51 := Tryz.isAgg224
  z51 := Tryz.sizeOf224
  v51 := Tryz.zeroValue224
  t53 := Tryz.underlying191
  a53 := Tryz.isAgg191
  z53 := Tryz.sizeOf191
  v53 := Tryz.zeroValue191
  t75 := Tryz.underlying161
  a75 := Tryz.isAgg161
  z75 := Tryz.sizeOf161
  v75 := Tryz.zeroValue161
  t76 := Tryz.underlying162
  a76 := Tryz.isAgg162
  z76 := Tryz.sizeOf162
  v76 := Tryz.zeroValue162
  t85 := Tryz.underlying217
  a85 := Tryz.isAgg217
  z85 := Tryz.sizeOf217
  v85 := Tryz.zeroValue217
  t127 := Tryz.underlying263
  a127 := Tryz.isAgg263
  z127 := Tryz.sizeOf263
  v127 := Tryz.zeroValue263
  t143 := Tryz.underlying264
  a143 := Tryz.isAgg264
  z143 := Tryz.sizeOf264
  v143 := Tryz.zeroValue264
  t145 := Tryz.underlying266
  a145 := Tryz.isAgg266
  z145 := Tryz.sizeOf266
  v145 := Tryz.zeroValue266
  t167 := Tryz.underlying216
  a167 := Tryz.isAgg216
  z167 := Tryz.sizeOf216
  v167 := Tryz.zeroValue216
  t168 := Tryz.underlying219
  a168 := Tryz.isAgg219
  z168 := Tryz.sizeOf219
  v168 := Tryz.zeroValue219
  t171 := Tryz.underlying190
  a171 := Tryz.isAgg190
  z171 := Tryz.sizeOf190
  v171 := Tryz.zeroValue190
  t173 := Tryz.underlying194
  a173 := Tryz.isAgg194
  z173 := Tryz.sizeOf194
  v173 := Tryz.zeroValue194
  t175 := Tryz.underlying238
  a175 := Tryz.isAgg238
  z175 := Tryz.sizeOf238
  v175 := Tryz.zeroValue238
  t210 := Tryz.underlying241
  a210 := Tryz.isAgg241
  z210 := Tryz.sizeOf241
  v210 := Tryz.zeroValue241
  t212 := Tryz.underlying223
  a212 := Tryz.isAgg223
  z212 := Tryz.sizeOf223
  v212 := Tryz.zeroValue223
  t213 := Tryz.underlying225
  a213 := Tryz.isAgg225
  z213 := Tryz.sizeOf225
  t232 := Tryz.underlying267
  a232 := Tryz.isAgg267
  z232 := Tryz.sizeOf267
  v232 := Tryz.zeroValue267
  t233 := Tryz.underlying268
  a233 := Tryz.isAgg268
  z233 := Tryz.sizeOf268
  v233 := Tryz.zeroValue268
  g15 := by kernel_rfl
  g16 := by kernel_rfl
  g17 := by kernel_rfl
  g18 := by kernel_rfl
  g19 := by kernel_rfl }
def Tryz.layIdxByte_ren : Go.Shelf.Ren := ⟨fun | 137 => 218 | 217 => 222 | 266 => 253 | n => n, fun | 9 => 9 | 5 => 5 | 3 => 3 | n => n, fun | n => n⟩
theorem Tryz.layIdxByte : Go.Proofs.Lays.n137 Tryz.prog Tryz.layIdxByte_ren := {
  mixed := by kernel_rfl
  f137 := Tryz.func218.trans (congrArg some (by kernel_rfl))
  f217 := Tryz.func222.trans (congrArg some (by kernel_rfl))
  f266 := Tryz.func253.trans (congrArg some (by kernel_rfl))
  t3 := Tryz.underlying3
  a3 := Tryz.isAgg3
  z3 := Tryz.sizeOf3
  v3 := Tryz.zeroValue3
  t5 := Tryz.underlying5
  a5 := Tryz.isAgg5
  z5 := Tryz.sizeOf5
  v5 := Tryz.zeroValue5
  t9 := Tryz.underlying9
  a9 := Tryz.isAgg9
  z9 := Tryz.sizeOf9
  v9 := Tryz.zeroValue9 }
end Go.Proofs
namespace Go.Proofs.YtecmeeobabadeaaGreatDoor
open Go.RowKit
open Lx (Tk TR)
set_option linter.unusedVariables false
set_option maxRecDepth 100000 in
set_option maxHeartbeats 4000000 in
theorem brackets_any (W : World) (s : ByteArray) (hs : s.size ≤ 4096) (hE : Ev W) : Calls Tryz.prog 59 #[.string s] W (TokPost (Lx.brackX s) W) := by
  have HE := Lib.hid hE
  clear hE
  go_enter Tryz.func59, Tryz.ntmps59
  go_wp2_with fail
  refine (brk_any _ s hs 0 false rfl (HE.out.below (Nat.le_refl _) ((Below.refl _ W).alloc (Nat.le_refl _) _))).mono ?_
  intro e w1 hp
  rcases hp with ⟨hb1, ⟨o, c, hx, rfl⟩ | ⟨Xs, at_, v, out, hx, rfl, hi, ho⟩⟩
  · have HX : Hid (Lx.brackX s = .bad o c) := Lib.hid (by unfold Lx.brackX; rw [hx])
    have hc0 : (c != 0) = true := by simpa using (Br.brack_bad hx).2.2
    have HBX := Lib.hid (box_kept hb1)
    have HB1 := Lib.hid (below_of_alloc hb1)
    obtain ⟨d0, d1, d2, d3, d4, d5, d6, d7, g0, g1, g2, g3, g4, g5, g6, g7⟩ := box_facts HBX.out
    clear hx hb1
    go_wp2
    (try simp only [Exit.inBlock, Exit.then])
    refine ret_tk rfl W.heap.size _ rfl (set8_blk _ _ _ _ _ _ _ _ _ _ HBX.out) rfl rfl ?_
    exact ⟨set8_below HB1.out _ (Nat.le_refl _) _ _ _ _ _ _ _ _, .inl ⟨0, _, _, HX.out, rfl⟩⟩
  · have HX : Hid (Lx.brackX s = .ok { kind := 13, name := s.extract 0 (at_ + 1) } (at_ + 1)) := Lib.hid (by unfold Lx.brackX; rw [hx])
    have hcl := Br.brack_close hx
    have HBX := Lib.hid (box_kept hb1)
    have HB1 := Lib.hid (below_of_alloc hb1)
    obtain ⟨d0, d1, d2, d3, d4, d5, d6, d7, g0, g1, g2, g3, g4, g5, g6, g7⟩ := box_facts HBX.out
    obtain ⟨n, hn⟩ : ∃ n, at_ + 1 = n := ⟨_, rfl⟩
    rw [hn] at HX ⊢
    have hni : (n : Int) ≤ (s.size : Int) := by omega
    have hn0 : (0 : Int) ≤ (n : Int) := by omega
    clear hx hb1 hi ho hcl hn
    go_wp2
    (try simp only [Exit.inBlock, Exit.then])
    refine ret_tk rfl W.heap.size _ rfl (set8_blk _ _ _ _ _ _ _ _ _ _ HBX.out) rfl rfl ?_
    exact tokPost_plain (set8_below HB1.out _ (Nat.le_refl _) _ _ _ _ _ _ _ _) HX.out rfl rfl
def digs10 : ByteArray := ⟨#[48, 49, 50, 51, 52, 53, 54, 55, 56, 57]⟩
theorem digs10_is (b : UInt8) : digs10.data.toList.contains b = Lx.decB (b.toNat : Int) := by
  have h : ∀ n : Fin 256, digs10.data.toList.contains (UInt8.ofNat n.val) = Lx.decB ((UInt8.ofNat n.val).toNat : Int) := by decide +kernel
  have := h ⟨b.toNat, UInt8.toNat_lt b⟩
  simpa using this
theorem all10 (l : List UInt8) : (l.map (fun b => (b.toNat : Int))).all Lx.decB = true ↔ ∀ x ∈ l, digs10.data.toList.contains x = true := by
  simp only [List.all_eq_true, List.mem_map, forall_exists_index, and_imp, forall_apply_eq_imp_iff₂, digs10_is]
theorem dropW_nil (p : UInt8 → Bool) : ∀ l : List UInt8, l.dropWhile p = [] ↔ ∀ x ∈ l, p x = true
  | [] => by simp
  | a :: l => by
    rw [List.dropWhile_cons]
    by_cases h : p a = true
    · rw [if_pos h, dropW_nil p l]; simp [h]
    · rw [if_neg h]; simp [h]
theorem trim10 (l : List UInt8) : (Lib.trimS l digs10.data.toList = []) ↔ (l.map (fun b => (b.toNat : Int))).all Lx.decB = true := by
  rw [all10]
  unfold Lib.trimS Lib.trimLeftS Lib.trimRightS
  rw [dropW_nil]
  constructor
  · intro h
    cases hd : List.dropWhile (fun x => digs10.data.toList.contains x) l.reverse with
    | nil =>
      rw [dropW_nil] at hd
      exact fun x hx => hd x (List.mem_reverse.2 hx)
    | cons y r =>
      rw [hd] at h
      have h1 := h y (by simp)
      have h2 := List.head_dropWhile_not (p := fun x => digs10.data.toList.contains x) (l := l.reverse) (by rw [hd]; simp)
      simp only [hd, List.head_cons] at h2
      rw [h1] at h2; cases h2
  · intro h x hx
    have hd : List.dropWhile (fun x => digs10.data.toList.contains x) l.reverse = [] := by
      rw [dropW_nil]
      exact fun y hy => h y (List.mem_reverse.1 hy)
    rw [hd] at hx
    simp at hx
theorem dec10 : ∀ (l : List UInt8) (a : Nat), (l.map (fun b => (b.toNat : Int))).all Lx.decB = true → ∃ n : Nat, Lib.decFrom a l = some n ∧ (n : Int) = (l.map (fun b => (b.toNat : Int))).foldl (fun a c => a * 10 + (c - 48)) (a : Int)
  | [], a, _ => ⟨a, rfl, rfl⟩
  | b :: r, a, h => by
    rw [List.map_cons, List.all_cons, Bool.and_eq_true] at h
    have hb : 48 ≤ b.toNat ∧ b.toNat ≤ 57 := by
      have := h.1
      unfold Lx.decB at this
      simp at this
      omega
    obtain ⟨n, h1, h2⟩ := dec10 r (a * 10 + (b.toNat - 48)) h.2
    refine ⟨n, ?_, ?_⟩
    · unfold Lib.decFrom Lib.digitVal
      rw [if_pos hb]
      exact h1
    · rw [h2, List.map_cons, List.foldl_cons]
      congr 1
      omega
theorem atoi10 (s : ByteArray) (h0 : 0 < s.size) (h : (Utf.nums s).all Lx.decB = true) : Lib.atoi s.data.toList = some (Lx.dval (Utf.nums s)) := by
  unfold Lx.dval
  unfold Utf.nums at h ⊢
  have hl : s.data.toList.length = s.size := Array.length_toList
  cases hs : s.data.toList with
  | nil => rw [hs] at hl; simp at hl; omega
  | cons b r =>
    rw [hs] at h
    have hb : 48 ≤ b.toNat ∧ b.toNat ≤ 57 := by
      rw [List.map_cons, List.all_cons, Bool.and_eq_true] at h
      have := h.1
      unfold Lx.decB at this
      simp at this
      omega
    have n1 : (b == 45) = false := by
      rw [beq_eq_false_iff_ne]; intro e; rw [e] at hb; revert hb; decide
    have n2 : (b == 43) = false := by
      rw [beq_eq_false_iff_ne]; intro e; rw [e] at hb; revert hb; decide
    obtain ⟨n, h1, h2⟩ := dec10 (b :: r) 0 h
    unfold Lib.atoi Lib.decNat
    simp only [n1, n2, h1, List.isEmpty_cons, Bool.false_eq_true, if_false, Option.map_some]
    rw [h2]; rfl
theorem dval_bd : ∀ (l : List Int) (a : Int), 0 ≤ a → l.all Lx.decB = true → 0 ≤ l.foldl (fun a c => a * 10 + (c - 48)) a ∧ l.foldl (fun a c => a * 10 + (c - 48)) a < (a + 1) * 10 ^ l.length
  | [], a, h0, _ => by simp; omega
  | c :: r, a, h0, h => by
    rw [List.all_cons, Bool.and_eq_true] at h
    have hc : 48 ≤ c ∧ c ≤ 57 := by
      have := h.1
      unfold Lx.decB at this
      simpa using this
    obtain ⟨h1, h2⟩ := dval_bd r (a * 10 + (c - 48)) (by omega) h.2
    refine ⟨by rw [List.foldl_cons]; exact h1, ?_⟩
    rw [List.foldl_cons, List.length_cons, Int.pow_succ]
    have h3 : (a * 10 + (c - 48) + 1) * 10 ^ r.length ≤ (a + 1) * 10 * 10 ^ r.length := Int.mul_le_mul_of_nonneg_right (by omega) (Int.le_of_lt (Int.pow_pos (by decide)))
    rw [Int.mul_comm (10 ^ r.length) 10, ← Int.mul_assoc]
    omega
theorem cnt_bd {l : List Int} {n : Int} (h : Lx.cntX l = some n) : 0 ≤ n ∧ n < 10000 := by
  unfold Lx.cntX at h
  split at h
  · rename_i hc
    have h1 : Lx.dval l = n := by injection h
    have h2 := dval_bd l 0 (Int.le_refl _) hc.2.2
    rw [← h1]
    unfold Lx.dval
    refine ⟨h2.1, Int.lt_of_lt_of_le h2.2 ?_⟩
    have : l.length = 1 ∨ l.length = 2 ∨ l.length = 3 ∨ l.length = 4 := by omega
    rcases this with e | e | e | e <;> rw [e] <;> decide
  · cases h
set_option maxRecDepth 100000 in
set_option maxHeartbeats 4000000 in
theorem count_any (W : World) (s : ByteArray) (hs : s.size ≤ 4096) : Calls Tryz.prog 99 #[.string s] W fun e w' =>
    e = .returned (.tuple #[.int .i64 ((Lx.cntX (Utf.nums s)).getD 0), .bool (Lx.cntX (Utf.nums s)).isSome]) ∧ Below W.heap.size W w' := by
  have hl := Utf.nums_length s
  by_cases c1 : s.size < 1
  · have HX : Hid (Lx.cntX (Utf.nums s) = none) := Lib.hid (by unfold Lx.cntX; rw [if_neg (by omega)])
    have c1i : (s.size : Int) < 1 := by omega
    clear c1 hl
    go_enter Tryz.func99, Tryz.ntmps99
    go_wp2
    go_ret2
    exact ⟨by rw [HX.out]; rfl, Below.refl _ _⟩
  by_cases c4 : 4 < s.size
  · have HX : Hid (Lx.cntX (Utf.nums s) = none) := Lib.hid (by unfold Lx.cntX; rw [if_neg (by omega)])
    have c1i : ¬ (s.size : Int) < 1 := by omega
    have c4i : (4 : Int) < (s.size : Int) := by omega
    clear c1 c4 hl
    go_enter Tryz.func99, Tryz.ntmps99
    go_wp2
    go_ret2
    exact ⟨by rw [HX.out]; rfl, Below.refl _ _⟩
  have c1i : ¬ (s.size : Int) < 1 := by omega
  have c4i : ¬ (4 : Int) < (s.size : Int) := by omega
  have HT := Lib.hid (fun w => Any.strings_Trim_laid (P := Tryz.prog) Tryz.layTrim (by kernel_rfl) s digs10 w (by omega) (by decide) (ascii_of_all (by decide +kernel)))
  have hT := trim10 s.data.toList
  by_cases ha : (Utf.nums s).all Lx.decB = true
  · have hT2 : Lib.trimS s.data.toList digs10.data.toList = [] := hT.2 ha
    rw [hT2] at HT
    have HX : Hid (Lx.cntX (Utf.nums s) = some (Lx.dval (Utf.nums s))) := Lib.hid (by unfold Lx.cntX; rw [if_pos ⟨by omega, by omega, ha⟩])
    have HA := Lib.hid (fun w => Any.strconv_Atoi (P := Tryz.prog) Tryz.layAtoi s (Lx.dval (Utf.nums s)) (by omega) (atoi10 s (by omega) ha) w)
    clear c1 c4 hT hT2 ha hl
    go_enter Tryz.func99, Tryz.ntmps99
    go_wp2_with fail
    refine (HT.out _).mono ?_
    rintro e w1 ⟨rfl, hb1⟩
    have HB1 := Lib.hid hb1
    clear hb1
    go_wp2_with fail
    refine (HA.out _).mono ?_
    rintro e w2 ⟨rfl, tt, rfl⟩
    go_wp2
    go_ret2
    exact ⟨by rw [HX.out]; rfl, HB1.out.trans ((Lib.bytesWorld_below _ _ _).mono HB1.out.size)⟩
  · have hT2 : ¬ Lib.trimS s.data.toList digs10.data.toList = [] := fun h => ha (hT.1 h)
    have HX : Hid (Lx.cntX (Utf.nums s) = none) := Lib.hid (by unfold Lx.cntX; rw [if_neg (fun h => ha h.2.2)])
    obtain ⟨t, ht⟩ : ∃ t : ByteArray, (⟨(Lib.trimS s.data.toList digs10.data.toList).toArray⟩ : ByteArray) = t := ⟨_, rfl⟩
    have h0 : 0 < t.size := by
      rw [← ht]
      show 0 < (Lib.trimS s.data.toList digs10.data.toList).toArray.size
      rw [List.size_toArray]
      exact List.length_pos_iff.2 hT2
    rw [ht] at HT
    obtain ⟨hne, hne2⟩ := toList_ne h0
    clear c1 c4 hT hT2 ha hl ht h0
    go_enter Tryz.func99, Tryz.ntmps99
    go_wp2_with fail
    refine (HT.out _).mono ?_
    rintro e w1 ⟨rfl, hb1⟩
    have HB1 := Lib.hid hb1
    clear hb1
    go_wp2
    go_ret2
    exact ⟨by rw [HX.out]; rfl, HB1.out⟩
end Go.Proofs.YtecmeeobabadeaaGreatDoor
