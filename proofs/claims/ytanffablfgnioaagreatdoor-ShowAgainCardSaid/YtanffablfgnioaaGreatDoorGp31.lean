/- The landed parse: group, by what alternatives hands back. · The landed parse: atom. -/
import Derived.Test.YtanffablfgnioaaGreatDoorGp30
import Derived.Deep.RegionWith
namespace Go.Proofs.YtanffablfgnioaaGreatDoor
open Go.RowKit
open Lx (Tk)
open Ps (TL)
set_option linter.unusedVariables false
/-- The listed variables, in whatever world of a parsing. -/
def PEv (W0 : World) (B : Nat) (W : World) : Prop := Ev W0 ∧ W0.heap.size ≤ B ∧ Below W0.heap.size W0 W
theorem PEv.ev {W0 W : World} {B : Nat} (h : PEv W0 B W) : Ev W := h.1.below (Nat.le_refl _) h.2.2
theorem PEv.grown {W0 W W' : World} {B : Nat} (h : PEv W0 B W) (hg : W.grownBy W' (some B)) : PEv W0 B W' :=
  ⟨h.1, h.2.1, h.2.2.grown hg h.2.2.size (fun k e => by injection e with e; rw [← e]; exact h.2.1)⟩
abbrev failV (a c : Int) : PanicEntry := { v := .iface 55 (.agg #[.int .i64 a, .int .i64 c]), recovered := false }
/-- What a part of the parser hands back, or the error that it leaves by. -/
def ParQ (lo B P0 : Nat) (R : Ps.PR) (W : World) (e : Ending) (w' : World) : Prop :=
  W.grownBy w' (some B) ∧ ((∃ a c, R = .bad a c ∧ e = .panicked [failV a c]) ∨
    ∃ x L' f' g' cs v', R = .ok x L' f' g' ∧ e = .returned (.agg cs.toArray) ∧ NdP lo B P0 W.heap.size w' x cs ∧ PSt lo w' B P0 v' L' f' g')
/-- Alternatives, of so many tokens at most. -/
def AltOK (W0 : World) (k : Nat) : Prop := ∀ (W : World) (lo B P0 : Nat) (v : Value) (L : TL) (f g : Int) (n : Nat), L.length ≤ k → 3 * L.length + 3 ≤ n → PSt lo W B P0 v L f g → PEv W0 B W →
  Calls Tryz.prog 18 #[.pointer (some ⟨B, 0, none⟩)] W (ParQ lo B P0 (Ps.altP n L f g []) W)
theorem box_gr {w w' : World} {b B : Nat} {o : Obj} (h : w.heap[b]? = some o) (hg : w.grownBy w' (some B)) (hne : b ≠ B) : w'.heap[b]? = some o :=
  (hg.block b (Array.getElem?_eq_some_iff.1 h).1 (fun e => hne (by injection e))).trans h
theorem heap_alloc_oldp {w : World} {b : Nat} {o x : Obj} (h : w.heap[b]? = some o) : (w.alloc x).heap[b]? = some o := (Below.heap_alloc w x b (Array.getElem?_eq_some_iff.1 h).1).trans h
def groupF (R : Ps.PR) (f g num : Int) (nm : ByteArray) : Ps.PR :=
  match R with
  | .bad a e => .bad a e
  | .ok x L' f' g' => if Ps.kd L' = 11 then .ok (if num = 0 then x else .mk 6 [] (g + num) nm 0 0 false [x]) L'.tail f g' else .bad (Ps.pl L') 82
noncomputable def groupR (n : Nat) (p : Int × Tk) (M : TL) (f g : Int) : Ps.PR := groupF (Ps.altP n M (Ps.turnP f p.2) (g + p.2.num) []) f g p.2.num p.2.name
set_option maxRecDepth 100000 in
set_option maxHeartbeats 8000000 in
theorem group_any (W0 : World) (k : Nat) (ih : AltOK W0 k) {W : World} {lo B P0 : Nat} {v : Value} {p : Int × Tk} {M : TL} {f g : Int} (n : Nat) (h : PSt lo W B P0 v M f g) (hE : PEv W0 B W) (hk : M.length ≤ k) (hn : 3 * M.length + 3 ≤ n) (hp : TokOk p) (hp9 : p.2.kind = 9)
    (hg1 : g + 1 + (M.length : Int) ≤ 400000) (va : Option Addr) (vl vc : Nat) :
    Calls Tryz.prog 99 #[.pointer (some ⟨B, 0, none⟩), tkV p.1 p.2 (.slice va vl vc)] W (ParQ lo B P0 (groupR n p M f g) W) := by
  have hp01 := hp.2.2.2.2.2.1 hp9
  have hnm := hp.2.2.2.2.1
  have HI := Lib.hid ih
  have H := Lib.hid h
  have HE := Lib.hid hE
  have hbx := h.box
  have hg0 := h.g0
  have hg9 := h.g1
  have hB := h.hB
  have hP := h.hP
  obtain ⟨a, ⟨kd, num, nm, mn, mx, lz, cl⟩⟩ := p
  obtain rfl : kd = 9 := hp9
  dsimp only at hp01 hnm
  unfold tkV
  dsimp only
  obtain ⟨w1, hw1⟩ : ∃ w1, (W.alloc (.cells #[.int .i64 9, .int .i64 a, .int .i64 num, .string nm, .int .i64 mn, .int .i64 mx, .bool lz, .slice va vl vc] 39)).alloc (.cells #[.int .i64 0, .slice none 0 0, .int .i64 0, .string ⟨#[]⟩, .int .i64 0, .int .i64 0, .bool false, .slice none 0 0] 26) = w1 := ⟨_, rfl⟩
  have hb1 : Below W.heap.size W w1 := by rw [← hw1]; exact ((Below.refl _ _).alloc (Nat.le_refl _) _).alloc (by simp) _
  have hnew : w1.heap[W.heap.size]? = some (.cells #[.int .i64 9, .int .i64 a, .int .i64 num, .string nm, .int .i64 mn, .int .i64 mx, .bool lz, .slice va vl vc] 39 (0, 0)) := by rw [← hw1]; exact (Below.heap_alloc _ _ _ (by simp)).trans (heap_alloc_new _ _)
  have hres : w1.heap[W.heap.size + 1]? = some (.cells #[.int .i64 0, .slice none 0 0, .int .i64 0, .string ⟨#[]⟩, .int .i64 0, .int .i64 0, .bool false, .slice none 0 0] 26 (0, 0)) := by rw [← hw1]; exact heap_alloc_new' _ _ _ (by simp)
  have hbx1 : w1.heap[B]? = some (.cells #[v, .int .i64 f, .int .i64 g] 41 (0, 0)) := (hb1.block _ (by omega)).trans hbx
  have HB1 := Lib.hid hb1
  have HN1 := Lib.hid hnew
  have HR1 := Lib.hid hres
  have HX1 := Lib.hid hbx1
  obtain ⟨tb, htb⟩ : ∃ tb, W.heap.size = tb := ⟨_, rfl⟩
  have HTB := Lib.hid htb
  have t2 : w1.cell? ⟨tb, 2, none⟩ = some (.int .i64 num) := by rw [← htb]; simp [World.cell?, hnew]
  have b2 : w1.cell? ⟨B, 2, none⟩ = some (.int .i64 g) := by simp [World.cell?, hbx1]
  have b1 : w1.cell? ⟨B, 1, none⟩ = some (.int .i64 f) := by simp [World.cell?, hbx1]
  have f2 : w1.frozen? ⟨B, 2, none⟩ = false := by simp [World.frozen?, hbx1]
  have hw2 : IntKind.i64.wrap (g + num) = g + num := by rw [IntKind.wrap_i64]; omega
  have HW1 := Lib.hid hw1
  have HP1 := Lib.hid hp
  clear ih h hE hbx hb1 hnew hres hbx1 hw1 htb hp
  go_enter Tryz.func99, Tryz.ntmps99
  go_wp2_with fail
  rw [HW1.out, HTB.out]
  go_region
  obtain ⟨w2, hw2'⟩ : ∃ w2, (w1.setCell ⟨B, 2, none⟩ (.int .i64 (g + num))).drew = w2 := ⟨_, rfl⟩
  have hg2 : W.grownBy w2 (some B) := by rw [← hw2']; exact grown_drew (grown_set (below_grown (n := 0) HB1.out _) _ _ (.inr rfl))
  have hbx2 : w2.heap[B]? = some (.cells #[v, .int .i64 f, .int .i64 (g + num)] 41 (0, 0)) := by
    have h9 := heap_setCell_same w1 B 2 _ _ (.int .i64 (g + num)) HX1.out
    rw [← hw2']
    show (w1.setCell ⟨B, 2, none⟩ (.int .i64 (g + num))).heap[B]? = _
    simpa using h9
  have hps2 : PSt lo w2 B P0 v M f (g + num) := PSt.turned H.out hg2 hbx2 H.out.row H.out.ends (fun q hq => hq) (Nat.le_refl _) (by omega) (by omega)
  have hne : ∀ b, b ≠ B → w2.heap[b]? = w1.heap[b]? := fun b hb => by rw [← hw2']; exact heap_setCell_other _ _ _ _ hb
  have hN2 := (hne W.heap.size (by omega)).trans HN1.out
  have hR2 := (hne (W.heap.size + 1) (by omega)).trans HR1.out
  rw [HTB.out] at hN2 hR2
  have HG2 := Lib.hid hg2
  have HPS2 := Lib.hid hps2
  have HN2 := Lib.hid hN2
  have HR2 := Lib.hid hR2
  have HTN := Lib.hid (turn_any hps2 a { kind := 9, num := num, name := nm, mn := mn, mx := mx, lazy := lz, cls := cl } va vl vc)
  have hc2 := hps2.cells
  obtain ⟨x0, x1, x2, x3, x4, x5, x6, x7, _⟩ := box_facts hN2
  obtain ⟨c0, c1, c2, z0, z1, z2⟩ := hc2
  rw [hw2']
  clear hw2' hg2 hbx2 hps2 hne hN2 hR2 t2 b2 b1 f2 hw2
  go_wp2_with fail
  refine HTN.out.mono ?_
  rintro e w3 ⟨rfl, hps3, hg3⟩
  have htbB : tb ≠ B ∧ tb + 1 ≠ B := by have := HTB.out; omega
  have HNB := Lib.hid htbB
  have HG3 := Lib.hid (grown_trans HG2.out hg3)
  have HPS3 := Lib.hid hps3
  have HN3 := Lib.hid (box_gr HN2.out hg3 htbB.1)
  have HR3 := Lib.hid (box_gr HR2.out hg3 htbB.2)
  have HAL := Lib.hid (HI.out w3 lo B P0 v M _ _ n hk hn hps3 (HE.out.grown (grown_trans HG2.out hg3)))
  obtain ⟨R, hR⟩ : ∃ R, Ps.altP n M (Ps.turnP f { kind := 9, num := num, name := nm, mn := mn, mx := mx, lazy := lz, cls := cl }) (g + num) [] = R := ⟨_, rfl⟩
  have hGR : groupR n (a, { kind := 9, num := num, name := nm, mn := mn, mx := mx, lazy := lz, cls := cl }) M f g = groupF R f g num nm := by rw [← hR]; rfl
  rw [hR] at HAL
  have HGR := Lib.hid hGR
  clear hps3 hg3 htbB hR hGR x0 x1 x2 x3 x4 x5 x6 x7 c0 c1 c2 z0 z1 z2
  go_wp2_with fail
  refine HAL.out.mono ?_
  rintro e w4 ⟨hg4, h4⟩
  have HG4 := Lib.hid (grown_trans HG3.out hg4)
  have HSZ34 := Lib.hid hg4.size
  rcases h4 with ⟨ba, bc, rfl, rfl⟩ | ⟨x, L', f', g', cs, v', rfl, rfl, hx, hps4⟩
  · exact ⟨rfl, HG4.out, .inl ⟨ba, bc, HGR.out.trans rfl, rfl⟩⟩
  · have HX4 := Lib.hid hx
    have HPS4 := Lib.hid hps4
    have HN4 := Lib.hid (box_gr HN3.out hg4 HNB.out.1)
    have HR4 := Lib.hid (box_gr HR3.out hg4 HNB.out.2)
    have hsz4 : W.heap.size + 2 ≤ w4.heap.size := by
      have h1 := (Array.getElem?_eq_some_iff.1 HR4.out).1
      have := HTB.out
      omega
    obtain ⟨u0, u1, u2, u3, u4, u5, u6, u7, sa, sc, ia, ic, hcs, F⟩ := hx.is.form_of
    subst hcs
    obtain ⟨rfl, rfl, rfl, rfl, rfl, rfl, rfl, rfl⟩ := F
    dsimp only
    have hbo := fun o : Obj => heap_alloc_oldp (x := o) hps4.box
    have c1 : ∀ o : Obj, (w4.alloc o).cell? ⟨B, 1, none⟩ = some (.int .i64 f') := fun o => by simp [World.cell?, hbo o]
    have z1 : ∀ o : Obj, (w4.alloc o).frozen? ⟨B, 1, none⟩ = false := fun o => by simp [World.frozen?, hbo o]
    obtain ⟨w5, hw5⟩ : ∃ w5, (w4.alloc (.cells #[.int .i64 (Td.kind x), .slice sa (Td.set x).length sc, .int .i64 (Td.num x), .string (Td.name x), .int .i64 (Td.mn x), .int .i64 (Td.mx x), .bool (Td.lazy x), .slice ia (Td.subs x).length ic] 26)).setCell ⟨B, 1, none⟩ (.int .i64 f) = w5 := ⟨_, rfl⟩
    obtain ⟨ib, hib⟩ : ∃ ib, w4.heap.size = ib := ⟨_, rfl⟩
    have hlB := (Array.getElem?_eq_some_iff.1 hps4.box).1
    have hg5 : w4.grownBy w5 (some B) := by rw [← hw5]; exact grown_set (grown_alloc (grown_refl _ _) _) _ _ (.inr rfl)
    have hbx5 : w5.heap[B]? = some (.cells #[v', .int .i64 f, .int .i64 g'] 41 (0, 0)) := by
      have h9 := heap_setCell_same (w4.alloc (.cells #[.int .i64 (Td.kind x), .slice sa (Td.set x).length sc, .int .i64 (Td.num x), .string (Td.name x), .int .i64 (Td.mn x), .int .i64 (Td.mx x), .bool (Td.lazy x), .slice ia (Td.subs x).length ic] 26)) B 1 _ _ (.int .i64 f) (hbo _)
      rw [hw5] at h9
      simpa using h9
    have hI5 : w5.heap[ib]? = some (.cells #[.int .i64 (Td.kind x), .slice sa (Td.set x).length sc, .int .i64 (Td.num x), .string (Td.name x), .int .i64 (Td.mn x), .int .i64 (Td.mx x), .bool (Td.lazy x), .slice ia (Td.subs x).length ic] 26 (0, 0)) := by
      rw [← hw5, ← hib]
      have hne9 : w4.heap.size ≠ B := by omega
      exact (heap_setCell_other _ ⟨B, 1, none⟩ w4.heap.size _ hne9).trans (heap_alloc_new _ _)
    have hps5 : PSt lo w5 B P0 v' L' f g' := PSt.turned hps4 hg5 hbx5 hps4.row hps4.ends (fun q hq => hq) (Nat.le_refl _) hps4.g0 hps4.g1
    have HIB := Lib.hid hib
    have HG5 := Lib.hid (grown_trans HG4.out hg5)
    have HG45 := Lib.hid hg5
    have HPS5 := Lib.hid hps5
    have HI5 := Lib.hid hI5
    have HN5 := Lib.hid (box_gr HN4.out hg5 HNB.out.1)
    have HR5 := Lib.hid (box_gr HR4.out hg5 HNB.out.2)
    have HW5 := Lib.hid hw5
    have HK5 := Lib.hid (kind_any hps5)
    have hibB : ib ≠ B := by omega
    have htib : tb + 2 ≤ ib := by have := HTB.out; omega
    clear hg4 hx hps4 hbo hw5 hib hg5 hbx5 hI5 hps5 hlB
    go_wp2_with fail
    rw [HW5.out, HIB.out]
    by_cases h11 : Ps.kd L' = 11
    · rw [h11] at HK5
      refine HK5.out.mono ?_
      rintro e w6 ⟨rfl, rfl⟩
      obtain ⟨p, N, rfl⟩ := HPS5.out.cons
      have HNX := Lib.hid (next_any HPS5.out (by have : p.2.kind = 11 := h11; omega))
      have H11 := Lib.hid h11
      clear h11
      go_wp2_with fail
      refine HNX.out.mono ?_
      rintro e w7 ⟨va2, vl2, vc2, out2, v2, rfl, _, _, _, hps7, hg7⟩
      have HG7 := Lib.hid (grown_trans HG5.out hg7)
      have HG57 := Lib.hid hg7
      have HPS7 := Lib.hid hps7
      have hI7 := box_gr HI5.out hg7 hibB
      have hN7 := box_gr HN5.out hg7 HNB.out.1
      have hR7 := box_gr HR5.out hg7 HNB.out.2
      have HI7 := Lib.hid hI7
      have HR7 := Lib.hid hR7
      obtain ⟨x0, x1, x2, x3, x4, x5, x6, x7, _⟩ := box_facts hN7
      obtain ⟨i0, i1, i2, i3, i4, i5, i6, i7, _⟩ := box_facts hI7
      have hsz7 := (Array.getElem?_eq_some_iff.1 hI7).1
      rcases hp01 with rfl | rfl
      · obtain ⟨d0, d1, d2, d3, d4, d5, d6, d7, g0, g1, g2, g3, g4, g5, g6, g7⟩ := box_facts hR7
        clear hps7 hg7 hI7 hN7 hR7
        go_wp2
        (try simp only [Exit.inBlock, Exit.then])
        refine ret_nd1 rfl (tb + 1) _ rfl (set8_blk _ _ _ _ _ _ _ _ _ _ HR7.out) rfl rfl ?_
        have hgf := set8_grown HG7.out (tb + 1) (by have := HTB.out; omega) (.int .i64 (Td.kind x)) (.slice sa (Td.set x).length sc) (.int .i64 (Td.num x)) (.string (Td.name x)) (.int .i64 (Td.mn x)) (.int .i64 (Td.mx x)) (.bool (Td.lazy x)) (.slice ia (Td.subs x).length ic)
        have h3 := (Array.getElem?_eq_some_iff.1 HR3.out).1
        have htb := HTB.out
        have hs4 := HG45.out.size
        refine ⟨hgf, .inr ⟨x, N, f, g', _, v2, HGR.out.trans (by unfold groupF; dsimp only; rw [if_pos H11.out, if_pos rfl]; rfl), rfl, NdP.lower (base := w3.heap.size) (by omega) (HX4.out.to (by rw [set8_size]; have := HG57.out.size; omega) (fun b hb hlt => ?_)), HPS7.out.other (by rw [set8_size]; exact Nat.le_refl _) (fun b hb => set8_other _ _ _ _ _ _ _ _ _ _ b (by omega))⟩⟩
        have hbB : b ≠ B := hb.ne hB (by omega)
        have hbr : b ≠ tb + 1 := by rcases hb with h | h <;> omega
        exact (set8_other _ _ _ _ _ _ _ _ _ _ b hbr).trans ((HG57.out.block b (by omega) (fun e => hbB (by injection e))).trans (HG45.out.block b hlt (fun e => hbB (by injection e))))
      · have hD := fun o : Obj => box_facts (heap_alloc_oldp (x := o) hR7)
        have d0 := fun o => (hD o).1
        have d1 := fun o => (hD o).2.1
        have d2 := fun o => (hD o).2.2.1
        have d3 := fun o => (hD o).2.2.2.1
        have d4 := fun o => (hD o).2.2.2.2.1
        have d5 := fun o => (hD o).2.2.2.2.2.1
        have d6 := fun o => (hD o).2.2.2.2.2.2.1
        have d7 := fun o => (hD o).2.2.2.2.2.2.2.1
        have g0 := fun o => (hD o).2.2.2.2.2.2.2.2.1
        have g1 := fun o => (hD o).2.2.2.2.2.2.2.2.2.1
        have g2 := fun o => (hD o).2.2.2.2.2.2.2.2.2.2.1
        have g3 := fun o => (hD o).2.2.2.2.2.2.2.2.2.2.2.1
        have g4 := fun o => (hD o).2.2.2.2.2.2.2.2.2.2.2.2.1
        have g5 := fun o => (hD o).2.2.2.2.2.2.2.2.2.2.2.2.2.1
        have g6 := fun o => (hD o).2.2.2.2.2.2.2.2.2.2.2.2.2.2.1
        have g7 := fun o => (hD o).2.2.2.2.2.2.2.2.2.2.2.2.2.2.2
        clear hps7 hg7 hI7 hN7 hR7 hD
        go_wp2
        (try simp only [Exit.inBlock, Exit.then])
        obtain ⟨X, hX⟩ : ∃ X : Obj, X = .cells #[.int .i64 (Td.kind x), .slice sa (Td.set x).length sc, .int .i64 (Td.num x), .string (Td.name x), .int .i64 (Td.mn x), .int .i64 (Td.mx x), .bool (Td.lazy x), .slice ia (Td.subs x).length ic] 26 := ⟨_, rfl⟩
        rw [← hX]
        have hrb : (w7.alloc X).heap[tb + 1]? = some (.cells #[.int .i64 0, .slice none 0 0, .int .i64 0, .string ⟨#[]⟩, .int .i64 0, .int .i64 0, .bool false, .slice none 0 0] 26 (0, 0)) := heap_alloc_oldp HR7.out
        refine ret_nd1 rfl (tb + 1) _ rfl (set8_blk _ _ _ _ _ _ _ _ _ _ hrb) rfl rfl ?_
        have hgf := set8_grown (grown_alloc HG7.out X) (tb + 1) (by have := HTB.out; omega) (.int .i64 6) (.slice none 0 0) (.int .i64 (g + 1)) (.string nm) (.int .i64 0) (.int .i64 0) (.bool false) (.slice (some ⟨w7.heap.size, 0, none⟩) 1 1)
        have h3 := (Array.getElem?_eq_some_iff.1 HR3.out).1
        have htb := HTB.out
        have hs4 := HG45.out.size
        have hs5 := HG57.out.size
        have hsw := HG4.out.size
        have hpar : w3.heap.size ≤ w4.heap.size := HSZ34.out
        refine ⟨hgf, .inr ⟨.mk 6 [] (g + 1) nm 0 0 false [x], N, f, g', _, v2, HGR.out.trans (by unfold groupF; dsimp only; rw [if_pos H11.out, if_neg (by decide)]; rfl), rfl, NdP.lower (base := w3.heap.size) (by omega) (nd_lit HX4.out (by rw [set8_size]; simp; omega) (fun b hb hlt => ?_) w7.heap.size (by omega) ?_ ⟨i64_lit _ (by decide), i64_lit _ (by omega), i64_lit _ (by decide), i64_lit _ (by decide)⟩ (by omega) 1), HPS7.out.other (by rw [set8_size]; simp) (fun b hb => (set8_other _ _ _ _ _ _ _ _ _ _ b (by omega)).trans (Below.heap_alloc w7 X b (by omega)))⟩⟩
        · have hbB : b ≠ B := hb.ne hB (by omega)
          have hbr : b ≠ tb + 1 := by rcases hb with h | h <;> omega
          exact (set8_other _ _ _ _ _ _ _ _ _ _ b hbr).trans ((Below.heap_alloc w7 X b (by omega)).trans ((HG57.out.block b (by omega) (fun e => hbB (by injection e))).trans (HG45.out.block b hlt (fun e => hbB (by injection e)))))
        · refine (set8_other _ _ _ _ _ _ _ _ _ _ _ (by omega)).trans ?_
          rw [hX]; exact heap_alloc_new w7 _
    · have k11 : (Ps.kd L' != 11) = true := by simpa using h11
      obtain ⟨K, hK⟩ : ∃ K, Ps.kd L' = K := ⟨_, rfl⟩
      have HAT := Lib.hid (at_any HPS5.out)
      have HGF : Hid (groupF (.ok x L' f' g') f g num nm = .bad (Ps.pl L') 82) := Lib.hid (by unfold groupF; dsimp only; rw [if_neg h11])
      rw [hK] at HK5 k11
      clear h11 hK
      refine HK5.out.mono ?_
      rintro e w6 ⟨rfl, rfl⟩
      go_wp2_with fail
      refine HAT.out.mono ?_
      rintro e w6 ⟨rfl, rfl⟩
      go_wp2_with fail
      refine (fail_any _ _ _).mono ?_
      rintro e w7 ⟨rfl, hb7⟩
      exact ⟨rfl, grown_trans HG5.out (below_grown (n := 0) hb7 _), .inl ⟨_, _, HGR.out.trans HGF.out, rfl⟩⟩
end Go.Proofs.YtanffablfgnioaaGreatDoor
namespace Go.Proofs.YtanffablfgnioaaGreatDoor
open Go.RowKit
open Lx (Tk)
open Ps (TL)
set_option linter.unusedVariables false
/-- The tree of a leaf, written into the result's box. -/
theorem leaf_out {lo B P0 : Nat} {W w2 wS : World} {x : Nd} {u0 u1 u2 u3 u4 u5 u6 u7 : Value} {R : Ps.PR} {M : TL} {f g : Int} {v' : Value} (hB : B < P0) (hP : P0 ≤ W.heap.size) (h2 : W.heap.size < w2.heap.size) (hg2 : W.grownBy w2 (some B)) (hps : PSt lo w2 B P0 v' M f g) (hb : Below w2.heap.size w2 wS)
    (hx : NdP lo B P0 w2.heap.size wS x [u0, u1, u2, u3, u4, u5, u6, u7]) (hR : R = .ok x M f g) :
    ParQ lo B P0 R W (.returned (.agg #[u0, u1, u2, u3, u4, u5, u6, u7])) ((((((((wS.setCell ⟨W.heap.size, 0, none⟩ u0).setCell ⟨W.heap.size, 1, none⟩ u1).setCell ⟨W.heap.size, 2, none⟩ u2).setCell ⟨W.heap.size, 3, none⟩ u3).setCell ⟨W.heap.size, 4, none⟩ u4).setCell ⟨W.heap.size, 5, none⟩ u5).setCell ⟨W.heap.size, 6, none⟩ u6).setCell ⟨W.heap.size, 7, none⟩ u7) := by
  refine ⟨set8_grown (grown_trans hg2 (below_grown (n := 0) hb _)) _ (Nat.le_refl _) _ _ _ _ _ _ _ _, .inr ⟨x, M, f, g, _, v', hR, rfl, NdP.lower (base := w2.heap.size) (by omega) (hx.to (by rw [set8_size]; exact Nat.le_refl _) (fun b hbb hlt => set8_other _ _ _ _ _ _ _ _ _ _ b (by rcases hbb with h | h <;> omega))), (hps.below hb).other (by rw [set8_size]; exact Nat.le_refl _) (fun b hbb => set8_other _ _ _ _ _ _ _ _ _ _ b (by omega))⟩⟩
theorem brkt_any {lo B P0 base : Nat} (w : World) (s : ByteArray) (hs : s.size ≤ 4096) (f : Int) (hE : Ev w) (hk : ∃ Xs n, Br.brack s = .ok Xs n) (hb : base ≤ w.heap.size) : Calls Tryz.prog 57 #[.string s, .int .i64 f] w fun e w' =>
    ∃ fa fc out at5, e = .returned (.tuple #[.slice fa out.length fc, .int .i64 at5, .int .i64 0]) ∧ LstP lo B P0 base w' (.slice fa out.length fc) out ∧ Ps.brkL s (Ps.hasP f 1) = out ∧ Below w.heap.size w w' := by
  refine (brk_any w s hs f (Ps.hasP f 1) rfl hE).mono ?_
  rintro e w5 ⟨hb35, h5⟩
  obtain ⟨Ys, yn, hk⟩ := hk
  rcases h5 with ⟨o, c, h5, _⟩ | ⟨Xs, at2, vo, out5, h5, rfl, hbi, hown⟩
  · rw [hk] at h5; cases h5
  have hnorm : Rg.NormL out5 := by obtain ⟨_, _, _, _, h9, _⟩ := hbi; exact h9
  have hbl := Ps.brkL_is ⟨Xs, at2, h5, hbi⟩
  obtain ⟨fa, fc, rfl⟩ := own_slice hown
  exact ⟨fa, fc, out5, _, rfl, own_lst hown hnorm hb, hbl, hb35⟩
set_option maxRecDepth 100000 in
set_option maxHeartbeats 16000000 in
theorem atom_any (W0 : World) (k : Nat) (ih : AltOK W0 k) {W : World} {lo B P0 : Nat} {v : Value} {L : TL} {f g : Int} (n : Nat) (h : PSt lo W B P0 v L f g) (hE : PEv W0 B W) (hk : L.length ≤ k + 1) (hn : 3 * L.length + 1 ≤ n)
    (hkd : Ps.kd L = 1 ∨ Ps.kd L = 2 ∨ Ps.kd L = 3 ∨ Ps.kd L = 4 ∨ Ps.kd L = 5 ∨ Ps.kd L = 6 ∨ Ps.kd L = 7 ∨ Ps.kd L = 9 ∨ Ps.kd L = 13) :
    Calls Tryz.prog 68 #[.pointer (some ⟨B, 0, none⟩)] W (ParQ lo B P0 (Ps.atomP n L f g) W) := by
  obtain ⟨p, M, rfl⟩ := h.cons
  obtain ⟨m, rfl⟩ : ∃ m, n = m + 1 := ⟨n - 1, by simp at hn; omega⟩
  have hkM : M.length ≤ k := by simp at hk; exact hk
  have hnM : 3 * M.length + 3 ≤ m := by simp at hn; omega
  have hgM : g + 1 + (M.length : Int) ≤ 400000 := by have := h.g1; simp at this; omega
  have htok := h.tok p (by simp)
  have hB := h.hB
  have hP := h.hP
  have hk0 : p.2.kind ≠ 0 := by have : Ps.kd (p :: M) = p.2.kind := rfl; omega
  have hkd' : p.2.kind = 1 ∨ p.2.kind = 2 ∨ p.2.kind = 3 ∨ p.2.kind = 4 ∨ p.2.kind = 5 ∨ p.2.kind = 6 ∨ p.2.kind = 7 ∨ p.2.kind = 9 ∨ p.2.kind = 13 := hkd
  have hAP : Ps.atomP (m + 1) (p :: M) f g = if p.2.kind = 9 then groupR m p M f g else .ok (Ps.leafOf f p.2) M f g := by
    rw [Ps.atomP_eq]
    unfold groupR groupF
    show (if p.2.kind = 9 then _ else _) = _
    split
    · show (match Ps.altP m M (Ps.turnP f p.2) (g + p.2.num) [] with | .bad a e => Ps.PR.bad a e | .ok x L' f' g' => _) = _
      cases Ps.altP m M (Ps.turnP f p.2) (g + p.2.num) [] <;> rfl
    · rfl
  obtain ⟨w1, hw1⟩ : ∃ w1, W.alloc (.cells #[.int .i64 0, .slice none 0 0, .int .i64 0, .string ⟨#[]⟩, .int .i64 0, .int .i64 0, .bool false, .slice none 0 0] 26) = w1 := ⟨_, rfl⟩
  have hb1 : Below W.heap.size W w1 := by rw [← hw1]; exact (Below.refl _ _).alloc (Nat.le_refl _) _
  have hres : w1.heap[W.heap.size]? = some (.cells #[.int .i64 0, .slice none 0 0, .int .i64 0, .string ⟨#[]⟩, .int .i64 0, .int .i64 0, .bool false, .slice none 0 0] 26 (0, 0)) := by rw [← hw1]; exact heap_alloc_new _ _
  have HNX := Lib.hid (next_any (h.below hb1) hk0)
  have HI := Lib.hid ih
  have HE := Lib.hid hE
  have HAP := Lib.hid hAP
  have HB1 := Lib.hid hb1
  have HR1 := Lib.hid hres
  have HW1 := Lib.hid hw1
  have HTOK := Lib.hid htok
  clear ih h hE hk hn hkd hk0 hAP hb1 hres hw1 htok
  obtain ⟨at_, ⟨kd, num, nm, mn, mx, lz, cl⟩⟩ := p
  dsimp only at hkd'
  go_enter Tryz.func68, Tryz.ntmps68
  go_wp2_with fail
  rw [HW1.out]
  refine HNX.out.mono ?_
  rintro e w2 ⟨va, vl, vc, out, v', rfl, hs1, hs2, rfl, hps2, hg12⟩
  have hg2 : W.grownBy w2 (some B) := grown_trans (below_grown (n := 0) HB1.out _) hg12
  have hrB : W.heap.size ≠ B := by omega
  have hr2 := box_gr HR1.out hg12 hrB
  have HR2 := Lib.hid hr2
  unfold tkV
  dsimp only at hs1 ⊢
  obtain ⟨w3, hw3⟩ : ∃ w3, w2.alloc (.cells #[.int .i64 kd, .int .i64 at_, .int .i64 num, .string nm, .int .i64 mn, .int .i64 mx, .bool lz, .slice va out.length vc] 39) = w3 := ⟨_, rfl⟩
  have hb3 : Below w2.heap.size w2 w3 := by rw [← hw3]; exact (Below.refl _ _).alloc (Nat.le_refl _) _
  have htk : w3.heap[w2.heap.size]? = some (.cells #[.int .i64 kd, .int .i64 at_, .int .i64 num, .string nm, .int .i64 mn, .int .i64 mx, .bool lz, .slice va out.length vc] 39 (0, 0)) := by rw [← hw3]; exact heap_alloc_new _ _
  obtain ⟨tb, htb⟩ : ∃ tb, w2.heap.size = tb := ⟨_, rfl⟩
  have hps3 := hps2.below hb3
  have hg3 := grown_trans hg2 (below_grown (n := 0) hb3 (some B))
  have hr3 := box_gr hr2 (below_grown (n := 0) hb3 (some B)) hrB
  have hlr3 := (Array.getElem?_eq_some_iff.1 hr3).1
  rw [htb] at htk
  obtain ⟨x0, x1, x2, x3, x4, x5, x6, x7, _⟩ := box_facts htk
  have HPS3 := Lib.hid hps3
  have HG3 := Lib.hid hg3
  have HR3 := Lib.hid hr3
  have HLS : Hid (Br.SetIs cl out) := Lib.hid hs1
  have hP3 : P0 ≤ w2.heap.size := hps2.hP
  have HLR : Hid (LstP lo B P0 w3.heap.size w3 (.slice va out.length vc) out) := Lib.hid ((hs2.kept hb3.size (fun b _ hlt => hb3.block b hlt)).mono (fun b hb => ⟨.inl hb, Nat.lt_of_lt_of_le (Nat.lt_of_lt_of_le hb.1 hP3) hb3.size⟩))
  have HW3 := Lib.hid hw3
  have HTB := Lib.hid htb
  have HS3 : Hid (w3.heap.size = tb + 1) := Lib.hid (by rw [← hw3, ← htb]; simp)
  have HEV := Lib.hid (HE.out.grown hg3)
  obtain ⟨hp9, hnum, hmn, hmx, hnm, h9, h13⟩ := HTOK.out
  dsimp only at hp9 hnum hmn hmx hnm h9 h13
  clear hs1 hs2 hps2 hg12 hg2 hr2 hw3 hb3 htk htb hps3 hg3 hr3
  rcases hkd' with rfl | rfl | rfl | rfl | rfl | rfl | rfl | rfl | rfl
  · have hb4 : Below w3.heap.size w3 (w3.alloc (.cells #[.int .i64 num, .int .i64 num] 49)) := (Below.refl _ _).alloc (Nat.le_refl _) _
    have hl1 : LstP lo B P0 w3.heap.size (w3.alloc (.cells #[.int .i64 num, .int .i64 num] 49)) (.slice (some ⟨tb + 1, 0, none⟩) 1 1) [(num, num)] := by
      rw [← HS3.out]
      exact ⟨rrow_one w3 num num hnum hnum 49, fun g off len cap e hl => by injection e with e _ _; injection e with e; injection e with e _ _; subst e; exact ⟨.inr (Nat.le_refl _), by simp⟩⟩
    have HFO := Lib.hid (folded_any (HPS3.out.below hb4) (base := w3.heap.size) hb4.size [(num, num)] _ 1 hl1)
    have HB4 := Lib.hid hb4
    clear hb4 hl1
    go_wp2_with fail
    rw [HW3.out, HTB.out]
    refine HFO.out.mono ?_
    rintro e w5 ⟨fa, fc, rfl, hfl, hb5⟩
    have hb35 := HB4.out.trans (hb5.mono HB4.out.size)
    have h35 := hb35.size
    clear hb5
    go_wp2_with fail
    refine (set_any (base := w3.heap.size) w5 (by omega) _ fa fc hfl).mono ?_
    rintro e wS ⟨cs, rfl, hx, hb6⟩
    have hbS := hb35.trans (hb6.mono hb35.size)
    clear hb6 hfl hb35
    have HPX := Lib.hid hx
    have HBX := Lib.hid hbS
    obtain ⟨u0, u1, u2, u3, u4, u5, u6, u7, sa, sc, ia, ic, hcs, F⟩ := hx.is.form_of
    subst hcs
    obtain ⟨rfl, rfl, rfl, rfl, rfl, rfl, rfl, rfl⟩ := F
    have hrS := (hbS.block _ hlr3).trans HR3.out
    have HRS := Lib.hid hrS
    obtain ⟨d0, d1, d2, d3, d4, d5, d6, d7, g0, g1, g2, g3, g4, g5, g6, g7⟩ := box_facts hrS
    clear hx hbS hrS
    go_wp2
    (try simp only [Exit.inBlock, Exit.then])
    refine ret_nd1 rfl W.heap.size _ rfl (set8_blk _ _ _ _ _ _ _ _ _ _ HRS.out) rfl rfl ?_
    exact leaf_out hB hP hlr3 HG3.out HPS3.out HBX.out HPX.out (HAP.out.trans ((if_neg (show ¬ (1 : Int) = 9 by decide)).trans (congrArg (fun x => Ps.PR.ok x M f g) (show Ps.leafOf f _ = _ from (if_pos rfl)))))
  · have HFO := Lib.hid (folded_any HPS3.out (base := w3.heap.size) (Nat.le_refl _) out va vc HLR.out)
    have hcl : Ps.clsL cl = out := Ps.clsL_is HLS.out
    have HCL := Lib.hid hcl
    clear hcl
    go_wp2_with fail
    rw [HW3.out, HTB.out]
    refine HFO.out.mono ?_
    rintro e w5 ⟨fa, fc, rfl, hfl, hb35⟩
    have h35 := hb35.size
    go_wp2_with fail
    refine (set_any (base := w3.heap.size) w5 (by omega) _ fa fc hfl).mono ?_
    rintro e wS ⟨cs, rfl, hx, hb6⟩
    have hbS := hb35.trans (hb6.mono hb35.size)
    clear hb6 hfl hb35
    rw [← HCL.out] at hx
    have HPX := Lib.hid hx
    have HBX := Lib.hid hbS
    obtain ⟨u0, u1, u2, u3, u4, u5, u6, u7, sa, sc, ia, ic, hcs, F⟩ := hx.is.form_of
    subst hcs
    obtain ⟨rfl, rfl, rfl, rfl, rfl, rfl, rfl, rfl⟩ := F
    have hrS := (hbS.block _ hlr3).trans HR3.out
    have HRS := Lib.hid hrS
    obtain ⟨d0, d1, d2, d3, d4, d5, d6, d7, g0, g1, g2, g3, g4, g5, g6, g7⟩ := box_facts hrS
    clear hx hbS hrS
    go_wp2
    (try simp only [Exit.inBlock, Exit.then])
    refine ret_nd1 rfl W.heap.size _ rfl (set8_blk _ _ _ _ _ _ _ _ _ _ HRS.out) rfl rfl ?_
    exact leaf_out hB hP hlr3 HG3.out HPS3.out HBX.out HPX.out (HAP.out.trans ((if_neg (show ¬ (2 : Int) = 9 by decide)).trans (congrArg (fun x => Ps.PR.ok x M f g) (show Ps.leafOf f _ = _ from ((if_neg (show ¬ (2 : Int) = 1 by decide)).trans (if_pos rfl))))))
  · have HFO := Lib.hid (dot_any HPS3.out (base := w3.heap.size) (Nat.le_refl _))
    go_wp2_with fail
    rw [HW3.out, HTB.out]
    refine HFO.out.mono ?_
    rintro e w5 ⟨fa, fc, rfl, hfl, hb35⟩
    have h35 := hb35.size
    go_wp2_with fail
    refine (set_any (base := w3.heap.size) w5 (by omega) _ fa fc hfl).mono ?_
    rintro e wS ⟨cs, rfl, hx, hb6⟩
    have hbS := hb35.trans (hb6.mono hb35.size)
    clear hb6 hfl hb35
    have HPX := Lib.hid hx
    have HBX := Lib.hid hbS
    obtain ⟨u0, u1, u2, u3, u4, u5, u6, u7, sa, sc, ia, ic, hcs, F⟩ := hx.is.form_of
    subst hcs
    obtain ⟨rfl, rfl, rfl, rfl, rfl, rfl, rfl, rfl⟩ := F
    have hrS := (hbS.block _ hlr3).trans HR3.out
    have HRS := Lib.hid hrS
    obtain ⟨d0, d1, d2, d3, d4, d5, d6, d7, g0, g1, g2, g3, g4, g5, g6, g7⟩ := box_facts hrS
    clear hx hbS hrS
    go_wp2
    (try simp only [Exit.inBlock, Exit.then])
    refine ret_nd1 rfl W.heap.size _ rfl (set8_blk _ _ _ _ _ _ _ _ _ _ HRS.out) rfl rfl ?_
    exact leaf_out hB hP hlr3 HG3.out HPS3.out HBX.out HPX.out (HAP.out.trans ((if_neg (show ¬ (3 : Int) = 9 by decide)).trans (congrArg (fun x => Ps.PR.ok x M f g) (show Ps.leafOf f _ = _ from ((if_neg (show ¬ (3 : Int) = 1 by decide)).trans ((if_neg (show ¬ (3 : Int) = 2 by decide)).trans (if_pos rfl)))))))
  · skip
    have hD := fun o : Obj => box_facts (heap_alloc_oldp (x := o) HR2.out)
    have d0 := fun o => (hD o).1
    have d1 := fun o => (hD o).2.1
    have d2 := fun o => (hD o).2.2.1
    have d3 := fun o => (hD o).2.2.2.1
    have d4 := fun o => (hD o).2.2.2.2.1
    have d5 := fun o => (hD o).2.2.2.2.2.1
    have d6 := fun o => (hD o).2.2.2.2.2.2.1
    have d7 := fun o => (hD o).2.2.2.2.2.2.2.1
    have g0 := fun o => (hD o).2.2.2.2.2.2.2.2.1
    have g1 := fun o => (hD o).2.2.2.2.2.2.2.2.2.1
    have g2 := fun o => (hD o).2.2.2.2.2.2.2.2.2.2.1
    have g3 := fun o => (hD o).2.2.2.2.2.2.2.2.2.2.2.1
    have g4 := fun o => (hD o).2.2.2.2.2.2.2.2.2.2.2.2.1
    have g5 := fun o => (hD o).2.2.2.2.2.2.2.2.2.2.2.2.2.1
    have g6 := fun o => (hD o).2.2.2.2.2.2.2.2.2.2.2.2.2.2.1
    have g7 := fun o => (hD o).2.2.2.2.2.2.2.2.2.2.2.2.2.2.2
    clear hD
    go_wp2
    rw [HW3.out]
    (try simp only [Exit.inBlock, Exit.then])
    refine ret_nd1 rfl W.heap.size _ rfl (set8_blk _ _ _ _ _ _ _ _ _ _ HR3.out) rfl rfl ?_
    exact leaf_out (x := Ps.leafN 4 0) hB hP hlr3 HG3.out HPS3.out (Below.refl _ _) (.mk (fun _ => []) ⟨i64_lit _ (by decide), i64_lit _ (by decide), i64_lit _ (by decide), i64_lit _ (by decide)⟩ RRowOn.nil (by decide) (by decide) (fun j hj => absurd hj (by simp)) (fun j hj => absurd hj (by simp))) (HAP.out.trans ((if_neg (show ¬ (4 : Int) = 9 by decide)).trans (congrArg (fun x => Ps.PR.ok x M f g) (show Ps.leafOf f _ = _ from ((if_neg (show ¬ (4 : Int) = 1 by decide)).trans ((if_neg (show ¬ (4 : Int) = 2 by decide)).trans ((if_neg (show ¬ (4 : Int) = 3 by decide)).trans (if_pos rfl))))))))
  · have HAS := Lib.hid (assertion_any (lo := lo) (B := B) (P0 := P0) (base := w3.heap.size) w3 (Nat.le_refl _) num hnum)
    go_wp2_with fail
    rw [HW3.out, HTB.out]
    refine HAS.out.mono ?_
    rintro e wS ⟨cs, rfl, hx, hbS⟩
    have HPX := Lib.hid hx
    have HBX := Lib.hid hbS
    obtain ⟨u0, u1, u2, u3, u4, u5, u6, u7, sa, sc, ia, ic, hcs, F⟩ := hx.is.form_of
    subst hcs
    obtain ⟨rfl, rfl, rfl, rfl, rfl, rfl, rfl, rfl⟩ := F
    have hrS := (hbS.block _ hlr3).trans HR3.out
    have HRS := Lib.hid hrS
    obtain ⟨d0, d1, d2, d3, d4, d5, d6, d7, g0, g1, g2, g3, g4, g5, g6, g7⟩ := box_facts hrS
    clear hx hbS hrS
    go_wp2
    (try simp only [Exit.inBlock, Exit.then])
    refine ret_nd1 rfl W.heap.size _ rfl (set8_blk _ _ _ _ _ _ _ _ _ _ HRS.out) rfl rfl ?_
    exact leaf_out hB hP hlr3 HG3.out HPS3.out HBX.out HPX.out (HAP.out.trans ((if_neg (show ¬ (5 : Int) = 9 by decide)).trans (congrArg (fun x => Ps.PR.ok x M f g) (show Ps.leafOf f _ = _ from ((if_neg (show ¬ (5 : Int) = 1 by decide)).trans ((if_neg (show ¬ (5 : Int) = 2 by decide)).trans ((if_neg (show ¬ (5 : Int) = 3 by decide)).trans ((if_neg (show ¬ (5 : Int) = 4 by decide)).trans (if_pos rfl)))))))))
  · have HLO := Lib.hid (lineOr_any HPS3.out 3 1)
    have hiq : I64 (if Ps.hasP f 2 then 3 else 1) := by split <;> exact i64_lit _ (by decide)
    have HAS := Lib.hid (assertion_any (lo := lo) (B := B) (P0 := P0) (base := w3.heap.size) w3 (Nat.le_refl _) _ hiq)
    clear hiq
    obtain ⟨q, hq⟩ : ∃ q : Int, (if Ps.hasP f 2 then 3 else 1) = q := ⟨_, rfl⟩
    rw [hq] at HLO HAS
    have HQ := Lib.hid hq
    clear hq
    go_wp2_with fail
    rw [HW3.out, HTB.out]
    refine HLO.out.mono ?_
    rintro e w5 ⟨rfl, rfl⟩
    go_wp2_with fail
    refine HAS.out.mono ?_
    rintro e wS ⟨cs, rfl, hx, hbS⟩
    have HPX := Lib.hid hx
    have HBX := Lib.hid hbS
    obtain ⟨u0, u1, u2, u3, u4, u5, u6, u7, sa, sc, ia, ic, hcs, F⟩ := hx.is.form_of
    subst hcs
    obtain ⟨rfl, rfl, rfl, rfl, rfl, rfl, rfl, rfl⟩ := F
    have hrS := (hbS.block _ hlr3).trans HR3.out
    have HRS := Lib.hid hrS
    obtain ⟨d0, d1, d2, d3, d4, d5, d6, d7, g0, g1, g2, g3, g4, g5, g6, g7⟩ := box_facts hrS
    clear hx hbS hrS
    go_wp2
    (try simp only [Exit.inBlock, Exit.then])
    refine ret_nd1 rfl W.heap.size _ rfl (set8_blk _ _ _ _ _ _ _ _ _ _ HRS.out) rfl rfl ?_
    exact leaf_out hB hP hlr3 HG3.out HPS3.out HBX.out HPX.out (HAP.out.trans ((if_neg (show ¬ (6 : Int) = 9 by decide)).trans (congrArg (fun x => Ps.PR.ok x M f g) (Eq.trans (show Ps.leafOf f _ = _ from ((if_neg (show ¬ (6 : Int) = 1 by decide)).trans ((if_neg (show ¬ (6 : Int) = 2 by decide)).trans ((if_neg (show ¬ (6 : Int) = 3 by decide)).trans ((if_neg (show ¬ (6 : Int) = 4 by decide)).trans ((if_neg (show ¬ (6 : Int) = 5 by decide)).trans (if_pos rfl))))))) ((congrArg (Ps.leafN 5) HQ.out))))))
  · have HLO := Lib.hid (lineOr_any HPS3.out 4 2)
    have hiq : I64 (if Ps.hasP f 2 then 4 else 2) := by split <;> exact i64_lit _ (by decide)
    have HAS := Lib.hid (assertion_any (lo := lo) (B := B) (P0 := P0) (base := w3.heap.size) w3 (Nat.le_refl _) _ hiq)
    clear hiq
    obtain ⟨q, hq⟩ : ∃ q : Int, (if Ps.hasP f 2 then 4 else 2) = q := ⟨_, rfl⟩
    rw [hq] at HLO HAS
    have HQ := Lib.hid hq
    clear hq
    go_wp2_with fail
    rw [HW3.out, HTB.out]
    refine HLO.out.mono ?_
    rintro e w5 ⟨rfl, rfl⟩
    go_wp2_with fail
    refine HAS.out.mono ?_
    rintro e wS ⟨cs, rfl, hx, hbS⟩
    have HPX := Lib.hid hx
    have HBX := Lib.hid hbS
    obtain ⟨u0, u1, u2, u3, u4, u5, u6, u7, sa, sc, ia, ic, hcs, F⟩ := hx.is.form_of
    subst hcs
    obtain ⟨rfl, rfl, rfl, rfl, rfl, rfl, rfl, rfl⟩ := F
    have hrS := (hbS.block _ hlr3).trans HR3.out
    have HRS := Lib.hid hrS
    obtain ⟨d0, d1, d2, d3, d4, d5, d6, d7, g0, g1, g2, g3, g4, g5, g6, g7⟩ := box_facts hrS
    clear hx hbS hrS
    go_wp2
    (try simp only [Exit.inBlock, Exit.then])
    refine ret_nd1 rfl W.heap.size _ rfl (set8_blk _ _ _ _ _ _ _ _ _ _ HRS.out) rfl rfl ?_
    exact leaf_out hB hP hlr3 HG3.out HPS3.out HBX.out HPX.out (HAP.out.trans ((if_neg (show ¬ (7 : Int) = 9 by decide)).trans (congrArg (fun x => Ps.PR.ok x M f g) (Eq.trans (show Ps.leafOf f _ = _ from ((if_neg (show ¬ (7 : Int) = 1 by decide)).trans ((if_neg (show ¬ (7 : Int) = 2 by decide)).trans ((if_neg (show ¬ (7 : Int) = 3 by decide)).trans ((if_neg (show ¬ (7 : Int) = 4 by decide)).trans ((if_neg (show ¬ (7 : Int) = 5 by decide)).trans ((if_neg (show ¬ (7 : Int) = 6 by decide)).trans (if_pos rfl)))))))) ((congrArg (Ps.leafN 5) HQ.out))))))
  · have HGP := Lib.hid (group_any W0 k HI.out m HPS3.out HEV.out hkM hnM HTOK.out rfl hgM va out.length vc)
    have HAP9 := Lib.hid (HAP.out.trans (if_pos rfl))
    obtain ⟨R, hR⟩ : ∃ R, groupR m (at_, { kind := 9, num := num, name := nm, mn := mn, mx := mx, lazy := lz, cls := cl }) M f g = R := ⟨_, rfl⟩
    rw [hR] at HGP HAP9
    clear hR
    go_wp2_with fail
    rw [HW3.out, HTB.out]
    refine HGP.out.mono ?_
    rintro e w5 ⟨hg35, h5⟩
    rcases h5 with ⟨ba, bc, rfl, rfl⟩ | ⟨x, L', f', g', cs, v5, rfl, rfl, hx, hps5⟩
    · exact ⟨rfl, grown_trans HG3.out hg35, .inl ⟨ba, bc, HAP9.out, rfl⟩⟩
    · have HPX := Lib.hid hx
      have HP5 := Lib.hid hps5
      have HG5 := Lib.hid (grown_trans HG3.out hg35)
      obtain ⟨u0, u1, u2, u3, u4, u5, u6, u7, sa, sc, ia, ic, hcs, F⟩ := hx.is.form_of
      subst hcs
      obtain ⟨rfl, rfl, rfl, rfl, rfl, rfl, rfl, rfl⟩ := F
      have hrS := box_gr HR3.out hg35 hrB
      have HRS := Lib.hid hrS
      obtain ⟨d0, d1, d2, d3, d4, d5, d6, d7, g0, g1, g2, g3, g4, g5, g6, g7⟩ := box_facts hrS
      clear hx hps5 hg35 hrS
      go_wp2
      (try simp only [Exit.inBlock, Exit.then])
      refine ret_nd1 rfl W.heap.size _ rfl (set8_blk _ _ _ _ _ _ _ _ _ _ HRS.out) rfl rfl ?_
      refine ⟨set8_grown HG5.out _ (Nat.le_refl _) _ _ _ _ _ _ _ _, .inr ⟨x, L', f', g', _, v5, HAP9.out, rfl, NdP.lower (base := w3.heap.size) (by omega) (HPX.out.to (by rw [set8_size]; exact Nat.le_refl _) (fun b hbb hlt => set8_other _ _ _ _ _ _ _ _ _ _ b (by rcases hbb with h | h <;> omega))), HP5.out.other (by rw [set8_size]; exact Nat.le_refl _) (fun b hbb => set8_other _ _ _ _ _ _ _ _ _ _ b (by omega))⟩⟩
  · obtain ⟨c0, c1, c2, z0, z1, z2⟩ := HPS3.out.cells
    obtain ⟨Ys, yn, hbk⟩ := h13 rfl
    have HBR := Lib.hid (fun w (hw : Ev w) => brkt_any (lo := lo) (B := B) (P0 := P0) (base := w3.heap.size) w nm hnm f hw ⟨Ys, yn, hbk⟩)
    have hgd : w3.grownBy w3.drew (some B) := grown_drew (grown_refl _ _)
    have HED := Lib.hid (HEV.out.grown hgd).ev
    clear hbk h13 hgd
    go_wp2_with fail
    rw [HW3.out, HTB.out]
    go_region_with (go_at_call 57; refine (HBR.out _ HED.out (Nat.le_refl _)).mono ?_; rintro e w5 ⟨fa, fc, out5, at5, rfl, hfl, hbl, hb35'⟩)
    all_goals
      have hb35 : Below w3.heap.size w3 w5 := ((Below.refl _ w3).grown (grown_drew (grown_refl w3 none)) (Nat.le_refl _) (fun k e => by cases e)).trans hb35'
      have HBL := Lib.hid hbl
      have h35 := hb35.size
      clear hbl hb35' c0 c1 c2 z0 z1 z2
      go_wp2_with fail
      refine (set_any (base := w3.heap.size) w5 (by omega) _ fa fc hfl).mono ?_
      rintro e wS ⟨cs, rfl, hx, hb6⟩
      have hbS := hb35.trans (hb6.mono hb35.size)
      clear hb6 hfl hb35
      rw [← HBL.out] at hx
      have HPX := Lib.hid hx
      have HBX := Lib.hid hbS
      obtain ⟨u0, u1, u2, u3, u4, u5, u6, u7, sa, sc, ia, ic, hcs, F⟩ := hx.is.form_of
      subst hcs
      obtain ⟨rfl, rfl, rfl, rfl, rfl, rfl, rfl, rfl⟩ := F
      have hrS := (hbS.block _ hlr3).trans HR3.out
      have HRS := Lib.hid hrS
      obtain ⟨d0, d1, d2, d3, d4, d5, d6, d7, g0, g1, g2, g3, g4, g5, g6, g7⟩ := box_facts hrS
      clear hx hbS hrS
      go_wp2
      (try simp only [Exit.inBlock, Exit.then])
      refine ret_nd1 rfl W.heap.size _ rfl (set8_blk _ _ _ _ _ _ _ _ _ _ HRS.out) rfl rfl ?_
      exact leaf_out hB hP hlr3 HG3.out HPS3.out HBX.out HPX.out (HAP.out.trans ((if_neg (show ¬ (13 : Int) = 9 by decide)).trans (congrArg (fun x => Ps.PR.ok x M f g) (show Ps.leafOf f _ = _ from ((if_neg (show ¬ (13 : Int) = 1 by decide)).trans ((if_neg (show ¬ (13 : Int) = 2 by decide)).trans ((if_neg (show ¬ (13 : Int) = 3 by decide)).trans ((if_neg (show ¬ (13 : Int) = 4 by decide)).trans ((if_neg (show ¬ (13 : Int) = 5 by decide)).trans ((if_neg (show ¬ (13 : Int) = 6 by decide)).trans ((if_neg (show ¬ (13 : Int) = 7 by decide)).trans rfl)))))))))))
end Go.Proofs.YtanffablfgnioaaGreatDoor
