/- The landed parse: repeated. · The landed parse: group, by what alternatives hands back. -/
import Derived.Test.YtdcielcniboloaaGreatDoorGp21
namespace Go.Proofs.YtdcielcniboloaaGreatDoor
open Go.RowKit
open Lx (Tk)
open Ps (TL)
set_option linter.unusedVariables false
theorem NdP.to {lo B P0 base : Nat} {W W' : World} {x : Nd} {cs : List Value} (h : NdP lo B P0 base W x cs) (hs : W.heap.size ≤ W'.heap.size) (hk : ∀ b, Sb lo B P0 base b → b < W.heap.size → W'.heap[b]? = W.heap[b]?) : NdP lo B P0 base W' x cs :=
  (NdOn.kept hs (fun b hb hlt => hk b hb.1 hlt) h).mono (fun b hb => ⟨hb.1, Nat.lt_of_lt_of_le hb.2 hs⟩)
theorem PSt.other {W W' : World} {lo B P0 : Nat} {v : Value} {L : TL} {f g : Int} (h : PSt lo W B P0 v L f g) (hs : W.heap.size ≤ W'.heap.size) (hk : ∀ b, b < P0 → W'.heap[b]? = W.heap[b]?) : PSt lo W' B P0 v L f g :=
  ⟨(hk B h.hB).trans h.box, h.row.kept hs (fun b hb _ => hk b hb.1), h.ends, h.tok, h.hB, Nat.le_trans h.hP hs, h.len, h.g0, h.g1⟩
theorem set8_grown {W w : World} {o : Option Nat} (h : W.grownBy w o) (B : Nat) (hB : W.heap.size ≤ B) (v0 v1 v2 v3 v4 v5 v6 v7 : Value) : W.grownBy ((((((((w.setCell ⟨B, 0, none⟩ v0).setCell ⟨B, 1, none⟩ v1).setCell ⟨B, 2, none⟩ v2).setCell ⟨B, 3, none⟩ v3).setCell ⟨B, 4, none⟩ v4).setCell ⟨B, 5, none⟩ v5).setCell ⟨B, 6, none⟩ v6).setCell ⟨B, 7, none⟩ v7) o :=
  grown_set (grown_set (grown_set (grown_set (grown_set (grown_set (grown_set (grown_set h _ _ (.inl hB)) _ _ (.inl hB)) _ _ (.inl hB)) _ _ (.inl hB)) _ _ (.inl hB)) _ _ (.inl hB)) _ _ (.inl hB)) _ _ (.inl hB)
/-- A node around one tree, whose cells lie in a row of their own. -/
theorem nd_lit {lo B P0 base : Nat} {W WF : World} {x : Nd} {cs : List Value} (hx : NdP lo B P0 base W x cs) (hs : W.heap.size ≤ WF.heap.size) (hk : ∀ b, Sb lo B P0 base b → b < W.heap.size → WF.heap[b]? = W.heap[b]?) (g : Nat) (hg : base ≤ g) (hrow : WF.heap[g]? = some (.cells cs.toArray 26 (0, 0)))
    {k num mn mx : Int} {name : ByteArray} {lz : Bool} (hi : I64 k ∧ I64 num ∧ I64 mn ∧ I64 mx) (hname : name.size ≤ 140737488351232) (cap : Nat) :
    NdP lo B P0 base WF (.mk k [] num name mn mx lz [x]) [.int .i64 k, .slice none 0 0, .int .i64 num, .string name, .int .i64 mn, .int .i64 mx, .bool lz, .slice (some ⟨g, 0, none⟩) 1 cap] := by
  have h1 : NdsOn (fun b => Sb lo B P0 base b ∧ b < WF.heap.size) WF [x] [cs] := by simpa using (NdsOn.nil (fun b => Sb lo B P0 base b ∧ b < WF.heap.size) WF).snoc (hx.to hs hk)
  exact NdOn.row (X := [cs]) h1 (S := fun b => Sb lo B P0 base b ∧ b < WF.heap.size) (g := g) ⟨.inr hg, (Array.getElem?_eq_some_iff.1 hrow).1⟩ hrow (fun j hj => by simp) (by simp) hi RRowOn.nil hname
/-- A tree handed back, and where the parser stands. -/
def TreeQ (lo B P0 base : Nat) (x : Nd) (L : TL) (f g : Int) (W : World) (e : Ending) (w' : World) : Prop :=
  ∃ cs v', e = .returned (.agg cs.toArray) ∧ NdP lo B P0 base w' x cs ∧ PSt lo w' B P0 v' L f g ∧ W.grownBy w' (some B)
set_option maxRecDepth 100000 in
set_option maxHeartbeats 4000000 in
theorem repeated_any {W : World} {lo B P0 base : Nat} {v : Value} {L : TL} {f g : Int} (h : PSt lo W B P0 v L f g) (hb : base ≤ W.heap.size) (hP : P0 ≤ base) (x : Nd) (cs : List Value) (hx : NdP lo B P0 base W x cs) :
    Calls Tryz.prog 125 #[.pointer (some ⟨B, 0, none⟩), .agg cs.toArray] W (TreeQ lo B P0 base (Ps.repN f x L) (Ps.repT L) f g W) := by
  obtain ⟨u0, u1, u2, u3, u4, u5, u6, u7, sa, sc, a, c, hcs, F⟩ := hx.is.form_of
  subst hcs
  obtain ⟨rfl, rfl, rfl, rfl, rfl, rfl, rfl, rfl⟩ := F
  obtain ⟨w1, hw1⟩ : ∃ w1, (W.alloc (.cells #[.int .i64 (Td.kind x), .slice sa (Td.set x).length sc, .int .i64 (Td.num x), .string (Td.name x), .int .i64 (Td.mn x), .int .i64 (Td.mx x), .bool (Td.lazy x), .slice a (Td.subs x).length c] 26)).alloc (.cells #[.int .i64 0, .slice none 0 0, .int .i64 0, .string ⟨#[]⟩, .int .i64 0, .int .i64 0, .bool false, .slice none 0 0] 26) = w1 := ⟨_, rfl⟩
  have hb1 : Below W.heap.size W w1 := by rw [← hw1]; exact ((Below.refl _ _).alloc (Nat.le_refl _) _).alloc (by simp) _
  have hnew : w1.heap[W.heap.size]? = some (.cells #[.int .i64 (Td.kind x), .slice sa (Td.set x).length sc, .int .i64 (Td.num x), .string (Td.name x), .int .i64 (Td.mn x), .int .i64 (Td.mx x), .bool (Td.lazy x), .slice a (Td.subs x).length c] 26 (0, 0)) := by rw [← hw1]; exact (Below.heap_alloc _ _ _ (by simp)).trans (heap_alloc_new _ _)
  have hres : w1.heap[W.heap.size + 1]? = some (.cells #[.int .i64 0, .slice none 0 0, .int .i64 0, .string ⟨#[]⟩, .int .i64 0, .int .i64 0, .bool false, .slice none 0 0] 26 (0, 0)) := by rw [← hw1]; exact heap_alloc_new' _ _ _ (by simp)
  have HRS := Lib.hid hres
  clear hres
  have H := Lib.hid h
  have HX := Lib.hid hx
  have HB1 := Lib.hid hb1
  have HN := Lib.hid hnew
  have HW1 := Lib.hid hw1
  have HP1 := Lib.hid (h.below hb1)
  have HK := Lib.hid (kind_any (h.below hb1))
  clear h hx hb1 hnew hw1
  by_cases h8 : Ps.kd L = 8
  · obtain ⟨p, M, rfl⟩ := H.out.cons
    have hp8 : p.2.kind = 8 := h8
    have hr1 : Ps.repT (p :: M) = M := by unfold Ps.repT; rw [if_pos h8]; rfl
    have hr2 : Ps.repN f x (p :: M) = .mk 9 [] 0 ⟨#[]⟩ p.2.mn p.2.mx (p.2.lazy != Ps.hasP f 8) [x] := by unfold Ps.repN; rw [if_pos h8]; rfl
    have htok := H.out.tok p (by simp)
    have k8 : (Ps.kd (p :: M) != 8) = false := by rw [h8]; rfl
    rw [h8] at HK
    rw [hr1, hr2]
    have HNX := Lib.hid (next_any HP1.out (by omega))
    have HT := Lib.hid htok
    clear h8 hr1 hr2 htok k8 hp8
    go_enter Tryz.func125, Tryz.ntmps125
    go_wp2_with fail
    rw [HW1.out]
    refine HK.out.mono ?_
    rintro e w2 ⟨rfl, rfl⟩
    go_wp2_with fail
    refine HNX.out.mono ?_
    rintro e w3 ⟨va, vl, vc, out, v', rfl, hs1, hs2, hs3, hps, hg⟩
    have HPS := Lib.hid hps
    have HG := Lib.hid hg
    have HF := Lib.hid (fun W' (h : PSt lo W' B P0 v' M f g) => hasFlag_any h 8)
    have hne : W.heap.size ≠ B ∧ W.heap.size + 1 ≠ B := by have := H.out.hB; have := H.out.hP; omega
    have hN3 := (hg.block _ (Array.getElem?_eq_some_iff.1 HN.out).1 (fun e => hne.1 (by injection e))).trans HN.out
    have hR3 := (hg.block _ (Array.getElem?_eq_some_iff.1 HRS.out).1 (fun e => hne.2 (by injection e))).trans HRS.out
    have HN3 := Lib.hid hN3
    have HR3 := Lib.hid hR3
    clear hs1 hs2 hs3 hps hg hN3 hR3 hne
    unfold tkV
    obtain ⟨w4, hw4⟩ : ∃ w4, w3.alloc (.cells #[.int .i64 p.2.kind, .int .i64 p.1, .int .i64 p.2.num, .string p.2.name, .int .i64 p.2.mn, .int .i64 p.2.mx, .bool p.2.lazy, .slice va vl vc] 37) = w4 := ⟨_, rfl⟩
    have hb4 : Below w3.heap.size w3 w4 := by rw [← hw4]; exact (Below.refl _ _).alloc (Nat.le_refl _) _
    have htk : w4.heap[w3.heap.size]? = some (.cells #[.int .i64 p.2.kind, .int .i64 p.1, .int .i64 p.2.num, .string p.2.name, .int .i64 p.2.mn, .int .i64 p.2.mx, .bool p.2.lazy, .slice va vl vc] 37 (0, 0)) := by rw [← hw4]; exact heap_alloc_new _ _
    have HPS4 := Lib.hid (HPS.out.below hb4)
    have HQ := Lib.hid (fun n => hasFlag_any (HPS4.out.other (W' := w4.drewN n) (Nat.le_refl _) (fun b hb => rfl)) 8)
    have HB4 := Lib.hid hb4
    have HN4 := Lib.hid ((hb4.block _ (Array.getElem?_eq_some_iff.1 HN3.out).1).trans HN3.out)
    have HR4 := Lib.hid ((hb4.block _ (Array.getElem?_eq_some_iff.1 HR3.out).1).trans HR3.out)
    have HTK := Lib.hid htk
    obtain ⟨t0, ht0⟩ : ∃ t0, w3.heap.size = t0 := ⟨_, rfl⟩
    have HT0 := Lib.hid ht0
    have t6 : w4.cell? ⟨t0, 6, none⟩ = some (.bool p.2.lazy) := by rw [← ht0]; simp [World.cell?, htk]
    have t4 : w4.cell? ⟨t0, 4, none⟩ = some (.int .i64 p.2.mn) := by rw [← ht0]; simp [World.cell?, htk]
    have t5 : w4.cell? ⟨t0, 5, none⟩ = some (.int .i64 p.2.mx) := by rw [← ht0]; simp [World.cell?, htk]
    have HW4 := Lib.hid hw4
    clear hb4 htk hw4 ht0
    go_wp2_with fail
    rw [HW4.out, HT0.out]
    obtain ⟨q, hq⟩ : ∃ q, Ps.hasP f 8 = q := ⟨_, rfl⟩
    have HQQ := Lib.hid hq
    rw [hq] at HQ
    clear hq
    go_quiet ((go_at_call 161; exact Calls.quiet_of_same (HQ.out _)))
    obtain ⟨w5, hw5⟩ : ∃ w5, w4.drewN nq = w5 := ⟨_, rfl⟩
    have h5 : w5.heap = w4.heap := by rw [← hw5]; rfl
    have HN5 := Lib.hid ((congrArg (·[W.heap.size]?) h5).trans HN4.out)
    have HR5 := Lib.hid ((congrArg (·[W.heap.size + 1]?) h5).trans HR4.out)
    obtain ⟨n0, n1, n2, n3, n4, n5, n6, n7, _⟩ := box_facts HN5.out
    have hrl5 := (Array.getElem?_eq_some_iff.1 HR5.out).1
    have hD := fun o : Obj => box_facts ((Below.heap_alloc w5 o _ hrl5).trans HR5.out)
    have d0 := fun o => (hD o).1
    have d1 := fun o => (hD o).2.1
    have d2 := fun o => (hD o).2.2.1
    have d3 := fun o => (hD o).2.2.2.1
    have d4 := fun o => (hD o).2.2.2.2.1
    have d5 := fun o => (hD o).2.2.2.2.2.1
    have d6 := fun o => (hD o).2.2.2.2.2.2.1
    have d7 := fun o => (hD o).2.2.2.2.2.2.2.1
    have g0 := fun o => (hD o).2.2.2.2.2.2.2.2.1
    have g1 := fun o => (hD o).2.2.2.2.2.2.2.2.2.1
    have g2 := fun o => (hD o).2.2.2.2.2.2.2.2.2.2.1
    have g3 := fun o => (hD o).2.2.2.2.2.2.2.2.2.2.2.1
    have g4 := fun o => (hD o).2.2.2.2.2.2.2.2.2.2.2.2.1
    have g5 := fun o => (hD o).2.2.2.2.2.2.2.2.2.2.2.2.2.1
    have g6 := fun o => (hD o).2.2.2.2.2.2.2.2.2.2.2.2.2.2.1
    have g7 := fun o => (hD o).2.2.2.2.2.2.2.2.2.2.2.2.2.2.2
    have u4 : w5.cell? ⟨t0, 4, none⟩ = some (.int .i64 p.2.mn) := by rw [← hw5]; exact t4
    have u5 : w5.cell? ⟨t0, 5, none⟩ = some (.int .i64 p.2.mx) := by rw [← hw5]; exact t5
    rw [hw5]
    have HPS5 := Lib.hid (HPS4.out.other (W' := w5) (by rw [h5]; exact Nat.le_refl _) (fun b hb => by rw [h5]))
    have HG5 : Hid (W.grownBy w5 (some B)) := Lib.hid (grown_trans (below_grown (n := 0) HB1.out _) (grown_trans HG.out (grown_trans (below_grown (n := 0) HB4.out _) (by rw [← hw5]; exact ⟨rfl, rfl, rfl, Nat.le_refl _, fun _ _ _ => rfl⟩))))
    clear hw5 h5 t4 t5 t6 hD hrl5
    go_wp2
    (try simp only [Exit.inBlock, Exit.then])
    obtain ⟨X, hX⟩ : ∃ X : Obj, X = .cells #[.int .i64 (Td.kind x), .slice sa (Td.set x).length sc, .int .i64 (Td.num x), .string (Td.name x), .int .i64 (Td.mn x), .int .i64 (Td.mx x), .bool (Td.lazy x), .slice a (Td.subs x).length c] 26 := ⟨_, rfl⟩
    rw [← hX]
    have hP0 := H.out.hP
    have hB0 := H.out.hB
    have hs5 := HG5.out.size
    have hr5 := (Array.getElem?_eq_some_iff.1 HR5.out).1
    have hrb : (w5.alloc X).heap[W.heap.size + 1]? = some (.cells #[.int .i64 0, .slice none 0 0, .int .i64 0, .string ⟨#[]⟩, .int .i64 0, .int .i64 0, .bool false, .slice none 0 0] 26 (0, 0)) := (Below.heap_alloc w5 X _ hr5).trans HR5.out
    refine ret_nd1 rfl (W.heap.size + 1) _ rfl (set8_blk _ _ _ _ _ _ _ _ _ _ hrb) rfl rfl ?_
    have hga := grown_alloc HG5.out X
    have hgf := set8_grown hga (W.heap.size + 1) (by omega) (.int .i64 9) (.slice none 0 0) (.int .i64 0) (.string ⟨#[]⟩) (.int .i64 p.2.mn) (.int .i64 p.2.mx) (.bool !p.2.lazy == q) (.slice (some ⟨w5.heap.size, 0, none⟩) 1 1)
    refine ⟨_, v', rfl, ?_, ?_, hgf⟩
    · rw [show (p.2.lazy != Ps.hasP f 8) = (!p.2.lazy == q) from by rw [HQQ.out]; rfl]
      refine nd_lit HX.out hgf.size (fun b hb hlt => hgf.block b hlt (fun e => (hb.ne hB0 hP) (by injection e))) w5.heap.size (by omega) ?_ ⟨i64_lit _ (by decide), i64_lit _ (by decide), HT.out.2.2.1, HT.out.2.2.2.1⟩ (by decide) 1
      refine (set8_other _ _ _ _ _ _ _ _ _ _ _ (by omega)).trans ?_
      rw [hX]; exact heap_alloc_new w5 _
    · refine HPS5.out.other (by rw [set8_size]; simp) (fun b hb => (set8_other _ _ _ _ _ _ _ _ _ _ b (by omega)).trans (Below.heap_alloc w5 X b (by omega)))
  · have hr1 : Ps.repT L = L := by unfold Ps.repT; rw [if_neg h8]
    have hr2 : Ps.repN f x L = x := by unfold Ps.repN; rw [if_neg h8]
    have k8 : (Ps.kd L != 8) = true := by simpa using h8
    rw [hr1, hr2]
    obtain ⟨K, hK⟩ : ∃ K, Ps.kd L = K := ⟨_, rfl⟩
    rw [hK] at HK k8
    clear h8 hr1 hr2 hK
    go_enter Tryz.func125, Tryz.ntmps125
    go_wp2_with fail
    rw [HW1.out]
    refine HK.out.mono ?_
    rintro e w2 ⟨rfl, rfl⟩
    obtain ⟨n0, n1, n2, n3, n4, n5, n6, n7, _⟩ := box_facts HN.out
    obtain ⟨d0, d1, d2, d3, d4, d5, d6, d7, g0, g1, g2, g3, g4, g5, g6, g7⟩ := box_facts HRS.out
    go_wp2
    (try simp only [Exit.inBlock, Exit.then])
    refine ret_nd1 rfl (W.heap.size + 1) _ rfl (set8_blk _ _ _ _ _ _ _ _ _ _ HRS.out) rfl rfl ?_
    have hP0 := H.out.hP
    refine ⟨_, v, rfl, NdP.to HX.out (by rw [set8_size]; exact HB1.out.size) (fun b hb hlt => (set8_other _ _ _ _ _ _ _ _ _ _ b (by omega)).trans (HB1.out.block b hlt)), PSt.other HP1.out (by rw [set8_size]; exact Nat.le_refl _) (fun b hb => set8_other _ _ _ _ _ _ _ _ _ _ b (by omega)), set8_grown (below_grown (n := 0) HB1.out _) _ (by omega) _ _ _ _ _ _ _ _⟩
end Go.Proofs.YtdcielcniboloaaGreatDoor
namespace Go.Proofs.YtdcielcniboloaaGreatDoor
open Go.RowKit
open Lx (Tk)
open Ps (TL)
set_option linter.unusedVariables false
/-- The listed variables, in whatever world of a parsing. -/
def PEv (W0 : World) (B : Nat) (W : World) : Prop := Ev W0 ∧ W0.heap.size ≤ B ∧ Below W0.heap.size W0 W
theorem PEv.ev {W0 W : World} {B : Nat} (h : PEv W0 B W) : Ev W := h.1.below (Nat.le_refl _) h.2.2
theorem PEv.grown {W0 W W' : World} {B : Nat} (h : PEv W0 B W) (hg : W.grownBy W' (some B)) : PEv W0 B W' :=
  ⟨h.1, h.2.1, h.2.2.grown hg h.2.2.size (fun k e => by injection e with e; rw [← e]; exact h.2.1)⟩
abbrev failV (a c : Int) : PanicEntry := { v := .iface 88 (.agg #[.int .i64 a, .int .i64 c]), recovered := false }
/-- What a part of the parser hands back, or the error that it leaves by. -/
def ParQ (lo B P0 : Nat) (R : Ps.PR) (W : World) (e : Ending) (w' : World) : Prop :=
  W.grownBy w' (some B) ∧ ((∃ a c, R = .bad a c ∧ e = .panicked [failV a c]) ∨
    ∃ x L' f' g' cs v', R = .ok x L' f' g' ∧ e = .returned (.agg cs.toArray) ∧ NdP lo B P0 W.heap.size w' x cs ∧ PSt lo w' B P0 v' L' f' g')
/-- Alternatives, of so many tokens at most. -/
def AltOK (W0 : World) (k : Nat) : Prop := ∀ (W : World) (lo B P0 : Nat) (v : Value) (L : TL) (f g : Int) (n : Nat), L.length ≤ k → 3 * L.length + 3 ≤ n → PSt lo W B P0 v L f g → PEv W0 B W →
  Calls Tryz.prog 48 #[.pointer (some ⟨B, 0, none⟩)] W (ParQ lo B P0 (Ps.altP n L f g []) W)
theorem box_gr {w w' : World} {b B : Nat} {o : Obj} (h : w.heap[b]? = some o) (hg : w.grownBy w' (some B)) (hne : b ≠ B) : w'.heap[b]? = some o :=
  (hg.block b (Array.getElem?_eq_some_iff.1 h).1 (fun e => hne (by injection e))).trans h
theorem heap_alloc_oldp {w : World} {b : Nat} {o x : Obj} (h : w.heap[b]? = some o) : (w.alloc x).heap[b]? = some o := (Below.heap_alloc w x b (Array.getElem?_eq_some_iff.1 h).1).trans h
def groupF (R : Ps.PR) (f g num : Int) (nm : ByteArray) : Ps.PR :=
  match R with
  | .bad a e => .bad a e
  | .ok x L' f' g' => if Ps.kd L' = 11 then .ok (if num = 0 then x else .mk 6 [] (g + num) nm 0 0 false [x]) L'.tail f g' else .bad (Ps.pl L') 82
noncomputable def groupR (n : Nat) (p : Int × Tk) (M : TL) (f g : Int) : Ps.PR := groupF (Ps.altP n M (Ps.turnP f p.2) (g + p.2.num) []) f g p.2.num p.2.name
set_option maxRecDepth 100000 in
set_option maxHeartbeats 8000000 in
theorem group_any (W0 : World) (k : Nat) (ih : AltOK W0 k) {W : World} {lo B P0 : Nat} {v : Value} {p : Int × Tk} {M : TL} {f g : Int} (n : Nat) (h : PSt lo W B P0 v M f g) (hE : PEv W0 B W) (hk : M.length ≤ k) (hn : 3 * M.length + 3 ≤ n) (hp : TokOk p) (hp9 : p.2.kind = 9)
    (hg1 : g + 1 + (M.length : Int) ≤ 400000) (va : Option Addr) (vl vc : Nat) :
    Calls Tryz.prog 167 #[.pointer (some ⟨B, 0, none⟩), tkV p.1 p.2 (.slice va vl vc)] W (ParQ lo B P0 (groupR n p M f g) W) := by
  have hp01 := hp.2.2.2.2.2.1 hp9
  have hnm := hp.2.2.2.2.1
  have HI := Lib.hid ih
  have H := Lib.hid h
  have HE := Lib.hid hE
  have hbx := h.box
  have hg0 := h.g0
  have hg9 := h.g1
  have hB := h.hB
  have hP := h.hP
  obtain ⟨a, ⟨kd, num, nm, mn, mx, lz, cl⟩⟩ := p
  obtain rfl : kd = 9 := hp9
  dsimp only at hp01 hnm
  unfold tkV
  dsimp only
  obtain ⟨w1, hw1⟩ : ∃ w1, (W.alloc (.cells #[.int .i64 9, .int .i64 a, .int .i64 num, .string nm, .int .i64 mn, .int .i64 mx, .bool lz, .slice va vl vc] 37)).alloc (.cells #[.int .i64 0, .slice none 0 0, .int .i64 0, .string ⟨#[]⟩, .int .i64 0, .int .i64 0, .bool false, .slice none 0 0] 26) = w1 := ⟨_, rfl⟩
  have hb1 : Below W.heap.size W w1 := by rw [← hw1]; exact ((Below.refl _ _).alloc (Nat.le_refl _) _).alloc (by simp) _
  have hnew : w1.heap[W.heap.size]? = some (.cells #[.int .i64 9, .int .i64 a, .int .i64 num, .string nm, .int .i64 mn, .int .i64 mx, .bool lz, .slice va vl vc] 37 (0, 0)) := by rw [← hw1]; exact (Below.heap_alloc _ _ _ (by simp)).trans (heap_alloc_new _ _)
  have hres : w1.heap[W.heap.size + 1]? = some (.cells #[.int .i64 0, .slice none 0 0, .int .i64 0, .string ⟨#[]⟩, .int .i64 0, .int .i64 0, .bool false, .slice none 0 0] 26 (0, 0)) := by rw [← hw1]; exact heap_alloc_new' _ _ _ (by simp)
  have hbx1 : w1.heap[B]? = some (.cells #[v, .int .i64 f, .int .i64 g] 54 (0, 0)) := (hb1.block _ (by omega)).trans hbx
  have HB1 := Lib.hid hb1
  have HN1 := Lib.hid hnew
  have HR1 := Lib.hid hres
  have HX1 := Lib.hid hbx1
  obtain ⟨tb, htb⟩ : ∃ tb, W.heap.size = tb := ⟨_, rfl⟩
  have HTB := Lib.hid htb
  have t2 : w1.cell? ⟨tb, 2, none⟩ = some (.int .i64 num) := by rw [← htb]; simp [World.cell?, hnew]
  have b2 : w1.cell? ⟨B, 2, none⟩ = some (.int .i64 g) := by simp [World.cell?, hbx1]
  have b1 : w1.cell? ⟨B, 1, none⟩ = some (.int .i64 f) := by simp [World.cell?, hbx1]
  have f2 : w1.frozen? ⟨B, 2, none⟩ = false := by simp [World.frozen?, hbx1]
  have hw2 : IntKind.i64.wrap (g + num) = g + num := by rw [IntKind.wrap_i64]; omega
  have HW1 := Lib.hid hw1
  have HP1 := Lib.hid hp
  clear ih h hE hbx hb1 hnew hres hbx1 hw1 htb hp
  go_enter Tryz.func167, Tryz.ntmps167
  go_wp2_with fail
  rw [HW1.out, HTB.out]
  go_region
  obtain ⟨w2, hw2'⟩ : ∃ w2, (w1.setCell ⟨B, 2, none⟩ (.int .i64 (g + num))).drew = w2 := ⟨_, rfl⟩
  have hg2 : W.grownBy w2 (some B) := by rw [← hw2']; exact grown_drew (grown_set (below_grown (n := 0) HB1.out _) _ _ (.inr rfl))
  have hbx2 : w2.heap[B]? = some (.cells #[v, .int .i64 f, .int .i64 (g + num)] 54 (0, 0)) := by
    have h9 := heap_setCell_same w1 B 2 _ _ (.int .i64 (g + num)) HX1.out
    rw [← hw2']
    show (w1.setCell ⟨B, 2, none⟩ (.int .i64 (g + num))).heap[B]? = _
    simpa using h9
  have hps2 : PSt lo w2 B P0 v M f (g + num) := PSt.turned H.out hg2 hbx2 H.out.row H.out.ends (fun q hq => hq) (Nat.le_refl _) (by omega) (by omega)
  have hne : ∀ b, b ≠ B → w2.heap[b]? = w1.heap[b]? := fun b hb => by rw [← hw2']; exact heap_setCell_other _ _ _ _ hb
  have hN2 := (hne W.heap.size (by omega)).trans HN1.out
  have hR2 := (hne (W.heap.size + 1) (by omega)).trans HR1.out
  rw [HTB.out] at hN2 hR2
  have HG2 := Lib.hid hg2
  have HPS2 := Lib.hid hps2
  have HN2 := Lib.hid hN2
  have HR2 := Lib.hid hR2
  have HTN := Lib.hid (turn_any hps2 a { kind := 9, num := num, name := nm, mn := mn, mx := mx, lazy := lz, cls := cl } va vl vc)
  have hc2 := hps2.cells
  obtain ⟨x0, x1, x2, x3, x4, x5, x6, x7, _⟩ := box_facts hN2
  obtain ⟨c0, c1, c2, z0, z1, z2⟩ := hc2
  rw [hw2']
  clear hw2' hg2 hbx2 hps2 hne hN2 hR2 t2 b2 b1 f2 hw2
  go_wp2_with fail
  refine HTN.out.mono ?_
  rintro e w3 ⟨rfl, hps3, hg3⟩
  have htbB : tb ≠ B ∧ tb + 1 ≠ B := by have := HTB.out; omega
  have HNB := Lib.hid htbB
  have HG3 := Lib.hid (grown_trans HG2.out hg3)
  have HPS3 := Lib.hid hps3
  have HN3 := Lib.hid (box_gr HN2.out hg3 htbB.1)
  have HR3 := Lib.hid (box_gr HR2.out hg3 htbB.2)
  have HAL := Lib.hid (HI.out w3 lo B P0 v M _ _ n hk hn hps3 (HE.out.grown (grown_trans HG2.out hg3)))
  obtain ⟨R, hR⟩ : ∃ R, Ps.altP n M (Ps.turnP f { kind := 9, num := num, name := nm, mn := mn, mx := mx, lazy := lz, cls := cl }) (g + num) [] = R := ⟨_, rfl⟩
  have hGR : groupR n (a, { kind := 9, num := num, name := nm, mn := mn, mx := mx, lazy := lz, cls := cl }) M f g = groupF R f g num nm := by rw [← hR]; rfl
  rw [hR] at HAL
  have HGR := Lib.hid hGR
  clear hps3 hg3 htbB hR hGR x0 x1 x2 x3 x4 x5 x6 x7 c0 c1 c2 z0 z1 z2
  go_wp2_with fail
  refine HAL.out.mono ?_
  rintro e w4 ⟨hg4, h4⟩
  have HG4 := Lib.hid (grown_trans HG3.out hg4)
  have HSZ34 := Lib.hid hg4.size
  rcases h4 with ⟨ba, bc, rfl, rfl⟩ | ⟨x, L', f', g', cs, v', rfl, rfl, hx, hps4⟩
  · exact ⟨rfl, HG4.out, .inl ⟨ba, bc, HGR.out.trans rfl, rfl⟩⟩
  · have HX4 := Lib.hid hx
    have HPS4 := Lib.hid hps4
    have HN4 := Lib.hid (box_gr HN3.out hg4 HNB.out.1)
    have HR4 := Lib.hid (box_gr HR3.out hg4 HNB.out.2)
    have hsz4 : W.heap.size + 2 ≤ w4.heap.size := by
      have h1 := (Array.getElem?_eq_some_iff.1 HR4.out).1
      have := HTB.out
      omega
    obtain ⟨u0, u1, u2, u3, u4, u5, u6, u7, sa, sc, ia, ic, hcs, F⟩ := hx.is.form_of
    subst hcs
    obtain ⟨rfl, rfl, rfl, rfl, rfl, rfl, rfl, rfl⟩ := F
    dsimp only
    have hbo := fun o : Obj => heap_alloc_oldp (x := o) hps4.box
    have c1 : ∀ o : Obj, (w4.alloc o).cell? ⟨B, 1, none⟩ = some (.int .i64 f') := fun o => by simp [World.cell?, hbo o]
    have z1 : ∀ o : Obj, (w4.alloc o).frozen? ⟨B, 1, none⟩ = false := fun o => by simp [World.frozen?, hbo o]
    obtain ⟨w5, hw5⟩ : ∃ w5, (w4.alloc (.cells #[.int .i64 (Td.kind x), .slice sa (Td.set x).length sc, .int .i64 (Td.num x), .string (Td.name x), .int .i64 (Td.mn x), .int .i64 (Td.mx x), .bool (Td.lazy x), .slice ia (Td.subs x).length ic] 26)).setCell ⟨B, 1, none⟩ (.int .i64 f) = w5 := ⟨_, rfl⟩
    obtain ⟨ib, hib⟩ : ∃ ib, w4.heap.size = ib := ⟨_, rfl⟩
    have hlB := (Array.getElem?_eq_some_iff.1 hps4.box).1
    have hg5 : w4.grownBy w5 (some B) := by rw [← hw5]; exact grown_set (grown_alloc (grown_refl _ _) _) _ _ (.inr rfl)
    have hbx5 : w5.heap[B]? = some (.cells #[v', .int .i64 f, .int .i64 g'] 54 (0, 0)) := by
      have h9 := heap_setCell_same (w4.alloc (.cells #[.int .i64 (Td.kind x), .slice sa (Td.set x).length sc, .int .i64 (Td.num x), .string (Td.name x), .int .i64 (Td.mn x), .int .i64 (Td.mx x), .bool (Td.lazy x), .slice ia (Td.subs x).length ic] 26)) B 1 _ _ (.int .i64 f) (hbo _)
      rw [hw5] at h9
      simpa using h9
    have hI5 : w5.heap[ib]? = some (.cells #[.int .i64 (Td.kind x), .slice sa (Td.set x).length sc, .int .i64 (Td.num x), .string (Td.name x), .int .i64 (Td.mn x), .int .i64 (Td.mx x), .bool (Td.lazy x), .slice ia (Td.subs x).length ic] 26 (0, 0)) := by
      rw [← hw5, ← hib]
      have hne9 : w4.heap.size ≠ B := by omega
      exact (heap_setCell_other _ ⟨B, 1, none⟩ w4.heap.size _ hne9).trans (heap_alloc_new _ _)
    have hps5 : PSt lo w5 B P0 v' L' f g' := PSt.turned hps4 hg5 hbx5 hps4.row hps4.ends (fun q hq => hq) (Nat.le_refl _) hps4.g0 hps4.g1
    have HIB := Lib.hid hib
    have HG5 := Lib.hid (grown_trans HG4.out hg5)
    have HG45 := Lib.hid hg5
    have HPS5 := Lib.hid hps5
    have HI5 := Lib.hid hI5
    have HN5 := Lib.hid (box_gr HN4.out hg5 HNB.out.1)
    have HR5 := Lib.hid (box_gr HR4.out hg5 HNB.out.2)
    have HW5 := Lib.hid hw5
    have HK5 := Lib.hid (kind_any hps5)
    have hibB : ib ≠ B := by omega
    have htib : tb + 2 ≤ ib := by have := HTB.out; omega
    clear hg4 hx hps4 hbo hw5 hib hg5 hbx5 hI5 hps5 hlB
    go_wp2_with fail
    rw [HW5.out, HIB.out]
    by_cases h11 : Ps.kd L' = 11
    · rw [h11] at HK5
      refine HK5.out.mono ?_
      rintro e w6 ⟨rfl, rfl⟩
      obtain ⟨p, N, rfl⟩ := HPS5.out.cons
      have HNX := Lib.hid (next_any HPS5.out (by have : p.2.kind = 11 := h11; omega))
      have H11 := Lib.hid h11
      clear h11
      go_wp2_with fail
      refine HNX.out.mono ?_
      rintro e w7 ⟨va2, vl2, vc2, out2, v2, rfl, _, _, _, hps7, hg7⟩
      have HG7 := Lib.hid (grown_trans HG5.out hg7)
      have HG57 := Lib.hid hg7
      have HPS7 := Lib.hid hps7
      have hI7 := box_gr HI5.out hg7 hibB
      have hN7 := box_gr HN5.out hg7 HNB.out.1
      have hR7 := box_gr HR5.out hg7 HNB.out.2
      have HI7 := Lib.hid hI7
      have HR7 := Lib.hid hR7
      obtain ⟨x0, x1, x2, x3, x4, x5, x6, x7, _⟩ := box_facts hN7
      obtain ⟨i0, i1, i2, i3, i4, i5, i6, i7, _⟩ := box_facts hI7
      have hsz7 := (Array.getElem?_eq_some_iff.1 hI7).1
      rcases hp01 with rfl | rfl
      · obtain ⟨d0, d1, d2, d3, d4, d5, d6, d7, g0, g1, g2, g3, g4, g5, g6, g7⟩ := box_facts hR7
        clear hps7 hg7 hI7 hN7 hR7
        go_wp2
        (try simp only [Exit.inBlock, Exit.then])
        refine ret_nd1 rfl (tb + 1) _ rfl (set8_blk _ _ _ _ _ _ _ _ _ _ HR7.out) rfl rfl ?_
        have hgf := set8_grown HG7.out (tb + 1) (by have := HTB.out; omega) (.int .i64 (Td.kind x)) (.slice sa (Td.set x).length sc) (.int .i64 (Td.num x)) (.string (Td.name x)) (.int .i64 (Td.mn x)) (.int .i64 (Td.mx x)) (.bool (Td.lazy x)) (.slice ia (Td.subs x).length ic)
        have h3 := (Array.getElem?_eq_some_iff.1 HR3.out).1
        have htb := HTB.out
        have hs4 := HG45.out.size
        refine ⟨hgf, .inr ⟨x, N, f, g', _, v2, HGR.out.trans (by unfold groupF; dsimp only; rw [if_pos H11.out, if_pos rfl]; rfl), rfl, NdP.lower (base := w3.heap.size) (by omega) (HX4.out.to (by rw [set8_size]; have := HG57.out.size; omega) (fun b hb hlt => ?_)), HPS7.out.other (by rw [set8_size]; exact Nat.le_refl _) (fun b hb => set8_other _ _ _ _ _ _ _ _ _ _ b (by omega))⟩⟩
        have hbB : b ≠ B := hb.ne hB (by omega)
        have hbr : b ≠ tb + 1 := by rcases hb with h | h <;> omega
        exact (set8_other _ _ _ _ _ _ _ _ _ _ b hbr).trans ((HG57.out.block b (by omega) (fun e => hbB (by injection e))).trans (HG45.out.block b hlt (fun e => hbB (by injection e))))
      · have hD := fun o : Obj => box_facts (heap_alloc_oldp (x := o) hR7)
        have d0 := fun o => (hD o).1
        have d1 := fun o => (hD o).2.1
        have d2 := fun o => (hD o).2.2.1
        have d3 := fun o => (hD o).2.2.2.1
        have d4 := fun o => (hD o).2.2.2.2.1
        have d5 := fun o => (hD o).2.2.2.2.2.1
        have d6 := fun o => (hD o).2.2.2.2.2.2.1
        have d7 := fun o => (hD o).2.2.2.2.2.2.2.1
        have g0 := fun o => (hD o).2.2.2.2.2.2.2.2.1
        have g1 := fun o => (hD o).2.2.2.2.2.2.2.2.2.1
        have g2 := fun o => (hD o).2.2.2.2.2.2.2.2.2.2.1
        have g3 := fun o => (hD o).2.2.2.2.2.2.2.2.2.2.2.1
        have g4 := fun o => (hD o).2.2.2.2.2.2.2.2.2.2.2.2.1
        have g5 := fun o => (hD o).2.2.2.2.2.2.2.2.2.2.2.2.2.1
        have g6 := fun o => (hD o).2.2.2.2.2.2.2.2.2.2.2.2.2.2.1
        have g7 := fun o => (hD o).2.2.2.2.2.2.2.2.2.2.2.2.2.2.2
        clear hps7 hg7 hI7 hN7 hR7 hD
        go_wp2
        (try simp only [Exit.inBlock, Exit.then])
        obtain ⟨X, hX⟩ : ∃ X : Obj, X = .cells #[.int .i64 (Td.kind x), .slice sa (Td.set x).length sc, .int .i64 (Td.num x), .string (Td.name x), .int .i64 (Td.mn x), .int .i64 (Td.mx x), .bool (Td.lazy x), .slice ia (Td.subs x).length ic] 26 := ⟨_, rfl⟩
        rw [← hX]
        have hrb : (w7.alloc X).heap[tb + 1]? = some (.cells #[.int .i64 0, .slice none 0 0, .int .i64 0, .string ⟨#[]⟩, .int .i64 0, .int .i64 0, .bool false, .slice none 0 0] 26 (0, 0)) := heap_alloc_oldp HR7.out
        refine ret_nd1 rfl (tb + 1) _ rfl (set8_blk _ _ _ _ _ _ _ _ _ _ hrb) rfl rfl ?_
        have hgf := set8_grown (grown_alloc HG7.out X) (tb + 1) (by have := HTB.out; omega) (.int .i64 6) (.slice none 0 0) (.int .i64 (g + 1)) (.string nm) (.int .i64 0) (.int .i64 0) (.bool false) (.slice (some ⟨w7.heap.size, 0, none⟩) 1 1)
        have h3 := (Array.getElem?_eq_some_iff.1 HR3.out).1
        have htb := HTB.out
        have hs4 := HG45.out.size
        have hs5 := HG57.out.size
        have hsw := HG4.out.size
        have hpar : w3.heap.size ≤ w4.heap.size := HSZ34.out
        refine ⟨hgf, .inr ⟨.mk 6 [] (g + 1) nm 0 0 false [x], N, f, g', _, v2, HGR.out.trans (by unfold groupF; dsimp only; rw [if_pos H11.out, if_neg (by decide)]; rfl), rfl, NdP.lower (base := w3.heap.size) (by omega) (nd_lit HX4.out (by rw [set8_size]; simp; omega) (fun b hb hlt => ?_) w7.heap.size (by omega) ?_ ⟨i64_lit _ (by decide), i64_lit _ (by omega), i64_lit _ (by decide), i64_lit _ (by decide)⟩ (by omega) 1), HPS7.out.other (by rw [set8_size]; simp) (fun b hb => (set8_other _ _ _ _ _ _ _ _ _ _ b (by omega)).trans (Below.heap_alloc w7 X b (by omega)))⟩⟩
        · have hbB : b ≠ B := hb.ne hB (by omega)
          have hbr : b ≠ tb + 1 := by rcases hb with h | h <;> omega
          exact (set8_other _ _ _ _ _ _ _ _ _ _ b hbr).trans ((Below.heap_alloc w7 X b (by omega)).trans ((HG57.out.block b (by omega) (fun e => hbB (by injection e))).trans (HG45.out.block b hlt (fun e => hbB (by injection e)))))
        · refine (set8_other _ _ _ _ _ _ _ _ _ _ _ (by omega)).trans ?_
          rw [hX]; exact heap_alloc_new w7 _
    · have k11 : (Ps.kd L' != 11) = true := by simpa using h11
      obtain ⟨K, hK⟩ : ∃ K, Ps.kd L' = K := ⟨_, rfl⟩
      have HAT := Lib.hid (at_any HPS5.out)
      have HGF : Hid (groupF (.ok x L' f' g') f g num nm = .bad (Ps.pl L') 82) := Lib.hid (by unfold groupF; dsimp only; rw [if_neg h11])
      rw [hK] at HK5 k11
      clear h11 hK
      refine HK5.out.mono ?_
      rintro e w6 ⟨rfl, rfl⟩
      go_wp2_with fail
      refine HAT.out.mono ?_
      rintro e w6 ⟨rfl, rfl⟩
      go_wp2_with fail
      refine (fail_any _ _ _).mono ?_
      rintro e w7 ⟨rfl, hb7⟩
      exact ⟨rfl, grown_trans HG5.out (below_grown (n := 0) hb7 _), .inl ⟨_, _, HGR.out.trans HGF.out, rfl⟩⟩
end Go.Proofs.YtdcielcniboloaaGreatDoor
