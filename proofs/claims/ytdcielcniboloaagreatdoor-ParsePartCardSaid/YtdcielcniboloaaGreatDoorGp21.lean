/- The landed parse: its state in memory; its small functions. · The landed parse: turn, lineOr, folded, dot, set, assertion, join. · The landed parse: folded, dot, repeated. -/
import Derived.Test.YtdcielcniboloaaGreatDoorGp20
import Derived.Test.YtdcielcniboloaaGreatDoorGp19
import Derived.Test.YtdcielcniboloaaGreatDoorGp14
namespace Go.Proofs.YtdcielcniboloaaGreatDoor
open Go.RowKit
open Lx (Tk)
open Ps (TL)
set_option linter.unusedVariables false
/-- A list of tokens that lies in certain blocks. -/
def TkOn (S : Nat → Prop) (W : World) (v : Value) (L : TL) : Prop :=
  ∃ b o0 cap, v = .slice (some ⟨b, o0, none⟩) L.length cap ∧ S b ∧ b < W.heap.size ∧ L.length ≤ cap ∧ cap ≤ maxLen ∧
    ∀ j (hj : j < L.length), ∃ vs out, Br.SetIs L[j].2.cls out ∧ RRowOn S W vs out ∧ ∀ q, q < 8 → W.cell? ⟨b, o0 + j * 8 + q, none⟩ = (TkCells L[j].1 L[j].2 vs)[q]?
theorem TkOn.kept {S : Nat → Prop} {W W' : World} {v : Value} {L : TL} (h : TkOn S W v L) (hs : W.heap.size ≤ W'.heap.size) (hk : ∀ b, S b → b < W.heap.size → W'.heap[b]? = W.heap[b]?) : TkOn S W' v L := by
  obtain ⟨b, o0, cap, e, hS, hlt, h1, h2, h3⟩ := h
  refine ⟨b, o0, cap, e, hS, Nat.lt_of_lt_of_le hlt hs, h1, h2, fun j hj => ?_⟩
  obtain ⟨vs, out, k1, k2, k3⟩ := h3 j hj
  exact ⟨vs, out, k1, k2.kept hs hk, fun q hq => (cell_of_blk (hk b hS hlt) _).trans (k3 q hq)⟩
/-- The first token, laid open; the rest. -/
theorem TkOn.head {S : Nat → Prop} {W : World} {v : Value} {p : Int × Tk} {L : TL} (h : TkOn S W v (p :: L)) : ∃ b o0 cap va vl vc out, v = .slice (some ⟨b, o0, none⟩) (L.length + 1) cap ∧ L.length + 1 ≤ cap ∧ cap ≤ maxLen ∧ S b ∧ b < W.heap.size ∧
    Br.SetIs p.2.cls out ∧ RRowOn S W (.slice va vl vc) out ∧ vl = out.length ∧
    W.cell? ⟨b, o0, none⟩ = some (.int .i64 p.2.kind) ∧ W.cell? ⟨b, o0 + 1, none⟩ = some (.int .i64 p.1) ∧ W.cell? ⟨b, o0 + 2, none⟩ = some (.int .i64 p.2.num) ∧ W.cell? ⟨b, o0 + 3, none⟩ = some (.string p.2.name) ∧
    W.cell? ⟨b, o0 + 4, none⟩ = some (.int .i64 p.2.mn) ∧ W.cell? ⟨b, o0 + 5, none⟩ = some (.int .i64 p.2.mx) ∧ W.cell? ⟨b, o0 + 6, none⟩ = some (.bool p.2.lazy) ∧ W.cell? ⟨b, o0 + 7, none⟩ = some (.slice va vl vc) ∧
    TkOn S W (.slice (some ⟨b, o0 + 8, none⟩) L.length (cap - 1)) L := by
  obtain ⟨b, o0, cap, e, hS, hlt, h1, h2, h3⟩ := h
  have h1' : L.length + 1 ≤ cap := h1
  obtain ⟨vs, out, k1, k2, k3⟩ := h3 0 (by simp)
  obtain ⟨va, vc, hv, _⟩ := k2.1
  subst hv
  refine ⟨b, o0, cap, va, out.length, vc, out, e, h1', h2, hS, hlt, k1, k2, rfl, k3 0 (by omega), k3 1 (by omega), k3 2 (by omega), k3 3 (by omega), k3 4 (by omega), k3 5 (by omega), k3 6 (by omega), k3 7 (by omega), ?_⟩
  refine ⟨b, o0 + 8, cap - 1, rfl, hS, hlt, by omega, by omega, fun j hj => ?_⟩
  obtain ⟨us, out2, i1, i2, i3⟩ := h3 (j + 1) (by simpa using hj)
  refine ⟨us, out2, i1, i2, fun q hq => ?_⟩
  rw [show o0 + 8 + j * 8 + q = o0 + (j + 1) * 8 + q by omega]
  exact i3 q hq
/-- What is so of each token of a pattern. -/
def TokOk (p : Int × Tk) : Prop := (0 ≤ p.1 ∧ p.1 ≤ 1000000) ∧ I64 p.2.num ∧ I64 p.2.mn ∧ I64 p.2.mx ∧ p.2.name.size ≤ 4096 ∧ (p.2.kind = 9 → p.2.num = 0 ∨ p.2.num = 1) ∧ (p.2.kind = 13 → ∃ Xs n, Br.brack p.2.name = .ok Xs n)
/-- The parser's state. -/
structure PSt (lo : Nat) (W : World) (B P0 : Nat) (v : Value) (L : TL) (f g : Int) : Prop where
  box : W.heap[B]? = some (.cells #[v, .int .i64 f, .int .i64 g] 54 (0, 0))
  row : TkOn (fun b => b < P0 ∧ b ≠ B ∧ lo ≤ b) W v L
  ends : Ps.Ends L
  tok : ∀ p ∈ L, TokOk p
  hB : B < P0
  hP : P0 ≤ W.heap.size
  len : L.length ≤ 200000
  g0 : 0 ≤ g
  g1 : g + (L.length : Int) ≤ 400000
theorem PSt.cells {W : World} {lo B P0 : Nat} {v : Value} {L : TL} {f g : Int} (h : PSt lo W B P0 v L f g) : W.cell? ⟨B, 0, none⟩ = some v ∧ W.cell? ⟨B, 1, none⟩ = some (.int .i64 f) ∧ W.cell? ⟨B, 2, none⟩ = some (.int .i64 g) ∧
    W.frozen? ⟨B, 0, none⟩ = false ∧ W.frozen? ⟨B, 1, none⟩ = false ∧ W.frozen? ⟨B, 2, none⟩ = false := by
  have hb := h.box
  refine ⟨by simp [World.cell?, hb], by simp [World.cell?, hb], by simp [World.cell?, hb], by simp [World.frozen?, hb], by simp [World.frozen?, hb], by simp [World.frozen?, hb]⟩
theorem PSt.cons {W : World} {lo B P0 : Nat} {v : Value} {L : TL} {f g : Int} (h : PSt lo W B P0 v L f g) : ∃ p M, L = p :: M := by
  have := h.ends.pos
  cases L with
  | nil => simp at this
  | cons p M => exact ⟨p, M, rfl⟩
/-- Memory grows, the parser's box stands. -/
theorem PSt.below {W W' : World} {lo B P0 : Nat} {v : Value} {L : TL} {f g : Int} (h : PSt lo W B P0 v L f g) (hb : Below W.heap.size W W') : PSt lo W' B P0 v L f g :=
  ⟨(hb.block B (Array.getElem?_eq_some_iff.1 h.box).1).trans h.box, h.row.kept hb.size (fun b _ hlt => hb.block b hlt), h.ends, h.tok, h.hB, Nat.le_trans h.hP hb.size, h.len, h.g0, h.g1⟩
set_option maxRecDepth 100000 in
set_option maxHeartbeats 2000000 in
theorem kind_any {W : World} {lo B P0 : Nat} {v : Value} {L : TL} {f g : Int} (h : PSt lo W B P0 v L f g) : Calls Tryz.prog 49 #[.pointer (some ⟨B, 0, none⟩)] W fun e w' => e = .returned (.int .i64 (Ps.kd L)) ∧ w' = W := by
  obtain ⟨p, M, rfl⟩ := h.cons
  obtain ⟨c0, c1, c2, z0, z1, z2⟩ := h.cells
  obtain ⟨b, o0, cap, va, vl, vc, out, rfl, h1, h2, hS, hlt, k1, k2, k3, q0, q1, q2, q3, q4, q5, q6, q7, hr⟩ := h.row.head
  have hn : (0 : Int) < ((M.length + 1 : Nat) : Int) := by omega
  obtain ⟨n, hn2⟩ : ∃ n, M.length + 1 = n := ⟨_, rfl⟩
  rw [hn2] at c0 hn
  clear h hr k2 k1 hn2 h1
  go_enter Tryz.func49, Tryz.ntmps49
  go_wp2
  go_ret
  exact ⟨rfl, rfl⟩
set_option maxRecDepth 100000 in
set_option maxHeartbeats 2000000 in
theorem at_any {W : World} {lo B P0 : Nat} {v : Value} {L : TL} {f g : Int} (h : PSt lo W B P0 v L f g) : Calls Tryz.prog 51 #[.pointer (some ⟨B, 0, none⟩)] W fun e w' => e = .returned (.int .i64 (Ps.pl L)) ∧ w' = W := by
  obtain ⟨p, M, rfl⟩ := h.cons
  obtain ⟨c0, c1, c2, z0, z1, z2⟩ := h.cells
  obtain ⟨b, o0, cap, va, vl, vc, out, rfl, h1, h2, hS, hlt, k1, k2, k3, q0, q1, q2, q3, q4, q5, q6, q7, hr⟩ := h.row.head
  have hn : (0 : Int) < ((M.length + 1 : Nat) : Int) := by omega
  obtain ⟨n, hn2⟩ : ∃ n, M.length + 1 = n := ⟨_, rfl⟩
  rw [hn2] at c0 hn
  clear h hr k2 k1 hn2 h1
  go_enter Tryz.func51, Tryz.ntmps51
  go_wp2
  go_ret
  exact ⟨rfl, rfl⟩
set_option maxRecDepth 100000 in
set_option maxHeartbeats 2000000 in
theorem hasFlag_any {W : World} {lo B P0 : Nat} {v : Value} {L : TL} {f g : Int} (h : PSt lo W B P0 v L f g) (x : Int) : Calls Tryz.prog 161 #[.pointer (some ⟨B, 0, none⟩), .int .i64 x] W fun e w' => e = .returned (.bool (Ps.hasP f x)) ∧ w' = W := by
  obtain ⟨c0, c1, c2, z0, z1, z2⟩ := h.cells
  clear h
  go_enter Tryz.func161, Tryz.ntmps161
  go_wp2
  go_ret
  exact ⟨rfl, rfl⟩
set_option maxRecDepth 100000 in
set_option maxHeartbeats 2000000 in
theorem fail_any (W : World) (a c : Int) : Calls Tryz.prog 50 #[.int .i64 a, .int .i64 c] W fun e w' => e = .panicked [{ v := .iface 88 (.agg #[.int .i64 a, .int .i64 c]), recovered := false }] ∧ Below W.heap.size W w' := by
  go_enter Tryz.func50, Tryz.ntmps50
  go_wp2
  exact ⟨rfl, rfl, Below.refl _ _⟩
theorem PSt.turned {W W' : World} {lo B P0 : Nat} {v v' : Value} {L L' : TL} {f f' g g' : Int} (h : PSt lo W B P0 v L f g) (hg : W.grownBy W' (some B)) (hbox : W'.heap[B]? = some (.cells #[v', .int .i64 f', .int .i64 g'] 54 (0, 0)))
    (hrow : TkOn (fun b => b < P0 ∧ b ≠ B ∧ lo ≤ b) W v' L') (hE : Ps.Ends L') (hM : ∀ p ∈ L', p ∈ L) (hlen : L'.length ≤ L.length) (h0 : 0 ≤ g') (h1 : g' + (L'.length : Int) ≤ 400000) : PSt lo W' B P0 v' L' f' g' :=
  ⟨hbox, hrow.kept hg.size (fun b hb hlt => hg.block b hlt (fun e => hb.2.1 (by injection e))), hE, fun p hp => h.tok p (hM p hp), h.hB, Nat.le_trans h.hP hg.size, Nat.le_trans hlen h.len, h0, h1⟩
theorem heap_alloc_new' (W : World) (o : Obj) (n : Nat) (h : W.heap.size = n) : (W.alloc o).heap[n]? = some o := by subst h; exact heap_alloc_new W o
/-- The way out of a function whose one result is a token, or a node, in a box. -/
theorem ret_tk1 {fn : Func} {p : Tmp} {R : Ending → World → Prop} {a : Act} {w : World} (h : fn.results = #[.cell p 37]) (g : Nat) (cs : Array Value)
    (hp : a.tmps.getD p undef = .pointer (some ⟨g, 0, none⟩)) (hg : w.heap[g]? = some (.cells cs 37 (0, 0))) (h8 : cs.size = 8) (hd : a.defers = [])
    (hR : R (.returned (.agg cs)) w) : bodyPost Tryz.prog fn R .ret a w := by
  have hi : (Tryz.prog.info? 37).map (·.size) = some cs.size := by rw [h8]; kernel_rfl
  have hl : (loadVar 37 ⟨g, 0, none⟩).run Tryz.prog w = .ok (.agg cs) w := run_loadVar_row w g _ _ cs _ _ hg Tryz.underlying37 rfl hi
  refine ⟨hd, _, ?_, hR⟩
  have hp' : a.tmps[p]?.getD undef = .pointer (some ⟨g, 0, none⟩) := by simpa using hp
  simp [results, h, hp', asAddr, hl, Sem.run_bind]
theorem ret_nd1 {fn : Func} {p : Tmp} {R : Ending → World → Prop} {a : Act} {w : World} (h : fn.results = #[.cell p 26]) (g : Nat) (cs : Array Value)
    (hp : a.tmps.getD p undef = .pointer (some ⟨g, 0, none⟩)) (hg : w.heap[g]? = some (.cells cs 26 (0, 0))) (h8 : cs.size = 8) (hd : a.defers = [])
    (hR : R (.returned (.agg cs)) w) : bodyPost Tryz.prog fn R .ret a w := by
  have hi : (Tryz.prog.info? 26).map (·.size) = some cs.size := by rw [h8]; kernel_rfl
  have hl : (loadVar 26 ⟨g, 0, none⟩).run Tryz.prog w = .ok (.agg cs) w := run_loadVar_row w g _ _ cs _ _ hg Tryz.underlying26 rfl hi
  refine ⟨hd, _, ?_, hR⟩
  have hp' : a.tmps[p]?.getD undef = .pointer (some ⟨g, 0, none⟩) := by simpa using hp
  simp [results, h, hp', asAddr, hl, Sem.run_bind]
/-- What next hands back. -/
def NextPost (lo B P0 : Nat) (p : Int × Tk) (M : TL) (f g : Int) (W : World) (e : Ending) (w' : World) : Prop :=
  ∃ va vl vc out v', e = .returned (tkV p.1 p.2 (.slice va vl vc)) ∧ Br.SetIs p.2.cls out ∧ RRowOn (fun b => b < P0 ∧ b ≠ B ∧ lo ≤ b) w' (.slice va vl vc) out ∧ vl = out.length ∧ PSt lo w' B P0 v' M f g ∧ W.grownBy w' (some B)
set_option maxRecDepth 100000 in
set_option maxHeartbeats 2000000 in
theorem next_any {W : World} {lo B P0 : Nat} {v : Value} {p : Int × Tk} {M : TL} {f g : Int} (h : PSt lo W B P0 v (p :: M) f g) (h0 : p.2.kind ≠ 0) : Calls Tryz.prog 84 #[.pointer (some ⟨B, 0, none⟩)] W (NextPost lo B P0 p M f g W) := by
  have H := Lib.hid h
  obtain ⟨c0, c1, c2, z0, z1, z2⟩ := h.cells
  have hE : Ps.Ends M := h.ends.tail h0
  have hpos := hE.pos
  obtain ⟨b, o0, cap, va, vl, vc, out, rfl, h1, h2, hS, hlt, k1, k2, k3, q0, q1, q2, q3, q4, q5, q6, q7, hr⟩ := h.row.head
  subst k3
  have hB := (Array.getElem?_eq_some_iff.1 h.box).1
  obtain ⟨N, hN⟩ : ∃ N, M.length = N := ⟨_, rfl⟩
  have HN := Lib.hid hN
  have HR := Lib.hid hr
  have HK2 := Lib.hid k2
  have HK1 := Lib.hid k1
  have HE := Lib.hid hE
  rw [hN] at h1 c0 hpos
  have hn : (0 : Int) < ((N + 1 : Nat) : Int) := by omega
  have hn1 : (1 : Int) ≤ ((N + 1 : Nat) : Int) := by omega
  have hcap : ¬ cap = 1 := by omega
  unfold maxLen at h2
  clear h hr k2 k1 hN hE
  go_enter Tryz.func84, Tryz.ntmps84
  go_wp2
  (try simp only [Exit.inBlock, Exit.then])
  obtain ⟨O, hO⟩ : ∃ O : Obj, O = .cells #[.int .i64 p.2.kind, .int .i64 p.1, .int .i64 p.2.num, .string p.2.name, .int .i64 p.2.mn, .int .i64 p.2.mx, .bool p.2.lazy, .slice va out.length vc] 37 := ⟨_, rfl⟩
  have hg : W.grownBy (W.setCell ⟨B, 0, none⟩ (.slice (some ⟨b, o0 + 8, none⟩) N (cap - 1))) (some B) := grown_set (grown_refl _ _) _ _ (.inr rfl)
  have hg2 := grown_alloc (grown_alloc hg O) O
  have hnew := (Below.heap_alloc ((W.setCell ⟨B, 0, none⟩ (.slice (some ⟨b, o0 + 8, none⟩) N (cap - 1))).alloc O) O W.heap.size (by simp)).trans (heap_alloc_new' (W.setCell ⟨B, 0, none⟩ (.slice (some ⟨b, o0 + 8, none⟩) N (cap - 1))) O W.heap.size (by simp))
  have hbx : (((W.setCell ⟨B, 0, none⟩ (.slice (some ⟨b, o0 + 8, none⟩) N (cap - 1))).alloc O).alloc O).heap[B]? = some (.cells #[.slice (some ⟨b, o0 + 8, none⟩) N (cap - 1), .int .i64 f, .int .i64 g] 54 (0, 0)) := by
    refine (Below.heap_alloc _ _ _ (by simp; omega)).trans ((Below.heap_alloc _ _ _ (by simp; omega)).trans ?_)
    have := heap_setCell_same W B 0 _ _ (.slice (some ⟨b, o0 + 8, none⟩) N (cap - 1)) H.out.box
    simpa using this
  have hnew2 : (((W.setCell ⟨B, 0, none⟩ (.slice (some ⟨b, o0 + 8, none⟩) N (cap - 1))).alloc O).alloc O).heap[W.heap.size]? = some O := hnew
  subst hO
  refine ret_tk1 rfl W.heap.size _ rfl hnew2 rfl rfl ?_
  refine ⟨va, _, vc, out, _, rfl, HK1.out, (HK2.out.kept hg2.size (fun b hb hlt => hg2.block b hlt (fun e => hb.2.1 (by injection e)))), rfl, PSt.turned H.out hg2 hbx (by have := HR.out; rwa [HN.out] at this) HE.out (fun q hq => List.mem_cons_of_mem _ hq) (by simp) H.out.g0 (by have := H.out.g1; simp at this; omega), hg2⟩
end Go.Proofs.YtdcielcniboloaaGreatDoor
namespace Go.Proofs.YtdcielcniboloaaGreatDoor
open Go.RowKit
open Lx (Tk)
open Ps (TL)
set_option linter.unusedVariables false
theorem i64_lit (x : Int) (h : -9223372036854775808 ≤ x ∧ x ≤ 9223372036854775807) : I64 x := h
theorem grown_drew {W W' : World} {o : Option Nat} (h : W.grownBy W' o) : W.grownBy W'.drew o := ⟨h.os, h.tape, h.output, h.size, h.block⟩
set_option maxRecDepth 100000 in
set_option maxHeartbeats 2000000 in
theorem turn_any {W : World} {lo B P0 : Nat} {v : Value} {L : TL} {f g : Int} (h : PSt lo W B P0 v L f g) (a : Int) (t : Tk) (va : Option Addr) (vl vc : Nat) : Calls Tryz.prog 124 #[.pointer (some ⟨B, 0, none⟩), tkV a t (.slice va vl vc)] W fun e w' =>
    e = .returned (.tuple #[]) ∧ PSt lo w' B P0 v L (Ps.turnP f t) g ∧ W.grownBy w' (some B) := by
  have H := Lib.hid h
  obtain ⟨c0, c1, c2, z0, z1, z2⟩ := h.cells
  have hB := (Array.getElem?_eq_some_iff.1 h.box).1
  have hbx := h.box
  clear h
  obtain ⟨kd, num, nm, mn, mx, lz, cl⟩ := t
  unfold tkV
  dsimp only
  go_enter Tryz.func124, Tryz.ntmps124
  go_wp2
  obtain ⟨w1, hw1⟩ : ∃ w1, W.alloc (.cells #[.int .i64 kd, .int .i64 a, .int .i64 num, .string nm, .int .i64 mn, .int .i64 mx, .bool lz, .slice va vl vc] 37) = w1 := ⟨_, rfl⟩
  have hg1 : W.grownBy w1 (some B) := by rw [← hw1]; exact grown_alloc (grown_refl _ _) _
  have hnew : w1.heap[W.heap.size]? = some (.cells #[.int .i64 kd, .int .i64 a, .int .i64 num, .string nm, .int .i64 mn, .int .i64 mx, .bool lz, .slice va vl vc] 37 (0, 0)) := by rw [← hw1]; exact heap_alloc_new _ _
  have hbx1 : w1.heap[B]? = some (.cells #[v, .int .i64 f, .int .i64 g] 54 (0, 0)) := by rw [← hw1]; exact (Below.heap_alloc _ _ _ hB).trans hbx
  rw [hw1]
  obtain ⟨n, hn⟩ : ∃ n, W.heap.size = n := ⟨_, rfl⟩
  rw [hn] at hnew ⊢
  have t4 : w1.cell? ⟨n, 4, none⟩ = some (.int .i64 mn) := by simp [World.cell?, hnew]
  have t5 : w1.cell? ⟨n, 5, none⟩ = some (.int .i64 mx) := by simp [World.cell?, hnew]
  have b1 : w1.cell? ⟨B, 1, none⟩ = some (.int .i64 f) := by simp [World.cell?, hbx1]
  have f1 : w1.frozen? ⟨B, 1, none⟩ = false := by simp [World.frozen?, hbx1]
  have HG := Lib.hid hg1
  have HX := Lib.hid hbx1
  clear hw1 hg1 hnew hbx1 hbx c0 c1 c2 z0 z1 z2 hB hn
  go_region
  go_wp2
  go_end0
  have hg2 := grown_drew (grown_set HG.out ⟨B, 1, none⟩ (.int .i64 (bits .andNot .i64 (bits .or .i64 f mn) mx)) (.inr rfl))
  refine ⟨rfl, PSt.turned H.out hg2 ?_ H.out.row H.out.ends (fun p hp => hp) (Nat.le_refl _) H.out.g0 H.out.g1, hg2⟩
  have h9 := heap_setCell_same w1 B 1 _ _ (.int .i64 (bits .andNot .i64 (bits .or .i64 f mn) mx)) HX.out
  show (w1.setCell ⟨B, 1, none⟩ (.int .i64 (bits .andNot .i64 (bits .or .i64 f mn) mx))).heap[B]? = some (.cells #[v, .int .i64 (bits .andNot .i64 (bits .or .i64 f mn) mx), .int .i64 g] 54 (0, 0))
  simpa using h9
set_option maxRecDepth 100000 in
set_option maxHeartbeats 2000000 in
theorem lineOr_any {W : World} {lo B P0 : Nat} {v : Value} {L : TL} {f g : Int} (h : PSt lo W B P0 v L f g) (x y : Int) : Calls Tryz.prog 166 #[.pointer (some ⟨B, 0, none⟩), .int .i64 x, .int .i64 y] W fun e w' =>
    e = .returned (.int .i64 (if Ps.hasP f 2 then x else y)) ∧ w' = W := by
  have HH := Lib.hid (fun x => hasFlag_any h x)
  clear h
  obtain ⟨q, hq⟩ : ∃ q, Ps.hasP f 2 = q := ⟨_, rfl⟩
  have h9 := HH.out 2
  rw [hq] at h9 ⊢
  have H9 := Lib.hid h9
  clear h9 hq
  cases q with
  | true =>
    go_enter Tryz.func166, Tryz.ntmps166
    go_wp2_with fail
    refine H9.out.mono ?_
    rintro e w' ⟨rfl, rfl⟩
    go_wp2
    go_ret
    exact ⟨rfl, rfl⟩
  | false =>
    go_enter Tryz.func166, Tryz.ntmps166
    go_wp2_with fail
    refine H9.out.mono ?_
    rintro e w' ⟨rfl, rfl⟩
    go_wp2
    go_ret
    exact ⟨rfl, rfl⟩
theorem RgOwn.on {W : World} {base : Nat} {v : Value} {l : List (Int × Int)} (h : RgOwn W base v l) (hr : RRow W v l) : RRowOn (fun b => base ≤ b ∧ b < W.heap.size) W v l :=
  ⟨hr, fun g off len cap e hl => World.ownsRow.lt h g (by rw [e]; rfl)⟩
set_option maxRecDepth 100000 in
set_option maxHeartbeats 2000000 in
theorem set_any {lo B P0 base : Nat} (W : World) (hb : base ≤ W.heap.size) (out : List Rg.R) (va : Option Addr) (vc : Nat) (h : RRowOn (fun b => Sb lo B P0 base b ∧ b < W.heap.size) W (.slice va out.length vc) out) :
    Calls Tryz.prog 162 #[.slice va out.length vc] W fun e w' => ∃ cs, e = .returned (.agg cs.toArray) ∧ NdP lo B P0 base w' (Ps.setN out) cs ∧ Below W.heap.size W w' := by
  have H := Lib.hid h
  clear h
  cases out with
  | nil =>
    go_enter Tryz.func162, Tryz.ntmps162
    go_wp2
    (try simp only [Exit.inBlock, Exit.then])
    refine ret_nd1 rfl W.heap.size _ rfl (heap_alloc_new W _) rfl rfl ?_
    exact ⟨_, rfl, .mk (fun _ => []) ⟨i64_lit _ (by decide), i64_lit _ (by decide), i64_lit _ (by decide), i64_lit _ (by decide)⟩ RRowOn.nil (by decide) (by decide) (fun j hj => absurd hj (by simp)) (fun j hj => absurd hj (by simp)), (Below.refl _ _).alloc (Nat.le_refl _) _⟩
  | cons p l =>
    have h1 : (0 : Int) < (((p :: l).length : Nat) : Int) := by simp
    obtain ⟨n, hn⟩ : ∃ n, (p :: l).length = n := ⟨_, rfl⟩
    have HN := Lib.hid hn
    rw [hn] at h1 ⊢
    clear hn
    go_enter Tryz.func162, Tryz.ntmps162
    go_wp2
    (try simp only [Exit.inBlock, Exit.then])
    refine ret_nd1 rfl W.heap.size _ rfl (heap_alloc_new W _) rfl rfl ?_
    have hb9 : Below W.heap.size W (W.alloc (.cells #[.int .i64 3, .slice va n vc, .int .i64 0, .string ⟨#[]⟩, .int .i64 0, .int .i64 0, .bool false, .slice none 0 0] 26)) := (Below.refl _ _).alloc (Nat.le_refl _) _
    refine ⟨_, rfl, .mk (fun _ => []) ⟨i64_lit _ (by decide), i64_lit _ (by decide), i64_lit _ (by decide), i64_lit _ (by decide)⟩ ?_ (by decide) (by decide) (fun j hj => absurd hj (by simp)) (fun j hj => absurd hj (by simp)), hb9⟩
    have h8 := H.out
    rw [HN.out] at h8
    exact (h8.kept hb9.size (fun b _ hlt => hb9.block b hlt)).mono (fun b hb => ⟨hb.1, Nat.lt_of_lt_of_le hb.2 hb9.size⟩)
set_option maxRecDepth 100000 in
set_option maxHeartbeats 2000000 in
theorem assertion_any {lo B P0 base : Nat} (W : World) (hb : base ≤ W.heap.size) (x : Int) (hx : I64 x) : Calls Tryz.prog 165 #[.int .i64 x] W fun e w' => ∃ cs, e = .returned (.agg cs.toArray) ∧ NdP lo B P0 base w' (Ps.leafN 5 x) cs ∧ Below W.heap.size W w' := by
  go_enter Tryz.func165, Tryz.ntmps165
  go_wp2
  (try simp only [Exit.inBlock, Exit.then])
  refine ret_nd1 rfl W.heap.size _ rfl (heap_alloc_new W _) rfl rfl ?_
  exact ⟨_, rfl, .mk (fun _ => []) ⟨i64_lit _ (by decide), hx, i64_lit _ (by decide), i64_lit _ (by decide)⟩ RRowOn.nil (by decide) (by decide) (fun j hj => absurd hj (by simp)) (fun j hj => absurd hj (by simp)), (Below.refl _ _).alloc (Nat.le_refl _) _⟩
set_option maxRecDepth 100000 in
set_option maxHeartbeats 2000000 in
theorem join_any {lo B P0 base : Nat} (W : World) (hb : base ≤ W.heap.size) (K : Int) (hK : I64 K) (A : List Nd) (v : Value) (h : NdOwn lo B P0 W base v A) (hA : A.length ≤ 200000) :
    Calls Tryz.prog 85 #[.int .i64 K, v] W fun e w' => ∃ cs, e = .returned (.agg cs.toArray) ∧ NdP lo B P0 base w' (Ps.joinN K A) cs ∧ Below W.heap.size W w' := by
  have H := Lib.hid h
  obtain ⟨a, cap, rfl⟩ := h.slice
  clear h
  match A, H with
  | [], H =>
    go_enter Tryz.func85, Tryz.ntmps85
    go_wp2
    (try simp only [Exit.inBlock, Exit.then])
    refine ret_nd1 rfl W.heap.size _ rfl (heap_alloc_new W _) rfl rfl ?_
    exact ⟨_, rfl, .mk (fun _ => []) ⟨i64_lit _ (by decide), i64_lit _ (by decide), i64_lit _ (by decide), i64_lit _ (by decide)⟩ RRowOn.nil (by decide) (by decide) (fun j hj => absurd hj (by simp)) (fun j hj => absurd hj (by simp)), (Below.refl _ _).alloc (Nat.le_refl _) _⟩
  | [x], H =>
    obtain ⟨g, c2, e, hbg, hg, _, _, hat⟩ := H.out.at (by simp)
    injection e with e1 e2 e3
    subst e1
    subst e3
    obtain ⟨cs, hn, hc⟩ := hat 0 (by simp)
    obtain ⟨u0, u1, u2, u3, u4, u5, u6, u7, sa, sc, a, c, hcs, F⟩ := hn.is.form_of
    subst hcs
    obtain ⟨rfl, rfl, rfl, rfl, rfl, rfl, rfl, rfl⟩ := F
    have q0 : W.cell? ⟨g, 0, none⟩ = some (.int .i64 (Td.kind x)) := hc 0 (by omega)
    have q1 : W.cell? ⟨g, 1, none⟩ = some (.slice sa (Td.set x).length sc) := hc 1 (by omega)
    have q2 : W.cell? ⟨g, 2, none⟩ = some (.int .i64 (Td.num x)) := hc 2 (by omega)
    have q3 : W.cell? ⟨g, 3, none⟩ = some (.string (Td.name x)) := hc 3 (by omega)
    have q4 : W.cell? ⟨g, 4, none⟩ = some (.int .i64 (Td.mn x)) := hc 4 (by omega)
    have q5 : W.cell? ⟨g, 5, none⟩ = some (.int .i64 (Td.mx x)) := hc 5 (by omega)
    have q6 : W.cell? ⟨g, 6, none⟩ = some (.bool (Td.lazy x)) := hc 6 (by omega)
    have q7 : W.cell? ⟨g, 7, none⟩ = some (.slice a (Td.subs x).length c) := hc 7 (by omega)
    have HX := Lib.hid hn
    clear hn hc hat
    go_enter Tryz.func85, Tryz.ntmps85
    go_wp2
    (try simp only [Exit.inBlock, Exit.then])
    refine ret_nd1 rfl W.heap.size _ rfl (heap_alloc_new W _) rfl rfl ?_
    have hb9 : Below W.heap.size W (W.alloc (.cells #[.int .i64 (Td.kind x), .slice sa (Td.set x).length sc, .int .i64 (Td.num x), .string (Td.name x), .int .i64 (Td.mn x), .int .i64 (Td.mx x), .bool (Td.lazy x), .slice a (Td.subs x).length c] 26)) := (Below.refl _ _).alloc (Nat.le_refl _) _
    exact ⟨_, rfl, (NdOn.grown HX.out (below_grown (n := 0) hb9 none) (fun b hb e => by cases e)).mono (fun b hb => ⟨hb.1, Nat.lt_of_lt_of_le hb.2 hb9.size⟩), hb9⟩
  | x :: y :: l, H =>
    obtain ⟨n, hn⟩ : ∃ n, (x :: y :: l).length = n := ⟨_, rfl⟩
    have h0 : ¬ ((n : Int) == 0) = true := by rw [← hn]; simp; omega
    have h1 : ¬ ((n : Int) == 1) = true := by rw [← hn]; simp; omega
    have h2 : 2 ≤ n := by rw [← hn]; simp
    have HN := Lib.hid hn
    rw [hn]
    rw [hn] at hA
    clear hn
    go_enter Tryz.func85, Tryz.ntmps85
    go_wp2
    (try simp only [Exit.inBlock, Exit.then])
    refine ret_nd1 rfl W.heap.size _ rfl (heap_alloc_new W _) rfl rfl ?_
    have hb9 : Below W.heap.size W (W.alloc (.cells #[.int .i64 K, .slice none 0 0, .int .i64 0, .string ⟨#[]⟩, .int .i64 0, .int .i64 0, .bool false, .slice a n cap] 26)) := (Below.refl _ _).alloc (Nat.le_refl _) _
    refine ⟨_, rfl, ?_, hb9⟩
    have h9 := NdOwn.node (k := K) (num := 0) (mn := 0) (mx := 0) (name := ⟨#[]⟩) (lz := false) H.out (by rw [HN.out]; omega) (by rw [HN.out]; omega) ⟨hK, i64_lit _ (by decide), i64_lit _ (by decide), i64_lit _ (by decide)⟩ (by decide)
    rw [HN.out] at h9
    exact (NdOn.grown h9 (below_grown (n := 0) hb9 none) (fun b hb e => by cases e)).mono (fun b hb => ⟨hb.1, Nat.lt_of_lt_of_le hb.2 hb9.size⟩)
end Go.Proofs.YtdcielcniboloaaGreatDoor
namespace Go.Proofs.YtdcielcniboloaaGreatDoor
open Go.RowKit
open Lx (Tk)
open Ps (TL)
set_option linter.unusedVariables false
/-- A list that lies in blocks that a call entered at base may read. -/
def LstP (lo B P0 base : Nat) (W : World) (v : Value) (l : List Rg.R) : Prop := RRowOn (fun b => Sb lo B P0 base b ∧ b < W.heap.size) W v l
theorem LstP.grown {lo B P0 base : Nat} {W W' : World} {v : Value} {l : List Rg.R} (hB : B < P0) (hP : P0 ≤ base) (h : LstP lo B P0 base W v l) (hg : W.grownBy W' (some B)) : LstP lo B P0 base W' v l :=
  (RRowOn.kept h hg.size (fun b hb hlt => hg.block b hlt (fun e => (hb.1.ne hB hP) (by injection e)))).mono (fun b hb => ⟨hb.1, Nat.lt_of_lt_of_le hb.2 hg.size⟩)
theorem own_lst {lo B P0 base base' : Nat} {W : World} {v : Value} {l : List Rg.R} (h : RgOwn W base' v l) (hn : Rg.NormL l) (hb : base ≤ base') : LstP lo B P0 base W v l :=
  (RgOwn.on h (h.normRow hn)).mono (fun b hb' => ⟨.inr (by omega), hb'.2⟩)
def LstQ (lo B P0 base : Nat) (l : List Rg.R) (W : World) (e : Ending) (w' : World) : Prop :=
  ∃ va vc, e = .returned (.slice va l.length vc) ∧ LstP lo B P0 base w' (.slice va l.length vc) l ∧ Below W.heap.size W w'
set_option maxRecDepth 100000 in
set_option maxHeartbeats 2000000 in
theorem folded_any {W : World} {lo B P0 base : Nat} {v : Value} {L : TL} {f g : Int} (h : PSt lo W B P0 v L f g) (hb : base ≤ W.heap.size) (l : List Rg.R) (va : Option Addr) (vc : Nat) (hl : LstP lo B P0 base W (.slice va l.length vc) l) :
    Calls Tryz.prog 163 #[.pointer (some ⟨B, 0, none⟩), .slice va l.length vc] W (LstQ lo B P0 base (Ps.foldL f l) W) := by
  have HH := Lib.hid (fun x => hasFlag_any h x)
  clear h
  unfold Ps.foldL
  obtain ⟨q, hq⟩ : ∃ q, Ps.hasP f 1 = q := ⟨_, rfl⟩
  have h9 := HH.out 1
  rw [hq] at h9 ⊢
  have H9 := Lib.hid h9
  have HL := Lib.hid hl
  clear h9 hq HH
  cases q with
  | true =>
    rw [if_pos rfl]
    have HC := Lib.hid (close_any W (.slice va l.length vc) l hl.1)
    obtain ⟨n, hn⟩ : ∃ n, l.length = n := ⟨_, rfl⟩
    rw [hn] at HC ⊢
    clear hl hn HL
    go_enter Tryz.func163, Tryz.ntmps163
    go_wp2_with fail
    refine H9.out.mono ?_
    rintro e w' ⟨rfl, rfl⟩
    go_wp2_with fail
    refine HC.out.mono ?_
    rintro e w2 ⟨vo, out, rfl, hn2, hhas, hown, hb2⟩
    have e1 : Ps.closeL l = out := Ps.closeL_is ⟨hn2, hhas⟩
    obtain ⟨oa, oc, rfl⟩ := own_slice hown
    have HP : Hid (LstQ lo B P0 base out w' (.returned (.slice oa out.length oc)) w2) := Lib.hid ⟨oa, oc, rfl, own_lst hown hn2 hb, hb2⟩
    have HE := Lib.hid e1
    clear e1 hn2 hhas hown hb2
    go_wp2
    go_ret
    rw [HE.out]; exact HP.out
  | false =>
    rw [if_neg (by decide)]
    obtain ⟨n, hn⟩ : ∃ n, l.length = n := ⟨_, rfl⟩
    have HN := Lib.hid hn
    rw [hn]
    clear hl hn
    go_enter Tryz.func163, Tryz.ntmps163
    go_wp2_with fail
    refine H9.out.mono ?_
    rintro e w' ⟨rfl, rfl⟩
    go_wp2
    go_ret
    exact ⟨va, vc, by rw [HN.out]; rfl, HL.out, Below.refl _ _⟩
theorem all_of {out : List Rg.R} (h : Rg.Made 3 [(0, 1114111)] [] out) : out = [(0, 1114111)] :=
  Rg.norm_ext h.norm (by unfold Rg.NormL; simp [Rg.NormFrom]) (fun q h0 h1 => by
    rw [h.has q h0 h1]
    unfold Rg.opB Rg.hasB
    simp)
theorem noLine_of {out : List Rg.R} (h : Rg.Made 3 [(0, 1114111)] [(10, 10)] out) : out = [(0, 9), (11, 1114111)] :=
  Rg.norm_ext h.norm (by unfold Rg.NormL; simp [Rg.NormFrom]) (fun q h0 h1 => by
    rw [h.has q h0 h1]
    unfold Rg.opB Rg.hasB
    rw [Bool.eq_iff_iff]
    simp
    omega)
def dotL (f : Int) : List Rg.R := if Ps.hasP f 4 then [(0, 1114111)] else [(0, 9), (11, 1114111)]
set_option maxRecDepth 100000 in
set_option maxHeartbeats 2000000 in
theorem dot_any {W : World} {lo B P0 base : Nat} {v : Value} {L : TL} {f g : Int} (h : PSt lo W B P0 v L f g) (hb : base ≤ W.heap.size) : Calls Tryz.prog 164 #[.pointer (some ⟨B, 0, none⟩)] W (LstQ lo B P0 base (dotL f) W) := by
  have HH := Lib.hid (fun x => hasFlag_any h x)
  clear h
  unfold dotL
  obtain ⟨q, hq⟩ : ∃ q, Ps.hasP f 4 = q := ⟨_, rfl⟩
  have h9 := HH.out 4
  rw [hq] at h9 ⊢
  have H9 := Lib.hid h9
  clear h9 hq HH
  cases q with
  | true =>
    rw [if_pos rfl]
    have HC := Lib.hid (not_any W (.slice none 0 0) [] (RRow.nil W))
    go_enter Tryz.func164, Tryz.ntmps164
    go_wp2_with fail
    refine H9.out.mono ?_
    rintro e w' ⟨rfl, rfl⟩
    go_wp2_with fail
    refine HC.out.mono ?_
    rintro e w2 ⟨vo, out, rfl, hm, hown, hb2⟩
    have hn := hm.norm
    obtain rfl := all_of hm
    obtain ⟨oa, oc, rfl⟩ := own_slice hown
    have HP : Hid (LstQ lo B P0 base [(0, 1114111)] w' (.returned (.slice oa [((0 : Int), (1114111 : Int))].length oc)) w2) := Lib.hid ⟨oa, oc, rfl, own_lst hown hn hb, hb2⟩
    clear hm hn hown hb2
    go_wp2
    go_ret
    exact HP.out
  | false =>
    rw [if_neg (by decide)]
    have HC := Lib.hid (not_any (W.alloc (.cells #[.int .i64 10, .int .i64 10] 97)) _ _ (rrow_one W 10 10 (by decide) (by decide) 97))
    go_enter Tryz.func164, Tryz.ntmps164
    go_wp2_with fail
    refine H9.out.mono ?_
    rintro e w' ⟨rfl, rfl⟩
    go_wp2_with fail
    refine HC.out.mono ?_
    rintro e w2 ⟨vo, out, rfl, hm, hown, hb2⟩
    have hn := hm.norm
    obtain rfl := noLine_of hm
    obtain ⟨oa, oc, rfl⟩ := own_slice hown
    have hb3 := ((Below.refl w'.heap.size w').alloc (Nat.le_refl _) (.cells #[.int .i64 10, .int .i64 10] 97))
    have HP : Hid (LstQ lo B P0 base [(0, 9), (11, 1114111)] w' (.returned (.slice oa [((0 : Int), (9 : Int)), (11, 1114111)].length oc)) w2) := Lib.hid ⟨oa, oc, rfl, own_lst hown hn (Nat.le_trans hb hb3.size), hb3.trans (hb2.mono hb3.size)⟩
    clear hm hn hown hb2 hb3
    go_wp2
    go_ret
    exact HP.out
end Go.Proofs.YtdcielcniboloaaGreatDoor
