/- The plain mathematics of trees: depth, all nodes, weight, nullable, the same; a node's cells. · The eight cells of a node, each by its form. · A node over a row of nodes that lies in one block. · A node that reads in certain blocks alone: whatever else turns, it stands. -/
import Derived.Test.YthhdlcckboiecaaGp2
namespace Go.Proofs.Ythhdlcckboiecaa
open Go.RowKit
set_option linter.unusedVariables false
namespace Td
def subs : Nd → List Nd | .mk _ _ _ _ _ _ _ s => s
def kind : Nd → Int | .mk k _ _ _ _ _ _ _ => k
def num : Nd → Int | .mk _ _ n _ _ _ _ _ => n
def name : Nd → ByteArray | .mk _ _ _ n _ _ _ _ => n
def set : Nd → List (Int × Int) | .mk _ s _ _ _ _ _ _ => s
def mn : Nd → Int | .mk _ _ _ _ m _ _ _ => m
def mx : Nd → Int | .mk _ _ _ _ _ m _ _ => m
def lazy : Nd → Bool | .mk _ _ _ _ _ _ l _ => l
/-- The depth, at most so much. -/
def dep : Nat → Nd → Nat
  | 0, _ => 0
  | k + 1, n => ((subs n).map (dep k)).foldl max 0 + 1
theorem foldl_max_succ (l : List Nat) (k : Nat) (hk : k < l.length) : (l.take (k + 1)).foldl max 0 = max ((l.take k).foldl max 0) l[k] := by
  rw [List.take_succ_eq_append_getElem hk, List.foldl_append]; rfl
theorem foldl_max_le : ∀ (l : List Nat) (a b : Nat), (∀ x ∈ l, x ≤ b) → a ≤ b → l.foldl max a ≤ b
  | [], a, b, _, h => h
  | x :: l, a, b, hl, h => by
    have := hl x (by simp)
    exact foldl_max_le l (max a x) b (fun y hy => hl y (List.mem_cons_of_mem _ hy)) (by omega)
theorem dep_le : ∀ (k : Nat) (n : Nd), dep k n ≤ k
  | 0, _ => Nat.le_refl _
  | k + 1, n => by
    have := foldl_max_le ((subs n).map (dep k)) 0 k (fun x hx => by
      obtain ⟨m, _, rfl⟩ := List.mem_map.1 hx
      exact dep_le k m) (by omega)
    rw [dep]; omega
/-- All nodes that are not too deep, with their depths. -/
def all : Nat → Nat → Nd → List (Nat × Nd)
  | 0, _, _ => []
  | k + 1, d, n => (d, n) :: (subs n).flatMap (all k (d + 1))
end Td
/-- A node's cells, laid open. -/
structure NdCells (W : World) (cs : List Value) (n : Nd) (vs : Value) (a : Option Addr) (cap : Nat) (C : Nat → List Value) : Prop where
  eq : cs = [.int .i64 (Td.kind n), vs, .int .i64 (Td.num n), .string (Td.name n), .int .i64 (Td.mn n), .int .i64 (Td.mx n), .bool (Td.lazy n), .slice a (Td.subs n).length cap]
  bd : I64 (Td.kind n) ∧ I64 (Td.num n) ∧ I64 (Td.mn n) ∧ I64 (Td.mx n)
  set : RRow W vs (Td.set n)
  name : (Td.name n).size ≤ 140737488351232
  len : (Td.subs n).length ≤ 8796093022208
  sub : ∀ j, j < (Td.subs n).length → ∃ b off m u0 u1 u2 u3 u4 u5 u6 u7, a = some ⟨b, off, none⟩ ∧ b < W.heap.size ∧ (Td.subs n)[j]? = some m ∧ NdIs W m [u0, u1, u2, u3, u4, u5, u6, u7] ∧
    W.cell? ⟨b, off + j * 8, none⟩ = some u0 ∧ W.cell? ⟨b, off + j * 8 + 1, none⟩ = some u1 ∧ W.cell? ⟨b, off + j * 8 + 2, none⟩ = some u2 ∧ W.cell? ⟨b, off + j * 8 + 3, none⟩ = some u3 ∧
    W.cell? ⟨b, off + j * 8 + 4, none⟩ = some u4 ∧ W.cell? ⟨b, off + j * 8 + 5, none⟩ = some u5 ∧ W.cell? ⟨b, off + j * 8 + 6, none⟩ = some u6 ∧ W.cell? ⟨b, off + j * 8 + 7, none⟩ = some u7
theorem NdIs.cells {W : World} {n : Nd} {cs : List Value} (h : NdIs W n cs) : ∃ vs a cap C, NdCells W cs n vs a cap C := by
  cases h with
  | mk C hk hset hname hlen hrow hsub =>
    refine ⟨_, _, _, C, rfl, hk, hset, hname, hlen, fun j hj => ?_⟩
    obtain ⟨b, off, ha, hb, hl, hc⟩ := hrow j hj
    have hs := hsub j hj
    match hC : C j, hl with
    | [u0, u1, u2, u3, u4, u5, u6, u7], _ =>
      rw [hC] at hs hc
      exact ⟨b, off, _, u0, u1, u2, u3, u4, u5, u6, u7, ha, hb, List.getElem?_eq_getElem hj, hs, hc 0 (by omega), hc 1 (by omega), hc 2 (by omega), hc 3 (by omega), hc 4 (by omega), hc 5 (by omega), hc 6 (by omega), hc 7 (by omega)⟩
end Go.Proofs.Ythhdlcckboiecaa
namespace Go.Proofs.Ythhdlcckboiecaa
open Go.RowKit
set_option linter.unusedVariables false
/-- A node's eight cells, each by its form. -/
structure NdForm (n : Nd) (u0 u1 u2 u3 u4 u5 u6 u7 : Value) (sa : Option Addr) (sc : Nat) (a : Option Addr) (c : Nat) : Prop where
  e0 : u0 = .int .i64 (Td.kind n)
  e1 : u1 = .slice sa (Td.set n).length sc
  e2 : u2 = .int .i64 (Td.num n)
  e3 : u3 = .string (Td.name n)
  e4 : u4 = .int .i64 (Td.mn n)
  e5 : u5 = .int .i64 (Td.mx n)
  e6 : u6 = .bool (Td.lazy n)
  e7 : u7 = .slice a (Td.subs n).length c
theorem NdIs.form {W : World} {n : Nd} {u0 u1 u2 u3 u4 u5 u6 u7 : Value} (h : NdIs W n [u0, u1, u2, u3, u4, u5, u6, u7]) : ∃ sa sc a c, NdForm n u0 u1 u2 u3 u4 u5 u6 u7 sa sc a c := by
  obtain ⟨vs, a, cap, C, hC⟩ := h.cells
  obtain ⟨sa, sc, hvs, _⟩ := hC.set
  have e := hC.eq
  simp only [List.cons.injEq, and_true] at e
  obtain ⟨e0, e1, e2, e3, e4, e5, e6, e7⟩ := e
  exact ⟨sa, sc, a, cap, e0, e1.trans hvs, e2, e3, e4, e5, e6, e7⟩
theorem NdIs.form_of {W : World} {n : Nd} {cs : List Value} (h : NdIs W n cs) : ∃ u0 u1 u2 u3 u4 u5 u6 u7 sa sc a c, cs = [u0, u1, u2, u3, u4, u5, u6, u7] ∧ NdForm n u0 u1 u2 u3 u4 u5 u6 u7 sa sc a c := by
  match cs, h.len with
  | [u0, u1, u2, u3, u4, u5, u6, u7], _ =>
    obtain ⟨sa, sc, a, c, hf⟩ := h.form
    exact ⟨u0, u1, u2, u3, u4, u5, u6, u7, sa, sc, a, c, rfl, hf⟩
end Go.Proofs.Ythhdlcckboiecaa
namespace Go.Proofs.Ythhdlcckboiecaa
open Go.RowKit
set_option linter.unusedVariables false
theorem flat8_at : ∀ (X : List (List Value)), (∀ x ∈ X, x.length = 8) → ∀ (j q : Nat) (x : List Value), X[j]? = some x → q < 8 → X.flatten[j * 8 + q]? = x[q]?
  | [], _, j, q, x, hx, _ => by simp at hx
  | y :: X, h, 0, q, x, hx, hq => by
    simp at hx
    subst hx
    rw [List.flatten_cons, Nat.zero_mul, Nat.zero_add, List.getElem?_append_left (by rw [h y (by simp)]; exact hq)]
  | y :: X, h, j + 1, q, x, hx, hq => by
    have hy := h y (by simp)
    rw [List.flatten_cons, List.getElem?_append_right (by rw [hy]; omega), hy]
    have e : (j + 1) * 8 + q - 8 = j * 8 + q := by omega
    rw [e]
    exact flat8_at X (fun z hz => h z (List.mem_cons_of_mem _ hz)) j q x (by simpa using hx) hq
/-- The cells of nodes, one behind another. -/
def NdsIs (W : World) (L : List Nd) (X : List (List Value)) : Prop := X.length = L.length ∧ ∀ j (h : j < L.length), ∃ x, X[j]? = some x ∧ NdIs W L[j] x
theorem NdsIs.len8 {W : World} {L : List Nd} {X : List (List Value)} (h : NdsIs W L X) : ∀ x ∈ X, x.length = 8 := fun x hx => by
  obtain ⟨j, hj, rfl⟩ := List.getElem_of_mem hx
  obtain ⟨y, hy, hn⟩ := h.2 j (by rw [← h.1]; exact hj)
  rw [List.getElem?_eq_getElem hj] at hy
  rw [Option.some.inj hy]; exact hn.len
theorem NdsIs.kept {W W' : World} {L : List Nd} {X : List (List Value)} (h : NdsIs W L X) (hb : Below W.heap.size W W') : NdsIs W' L X := ⟨h.1, fun j hj => by
  obtain ⟨x, hx, hn⟩ := h.2 j hj
  exact ⟨x, hx, hn.kept hb⟩⟩
theorem NdsIs.nil (W : World) : NdsIs W [] [] := ⟨rfl, fun j h => absurd h (by simp)⟩
theorem NdsIs.snoc {W : World} {L : List Nd} {X : List (List Value)} (h : NdsIs W L X) {n : Nd} {cs : List Value} (hn : NdIs W n cs) : NdsIs W (L ++ [n]) (X ++ [cs]) := by
  refine ⟨by simp [h.1], fun j hj => ?_⟩
  by_cases hlt : j < L.length
  · obtain ⟨x, hx, hx2⟩ := h.2 j hlt
    refine ⟨x, ?_, by rw [List.getElem_append_left hlt]; exact hx2⟩
    rw [List.getElem?_append_left (by rw [h.1]; exact hlt)]; exact hx
  · have e : j = L.length := by rw [List.length_append] at hj; simp at hj; omega
    subst e
    refine ⟨cs, ?_, ?_⟩
    · rw [List.getElem?_append_right (by rw [h.1]; exact Nat.le_refl _), h.1]; simp
    · rw [List.getElem_append_right (Nat.le_refl _)]; simpa using hn
/-- A node whose parts are a row that begins a block. -/
theorem NdIs.row {W : World} {L : List Nd} {X : List (List Value)} (h : NdsIs W L X) {g : Nat} {cur : Array Value} {t : TypeId} {fr : Nat × Nat} (hg : W.heap[g]? = some (.cells cur t fr)) (hcur : ∀ j, j < X.flatten.length → cur[j]? = X.flatten[j]?)
    (hlen : L.length ≤ 8796093022208) {k num mn mx : Int} {set : List (Int × Int)} {name : ByteArray} {lz : Bool} {vs : Value} {cap : Nat} (hk : I64 k ∧ I64 num ∧ I64 mn ∧ I64 mx) (hset : RRow W vs set) (hname : name.size ≤ 140737488351232) :
    NdIs W (.mk k set num name mn mx lz L) [.int .i64 k, vs, .int .i64 num, .string name, .int .i64 mn, .int .i64 mx, .bool lz, .slice (some ⟨g, 0, none⟩) L.length cap] := by
  refine .mk (fun j => X.getD j []) hk hset hname hlen (fun j hj => ?_) (fun j hj => ?_)
  · obtain ⟨x, hx, hn⟩ := h.2 j hj
    have ex : X.getD j [] = x := by rw [List.getD, hx]; rfl
    refine ⟨g, 0, rfl, (Array.getElem?_eq_some_iff.1 hg).1, by rw [ex]; exact hn.len, fun i hi => ?_⟩
    have hfl := flat8_at X h.len8 j i x hx hi
    have hxi : i < x.length := by rw [hn.len]; exact hi
    have hlt : j * 8 + i < X.flatten.length := by
      rw [List.getElem?_eq_getElem hxi] at hfl
      exact (List.getElem?_eq_some_iff.1 hfl).1
    rw [ex, ← hfl, ← hcur _ hlt, Nat.zero_add]
    simp [World.cell?, hg]
  · obtain ⟨x, hx, hn⟩ := h.2 j hj
    have ex : X.getD j [] = x := by rw [List.getD, hx]; rfl
    rw [ex]; exact hn
end Go.Proofs.Ythhdlcckboiecaa
namespace Go.Proofs.Ythhdlcckboiecaa
open Go.RowKit
set_option linter.unusedVariables false
theorem cell_of_blk {W W' : World} {b : Nat} (h : W'.heap[b]? = W.heap[b]?) (o : Nat) : W'.cell? ⟨b, o, none⟩ = W.cell? ⟨b, o, none⟩ := by simp [World.cell?, h]
/-- A list of ranges that lies in one of certain blocks. -/
def RRowOn (S : Nat → Prop) (W : World) (v : Value) (l : List (Int × Int)) : Prop := RRow W v l ∧ ∀ g off len cap, v = .slice (some ⟨g, off, none⟩) len cap → 0 < len → S g
theorem RRowOn.kept {S : Nat → Prop} {W W' : World} {v : Value} {l : List (Int × Int)} (h : RRowOn S W v l) (hs : W.heap.size ≤ W'.heap.size) (hk : ∀ b, S b → b < W.heap.size → W'.heap[b]? = W.heap[b]?) : RRowOn S W' v l := by
  obtain ⟨⟨a, cap, hv, h1, h2, h3⟩, h4⟩ := h
  refine ⟨⟨a, cap, hv, h1, h2, fun j hj => ?_⟩, h4⟩
  obtain ⟨b, off, ha, hb, c1, c2⟩ := h3 j hj
  have hS : S b := h4 b off l.length cap (by rw [hv, ha]) (by omega)
  have hh := hk b hS hb
  exact ⟨b, off, ha, Nat.lt_of_lt_of_le hb hs, (cell_of_blk hh _).trans c1, (cell_of_blk hh _).trans c2⟩
theorem RRowOn.mono {S S' : Nat → Prop} {W : World} {v : Value} {l : List (Int × Int)} (h : RRowOn S W v l) (hS : ∀ b, S b → S' b) : RRowOn S' W v l := ⟨h.1, fun g off len cap e hl => hS g (h.2 g off len cap e hl)⟩
theorem RRowOn.nil {S : Nat → Prop} {W : World} : RRowOn S W (.slice none 0 0) [] := ⟨RRow.nil W, fun g off len cap e _ => by cases e⟩
inductive NdOn (S : Nat → Prop) (W : World) : Nd → List Value → Prop where
  | mk {k num mn mx : Int} {set : List (Int × Int)} {name : ByteArray} {lz : Bool} {subs : List Nd} {vs : Value} {a : Option Addr} {cap : Nat} (cs : Nat → List Value)
      (hk : I64 k ∧ I64 num ∧ I64 mn ∧ I64 mx) (hset : RRowOn S W vs set) (hname : name.size ≤ 140737488351232) (hlen : subs.length ≤ 8796093022208)
      (hrow : ∀ j, j < subs.length → ∃ b off, a = some ⟨b, off, none⟩ ∧ S b ∧ b < W.heap.size ∧ (cs j).length = 8 ∧ ∀ i, i < 8 → W.cell? ⟨b, off + j * 8 + i, none⟩ = (cs j)[i]?)
      (hsub : ∀ j (h : j < subs.length), NdOn S W subs[j] (cs j)) :
      NdOn S W (.mk k set num name mn mx lz subs) [.int .i64 k, vs, .int .i64 num, .string name, .int .i64 mn, .int .i64 mx, .bool lz, .slice a subs.length cap]
theorem NdOn.is {S : Nat → Prop} {W : World} : ∀ {n : Nd} {cs : List Value}, NdOn S W n cs → NdIs W n cs := by
  intro n cs h
  induction h with
  | mk cs hk hset hname hlen hrow hsub ih =>
    exact .mk cs hk hset.1 hname hlen (fun j hj => by
      obtain ⟨b, off, ha, _, hb, hl, hc⟩ := hrow j hj
      exact ⟨b, off, ha, hb, hl, hc⟩) ih
theorem NdOn.kept {S : Nat → Prop} {W W' : World} (hs : W.heap.size ≤ W'.heap.size) (hk : ∀ b, S b → b < W.heap.size → W'.heap[b]? = W.heap[b]?) : ∀ {n : Nd} {cs : List Value}, NdOn S W n cs → NdOn S W' n cs := by
  intro n cs h
  induction h with
  | mk cs hkk hset hname hlen hrow hsub ih =>
    refine .mk cs hkk (hset.kept hs hk) hname hlen (fun j hj => ?_) ih
    obtain ⟨b, off, ha, hS, hb, hl, hc⟩ := hrow j hj
    exact ⟨b, off, ha, hS, Nat.lt_of_lt_of_le hb hs, hl, fun i hi => (cell_of_blk (hk b hS hb) _).trans (hc i hi)⟩
theorem NdOn.mono {S S' : Nat → Prop} {W : World} (hS : ∀ b, S b → S' b) : ∀ {n : Nd} {cs : List Value}, NdOn S W n cs → NdOn S' W n cs := by
  intro n cs h
  induction h with
  | mk cs hkk hset hname hlen hrow hsub ih =>
    refine .mk cs hkk (hset.mono hS) hname hlen (fun j hj => ?_) ih
    obtain ⟨b, off, ha, h1, hb, hl, hc⟩ := hrow j hj
    exact ⟨b, off, ha, hS b h1, hb, hl, hc⟩
theorem RRowOn.of {W : World} {v : Value} {l : List (Int × Int)} (h : RRow W v l) : RRowOn (· < W.heap.size) W v l := ⟨h, fun g off len cap e hl => by
  obtain ⟨a, c, hv, _, _, h3⟩ := h
  rw [hv] at e
  injection e with e1 e2 e3
  obtain ⟨b, off', ha, hb, _⟩ := h3 0 (by omega)
  rw [ha] at e1; injection e1 with e1; injection e1 with e1 _ _
  rw [← e1]; exact hb⟩
theorem NdOn.of {W : World} : ∀ {n : Nd} {cs : List Value}, NdIs W n cs → NdOn (· < W.heap.size) W n cs := by
  intro n cs h
  induction h with
  | mk cs hkk hset hname hlen hrow hsub ih =>
    refine .mk cs hkk (.of hset) hname hlen (fun j hj => ?_) ih
    obtain ⟨b, off, ha, hb, hl, hc⟩ := hrow j hj
    exact ⟨b, off, ha, hb, hb, hl, hc⟩
/-- The cells of nodes, one behind another, each in certain blocks. -/
def NdsOn (S : Nat → Prop) (W : World) (L : List Nd) (X : List (List Value)) : Prop := X.length = L.length ∧ ∀ j (h : j < L.length), ∃ x, X[j]? = some x ∧ NdOn S W L[j] x
theorem NdsOn.is {S : Nat → Prop} {W : World} {L : List Nd} {X : List (List Value)} (h : NdsOn S W L X) : NdsIs W L X := ⟨h.1, fun j hj => by
  obtain ⟨x, hx, hn⟩ := h.2 j hj
  exact ⟨x, hx, hn.is⟩⟩
theorem NdsOn.nil (S : Nat → Prop) (W : World) : NdsOn S W [] [] := ⟨rfl, fun j h => absurd h (by simp)⟩
theorem NdsOn.kept {S : Nat → Prop} {W W' : World} (hs : W.heap.size ≤ W'.heap.size) (hk : ∀ b, S b → b < W.heap.size → W'.heap[b]? = W.heap[b]?) {L : List Nd} {X : List (List Value)} (h : NdsOn S W L X) : NdsOn S W' L X := ⟨h.1, fun j hj => by
  obtain ⟨x, hx, hn⟩ := h.2 j hj
  exact ⟨x, hx, hn.kept hs hk⟩⟩
theorem NdsOn.mono {S S' : Nat → Prop} {W : World} (hS : ∀ b, S b → S' b) {L : List Nd} {X : List (List Value)} (h : NdsOn S W L X) : NdsOn S' W L X := ⟨h.1, fun j hj => by
  obtain ⟨x, hx, hn⟩ := h.2 j hj
  exact ⟨x, hx, hn.mono hS⟩⟩
theorem NdsOn.snoc {S : Nat → Prop} {W : World} {L : List Nd} {X : List (List Value)} (h : NdsOn S W L X) {n : Nd} {cs : List Value} (hn : NdOn S W n cs) : NdsOn S W (L ++ [n]) (X ++ [cs]) := by
  refine ⟨by simp [h.1], fun j hj => ?_⟩
  by_cases hlt : j < L.length
  · obtain ⟨x, hx, hx2⟩ := h.2 j hlt
    refine ⟨x, ?_, by rw [List.getElem_append_left hlt]; exact hx2⟩
    rw [List.getElem?_append_left (by rw [h.1]; exact hlt)]; exact hx
  · have e : j = L.length := by rw [List.length_append] at hj; simp at hj; omega
    subst e
    refine ⟨cs, ?_, ?_⟩
    · rw [List.getElem?_append_right (by rw [h.1]; exact Nat.le_refl _), h.1]; simp
    · rw [List.getElem_append_right (Nat.le_refl _)]; simpa using hn
/-- A node whose parts are a row that begins a block. -/
theorem NdOn.row {S : Nat → Prop} {W : World} {L : List Nd} {X : List (List Value)} (h : NdsOn S W L X) {g : Nat} (hS : S g) {cur : Array Value} {t : TypeId} {fr : Nat × Nat} (hg : W.heap[g]? = some (.cells cur t fr)) (hcur : ∀ j, j < X.flatten.length → cur[j]? = X.flatten[j]?)
    (hlen : L.length ≤ 8796093022208) {k num mn mx : Int} {set : List (Int × Int)} {name : ByteArray} {lz : Bool} {vs : Value} {cap : Nat} (hk : I64 k ∧ I64 num ∧ I64 mn ∧ I64 mx) (hset : RRowOn S W vs set) (hname : name.size ≤ 140737488351232) :
    NdOn S W (.mk k set num name mn mx lz L) [.int .i64 k, vs, .int .i64 num, .string name, .int .i64 mn, .int .i64 mx, .bool lz, .slice (some ⟨g, 0, none⟩) L.length cap] := by
  refine .mk (fun j => X.getD j []) hk hset hname hlen (fun j hj => ?_) (fun j hj => ?_)
  · obtain ⟨x, hx, hn⟩ := h.2 j hj
    have ex : X.getD j [] = x := by rw [List.getD, hx]; rfl
    refine ⟨g, 0, rfl, hS, (Array.getElem?_eq_some_iff.1 hg).1, by rw [ex]; exact hn.is.len, fun i hi => ?_⟩
    have hfl := flat8_at X h.is.len8 j i x hx hi
    have hxi : i < x.length := by rw [hn.is.len]; exact hi
    have hlt : j * 8 + i < X.flatten.length := by
      rw [List.getElem?_eq_getElem hxi] at hfl
      exact (List.getElem?_eq_some_iff.1 hfl).1
    rw [ex, ← hfl, ← hcur _ hlt, Nat.zero_add]
    simp [World.cell?, hg]
  · obtain ⟨x, hx, hn⟩ := h.2 j hj
    have ex : X.getD j [] = x := by rw [List.getD, hx]; rfl
    rw [ex]; exact hn
/-- All eight cells of a node's block written. -/
theorem set8_blk (w : World) (B : Nat) {u0 u1 u2 u3 u4 u5 u6 u7 : Value} (v0 v1 v2 v3 v4 v5 v6 v7 : Value) {t : TypeId} (h : w.heap[B]? = some (.cells #[u0, u1, u2, u3, u4, u5, u6, u7] t (0, 0))) :
    ((((((((w.setCell ⟨B, 0, none⟩ v0).setCell ⟨B, 1, none⟩ v1).setCell ⟨B, 2, none⟩ v2).setCell ⟨B, 3, none⟩ v3).setCell ⟨B, 4, none⟩ v4).setCell ⟨B, 5, none⟩ v5).setCell ⟨B, 6, none⟩ v6).setCell ⟨B, 7, none⟩ v7).heap[B]? = some (.cells #[v0, v1, v2, v3, v4, v5, v6, v7] t (0, 0)) := by
  have h0 := heap_setCell_same w B 0 _ t v0 h
  have h1 := heap_setCell_same _ B 1 _ t v1 h0
  have h2 := heap_setCell_same _ B 2 _ t v2 h1
  have h3 := heap_setCell_same _ B 3 _ t v3 h2
  have h4 := heap_setCell_same _ B 4 _ t v4 h3
  have h5 := heap_setCell_same _ B 5 _ t v5 h4
  have h6 := heap_setCell_same _ B 6 _ t v6 h5
  have h7 := heap_setCell_same _ B 7 _ t v7 h6
  simpa using h7
theorem set8_other (w : World) (B : Nat) (v0 v1 v2 v3 v4 v5 v6 v7 : Value) (k : Nat) (h : k ≠ B) : ((((((((w.setCell ⟨B, 0, none⟩ v0).setCell ⟨B, 1, none⟩ v1).setCell ⟨B, 2, none⟩ v2).setCell ⟨B, 3, none⟩ v3).setCell ⟨B, 4, none⟩ v4).setCell ⟨B, 5, none⟩ v5).setCell ⟨B, 6, none⟩ v6).setCell ⟨B, 7, none⟩ v7).heap[k]? = w.heap[k]? := by
  rw [heap_setCell_other _ _ _ _ (by exact h), heap_setCell_other _ _ _ _ (by exact h), heap_setCell_other _ _ _ _ (by exact h), heap_setCell_other _ _ _ _ (by exact h), heap_setCell_other _ _ _ _ (by exact h), heap_setCell_other _ _ _ _ (by exact h), heap_setCell_other _ _ _ _ (by exact h), heap_setCell_other _ _ _ _ (by exact h)]
theorem set8_size (w : World) (B : Nat) (v0 v1 v2 v3 v4 v5 v6 v7 : Value) : ((((((((w.setCell ⟨B, 0, none⟩ v0).setCell ⟨B, 1, none⟩ v1).setCell ⟨B, 2, none⟩ v2).setCell ⟨B, 3, none⟩ v3).setCell ⟨B, 4, none⟩ v4).setCell ⟨B, 5, none⟩ v5).setCell ⟨B, 6, none⟩ v6).setCell ⟨B, 7, none⟩ v7).heap.size = w.heap.size := by simp
theorem set8_below {n0 : Nat} {x w : World} (h : Below n0 x w) (B : Nat) (hB : n0 ≤ B) (v0 v1 v2 v3 v4 v5 v6 v7 : Value) : Below n0 x ((((((((w.setCell ⟨B, 0, none⟩ v0).setCell ⟨B, 1, none⟩ v1).setCell ⟨B, 2, none⟩ v2).setCell ⟨B, 3, none⟩ v3).setCell ⟨B, 4, none⟩ v4).setCell ⟨B, 5, none⟩ v5).setCell ⟨B, 6, none⟩ v6).setCell ⟨B, 7, none⟩ v7) :=
  (((((((h.setCell hB v0).setCell hB v1).setCell hB v2).setCell hB v3).setCell hB v4).setCell hB v5).setCell hB v6).setCell hB v7
end Go.Proofs.Ythhdlcckboiecaa
