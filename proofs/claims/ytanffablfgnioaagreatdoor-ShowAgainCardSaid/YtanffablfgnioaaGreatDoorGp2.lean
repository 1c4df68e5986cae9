/- The plain mathematics of trees: depth, all nodes, weight, nullable, the same; a node's cells. · The eight cells of a node, each by its form. · A node over a row of nodes that lies in one block. · A node that reads in certain blocks alone: whatever else turns, it stands. · The plain mathematics of UTF-8 as lists of numbers: width, encoding, decoding, and that they are inverse; no program. -/
import Derived.Test.YtanffablfgnioaaGreatDoorGp1
namespace Go.Proofs.YtanffablfgnioaaGreatDoor
open Go.RowKit
set_option linter.unusedVariables false
namespace Td
def subs : Nd → List Nd | .mk _ _ _ _ _ _ _ s => s
def kind : Nd → Int | .mk k _ _ _ _ _ _ _ => k
def num : Nd → Int | .mk _ _ n _ _ _ _ _ => n
def name : Nd → ByteArray | .mk _ _ _ n _ _ _ _ => n
def set : Nd → List (Int × Int) | .mk _ s _ _ _ _ _ _ => s
def mn : Nd → Int | .mk _ _ _ _ m _ _ _ => m
def mx : Nd → Int | .mk _ _ _ _ _ m _ _ => m
def lazy : Nd → Bool | .mk _ _ _ _ _ _ l _ => l
/-- The depth, at most so much. -/
def dep : Nat → Nd → Nat
  | 0, _ => 0
  | k + 1, n => ((subs n).map (dep k)).foldl max 0 + 1
/-- All nodes that are not too deep, with their depths. -/
def all : Nat → Nat → Nd → List (Nat × Nd)
  | 0, _, _ => []
  | k + 1, d, n => (d, n) :: (subs n).flatMap (all k (d + 1))
end Td
/-- A node's cells, laid open. -/
structure NdCells (W : World) (cs : List Value) (n : Nd) (vs : Value) (a : Option Addr) (cap : Nat) (C : Nat → List Value) : Prop where
  eq : cs = [.int .i64 (Td.kind n), vs, .int .i64 (Td.num n), .string (Td.name n), .int .i64 (Td.mn n), .int .i64 (Td.mx n), .bool (Td.lazy n), .slice a (Td.subs n).length cap]
  bd : I64 (Td.kind n) ∧ I64 (Td.num n) ∧ I64 (Td.mn n) ∧ I64 (Td.mx n)
  set : RRow W vs (Td.set n)
  name : (Td.name n).size ≤ 140737488351232
  len : (Td.subs n).length ≤ 8796093022208
  sub : ∀ j, j < (Td.subs n).length → ∃ b off m u0 u1 u2 u3 u4 u5 u6 u7, a = some ⟨b, off, none⟩ ∧ b < W.heap.size ∧ (Td.subs n)[j]? = some m ∧ NdIs W m [u0, u1, u2, u3, u4, u5, u6, u7] ∧
    W.cell? ⟨b, off + j * 8, none⟩ = some u0 ∧ W.cell? ⟨b, off + j * 8 + 1, none⟩ = some u1 ∧ W.cell? ⟨b, off + j * 8 + 2, none⟩ = some u2 ∧ W.cell? ⟨b, off + j * 8 + 3, none⟩ = some u3 ∧
    W.cell? ⟨b, off + j * 8 + 4, none⟩ = some u4 ∧ W.cell? ⟨b, off + j * 8 + 5, none⟩ = some u5 ∧ W.cell? ⟨b, off + j * 8 + 6, none⟩ = some u6 ∧ W.cell? ⟨b, off + j * 8 + 7, none⟩ = some u7
theorem NdIs.cells {W : World} {n : Nd} {cs : List Value} (h : NdIs W n cs) : ∃ vs a cap C, NdCells W cs n vs a cap C := by
  cases h with
  | mk C hk hset hname hlen hrow hsub =>
    refine ⟨_, _, _, C, rfl, hk, hset, hname, hlen, fun j hj => ?_⟩
    obtain ⟨b, off, ha, hb, hl, hc⟩ := hrow j hj
    have hs := hsub j hj
    match hC : C j, hl with
    | [u0, u1, u2, u3, u4, u5, u6, u7], _ =>
      rw [hC] at hs hc
      exact ⟨b, off, _, u0, u1, u2, u3, u4, u5, u6, u7, ha, hb, List.getElem?_eq_getElem hj, hs, hc 0 (by omega), hc 1 (by omega), hc 2 (by omega), hc 3 (by omega), hc 4 (by omega), hc 5 (by omega), hc 6 (by omega), hc 7 (by omega)⟩
end Go.Proofs.YtanffablfgnioaaGreatDoor
namespace Go.Proofs.YtanffablfgnioaaGreatDoor
open Go.RowKit
set_option linter.unusedVariables false
/-- A node's eight cells, each by its form. -/
structure NdForm (n : Nd) (u0 u1 u2 u3 u4 u5 u6 u7 : Value) (sa : Option Addr) (sc : Nat) (a : Option Addr) (c : Nat) : Prop where
  e0 : u0 = .int .i64 (Td.kind n)
  e1 : u1 = .slice sa (Td.set n).length sc
  e2 : u2 = .int .i64 (Td.num n)
  e3 : u3 = .string (Td.name n)
  e4 : u4 = .int .i64 (Td.mn n)
  e5 : u5 = .int .i64 (Td.mx n)
  e6 : u6 = .bool (Td.lazy n)
  e7 : u7 = .slice a (Td.subs n).length c
theorem NdIs.form {W : World} {n : Nd} {u0 u1 u2 u3 u4 u5 u6 u7 : Value} (h : NdIs W n [u0, u1, u2, u3, u4, u5, u6, u7]) : ∃ sa sc a c, NdForm n u0 u1 u2 u3 u4 u5 u6 u7 sa sc a c := by
  obtain ⟨vs, a, cap, C, hC⟩ := h.cells
  obtain ⟨sa, sc, hvs, _⟩ := hC.set
  have e := hC.eq
  simp only [List.cons.injEq, and_true] at e
  obtain ⟨e0, e1, e2, e3, e4, e5, e6, e7⟩ := e
  exact ⟨sa, sc, a, cap, e0, e1.trans hvs, e2, e3, e4, e5, e6, e7⟩
theorem NdIs.form_of {W : World} {n : Nd} {cs : List Value} (h : NdIs W n cs) : ∃ u0 u1 u2 u3 u4 u5 u6 u7 sa sc a c, cs = [u0, u1, u2, u3, u4, u5, u6, u7] ∧ NdForm n u0 u1 u2 u3 u4 u5 u6 u7 sa sc a c := by
  match cs, h.len with
  | [u0, u1, u2, u3, u4, u5, u6, u7], _ =>
    obtain ⟨sa, sc, a, c, hf⟩ := h.form
    exact ⟨u0, u1, u2, u3, u4, u5, u6, u7, sa, sc, a, c, rfl, hf⟩
end Go.Proofs.YtanffablfgnioaaGreatDoor
namespace Go.Proofs.YtanffablfgnioaaGreatDoor
open Go.RowKit
set_option linter.unusedVariables false
theorem flat8_at : ∀ (X : List (List Value)), (∀ x ∈ X, x.length = 8) → ∀ (j q : Nat) (x : List Value), X[j]? = some x → q < 8 → X.flatten[j * 8 + q]? = x[q]?
  | [], _, j, q, x, hx, _ => by simp at hx
  | y :: X, h, 0, q, x, hx, hq => by
    simp at hx
    subst hx
    rw [List.flatten_cons, Nat.zero_mul, Nat.zero_add, List.getElem?_append_left (by rw [h y (by simp)]; exact hq)]
  | y :: X, h, j + 1, q, x, hx, hq => by
    have hy := h y (by simp)
    rw [List.flatten_cons, List.getElem?_append_right (by rw [hy]; omega), hy]
    have e : (j + 1) * 8 + q - 8 = j * 8 + q := by omega
    rw [e]
    exact flat8_at X (fun z hz => h z (List.mem_cons_of_mem _ hz)) j q x (by simpa using hx) hq
/-- The cells of nodes, one behind another. -/
def NdsIs (W : World) (L : List Nd) (X : List (List Value)) : Prop := X.length = L.length ∧ ∀ j (h : j < L.length), ∃ x, X[j]? = some x ∧ NdIs W L[j] x
theorem NdsIs.len8 {W : World} {L : List Nd} {X : List (List Value)} (h : NdsIs W L X) : ∀ x ∈ X, x.length = 8 := fun x hx => by
  obtain ⟨j, hj, rfl⟩ := List.getElem_of_mem hx
  obtain ⟨y, hy, hn⟩ := h.2 j (by rw [← h.1]; exact hj)
  rw [List.getElem?_eq_getElem hj] at hy
  rw [Option.some.inj hy]; exact hn.len
theorem NdsIs.kept {W W' : World} {L : List Nd} {X : List (List Value)} (h : NdsIs W L X) (hb : Below W.heap.size W W') : NdsIs W' L X := ⟨h.1, fun j hj => by
  obtain ⟨x, hx, hn⟩ := h.2 j hj
  exact ⟨x, hx, hn.kept hb⟩⟩
theorem NdsIs.nil (W : World) : NdsIs W [] [] := ⟨rfl, fun j h => absurd h (by simp)⟩
theorem NdsIs.snoc {W : World} {L : List Nd} {X : List (List Value)} (h : NdsIs W L X) {n : Nd} {cs : List Value} (hn : NdIs W n cs) : NdsIs W (L ++ [n]) (X ++ [cs]) := by
  refine ⟨by simp [h.1], fun j hj => ?_⟩
  by_cases hlt : j < L.length
  · obtain ⟨x, hx, hx2⟩ := h.2 j hlt
    refine ⟨x, ?_, by rw [List.getElem_append_left hlt]; exact hx2⟩
    rw [List.getElem?_append_left (by rw [h.1]; exact hlt)]; exact hx
  · have e : j = L.length := by rw [List.length_append] at hj; simp at hj; omega
    subst e
    refine ⟨cs, ?_, ?_⟩
    · rw [List.getElem?_append_right (by rw [h.1]; exact Nat.le_refl _), h.1]; simp
    · rw [List.getElem_append_right (Nat.le_refl _)]; simpa using hn
/-- A node whose parts are a row that begins a block. -/
theorem NdIs.row {W : World} {L : List Nd} {X : List (List Value)} (h : NdsIs W L X) {g : Nat} {cur : Array Value} {t : TypeId} {fr : Nat × Nat} (hg : W.heap[g]? = some (.cells cur t fr)) (hcur : ∀ j, j < X.flatten.length → cur[j]? = X.flatten[j]?)
    (hlen : L.length ≤ 8796093022208) {k num mn mx : Int} {set : List (Int × Int)} {name : ByteArray} {lz : Bool} {vs : Value} {cap : Nat} (hk : I64 k ∧ I64 num ∧ I64 mn ∧ I64 mx) (hset : RRow W vs set) (hname : name.size ≤ 140737488351232) :
    NdIs W (.mk k set num name mn mx lz L) [.int .i64 k, vs, .int .i64 num, .string name, .int .i64 mn, .int .i64 mx, .bool lz, .slice (some ⟨g, 0, none⟩) L.length cap] := by
  refine .mk (fun j => X.getD j []) hk hset hname hlen (fun j hj => ?_) (fun j hj => ?_)
  · obtain ⟨x, hx, hn⟩ := h.2 j hj
    have ex : X.getD j [] = x := by rw [List.getD, hx]; rfl
    refine ⟨g, 0, rfl, (Array.getElem?_eq_some_iff.1 hg).1, by rw [ex]; exact hn.len, fun i hi => ?_⟩
    have hfl := flat8_at X h.len8 j i x hx hi
    have hxi : i < x.length := by rw [hn.len]; exact hi
    have hlt : j * 8 + i < X.flatten.length := by
      rw [List.getElem?_eq_getElem hxi] at hfl
      exact (List.getElem?_eq_some_iff.1 hfl).1
    rw [ex, ← hfl, ← hcur _ hlt, Nat.zero_add]
    simp [World.cell?, hg]
  · obtain ⟨x, hx, hn⟩ := h.2 j hj
    have ex : X.getD j [] = x := by rw [List.getD, hx]; rfl
    rw [ex]; exact hn
end Go.Proofs.YtanffablfgnioaaGreatDoor
namespace Go.Proofs.YtanffablfgnioaaGreatDoor
open Go.RowKit
set_option linter.unusedVariables false
theorem cell_of_blk {W W' : World} {b : Nat} (h : W'.heap[b]? = W.heap[b]?) (o : Nat) : W'.cell? ⟨b, o, none⟩ = W.cell? ⟨b, o, none⟩ := by simp [World.cell?, h]
/-- A list of ranges that lies in one of certain blocks. -/
def RRowOn (S : Nat → Prop) (W : World) (v : Value) (l : List (Int × Int)) : Prop := RRow W v l ∧ ∀ g off len cap, v = .slice (some ⟨g, off, none⟩) len cap → 0 < len → S g
theorem RRowOn.kept {S : Nat → Prop} {W W' : World} {v : Value} {l : List (Int × Int)} (h : RRowOn S W v l) (hs : W.heap.size ≤ W'.heap.size) (hk : ∀ b, S b → b < W.heap.size → W'.heap[b]? = W.heap[b]?) : RRowOn S W' v l := by
  obtain ⟨⟨a, cap, hv, h1, h2, h3⟩, h4⟩ := h
  refine ⟨⟨a, cap, hv, h1, h2, fun j hj => ?_⟩, h4⟩
  obtain ⟨b, off, ha, hb, c1, c2⟩ := h3 j hj
  have hS : S b := h4 b off l.length cap (by rw [hv, ha]) (by omega)
  have hh := hk b hS hb
  exact ⟨b, off, ha, Nat.lt_of_lt_of_le hb hs, (cell_of_blk hh _).trans c1, (cell_of_blk hh _).trans c2⟩
theorem RRowOn.mono {S S' : Nat → Prop} {W : World} {v : Value} {l : List (Int × Int)} (h : RRowOn S W v l) (hS : ∀ b, S b → S' b) : RRowOn S' W v l := ⟨h.1, fun g off len cap e hl => hS g (h.2 g off len cap e hl)⟩
theorem RRowOn.nil {S : Nat → Prop} {W : World} : RRowOn S W (.slice none 0 0) [] := ⟨RRow.nil W, fun g off len cap e _ => by cases e⟩
inductive NdOn (S : Nat → Prop) (W : World) : Nd → List Value → Prop where
  | mk {k num mn mx : Int} {set : List (Int × Int)} {name : ByteArray} {lz : Bool} {subs : List Nd} {vs : Value} {a : Option Addr} {cap : Nat} (cs : Nat → List Value)
      (hk : I64 k ∧ I64 num ∧ I64 mn ∧ I64 mx) (hset : RRowOn S W vs set) (hname : name.size ≤ 140737488351232) (hlen : subs.length ≤ 8796093022208)
      (hrow : ∀ j, j < subs.length → ∃ b off, a = some ⟨b, off, none⟩ ∧ S b ∧ b < W.heap.size ∧ (cs j).length = 8 ∧ ∀ i, i < 8 → W.cell? ⟨b, off + j * 8 + i, none⟩ = (cs j)[i]?)
      (hsub : ∀ j (h : j < subs.length), NdOn S W subs[j] (cs j)) :
      NdOn S W (.mk k set num name mn mx lz subs) [.int .i64 k, vs, .int .i64 num, .string name, .int .i64 mn, .int .i64 mx, .bool lz, .slice a subs.length cap]
theorem NdOn.is {S : Nat → Prop} {W : World} : ∀ {n : Nd} {cs : List Value}, NdOn S W n cs → NdIs W n cs := by
  intro n cs h
  induction h with
  | mk cs hk hset hname hlen hrow hsub ih =>
    exact .mk cs hk hset.1 hname hlen (fun j hj => by
      obtain ⟨b, off, ha, _, hb, hl, hc⟩ := hrow j hj
      exact ⟨b, off, ha, hb, hl, hc⟩) ih
theorem NdOn.kept {S : Nat → Prop} {W W' : World} (hs : W.heap.size ≤ W'.heap.size) (hk : ∀ b, S b → b < W.heap.size → W'.heap[b]? = W.heap[b]?) : ∀ {n : Nd} {cs : List Value}, NdOn S W n cs → NdOn S W' n cs := by
  intro n cs h
  induction h with
  | mk cs hkk hset hname hlen hrow hsub ih =>
    refine .mk cs hkk (hset.kept hs hk) hname hlen (fun j hj => ?_) ih
    obtain ⟨b, off, ha, hS, hb, hl, hc⟩ := hrow j hj
    exact ⟨b, off, ha, hS, Nat.lt_of_lt_of_le hb hs, hl, fun i hi => (cell_of_blk (hk b hS hb) _).trans (hc i hi)⟩
theorem NdOn.mono {S S' : Nat → Prop} {W : World} (hS : ∀ b, S b → S' b) : ∀ {n : Nd} {cs : List Value}, NdOn S W n cs → NdOn S' W n cs := by
  intro n cs h
  induction h with
  | mk cs hkk hset hname hlen hrow hsub ih =>
    refine .mk cs hkk (hset.mono hS) hname hlen (fun j hj => ?_) ih
    obtain ⟨b, off, ha, h1, hb, hl, hc⟩ := hrow j hj
    exact ⟨b, off, ha, hS b h1, hb, hl, hc⟩
theorem RRowOn.of {W : World} {v : Value} {l : List (Int × Int)} (h : RRow W v l) : RRowOn (· < W.heap.size) W v l := ⟨h, fun g off len cap e hl => by
  obtain ⟨a, c, hv, _, _, h3⟩ := h
  rw [hv] at e
  injection e with e1 e2 e3
  obtain ⟨b, off', ha, hb, _⟩ := h3 0 (by omega)
  rw [ha] at e1; injection e1 with e1; injection e1 with e1 _ _
  rw [← e1]; exact hb⟩
theorem NdOn.of {W : World} : ∀ {n : Nd} {cs : List Value}, NdIs W n cs → NdOn (· < W.heap.size) W n cs := by
  intro n cs h
  induction h with
  | mk cs hkk hset hname hlen hrow hsub ih =>
    refine .mk cs hkk (.of hset) hname hlen (fun j hj => ?_) ih
    obtain ⟨b, off, ha, hb, hl, hc⟩ := hrow j hj
    exact ⟨b, off, ha, hb, hb, hl, hc⟩
/-- The cells of nodes, one behind another, each in certain blocks. -/
def NdsOn (S : Nat → Prop) (W : World) (L : List Nd) (X : List (List Value)) : Prop := X.length = L.length ∧ ∀ j (h : j < L.length), ∃ x, X[j]? = some x ∧ NdOn S W L[j] x
theorem NdsOn.is {S : Nat → Prop} {W : World} {L : List Nd} {X : List (List Value)} (h : NdsOn S W L X) : NdsIs W L X := ⟨h.1, fun j hj => by
  obtain ⟨x, hx, hn⟩ := h.2 j hj
  exact ⟨x, hx, hn.is⟩⟩
theorem NdsOn.nil (S : Nat → Prop) (W : World) : NdsOn S W [] [] := ⟨rfl, fun j h => absurd h (by simp)⟩
theorem NdsOn.kept {S : Nat → Prop} {W W' : World} (hs : W.heap.size ≤ W'.heap.size) (hk : ∀ b, S b → b < W.heap.size → W'.heap[b]? = W.heap[b]?) {L : List Nd} {X : List (List Value)} (h : NdsOn S W L X) : NdsOn S W' L X := ⟨h.1, fun j hj => by
  obtain ⟨x, hx, hn⟩ := h.2 j hj
  exact ⟨x, hx, hn.kept hs hk⟩⟩
theorem NdsOn.mono {S S' : Nat → Prop} {W : World} (hS : ∀ b, S b → S' b) {L : List Nd} {X : List (List Value)} (h : NdsOn S W L X) : NdsOn S' W L X := ⟨h.1, fun j hj => by
  obtain ⟨x, hx, hn⟩ := h.2 j hj
  exact ⟨x, hx, hn.mono hS⟩⟩
theorem NdsOn.snoc {S : Nat → Prop} {W : World} {L : List Nd} {X : List (List Value)} (h : NdsOn S W L X) {n : Nd} {cs : List Value} (hn : NdOn S W n cs) : NdsOn S W (L ++ [n]) (X ++ [cs]) := by
  refine ⟨by simp [h.1], fun j hj => ?_⟩
  by_cases hlt : j < L.length
  · obtain ⟨x, hx, hx2⟩ := h.2 j hlt
    refine ⟨x, ?_, by rw [List.getElem_append_left hlt]; exact hx2⟩
    rw [List.getElem?_append_left (by rw [h.1]; exact hlt)]; exact hx
  · have e : j = L.length := by rw [List.length_append] at hj; simp at hj; omega
    subst e
    refine ⟨cs, ?_, ?_⟩
    · rw [List.getElem?_append_right (by rw [h.1]; exact Nat.le_refl _), h.1]; simp
    · rw [List.getElem_append_right (Nat.le_refl _)]; simpa using hn
/-- A node whose parts are a row that begins a block. -/
theorem NdOn.row {S : Nat → Prop} {W : World} {L : List Nd} {X : List (List Value)} (h : NdsOn S W L X) {g : Nat} (hS : S g) {cur : Array Value} {t : TypeId} {fr : Nat × Nat} (hg : W.heap[g]? = some (.cells cur t fr)) (hcur : ∀ j, j < X.flatten.length → cur[j]? = X.flatten[j]?)
    (hlen : L.length ≤ 8796093022208) {k num mn mx : Int} {set : List (Int × Int)} {name : ByteArray} {lz : Bool} {vs : Value} {cap : Nat} (hk : I64 k ∧ I64 num ∧ I64 mn ∧ I64 mx) (hset : RRowOn S W vs set) (hname : name.size ≤ 140737488351232) :
    NdOn S W (.mk k set num name mn mx lz L) [.int .i64 k, vs, .int .i64 num, .string name, .int .i64 mn, .int .i64 mx, .bool lz, .slice (some ⟨g, 0, none⟩) L.length cap] := by
  refine .mk (fun j => X.getD j []) hk hset hname hlen (fun j hj => ?_) (fun j hj => ?_)
  · obtain ⟨x, hx, hn⟩ := h.2 j hj
    have ex : X.getD j [] = x := by rw [List.getD, hx]; rfl
    refine ⟨g, 0, rfl, hS, (Array.getElem?_eq_some_iff.1 hg).1, by rw [ex]; exact hn.is.len, fun i hi => ?_⟩
    have hfl := flat8_at X h.is.len8 j i x hx hi
    have hxi : i < x.length := by rw [hn.is.len]; exact hi
    have hlt : j * 8 + i < X.flatten.length := by
      rw [List.getElem?_eq_getElem hxi] at hfl
      exact (List.getElem?_eq_some_iff.1 hfl).1
    rw [ex, ← hfl, ← hcur _ hlt, Nat.zero_add]
    simp [World.cell?, hg]
  · obtain ⟨x, hx, hn⟩ := h.2 j hj
    have ex : X.getD j [] = x := by rw [List.getD, hx]; rfl
    rw [ex]; exact hn
/-- All eight cells of a node's block written. -/
theorem set8_blk (w : World) (B : Nat) {u0 u1 u2 u3 u4 u5 u6 u7 : Value} (v0 v1 v2 v3 v4 v5 v6 v7 : Value) {t : TypeId} (h : w.heap[B]? = some (.cells #[u0, u1, u2, u3, u4, u5, u6, u7] t (0, 0))) :
    ((((((((w.setCell ⟨B, 0, none⟩ v0).setCell ⟨B, 1, none⟩ v1).setCell ⟨B, 2, none⟩ v2).setCell ⟨B, 3, none⟩ v3).setCell ⟨B, 4, none⟩ v4).setCell ⟨B, 5, none⟩ v5).setCell ⟨B, 6, none⟩ v6).setCell ⟨B, 7, none⟩ v7).heap[B]? = some (.cells #[v0, v1, v2, v3, v4, v5, v6, v7] t (0, 0)) := by
  have h0 := heap_setCell_same w B 0 _ t v0 h
  have h1 := heap_setCell_same _ B 1 _ t v1 h0
  have h2 := heap_setCell_same _ B 2 _ t v2 h1
  have h3 := heap_setCell_same _ B 3 _ t v3 h2
  have h4 := heap_setCell_same _ B 4 _ t v4 h3
  have h5 := heap_setCell_same _ B 5 _ t v5 h4
  have h6 := heap_setCell_same _ B 6 _ t v6 h5
  have h7 := heap_setCell_same _ B 7 _ t v7 h6
  simpa using h7
theorem set8_other (w : World) (B : Nat) (v0 v1 v2 v3 v4 v5 v6 v7 : Value) (k : Nat) (h : k ≠ B) : ((((((((w.setCell ⟨B, 0, none⟩ v0).setCell ⟨B, 1, none⟩ v1).setCell ⟨B, 2, none⟩ v2).setCell ⟨B, 3, none⟩ v3).setCell ⟨B, 4, none⟩ v4).setCell ⟨B, 5, none⟩ v5).setCell ⟨B, 6, none⟩ v6).setCell ⟨B, 7, none⟩ v7).heap[k]? = w.heap[k]? := by
  rw [heap_setCell_other _ _ _ _ (by exact h), heap_setCell_other _ _ _ _ (by exact h), heap_setCell_other _ _ _ _ (by exact h), heap_setCell_other _ _ _ _ (by exact h), heap_setCell_other _ _ _ _ (by exact h), heap_setCell_other _ _ _ _ (by exact h), heap_setCell_other _ _ _ _ (by exact h), heap_setCell_other _ _ _ _ (by exact h)]
theorem set8_size (w : World) (B : Nat) (v0 v1 v2 v3 v4 v5 v6 v7 : Value) : ((((((((w.setCell ⟨B, 0, none⟩ v0).setCell ⟨B, 1, none⟩ v1).setCell ⟨B, 2, none⟩ v2).setCell ⟨B, 3, none⟩ v3).setCell ⟨B, 4, none⟩ v4).setCell ⟨B, 5, none⟩ v5).setCell ⟨B, 6, none⟩ v6).setCell ⟨B, 7, none⟩ v7).heap.size = w.heap.size := by simp
theorem set8_below {n0 : Nat} {x w : World} (h : Below n0 x w) (B : Nat) (hB : n0 ≤ B) (v0 v1 v2 v3 v4 v5 v6 v7 : Value) : Below n0 x ((((((((w.setCell ⟨B, 0, none⟩ v0).setCell ⟨B, 1, none⟩ v1).setCell ⟨B, 2, none⟩ v2).setCell ⟨B, 3, none⟩ v3).setCell ⟨B, 4, none⟩ v4).setCell ⟨B, 5, none⟩ v5).setCell ⟨B, 6, none⟩ v6).setCell ⟨B, 7, none⟩ v7) :=
  (((((((h.setCell hB v0).setCell hB v1).setCell hB v2).setCell hB v3).setCell hB v4).setCell hB v5).setCell hB v6).setCell hB v7
end Go.Proofs.YtanffablfgnioaaGreatDoor
namespace Go.Proofs.YtanffablfgnioaaGreatDoor.Utf

def width (r : Int) : Int :=
  if r < 0 ∨ 1114111 < r ∨ (55296 ≤ r ∧ r ≤ 57343) then 0 else if r ≤ 127 then 1 else if r ≤ 2047 then 2 else if r ≤ 65535 then 3 else 4
def encN (r : Int) : List Int :=
  if width r = 0 then [] else if width r = 1 then [r] else if width r = 2 then [192 + r / 64, 128 + r % 64]
  else if width r = 3 then [224 + r / 4096, 128 + r / 64 % 64, 128 + r % 64]
  else [240 + r / 262144, 128 + r / 4096 % 64, 128 + r / 64 % 64, 128 + r % 64]
def ann (a : Int) : Int := if a < 128 then 1 else if a < 192 then 0 else if a < 224 then 2 else if a < 240 then 3 else if a < 248 then 4 else 0
def mark (n : Int) : Int := if n = 2 then 192 else if n = 3 then 224 else if n = 4 then 240 else 0
def Cont (b : Int) : Prop := 128 ≤ b ∧ b < 192
instance (b : Int) : Decidable (Cont b) := by unfold Cont; infer_instance
/-- What the first k bytes say. -/
def acc (l : List Int) (m : Int) : Nat → Int
  | 0 => 0
  | 1 => l[0]?.getD 0 - m
  | k + 2 => acc l m (k + 1) * 64 + l[k + 1]?.getD 0 % 64
def conts (l : List Int) : Nat → Bool
  | 0 => true
  | 1 => true
  | k + 2 => conts l (k + 1) && decide (Cont (l[k + 1]?.getD 0))
def dec (l : List Int) : Int × Int :=
  if l = [] then (-1, 0)
  else if ann (l[0]?.getD 0) = 0 ∨ (l.length : Int) < ann (l[0]?.getD 0) then (-1, 1)
  else if conts l (ann (l[0]?.getD 0)).toNat = true ∧ width (acc l (mark (ann (l[0]?.getD 0))) (ann (l[0]?.getD 0)).toNat) = ann (l[0]?.getD 0)
    then (acc l (mark (ann (l[0]?.getD 0))) (ann (l[0]?.getD 0)).toNat, ann (l[0]?.getD 0))
  else (-1, 1)
def Bytes (l : List Int) : Prop := ∀ x ∈ l, 0 ≤ x ∧ x < 256

theorem width_cases (r : Int) : (width r = 0 ∧ (r < 0 ∨ 1114111 < r ∨ (55296 ≤ r ∧ r ≤ 57343))) ∨ (width r = 1 ∧ 0 ≤ r ∧ r ≤ 127) ∨ (width r = 2 ∧ 128 ≤ r ∧ r ≤ 2047) ∨
    (width r = 3 ∧ 2048 ≤ r ∧ r ≤ 65535 ∧ (r < 55296 ∨ 57343 < r)) ∨ (width r = 4 ∧ 65536 ≤ r ∧ r ≤ 1114111) := by
  unfold width
  split
  · omega
  · split
    · omega
    · split
      · omega
      · split <;> omega
theorem width_le (r : Int) : 0 ≤ width r ∧ width r ≤ 4 := by rcases width_cases r with h | h | h | h | h <;> omega
theorem encN_length (r : Int) : ((encN r).length : Int) = width r := by
  rcases width_cases r with h | h | h | h | h <;> simp [encN, h.1]
theorem dec_of (l : List Int) (r : Int) (n : Nat) (hn : n ≠ 0) (h1 : ann (l[0]?.getD 0) = n) (h2 : n ≤ l.length) (h3 : conts l n = true) (h4 : acc l (mark n) n = r) (h5 : width r = n) : dec l = (r, (n : Int)) := by
  have hne : l ≠ [] := by intro h; subst h; simp at h2; exact hn h2
  unfold dec
  rw [h1, if_neg hne, if_neg (by omega), if_pos ⟨by rw [Int.toNat_natCast]; exact h3, by rw [Int.toNat_natCast, h4]; exact h5⟩, Int.toNat_natCast, h4]

/-- THERE AND BACK, one way. -/
theorem dec_enc (r : Int) (h : width r ≠ 0) (t : List Int) : dec (encN r ++ t) = (r, width r) := by
  rcases width_cases r with ⟨w, _⟩ | ⟨w, h1, h2⟩ | ⟨w, h1, h2⟩ | ⟨w, h1, h2, h3⟩ | ⟨w, h1, h2⟩
  · exact absurd w h
  · rw [w]
    have e : encN r ++ t = r :: t := by simp [encN, w]
    rw [e]
    exact dec_of _ r 1 (by decide) (by show ann r = _; unfold ann; split <;> omega) (by simp) rfl (by show r - 0 = r; omega) w
  · rw [w]
    have e : encN r ++ t = (192 + r / 64) :: (128 + r % 64) :: t := by simp [encN, w]
    rw [e]
    refine dec_of _ r 2 (by decide) (by show ann (192 + r / 64) = _; unfold ann; repeat (first | omega | split)) (by simp) ?_ (by show (192 + r / 64 - 192) * 64 + (128 + r % 64) % 64 = r; omega) w
    show decide (Cont (128 + r % 64)) = true
    simp only [decide_eq_true_eq]; unfold Cont; omega
  · rw [w]
    have e : encN r ++ t = (224 + r / 4096) :: (128 + r / 64 % 64) :: (128 + r % 64) :: t := by simp [encN, w]
    rw [e]
    refine dec_of _ r 3 (by decide) (by show ann (224 + r / 4096) = _; unfold ann; repeat (first | omega | split)) (by simp) ?_ (by show ((224 + r / 4096 - 224) * 64 + (128 + r / 64 % 64) % 64) * 64 + (128 + r % 64) % 64 = r; omega) w
    show (decide (Cont (128 + r / 64 % 64)) && decide (Cont (128 + r % 64))) = true
    simp only [Bool.and_eq_true, decide_eq_true_eq]; unfold Cont; omega
  · rw [w]
    have e : encN r ++ t = (240 + r / 262144) :: (128 + r / 4096 % 64) :: (128 + r / 64 % 64) :: (128 + r % 64) :: t := by simp [encN, w]
    rw [e]
    refine dec_of _ r 4 (by decide) (by show ann (240 + r / 262144) = _; unfold ann; repeat (first | omega | split)) (by simp) ?_ (by show (((240 + r / 262144 - 240) * 64 + (128 + r / 4096 % 64) % 64) * 64 + (128 + r / 64 % 64) % 64) * 64 + (128 + r % 64) % 64 = r; omega) w
    show (decide (Cont (128 + r / 4096 % 64)) && decide (Cont (128 + r / 64 % 64)) && decide (Cont (128 + r % 64))) = true
    simp only [Bool.and_eq_true, decide_eq_true_eq]; unfold Cont; omega

theorem ann_cases (a : Int) (h0 : 0 ≤ a) (h1 : a < 256) : (ann a = 0 ∧ (128 ≤ a ∧ a < 192 ∨ 248 ≤ a)) ∨ (ann a = 1 ∧ a < 128) ∨ (ann a = 2 ∧ 192 ≤ a ∧ a < 224) ∨ (ann a = 3 ∧ 224 ≤ a ∧ a < 240) ∨ (ann a = 4 ∧ 240 ≤ a ∧ a < 248) := by
  unfold ann; repeat (first | omega | split)

/-- THERE AND BACK, the other way: what is read has just the bytes that were read as its encoding. -/
theorem dec_some (l : List Int) (hb : Bytes l) : (l = [] ∧ dec l = (-1, 0)) ∨ (l ≠ [] ∧ dec l = (-1, 1)) ∨
    (width (dec l).1 ≠ 0 ∧ (dec l).2 = width (dec l).1 ∧ ∃ t, l = encN (dec l).1 ++ t) := by
  rcases l with _ | ⟨a, l⟩
  · exact .inl ⟨rfl, rfl⟩
  · refine .inr ?_
    have ha := hb a (by simp)
    by_cases hd : dec (a :: l) = (-1, 1)
    · exact .inl ⟨by simp, hd⟩
    · refine .inr ?_
      by_cases hq : ann a = 0 ∨ ((a :: l).length : Int) < ann a
      · exfalso; apply hd; unfold dec; simp only [List.getElem?_cons_zero, Option.getD_some]; rw [if_neg (by simp), if_pos hq]
      · by_cases hp : conts (a :: l) (ann a).toNat = true ∧ width (acc (a :: l) (mark (ann a)) (ann a).toNat) = ann a
        · have e : dec (a :: l) = (acc (a :: l) (mark (ann a)) (ann a).toNat, ann a) := by
            unfold dec; simp only [List.getElem?_cons_zero, Option.getD_some]; rw [if_neg (by simp), if_neg hq, if_pos hp]
          rw [e]
          have hw := hp.2
          refine ⟨?_, hw.symm, ?_⟩
          · show width (acc _ _ _) ≠ 0
            rw [hw]; omega
          · show ∃ t, _ = encN (acc _ _ _) ++ t
            rcases ann_cases a ha.1 ha.2 with h | h | h | h | h
            · omega
            · rw [h.1] at hp ⊢
              simp [conts, acc, mark] at hp ⊢
              exact ⟨l, by simp [encN, hp]⟩
            · rw [h.1] at hp hq ⊢
              rcases l with _ | ⟨b, l⟩
              · simp at hq
              · simp [conts, acc, mark, Cont] at hp ⊢
                have hbb := hb b (by simp)
                refine ⟨l, ?_⟩
                simp [encN, hp.2]
                omega
            · rw [h.1] at hp hq ⊢
              rcases l with _ | ⟨b, _ | ⟨c, l⟩⟩
              · simp at hq
              · simp at hq
              · simp [conts, acc, mark, Cont] at hp ⊢
                have hbb := hb b (by simp)
                have hcc := hb c (by simp)
                refine ⟨l, ?_⟩
                simp [encN, hp.2]
                omega
            · rw [h.1] at hp hq ⊢
              rcases l with _ | ⟨b, _ | ⟨c, _ | ⟨d, l⟩⟩⟩
              · simp at hq
              · simp at hq
              · simp at hq
              · simp [conts, acc, mark, Cont] at hp ⊢
                have hbb := hb b (by simp)
                have hcc := hb c (by simp)
                have hdd := hb d (by simp)
                refine ⟨l, ?_⟩
                simp [encN, hp.2]
                omega
        · exfalso; apply hd; unfold dec; simp only [List.getElem?_cons_zero, Option.getD_some]; rw [if_neg (by simp), if_neg hq, if_neg hp]

theorem getD_bytes {l : List Int} (hb : Bytes l) (k : Nat) : 0 ≤ l[k]?.getD 0 ∧ l[k]?.getD 0 < 256 := by
  rcases h : l[k]? with _ | x
  · simp
  · exact hb x (List.mem_of_getElem? h)
theorem mark_bd (n : Int) : 0 ≤ mark n ∧ mark n ≤ 240 := by
  unfold mark; split
  · omega
  · split
    · omega
    · split <;> omega
theorem ann_bd (a : Int) : 0 ≤ ann a ∧ ann a ≤ 4 := by
  unfold ann; split
  · omega
  · split
    · omega
    · split
      · omega
      · split
        · omega
        · split <;> omega
theorem acc1 (l : List Int) (m : Int) : acc l m 1 = l[0]?.getD 0 - m := rfl
theorem acc2 (l : List Int) (m : Int) : acc l m 2 = (l[0]?.getD 0 - m) * 64 + l[1]?.getD 0 % 64 := rfl
theorem acc3 (l : List Int) (m : Int) : acc l m 3 = ((l[0]?.getD 0 - m) * 64 + l[1]?.getD 0 % 64) * 64 + l[2]?.getD 0 % 64 := rfl
theorem acc4 (l : List Int) (m : Int) : acc l m 4 = (((l[0]?.getD 0 - m) * 64 + l[1]?.getD 0 % 64) * 64 + l[2]?.getD 0 % 64) * 64 + l[3]?.getD 0 % 64 := rfl
theorem acc_bd (l : List Int) (hb : Bytes l) (k : Nat) (hk : k ≤ 4) :
    0 ≤ acc l (mark (ann (l[0]?.getD 0))) k ∧ acc l (mark (ann (l[0]?.getD 0))) k ≤ 67108863 := by
  have h0 := getD_bytes hb 0
  have h1 := getD_bytes hb 1
  have h2 := getD_bytes hb 2
  have h3 := getD_bytes hb 3
  have hm : 0 ≤ l[0]?.getD 0 - mark (ann (l[0]?.getD 0)) ∧ l[0]?.getD 0 - mark (ann (l[0]?.getD 0)) < 256 := by
    have := mark_bd (ann (l[0]?.getD 0))
    refine ⟨?_, by omega⟩
    have m0 : mark 0 = 0 := by decide
    have m1 : mark 1 = 0 := by decide
    have m2 : mark 2 = 192 := by decide
    have m3 : mark 3 = 224 := by decide
    have m4 : mark 4 = 240 := by decide
    rcases ann_cases _ h0.1 h0.2 with h | h | h | h | h <;> rw [h.1] <;> omega
  generalize mark (ann (l[0]?.getD 0)) = m at *
  match k, hk with
  | 0, _ => exact ⟨by show (0 : Int) ≤ 0; omega, by show (0 : Int) ≤ _; omega⟩
  | 1, _ => rw [acc1]; omega
  | 2, _ => rw [acc2]; omega
  | 3, _ => rw [acc3]; omega
  | 4, _ => rw [acc4]; omega

def nums (s : ByteArray) : List Int := s.data.toList.map fun b => (b.toNat : Int)
theorem nums_length (s : ByteArray) : (nums s).length = s.size := by
  unfold nums; rw [List.length_map]; exact Array.length_toList
theorem nums_bytes (s : ByteArray) : Bytes (nums s) := by
  intro x hx
  simp [nums] at hx
  obtain ⟨b, _, rfl⟩ := hx
  have := b.toNat_lt
  omega
theorem nums_at (s : ByteArray) (k : Nat) (h : k < s.size) : (nums s)[k]?.getD 0 = (s[k].toNat : Int) := by
  have h' : k < s.data.size := h
  simp only [nums, List.getElem?_map, Array.getElem?_toList]
  rw [Array.getElem?_eq_getElem h']
  rfl
theorem nums_nil (s : ByteArray) : nums s = [] ↔ s.size = 0 := by rw [← nums_length]; simp

theorem conts_at (l : List Int) : ∀ (n k : Nat), conts l n = true → 1 ≤ k → k < n → Cont (l[k]?.getD 0)
  | 0, k, _, _, h => by omega
  | 1, k, _, _, h => by omega
  | n + 2, k, hc, h1, h => by
    simp only [conts, Bool.and_eq_true, decide_eq_true_eq] at hc
    by_cases e : k = n + 1
    · subst e; exact hc.2
    · exact conts_at l (n + 1) k hc.1 h1 (by omega)
theorem conts_succ (l : List Int) (k : Nat) (h1 : 1 ≤ k) (hc : conts l k = true) (h : Cont (l[k]?.getD 0)) : conts l (k + 1) = true := by
  obtain ⟨j, rfl⟩ : ∃ j, k = j + 1 := ⟨k - 1, by omega⟩
  simp only [conts, Bool.and_eq_true, decide_eq_true_eq]
  exact ⟨hc, h⟩
theorem acc_succ (l : List Int) (m : Int) (k : Nat) (h1 : 1 ≤ k) : acc l m (k + 1) = acc l m k * 64 + l[k]?.getD 0 % 64 := by
  obtain ⟨j, rfl⟩ : ∃ j, k = j + 1 := ⟨k - 1, by omega⟩
  rfl
theorem cont_yes (x : Int) (h : (x / 64 * 64 != 128) = false) : Cont x := by
  simp only [bne_eq_false_iff_eq] at h
  unfold Cont; omega
theorem cont_no (x : Int) (h : (x / 64 * 64 != 128) = true) : ¬ Cont x := by
  simp only [bne_iff_ne] at h
  unfold Cont; omega
theorem dec_bad1 (l : List Int) (hl : l ≠ []) (h : ann (l[0]?.getD 0) = 0 ∨ (l.length : Int) < ann (l[0]?.getD 0)) : dec l = (-1, 1) := by
  unfold dec; rw [if_neg hl, if_pos h]
theorem dec_bad2 (l : List Int) (n : Nat) (hl : l ≠ []) (h1 : ann (l[0]?.getD 0) = n) (h : ¬ (conts l n = true ∧ width (acc l (mark n) n) = n)) : dec l = (-1, 1) := by
  by_cases hq : ann (l[0]?.getD 0) = 0 ∨ (l.length : Int) < ann (l[0]?.getD 0)
  · exact dec_bad1 l hl hq
  · unfold dec; rw [if_neg hl, if_neg hq, h1, Int.toNat_natCast, if_neg h]

/-! ### Pieces -/
def step (l : List Int) : Nat := (dec l).2.toNat
def pc (l : List Int) : Nat → Nat → List (Int × Int)
  | 0, _ => []
  | f + 1, at_ => if at_ < l.length then ((at_ : Int), (dec (l.drop at_)).1) :: pc l f (at_ + step (l.drop at_)) else []
def rest (l : List Int) (at_ : Nat) : List (Int × Int) := pc l (l.length - at_) at_
def pieces (l : List Int) : List (Int × Int) := rest l 0

theorem bytes_drop {l : List Int} (h : Bytes l) (k : Nat) : Bytes (l.drop k) := fun x hx => h x (List.mem_of_mem_drop hx)
theorem dec_len (l : List Int) (hb : Bytes l) : 0 ≤ (dec l).2 ∧ ((dec l).2 : Int) ≤ l.length ∧ (l ≠ [] → 1 ≤ (dec l).2) ∧ (dec l).2 ≤ 4 := by
  rcases dec_some l hb with ⟨rfl, h⟩ | ⟨hn, h⟩ | ⟨h1, h2, t, ht⟩
  · rw [h]; simp
  · rw [h]
    have : 0 < l.length := List.length_pos_iff.2 hn
    refine ⟨by simp, by simp; omega, by simp, by simp⟩
  · have := encN_length (dec l).1
    have hl : (l.length : Int) = width (dec l).1 + t.length := by
      have := congrArg List.length ht
      rw [List.length_append] at this
      omega
    have hw := width_le (dec l).1
    refine ⟨by omega, by omega, fun _ => by omega, by omega⟩
theorem dec_neg (l : List Int) (hb : Bytes l) : -1 ≤ (dec l).1 ∧ ((dec l).1 < 0 → (dec l).1 = -1) ∧ (dec l).1 ≤ 1114111 := by
  rcases dec_some l hb with ⟨rfl, h⟩ | ⟨hn, h⟩ | ⟨h1, h2, t, ht⟩
  · rw [h]; simp
  · rw [h]; simp
  · rcases width_cases (dec l).1 with w | w | w | w | w <;> omega
theorem step_bd (l : List Int) (hb : Bytes l) (hn : l ≠ []) : 1 ≤ step l ∧ step l ≤ l.length ∧ (step l : Int) = (dec l).2 := by
  have := dec_len l hb
  have := this.2.2.1 hn
  unfold step; omega
theorem pc_fuel (l : List Int) (hb : Bytes l) : ∀ (f g at_ : Nat), l.length - at_ ≤ f → l.length - at_ ≤ g → pc l f at_ = pc l g at_
  | 0, 0, _, _, _ => rfl
  | 0, g + 1, at_, h, _ => by unfold pc; rw [if_neg (by omega)]
  | f + 1, 0, at_, _, h => by unfold pc; rw [if_neg (by omega)]
  | f + 1, g + 1, at_, h, h' => by
    unfold pc
    by_cases hl : at_ < l.length
    · rw [if_pos hl, if_pos hl]
      have hs := step_bd (l.drop at_) (bytes_drop hb _) (by intro e; have := congrArg List.length e; simp at this; omega)
      rw [pc_fuel l hb f g _ (by omega) (by omega)]
    · rw [if_neg hl, if_neg hl]
theorem rest_step (l : List Int) (hb : Bytes l) (at_ : Nat) (h : at_ < l.length) : rest l at_ = ((at_ : Int), (dec (l.drop at_)).1) :: rest l (at_ + step (l.drop at_)) := by
  have hs := step_bd (l.drop at_) (bytes_drop hb _) (by intro e; have := congrArg List.length e; simp at this; omega)
  unfold rest
  obtain ⟨f, hf⟩ : ∃ f, l.length - at_ = f + 1 := ⟨l.length - at_ - 1, by omega⟩
  rw [hf]
  conv => lhs; unfold pc
  rw [if_pos h, pc_fuel l hb f (l.length - (at_ + step (l.drop at_))) _ (by omega) (by omega)]
theorem nums_extract (s : ByteArray) (a b : Nat) : nums (s.extract a b) = ((nums s).drop a).take (b - a) := by
  unfold nums
  rw [ByteArray.data_extract, Array.toList_extract, List.extract_eq_take_drop, List.map_take, List.map_drop]
end Go.Proofs.YtanffablfgnioaaGreatDoor.Utf
