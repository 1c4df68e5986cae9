/- A node over a row of nodes that lies in one block. · A node that reads in certain blocks alone: whatever else turns, it stands. · The landed lex: what its functions hand back; a rune as itself. · The landed lex: the escapes that are no class and no number. · The landed bracket: character, goesOn, isClassEscape. -/
import Derived.Test.YtdcielcniboloaaGreatDoorGp15
import Derived.Test.YtdcielcniboloaaGreatDoorGp6
import Derived.Laws.Rows
namespace Go.Proofs.YtdcielcniboloaaGreatDoor
open Go.RowKit
set_option linter.unusedVariables false
theorem flat8_at : ∀ (X : List (List Value)), (∀ x ∈ X, x.length = 8) → ∀ (j q : Nat) (x : List Value), X[j]? = some x → q < 8 → X.flatten[j * 8 + q]? = x[q]?
  | [], _, j, q, x, hx, _ => by simp at hx
  | y :: X, h, 0, q, x, hx, hq => by
    simp at hx
    subst hx
    rw [List.flatten_cons, Nat.zero_mul, Nat.zero_add, List.getElem?_append_left (by rw [h y (by simp)]; exact hq)]
  | y :: X, h, j + 1, q, x, hx, hq => by
    have hy := h y (by simp)
    rw [List.flatten_cons, List.getElem?_append_right (by rw [hy]; omega), hy]
    have e : (j + 1) * 8 + q - 8 = j * 8 + q := by omega
    rw [e]
    exact flat8_at X (fun z hz => h z (List.mem_cons_of_mem _ hz)) j q x (by simpa using hx) hq
/-- The cells of nodes, one behind another. -/
def NdsIs (W : World) (L : List Nd) (X : List (List Value)) : Prop := X.length = L.length ∧ ∀ j (h : j < L.length), ∃ x, X[j]? = some x ∧ NdIs W L[j] x
theorem NdsIs.len8 {W : World} {L : List Nd} {X : List (List Value)} (h : NdsIs W L X) : ∀ x ∈ X, x.length = 8 := fun x hx => by
  obtain ⟨j, hj, rfl⟩ := List.getElem_of_mem hx
  obtain ⟨y, hy, hn⟩ := h.2 j (by rw [← h.1]; exact hj)
  rw [List.getElem?_eq_getElem hj] at hy
  rw [Option.some.inj hy]; exact hn.len
theorem NdsIs.kept {W W' : World} {L : List Nd} {X : List (List Value)} (h : NdsIs W L X) (hb : Below W.heap.size W W') : NdsIs W' L X := ⟨h.1, fun j hj => by
  obtain ⟨x, hx, hn⟩ := h.2 j hj
  exact ⟨x, hx, hn.kept hb⟩⟩
theorem NdsIs.nil (W : World) : NdsIs W [] [] := ⟨rfl, fun j h => absurd h (by simp)⟩
theorem NdsIs.snoc {W : World} {L : List Nd} {X : List (List Value)} (h : NdsIs W L X) {n : Nd} {cs : List Value} (hn : NdIs W n cs) : NdsIs W (L ++ [n]) (X ++ [cs]) := by
  refine ⟨by simp [h.1], fun j hj => ?_⟩
  by_cases hlt : j < L.length
  · obtain ⟨x, hx, hx2⟩ := h.2 j hlt
    refine ⟨x, ?_, by rw [List.getElem_append_left hlt]; exact hx2⟩
    rw [List.getElem?_append_left (by rw [h.1]; exact hlt)]; exact hx
  · have e : j = L.length := by rw [List.length_append] at hj; simp at hj; omega
    subst e
    refine ⟨cs, ?_, ?_⟩
    · rw [List.getElem?_append_right (by rw [h.1]; exact Nat.le_refl _), h.1]; simp
    · rw [List.getElem_append_right (Nat.le_refl _)]; simpa using hn
/-- A node whose parts are a row that begins a block. -/
theorem NdIs.row {W : World} {L : List Nd} {X : List (List Value)} (h : NdsIs W L X) {g : Nat} {cur : Array Value} {t : TypeId} {fr : Nat × Nat} (hg : W.heap[g]? = some (.cells cur t fr)) (hcur : ∀ j, j < X.flatten.length → cur[j]? = X.flatten[j]?)
    (hlen : L.length ≤ 8796093022208) {k num mn mx : Int} {set : List (Int × Int)} {name : ByteArray} {lz : Bool} {vs : Value} {cap : Nat} (hk : I64 k ∧ I64 num ∧ I64 mn ∧ I64 mx) (hset : RRow W vs set) (hname : name.size ≤ 140737488351232) :
    NdIs W (.mk k set num name mn mx lz L) [.int .i64 k, vs, .int .i64 num, .string name, .int .i64 mn, .int .i64 mx, .bool lz, .slice (some ⟨g, 0, none⟩) L.length cap] := by
  refine .mk (fun j => X.getD j []) hk hset hname hlen (fun j hj => ?_) (fun j hj => ?_)
  · obtain ⟨x, hx, hn⟩ := h.2 j hj
    have ex : X.getD j [] = x := by rw [List.getD, hx]; rfl
    refine ⟨g, 0, rfl, (Array.getElem?_eq_some_iff.1 hg).1, by rw [ex]; exact hn.len, fun i hi => ?_⟩
    have hfl := flat8_at X h.len8 j i x hx hi
    have hxi : i < x.length := by rw [hn.len]; exact hi
    have hlt : j * 8 + i < X.flatten.length := by
      rw [List.getElem?_eq_getElem hxi] at hfl
      exact (List.getElem?_eq_some_iff.1 hfl).1
    rw [ex, ← hfl, ← hcur _ hlt, Nat.zero_add]
    simp [World.cell?, hg]
  · obtain ⟨x, hx, hn⟩ := h.2 j hj
    have ex : X.getD j [] = x := by rw [List.getD, hx]; rfl
    rw [ex]; exact hn
end Go.Proofs.YtdcielcniboloaaGreatDoor
namespace Go.Proofs.YtdcielcniboloaaGreatDoor
open Go.RowKit
set_option linter.unusedVariables false
theorem cell_of_blk {W W' : World} {b : Nat} (h : W'.heap[b]? = W.heap[b]?) (o : Nat) : W'.cell? ⟨b, o, none⟩ = W.cell? ⟨b, o, none⟩ := by simp [World.cell?, h]
/-- A list of ranges that lies in one of certain blocks. -/
def RRowOn (S : Nat → Prop) (W : World) (v : Value) (l : List (Int × Int)) : Prop := RRow W v l ∧ ∀ g off len cap, v = .slice (some ⟨g, off, none⟩) len cap → 0 < len → S g
theorem RRowOn.kept {S : Nat → Prop} {W W' : World} {v : Value} {l : List (Int × Int)} (h : RRowOn S W v l) (hs : W.heap.size ≤ W'.heap.size) (hk : ∀ b, S b → b < W.heap.size → W'.heap[b]? = W.heap[b]?) : RRowOn S W' v l := by
  obtain ⟨⟨a, cap, hv, h1, h2, h3⟩, h4⟩ := h
  refine ⟨⟨a, cap, hv, h1, h2, fun j hj => ?_⟩, h4⟩
  obtain ⟨b, off, ha, hb, c1, c2⟩ := h3 j hj
  have hS : S b := h4 b off l.length cap (by rw [hv, ha]) (by omega)
  have hh := hk b hS hb
  exact ⟨b, off, ha, Nat.lt_of_lt_of_le hb hs, (cell_of_blk hh _).trans c1, (cell_of_blk hh _).trans c2⟩
theorem RRowOn.mono {S S' : Nat → Prop} {W : World} {v : Value} {l : List (Int × Int)} (h : RRowOn S W v l) (hS : ∀ b, S b → S' b) : RRowOn S' W v l := ⟨h.1, fun g off len cap e hl => hS g (h.2 g off len cap e hl)⟩
theorem RRowOn.nil {S : Nat → Prop} {W : World} : RRowOn S W (.slice none 0 0) [] := ⟨RRow.nil W, fun g off len cap e _ => by cases e⟩
inductive NdOn (S : Nat → Prop) (W : World) : Nd → List Value → Prop where
  | mk {k num mn mx : Int} {set : List (Int × Int)} {name : ByteArray} {lz : Bool} {subs : List Nd} {vs : Value} {a : Option Addr} {cap : Nat} (cs : Nat → List Value)
      (hk : I64 k ∧ I64 num ∧ I64 mn ∧ I64 mx) (hset : RRowOn S W vs set) (hname : name.size ≤ 140737488351232) (hlen : subs.length ≤ 8796093022208)
      (hrow : ∀ j, j < subs.length → ∃ b off, a = some ⟨b, off, none⟩ ∧ S b ∧ b < W.heap.size ∧ (cs j).length = 8 ∧ ∀ i, i < 8 → W.cell? ⟨b, off + j * 8 + i, none⟩ = (cs j)[i]?)
      (hsub : ∀ j (h : j < subs.length), NdOn S W subs[j] (cs j)) :
      NdOn S W (.mk k set num name mn mx lz subs) [.int .i64 k, vs, .int .i64 num, .string name, .int .i64 mn, .int .i64 mx, .bool lz, .slice a subs.length cap]
theorem NdOn.is {S : Nat → Prop} {W : World} : ∀ {n : Nd} {cs : List Value}, NdOn S W n cs → NdIs W n cs := by
  intro n cs h
  induction h with
  | mk cs hk hset hname hlen hrow hsub ih =>
    exact .mk cs hk hset.1 hname hlen (fun j hj => by
      obtain ⟨b, off, ha, _, hb, hl, hc⟩ := hrow j hj
      exact ⟨b, off, ha, hb, hl, hc⟩) ih
theorem NdOn.kept {S : Nat → Prop} {W W' : World} (hs : W.heap.size ≤ W'.heap.size) (hk : ∀ b, S b → b < W.heap.size → W'.heap[b]? = W.heap[b]?) : ∀ {n : Nd} {cs : List Value}, NdOn S W n cs → NdOn S W' n cs := by
  intro n cs h
  induction h with
  | mk cs hkk hset hname hlen hrow hsub ih =>
    refine .mk cs hkk (hset.kept hs hk) hname hlen (fun j hj => ?_) ih
    obtain ⟨b, off, ha, hS, hb, hl, hc⟩ := hrow j hj
    exact ⟨b, off, ha, hS, Nat.lt_of_lt_of_le hb hs, hl, fun i hi => (cell_of_blk (hk b hS hb) _).trans (hc i hi)⟩
theorem NdOn.mono {S S' : Nat → Prop} {W : World} (hS : ∀ b, S b → S' b) : ∀ {n : Nd} {cs : List Value}, NdOn S W n cs → NdOn S' W n cs := by
  intro n cs h
  induction h with
  | mk cs hkk hset hname hlen hrow hsub ih =>
    refine .mk cs hkk (hset.mono hS) hname hlen (fun j hj => ?_) ih
    obtain ⟨b, off, ha, h1, hb, hl, hc⟩ := hrow j hj
    exact ⟨b, off, ha, hS b h1, hb, hl, hc⟩
theorem RRowOn.of {W : World} {v : Value} {l : List (Int × Int)} (h : RRow W v l) : RRowOn (· < W.heap.size) W v l := ⟨h, fun g off len cap e hl => by
  obtain ⟨a, c, hv, _, _, h3⟩ := h
  rw [hv] at e
  injection e with e1 e2 e3
  obtain ⟨b, off', ha, hb, _⟩ := h3 0 (by omega)
  rw [ha] at e1; injection e1 with e1; injection e1 with e1 _ _
  rw [← e1]; exact hb⟩
theorem NdOn.of {W : World} : ∀ {n : Nd} {cs : List Value}, NdIs W n cs → NdOn (· < W.heap.size) W n cs := by
  intro n cs h
  induction h with
  | mk cs hkk hset hname hlen hrow hsub ih =>
    refine .mk cs hkk (.of hset) hname hlen (fun j hj => ?_) ih
    obtain ⟨b, off, ha, hb, hl, hc⟩ := hrow j hj
    exact ⟨b, off, ha, hb, hb, hl, hc⟩
/-- The cells of nodes, one behind another, each in certain blocks. -/
def NdsOn (S : Nat → Prop) (W : World) (L : List Nd) (X : List (List Value)) : Prop := X.length = L.length ∧ ∀ j (h : j < L.length), ∃ x, X[j]? = some x ∧ NdOn S W L[j] x
theorem NdsOn.is {S : Nat → Prop} {W : World} {L : List Nd} {X : List (List Value)} (h : NdsOn S W L X) : NdsIs W L X := ⟨h.1, fun j hj => by
  obtain ⟨x, hx, hn⟩ := h.2 j hj
  exact ⟨x, hx, hn.is⟩⟩
theorem NdsOn.nil (S : Nat → Prop) (W : World) : NdsOn S W [] [] := ⟨rfl, fun j h => absurd h (by simp)⟩
theorem NdsOn.kept {S : Nat → Prop} {W W' : World} (hs : W.heap.size ≤ W'.heap.size) (hk : ∀ b, S b → b < W.heap.size → W'.heap[b]? = W.heap[b]?) {L : List Nd} {X : List (List Value)} (h : NdsOn S W L X) : NdsOn S W' L X := ⟨h.1, fun j hj => by
  obtain ⟨x, hx, hn⟩ := h.2 j hj
  exact ⟨x, hx, hn.kept hs hk⟩⟩
theorem NdsOn.mono {S S' : Nat → Prop} {W : World} (hS : ∀ b, S b → S' b) {L : List Nd} {X : List (List Value)} (h : NdsOn S W L X) : NdsOn S' W L X := ⟨h.1, fun j hj => by
  obtain ⟨x, hx, hn⟩ := h.2 j hj
  exact ⟨x, hx, hn.mono hS⟩⟩
theorem NdsOn.snoc {S : Nat → Prop} {W : World} {L : List Nd} {X : List (List Value)} (h : NdsOn S W L X) {n : Nd} {cs : List Value} (hn : NdOn S W n cs) : NdsOn S W (L ++ [n]) (X ++ [cs]) := by
  refine ⟨by simp [h.1], fun j hj => ?_⟩
  by_cases hlt : j < L.length
  · obtain ⟨x, hx, hx2⟩ := h.2 j hlt
    refine ⟨x, ?_, by rw [List.getElem_append_left hlt]; exact hx2⟩
    rw [List.getElem?_append_left (by rw [h.1]; exact hlt)]; exact hx
  · have e : j = L.length := by rw [List.length_append] at hj; simp at hj; omega
    subst e
    refine ⟨cs, ?_, ?_⟩
    · rw [List.getElem?_append_right (by rw [h.1]; exact Nat.le_refl _), h.1]; simp
    · rw [List.getElem_append_right (Nat.le_refl _)]; simpa using hn
/-- A node whose parts are a row that begins a block. -/
theorem NdOn.row {S : Nat → Prop} {W : World} {L : List Nd} {X : List (List Value)} (h : NdsOn S W L X) {g : Nat} (hS : S g) {cur : Array Value} {t : TypeId} {fr : Nat × Nat} (hg : W.heap[g]? = some (.cells cur t fr)) (hcur : ∀ j, j < X.flatten.length → cur[j]? = X.flatten[j]?)
    (hlen : L.length ≤ 8796093022208) {k num mn mx : Int} {set : List (Int × Int)} {name : ByteArray} {lz : Bool} {vs : Value} {cap : Nat} (hk : I64 k ∧ I64 num ∧ I64 mn ∧ I64 mx) (hset : RRowOn S W vs set) (hname : name.size ≤ 140737488351232) :
    NdOn S W (.mk k set num name mn mx lz L) [.int .i64 k, vs, .int .i64 num, .string name, .int .i64 mn, .int .i64 mx, .bool lz, .slice (some ⟨g, 0, none⟩) L.length cap] := by
  refine .mk (fun j => X.getD j []) hk hset hname hlen (fun j hj => ?_) (fun j hj => ?_)
  · obtain ⟨x, hx, hn⟩ := h.2 j hj
    have ex : X.getD j [] = x := by rw [List.getD, hx]; rfl
    refine ⟨g, 0, rfl, hS, (Array.getElem?_eq_some_iff.1 hg).1, by rw [ex]; exact hn.is.len, fun i hi => ?_⟩
    have hfl := flat8_at X h.is.len8 j i x hx hi
    have hxi : i < x.length := by rw [hn.is.len]; exact hi
    have hlt : j * 8 + i < X.flatten.length := by
      rw [List.getElem?_eq_getElem hxi] at hfl
      exact (List.getElem?_eq_some_iff.1 hfl).1
    rw [ex, ← hfl, ← hcur _ hlt, Nat.zero_add]
    simp [World.cell?, hg]
  · obtain ⟨x, hx, hn⟩ := h.2 j hj
    have ex : X.getD j [] = x := by rw [List.getD, hx]; rfl
    rw [ex]; exact hn
/-- All eight cells of a node's block written. -/
theorem set8_blk (w : World) (B : Nat) {u0 u1 u2 u3 u4 u5 u6 u7 : Value} (v0 v1 v2 v3 v4 v5 v6 v7 : Value) {t : TypeId} (h : w.heap[B]? = some (.cells #[u0, u1, u2, u3, u4, u5, u6, u7] t (0, 0))) :
    ((((((((w.setCell ⟨B, 0, none⟩ v0).setCell ⟨B, 1, none⟩ v1).setCell ⟨B, 2, none⟩ v2).setCell ⟨B, 3, none⟩ v3).setCell ⟨B, 4, none⟩ v4).setCell ⟨B, 5, none⟩ v5).setCell ⟨B, 6, none⟩ v6).setCell ⟨B, 7, none⟩ v7).heap[B]? = some (.cells #[v0, v1, v2, v3, v4, v5, v6, v7] t (0, 0)) := by
  have h0 := heap_setCell_same w B 0 _ t v0 h
  have h1 := heap_setCell_same _ B 1 _ t v1 h0
  have h2 := heap_setCell_same _ B 2 _ t v2 h1
  have h3 := heap_setCell_same _ B 3 _ t v3 h2
  have h4 := heap_setCell_same _ B 4 _ t v4 h3
  have h5 := heap_setCell_same _ B 5 _ t v5 h4
  have h6 := heap_setCell_same _ B 6 _ t v6 h5
  have h7 := heap_setCell_same _ B 7 _ t v7 h6
  simpa using h7
theorem set8_other (w : World) (B : Nat) (v0 v1 v2 v3 v4 v5 v6 v7 : Value) (k : Nat) (h : k ≠ B) : ((((((((w.setCell ⟨B, 0, none⟩ v0).setCell ⟨B, 1, none⟩ v1).setCell ⟨B, 2, none⟩ v2).setCell ⟨B, 3, none⟩ v3).setCell ⟨B, 4, none⟩ v4).setCell ⟨B, 5, none⟩ v5).setCell ⟨B, 6, none⟩ v6).setCell ⟨B, 7, none⟩ v7).heap[k]? = w.heap[k]? := by
  rw [heap_setCell_other _ _ _ _ (by exact h), heap_setCell_other _ _ _ _ (by exact h), heap_setCell_other _ _ _ _ (by exact h), heap_setCell_other _ _ _ _ (by exact h), heap_setCell_other _ _ _ _ (by exact h), heap_setCell_other _ _ _ _ (by exact h), heap_setCell_other _ _ _ _ (by exact h), heap_setCell_other _ _ _ _ (by exact h)]
theorem set8_size (w : World) (B : Nat) (v0 v1 v2 v3 v4 v5 v6 v7 : Value) : ((((((((w.setCell ⟨B, 0, none⟩ v0).setCell ⟨B, 1, none⟩ v1).setCell ⟨B, 2, none⟩ v2).setCell ⟨B, 3, none⟩ v3).setCell ⟨B, 4, none⟩ v4).setCell ⟨B, 5, none⟩ v5).setCell ⟨B, 6, none⟩ v6).setCell ⟨B, 7, none⟩ v7).heap.size = w.heap.size := by simp
theorem set8_below {n0 : Nat} {x w : World} (h : Below n0 x w) (B : Nat) (hB : n0 ≤ B) (v0 v1 v2 v3 v4 v5 v6 v7 : Value) : Below n0 x ((((((((w.setCell ⟨B, 0, none⟩ v0).setCell ⟨B, 1, none⟩ v1).setCell ⟨B, 2, none⟩ v2).setCell ⟨B, 3, none⟩ v3).setCell ⟨B, 4, none⟩ v4).setCell ⟨B, 5, none⟩ v5).setCell ⟨B, 6, none⟩ v6).setCell ⟨B, 7, none⟩ v7) :=
  (((((((h.setCell hB v0).setCell hB v1).setCell hB v2).setCell hB v3).setCell hB v4).setCell hB v5).setCell hB v6).setCell hB v7
end Go.Proofs.YtdcielcniboloaaGreatDoor
namespace Go.Proofs.YtdcielcniboloaaGreatDoor
open Go.RowKit
open Lx (Tk TR)
set_option linter.unusedVariables false
/-- The cells of a token at a place. -/
def TkCells (a : Int) (t : Tk) (vs : Value) : List Value := [.int .i64 t.kind, .int .i64 a, .int .i64 t.num, .string t.name, .int .i64 t.mn, .int .i64 t.mx, .bool t.lazy, vs]
/-- A token as a value. -/
abbrev tkV (a : Int) (t : Tk) (vs : Value) : Value := .agg #[.int .i64 t.kind, .int .i64 a, .int .i64 t.num, .string t.name, .int .i64 t.mn, .int .i64 t.mx, .bool t.lazy, vs]
/-- What the functions of lex hand back. -/
def TokPost (X : TR) (W : World) (e : Ending) (w' : World) : Prop :=
  Below W.heap.size W w' ∧ ((∃ k o c, X = .bad o c ∧ e = .returned (.tuple #[tkV 0 { kind := k } (.slice none 0 0), .int .i64 o, .int .i64 c])) ∨
    (∃ t n vs out, X = .ok t n ∧ e = .returned (.tuple #[tkV 0 t vs, .int .i64 (n : Nat), .int .i64 0]) ∧ Br.SetIs t.cls out ∧ RgOwn w' W.heap.size vs out))
/-- The way out of a function whose first result is a token in a box. -/
theorem ret_tk {fn : Func} {p u v : Tmp} {R : Ending → World → Prop} {a : Act} {w : World} (h : fn.results = #[.cell p 37, .tmp u, .tmp v]) (g : Nat) (cs : Array Value)
    (hp : a.tmps.getD p undef = .pointer (some ⟨g, 0, none⟩)) (hg : w.heap[g]? = some (.cells cs 37 (0, 0))) (h8 : cs.size = 8) (hd : a.defers = [])
    (hR : R (.returned (.tuple #[.agg cs, a.tmps.getD u undef, a.tmps.getD v undef])) w) : bodyPost Tryz.prog fn R .ret a w := by
  have hi : (Tryz.prog.info? 37).map (·.size) = some cs.size := by rw [h8]; kernel_rfl
  have hl : (loadVar 37 ⟨g, 0, none⟩).run Tryz.prog w = .ok (.agg cs) w := run_loadVar_row w g _ _ cs _ _ hg Tryz.underlying37 rfl hi
  refine ⟨hd, _, ?_, hR⟩
  have hp' : a.tmps[p]?.getD undef = .pointer (some ⟨g, 0, none⟩) := by simpa using hp
  simp [results, h, hp', asAddr, hl, Sem.run_bind]
theorem box_drew (W : World) (o : Obj) (k : Nat) : ((W.alloc o).drewN k).heap[W.heap.size]? = some o := heap_alloc_new W o
/-- A token without a set. -/
theorem tokPost_plain {X : TR} {W w' : World} {e : Ending} {t : Tk} {n : Nat} (hb : Below W.heap.size W w') (hX : X = .ok t n) (hc : t.cls = none) (he : e = .returned (.tuple #[tkV 0 t (.slice none 0 0), .int .i64 (n : Nat), .int .i64 0])) : TokPost X W e w' :=
  ⟨hb, .inr ⟨t, n, _, [], hX, he, by rw [hc]; rfl, RgOwn.nil⟩⟩
set_option maxRecDepth 100000 in
set_option maxHeartbeats 4000000 in
theorem character_any (W : World) (s : ByteArray) (hs : s.size ≤ 100000) : Calls Tryz.prog 34 #[.string s] W (TokPost (Lx.charX (Utf.nums s)) W) := by
  obtain ⟨X, hX⟩ : ∃ X, Lx.charX (Utf.nums s) = X := ⟨_, rfl⟩
  rw [hX]
  have hd1 := Utf.dec_len (Utf.nums s) (Utf.nums_bytes s)
  have hd2 := Utf.dec_neg (Utf.nums s) (Utf.nums_bytes s)
  have HD := fun w => decode_any s (by unfold maxLen; omega) w
  unfold DecPost at HD
  unfold Lx.charX at hX
  obtain ⟨⟨r, n⟩, hD⟩ : ∃ N, Utf.dec (Utf.nums s) = N := ⟨_, rfl⟩
  rw [hD] at HD hX hd1 hd2
  dsimp only at HD hX hd1 hd2
  by_cases hr : r < 0
  · rw [if_pos hr] at hX
    have HX := Lib.hid hX.symm
    have HD1 := Lib.hid HD
    clear hD hd1 hd2 hX HD
    go_enter Tryz.func34, Tryz.ntmps34
    go_wp2_with fail
    refine (HD1.out _).mono ?_
    rintro e w' ⟨rfl, k, rfl⟩
    go_wp2
    (try simp only [Exit.inBlock, Exit.then])
    refine ret_tk rfl W.heap.size _ rfl (set8_blk _ _ _ _ _ _ _ _ _ _ (box_drew W _ k)) rfl rfl ?_
    exact ⟨set8_below (below_drewNr ((Below.refl _ _).alloc (Nat.le_refl _) _) k) _ (Nat.le_refl _) _ _ _ _ _ _ _ _, .inl ⟨0, _, _, HX.out, rfl⟩⟩
  · rw [if_neg hr] at hX
    obtain ⟨m, rfl⟩ : ∃ m : Nat, n = m := ⟨n.toNat, by omega⟩
    rw [Int.toNat_natCast] at hX
    have HX := Lib.hid hX.symm
    have HD1 := Lib.hid HD
    clear hD hd1 hd2 hX HD
    go_enter Tryz.func34, Tryz.ntmps34
    go_wp2_with fail
    refine (HD1.out _).mono ?_
    rintro e w' ⟨rfl, k, rfl⟩
    go_wp2
    (try simp only [Exit.inBlock, Exit.then])
    refine ret_tk rfl W.heap.size _ rfl (set8_blk _ _ _ _ _ _ _ _ _ _ (box_drew W _ k)) rfl rfl ?_
    exact tokPost_plain (set8_below (below_drewNr ((Below.refl _ _).alloc (Nat.le_refl _) _) k) _ (Nat.le_refl _) _ _ _ _ _ _ _ _) HX.out rfl rfl
end Go.Proofs.YtdcielcniboloaaGreatDoor
namespace Go.Proofs.YtdcielcniboloaaGreatDoor
open Go.RowKit
open Lx (Tk TR)
set_option linter.unusedVariables false
/-- The way out of a function whose first of two results is a token in a box. -/
theorem ret_tk2 {fn : Func} {p u : Tmp} {R : Ending → World → Prop} {a : Act} {w : World} (h : fn.results = #[.cell p 37, .tmp u]) (g : Nat) (cs : Array Value)
    (hp : a.tmps.getD p undef = .pointer (some ⟨g, 0, none⟩)) (hg : w.heap[g]? = some (.cells cs 37 (0, 0))) (h8 : cs.size = 8) (hd : a.defers = [])
    (hR : R (.returned (.tuple #[.agg cs, a.tmps.getD u undef])) w) : bodyPost Tryz.prog fn R .ret a w := by
  have hi : (Tryz.prog.info? 37).map (·.size) = some cs.size := by rw [h8]; kernel_rfl
  have hl : (loadVar 37 ⟨g, 0, none⟩).run Tryz.prog w = .ok (.agg cs) w := run_loadVar_row w g _ _ cs _ _ hg Tryz.underlying37 rfl hi
  refine ⟨hd, _, ?_, hR⟩
  have hp' : a.tmps[p]?.getD undef = .pointer (some ⟨g, 0, none⟩) := by simpa using hp
  simp [results, h, hp', asAddr, hl, Sem.run_bind]
def ShortPost (X : Option Tk) (W : World) (e : Ending) (w' : World) : Prop :=
  Below W.heap.size W w' ∧ ((X = none ∧ e = .returned (.tuple #[tkV 0 {} (.slice none 0 0), .bool false])) ∨
    ∃ t, X = some t ∧ t.cls = none ∧ e = .returned (.tuple #[tkV 0 t (.slice none 0 0), .bool true]))
set_option maxRecDepth 100000 in
set_option maxHeartbeats 4000000 in
theorem short_any (W : World) (s : ByteArray) (hs : s.size ≤ 100000) : Calls Tryz.prog 98 #[.string s] W (ShortPost (Lx.shortX ((Utf.nums s)[0]?.getD 0)) W) := by
  by_cases h0 : s.size = 0
  · obtain rfl : s = ⟨#[]⟩ := by
      have := Utf.nums_length s
      exact Br.nums_inj' (by rw [List.length_eq_zero_iff.1 (this.trans h0)]; rfl)
    clear h0
    go_enter Tryz.func98, Tryz.ntmps98
    go_wp2
    (try simp only [Exit.inBlock, Exit.then])
    refine ret_tk2 rfl W.heap.size _ rfl (heap_alloc_new W _) rfl rfl ?_
    exact ⟨(Below.refl _ _).alloc (Nat.le_refl _) _, .inl ⟨rfl, rfl⟩⟩
  have h0' : 0 < s.size := by omega
  obtain ⟨hne, hne2⟩ := toList_ne h0'
  have h0i : (0 : Int) < (s.size : Int) := by omega
  have hat : (Utf.nums s)[0]?.getD 0 = ((s[0]'h0').toNat : Int) := Utf.nums_at s 0 h0'
  rw [hat]
  clear hat h0
  by_cases e65 : ((s[0]'h0').toNat : Int) = 65
  · have b65 : (((s[0]'h0').toNat : Int) == 65) = true := by simp [e65]
    have HX : Hid (Lx.shortX ((s[0]'h0').toNat : Int) = some { kind := 5, num := 1 }) := Lib.hid (by unfold Lx.shortX; rw [e65]; rfl)
    clear e65 
    go_enter Tryz.func98, Tryz.ntmps98
    go_wp2
    (try simp only [Exit.inBlock, Exit.then])
    refine ret_tk2 rfl W.heap.size _ rfl (heap_alloc_new W _) rfl rfl ?_
    exact ⟨(Below.refl _ _).alloc (Nat.le_refl _) _, .inr ⟨_, HX.out, rfl, rfl⟩⟩
  have b65 : (((s[0]'h0').toNat : Int) == 65) = false := by simpa using e65
  by_cases e122 : ((s[0]'h0').toNat : Int) = 122
  · have b122 : (((s[0]'h0').toNat : Int) == 122) = true := by simp [e122]
    have HX : Hid (Lx.shortX ((s[0]'h0').toNat : Int) = some { kind := 5, num := 2 }) := Lib.hid (by unfold Lx.shortX; rw [e122]; rfl)
    clear e122 e65
    go_enter Tryz.func98, Tryz.ntmps98
    go_wp2
    (try simp only [Exit.inBlock, Exit.then])
    refine ret_tk2 rfl W.heap.size _ rfl (heap_alloc_new W _) rfl rfl ?_
    exact ⟨(Below.refl _ _).alloc (Nat.le_refl _) _, .inr ⟨_, HX.out, rfl, rfl⟩⟩
  have b122 : (((s[0]'h0').toNat : Int) == 122) = false := by simpa using e122
  by_cases e98 : ((s[0]'h0').toNat : Int) = 98
  · have b98 : (((s[0]'h0').toNat : Int) == 98) = true := by simp [e98]
    have HX : Hid (Lx.shortX ((s[0]'h0').toNat : Int) = some { kind := 5, num := 5 }) := Lib.hid (by unfold Lx.shortX; rw [e98]; rfl)
    clear e98 e65 e122
    go_enter Tryz.func98, Tryz.ntmps98
    go_wp2
    (try simp only [Exit.inBlock, Exit.then])
    refine ret_tk2 rfl W.heap.size _ rfl (heap_alloc_new W _) rfl rfl ?_
    exact ⟨(Below.refl _ _).alloc (Nat.le_refl _) _, .inr ⟨_, HX.out, rfl, rfl⟩⟩
  have b98 : (((s[0]'h0').toNat : Int) == 98) = false := by simpa using e98
  by_cases e66 : ((s[0]'h0').toNat : Int) = 66
  · have b66 : (((s[0]'h0').toNat : Int) == 66) = true := by simp [e66]
    have HX : Hid (Lx.shortX ((s[0]'h0').toNat : Int) = some { kind := 5, num := 6 }) := Lib.hid (by unfold Lx.shortX; rw [e66]; rfl)
    clear e66 e65 e122 e98
    go_enter Tryz.func98, Tryz.ntmps98
    go_wp2
    (try simp only [Exit.inBlock, Exit.then])
    refine ret_tk2 rfl W.heap.size _ rfl (heap_alloc_new W _) rfl rfl ?_
    exact ⟨(Below.refl _ _).alloc (Nat.le_refl _) _, .inr ⟨_, HX.out, rfl, rfl⟩⟩
  have b66 : (((s[0]'h0').toNat : Int) == 66) = false := by simpa using e66
  by_cases e67 : ((s[0]'h0').toNat : Int) = 67
  · have b67 : (((s[0]'h0').toNat : Int) == 67) = true := by simp [e67]
    have HX : Hid (Lx.shortX ((s[0]'h0').toNat : Int) = some { kind := 4 }) := Lib.hid (by unfold Lx.shortX; rw [e67]; rfl)
    clear e67 e65 e122 e98 e66
    go_enter Tryz.func98, Tryz.ntmps98
    go_wp2
    (try simp only [Exit.inBlock, Exit.then])
    refine ret_tk2 rfl W.heap.size _ rfl (heap_alloc_new W _) rfl rfl ?_
    exact ⟨(Below.refl _ _).alloc (Nat.le_refl _) _, .inr ⟨_, HX.out, rfl, rfl⟩⟩
  have b67 : (((s[0]'h0').toNat : Int) == 67) = false := by simpa using e67
  have HX : Hid (Lx.shortX ((s[0]'h0').toNat : Int) = none) := Lib.hid (by unfold Lx.shortX; rw [if_neg e65, if_neg e122, if_neg e98, if_neg e66, if_neg e67])
  clear e65 e122 e98 e66 e67
  go_enter Tryz.func98, Tryz.ntmps98
  go_wp2
  (try simp only [Exit.inBlock, Exit.then])
  refine ret_tk2 rfl W.heap.size _ rfl (heap_alloc_new W _) rfl rfl ?_
  exact ⟨(Below.refl _ _).alloc (Nat.le_refl _) _, .inl ⟨HX.out, rfl⟩⟩
end Go.Proofs.YtdcielcniboloaaGreatDoor
namespace Go.Proofs.YtdcielcniboloaaGreatDoor
open Go.RowKit
set_option linter.unusedVariables false
set_option maxRecDepth 100000 in
set_option maxHeartbeats 1000000 in
theorem bClsEsc_any (W : World) (e : Int) : Calls Tryz.prog 187 #[.int .i64 e] W fun x w' => x = .returned (.bool (decide (e ≠ 3 ∧ e ≠ 5))) ∧ W = w' := by
  by_cases a : e = 3
  · subst a
    go_enter Tryz.func187, Tryz.ntmps187
    go_wp2
    go_ret
    exact ⟨rfl, rfl⟩
  · by_cases b : e = 5
    · subst b
      go_enter Tryz.func187, Tryz.ntmps187
      go_wp2
      go_ret
      exact ⟨rfl, rfl⟩
    · rw [decide_eq_true (show e ≠ 3 ∧ e ≠ 5 from ⟨a, b⟩)]
      have h1 : (e != 3) = true := by simpa using a
      have h2 : (e != 5) = true := by simpa using b
      clear a b
      go_enter Tryz.func187, Tryz.ntmps187
      go_wp2
      go_ret
      exact ⟨rfl, rfl⟩
set_option maxRecDepth 100000 in
set_option maxHeartbeats 1000000 in
theorem bGoes_any (W : World) (s : ByteArray) (hs : s.size ≤ 100000) : Calls Tryz.prog 222 #[.string s] W fun x w' => x = .returned (.bool (Br.goesOn (Utf.nums s))) ∧ W = w' := by
  obtain ⟨G, hG⟩ : ∃ G, Br.goesOn (Utf.nums s) = G := ⟨_, rfl⟩
  rw [hG]
  unfold Br.goesOn at hG
  rw [Utf.nums_length] at hG
  by_cases h2 : s.size < 2
  · have HE : Hid (G = false) := Lib.hid (by rw [← hG, decide_eq_false (show ¬ 2 ≤ s.size by omega)]; simp)
    have h2i : ¬ (2 : Int) ≤ (s.size : Int) := by omega
    clear hG h2
    go_enter Tryz.func222, Tryz.ntmps222
    go_wp2
    go_ret
    exact ⟨by rw [HE.out]; rfl, rfl⟩
  have h2i : (2 : Int) ≤ (s.size : Int) := by omega
  have h0 : 0 < s.size := by omega
  have h1 : 1 < s.size := by omega
  have h0i : (0 : Int) < (s.size : Int) := by omega
  have h1i : (1 : Int) < (s.size : Int) := by omega
  have hsome : ∀ k (h : k < s.size) (c : Int), (Utf.nums s)[k]? = some c ↔ (s[k].toNat : Int) = c := fun k h c => by
    have := Utf.nums_at s k h
    rw [List.getElem?_eq_getElem (by rw [Utf.nums_length]; exact h)] at this ⊢
    rw [← this]; simp
  rw [decide_eq_true (show 2 ≤ s.size by omega)] at hG
  have hb0 : s[0].toNat < 256 := UInt8.toNat_lt _
  have hb1 : s[1].toNat < 256 := UInt8.toNat_lt _
  by_cases c0 : (s[0].toNat : Int) = 45
  · by_cases c1 : (s[1].toNat : Int) = 93
    · have HE : Hid (G = false) := Lib.hid (by rw [← hG, decide_eq_true ((hsome 1 h1 93).2 c1)]; simp)
      have m0 : ((s[0].toNat : Int) == 45) = true := by simp [c0]
      have m1 : ((s[1].toNat : Int) != 93) = false := by simp [c1]
      clear hG h2 hsome c0 c1
      go_enter Tryz.func222, Tryz.ntmps222
      go_wp2
      go_ret
      exact ⟨by rw [HE.out]; rfl, rfl⟩
    · have HE : Hid (G = true) := Lib.hid (by rw [← hG, decide_eq_true ((hsome 0 h0 45).2 c0), decide_eq_false (fun h => c1 ((hsome 1 h1 93).1 h))]; rfl)
      have m0 : ((s[0].toNat : Int) == 45) = true := by simp [c0]
      have m1 : ((s[1].toNat : Int) != 93) = true := by simpa using c1
      clear hG h2 hsome c0 c1
      go_enter Tryz.func222, Tryz.ntmps222
      go_wp2
      go_ret
      exact ⟨by rw [HE.out]; rfl, rfl⟩
  · have HE : Hid (G = false) := Lib.hid (by rw [← hG, decide_eq_false (fun h => c0 ((hsome 0 h0 45).1 h))]; rfl)
    have m0 : ((s[0].toNat : Int) == 45) = false := by simpa using c0
    clear hG h2 hsome c0
    go_enter Tryz.func222, Tryz.ntmps222
    go_wp2
    go_ret
    exact ⟨by rw [HE.out]; rfl, rfl⟩
set_option maxRecDepth 100000 in
set_option maxHeartbeats 2000000 in
theorem bChar_any (W : World) (s : ByteArray) (hs : s.size ≤ 100000) : Calls Tryz.prog 221 #[.string s] W fun x w' =>
    x = .returned (.tuple #[.int .i64 (Br.one (Utf.nums s)).1, .int .i64 (Br.one (Utf.nums s)).2.1, .int .i64 (Br.one (Utf.nums s)).2.2]) ∧ ∃ d, w' = W.drewN d := by
  have HN := Lib.hid (bNumber_any W s (by omega))
  obtain ⟨R, hR⟩ : ∃ R, Br.one (Utf.nums s) = R := ⟨_, rfl⟩
  have hone : R = if (Utf.nums s)[0]?.getD 0 = 92 then Br.num (Utf.nums s) else if (Utf.dec (Utf.nums s)).1 < 0 then (0, 0, 3) else ((Utf.dec (Utf.nums s)).1, (Utf.dec (Utf.nums s)).2, 0) := by rw [← hR]; rfl
  rw [hR]
  clear hR
  by_cases c : (Utf.nums s)[0]?.getD 0 = 92
  · have hf := Br.num_form c
    rw [if_pos c] at hone
    rw [← hone] at HN hf
    have m : (R.2.2 != 3) = true := by simpa using hf
    clear hone hf c
    go_enter Tryz.func221, Tryz.ntmps221
    go_wp2_with fail
    refine HN.out.mono ?_
    rintro e w' ⟨rfl, rfl⟩
    go_wp2
    go_ret3
    exact ⟨rfl, 0, rfl⟩
  · rw [if_neg c] at hone
    rw [Br.num_no c] at HN
    have HD := Lib.hid (decode_any s (by unfold maxLen; omega) W)
    unfold DecPost at HD
    obtain ⟨⟨r, n⟩, hp⟩ : ∃ p, Utf.dec (Utf.nums s) = p := ⟨_, rfl⟩
    rw [hp] at HD hone
    dsimp only at HD hone
    clear c hp
    by_cases hr : r < 0
    · have HE : Hid (R = (0, 0, 3)) := Lib.hid (by rw [hone, if_pos hr])
      clear hone
      go_enter Tryz.func221, Tryz.ntmps221
      go_wp2_with fail
      refine HN.out.mono ?_
      rintro e w' ⟨rfl, rfl⟩
      go_wp2_with fail
      refine HD.out.mono ?_
      rintro e w' ⟨rfl, d, rfl⟩
      go_wp2
      go_ret3
      exact ⟨by rw [HE.out]; rfl, d, rfl⟩
    · have HE : Hid (R = (r, n, 0)) := Lib.hid (by rw [hone, if_neg hr])
      clear hone
      go_enter Tryz.func221, Tryz.ntmps221
      go_wp2_with fail
      refine HN.out.mono ?_
      rintro e w' ⟨rfl, rfl⟩
      go_wp2_with fail
      refine HD.out.mono ?_
      rintro e w' ⟨rfl, d, rfl⟩
      go_wp2
      go_ret3
      exact ⟨by rw [HE.out]; rfl, d, rfl⟩
end Go.Proofs.YtdcielcniboloaaGreatDoor
