/- Trees of patterns in memory (api.Node): how one reads; an argument that is one, opened: over any program that has the types. · The plain mathematics of trees: depth, all nodes, weight, nullable, the same; a node's cells. · The eight cells of a node, each by its form. · A node over a row of nodes that lies in one block. -/
import Derived.Test.YtanffablfgnioaaGp2
import Derived.Lib.LaidTab
namespace Go.Proofs.Ytanffablfgnioaa
open Go.ChangeShapes Go.WideShapes Go.ChangeAt Go.RowKit
set_option linter.unusedVariables false
/-- A tree. -/
inductive Nd where
  | mk (kind : Int) (set : List (Int × Int)) (num : Int) (name : ByteArray) (mn mx : Int) (lazy : Bool) (subs : List Nd) : Nd
def I64 (x : Int) : Prop := -9223372036854775808 ≤ x ∧ x ≤ 9223372036854775807
/-- Eight cells that read as a tree; its parts lie in a row, eight cells each. -/
inductive NdIs (W : World) : Nd → List Value → Prop where
  | mk {k num mn mx : Int} {set : List (Int × Int)} {name : ByteArray} {lz : Bool} {subs : List Nd} {vs : Value} {a : Option Addr} {cap : Nat} (cs : Nat → List Value)
      (hk : I64 k ∧ I64 num ∧ I64 mn ∧ I64 mx) (hset : RRow W vs set) (hname : name.size ≤ 140737488351232) (hlen : subs.length ≤ 8796093022208)
      (hrow : ∀ j, j < subs.length → ∃ b off, a = some ⟨b, off, none⟩ ∧ b < W.heap.size ∧ (cs j).length = 8 ∧ ∀ i, i < 8 → W.cell? ⟨b, off + j * 8 + i, none⟩ = (cs j)[i]?)
      (hsub : ∀ j (h : j < subs.length), NdIs W subs[j] (cs j)) :
      NdIs W (.mk k set num name mn mx lz subs) [.int .i64 k, vs, .int .i64 num, .string name, .int .i64 mn, .int .i64 mx, .bool lz, .slice a subs.length cap]
theorem NdIs.kept {W W' : World} (hb : Below W.heap.size W W') : ∀ {n : Nd} {cs : List Value}, NdIs W n cs → NdIs W' n cs := by
  intro n cs h
  induction h with
  | mk cs hk hset hname hlen hrow hsub ih =>
    refine .mk cs hk (hset.below (Nat.le_refl _) hb) hname hlen (fun j hj => ?_) ih
    obtain ⟨b, off, ha, hlt, hl, hc⟩ := hrow j hj
    exact ⟨b, off, ha, Nat.lt_of_lt_of_le hlt hb.size, hl, fun i hi => (hb.cell (p := ⟨b, off + j * 8 + i, none⟩) hlt).trans (hc i hi)⟩
theorem NdIs.len {W : World} {n : Nd} {cs : List Value} (h : NdIs W n cs) : cs.length = 8 := by cases h; rfl
/-- What is asked of a program's types. -/
structure NdTypes (P : Program) (tn tns tr ts ti tstr tb : TypeId) : Prop where
  rg : RgTypes P tr ts ti
  node : ∃ f0 f1 f2 f3 f4 f5 f6 f7 : Field, P.underlying tn = some (.struct #[f0, f1, f2, f3, f4, f5, f6, f7]) ∧ (f0.offset = 0 ∧ f1.offset = 1 ∧ f2.offset = 2 ∧ f3.offset = 3 ∧ f4.offset = 4 ∧ f5.offset = 5 ∧ f6.offset = 6 ∧ f7.offset = 7) ∧
    (f0.type = ti ∧ f1.type = tr ∧ f2.type = ti ∧ f3.type = tstr ∧ f4.type = ti ∧ f5.type = ti ∧ f6.type = tb ∧ f7.type = tns)
  list : P.underlying tns = some (.slice tn)
  str : P.underlying tstr = some .string
  bool : P.underlying tb = some .bool
  cells : P.cellsOf tn = 8 ∧ P.cellsOf tr = 1 ∧ P.cellsOf ti = 1 ∧ P.cellsOf tstr = 1 ∧ P.cellsOf tb = 1 ∧ P.cellsOf tns = 1
  bytes : P.bytesOf tn = 104
theorem weights_each {H : Type} {P : Program} {ts : List TypeId} {ds : List (DataW H)} {j : Nat} {t : TypeId} {d : DataW H} (ht : ts[j]? = some t) (hd : ds[j]? = some d) : ∀ n ∈ d.weights P t, n ∈ DataW.weightsEach P ts ds := DataW.weights_mem_each ht hd
theorem cells_all {W : World} {base : Nat} {a : Addr} {n : Nat} {cs : List Value} (h : W.cells? base a n = some cs) : cs.length = n ∧ ∀ i, i < n → W.cell? (a.add i) = cs[i]? := by
  unfold World.cells? at h
  split at h
  · refine ⟨?_, fun i hi => ?_⟩
    · have := Lib.mapM_length h; simpa using this
    · obtain ⟨b, hb, hf⟩ := Lib.mapM_at h i i (by simp [hi])
      rw [hb]; exact hf
  · cases h
theorem open_node_g {H : Type} {enc : TypeId × Value → H} {P : Program} {tn tns tr ts ti tstr tb : TypeId} (T : NdTypes P tn tns tr ts ti tstr tb) {W : World} : ∀ (fuel : Nat) {cs : List Value} {d : DataW H} {p : List MemPlace},
    DataW.trod enc P W 0 (fun _ => true) true fuel tn cs = some (d, p) → (∀ n ∈ d.weights P tn, n ≤ reachBytes) → ∃ n, NdIs W n cs := by
  intro fuel
  induction fuel using Nat.strongRecOn with
  | ind fuel IH =>
    intro cs d p hf hw
    obtain ⟨f0, f1, f2, f3, f4, f5, f6, f7, hn, ⟨o0, o1, o2, o3, o4, o5, o6, o7⟩, t0, t1, t2, t3, t4, t5, t6, t7⟩ := T.node
    obtain ⟨c8, cr, ci, cst, cb, cns⟩ := T.cells
    obtain ⟨xs, m, rfl, hx, hcl, hxl, hfield⟩ := DataW.trod_struct hn hf
    rw [c8] at hcl
    have hxl8 : xs.length = 8 := by rw [hxl]; rfl
    match cs, hcl, xs, hxl8 with
    | [v0, v1, v2, v3, v4, v5, v6, v7], _, [x0, x1, x2, x3, x4, x5, x6, x7], _ =>
      have e0 := hfield 0 f0 rfl
      have e1 := hfield 1 f1 rfl
      have e2 := hfield 2 f2 rfl
      have e3 := hfield 3 f3 rfl
      have e4 := hfield 4 f4 rfl
      have e5 := hfield 5 f5 rfl
      have e6 := hfield 6 f6 rfl
      have e7 := hfield 7 f7 rfl
      rw [o0, t0, ci] at e0; rw [o1, t1, cr] at e1; rw [o2, t2, ci] at e2; rw [o3, t3, cst] at e3
      rw [o4, t4, ci] at e4; rw [o5, t5, ci] at e5; rw [o6, t6, cb] at e6; rw [o7, t7, cns] at e7
      simp only [List.drop_zero, List.drop_succ_cons, List.take_succ_cons, List.take_zero, List.getElem?_cons_zero, List.getElem?_cons_succ] at e0 e1 e2 e3 e4 e5 e6 e7
      simp only [Prod.mk.injEq] at hx
      have hwt : ∀ (j : Nat) (t : TypeId) (dd : DataW H), ([f0, f1, f2, f3, f4, f5, f6, f7].map (·.type))[j]? = some t → (([x0, x1, x2, x3, x4, x5, x6, x7].map (·.1)))[j]? = some dd → ∀ n ∈ dd.weights P t, n ≤ reachBytes := fun j t dd h1 h2 n hn' =>
        hw n (by rw [hx.1]; simp only [DataW.weights, hn]; exact weights_each h1 h2 n hn')
      obtain ⟨z0, s0, _, w0⟩ := DataW.trod_int T.rg.int e0
      obtain ⟨z2, s2, _, w2⟩ := DataW.trod_int T.rg.int e2
      obtain ⟨z4, s4, _, w4⟩ := DataW.trod_int T.rg.int e4
      obtain ⟨z5, s5, _, w5⟩ := DataW.trod_int T.rg.int e5
      obtain ⟨nm, s3, d3, h3⟩ := DataW.trod_string T.str e3
      obtain ⟨lz, s6, _⟩ := DataW.trod_bool T.bool e6
      simp only [List.cons.injEq, and_true] at s0 s2 s3 s4 s5 s6
      subst s0; subst s2; subst s3; subst s4; subst s5; subst s6
      obtain ⟨set, hset⟩ := open_ranges_g T.rg (d := x1.1) (p := x1.2) e1 (hwt 1 tr x1.1 (by simp [t1]) rfl)
      have hb : ∀ z : Int, (Lit.int .i64 z).wf = true → I64 z := fun z hz => by
        have q1 : IntKind.i64.min = -9223372036854775808 := rfl
        have q2 : IntKind.i64.max = 9223372036854775807 := rfl
        simp [Lit.wf, q1, q2] at hz
        exact hz
      have hnm : nm.size ≤ 140737488351232 := by
        have := hwt 3 tstr x3.1 (by simp [t3]) rfl nm.data.toList.length (by rw [d3]; simp [DataW.weights])
        simpa [reachBytes] using this
      rcases DataW.trod_slice T.list e7 with ⟨hcs, hx7⟩ | ⟨a, len, cap, elems, rest, m', rfl, hcs, hx7, hb7, hl7, hm7, hel, hi, _, _⟩
      · simp only [List.cons.injEq, and_true] at hcs
        subst hcs
        exact ⟨.mk z0 set z2 nm z4 z5 lz [], .mk (fun _ => []) ⟨hb _ w0, hb _ w2, hb _ w4, hb _ w5⟩ hset hnm (by simp) (fun j hj => by simp at hj) (fun j hj => by simp at hj)⟩
      · simp only [List.cons.injEq, and_true] at hcs
        subst hcs
        have hw7 := hwt 7 tns x7.1 (by simp [t7]) rfl
        rw [hx7] at hw7
        have hsz := hw7 (((elems.map (·.1)).length + (rest.map (·.1)).length) * P.bytesOf tn) (by simp [DataW.weights, T.list])
        rw [T.bytes] at hsz
        simp only [List.length_map, reachBytes] at hsz
        have each : ∀ i, i < len → ∃ x : List Value × Nd, (x.1.length = 8 ∧ ∀ q, q < 8 → W.cell? ((a.add (i * 8)).add q) = x.1[q]?) ∧ NdIs W x.2 x.1 := by
          intro i hil
          have h1 := hi i hil
          rw [c8] at h1
          have hei : i < elems.length := by omega
          rw [List.getElem?_eq_getElem hei, Option.bind_eq_some_iff] at h1
          obtain ⟨cs, hcs, htr⟩ := h1
          obtain ⟨n, hn'⟩ := IH m' (by omega) (d := elems[i].1) (p := elems[i].2) htr (fun k hk => hw7 k (by
            simp only [DataW.weights, T.list, List.mem_cons, List.mem_append]
            exact .inr (.inl (weights_all (List.mem_map.2 ⟨elems[i], List.getElem_mem _, rfl⟩) k hk))))
          exact ⟨(cs, n), cells_all hcs, hn'⟩
        haveI : Inhabited Nd := ⟨.mk 0 [] 0 ByteArray.empty 0 0 false []⟩
        obtain ⟨f, hf2⟩ := choose_each each
        have hlen : ((List.range len).map fun i => (f i).2).length = len := by simp
        refine ⟨.mk z0 set z2 nm z4 z5 lz ((List.range len).map fun i => (f i).2), ?_⟩
        have key := NdIs.mk (W := W) (k := z0) (num := z2) (mn := z4) (mx := z5) (set := set) (name := nm) (lz := lz) (subs := (List.range len).map fun i => (f i).2) (vs := v1) (a := some a) (cap := cap) (fun j => (f j).1)
          ⟨hb _ w0, hb _ w2, hb _ w4, hb _ w5⟩ hset hnm (by rw [hlen]; omega) (fun j hj => ?_) (fun j hj => ?_)
        · rw [hlen] at key; exact key
        · rw [hlen] at hj
          obtain ⟨⟨l8, hc⟩, _⟩ := hf2 j hj
          obtain ⟨b, off, spot⟩ := a
          have hspot : spot = none := by
            obtain ⟨⟨l80, hc0⟩, _⟩ := hf2 0 (by omega)
            have h00 := hc0 0 (by omega)
            have : ∃ v, (f 0).1[0]? = some v := ⟨(f 0).1[0]'(by omega), List.getElem?_eq_getElem _⟩
            obtain ⟨v, hv⟩ := this
            rw [hv] at h00
            simpa [Addr.add] using World.cell?_spot h00
          subst hspot
          have hq : ∀ q, q < 8 → W.cell? ⟨b, off + j * 8 + q, none⟩ = (f j).1[q]? := fun q hq => by
            have := hc q hq
            rw [add_plain, add_plain] at this
            exact this
          refine ⟨b, off, rfl, ?_, l8, hq⟩
          have h0 := hq 0 (by omega)
          rw [List.getElem?_eq_getElem (by omega)] at h0
          exact World.block_lt_of_cell? W _ h0
        · rw [hlen] at hj
          simp only [List.getElem_map, List.getElem_range]
          exact (hf2 j hj).2
end Go.Proofs.Ytanffablfgnioaa
namespace Go.Proofs.Ytanffablfgnioaa
open Go.RowKit
set_option linter.unusedVariables false
namespace Td
def subs : Nd → List Nd | .mk _ _ _ _ _ _ _ s => s
def kind : Nd → Int | .mk k _ _ _ _ _ _ _ => k
def num : Nd → Int | .mk _ _ n _ _ _ _ _ => n
def name : Nd → ByteArray | .mk _ _ _ n _ _ _ _ => n
def set : Nd → List (Int × Int) | .mk _ s _ _ _ _ _ _ => s
def mn : Nd → Int | .mk _ _ _ _ m _ _ _ => m
def mx : Nd → Int | .mk _ _ _ _ _ m _ _ => m
def lazy : Nd → Bool | .mk _ _ _ _ _ _ l _ => l
/-- The depth, at most so much. -/
def dep : Nat → Nd → Nat
  | 0, _ => 0
  | k + 1, n => ((subs n).map (dep k)).foldl max 0 + 1
theorem foldl_max_le : ∀ (l : List Nat) (a b : Nat), (∀ x ∈ l, x ≤ b) → a ≤ b → l.foldl max a ≤ b
  | [], a, b, _, h => h
  | x :: l, a, b, hl, h => by
    have := hl x (by simp)
    exact foldl_max_le l (max a x) b (fun y hy => hl y (List.mem_cons_of_mem _ hy)) (by omega)
/-- All nodes that are not too deep, with their depths. -/
def all : Nat → Nat → Nd → List (Nat × Nd)
  | 0, _, _ => []
  | k + 1, d, n => (d, n) :: (subs n).flatMap (all k (d + 1))
end Td
/-- A node's cells, laid open. -/
structure NdCells (W : World) (cs : List Value) (n : Nd) (vs : Value) (a : Option Addr) (cap : Nat) (C : Nat → List Value) : Prop where
  eq : cs = [.int .i64 (Td.kind n), vs, .int .i64 (Td.num n), .string (Td.name n), .int .i64 (Td.mn n), .int .i64 (Td.mx n), .bool (Td.lazy n), .slice a (Td.subs n).length cap]
  bd : I64 (Td.kind n) ∧ I64 (Td.num n) ∧ I64 (Td.mn n) ∧ I64 (Td.mx n)
  set : RRow W vs (Td.set n)
  name : (Td.name n).size ≤ 140737488351232
  len : (Td.subs n).length ≤ 8796093022208
  sub : ∀ j, j < (Td.subs n).length → ∃ b off m u0 u1 u2 u3 u4 u5 u6 u7, a = some ⟨b, off, none⟩ ∧ b < W.heap.size ∧ (Td.subs n)[j]? = some m ∧ NdIs W m [u0, u1, u2, u3, u4, u5, u6, u7] ∧
    W.cell? ⟨b, off + j * 8, none⟩ = some u0 ∧ W.cell? ⟨b, off + j * 8 + 1, none⟩ = some u1 ∧ W.cell? ⟨b, off + j * 8 + 2, none⟩ = some u2 ∧ W.cell? ⟨b, off + j * 8 + 3, none⟩ = some u3 ∧
    W.cell? ⟨b, off + j * 8 + 4, none⟩ = some u4 ∧ W.cell? ⟨b, off + j * 8 + 5, none⟩ = some u5 ∧ W.cell? ⟨b, off + j * 8 + 6, none⟩ = some u6 ∧ W.cell? ⟨b, off + j * 8 + 7, none⟩ = some u7
theorem NdIs.cells {W : World} {n : Nd} {cs : List Value} (h : NdIs W n cs) : ∃ vs a cap C, NdCells W cs n vs a cap C := by
  cases h with
  | mk C hk hset hname hlen hrow hsub =>
    refine ⟨_, _, _, C, rfl, hk, hset, hname, hlen, fun j hj => ?_⟩
    obtain ⟨b, off, ha, hb, hl, hc⟩ := hrow j hj
    have hs := hsub j hj
    match hC : C j, hl with
    | [u0, u1, u2, u3, u4, u5, u6, u7], _ =>
      rw [hC] at hs hc
      exact ⟨b, off, _, u0, u1, u2, u3, u4, u5, u6, u7, ha, hb, List.getElem?_eq_getElem hj, hs, hc 0 (by omega), hc 1 (by omega), hc 2 (by omega), hc 3 (by omega), hc 4 (by omega), hc 5 (by omega), hc 6 (by omega), hc 7 (by omega)⟩
end Go.Proofs.Ytanffablfgnioaa
namespace Go.Proofs.Ytanffablfgnioaa
open Go.RowKit
set_option linter.unusedVariables false
/-- A node's eight cells, each by its form. -/
structure NdForm (n : Nd) (u0 u1 u2 u3 u4 u5 u6 u7 : Value) (sa : Option Addr) (sc : Nat) (a : Option Addr) (c : Nat) : Prop where
  e0 : u0 = .int .i64 (Td.kind n)
  e1 : u1 = .slice sa (Td.set n).length sc
  e2 : u2 = .int .i64 (Td.num n)
  e3 : u3 = .string (Td.name n)
  e4 : u4 = .int .i64 (Td.mn n)
  e5 : u5 = .int .i64 (Td.mx n)
  e6 : u6 = .bool (Td.lazy n)
  e7 : u7 = .slice a (Td.subs n).length c
theorem NdIs.form {W : World} {n : Nd} {u0 u1 u2 u3 u4 u5 u6 u7 : Value} (h : NdIs W n [u0, u1, u2, u3, u4, u5, u6, u7]) : ∃ sa sc a c, NdForm n u0 u1 u2 u3 u4 u5 u6 u7 sa sc a c := by
  obtain ⟨vs, a, cap, C, hC⟩ := h.cells
  obtain ⟨sa, sc, hvs, _⟩ := hC.set
  have e := hC.eq
  simp only [List.cons.injEq, and_true] at e
  obtain ⟨e0, e1, e2, e3, e4, e5, e6, e7⟩ := e
  exact ⟨sa, sc, a, cap, e0, e1.trans hvs, e2, e3, e4, e5, e6, e7⟩
theorem NdIs.form_of {W : World} {n : Nd} {cs : List Value} (h : NdIs W n cs) : ∃ u0 u1 u2 u3 u4 u5 u6 u7 sa sc a c, cs = [u0, u1, u2, u3, u4, u5, u6, u7] ∧ NdForm n u0 u1 u2 u3 u4 u5 u6 u7 sa sc a c := by
  match cs, h.len with
  | [u0, u1, u2, u3, u4, u5, u6, u7], _ =>
    obtain ⟨sa, sc, a, c, hf⟩ := h.form
    exact ⟨u0, u1, u2, u3, u4, u5, u6, u7, sa, sc, a, c, rfl, hf⟩
end Go.Proofs.Ytanffablfgnioaa
namespace Go.Proofs.Ytanffablfgnioaa
open Go.RowKit
set_option linter.unusedVariables false
theorem flat8_at : ∀ (X : List (List Value)), (∀ x ∈ X, x.length = 8) → ∀ (j q : Nat) (x : List Value), X[j]? = some x → q < 8 → X.flatten[j * 8 + q]? = x[q]?
  | [], _, j, q, x, hx, _ => by simp at hx
  | y :: X, h, 0, q, x, hx, hq => by
    simp at hx
    subst hx
    rw [List.flatten_cons, Nat.zero_mul, Nat.zero_add, List.getElem?_append_left (by rw [h y (by simp)]; exact hq)]
  | y :: X, h, j + 1, q, x, hx, hq => by
    have hy := h y (by simp)
    rw [List.flatten_cons, List.getElem?_append_right (by rw [hy]; omega), hy]
    have e : (j + 1) * 8 + q - 8 = j * 8 + q := by omega
    rw [e]
    exact flat8_at X (fun z hz => h z (List.mem_cons_of_mem _ hz)) j q x (by simpa using hx) hq
/-- The cells of nodes, one behind another. -/
def NdsIs (W : World) (L : List Nd) (X : List (List Value)) : Prop := X.length = L.length ∧ ∀ j (h : j < L.length), ∃ x, X[j]? = some x ∧ NdIs W L[j] x
theorem NdsIs.len8 {W : World} {L : List Nd} {X : List (List Value)} (h : NdsIs W L X) : ∀ x ∈ X, x.length = 8 := fun x hx => by
  obtain ⟨j, hj, rfl⟩ := List.getElem_of_mem hx
  obtain ⟨y, hy, hn⟩ := h.2 j (by rw [← h.1]; exact hj)
  rw [List.getElem?_eq_getElem hj] at hy
  rw [Option.some.inj hy]; exact hn.len
theorem NdsIs.kept {W W' : World} {L : List Nd} {X : List (List Value)} (h : NdsIs W L X) (hb : Below W.heap.size W W') : NdsIs W' L X := ⟨h.1, fun j hj => by
  obtain ⟨x, hx, hn⟩ := h.2 j hj
  exact ⟨x, hx, hn.kept hb⟩⟩
theorem NdsIs.nil (W : World) : NdsIs W [] [] := ⟨rfl, fun j h => absurd h (by simp)⟩
theorem NdsIs.snoc {W : World} {L : List Nd} {X : List (List Value)} (h : NdsIs W L X) {n : Nd} {cs : List Value} (hn : NdIs W n cs) : NdsIs W (L ++ [n]) (X ++ [cs]) := by
  refine ⟨by simp [h.1], fun j hj => ?_⟩
  by_cases hlt : j < L.length
  · obtain ⟨x, hx, hx2⟩ := h.2 j hlt
    refine ⟨x, ?_, by rw [List.getElem_append_left hlt]; exact hx2⟩
    rw [List.getElem?_append_left (by rw [h.1]; exact hlt)]; exact hx
  · have e : j = L.length := by rw [List.length_append] at hj; simp at hj; omega
    subst e
    refine ⟨cs, ?_, ?_⟩
    · rw [List.getElem?_append_right (by rw [h.1]; exact Nat.le_refl _), h.1]; simp
    · rw [List.getElem_append_right (Nat.le_refl _)]; simpa using hn
/-- A node whose parts are a row that begins a block. -/
theorem NdIs.row {W : World} {L : List Nd} {X : List (List Value)} (h : NdsIs W L X) {g : Nat} {cur : Array Value} {t : TypeId} {fr : Nat × Nat} (hg : W.heap[g]? = some (.cells cur t fr)) (hcur : ∀ j, j < X.flatten.length → cur[j]? = X.flatten[j]?)
    (hlen : L.length ≤ 8796093022208) {k num mn mx : Int} {set : List (Int × Int)} {name : ByteArray} {lz : Bool} {vs : Value} {cap : Nat} (hk : I64 k ∧ I64 num ∧ I64 mn ∧ I64 mx) (hset : RRow W vs set) (hname : name.size ≤ 140737488351232) :
    NdIs W (.mk k set num name mn mx lz L) [.int .i64 k, vs, .int .i64 num, .string name, .int .i64 mn, .int .i64 mx, .bool lz, .slice (some ⟨g, 0, none⟩) L.length cap] := by
  refine .mk (fun j => X.getD j []) hk hset hname hlen (fun j hj => ?_) (fun j hj => ?_)
  · obtain ⟨x, hx, hn⟩ := h.2 j hj
    have ex : X.getD j [] = x := by rw [List.getD, hx]; rfl
    refine ⟨g, 0, rfl, (Array.getElem?_eq_some_iff.1 hg).1, by rw [ex]; exact hn.len, fun i hi => ?_⟩
    have hfl := flat8_at X h.len8 j i x hx hi
    have hxi : i < x.length := by rw [hn.len]; exact hi
    have hlt : j * 8 + i < X.flatten.length := by
      rw [List.getElem?_eq_getElem hxi] at hfl
      exact (List.getElem?_eq_some_iff.1 hfl).1
    rw [ex, ← hfl, ← hcur _ hlt, Nat.zero_add]
    simp [World.cell?, hg]
  · obtain ⟨x, hx, hn⟩ := h.2 j hj
    have ex : X.getD j [] = x := by rw [List.getD, hx]; rfl
    rw [ex]; exact hn
end Go.Proofs.Ytanffablfgnioaa
