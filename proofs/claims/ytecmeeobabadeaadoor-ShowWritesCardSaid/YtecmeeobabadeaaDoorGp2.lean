/- Trees of patterns in memory (api.Node): how one reads; an argument that is one, opened: over any program that has the types. · The plain mathematics of trees: depth, all nodes, weight, nullable, the same; a node's cells. · The plain mathematics of UTF-8 as lists of numbers: width, encoding, decoding, and that they are inverse; no program. · Mathematics of bracket: escapes of numbers and of sets. · The plain mathematics of the classes: lists of numbers, two and two; which class a letter or a name means; no program. · Mathematics of bracket: escapes of sets, items, what stands between brackets. -/
import Derived.Test.YtecmeeobabadeaaDoorGp1
import Derived.Lib.LaidTab
namespace Go.Proofs.YtecmeeobabadeaaDoor
open Go.ChangeShapes Go.WideShapes Go.ChangeAt Go.RowKit
set_option linter.unusedVariables false
/-- A tree. -/
inductive Nd where
  | mk (kind : Int) (set : List (Int × Int)) (num : Int) (name : ByteArray) (mn mx : Int) (lazy : Bool) (subs : List Nd) : Nd
def I64 (x : Int) : Prop := -9223372036854775808 ≤ x ∧ x ≤ 9223372036854775807
/-- Eight cells that read as a tree; its parts lie in a row, eight cells each. -/
inductive NdIs (W : World) : Nd → List Value → Prop where
  | mk {k num mn mx : Int} {set : List (Int × Int)} {name : ByteArray} {lz : Bool} {subs : List Nd} {vs : Value} {a : Option Addr} {cap : Nat} (cs : Nat → List Value)
      (hk : I64 k ∧ I64 num ∧ I64 mn ∧ I64 mx) (hset : RRow W vs set) (hname : name.size ≤ 140737488351232) (hlen : subs.length ≤ 8796093022208)
      (hrow : ∀ j, j < subs.length → ∃ b off, a = some ⟨b, off, none⟩ ∧ b < W.heap.size ∧ (cs j).length = 8 ∧ ∀ i, i < 8 → W.cell? ⟨b, off + j * 8 + i, none⟩ = (cs j)[i]?)
      (hsub : ∀ j (h : j < subs.length), NdIs W subs[j] (cs j)) :
      NdIs W (.mk k set num name mn mx lz subs) [.int .i64 k, vs, .int .i64 num, .string name, .int .i64 mn, .int .i64 mx, .bool lz, .slice a subs.length cap]
theorem NdIs.kept {W W' : World} (hb : Below W.heap.size W W') : ∀ {n : Nd} {cs : List Value}, NdIs W n cs → NdIs W' n cs := by
  intro n cs h
  induction h with
  | mk cs hk hset hname hlen hrow hsub ih =>
    refine .mk cs hk (hset.below (Nat.le_refl _) hb) hname hlen (fun j hj => ?_) ih
    obtain ⟨b, off, ha, hlt, hl, hc⟩ := hrow j hj
    exact ⟨b, off, ha, Nat.lt_of_lt_of_le hlt hb.size, hl, fun i hi => (hb.cell (p := ⟨b, off + j * 8 + i, none⟩) hlt).trans (hc i hi)⟩
theorem NdIs.len {W : World} {n : Nd} {cs : List Value} (h : NdIs W n cs) : cs.length = 8 := by cases h; rfl
/-- What is asked of a program's types. -/
structure NdTypes (P : Program) (tn tns tr ts ti tstr tb : TypeId) : Prop where
  rg : RgTypes P tr ts ti
  node : ∃ f0 f1 f2 f3 f4 f5 f6 f7 : Field, P.underlying tn = some (.struct #[f0, f1, f2, f3, f4, f5, f6, f7]) ∧ (f0.offset = 0 ∧ f1.offset = 1 ∧ f2.offset = 2 ∧ f3.offset = 3 ∧ f4.offset = 4 ∧ f5.offset = 5 ∧ f6.offset = 6 ∧ f7.offset = 7) ∧
    (f0.type = ti ∧ f1.type = tr ∧ f2.type = ti ∧ f3.type = tstr ∧ f4.type = ti ∧ f5.type = ti ∧ f6.type = tb ∧ f7.type = tns)
  list : P.underlying tns = some (.slice tn)
  str : P.underlying tstr = some .string
  bool : P.underlying tb = some .bool
  cells : P.cellsOf tn = 8 ∧ P.cellsOf tr = 1 ∧ P.cellsOf ti = 1 ∧ P.cellsOf tstr = 1 ∧ P.cellsOf tb = 1 ∧ P.cellsOf tns = 1
  bytes : P.bytesOf tn = 104
theorem weights_each {H : Type} {P : Program} {ts : List TypeId} {ds : List (DataW H)} {j : Nat} {t : TypeId} {d : DataW H} (ht : ts[j]? = some t) (hd : ds[j]? = some d) : ∀ n ∈ d.weights P t, n ∈ DataW.weightsEach P ts ds := DataW.weights_mem_each ht hd
theorem cells_all {W : World} {base : Nat} {a : Addr} {n : Nat} {cs : List Value} (h : W.cells? base a n = some cs) : cs.length = n ∧ ∀ i, i < n → W.cell? (a.add i) = cs[i]? := by
  unfold World.cells? at h
  split at h
  · refine ⟨?_, fun i hi => ?_⟩
    · have := Lib.mapM_length h; simpa using this
    · obtain ⟨b, hb, hf⟩ := Lib.mapM_at h i i (by simp [hi])
      rw [hb]; exact hf
  · cases h
theorem open_node_g {H : Type} {enc : TypeId × Value → H} {P : Program} {tn tns tr ts ti tstr tb : TypeId} (T : NdTypes P tn tns tr ts ti tstr tb) {W : World} : ∀ (fuel : Nat) {cs : List Value} {d : DataW H} {p : List MemPlace},
    DataW.trod enc P W 0 (fun _ => true) true fuel tn cs = some (d, p) → (∀ n ∈ d.weights P tn, n ≤ reachBytes) → ∃ n, NdIs W n cs := by
  intro fuel
  induction fuel using Nat.strongRecOn with
  | ind fuel IH =>
    intro cs d p hf hw
    obtain ⟨f0, f1, f2, f3, f4, f5, f6, f7, hn, ⟨o0, o1, o2, o3, o4, o5, o6, o7⟩, t0, t1, t2, t3, t4, t5, t6, t7⟩ := T.node
    obtain ⟨c8, cr, ci, cst, cb, cns⟩ := T.cells
    obtain ⟨xs, m, rfl, hx, hcl, hxl, hfield⟩ := DataW.trod_struct hn hf
    rw [c8] at hcl
    have hxl8 : xs.length = 8 := by rw [hxl]; rfl
    match cs, hcl, xs, hxl8 with
    | [v0, v1, v2, v3, v4, v5, v6, v7], _, [x0, x1, x2, x3, x4, x5, x6, x7], _ =>
      have e0 := hfield 0 f0 rfl
      have e1 := hfield 1 f1 rfl
      have e2 := hfield 2 f2 rfl
      have e3 := hfield 3 f3 rfl
      have e4 := hfield 4 f4 rfl
      have e5 := hfield 5 f5 rfl
      have e6 := hfield 6 f6 rfl
      have e7 := hfield 7 f7 rfl
      rw [o0, t0, ci] at e0; rw [o1, t1, cr] at e1; rw [o2, t2, ci] at e2; rw [o3, t3, cst] at e3
      rw [o4, t4, ci] at e4; rw [o5, t5, ci] at e5; rw [o6, t6, cb] at e6; rw [o7, t7, cns] at e7
      simp only [List.drop_zero, List.drop_succ_cons, List.take_succ_cons, List.take_zero, List.getElem?_cons_zero, List.getElem?_cons_succ] at e0 e1 e2 e3 e4 e5 e6 e7
      simp only [Prod.mk.injEq] at hx
      have hwt : ∀ (j : Nat) (t : TypeId) (dd : DataW H), ([f0, f1, f2, f3, f4, f5, f6, f7].map (·.type))[j]? = some t → (([x0, x1, x2, x3, x4, x5, x6, x7].map (·.1)))[j]? = some dd → ∀ n ∈ dd.weights P t, n ≤ reachBytes := fun j t dd h1 h2 n hn' =>
        hw n (by rw [hx.1]; simp only [DataW.weights, hn]; exact weights_each h1 h2 n hn')
      obtain ⟨z0, s0, _, w0⟩ := DataW.trod_int T.rg.int e0
      obtain ⟨z2, s2, _, w2⟩ := DataW.trod_int T.rg.int e2
      obtain ⟨z4, s4, _, w4⟩ := DataW.trod_int T.rg.int e4
      obtain ⟨z5, s5, _, w5⟩ := DataW.trod_int T.rg.int e5
      obtain ⟨nm, s3, d3, h3⟩ := DataW.trod_string T.str e3
      obtain ⟨lz, s6, _⟩ := DataW.trod_bool T.bool e6
      simp only [List.cons.injEq, and_true] at s0 s2 s3 s4 s5 s6
      subst s0; subst s2; subst s3; subst s4; subst s5; subst s6
      obtain ⟨set, hset⟩ := open_ranges_g T.rg (d := x1.1) (p := x1.2) e1 (hwt 1 tr x1.1 (by simp [t1]) rfl)
      have hb : ∀ z : Int, (Lit.int .i64 z).wf = true → I64 z := fun z hz => by
        have q1 : IntKind.i64.min = -9223372036854775808 := rfl
        have q2 : IntKind.i64.max = 9223372036854775807 := rfl
        simp [Lit.wf, q1, q2] at hz
        exact hz
      have hnm : nm.size ≤ 140737488351232 := by
        have := hwt 3 tstr x3.1 (by simp [t3]) rfl nm.data.toList.length (by rw [d3]; simp [DataW.weights])
        simpa [reachBytes] using this
      rcases DataW.trod_slice T.list e7 with ⟨hcs, hx7⟩ | ⟨a, len, cap, elems, rest, m', rfl, hcs, hx7, hb7, hl7, hm7, hel, hi, _, _⟩
      · simp only [List.cons.injEq, and_true] at hcs
        subst hcs
        exact ⟨.mk z0 set z2 nm z4 z5 lz [], .mk (fun _ => []) ⟨hb _ w0, hb _ w2, hb _ w4, hb _ w5⟩ hset hnm (by simp) (fun j hj => by simp at hj) (fun j hj => by simp at hj)⟩
      · simp only [List.cons.injEq, and_true] at hcs
        subst hcs
        have hw7 := hwt 7 tns x7.1 (by simp [t7]) rfl
        rw [hx7] at hw7
        have hsz := hw7 (((elems.map (·.1)).length + (rest.map (·.1)).length) * P.bytesOf tn) (by simp [DataW.weights, T.list])
        rw [T.bytes] at hsz
        simp only [List.length_map, reachBytes] at hsz
        have each : ∀ i, i < len → ∃ x : List Value × Nd, (x.1.length = 8 ∧ ∀ q, q < 8 → W.cell? ((a.add (i * 8)).add q) = x.1[q]?) ∧ NdIs W x.2 x.1 := by
          intro i hil
          have h1 := hi i hil
          rw [c8] at h1
          have hei : i < elems.length := by omega
          rw [List.getElem?_eq_getElem hei, Option.bind_eq_some_iff] at h1
          obtain ⟨cs, hcs, htr⟩ := h1
          obtain ⟨n, hn'⟩ := IH m' (by omega) (d := elems[i].1) (p := elems[i].2) htr (fun k hk => hw7 k (by
            simp only [DataW.weights, T.list, List.mem_cons, List.mem_append]
            exact .inr (.inl (weights_all (List.mem_map.2 ⟨elems[i], List.getElem_mem _, rfl⟩) k hk))))
          exact ⟨(cs, n), cells_all hcs, hn'⟩
        haveI : Inhabited Nd := ⟨.mk 0 [] 0 ByteArray.empty 0 0 false []⟩
        obtain ⟨f, hf2⟩ := choose_each each
        have hlen : ((List.range len).map fun i => (f i).2).length = len := by simp
        refine ⟨.mk z0 set z2 nm z4 z5 lz ((List.range len).map fun i => (f i).2), ?_⟩
        have key := NdIs.mk (W := W) (k := z0) (num := z2) (mn := z4) (mx := z5) (set := set) (name := nm) (lz := lz) (subs := (List.range len).map fun i => (f i).2) (vs := v1) (a := some a) (cap := cap) (fun j => (f j).1)
          ⟨hb _ w0, hb _ w2, hb _ w4, hb _ w5⟩ hset hnm (by rw [hlen]; omega) (fun j hj => ?_) (fun j hj => ?_)
        · rw [hlen] at key; exact key
        · rw [hlen] at hj
          obtain ⟨⟨l8, hc⟩, _⟩ := hf2 j hj
          obtain ⟨b, off, spot⟩ := a
          have hspot : spot = none := by
            obtain ⟨⟨l80, hc0⟩, _⟩ := hf2 0 (by omega)
            have h00 := hc0 0 (by omega)
            have : ∃ v, (f 0).1[0]? = some v := ⟨(f 0).1[0]'(by omega), List.getElem?_eq_getElem _⟩
            obtain ⟨v, hv⟩ := this
            rw [hv] at h00
            simpa [Addr.add] using World.cell?_spot h00
          subst hspot
          have hq : ∀ q, q < 8 → W.cell? ⟨b, off + j * 8 + q, none⟩ = (f j).1[q]? := fun q hq => by
            have := hc q hq
            rw [add_plain, add_plain] at this
            exact this
          refine ⟨b, off, rfl, ?_, l8, hq⟩
          have h0 := hq 0 (by omega)
          rw [List.getElem?_eq_getElem (by omega)] at h0
          exact World.block_lt_of_cell? W _ h0
        · rw [hlen] at hj
          simp only [List.getElem_map, List.getElem_range]
          exact (hf2 j hj).2
end Go.Proofs.YtecmeeobabadeaaDoor
namespace Go.Proofs.YtecmeeobabadeaaDoor
open Go.RowKit
set_option linter.unusedVariables false
namespace Td
def subs : Nd → List Nd | .mk _ _ _ _ _ _ _ s => s
def kind : Nd → Int | .mk k _ _ _ _ _ _ _ => k
def num : Nd → Int | .mk _ _ n _ _ _ _ _ => n
def name : Nd → ByteArray | .mk _ _ _ n _ _ _ _ => n
def set : Nd → List (Int × Int) | .mk _ s _ _ _ _ _ _ => s
def mn : Nd → Int | .mk _ _ _ _ m _ _ _ => m
def mx : Nd → Int | .mk _ _ _ _ _ m _ _ => m
def lazy : Nd → Bool | .mk _ _ _ _ _ _ l _ => l
/-- The depth, at most so much. -/
def dep : Nat → Nd → Nat
  | 0, _ => 0
  | k + 1, n => ((subs n).map (dep k)).foldl max 0 + 1
theorem foldl_max_succ (l : List Nat) (k : Nat) (hk : k < l.length) : (l.take (k + 1)).foldl max 0 = max ((l.take k).foldl max 0) l[k] := by
  rw [List.take_succ_eq_append_getElem hk, List.foldl_append]; rfl
theorem foldl_max_le : ∀ (l : List Nat) (a b : Nat), (∀ x ∈ l, x ≤ b) → a ≤ b → l.foldl max a ≤ b
  | [], a, b, _, h => h
  | x :: l, a, b, hl, h => by
    have := hl x (by simp)
    exact foldl_max_le l (max a x) b (fun y hy => hl y (List.mem_cons_of_mem _ hy)) (by omega)
theorem dep_le : ∀ (k : Nat) (n : Nd), dep k n ≤ k
  | 0, _ => Nat.le_refl _
  | k + 1, n => by
    have := foldl_max_le ((subs n).map (dep k)) 0 k (fun x hx => by
      obtain ⟨m, _, rfl⟩ := List.mem_map.1 hx
      exact dep_le k m) (by omega)
    rw [dep]; omega
/-- All nodes that are not too deep, with their depths. -/
def all : Nat → Nat → Nd → List (Nat × Nd)
  | 0, _, _ => []
  | k + 1, d, n => (d, n) :: (subs n).flatMap (all k (d + 1))
end Td
/-- A node's cells, laid open. -/
structure NdCells (W : World) (cs : List Value) (n : Nd) (vs : Value) (a : Option Addr) (cap : Nat) (C : Nat → List Value) : Prop where
  eq : cs = [.int .i64 (Td.kind n), vs, .int .i64 (Td.num n), .string (Td.name n), .int .i64 (Td.mn n), .int .i64 (Td.mx n), .bool (Td.lazy n), .slice a (Td.subs n).length cap]
  bd : I64 (Td.kind n) ∧ I64 (Td.num n) ∧ I64 (Td.mn n) ∧ I64 (Td.mx n)
  set : RRow W vs (Td.set n)
  name : (Td.name n).size ≤ 140737488351232
  len : (Td.subs n).length ≤ 8796093022208
  sub : ∀ j, j < (Td.subs n).length → ∃ b off m u0 u1 u2 u3 u4 u5 u6 u7, a = some ⟨b, off, none⟩ ∧ b < W.heap.size ∧ (Td.subs n)[j]? = some m ∧ NdIs W m [u0, u1, u2, u3, u4, u5, u6, u7] ∧
    W.cell? ⟨b, off + j * 8, none⟩ = some u0 ∧ W.cell? ⟨b, off + j * 8 + 1, none⟩ = some u1 ∧ W.cell? ⟨b, off + j * 8 + 2, none⟩ = some u2 ∧ W.cell? ⟨b, off + j * 8 + 3, none⟩ = some u3 ∧
    W.cell? ⟨b, off + j * 8 + 4, none⟩ = some u4 ∧ W.cell? ⟨b, off + j * 8 + 5, none⟩ = some u5 ∧ W.cell? ⟨b, off + j * 8 + 6, none⟩ = some u6 ∧ W.cell? ⟨b, off + j * 8 + 7, none⟩ = some u7
theorem NdIs.cells {W : World} {n : Nd} {cs : List Value} (h : NdIs W n cs) : ∃ vs a cap C, NdCells W cs n vs a cap C := by
  cases h with
  | mk C hk hset hname hlen hrow hsub =>
    refine ⟨_, _, _, C, rfl, hk, hset, hname, hlen, fun j hj => ?_⟩
    obtain ⟨b, off, ha, hb, hl, hc⟩ := hrow j hj
    have hs := hsub j hj
    match hC : C j, hl with
    | [u0, u1, u2, u3, u4, u5, u6, u7], _ =>
      rw [hC] at hs hc
      exact ⟨b, off, _, u0, u1, u2, u3, u4, u5, u6, u7, ha, hb, List.getElem?_eq_getElem hj, hs, hc 0 (by omega), hc 1 (by omega), hc 2 (by omega), hc 3 (by omega), hc 4 (by omega), hc 5 (by omega), hc 6 (by omega), hc 7 (by omega)⟩
end Go.Proofs.YtecmeeobabadeaaDoor
namespace Go.Proofs.YtecmeeobabadeaaDoor.Utf

def width (r : Int) : Int :=
  if r < 0 ∨ 1114111 < r ∨ (55296 ≤ r ∧ r ≤ 57343) then 0 else if r ≤ 127 then 1 else if r ≤ 2047 then 2 else if r ≤ 65535 then 3 else 4
def encN (r : Int) : List Int :=
  if width r = 0 then [] else if width r = 1 then [r] else if width r = 2 then [192 + r / 64, 128 + r % 64]
  else if width r = 3 then [224 + r / 4096, 128 + r / 64 % 64, 128 + r % 64]
  else [240 + r / 262144, 128 + r / 4096 % 64, 128 + r / 64 % 64, 128 + r % 64]
def ann (a : Int) : Int := if a < 128 then 1 else if a < 192 then 0 else if a < 224 then 2 else if a < 240 then 3 else if a < 248 then 4 else 0
def mark (n : Int) : Int := if n = 2 then 192 else if n = 3 then 224 else if n = 4 then 240 else 0
def Cont (b : Int) : Prop := 128 ≤ b ∧ b < 192
instance (b : Int) : Decidable (Cont b) := by unfold Cont; infer_instance
/-- What the first k bytes say. -/
def acc (l : List Int) (m : Int) : Nat → Int
  | 0 => 0
  | 1 => l[0]?.getD 0 - m
  | k + 2 => acc l m (k + 1) * 64 + l[k + 1]?.getD 0 % 64
def conts (l : List Int) : Nat → Bool
  | 0 => true
  | 1 => true
  | k + 2 => conts l (k + 1) && decide (Cont (l[k + 1]?.getD 0))
def dec (l : List Int) : Int × Int :=
  if l = [] then (-1, 0)
  else if ann (l[0]?.getD 0) = 0 ∨ (l.length : Int) < ann (l[0]?.getD 0) then (-1, 1)
  else if conts l (ann (l[0]?.getD 0)).toNat = true ∧ width (acc l (mark (ann (l[0]?.getD 0))) (ann (l[0]?.getD 0)).toNat) = ann (l[0]?.getD 0)
    then (acc l (mark (ann (l[0]?.getD 0))) (ann (l[0]?.getD 0)).toNat, ann (l[0]?.getD 0))
  else (-1, 1)
def Bytes (l : List Int) : Prop := ∀ x ∈ l, 0 ≤ x ∧ x < 256

def nums (s : ByteArray) : List Int := s.data.toList.map fun b => (b.toNat : Int)
theorem nums_length (s : ByteArray) : (nums s).length = s.size := by
  unfold nums; rw [List.length_map]; exact Array.length_toList
theorem nums_bytes (s : ByteArray) : Bytes (nums s) := by
  intro x hx
  simp [nums] at hx
  obtain ⟨b, _, rfl⟩ := hx
  have := b.toNat_lt
  omega
/-! ### Pieces -/
def step (l : List Int) : Nat := (dec l).2.toNat
def pc (l : List Int) : Nat → Nat → List (Int × Int)
  | 0, _ => []
  | f + 1, at_ => if at_ < l.length then ((at_ : Int), (dec (l.drop at_)).1) :: pc l f (at_ + step (l.drop at_)) else []
def rest (l : List Int) (at_ : Nat) : List (Int × Int) := pc l (l.length - at_) at_
end Go.Proofs.YtecmeeobabadeaaDoor.Utf
namespace Go.Proofs.YtecmeeobabadeaaDoor.Br
set_option linter.unusedVariables false
/-- What a hexadecimal digit says; -1: it is none. -/
def dig (c : Int) : Int := if 48 ≤ c ∧ c ≤ 57 then c - 48 else if 97 ≤ c ∧ c ≤ 102 then c - 87 else if 65 ≤ c ∧ c ≤ 70 then c - 55 else -1
/-- How many digits stand in front, at most so many. -/
def cnt : List Int → Nat → Nat
  | x :: l, m + 1 => if 0 ≤ dig x then cnt l m + 1 else 0
  | _, _ => 0
/-- The number that the first k make. -/
def val (l : List Int) (k : Nat) : Int := (l.take k).foldl (fun a x => a * 16 + dig x) 0
def letB (c : Int) : Bool := (decide (65 ≤ c) && decide (c ≤ 90)) || (decide (97 ≤ c) && decide (c ≤ 122))
def signB (c : Int) : Bool := decide (33 ≤ c) && decide (c ≤ 126) && !letB c && !(decide (48 ≤ c) && decide (c ≤ 57))
def plain (c : Int) : Int × Int × Int :=
  if c = 97 then (7, 2, 0) else if c = 116 then (9, 2, 0) else if c = 110 then (10, 2, 0) else if c = 118 then (11, 2, 0) else if c = 102 then (12, 2, 0) else if c = 114 then (13, 2, 0)
  else if signB c = true then (c, 2, 0) else (0, 0, 80)
def braced (l : List Int) : Int × Int × Int :=
  let n := cnt (l.drop 3) 6
  if 3 + n = l.length then (0, 0, 82) else if l[3 + n]?.getD 0 ≠ 125 ∨ n = 0 ∨ 1114111 < val (l.drop 3) n then (0, 0, 80) else (val (l.drop 3) n, n + 4, 0)
def two (l : List Int) : Int × Int × Int :=
  let n := cnt (l.drop 2) 2
  if n = 2 then (val (l.drop 2) 2, 4, 0) else if n + 2 = l.length then (0, 0, 82) else (0, 0, 80)
/-- An escape of a number: what it says, its length, and its code. -/
def num (l : List Int) : Int × Int × Int :=
  if l[0]?.getD 0 ≠ 92 then (0, 0, 3) else if l.length = 1 then (0, 0, 82) else if l[1]?.getD 0 ≠ 120 then plain (l[1]?.getD 0) else if l[2]?.getD 0 = 123 then braced l else two l
end Go.Proofs.YtecmeeobabadeaaDoor.Br
namespace Go.Proofs.YtecmeeobabadeaaDoor.Cl
open Go.Proofs.YtecmeeobabadeaaDoor.Rg
set_option linter.unusedVariables false
/-- Numbers, two and two. -/
def pairsOf : List Int → List R
  | a :: b :: t => (a, b) :: pairsOf t
  | _ => []
/-! ### Which class -/
def word : List Int := [48, 57, 65, 90, 95, 95, 97, 122]
def latin : List Int := [65, 90, 97, 122, 170, 170, 186, 186, 192, 214, 216, 246, 248, 591]
def greek : List Int := [880, 883, 885, 887, 890, 893, 895, 895, 900, 900, 902, 902, 904, 906, 908, 908, 910, 929, 931, 993, 1008, 1023, 8486, 8486]
def cyrillic : List Int := [1024, 1156, 1159, 1327]
def capitals : List Int := [65, 90, 192, 214, 216, 222, 376, 376, 913, 929, 931, 939, 1024, 1071]
def small : List Int := [97, 122, 181, 181, 223, 246, 248, 255, 940, 974, 1072, 1119, 383, 383]
/-- The class of a name between colons. -/
def colonT : List (List UInt8 × List Int) := [
  ([97, 108, 110, 117, 109], [48, 57, 65, 90, 97, 122]), ([97, 108, 112, 104, 97], [65, 90, 97, 122]), ([97, 115, 99, 105, 105], [0, 127]), ([98, 108, 97, 110, 107], [9, 9, 32, 32]),
  ([99, 110, 116, 114, 108], [0, 31, 127, 127]), ([100, 105, 103, 105, 116], [48, 57]), ([103, 114, 97, 112, 104], [33, 126]), ([108, 111, 119, 101, 114], [97, 122]), ([112, 114, 105, 110, 116], [32, 126]),
  ([112, 117, 110, 99, 116], [33, 47, 58, 64, 91, 96, 123, 126]), ([115, 112, 97, 99, 101], [9, 13, 32, 32]), ([117, 112, 112, 101, 114], [65, 90]), ([119, 111, 114, 100], word), ([120, 100, 105, 103, 105, 116], [48, 57, 65, 70, 97, 102])]
/-- The class of a property. -/
def propT : List (List UInt8 × List Int) := [
  ([65, 110, 121], [0, 1114111]), ([67, 121, 114, 105, 108, 108, 105, 99], cyrillic), ([71, 114, 101, 101, 107], greek), ([76], capitals ++ small ++ latin ++ greek ++ cyrillic), ([76, 97, 116, 105, 110], latin),
  ([76, 108], small), ([76, 117], capitals), ([78, 100], [48, 57, 1632, 1641, 1776, 1785, 2406, 2415])]
/-- What a table has of a name; with one 94 ahead: what the rest lacks. -/
def look (T : List (List UInt8 × List Int)) (s : List UInt8) : Option (List Int) := (T.find? fun e => s == e.1).map Prod.snd
def bare : List UInt8 → List UInt8 × Bool
  | 94 :: t => (t, true)
  | s => (s, false)
def lookC (T : List (List UInt8 × List Int)) (s : List UInt8) : Option (Bool × List Int) := (look T (bare s).1).map fun n => ((bare s).2, n)
def letterX (c : Int) : Option (Bool × List Int) :=
  if c = 100 then some (false, [48, 57]) else if c = 68 then some (true, [48, 57]) else
  if c = 115 then some (false, [9, 10, 12, 13, 32, 32]) else if c = 83 then some (true, [9, 10, 12, 13, 32, 32]) else
  if c = 119 then some (false, word) else if c = 87 then some (true, word) else none
end Go.Proofs.YtecmeeobabadeaaDoor.Cl
namespace Go.Proofs.YtecmeeobabadeaaDoor.Br
open Go.Proofs.YtecmeeobabadeaaDoor.Rg
set_option linter.unusedVariables false
/-- How many stand ahead of the first c (all of them, where there is none). -/
def upTo (c : Int) : List Int → Nat
  | [] => 0
  | x :: l => if x = c then 0 else upTo c l + 1
/-- How many stand ahead of the first c that d follows (all of them, where there is none). -/
def upTo2 (c d : Int) : List Int → Nat
  | [] => 0
  | x :: l => if x = c ∧ l[0]? = some d then 0 else upTo2 c d l + 1
/-- The name of a property, the escape's length, and its code. -/
def nameX (s : ByteArray) : ByteArray × Int × Int :=
  let l := Utf.nums s
  if l.length = 2 then (⟨#[]⟩, 0, 82) else if letB (l[2]?.getD 0) = true then (s.extract 2 3, 3, 0) else if l[2]?.getD 0 ≠ 123 then (⟨#[]⟩, 0, 70)
  else if upTo 125 (l.drop 3) = (l.drop 3).length then (⟨#[]⟩, 0, 82) else (s.extract 3 (3 + upTo 125 (l.drop 3)), upTo 125 (l.drop 3) + 4, 0)
abbrev Cls := Option (Bool × List Int)
def propX (s : ByteArray) (neg : Bool) : Cls × Int × Int :=
  if (nameX s).2.2 ≠ 0 then (none, 0, (nameX s).2.2) else
  match Cl.lookC Cl.propT (nameX s).1.data.toList with
  | none => (none, 0, 70)
  | some (b, T) => (some (b != neg, T), (nameX s).2.1, 0)
/-- An escape of a set: its class, its length, and its code. -/
def set (s : ByteArray) : Cls × Int × Int :=
  let l := Utf.nums s
  if l[0]?.getD 0 ≠ 92 then (none, 0, 3) else if l.length = 1 then (none, 0, 5) else
  if l[1]?.getD 0 = 80 then propX s true else if l[1]?.getD 0 = 112 then propX s false else
  match Cl.letterX (l[1]?.getD 0) with
  | none => (none, 0, 5)
  | some x => (some x, 2, 0)
/-- A list is that of a class; there is none: it is empty. -/
def SetIs : Cls → List R → Prop
  | none, out => out = []
  | some (neg, T), out => NormL out ∧ ∀ q, 0 ≤ q → q ≤ 1114111 → hasB out q = (neg != hasB (Cl.pairsOf T) q)
/-- What an item stands for. -/
inductive It where
  | cls (x : Bool × List Int)
  | rng (lo hi : Int)
def ItIs : It → List R → Prop
  | .cls x, out => SetIs (some x) out
  | .rng lo hi, out => out = [(lo, hi)]
/-- A list is that of items, one behind another. -/
inductive ItsIs : List It → List R → Prop where
  | nil : ItsIs [] []
  | snoc {Xs : List It} {L : List R} {X : It} {l : List R} : ItsIs Xs L → ItIs X l → ItsIs (Xs ++ [X]) (L ++ l)
/-- A character: its number, its length, its code. -/
def one (l : List Int) : Int × Int × Int := if l[0]?.getD 0 = 92 then num l else if (Utf.dec l).1 < 0 then (0, 0, 3) else ((Utf.dec l).1, (Utf.dec l).2, 0)
inductive Res (α : Type) where
  | bad (at_ code : Int)
  | ok (x : α) (next : Nat)
/-- The item at a place of a text: what it stands for, and the place behind it; or what is wrong, and where. -/
def colonX (s : ByteArray) (at_ : Nat) : Res It :=
  let l := (Utf.nums s).drop (at_ + 2)
  if upTo2 58 93 l = l.length then .bad at_ 82 else
  match Cl.lookC Cl.colonT (s.extract (at_ + 2) (at_ + 2 + upTo2 58 93 l)).data.toList with
  | none => .bad at_ 70
  | some x => .ok (.cls x) (at_ + 4 + upTo2 58 93 l)
def goesOn (l : List Int) : Bool := decide (l[0]? = some 45) && decide (2 ≤ l.length) && !decide (l[1]? = some 93)
def span (s : ByteArray) (at_ : Nat) : Res It :=
  let o := one ((Utf.nums s).drop at_)
  if o.2.2 ≠ 0 then .bad at_ o.2.2 else
  let e := at_ + o.2.1.toNat
  if goesOn ((Utf.nums s).drop e) = false then .ok (.rng o.1 o.1) e else
  let c := (set (s.extract (e + 1) s.size)).2.2
  if c ≠ 3 ∧ c ≠ 5 then .bad (e + 1) 70 else
  let p := one ((Utf.nums s).drop (e + 1))
  if p.2.2 ≠ 0 then .bad (e + 1) p.2.2 else if p.1 < o.1 then .bad at_ 70 else .ok (.rng o.1 p.1) (e + 1 + p.2.1.toNat)
def item (s : ByteArray) (at_ : Nat) : Res It :=
  let l := (Utf.nums s).drop at_
  if l[0]? = some 91 ∧ l[1]? = some 58 then colonX s at_ else
  let x := set (s.extract at_ s.size)
  if x.2.2 = 0 then (match x.1 with | some y => .ok (.cls y) (at_ + x.2.1.toNat) | none => .bad at_ 0)
  else if x.2.2 ≠ 3 ∧ x.2.2 ≠ 5 then .bad at_ x.2.2 else span s at_
/-- The items of a text from a place on, to the closing bracket; the first of them begins at 'first'. -/
def items (s : ByteArray) (first : Nat) : Nat → Nat → List It → Res (List It)
  | 0, at_, Xs => .bad s.size 82
  | f + 1, at_, Xs =>
    if s.size ≤ at_ then .bad s.size 82 else if (Utf.nums s)[at_]?.getD 0 = 93 ∧ first < at_ then .ok Xs at_ else
    match item s at_ with
    | .bad o c => .bad o c
    | .ok x next => items s first f next (Xs ++ [x])
def first (l : List Int) : Nat := if l[1]?.getD 0 = 94 then 2 else 1
end Go.Proofs.YtecmeeobabadeaaDoor.Br
