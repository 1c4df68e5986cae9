/- Trees of patterns in memory (api.Node): how one reads; an argument that is one, opened: over any program that has the types. · The plain mathematics of trees: depth, all nodes, weight, nullable, the same; a node's cells. · The reference's tree (burinref06): letter, Name. · Mathematics of lex: the token at the front of a text, and all tokens of a text. -/
import Derived.Test.YtmdpchiiamgnnaaGreatDoorGp10
import Derived.Lib.LaidTab
import Derived.IntWalk
import Derived.Test.YtmdpchiiamgnnaaGreatDoorGp8
import Derived.Test.YtmdpchiiamgnnaaGreatDoorGp9
namespace Go.Proofs.YtmdpchiiamgnnaaGreatDoor
open Go.ChangeShapes Go.WideShapes Go.ChangeAt Go.RowKit
set_option linter.unusedVariables false
/-- A tree. -/
inductive Nd where
  | mk (kind : Int) (set : List (Int × Int)) (num : Int) (name : ByteArray) (mn mx : Int) (lazy : Bool) (subs : List Nd) : Nd
def I64 (x : Int) : Prop := -9223372036854775808 ≤ x ∧ x ≤ 9223372036854775807
/-- Eight cells that read as a tree; its parts lie in a row, eight cells each. -/
inductive NdIs (W : World) : Nd → List Value → Prop where
  | mk {k num mn mx : Int} {set : List (Int × Int)} {name : ByteArray} {lz : Bool} {subs : List Nd} {vs : Value} {a : Option Addr} {cap : Nat} (cs : Nat → List Value)
      (hk : I64 k ∧ I64 num ∧ I64 mn ∧ I64 mx) (hset : RRow W vs set) (hname : name.size ≤ 140737488351232) (hlen : subs.length ≤ 8796093022208)
      (hrow : ∀ j, j < subs.length → ∃ b off, a = some ⟨b, off, none⟩ ∧ b < W.heap.size ∧ (cs j).length = 8 ∧ ∀ i, i < 8 → W.cell? ⟨b, off + j * 8 + i, none⟩ = (cs j)[i]?)
      (hsub : ∀ j (h : j < subs.length), NdIs W subs[j] (cs j)) :
      NdIs W (.mk k set num name mn mx lz subs) [.int .i64 k, vs, .int .i64 num, .string name, .int .i64 mn, .int .i64 mx, .bool lz, .slice a subs.length cap]
theorem NdIs.kept {W W' : World} (hb : Below W.heap.size W W') : ∀ {n : Nd} {cs : List Value}, NdIs W n cs → NdIs W' n cs := by
  intro n cs h
  induction h with
  | mk cs hk hset hname hlen hrow hsub ih =>
    refine .mk cs hk (hset.below (Nat.le_refl _) hb) hname hlen (fun j hj => ?_) ih
    obtain ⟨b, off, ha, hlt, hl, hc⟩ := hrow j hj
    exact ⟨b, off, ha, Nat.lt_of_lt_of_le hlt hb.size, hl, fun i hi => (hb.cell (p := ⟨b, off + j * 8 + i, none⟩) hlt).trans (hc i hi)⟩
theorem NdIs.len {W : World} {n : Nd} {cs : List Value} (h : NdIs W n cs) : cs.length = 8 := by cases h; rfl
/-- What is asked of a program's types. -/
structure NdTypes (P : Program) (tn tns tr ts ti tstr tb : TypeId) : Prop where
  rg : RgTypes P tr ts ti
  node : ∃ f0 f1 f2 f3 f4 f5 f6 f7 : Field, P.underlying tn = some (.struct #[f0, f1, f2, f3, f4, f5, f6, f7]) ∧ (f0.offset = 0 ∧ f1.offset = 1 ∧ f2.offset = 2 ∧ f3.offset = 3 ∧ f4.offset = 4 ∧ f5.offset = 5 ∧ f6.offset = 6 ∧ f7.offset = 7) ∧
    (f0.type = ti ∧ f1.type = tr ∧ f2.type = ti ∧ f3.type = tstr ∧ f4.type = ti ∧ f5.type = ti ∧ f6.type = tb ∧ f7.type = tns)
  list : P.underlying tns = some (.slice tn)
  str : P.underlying tstr = some .string
  bool : P.underlying tb = some .bool
  cells : P.cellsOf tn = 8 ∧ P.cellsOf tr = 1 ∧ P.cellsOf ti = 1 ∧ P.cellsOf tstr = 1 ∧ P.cellsOf tb = 1 ∧ P.cellsOf tns = 1
  bytes : P.bytesOf tn = 104
theorem weights_each {H : Type} {P : Program} {ts : List TypeId} {ds : List (DataW H)} {j : Nat} {t : TypeId} {d : DataW H} (ht : ts[j]? = some t) (hd : ds[j]? = some d) : ∀ n ∈ d.weights P t, n ∈ DataW.weightsEach P ts ds := DataW.weights_mem_each ht hd
theorem cells_all {W : World} {base : Nat} {a : Addr} {n : Nat} {cs : List Value} (h : W.cells? base a n = some cs) : cs.length = n ∧ ∀ i, i < n → W.cell? (a.add i) = cs[i]? := by
  unfold World.cells? at h
  split at h
  · refine ⟨?_, fun i hi => ?_⟩
    · have := Lib.mapM_length h; simpa using this
    · obtain ⟨b, hb, hf⟩ := Lib.mapM_at h i i (by simp [hi])
      rw [hb]; exact hf
  · cases h
theorem open_node_g {H : Type} {enc : TypeId × Value → H} {P : Program} {tn tns tr ts ti tstr tb : TypeId} (T : NdTypes P tn tns tr ts ti tstr tb) {W : World} : ∀ (fuel : Nat) {cs : List Value} {d : DataW H} {p : List MemPlace},
    DataW.trod enc P W 0 (fun _ => true) true fuel tn cs = some (d, p) → (∀ n ∈ d.weights P tn, n ≤ reachBytes) → ∃ n, NdIs W n cs := by
  intro fuel
  induction fuel using Nat.strongRecOn with
  | ind fuel IH =>
    intro cs d p hf hw
    obtain ⟨f0, f1, f2, f3, f4, f5, f6, f7, hn, ⟨o0, o1, o2, o3, o4, o5, o6, o7⟩, t0, t1, t2, t3, t4, t5, t6, t7⟩ := T.node
    obtain ⟨c8, cr, ci, cst, cb, cns⟩ := T.cells
    obtain ⟨xs, m, rfl, hx, hcl, hxl, hfield⟩ := DataW.trod_struct hn hf
    rw [c8] at hcl
    have hxl8 : xs.length = 8 := by rw [hxl]; rfl
    match cs, hcl, xs, hxl8 with
    | [v0, v1, v2, v3, v4, v5, v6, v7], _, [x0, x1, x2, x3, x4, x5, x6, x7], _ =>
      have e0 := hfield 0 f0 rfl
      have e1 := hfield 1 f1 rfl
      have e2 := hfield 2 f2 rfl
      have e3 := hfield 3 f3 rfl
      have e4 := hfield 4 f4 rfl
      have e5 := hfield 5 f5 rfl
      have e6 := hfield 6 f6 rfl
      have e7 := hfield 7 f7 rfl
      rw [o0, t0, ci] at e0; rw [o1, t1, cr] at e1; rw [o2, t2, ci] at e2; rw [o3, t3, cst] at e3
      rw [o4, t4, ci] at e4; rw [o5, t5, ci] at e5; rw [o6, t6, cb] at e6; rw [o7, t7, cns] at e7
      simp only [List.drop_zero, List.drop_succ_cons, List.take_succ_cons, List.take_zero, List.getElem?_cons_zero, List.getElem?_cons_succ] at e0 e1 e2 e3 e4 e5 e6 e7
      simp only [Prod.mk.injEq] at hx
      have hwt : ∀ (j : Nat) (t : TypeId) (dd : DataW H), ([f0, f1, f2, f3, f4, f5, f6, f7].map (·.type))[j]? = some t → (([x0, x1, x2, x3, x4, x5, x6, x7].map (·.1)))[j]? = some dd → ∀ n ∈ dd.weights P t, n ≤ reachBytes := fun j t dd h1 h2 n hn' =>
        hw n (by rw [hx.1]; simp only [DataW.weights, hn]; exact weights_each h1 h2 n hn')
      obtain ⟨z0, s0, _, w0⟩ := DataW.trod_int T.rg.int e0
      obtain ⟨z2, s2, _, w2⟩ := DataW.trod_int T.rg.int e2
      obtain ⟨z4, s4, _, w4⟩ := DataW.trod_int T.rg.int e4
      obtain ⟨z5, s5, _, w5⟩ := DataW.trod_int T.rg.int e5
      obtain ⟨nm, s3, d3, h3⟩ := DataW.trod_string T.str e3
      obtain ⟨lz, s6, _⟩ := DataW.trod_bool T.bool e6
      simp only [List.cons.injEq, and_true] at s0 s2 s3 s4 s5 s6
      subst s0; subst s2; subst s3; subst s4; subst s5; subst s6
      obtain ⟨set, hset⟩ := open_ranges_g T.rg (d := x1.1) (p := x1.2) e1 (hwt 1 tr x1.1 (by simp [t1]) rfl)
      have hb : ∀ z : Int, (Lit.int .i64 z).wf = true → I64 z := fun z hz => by
        have q1 : IntKind.i64.min = -9223372036854775808 := rfl
        have q2 : IntKind.i64.max = 9223372036854775807 := rfl
        simp [Lit.wf, q1, q2] at hz
        exact hz
      have hnm : nm.size ≤ 140737488351232 := by
        have := hwt 3 tstr x3.1 (by simp [t3]) rfl nm.data.toList.length (by rw [d3]; simp [DataW.weights])
        simpa [reachBytes] using this
      rcases DataW.trod_slice T.list e7 with ⟨hcs, hx7⟩ | ⟨a, len, cap, elems, rest, m', rfl, hcs, hx7, hb7, hl7, hm7, hel, hi, _, _⟩
      · simp only [List.cons.injEq, and_true] at hcs
        subst hcs
        exact ⟨.mk z0 set z2 nm z4 z5 lz [], .mk (fun _ => []) ⟨hb _ w0, hb _ w2, hb _ w4, hb _ w5⟩ hset hnm (by simp) (fun j hj => by simp at hj) (fun j hj => by simp at hj)⟩
      · simp only [List.cons.injEq, and_true] at hcs
        subst hcs
        have hw7 := hwt 7 tns x7.1 (by simp [t7]) rfl
        rw [hx7] at hw7
        have hsz := hw7 (((elems.map (·.1)).length + (rest.map (·.1)).length) * P.bytesOf tn) (by simp [DataW.weights, T.list])
        rw [T.bytes] at hsz
        simp only [List.length_map, reachBytes] at hsz
        have each : ∀ i, i < len → ∃ x : List Value × Nd, (x.1.length = 8 ∧ ∀ q, q < 8 → W.cell? ((a.add (i * 8)).add q) = x.1[q]?) ∧ NdIs W x.2 x.1 := by
          intro i hil
          have h1 := hi i hil
          rw [c8] at h1
          have hei : i < elems.length := by omega
          rw [List.getElem?_eq_getElem hei, Option.bind_eq_some_iff] at h1
          obtain ⟨cs, hcs, htr⟩ := h1
          obtain ⟨n, hn'⟩ := IH m' (by omega) (d := elems[i].1) (p := elems[i].2) htr (fun k hk => hw7 k (by
            simp only [DataW.weights, T.list, List.mem_cons, List.mem_append]
            exact .inr (.inl (weights_all (List.mem_map.2 ⟨elems[i], List.getElem_mem _, rfl⟩) k hk))))
          exact ⟨(cs, n), cells_all hcs, hn'⟩
        haveI : Inhabited Nd := ⟨.mk 0 [] 0 ByteArray.empty 0 0 false []⟩
        obtain ⟨f, hf2⟩ := choose_each each
        have hlen : ((List.range len).map fun i => (f i).2).length = len := by simp
        refine ⟨.mk z0 set z2 nm z4 z5 lz ((List.range len).map fun i => (f i).2), ?_⟩
        have key := NdIs.mk (W := W) (k := z0) (num := z2) (mn := z4) (mx := z5) (set := set) (name := nm) (lz := lz) (subs := (List.range len).map fun i => (f i).2) (vs := v1) (a := some a) (cap := cap) (fun j => (f j).1)
          ⟨hb _ w0, hb _ w2, hb _ w4, hb _ w5⟩ hset hnm (by rw [hlen]; omega) (fun j hj => ?_) (fun j hj => ?_)
        · rw [hlen] at key; exact key
        · rw [hlen] at hj
          obtain ⟨⟨l8, hc⟩, _⟩ := hf2 j hj
          obtain ⟨b, off, spot⟩ := a
          have hspot : spot = none := by
            obtain ⟨⟨l80, hc0⟩, _⟩ := hf2 0 (by omega)
            have h00 := hc0 0 (by omega)
            have : ∃ v, (f 0).1[0]? = some v := ⟨(f 0).1[0]'(by omega), List.getElem?_eq_getElem _⟩
            obtain ⟨v, hv⟩ := this
            rw [hv] at h00
            simpa [Addr.add] using World.cell?_spot h00
          subst hspot
          have hq : ∀ q, q < 8 → W.cell? ⟨b, off + j * 8 + q, none⟩ = (f j).1[q]? := fun q hq => by
            have := hc q hq
            rw [add_plain, add_plain] at this
            exact this
          refine ⟨b, off, rfl, ?_, l8, hq⟩
          have h0 := hq 0 (by omega)
          rw [List.getElem?_eq_getElem (by omega)] at h0
          exact World.block_lt_of_cell? W _ h0
        · rw [hlen] at hj
          simp only [List.getElem_map, List.getElem_range]
          exact (hf2 j hj).2
end Go.Proofs.YtmdpchiiamgnnaaGreatDoor
namespace Go.Proofs.YtmdpchiiamgnnaaGreatDoor
open Go.RowKit
set_option linter.unusedVariables false
namespace Td
def subs : Nd → List Nd | .mk _ _ _ _ _ _ _ s => s
def kind : Nd → Int | .mk k _ _ _ _ _ _ _ => k
def num : Nd → Int | .mk _ _ n _ _ _ _ _ => n
def name : Nd → ByteArray | .mk _ _ _ n _ _ _ _ => n
def set : Nd → List (Int × Int) | .mk _ s _ _ _ _ _ _ => s
def mn : Nd → Int | .mk _ _ _ _ m _ _ _ => m
def mx : Nd → Int | .mk _ _ _ _ _ m _ _ => m
def lazy : Nd → Bool | .mk _ _ _ _ _ _ l _ => l
/-- The depth, at most so much. -/
def dep : Nat → Nd → Nat
  | 0, _ => 0
  | k + 1, n => ((subs n).map (dep k)).foldl max 0 + 1
theorem foldl_max_succ (l : List Nat) (k : Nat) (hk : k < l.length) : (l.take (k + 1)).foldl max 0 = max ((l.take k).foldl max 0) l[k] := by
  rw [List.take_succ_eq_append_getElem hk, List.foldl_append]; rfl
theorem foldl_max_le : ∀ (l : List Nat) (a b : Nat), (∀ x ∈ l, x ≤ b) → a ≤ b → l.foldl max a ≤ b
  | [], a, b, _, h => h
  | x :: l, a, b, hl, h => by
    have := hl x (by simp)
    exact foldl_max_le l (max a x) b (fun y hy => hl y (List.mem_cons_of_mem _ hy)) (by omega)
theorem dep_le : ∀ (k : Nat) (n : Nd), dep k n ≤ k
  | 0, _ => Nat.le_refl _
  | k + 1, n => by
    have := foldl_max_le ((subs n).map (dep k)) 0 k (fun x hx => by
      obtain ⟨m, _, rfl⟩ := List.mem_map.1 hx
      exact dep_le k m) (by omega)
    rw [dep]; omega
/-- All nodes that are not too deep, with their depths. -/
def all : Nat → Nat → Nd → List (Nat × Nd)
  | 0, _, _ => []
  | k + 1, d, n => (d, n) :: (subs n).flatMap (all k (d + 1))
end Td
/-- A node's cells, laid open. -/
structure NdCells (W : World) (cs : List Value) (n : Nd) (vs : Value) (a : Option Addr) (cap : Nat) (C : Nat → List Value) : Prop where
  eq : cs = [.int .i64 (Td.kind n), vs, .int .i64 (Td.num n), .string (Td.name n), .int .i64 (Td.mn n), .int .i64 (Td.mx n), .bool (Td.lazy n), .slice a (Td.subs n).length cap]
  bd : I64 (Td.kind n) ∧ I64 (Td.num n) ∧ I64 (Td.mn n) ∧ I64 (Td.mx n)
  set : RRow W vs (Td.set n)
  name : (Td.name n).size ≤ 140737488351232
  len : (Td.subs n).length ≤ 8796093022208
  sub : ∀ j, j < (Td.subs n).length → ∃ b off m u0 u1 u2 u3 u4 u5 u6 u7, a = some ⟨b, off, none⟩ ∧ b < W.heap.size ∧ (Td.subs n)[j]? = some m ∧ NdIs W m [u0, u1, u2, u3, u4, u5, u6, u7] ∧
    W.cell? ⟨b, off + j * 8, none⟩ = some u0 ∧ W.cell? ⟨b, off + j * 8 + 1, none⟩ = some u1 ∧ W.cell? ⟨b, off + j * 8 + 2, none⟩ = some u2 ∧ W.cell? ⟨b, off + j * 8 + 3, none⟩ = some u3 ∧
    W.cell? ⟨b, off + j * 8 + 4, none⟩ = some u4 ∧ W.cell? ⟨b, off + j * 8 + 5, none⟩ = some u5 ∧ W.cell? ⟨b, off + j * 8 + 6, none⟩ = some u6 ∧ W.cell? ⟨b, off + j * 8 + 7, none⟩ = some u7
theorem NdIs.cells {W : World} {n : Nd} {cs : List Value} (h : NdIs W n cs) : ∃ vs a cap C, NdCells W cs n vs a cap C := by
  cases h with
  | mk C hk hset hname hlen hrow hsub =>
    refine ⟨_, _, _, C, rfl, hk, hset, hname, hlen, fun j hj => ?_⟩
    obtain ⟨b, off, ha, hb, hl, hc⟩ := hrow j hj
    have hs := hsub j hj
    match hC : C j, hl with
    | [u0, u1, u2, u3, u4, u5, u6, u7], _ =>
      rw [hC] at hs hc
      exact ⟨b, off, _, u0, u1, u2, u3, u4, u5, u6, u7, ha, hb, List.getElem?_eq_getElem hj, hs, hc 0 (by omega), hc 1 (by omega), hc 2 (by omega), hc 3 (by omega), hc 4 (by omega), hc 5 (by omega), hc 6 (by omega), hc 7 (by omega)⟩
end Go.Proofs.YtmdpchiiamgnnaaGreatDoor
namespace Go.Proofs.YtmdpchiiamgnnaaGreatDoor
open Go.RowKit
set_option linter.unusedVariables false
namespace Td
/-- May a byte stand in a name? -/
def letC (c : Int) : Bool := decide (65 ≤ c ∧ c ≤ 90 ∨ 97 ≤ c ∧ c ≤ 122 ∨ 48 ≤ c ∧ c ≤ 57 ∨ c = 95)
def bytes (s : ByteArray) : List Int := s.data.toList.map (fun b => (b.toNat : Int))
theorem bytes_len (s : ByteArray) : (bytes s).length = s.size := by simp [bytes]
theorem bytes_at (s : ByteArray) (k : Nat) (h : k < s.size) : (bytes s)[k]? = some (s[k].toNat : Int) := by
  have h' : k < s.data.size := h
  simp only [bytes, List.getElem?_map, Array.getElem?_toList]
  rw [Array.getElem?_eq_getElem h']
  rfl
/-- Is it a name? -/
def nameB (s : ByteArray) : Bool := (bytes s).all letC && decide (1 ≤ s.size ∧ s.size ≤ 32 ∧ ((bytes s).getD 0 0 < 48 ∨ 57 < (bytes s).getD 0 0))
end Td






































































































































































































end Go.Proofs.YtmdpchiiamgnnaaGreatDoor
namespace Go.Proofs.YtmdpchiiamgnnaaGreatDoor.Lx
set_option linter.unusedVariables false
/-- A token, without its place. -/
structure Tk where
  kind : Int := 0
  num : Int := 0
  name : ByteArray := ⟨#[]⟩
  mn : Int := 0
  mx : Int := 0
  lazy : Bool := false
  cls : Br.Cls := none
inductive TR where
  | bad (n code : Int)
  | ok (t : Tk) (n : Nat)
def runeT (r : Int) : Tk := { kind := 1, num := r }
def charX (l : List Int) : TR := if (Utf.dec l).1 < 0 then .bad 0 3 else .ok (runeT (Utf.dec l).1) (Utf.dec l).2.toNat
/-- The escapes that are no class and no number. -/
def shortX (c : Int) : Option Tk :=
  if c = 65 then some { kind := 5, num := 1 } else if c = 122 then some { kind := 5, num := 2 } else if c = 98 then some { kind := 5, num := 5 } else
  if c = 66 then some { kind := 5, num := 6 } else if c = 67 then some { kind := 4 } else none
def numX (l : List Int) : TR := if (Br.num l).2.2 = 0 then .ok (runeT (Br.num l).1) (Br.num l).2.1.toNat else .bad 0 (Br.num l).2.2
def setX (s : ByteArray) : TR :=
  if (Br.set s).2.2 = 0 then .ok { kind := 2, cls := (Br.set s).1 } (Br.set s).2.1.toNat else
  if (Br.set s).2.2 = 5 then numX (Utf.nums s) else .bad 0 (Br.set s).2.2
def escX (s : ByteArray) : TR :=
  match shortX ((Utf.nums s)[1]?.getD 0) with
  | some t => .ok t 2
  | none => setX s
def brackX (s : ByteArray) : TR :=
  match Br.brack s with
  | .bad o c => .bad o c
  | .ok _ e => .ok { kind := 13, name := s.extract 0 (e + 1) } (e + 1)
def decB (c : Int) : Bool := decide (48 ≤ c) && decide (c ≤ 57)
def dval (l : List Int) : Int := l.foldl (fun a c => a * 10 + (c - 48)) 0
/-- A number of one to four digits. -/
def cntX (l : List Int) : Option Int := if 1 ≤ l.length ∧ l.length ≤ 4 ∧ l.all decB = true then some (dval l) else none
/-- The numbers between the braces, and the whole length. -/
def bodyX (b : List Int) : Option (Int × Int) :=
  match cntX (b.take (Br.upTo 44 b)) with
  | none => none
  | some lo =>
    if Br.upTo 44 b = b.length then some (lo, lo) else
    if Br.upTo 44 b + 1 = b.length then some (lo, -1) else
    match cntX (b.drop (Br.upTo 44 b + 1)) with
    | none => none
    | some hi => some (lo, hi)
def countsX (l : List Int) : Int × Int × Nat :=
  if Br.upTo 125 (l.drop 1) = (l.drop 1).length then (0, 0, 0) else
  match bodyX ((l.drop 1).take (Br.upTo 125 (l.drop 1))) with
  | none => (0, 0, 0)
  | some (lo, hi) => (lo, hi, Br.upTo 125 (l.drop 1) + 2)
def boundsX (l : List Int) : Int × Int × Nat :=
  if l[0]?.getD 0 = 63 then (0, 1, 1) else if l[0]?.getD 0 = 43 then (1, -1, 1) else if l[0]?.getD 0 = 42 then (0, -1, 1) else countsX l
def repOf (lo hi : Int) (n : Nat) (l : List Int) : TR :=
  if 1000 < lo ∨ 1000 < hi ∨ (hi ≠ -1 ∧ hi < lo) then .bad 0 81 else
  if l[n]?.getD 0 = 63 then .ok { kind := 8, mn := lo, mx := hi, lazy := true } (n + 1) else .ok { kind := 8, mn := lo, mx := hi } n
def repX (l : List Int) : TR := repOf (boundsX l).1 (boundsX l).2.1 (boundsX l).2.2 l
/-- One flag's letter. -/
def flagB (c : Int) : Int := if c = 105 then 1 else if c = 109 then 2 else if c = 115 then 4 else if c = 85 then 8 else 0
def flagsOfX : List Int → Int → Option Int
  | [], a => some a
  | c :: l, a => if flagB c = 0 then none else flagsOfX l (bits .or .i64 a (flagB c))
def flagsX (l : List Int) : Option (Int × Int) :=
  match flagsOfX (l.take (Br.upTo 45 l)) 0, flagsOfX (l.drop (Br.upTo 45 l + 1)) 0 with
  | some a, some c => if l = [] ∨ Br.upTo 45 l + 1 = l.length then none else some (bits .andNot .i64 a c, c)
  | _, _ => none
/-- Where the first colon or closing bracket stands (all, where there is none). -/
def upToC : List Int → Nat
  | [] => 0
  | c :: l => if c = 58 ∨ c = 41 then 0 else upToC l + 1
/-- What stands ahead of a name, if one is begun. -/
def nameAt (l : List Int) : Nat :=
  if l.take 4 = [40, 63, 80, 60] then 4 else if l.take 3 = [40, 63, 60] then 3 else 0
def nameX (s : ByteArray) : Option (ByteArray × Nat) :=
  let l := Utf.nums s
  let p := nameAt l
  if p = 0 then none else
  if Br.upTo 62 (l.drop p) = (l.drop p).length then none else
  if Td.nameB (s.extract p (p + Br.upTo 62 (l.drop p))) = true then some (s.extract p (p + Br.upTo 62 (l.drop p)), p + Br.upTo 62 (l.drop p) + 1) else none
def flagX (l : List Int) : TR :=
  if upToC l = l.length then .bad 0 90 else
  if upToC l = 2 ∧ l[2]?.getD 0 = 58 then .ok { kind := 9 } 3 else
  match flagsX ((l.drop 2).take (upToC l - 2)) with
  | none => .bad 0 90
  | some (a, c) => if l[upToC l]?.getD 0 = 58 then .ok { kind := 9, mn := a, mx := c } (upToC l + 1) else .ok { kind := 10, mn := a, mx := c } (upToC l + 1)
def openX (s : ByteArray) : TR :=
  if ¬ (Utf.nums s)[1]?.getD 0 = 63 then .ok { kind := 9, num := 1 } 1 else
  match nameX s with
  | some (nm, n) => .ok { kind := 9, num := 1, name := nm } n
  | none => flagX (Utf.nums s)
/-- The token at the front of a text, outside of quotations. -/
def tokX (s : ByteArray) : TR :=
  let c := (Utf.nums s)[0]?.getD 0
  if c = 46 then .ok { kind := 3 } 1 else if c = 94 then .ok { kind := 6 } 1 else if c = 36 then .ok { kind := 7 } 1 else
  if c = 41 then .ok { kind := 11 } 1 else if c = 124 then .ok { kind := 12 } 1 else
  if c = 92 then escX s else if c = 91 then brackX s else if c = 40 then openX s else
  if c = 123 then (if (countsX (Utf.nums s)).2.2 = 0 then charX (Utf.nums s) else repX (Utf.nums s)) else
  if c = 42 ∨ c = 43 ∨ c = 63 then repX (Utf.nums s) else charX (Utf.nums s)
inductive LR where
  | bad (at_ code : Int)
  | ok (l : List (Int × Tk))
/-- Does a quotation begin, or end, here? -/
def turnB (q : Bool) (l : List Int) : Bool := decide (l[0]?.getD 0 = 92) && decide (l[1]?.getD 0 = if q then 69 else 81)
/-- All tokens of a text from a place on. -/
def lexF (s : ByteArray) : Nat → Nat → Bool → List (Int × Tk) → LR
  | 0, _, _, _ => .bad 0 0
  | f + 1, at_, q, T =>
    if s.size ≤ at_ then .ok T else
    if turnB q ((Utf.nums s).drop at_) = true then lexF s f (at_ + 2) (!q) T else
    match (if q then charX ((Utf.nums s).drop at_) else tokX (s.extract at_ s.size)) with
    | .bad n c => .bad (at_ + n) c
    | .ok t n => lexF s f (at_ + n) q (T ++ [((at_ : Int), t)])
end Go.Proofs.YtmdpchiiamgnnaaGreatDoor.Lx
