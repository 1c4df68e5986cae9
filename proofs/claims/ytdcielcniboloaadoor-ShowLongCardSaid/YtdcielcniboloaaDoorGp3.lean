/- A node that reads in certain blocks alone: whatever else turns, it stands. · The plain mathematics of UTF-8 as lists of numbers: width, encoding, decoding, and that they are inverse; no program. · The landed show: the printer's state; write. -/
import Derived.Test.YtdcielcniboloaaDoorGp2
import Derived.Lib.AppendStr
import Derived.Recover
import Derived.Defers
namespace Go.Proofs.YtdcielcniboloaaDoor
open Go.RowKit
set_option linter.unusedVariables false
theorem cell_of_blk {W W' : World} {b : Nat} (h : W'.heap[b]? = W.heap[b]?) (o : Nat) : W'.cell? ⟨b, o, none⟩ = W.cell? ⟨b, o, none⟩ := by simp [World.cell?, h]
/-- A list of ranges that lies in one of certain blocks. -/
def RRowOn (S : Nat → Prop) (W : World) (v : Value) (l : List (Int × Int)) : Prop := RRow W v l ∧ ∀ g off len cap, v = .slice (some ⟨g, off, none⟩) len cap → 0 < len → S g
theorem RRowOn.kept {S : Nat → Prop} {W W' : World} {v : Value} {l : List (Int × Int)} (h : RRowOn S W v l) (hs : W.heap.size ≤ W'.heap.size) (hk : ∀ b, S b → b < W.heap.size → W'.heap[b]? = W.heap[b]?) : RRowOn S W' v l := by
  obtain ⟨⟨a, cap, hv, h1, h2, h3⟩, h4⟩ := h
  refine ⟨⟨a, cap, hv, h1, h2, fun j hj => ?_⟩, h4⟩
  obtain ⟨b, off, ha, hb, c1, c2⟩ := h3 j hj
  have hS : S b := h4 b off l.length cap (by rw [hv, ha]) (by omega)
  have hh := hk b hS hb
  exact ⟨b, off, ha, Nat.lt_of_lt_of_le hb hs, (cell_of_blk hh _).trans c1, (cell_of_blk hh _).trans c2⟩
theorem RRowOn.mono {S S' : Nat → Prop} {W : World} {v : Value} {l : List (Int × Int)} (h : RRowOn S W v l) (hS : ∀ b, S b → S' b) : RRowOn S' W v l := ⟨h.1, fun g off len cap e hl => hS g (h.2 g off len cap e hl)⟩
theorem RRowOn.nil {S : Nat → Prop} {W : World} : RRowOn S W (.slice none 0 0) [] := ⟨RRow.nil W, fun g off len cap e _ => by cases e⟩
inductive NdOn (S : Nat → Prop) (W : World) : Nd → List Value → Prop where
  | mk {k num mn mx : Int} {set : List (Int × Int)} {name : ByteArray} {lz : Bool} {subs : List Nd} {vs : Value} {a : Option Addr} {cap : Nat} (cs : Nat → List Value)
      (hk : I64 k ∧ I64 num ∧ I64 mn ∧ I64 mx) (hset : RRowOn S W vs set) (hname : name.size ≤ 140737488351232) (hlen : subs.length ≤ 8796093022208)
      (hrow : ∀ j, j < subs.length → ∃ b off, a = some ⟨b, off, none⟩ ∧ S b ∧ b < W.heap.size ∧ (cs j).length = 8 ∧ ∀ i, i < 8 → W.cell? ⟨b, off + j * 8 + i, none⟩ = (cs j)[i]?)
      (hsub : ∀ j (h : j < subs.length), NdOn S W subs[j] (cs j)) :
      NdOn S W (.mk k set num name mn mx lz subs) [.int .i64 k, vs, .int .i64 num, .string name, .int .i64 mn, .int .i64 mx, .bool lz, .slice a subs.length cap]
theorem NdOn.is {S : Nat → Prop} {W : World} : ∀ {n : Nd} {cs : List Value}, NdOn S W n cs → NdIs W n cs := by
  intro n cs h
  induction h with
  | mk cs hk hset hname hlen hrow hsub ih =>
    exact .mk cs hk hset.1 hname hlen (fun j hj => by
      obtain ⟨b, off, ha, _, hb, hl, hc⟩ := hrow j hj
      exact ⟨b, off, ha, hb, hl, hc⟩) ih
theorem NdOn.kept {S : Nat → Prop} {W W' : World} (hs : W.heap.size ≤ W'.heap.size) (hk : ∀ b, S b → b < W.heap.size → W'.heap[b]? = W.heap[b]?) : ∀ {n : Nd} {cs : List Value}, NdOn S W n cs → NdOn S W' n cs := by
  intro n cs h
  induction h with
  | mk cs hkk hset hname hlen hrow hsub ih =>
    refine .mk cs hkk (hset.kept hs hk) hname hlen (fun j hj => ?_) ih
    obtain ⟨b, off, ha, hS, hb, hl, hc⟩ := hrow j hj
    exact ⟨b, off, ha, hS, Nat.lt_of_lt_of_le hb hs, hl, fun i hi => (cell_of_blk (hk b hS hb) _).trans (hc i hi)⟩
theorem NdOn.mono {S S' : Nat → Prop} {W : World} (hS : ∀ b, S b → S' b) : ∀ {n : Nd} {cs : List Value}, NdOn S W n cs → NdOn S' W n cs := by
  intro n cs h
  induction h with
  | mk cs hkk hset hname hlen hrow hsub ih =>
    refine .mk cs hkk (hset.mono hS) hname hlen (fun j hj => ?_) ih
    obtain ⟨b, off, ha, h1, hb, hl, hc⟩ := hrow j hj
    exact ⟨b, off, ha, hS b h1, hb, hl, hc⟩
theorem RRowOn.of {W : World} {v : Value} {l : List (Int × Int)} (h : RRow W v l) : RRowOn (· < W.heap.size) W v l := ⟨h, fun g off len cap e hl => by
  obtain ⟨a, c, hv, _, _, h3⟩ := h
  rw [hv] at e
  injection e with e1 e2 e3
  obtain ⟨b, off', ha, hb, _⟩ := h3 0 (by omega)
  rw [ha] at e1; injection e1 with e1; injection e1 with e1 _ _
  rw [← e1]; exact hb⟩
theorem NdOn.of {W : World} : ∀ {n : Nd} {cs : List Value}, NdIs W n cs → NdOn (· < W.heap.size) W n cs := by
  intro n cs h
  induction h with
  | mk cs hkk hset hname hlen hrow hsub ih =>
    refine .mk cs hkk (.of hset) hname hlen (fun j hj => ?_) ih
    obtain ⟨b, off, ha, hb, hl, hc⟩ := hrow j hj
    exact ⟨b, off, ha, hb, hb, hl, hc⟩
/-- The cells of nodes, one behind another, each in certain blocks. -/
def NdsOn (S : Nat → Prop) (W : World) (L : List Nd) (X : List (List Value)) : Prop := X.length = L.length ∧ ∀ j (h : j < L.length), ∃ x, X[j]? = some x ∧ NdOn S W L[j] x
theorem NdsOn.is {S : Nat → Prop} {W : World} {L : List Nd} {X : List (List Value)} (h : NdsOn S W L X) : NdsIs W L X := ⟨h.1, fun j hj => by
  obtain ⟨x, hx, hn⟩ := h.2 j hj
  exact ⟨x, hx, hn.is⟩⟩
theorem NdsOn.nil (S : Nat → Prop) (W : World) : NdsOn S W [] [] := ⟨rfl, fun j h => absurd h (by simp)⟩
theorem NdsOn.kept {S : Nat → Prop} {W W' : World} (hs : W.heap.size ≤ W'.heap.size) (hk : ∀ b, S b → b < W.heap.size → W'.heap[b]? = W.heap[b]?) {L : List Nd} {X : List (List Value)} (h : NdsOn S W L X) : NdsOn S W' L X := ⟨h.1, fun j hj => by
  obtain ⟨x, hx, hn⟩ := h.2 j hj
  exact ⟨x, hx, hn.kept hs hk⟩⟩
theorem NdsOn.mono {S S' : Nat → Prop} {W : World} (hS : ∀ b, S b → S' b) {L : List Nd} {X : List (List Value)} (h : NdsOn S W L X) : NdsOn S' W L X := ⟨h.1, fun j hj => by
  obtain ⟨x, hx, hn⟩ := h.2 j hj
  exact ⟨x, hx, hn.mono hS⟩⟩
theorem NdsOn.snoc {S : Nat → Prop} {W : World} {L : List Nd} {X : List (List Value)} (h : NdsOn S W L X) {n : Nd} {cs : List Value} (hn : NdOn S W n cs) : NdsOn S W (L ++ [n]) (X ++ [cs]) := by
  refine ⟨by simp [h.1], fun j hj => ?_⟩
  by_cases hlt : j < L.length
  · obtain ⟨x, hx, hx2⟩ := h.2 j hlt
    refine ⟨x, ?_, by rw [List.getElem_append_left hlt]; exact hx2⟩
    rw [List.getElem?_append_left (by rw [h.1]; exact hlt)]; exact hx
  · have e : j = L.length := by rw [List.length_append] at hj; simp at hj; omega
    subst e
    refine ⟨cs, ?_, ?_⟩
    · rw [List.getElem?_append_right (by rw [h.1]; exact Nat.le_refl _), h.1]; simp
    · rw [List.getElem_append_right (Nat.le_refl _)]; simpa using hn
/-- A node whose parts are a row that begins a block. -/
theorem NdOn.row {S : Nat → Prop} {W : World} {L : List Nd} {X : List (List Value)} (h : NdsOn S W L X) {g : Nat} (hS : S g) {cur : Array Value} {t : TypeId} {fr : Nat × Nat} (hg : W.heap[g]? = some (.cells cur t fr)) (hcur : ∀ j, j < X.flatten.length → cur[j]? = X.flatten[j]?)
    (hlen : L.length ≤ 8796093022208) {k num mn mx : Int} {set : List (Int × Int)} {name : ByteArray} {lz : Bool} {vs : Value} {cap : Nat} (hk : I64 k ∧ I64 num ∧ I64 mn ∧ I64 mx) (hset : RRowOn S W vs set) (hname : name.size ≤ 140737488351232) :
    NdOn S W (.mk k set num name mn mx lz L) [.int .i64 k, vs, .int .i64 num, .string name, .int .i64 mn, .int .i64 mx, .bool lz, .slice (some ⟨g, 0, none⟩) L.length cap] := by
  refine .mk (fun j => X.getD j []) hk hset hname hlen (fun j hj => ?_) (fun j hj => ?_)
  · obtain ⟨x, hx, hn⟩ := h.2 j hj
    have ex : X.getD j [] = x := by rw [List.getD, hx]; rfl
    refine ⟨g, 0, rfl, hS, (Array.getElem?_eq_some_iff.1 hg).1, by rw [ex]; exact hn.is.len, fun i hi => ?_⟩
    have hfl := flat8_at X h.is.len8 j i x hx hi
    have hxi : i < x.length := by rw [hn.is.len]; exact hi
    have hlt : j * 8 + i < X.flatten.length := by
      rw [List.getElem?_eq_getElem hxi] at hfl
      exact (List.getElem?_eq_some_iff.1 hfl).1
    rw [ex, ← hfl, ← hcur _ hlt, Nat.zero_add]
    simp [World.cell?, hg]
  · obtain ⟨x, hx, hn⟩ := h.2 j hj
    have ex : X.getD j [] = x := by rw [List.getD, hx]; rfl
    rw [ex]; exact hn
end Go.Proofs.YtdcielcniboloaaDoor
namespace Go.Proofs.YtdcielcniboloaaDoor.Utf

def width (r : Int) : Int :=
  if r < 0 ∨ 1114111 < r ∨ (55296 ≤ r ∧ r ≤ 57343) then 0 else if r ≤ 127 then 1 else if r ≤ 2047 then 2 else if r ≤ 65535 then 3 else 4
def encN (r : Int) : List Int :=
  if width r = 0 then [] else if width r = 1 then [r] else if width r = 2 then [192 + r / 64, 128 + r % 64]
  else if width r = 3 then [224 + r / 4096, 128 + r / 64 % 64, 128 + r % 64]
  else [240 + r / 262144, 128 + r / 4096 % 64, 128 + r / 64 % 64, 128 + r % 64]
def ann (a : Int) : Int := if a < 128 then 1 else if a < 192 then 0 else if a < 224 then 2 else if a < 240 then 3 else if a < 248 then 4 else 0
def mark (n : Int) : Int := if n = 2 then 192 else if n = 3 then 224 else if n = 4 then 240 else 0
def Cont (b : Int) : Prop := 128 ≤ b ∧ b < 192
instance (b : Int) : Decidable (Cont b) := by unfold Cont; infer_instance
/-- What the first k bytes say. -/
def acc (l : List Int) (m : Int) : Nat → Int
  | 0 => 0
  | 1 => l[0]?.getD 0 - m
  | k + 2 => acc l m (k + 1) * 64 + l[k + 1]?.getD 0 % 64
def conts (l : List Int) : Nat → Bool
  | 0 => true
  | 1 => true
  | k + 2 => conts l (k + 1) && decide (Cont (l[k + 1]?.getD 0))
def dec (l : List Int) : Int × Int :=
  if l = [] then (-1, 0)
  else if ann (l[0]?.getD 0) = 0 ∨ (l.length : Int) < ann (l[0]?.getD 0) then (-1, 1)
  else if conts l (ann (l[0]?.getD 0)).toNat = true ∧ width (acc l (mark (ann (l[0]?.getD 0))) (ann (l[0]?.getD 0)).toNat) = ann (l[0]?.getD 0)
    then (acc l (mark (ann (l[0]?.getD 0))) (ann (l[0]?.getD 0)).toNat, ann (l[0]?.getD 0))
  else (-1, 1)
def Bytes (l : List Int) : Prop := ∀ x ∈ l, 0 ≤ x ∧ x < 256

def nums (s : ByteArray) : List Int := s.data.toList.map fun b => (b.toNat : Int)
theorem nums_length (s : ByteArray) : (nums s).length = s.size := by
  unfold nums; rw [List.length_map]; exact Array.length_toList
theorem nums_bytes (s : ByteArray) : Bytes (nums s) := by
  intro x hx
  simp [nums] at hx
  obtain ⟨b, _, rfl⟩ := hx
  have := b.toNat_lt
  omega
/-! ### Pieces -/
def step (l : List Int) : Nat := (dec l).2.toNat
def pc (l : List Int) : Nat → Nat → List (Int × Int)
  | 0, _ => []
  | f + 1, at_ => if at_ < l.length then ((at_ : Int), (dec (l.drop at_)).1) :: pc l f (at_ + step (l.drop at_)) else []
def rest (l : List Int) (at_ : Nat) : List (Int × Int) := pc l (l.length - at_) at_
end Go.Proofs.YtdcielcniboloaaDoor.Utf
namespace Go.Proofs.YtdcielcniboloaaDoor
open Go.RowKit
set_option linter.unusedVariables false
theorem Tryd.infoByte : (Tryd.prog.info? 5).map (fun i => (i.zero, i.size, i.bytes)) = some (some (.int .u8 0), 1, 1) := by kernel_rfl
theorem Tryd.underBytes : Tryd.prog.underlying 37 = some (.slice 5) := by kernel_rfl
theorem Tryd.underTextS : Tryd.prog.underlying 9 = some .string := by kernel_rfl
theorem strCells_nums (s : ByteArray) : Lib.strCells s = (Utf.nums s).map (Value.int .u8) := by
  unfold Lib.strCells Utf.nums
  rw [List.map_map]
  rfl
/-- The printer: its box, and what is printed. -/
def PrOk (W : World) (B : Nat) (O : List Int) : Prop := ∃ v, W.heap[B]? = some (.cells #[v] 39 (0, 0)) ∧ W.ownsRow (B + 1) 5 1 v O.length (O.map (Value.int .u8))
/-- A block that is no row of bytes and no printer. -/
def NoP (o : Option Obj) : Prop := (∀ c f, o ≠ some (.cells c 5 f)) ∧ ∀ c f, o ≠ some (.cells c 39 f)
/-- What a call of the printer leaves alone. -/
structure Kp (W : World) (B : Nat) (W' : World) : Prop where
  os : W'.os = W.os
  tape : W'.tape = W.tape
  output : W'.output = W.output
  size : W.heap.size ≤ W'.heap.size
  block : ∀ k, k < W.heap.size → (k < B ∨ NoP W.heap[k]?) → W'.heap[k]? = W.heap[k]?
theorem Kp.refl (W : World) (B : Nat) : Kp W B W := ⟨rfl, rfl, rfl, Nat.le_refl _, fun _ _ _ => rfl⟩
theorem Kp.trans {W W' W'' : World} {B : Nat} (h : Kp W B W') (k : Kp W' B W'') : Kp W B W'' :=
  ⟨k.os.trans h.os, k.tape.trans h.tape, k.output.trans h.output, Nat.le_trans h.size k.size, fun b hb hn => by
    have e := h.block b hb hn
    exact (k.block b (Nat.lt_of_lt_of_le hb h.size) (by rw [e]; exact hn)).trans e⟩
theorem Kp.below {W W' : World} {B : Nat} (k : Kp W B W') (hB : B ≤ W.heap.size) : Below B W W' := ⟨k.os, k.tape, k.output, k.size, fun b hb => k.block b (by omega) (.inl hb)⟩
theorem Kp.of_below {W W' : World} (B : Nat) (hb : Below W.heap.size W W') : Kp W B W' := ⟨hb.os, hb.tape, hb.output, hb.size, fun k hk _ => hb.block k hk⟩
theorem Kp.kept {W W' : World} {B k : Nat} (h : Kp W B W') {o : Obj} (ho : W.heap[k]? = some o) (hn : NoP (some o)) : W'.heap[k]? = some o :=
  (h.block k (Array.getElem?_eq_some_iff.1 ho).1 (.inr (by rw [ho]; exact hn))).trans ho
theorem noP_of {c : Array Value} {t : TypeId} {f : Nat × Nat} (h1 : t ≠ 5) (h2 : t ≠ 39) : NoP (some (.cells c t f)) :=
  ⟨fun c' f' e => by injection e with e; injection e with _ e _; exact h1 e, fun c' f' e => by injection e with e; injection e with _ e _; exact h2 e⟩
theorem PrOk.lt {W : World} {B : Nat} {O : List Int} (h : PrOk W B O) : B < W.heap.size := by
  obtain ⟨v, h1, _⟩ := h
  exact (Array.getElem?_eq_some_iff.1 h1).1
theorem PrOk.alloc {W : World} {B : Nat} {O : List Int} (h : PrOk W B O) (o : Obj) : PrOk (W.alloc o) B O := by
  have hlt := h.lt
  obtain ⟨v, h1, h2⟩ := h
  exact ⟨v, by rw [Below.heap_alloc W o B hlt]; exact h1, h2.alloc _⟩
/-- What Below leaves of the printer. -/
theorem PrOk.below {W W' : World} {B : Nat} {O : List Int} (h : PrOk W B O) (hb : Below W.heap.size W W') : PrOk W' B O := by
  have hlt := h.lt
  obtain ⟨v, h1, h2⟩ := h
  exact ⟨v, (hb.block _ hlt).trans h1, World.ownsRow.kept h2 ⟨hb.os, hb.tape, hb.output, hb.size, fun k hk _ => hb.block k hk⟩ (row := none) (by cases hv : v.ownBlock <;> simp)⟩
/-- The printer's box written anew behind an append. -/
theorem printer_put {W W1 : World} {B n : Nat} {O O1 : List Int} {v v1 : Value} (hbx : W.heap[B]? = some (.cells #[v] 39 (0, 0))) (hown : W.ownsRow (B + 1) 5 1 v n (O.map (Value.int .u8)))
    (hown1 : W1.ownsRow (B + 1) 5 1 v1 O1.length (O1.map (Value.int .u8))) (hg : W.grownBy W1 v.ownBlock) :
    W1.heap[B]? = some (.cells #[v] 39 (0, 0)) ∧ PrOk (W1.setCell ⟨B, 0, none⟩ v1) B O1 ∧ Kp W B (W1.setCell ⟨B, 0, none⟩ v1) := by
  have hlt := (Array.getElem?_eq_some_iff.1 hbx).1
  have hne : ∀ k, (k ≤ B ∨ NoP W.heap[k]?) → some k ≠ v.ownBlock := fun k hk => by
    rcases hown.2 with ⟨e, _⟩ | ⟨g, cap, cur, e, hge, hgc, _⟩
    · rw [e]; intro e2; cases e2
    · rw [e]; intro e2
      injection e2 with e2
      have e3 : k = g := e2
      subst e3
      rcases hk with hk | hk
      · omega
      · exact hk.1 cur _ hgc
  have hB1 : W1.heap[B]? = some (.cells #[v] 39 (0, 0)) := (hg.block B hlt (hne B (.inl (Nat.le_refl _)))).trans hbx
  have hB2 : (W1.setCell ⟨B, 0, none⟩ v1).heap[B]? = some (.cells #[v1] 39 (0, 0)) := by
    have h9 := heap_setCell_same W1 B 0 _ _ v1 hB1
    simpa using h9
  have hoth : ∀ b, b ≠ B → (W1.setCell ⟨B, 0, none⟩ v1).heap[b]? = W1.heap[b]? := fun b hb => heap_setCell_other W1 ⟨B, 0, none⟩ b v1 hb
  refine ⟨hB1, ⟨v1, hB2, hown1.1, ?_⟩, ⟨hg.os, hg.tape, hg.output, by simpa using hg.size, fun k hk hn => ?_⟩⟩
  · rcases hown1.2 with h | ⟨g, cap, cur, e, hge, hgc, h5⟩
    · exact .inl h
    · exact .inr ⟨g, cap, cur, e, hge, by rw [hoth g (by omega)]; exact hgc, h5⟩
  · by_cases hkB : k = B
    · subst hkB
      rcases hn with hn | hn
      · omega
      · exact absurd hbx (hn.2 _ _)
    · rw [hoth k hkB]
      exact hg.block k hk (hne k (by rcases hn with hn | hn; exact .inl (by omega); exact .inr hn))
theorem cell_box {W : World} {B : Nat} {v : Value} {t : TypeId} (h : W.heap[B]? = some (.cells #[v] t (0, 0))) : W.cell? ⟨B, 0, none⟩ = some v := by simp [World.cell?, h]
theorem frozen_box {W : World} {B : Nat} {v : Value} {t : TypeId} (h : W.heap[B]? = some (.cells #[v] t (0, 0))) : W.frozen? ⟨B, 0, none⟩ = false := by simp [World.frozen?, h]
/-- A call that prints X behind O. -/
def PrQ (W : World) (B : Nat) (O X : List Int) (e : Ending) (w' : World) : Prop :=
  Kp W B w' ∧ ((O.length + X.length ≤ 4096 ∧ e = .returned (.tuple #[]) ∧ PrOk w' B (O ++ X)) ∨
    (4096 < O.length + X.length ∧ ∃ O', 4096 < O'.length ∧ O'.length ≤ 10000000 ∧ e = .panicked [{ v := .iface 50 (.agg #[]), recovered := false }] ∧ PrOk w' B O'))
set_option maxRecDepth 100000 in
set_option maxHeartbeats 4000000 in
theorem tooLong_any (W : World) (B : Nat) (O : List Int) (h : PrOk W B O) (hl : O.length ≤ 10000000) : Calls Tryd.prog 50 #[.pointer (some ⟨B, 0, none⟩)] W fun e w' => e = .returned (.bool (decide (4096 < O.length))) ∧ W = w' := by
  obtain ⟨v, h1, h2⟩ := h
  have hv : ∃ a c, v = .slice a O.length c := by
    rcases h2.2 with ⟨e, e0⟩ | ⟨g, cap, cur, e, _⟩
    · exact ⟨none, 0, by rw [e, e0]⟩
    · exact ⟨_, _, e⟩
  obtain ⟨a, c, rfl⟩ := hv
  obtain ⟨n, hn⟩ : ∃ n, O.length = n := ⟨_, rfl⟩
  rw [hn] at h1 hl ⊢
  have q0 : W.cell? ⟨B, 0, none⟩ = some (.slice a n c) := by simp [World.cell?, h1]
  have hd : decide ((4096 : Int) < (n : Int)) = decide (4096 < n) := by
    by_cases h9 : 4096 < n
    · rw [decide_eq_true h9, decide_eq_true (by omega)]
    · rw [decide_eq_false h9, decide_eq_false (by omega)]
  clear h1 h2 hn
  go_enter Tryd.func50, Tryd.ntmps50
  go_wp2
  go_ret
  exact ⟨rfl, rfl⟩
end Go.Proofs.YtdcielcniboloaaDoor
