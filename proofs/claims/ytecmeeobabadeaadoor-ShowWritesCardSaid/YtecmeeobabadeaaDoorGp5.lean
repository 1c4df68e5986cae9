/- A node that reads in certain blocks alone: whatever else turns, it stands. · The landed show: the printer's state; write. · strconv.FormatInt at base 16. -/
import Derived.Test.YtecmeeobabadeaaDoorGp4
import Derived.Test.YtecmeeobabadeaaDoorGp2
import Derived.Lib.AppendStr
import Derived.Recover
import Derived.Defers
import Derived.Laws.IdiomStrings
import Derived.Laws.Bits64b
namespace Go.Proofs.YtecmeeobabadeaaDoor
open Go.RowKit
set_option linter.unusedVariables false
theorem cell_of_blk {W W' : World} {b : Nat} (h : W'.heap[b]? = W.heap[b]?) (o : Nat) : W'.cell? ⟨b, o, none⟩ = W.cell? ⟨b, o, none⟩ := by simp [World.cell?, h]
/-- A list of ranges that lies in one of certain blocks. -/
def RRowOn (S : Nat → Prop) (W : World) (v : Value) (l : List (Int × Int)) : Prop := RRow W v l ∧ ∀ g off len cap, v = .slice (some ⟨g, off, none⟩) len cap → 0 < len → S g
theorem RRowOn.kept {S : Nat → Prop} {W W' : World} {v : Value} {l : List (Int × Int)} (h : RRowOn S W v l) (hs : W.heap.size ≤ W'.heap.size) (hk : ∀ b, S b → b < W.heap.size → W'.heap[b]? = W.heap[b]?) : RRowOn S W' v l := by
  obtain ⟨⟨a, cap, hv, h1, h2, h3⟩, h4⟩ := h
  refine ⟨⟨a, cap, hv, h1, h2, fun j hj => ?_⟩, h4⟩
  obtain ⟨b, off, ha, hb, c1, c2⟩ := h3 j hj
  have hS : S b := h4 b off l.length cap (by rw [hv, ha]) (by omega)
  have hh := hk b hS hb
  exact ⟨b, off, ha, Nat.lt_of_lt_of_le hb hs, (cell_of_blk hh _).trans c1, (cell_of_blk hh _).trans c2⟩
theorem RRowOn.mono {S S' : Nat → Prop} {W : World} {v : Value} {l : List (Int × Int)} (h : RRowOn S W v l) (hS : ∀ b, S b → S' b) : RRowOn S' W v l := ⟨h.1, fun g off len cap e hl => hS g (h.2 g off len cap e hl)⟩
theorem RRowOn.nil {S : Nat → Prop} {W : World} : RRowOn S W (.slice none 0 0) [] := ⟨RRow.nil W, fun g off len cap e _ => by cases e⟩
inductive NdOn (S : Nat → Prop) (W : World) : Nd → List Value → Prop where
  | mk {k num mn mx : Int} {set : List (Int × Int)} {name : ByteArray} {lz : Bool} {subs : List Nd} {vs : Value} {a : Option Addr} {cap : Nat} (cs : Nat → List Value)
      (hk : I64 k ∧ I64 num ∧ I64 mn ∧ I64 mx) (hset : RRowOn S W vs set) (hname : name.size ≤ 140737488351232) (hlen : subs.length ≤ 8796093022208)
      (hrow : ∀ j, j < subs.length → ∃ b off, a = some ⟨b, off, none⟩ ∧ S b ∧ b < W.heap.size ∧ (cs j).length = 8 ∧ ∀ i, i < 8 → W.cell? ⟨b, off + j * 8 + i, none⟩ = (cs j)[i]?)
      (hsub : ∀ j (h : j < subs.length), NdOn S W subs[j] (cs j)) :
      NdOn S W (.mk k set num name mn mx lz subs) [.int .i64 k, vs, .int .i64 num, .string name, .int .i64 mn, .int .i64 mx, .bool lz, .slice a subs.length cap]
theorem NdOn.is {S : Nat → Prop} {W : World} : ∀ {n : Nd} {cs : List Value}, NdOn S W n cs → NdIs W n cs := by
  intro n cs h
  induction h with
  | mk cs hk hset hname hlen hrow hsub ih =>
    exact .mk cs hk hset.1 hname hlen (fun j hj => by
      obtain ⟨b, off, ha, _, hb, hl, hc⟩ := hrow j hj
      exact ⟨b, off, ha, hb, hl, hc⟩) ih
theorem NdOn.kept {S : Nat → Prop} {W W' : World} (hs : W.heap.size ≤ W'.heap.size) (hk : ∀ b, S b → b < W.heap.size → W'.heap[b]? = W.heap[b]?) : ∀ {n : Nd} {cs : List Value}, NdOn S W n cs → NdOn S W' n cs := by
  intro n cs h
  induction h with
  | mk cs hkk hset hname hlen hrow hsub ih =>
    refine .mk cs hkk (hset.kept hs hk) hname hlen (fun j hj => ?_) ih
    obtain ⟨b, off, ha, hS, hb, hl, hc⟩ := hrow j hj
    exact ⟨b, off, ha, hS, Nat.lt_of_lt_of_le hb hs, hl, fun i hi => (cell_of_blk (hk b hS hb) _).trans (hc i hi)⟩
theorem NdOn.mono {S S' : Nat → Prop} {W : World} (hS : ∀ b, S b → S' b) : ∀ {n : Nd} {cs : List Value}, NdOn S W n cs → NdOn S' W n cs := by
  intro n cs h
  induction h with
  | mk cs hkk hset hname hlen hrow hsub ih =>
    refine .mk cs hkk (hset.mono hS) hname hlen (fun j hj => ?_) ih
    obtain ⟨b, off, ha, h1, hb, hl, hc⟩ := hrow j hj
    exact ⟨b, off, ha, hS b h1, hb, hl, hc⟩
theorem RRowOn.of {W : World} {v : Value} {l : List (Int × Int)} (h : RRow W v l) : RRowOn (· < W.heap.size) W v l := ⟨h, fun g off len cap e hl => by
  obtain ⟨a, c, hv, _, _, h3⟩ := h
  rw [hv] at e
  injection e with e1 e2 e3
  obtain ⟨b, off', ha, hb, _⟩ := h3 0 (by omega)
  rw [ha] at e1; injection e1 with e1; injection e1 with e1 _ _
  rw [← e1]; exact hb⟩
theorem NdOn.of {W : World} : ∀ {n : Nd} {cs : List Value}, NdIs W n cs → NdOn (· < W.heap.size) W n cs := by
  intro n cs h
  induction h with
  | mk cs hkk hset hname hlen hrow hsub ih =>
    refine .mk cs hkk (.of hset) hname hlen (fun j hj => ?_) ih
    obtain ⟨b, off, ha, hb, hl, hc⟩ := hrow j hj
    exact ⟨b, off, ha, hb, hb, hl, hc⟩
/-- The cells of nodes, one behind another, each in certain blocks. -/
def NdsOn (S : Nat → Prop) (W : World) (L : List Nd) (X : List (List Value)) : Prop := X.length = L.length ∧ ∀ j (h : j < L.length), ∃ x, X[j]? = some x ∧ NdOn S W L[j] x
theorem NdsOn.is {S : Nat → Prop} {W : World} {L : List Nd} {X : List (List Value)} (h : NdsOn S W L X) : NdsIs W L X := ⟨h.1, fun j hj => by
  obtain ⟨x, hx, hn⟩ := h.2 j hj
  exact ⟨x, hx, hn.is⟩⟩
theorem NdsOn.nil (S : Nat → Prop) (W : World) : NdsOn S W [] [] := ⟨rfl, fun j h => absurd h (by simp)⟩
theorem NdsOn.kept {S : Nat → Prop} {W W' : World} (hs : W.heap.size ≤ W'.heap.size) (hk : ∀ b, S b → b < W.heap.size → W'.heap[b]? = W.heap[b]?) {L : List Nd} {X : List (List Value)} (h : NdsOn S W L X) : NdsOn S W' L X := ⟨h.1, fun j hj => by
  obtain ⟨x, hx, hn⟩ := h.2 j hj
  exact ⟨x, hx, hn.kept hs hk⟩⟩
theorem NdsOn.mono {S S' : Nat → Prop} {W : World} (hS : ∀ b, S b → S' b) {L : List Nd} {X : List (List Value)} (h : NdsOn S W L X) : NdsOn S' W L X := ⟨h.1, fun j hj => by
  obtain ⟨x, hx, hn⟩ := h.2 j hj
  exact ⟨x, hx, hn.mono hS⟩⟩
theorem NdsOn.snoc {S : Nat → Prop} {W : World} {L : List Nd} {X : List (List Value)} (h : NdsOn S W L X) {n : Nd} {cs : List Value} (hn : NdOn S W n cs) : NdsOn S W (L ++ [n]) (X ++ [cs]) := by
  refine ⟨by simp [h.1], fun j hj => ?_⟩
  by_cases hlt : j < L.length
  · obtain ⟨x, hx, hx2⟩ := h.2 j hlt
    refine ⟨x, ?_, by rw [List.getElem_append_left hlt]; exact hx2⟩
    rw [List.getElem?_append_left (by rw [h.1]; exact hlt)]; exact hx
  · have e : j = L.length := by rw [List.length_append] at hj; simp at hj; omega
    subst e
    refine ⟨cs, ?_, ?_⟩
    · rw [List.getElem?_append_right (by rw [h.1]; exact Nat.le_refl _), h.1]; simp
    · rw [List.getElem_append_right (Nat.le_refl _)]; simpa using hn
/-- A node whose parts are a row that begins a block. -/
theorem NdOn.row {S : Nat → Prop} {W : World} {L : List Nd} {X : List (List Value)} (h : NdsOn S W L X) {g : Nat} (hS : S g) {cur : Array Value} {t : TypeId} {fr : Nat × Nat} (hg : W.heap[g]? = some (.cells cur t fr)) (hcur : ∀ j, j < X.flatten.length → cur[j]? = X.flatten[j]?)
    (hlen : L.length ≤ 8796093022208) {k num mn mx : Int} {set : List (Int × Int)} {name : ByteArray} {lz : Bool} {vs : Value} {cap : Nat} (hk : I64 k ∧ I64 num ∧ I64 mn ∧ I64 mx) (hset : RRowOn S W vs set) (hname : name.size ≤ 140737488351232) :
    NdOn S W (.mk k set num name mn mx lz L) [.int .i64 k, vs, .int .i64 num, .string name, .int .i64 mn, .int .i64 mx, .bool lz, .slice (some ⟨g, 0, none⟩) L.length cap] := by
  refine .mk (fun j => X.getD j []) hk hset hname hlen (fun j hj => ?_) (fun j hj => ?_)
  · obtain ⟨x, hx, hn⟩ := h.2 j hj
    have ex : X.getD j [] = x := by rw [List.getD, hx]; rfl
    refine ⟨g, 0, rfl, hS, (Array.getElem?_eq_some_iff.1 hg).1, by rw [ex]; exact hn.is.len, fun i hi => ?_⟩
    have hfl := flat8_at X h.is.len8 j i x hx hi
    have hxi : i < x.length := by rw [hn.is.len]; exact hi
    have hlt : j * 8 + i < X.flatten.length := by
      rw [List.getElem?_eq_getElem hxi] at hfl
      exact (List.getElem?_eq_some_iff.1 hfl).1
    rw [ex, ← hfl, ← hcur _ hlt, Nat.zero_add]
    simp [World.cell?, hg]
  · obtain ⟨x, hx, hn⟩ := h.2 j hj
    have ex : X.getD j [] = x := by rw [List.getD, hx]; rfl
    rw [ex]; exact hn
end Go.Proofs.YtecmeeobabadeaaDoor
namespace Go.Proofs.YtecmeeobabadeaaDoor
open Go.RowKit
set_option linter.unusedVariables false
theorem Tryd.infoByte : (Tryd.prog.info? 5).map (fun i => (i.zero, i.size, i.bytes)) = some (some (.int .u8 0), 1, 1) := by kernel_rfl
theorem Tryd.underBytes : Tryd.prog.underlying 35 = some (.slice 5) := by kernel_rfl
theorem Tryd.underTextS : Tryd.prog.underlying 9 = some .string := by kernel_rfl
theorem strCells_nums (s : ByteArray) : Lib.strCells s = (Utf.nums s).map (Value.int .u8) := by
  unfold Lib.strCells Utf.nums
  rw [List.map_map]
  rfl
/-- The printer: its box, and what is printed. -/
def PrOk (W : World) (B : Nat) (O : List Int) : Prop := ∃ v, W.heap[B]? = some (.cells #[v] 37 (0, 0)) ∧ W.ownsRow (B + 1) 5 1 v O.length (O.map (Value.int .u8))
/-- A block that is no row of bytes and no printer. -/
def NoP (o : Option Obj) : Prop := (∀ c f, o ≠ some (.cells c 5 f)) ∧ ∀ c f, o ≠ some (.cells c 37 f)
/-- What a call of the printer leaves alone. -/
structure Kp (W : World) (B : Nat) (W' : World) : Prop where
  os : W'.os = W.os
  tape : W'.tape = W.tape
  output : W'.output = W.output
  size : W.heap.size ≤ W'.heap.size
  block : ∀ k, k < W.heap.size → (k < B ∨ NoP W.heap[k]?) → W'.heap[k]? = W.heap[k]?
theorem Kp.refl (W : World) (B : Nat) : Kp W B W := ⟨rfl, rfl, rfl, Nat.le_refl _, fun _ _ _ => rfl⟩
theorem Kp.trans {W W' W'' : World} {B : Nat} (h : Kp W B W') (k : Kp W' B W'') : Kp W B W'' :=
  ⟨k.os.trans h.os, k.tape.trans h.tape, k.output.trans h.output, Nat.le_trans h.size k.size, fun b hb hn => by
    have e := h.block b hb hn
    exact (k.block b (Nat.lt_of_lt_of_le hb h.size) (by rw [e]; exact hn)).trans e⟩
theorem Kp.below {W W' : World} {B : Nat} (k : Kp W B W') (hB : B ≤ W.heap.size) : Below B W W' := ⟨k.os, k.tape, k.output, k.size, fun b hb => k.block b (by omega) (.inl hb)⟩
theorem Kp.of_below {W W' : World} (B : Nat) (hb : Below W.heap.size W W') : Kp W B W' := ⟨hb.os, hb.tape, hb.output, hb.size, fun k hk _ => hb.block k hk⟩
theorem Kp.kept {W W' : World} {B k : Nat} (h : Kp W B W') {o : Obj} (ho : W.heap[k]? = some o) (hn : NoP (some o)) : W'.heap[k]? = some o :=
  (h.block k (Array.getElem?_eq_some_iff.1 ho).1 (.inr (by rw [ho]; exact hn))).trans ho
theorem noP_of {c : Array Value} {t : TypeId} {f : Nat × Nat} (h1 : t ≠ 5) (h2 : t ≠ 37) : NoP (some (.cells c t f)) :=
  ⟨fun c' f' e => by injection e with e; injection e with _ e _; exact h1 e, fun c' f' e => by injection e with e; injection e with _ e _; exact h2 e⟩
theorem PrOk.lt {W : World} {B : Nat} {O : List Int} (h : PrOk W B O) : B < W.heap.size := by
  obtain ⟨v, h1, _⟩ := h
  exact (Array.getElem?_eq_some_iff.1 h1).1
theorem PrOk.alloc {W : World} {B : Nat} {O : List Int} (h : PrOk W B O) (o : Obj) : PrOk (W.alloc o) B O := by
  have hlt := h.lt
  obtain ⟨v, h1, h2⟩ := h
  exact ⟨v, by rw [Below.heap_alloc W o B hlt]; exact h1, h2.alloc _⟩
/-- What Below leaves of the printer. -/
theorem PrOk.below {W W' : World} {B : Nat} {O : List Int} (h : PrOk W B O) (hb : Below W.heap.size W W') : PrOk W' B O := by
  have hlt := h.lt
  obtain ⟨v, h1, h2⟩ := h
  exact ⟨v, (hb.block _ hlt).trans h1, World.ownsRow.kept h2 ⟨hb.os, hb.tape, hb.output, hb.size, fun k hk _ => hb.block k hk⟩ (row := none) (by cases hv : v.ownBlock <;> simp)⟩
/-- The printer's box written anew behind an append. -/
theorem printer_put {W W1 : World} {B n : Nat} {O O1 : List Int} {v v1 : Value} (hbx : W.heap[B]? = some (.cells #[v] 37 (0, 0))) (hown : W.ownsRow (B + 1) 5 1 v n (O.map (Value.int .u8)))
    (hown1 : W1.ownsRow (B + 1) 5 1 v1 O1.length (O1.map (Value.int .u8))) (hg : W.grownBy W1 v.ownBlock) :
    W1.heap[B]? = some (.cells #[v] 37 (0, 0)) ∧ PrOk (W1.setCell ⟨B, 0, none⟩ v1) B O1 ∧ Kp W B (W1.setCell ⟨B, 0, none⟩ v1) := by
  have hlt := (Array.getElem?_eq_some_iff.1 hbx).1
  have hne : ∀ k, (k ≤ B ∨ NoP W.heap[k]?) → some k ≠ v.ownBlock := fun k hk => by
    rcases hown.2 with ⟨e, _⟩ | ⟨g, cap, cur, e, hge, hgc, _⟩
    · rw [e]; intro e2; cases e2
    · rw [e]; intro e2
      injection e2 with e2
      have e3 : k = g := e2
      subst e3
      rcases hk with hk | hk
      · omega
      · exact hk.1 cur _ hgc
  have hB1 : W1.heap[B]? = some (.cells #[v] 37 (0, 0)) := (hg.block B hlt (hne B (.inl (Nat.le_refl _)))).trans hbx
  have hB2 : (W1.setCell ⟨B, 0, none⟩ v1).heap[B]? = some (.cells #[v1] 37 (0, 0)) := by
    have h9 := heap_setCell_same W1 B 0 _ _ v1 hB1
    simpa using h9
  have hoth : ∀ b, b ≠ B → (W1.setCell ⟨B, 0, none⟩ v1).heap[b]? = W1.heap[b]? := fun b hb => heap_setCell_other W1 ⟨B, 0, none⟩ b v1 hb
  refine ⟨hB1, ⟨v1, hB2, hown1.1, ?_⟩, ⟨hg.os, hg.tape, hg.output, by simpa using hg.size, fun k hk hn => ?_⟩⟩
  · rcases hown1.2 with h | ⟨g, cap, cur, e, hge, hgc, h5⟩
    · exact .inl h
    · exact .inr ⟨g, cap, cur, e, hge, by rw [hoth g (by omega)]; exact hgc, h5⟩
  · by_cases hkB : k = B
    · subst hkB
      rcases hn with hn | hn
      · omega
      · exact absurd hbx (hn.2 _ _)
    · rw [hoth k hkB]
      exact hg.block k hk (hne k (by rcases hn with hn | hn; exact .inl (by omega); exact .inr hn))
theorem cell_box {W : World} {B : Nat} {v : Value} {t : TypeId} (h : W.heap[B]? = some (.cells #[v] t (0, 0))) : W.cell? ⟨B, 0, none⟩ = some v := by simp [World.cell?, h]
theorem frozen_box {W : World} {B : Nat} {v : Value} {t : TypeId} (h : W.heap[B]? = some (.cells #[v] t (0, 0))) : W.frozen? ⟨B, 0, none⟩ = false := by simp [World.frozen?, h]
/-- A call that prints X behind O. -/
def PrQ (W : World) (B : Nat) (O X : List Int) (e : Ending) (w' : World) : Prop :=
  Kp W B w' ∧ ((O.length + X.length ≤ 4096 ∧ e = .returned (.tuple #[]) ∧ PrOk w' B (O ++ X)) ∨
    (4096 < O.length + X.length ∧ ∃ O', 4096 < O'.length ∧ O'.length ≤ 10000000 ∧ e = .panicked [{ v := .iface 48 (.agg #[]), recovered := false }] ∧ PrOk w' B O'))
set_option maxRecDepth 100000 in
set_option maxHeartbeats 4000000 in
theorem tooLong_any (W : World) (B : Nat) (O : List Int) (h : PrOk W B O) (hl : O.length ≤ 10000000) : Calls Tryd.prog 48 #[.pointer (some ⟨B, 0, none⟩)] W fun e w' => e = .returned (.bool (decide (4096 < O.length))) ∧ W = w' := by
  obtain ⟨v, h1, h2⟩ := h
  have hv : ∃ a c, v = .slice a O.length c := by
    rcases h2.2 with ⟨e, e0⟩ | ⟨g, cap, cur, e, _⟩
    · exact ⟨none, 0, by rw [e, e0]⟩
    · exact ⟨_, _, e⟩
  obtain ⟨a, c, rfl⟩ := hv
  obtain ⟨n, hn⟩ : ∃ n, O.length = n := ⟨_, rfl⟩
  rw [hn] at h1 hl ⊢
  have q0 : W.cell? ⟨B, 0, none⟩ = some (.slice a n c) := by simp [World.cell?, h1]
  have hd : decide ((4096 : Int) < (n : Int)) = decide (4096 < n) := by
    by_cases h9 : 4096 < n
    · rw [decide_eq_true h9, decide_eq_true (by omega)]
    · rw [decide_eq_false h9, decide_eq_false (by omega)]
  clear h1 h2 hn
  go_enter Tryd.func48, Tryd.ntmps48
  go_wp2
  go_ret
  exact ⟨rfl, rfl⟩
end Go.Proofs.YtecmeeobabadeaaDoor
namespace Go.Proofs.YtecmeeobabadeaaDoor
open Go.RowKit
open Br (hexL hexL_small hexL_big)
set_option linter.unusedVariables false
/-- The one cell of a table that is read to find out that 16 is 2 to the 4th. -/
def TzAt (W : World) : Prop := W.cell? ⟨2, (16 * 285870213051353865 % 18446744073709551616 / 288230376151711744 : Nat), none⟩ = some (.int .u8 4)
theorem TzAt.below {W W' : World} {B : Nat} (h : TzAt W) (hB : W.heap.size ≤ B) (hb : Below B W W') : TzAt W' := by
  unfold TzAt at h ⊢
  have hlt : 2 < W.heap.size := by
    rcases Nat.lt_or_ge 2 W.heap.size with g | g
    · exact g
    · rw [World.cell?] at h
      dsimp only at h
      rw [Array.getElem?_eq_none g] at h
      cases h
  exact (hb.cell (p := ⟨2, _, none⟩) (Nat.lt_of_lt_of_le hlt hB)).trans h
set_option maxRecDepth 100000 in
set_option maxHeartbeats 4000000 in
theorem tz16_any (W : World) (h : TzAt W) : Calls Tryd.prog 69 #[.int .u64 16] W fun e w' => e = .returned (.int .i64 4) ∧ W = w' := by
  unfold TzAt at h
  have key : IntKind.u64.wrap (bits BinOp.and IntKind.u64 16 (IntKind.u64.wrap (-16)) * 285870213051353865) / 288230376151711744 = ((16 * 285870213051353865 % 18446744073709551616 / 288230376151711744 : Nat) : Int) := by decide +kernel
  go_enter Tryd.func69, Tryd.ntmps69
  go_wp2
  go_ret
  exact ⟨rfl, rfl⟩
def digB : ByteArray := ⟨#[48, 49, 50, 51, 52, 53, 54, 55, 56, 57, 97, 98, 99, 100, 101, 102, 103, 104, 105, 106, 107, 108, 109, 110, 111, 112, 113, 114, 115, 116, 117, 118, 119, 120, 121, 122]⟩
theorem pow16_any (W : World) : Calls Tryd.prog 68 #[.int .i64 16] W fun e w' => e = .returned (.bool true) ∧ W = w' := by
  have p0 : bits .and .i64 16 15 = 0 := by decide +kernel
  go_enter Tryd.func68, Tryd.ntmps68
  go_wp2
  go_ret
  exact ⟨rfl, rfl⟩
/-- The row of digits: T at its end. -/
structure RowEnd (W : World) (ab : Nat) (T : List Int) : Prop where
  blk : ∃ cur : Array Value, W.heap[ab]? = some (.cells cur 91 (0, 0)) ∧ cur.size = 65 ∧ ∀ j x, T[j]? = some x → cur[65 - T.length + j]? = some (.int .u8 x)
  len : T.length ≤ 6
theorem digB_at (d : Nat) (hd : d < 16) (h : d < digB.size) : ((digB[d]'h).toNat : Int) = Br.hd d := by
  have hk : ∀ k : Fin 16, ((digB[k.1]'(Nat.lt_of_lt_of_le k.2 (by decide))).toNat : Int) = Br.hd k.1 := by decide
  exact hk ⟨d, hd⟩
theorem RowEnd.step {W : World} {ab : Nat} {T : List Int} (h : RowEnd W ab T) (hT : T.length ≤ 5) {i : Nat} (hi : 65 - T.length = i + 1) (x : Int) : RowEnd (W.setCell ⟨ab, i, none⟩ (.int .u8 x)) ab (x :: T) := by
  obtain ⟨⟨cur, hblk, hsz, hcur⟩, hl6⟩ := h
  refine ⟨⟨_, heap_setCell_same W ab i _ _ (.int .u8 x) hblk, by rw [Array.size_setIfInBounds]; exact hsz, fun j y hj => ?_⟩, by rw [List.length_cons]; omega⟩
  have e : 65 - (x :: T).length = i := by rw [List.length_cons]; omega
  rw [e]
  cases j with
  | zero =>
    obtain rfl : x = y := by simpa using hj
    rw [Nat.add_zero, Array.getElem?_setIfInBounds, if_pos rfl, if_pos (by omega)]
  | succ j =>
    have hj' : T[j]? = some y := by simpa using hj
    have := hcur j y hj'
    rw [hi] at this
    rw [show i + (j + 1) = i + 1 + j by omega]
    rw [← this]
    rw [Array.getElem?_setIfInBounds, if_neg (by omega)]
theorem below_set {W W' : World} {B ab i : Nat} (h : Below B W W') (hab : B ≤ ab) (v : Value) : Below B W (W'.setCell ⟨ab, i, none⟩ v) := h.setCell (p := ⟨ab, i, none⟩) hab v
def hexS (n : Nat) : List UInt8 := (hexL n).map fun x => UInt8.ofNat x.toNat
theorem hexS_nums (n : Nat) : Utf.nums (⟨(hexS n).toArray⟩ : ByteArray) = hexL n := by
  unfold Utf.nums hexS
  simp only [List.map_map]
  refine (List.map_congr_left (fun x hx => ?_)).trans (List.map_id _)
  have := Br.hexL_all n x hx
  show ((UInt8.ofNat x.toNat).toNat : Int) = x
  rw [UInt8.toNat_ofNat']
  omega
/-- The digits, turned into a text. -/
theorem RowEnd.text {W : World} {ab n i : Nat} {T : List Int} (h : RowEnd W ab T) (hT : T = hexL n) (hi : 65 - T.length = i) (cap : Nat) :
    (convert 35 9 (.slice (some ⟨ab, i, none⟩) T.length cap)).run Tryd.prog W = .ok (.string ⟨(hexS n).toArray⟩) W := by
  obtain ⟨⟨cur, hblk, hsz, hcur⟩, hl6⟩ := h
  have hl : (hexS n).length = T.length := by unfold hexS; rw [List.length_map, hT]
  have h9 := run_convert_bytes_back (P := Tryd.prog) W 35 9 5 ⟨ab, i, none⟩ cap (hexS n) (by kernel_rfl) (by kernel_rfl) (by kernel_rfl) (fun j hj => by
    have hjT : j < T.length := by omega
    have h1 := hcur j T[j] (List.getElem?_eq_getElem hjT)
    rw [hi] at h1
    have h2 : ((hexS n)[j].toNat : Int) = T[j] := by
      have h3 := hexS_nums n
      have h4 : (Utf.nums (⟨(hexS n).toArray⟩ : ByteArray))[j]? = T[j]? := by rw [h3, hT]
      unfold Utf.nums at h4
      rw [List.getElem?_map, List.getElem?_eq_getElem hjT] at h4
      have h5 : ((hexS n)[j]?).map (fun b => (b.toNat : Int)) = some T[j] := h4
      rw [List.getElem?_eq_getElem hj] at h5
      exact Option.some.inj h5
    rw [h2]
    rw [Addr.add_lit]
    simp [World.cell?, hblk, h1])
  rw [hl] at h9
  exact h9
theorem slice65 (W : World) (ab i m : Nat) (hi : i + m = 65) (hm : 1 ≤ m) : (Instr.sliceAt 91 (.pointer (some ⟨ab, 0, none⟩)) (some (.int .i64 (i : Int))) none none).run Tryd.prog W = .ok (.slice (some ⟨ab, i, none⟩) m m) W := by
  have hu : Tryd.prog.underlying 91 = some (.array 65 5) := by kernel_rfl
  have hal : Tryd.prog.arrayLen 91 = 65 := by simp [Program.arrayLen, hu]
  rw [run_sliceAt_array_l W 91 ⟨ab, 0, none⟩ (by simp [Program.arrayLen, Program.elem, hu]) .i64 (i : Int) (by omega) (by rw [hal]; omega)]
  have e1 : 65 - i = m := by omega
  simp only [hal]
  go_simp
  omega
set_option maxRecDepth 100000 in
set_option maxHeartbeats 4000000 in
theorem fbits_any (W : World) (n : Nat) (hn : n ≤ 1114111) (h : TzAt W) : Calls Tryd.prog 63 #[.slice none 0 0, .int .u64 (n : Int), .int .i64 16, .bool false, .bool false] W fun e w' =>
    ∃ T : ByteArray, e = .returned (.tuple #[.slice none 0 0, .string T]) ∧ Utf.nums T = hexL n ∧ Below W.heap.size W w' := by
  have p0 : bits .and .i64 16 15 = 0 := by decide +kernel
  have HZ := Lib.hid h
  clear h
  go_enter Tryd.func63, Tryd.ntmps63
  go_wp2_with fail
  obtain ⟨w1, hw1⟩ : ∃ w1, W.alloc (.cells Tryd.zeroCells91 91) = w1 := ⟨_, rfl⟩
  obtain ⟨ab, hab⟩ : ∃ ab, W.heap.size = ab := ⟨_, rfl⟩
  have hb1 : Below W.heap.size W w1 := by rw [← hw1]; exact (Below.refl _ _).alloc (Nat.le_refl _) _
  have HR1 : Hid (RowEnd w1 ab []) := Lib.hid ⟨⟨_, by rw [← hw1, ← hab]; exact heap_alloc_new _ _, by kernel_rfl, fun j x h => by simp at h⟩, by simp⟩
  have HB1 := Lib.hid hb1
  have HZ1 := Lib.hid (HZ.out.below (Nat.le_refl _) hb1)
  rw [hw1, hab]
  have HAB := Lib.hid hab
  clear hw1 hab hb1 p0
  refine (pow16_any _).mono ?_
  rintro e w' ⟨rfl, rfl⟩
  go_wp2_with fail
  refine (tz16_any _ HZ1.out).mono ?_
  rintro e w' ⟨rfl, rfl⟩
  go_wp2
  go_loopw [1, 13] (fun uv iv wr => ∃ (u : Nat) (T : List Int), uv = .int .u64 (u : Int) ∧ iv = .int .i64 ((65 - T.length : Nat) : Int) ∧ T.length ≤ 5 ∧ u < 16 ^ (6 - T.length) ∧ Hid (hexL n = hexL u ++ T) ∧ Hid (RowEnd wr ab T) ∧ Hid (Below W.heap.size W wr)) (fun uv _ _ => (intOf uv).toNat)
  case atStart => exact ⟨n, [], rfl, rfl, by simp, by simp; omega, Lib.hid (by simp), HR1, HB1⟩
  case round =>
    obtain ⟨u, T, rfl, rfl, hT5, hu6, HH, HR, HB⟩ := hrel
    obtain ⟨⟨cur, hblk, hsz, hcur⟩, hl6⟩ := HR.out
    obtain ⟨k, hk⟩ : ∃ k, T.length = k := ⟨_, rfl⟩
    rw [hk] at hT5 hu6 hcur hl6 ⊢
    obtain ⟨i, hi⟩ : ∃ i, 64 - k = i := ⟨_, rfl⟩
    have hi1 : 65 - k = i + 1 := by omega
    rw [hi1] at hcur ⊢
    have hcell : ∀ j, j < 65 → wr.cell? ⟨ab, j, none⟩ = cur[j]? := fun j hj => by simp [World.cell?, hblk]
    have hfr : wr.frozen? ⟨ab, i, none⟩ = false := by simp [World.frozen?, hblk]
    have hci : wr.cell? ⟨ab, i, none⟩ = some (cur[i]'(by omega)) := by rw [hcell i (by omega), Array.getElem?_eq_getElem (by omega)]
    have hw1 : IntKind.i64.wrap (((i + 1 : Nat) : Int) - 1) = (i : Int) := by rw [IntKind.wrap_i64]; omega
    have hi65 : (i : Int) < 65 := by omega
    have hi0 : (0 : Int) ≤ (i : Int) := by omega
    have hi65n : i < 65 := by omega
    obtain ⟨d, hd⟩ : ∃ d, u % 16 = d := ⟨_, rfl⟩
    obtain ⟨q, hq⟩ : ∃ q, u / 16 = q := ⟨_, rfl⟩
    have hd16 : d < 16 := by omega
    have hu64 : u < 18446744073709551616 := by
      have : 16 ^ (6 - k) ≤ 16 ^ 6 := Nat.pow_le_pow_right (by decide) (by omega)
      omega
    by_cases hge : 16 ≤ u
    · have hgi : (16 : Int) ≤ (u : Int) := by omega
      have hand : bits .and .u64 (u : Int) 15 = (d : Int) := by
        rw [show (15 : Int) = ((15 : Nat) : Int) from rfl, bits_and_u64_nat u 15 hu64 (by decide), ← hd]
        congr 1
        exact Nat.and_two_pow_sub_one_eq_mod u 4
      have hdi : (d : Int) < 36 := by omega
      have hdn : d < 36 := by omega
      have hd0 : (0 : Int) ≤ (d : Int) := by omega
      clear hblk hcur hcell
      have HST := Lib.hid (HR.out.step (by omega) (i := i) (by omega) (Br.hd d))
      have HBS := Lib.hid (below_set (i := i) HB.out (by rw [HAB.out]; exact Nat.le_refl _) (.int .u8 (Br.hd d)))
      have hdg := digB_at d hd16 (by show d < 36; omega)
      have HDG := Lib.hid hdg
      have HQ : Hid ((u : Int) / 16 = (q : Int)) := Lib.hid (by omega)
      have HLX : Hid (hexL n = hexL q ++ (Br.hd d :: T)) := Lib.hid (by rw [HH.out, hexL_big (n := u) (by omega), hq, hd, List.append_assoc]; rfl)
      have hq6 : q < 16 ^ (6 - (k + 1)) := by
        have e : 16 ^ (6 - k) = 16 ^ (6 - (k + 1)) * 16 := by rw [← Nat.pow_succ]; congr 1; omega
        omega
      have hk4 : k + 1 ≤ 5 := by
        rcases Nat.lt_or_ge k 5 with g | g
        · omega
        · exfalso
          have : k = 5 := by omega
          subst this
          simp at hu6
          omega
      clear hdg
      go_wp2
      refine ⟨⟨q, Br.hd d :: T, by rw [HQ.out], by rw [List.length_cons, hk, show 65 - (k + 1) = i by omega], by rw [List.length_cons, hk]; exact hk4, by rw [List.length_cons, hk]; exact hq6, HLX, ?_, ?_⟩, ?_⟩
      · exact Lib.hid (by have e := HDG.out; unfold digB at e; rw [e]; exact HST.out)
      · exact Lib.hid (by have e := HDG.out; unfold digB at e; rw [e]; exact HBS.out)
      · simp [intOf]; omega
    · have hgi : ¬ (16 : Int) ≤ (u : Int) := by omega
      obtain rfl : u = d := by omega
      have hdi : (u : Int) < 36 := by omega
      have hdn : u < 36 := by omega
      have hd0 : (0 : Int) ≤ (u : Int) := by omega
      clear hblk hcur hcell hd hq
      have HST := Lib.hid (HR.out.step (by omega) (i := i) (by omega) (Br.hd u))
      have HBS := Lib.hid (below_set (i := i) HB.out (by rw [HAB.out]; exact Nat.le_refl _) (.int .u8 (Br.hd u)))
      have hdg := digB_at u hd16 (by show u < 36; omega)
      have HDG := Lib.hid hdg
      have HLX : Hid (Br.hd u :: T = hexL n) := Lib.hid (by rw [HH.out, hexL_small (n := u) (by omega)]; rfl)
      have hsl := fun w => slice65 w ab i (k + 1) (by omega) (by omega)
      have HTX := Lib.hid (fun cap => HST.out.text (n := n) (i := i) HLX.out (by rw [List.length_cons]; omega) cap)
      rw [List.length_cons, hk] at HTX
      have hcv := HTX.out (k + 1)
      have e9 := HDG.out
      unfold digB at e9
      rw [← e9] at hcv
      clear hdg e9
      have HCL := Lib.hid (hexS_nums n)
      go_wp2
      go_ret2
      exact ⟨_, rfl, HCL.out, by have e := HDG.out; unfold digB at e; rw [e]; exact HBS.out⟩
set_option maxRecDepth 100000 in
set_option maxHeartbeats 4000000 in
theorem fint_any (W : World) (n : Nat) (hn : n ≤ 1114111) (h : TzAt W) : Calls Tryd.prog 57 #[.int .i64 (n : Int), .int .i64 16] W fun e w' =>
    ∃ T : ByteArray, e = .returned (.string T) ∧ Utf.nums T = hexL n ∧ Below W.heap.size W w' := by
  have HZ := Lib.hid h
  have h0 : ¬ (n : Int) < 0 := by omega
  have hd : decide ((n : Int) < 0) = false := decide_eq_false h0
  have hw : IntKind.u64.wrap (n : Int) = (n : Int) := by rw [IntKind.wrap_u64]; omega
  clear h
  go_enter Tryd.func57, Tryd.ntmps57
  go_wp2_with fail
  refine (fbits_any W n hn HZ.out).mono ?_
  rintro e w' ⟨T, rfl, hT, hb⟩
  have HT := Lib.hid hT
  have HB := Lib.hid hb
  clear hT hb
  go_wp2
  go_ret
  exact ⟨T, rfl, HT.out, HB.out⟩
theorem fmt16_any (W : World) (n : Nat) (hn : n ≤ 1114111) (h : TzAt W) : Calls Tryd.prog 49 #[.int .i64 (n : Int), .int .i64 16] W fun e w' =>
    ∃ T : ByteArray, e = .returned (.string T) ∧ Utf.nums T = hexL n ∧ Below W.heap.size W w' := by
  have HZ := Lib.hid h
  clear h
  go_enter Tryd.func49, Tryd.ntmps49
  go_wp2_with fail
  refine (fint_any W n hn HZ.out).mono ?_
  rintro e w' ⟨T, rfl, hT, hb⟩
  have HT := Lib.hid hT
  have HB := Lib.hid hb
  clear hT hb
  go_wp2
  go_ret
  exact ⟨T, rfl, HT.out, HB.out⟩
/-- show.escape: a number in the form of braces. -/
theorem escape_show (W : World) (n : Nat) (hn : n ≤ 1114111) (h : TzAt W) : Calls Tryd.prog 33 #[.int .i64 (n : Int)] W fun e w' =>
    ∃ T : ByteArray, e = .returned (.string T) ∧ Utf.nums T = Br.esc n ∧ Below W.heap.size W w' := by
  have HZ := Lib.hid h
  clear h
  go_enter Tryd.func33, Tryd.ntmps33
  go_wp2_with fail
  refine (fmt16_any W n hn HZ.out).mono ?_
  rintro e w' ⟨T, rfl, hT, hb⟩
  have hz : T.size ≤ 6 := by rw [← Utf.nums_length, hT]; exact (Br.hexL6 hn).2
  have HT := Lib.hid hT
  have HB := Lib.hid hb
  have n1 : ¬ 9223372036854775807 < 3 + T.size := by omega
  have n2 : ¬ 9223372036854775807 < 3 + T.size + 1 := by omega
  have hP : ((⟨#[92, 120, 123]⟩ : ByteArray) ++ T).size = 3 + T.size := ByteArray.size_append ..
  have n3 : ¬ 9223372036854775807 < ((⟨#[92, 120, 123]⟩ : ByteArray) ++ T).size + 1 := by omega
  have HN : Hid (Utf.nums (((⟨#[92, 120, 123]⟩ : ByteArray) ++ T) ++ (⟨#[125]⟩ : ByteArray)) = Br.esc n) := Lib.hid (by
    rw [Br.nums_append', Br.nums_append', hT]
    unfold Br.esc
    show (92 :: 120 :: 123 :: hexL n) ++ [125] = _
    rfl)
  clear hT hb hP
  go_wp2
  go_ret
  exact ⟨_, rfl, HN.out, HB.out⟩
end Go.Proofs.YtecmeeobabadeaaDoor
