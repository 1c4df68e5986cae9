/- Functions of the library: the library's contracts, laid over this translation. · The landed norm: slices.Repeat of one node. · The landed norm: trees in new memory, an owned row of them, and what an append of several does. · The landed norm: alternate. -/
import Derived.Shelf.Bits.Mul64
import Derived.Test.YthhdlcckboiecaaProg
import Derived.Test.YthhdlcckboiecaaGp3
import Derived.Test.YthhdlcckboiecaaGp4
import Derived.Laws.CopyRow
import Derived.Laws.MakeOwn
import Derived.Lib.SlBuf
import Derived.Deep.RegionLaw
import Derived.Deep.AppendLies
namespace Go.Proofs
open Go.Shelf
def Try.layMul_ren : Go.Shelf.Ren := ⟨fun | 212 => 57 | 263 => 65 | 264 => 66 | n => n, fun | 46 => 67 | 51 => 72 | 146 => 73 | 53 => 75 | 148 => 76 | n => n, fun | n => n⟩
theorem Try.layMul : Go.Proofs.Lays.n212 Try.prog Try.layMul_ren := {
  mixed := by kernel_rfl
  f212 := Try.func57.trans (congrArg some (by kernel_rfl))
  f263 := Try.func65.trans (congrArg some (by kernel_rfl))
  f264 := Try.func66.trans (congrArg some (by kernel_rfl))
  t46 := Try.underlying67
  a46 := Try.isAgg67
  z46 := Try.sizeOf67
  v46 := Try.zeroValue67
  t51 := Try.underlying72
  a51 := Try.isAgg72
  z51 := Try.sizeOf72
  v51 := Try.zeroValue72
  t53 := Try.underlying75
  a53 := Try.isAgg75
  z53 := Try.sizeOf75
  v53 := Try.zeroValue75
  t146 := Try.underlying73
  a146 := Try.isAgg73
  z146 := Try.sizeOf73
  v146 := Try.zeroValue73
  t148 := Try.underlying76
  a148 := Try.isAgg76
  z148 := Try.sizeOf76
  v148 := Try.zeroValue76 }
end Go.Proofs
namespace Go.Proofs.Ythhdlcckboiecaa
open Go.RowKit
set_option linter.unusedVariables false
theorem Try.infoNodeR : (Try.prog.info? 25).map (fun i => (i.zero, i.size, i.bytes)) = some (some (.agg #[.int .i64 0, .slice none 0 0, .int .i64 0, .string ⟨#[]⟩, .int .i64 0, .int .i64 0, .bool false, .slice none 0 0]), 8, 104) := by kernel_rfl
theorem Try.underNodesR : Try.prog.underlying 23 = some (.slice 25) := by kernel_rfl
/-- 'copy' of so many elements of any width into a row. -/
theorem copy_rowS {P : Program} (w : World) (dT sT ty elem : TypeId) (sz g o dLen dCap : Nat) (a : Addr) (sLen sCap : Nat) (cur : Array Value) (t : TypeId) (cs : List Value)
    (hu : P.underlying dT = some (.slice elem)) (hs : (P.info? elem).map (·.size) = some sz)
    (hg : w.heap[g]? = some (.cells cur t (0, 0))) (hn : cs.length = Nat.min sLen dLen * sz)
    (hsrc : ∀ j v, cs[j]? = some v → w.cell? (a.add j) = some v) (hfit : o + cs.length ≤ cur.size) (h1 : ∀ v ∈ cs, v.oneCell' = true) :
    (Builtin.copy_ #[dT, sT] ty #[.slice (some ⟨g, o, none⟩) dLen dCap, .slice (some a) sLen sCap]).run P w =
      .ok (goInt (Nat.min sLen dLen)) (w.setRow g (cur.toList.take o ++ cs ++ cur.toList.drop (o + cs.length)).toArray) := by
  have hl := run_loadCells_list (P := P) w a cs hsrc
  have hst := run_storeCells_at P g o t cs 0 cur w hg (by simpa using hfit) h1
  cases hq : P.info? elem with
  | none => simp [hq] at hs
  | some i =>
    have hi : i.size = sz := by simpa [hq] using hs
    rw [hn] at hl
    simp [Builtin.copy_, run_underlying hu, Builtin.lenOf, Builtin.firstCells, sizeOf, typeInfo, hq, hi, hl, hst]
theorem mul_any (W : World) (x y : Nat) (hx : x < 18446744073709551616) (hy : y < 18446744073709551616) :
    Calls Try.prog 57 #[.int .u64 x, .int .u64 y] W fun e w' => e = .returned (.tuple #[.int .u64 ((x * y / 18446744073709551616 : Nat) : Int), .int .u64 ((x * y % 18446744073709551616 : Nat) : Int)]) ∧ w' = W := by
  have h := Go.Proofs.Any.bits_Mul Try.layMul x y hx hy W
  exact h
end Go.Proofs.Ythhdlcckboiecaa
namespace Go.Proofs.Ythhdlcckboiecaa
open Go.RowKit
set_option linter.unusedVariables false
/-- A tree in blocks of S. -/
def NwP (S : Nat → Prop) (W : World) (x : Nd) (cs : List Value) : Prop := NdOn (fun b => S b ∧ b < W.heap.size) W x cs
theorem NwP.below {S : Nat → Prop} {W W' : World} {x : Nd} {cs : List Value} (h : NwP S W x cs) (hb : Below W.heap.size W W') : NwP S W' x cs :=
  NdOn.mono (fun b hb' => ⟨hb'.1, Nat.lt_of_lt_of_le hb'.2 hb.size⟩) (NdOn.kept hb.size (fun b _ hlt => hb.block b hlt) h)
theorem NwP.mono {S S' : Nat → Prop} {W : World} {x : Nd} {cs : List Value} (h : NwP S W x cs) (hl : ∀ b, S b → S' b) : NwP S' W x cs := NdOn.mono (fun b hb => ⟨hl b hb.1, hb.2⟩) h
theorem ndOn_oneN {S : Nat → Prop} {W : World} {x : Nd} {cs : List Value} (h : NdOn S W x cs) : ∀ u ∈ cs, u.oneCell' = true := by
  cases h with
  | mk cs hkk hset hname hlen hrow hsub =>
    obtain ⟨a, c, hv, _⟩ := hset.1
    intro u hu
    simp only [List.mem_cons, List.not_mem_nil, or_false] at hu
    rcases hu with rfl | rfl | rfl | rfl | rfl | rfl | rfl | rfl <;> first | rfl | (rw [hv]; rfl)
theorem ndsOn_oneN {S : Nat → Prop} {W : World} {L : List Nd} {X : List (List Value)} (h : NdsOn S W L X) : ∀ u ∈ X.flatten, u.oneCell' = true := by
  intro u hu
  obtain ⟨x, hx, hux⟩ := List.mem_flatten.1 hu
  obtain ⟨j, hj, rfl⟩ := List.getElem_of_mem hx
  obtain ⟨y, hy, hn⟩ := h.2 j (by rw [← h.1]; exact hj)
  rw [List.getElem?_eq_getElem hj] at hy
  cases hy
  exact ndOn_oneN hn u hux
theorem NdsOn.flatLen {S : Nat → Prop} {W : World} : ∀ {L : List Nd} {X : List (List Value)}, NdsOn S W L X → X.flatten.length = L.length * 8 := by
  intro L X h
  have h8 : ∀ x ∈ X, x.length = 8 := fun x hx => by
    obtain ⟨j, hj, rfl⟩ := List.getElem_of_mem hx
    obtain ⟨y, hy, hn⟩ := h.2 j (by rw [← h.1]; exact hj)
    rw [List.getElem?_eq_getElem hj] at hy
    cases hy
    exact hn.is.len
  have : ∀ X : List (List Value), (∀ x ∈ X, x.length = 8) → X.flatten.length = X.length * 8 := fun X => by
    induction X with
    | nil => intro _; rfl
    | cons a X ih =>
      intro h
      rw [List.flatten_cons, List.length_append, h a (by simp), ih (fun x hx => h x (List.mem_cons_of_mem _ hx)), List.length_cons]
      omega
  rw [this X h8, h.1]
theorem NdsOn.join {S : Nat → Prop} {W : World} {L L' : List Nd} {X X' : List (List Value)} (h : NdsOn S W L X) (h' : NdsOn S W L' X') : NdsOn S W (L ++ L') (X ++ X') := by
  refine ⟨by rw [List.length_append, List.length_append, h.1, h'.1], fun j hj => ?_⟩
  by_cases hlt : j < L.length
  · obtain ⟨x, hx, hx2⟩ := h.2 j hlt
    exact ⟨x, by rw [List.getElem?_append_left (by rw [h.1]; exact hlt)]; exact hx, by rw [List.getElem_append_left hlt]; exact hx2⟩
  · rw [List.length_append] at hj
    obtain ⟨x, hx, hx2⟩ := h'.2 (j - L.length) (by omega)
    exact ⟨x, by rw [List.getElem?_append_right (by rw [h.1]; omega), h.1]; exact hx, by rw [List.getElem_append_right (by omega)]; exact hx2⟩
/-- An owned row of nodes in blocks of S, apart from each other. -/
def NwOwn (S : Nat → Prop) (W : World) (base : Nat) (v : Value) (A : List Nd) : Prop :=
  ∃ X, NdsOn (fun b => S b ∧ b < W.heap.size ∧ v.ownBlock ≠ some b) W A X ∧ W.ownsRow base 25 8 v A.length X.flatten
theorem NwOwn.nil (S : Nat → Prop) (W : World) (base : Nat) : NwOwn S W base (.slice none 0 0) [] := ⟨[], NdsOn.nil _ _, World.ownsRow_nil _ _ _ _⟩
theorem NwOwn.lt {S : Nat → Prop} {W : World} {base : Nat} {v : Value} {A : List Nd} (h : NwOwn S W base v A) : ∀ b, v.ownBlock = some b → base ≤ b ∧ b < W.heap.size := by
  obtain ⟨X, _, h2⟩ := h
  exact fun b hb => World.ownsRow.lt h2 b hb
theorem NwOwn.slice {S : Nat → Prop} {W : World} {base : Nat} {v : Value} {A : List Nd} (h : NwOwn S W base v A) : ∃ a cap, v = .slice a A.length cap := by
  obtain ⟨X, _, h2⟩ := h
  rcases h2.2 with ⟨e, e0⟩ | ⟨g, cap, cur, e, _⟩
  · exact ⟨none, 0, by rw [e, e0]⟩
  · exact ⟨_, _, e⟩
theorem NwOwn.below {S : Nat → Prop} {W W' : World} {base : Nat} {v : Value} {A : List Nd} (h : NwOwn S W base v A) (hb : Below W.heap.size W W') : NwOwn S W' base v A := by
  obtain ⟨X, h1, h2⟩ := h
  refine ⟨X, (h1.kept hb.size (fun b hb' hlt => hb.block b hlt)).mono (fun b hb' => ⟨hb'.1, Nat.lt_of_lt_of_le hb'.2.1 hb.size, hb'.2.2⟩), h2.kept (row := none) ⟨hb.os, hb.tape, hb.output, hb.size, fun k hk _ => hb.block k hk⟩ (by cases hv : v.ownBlock <;> simp)⟩
/-- Several nodes more. -/
theorem append_nw {S : Nat → Prop} (W : World) (base : Nat) (v : Value) (A : List Nd) (hv : NwOwn S W base v A) (hb0 : base ≤ W.heap.size) (hA : A.length ≤ 1000000) (B : List Nd) (Y : List (List Value)) (m : Nat) (hm : B.length = m) (h0 : 0 < m) (hm1 : m ≤ 1000000)
    (ad : Addr) (hnews : ∀ j u, Y.flatten[j]? = some u → W.cell? (ad.add j) = some u) (hx : NdsOn (fun b => S b ∧ b < W.heap.size ∧ v.ownBlock ≠ some b) W B Y) (c : Nat) :
    ∃ v' W', (Builtin.append_ #[23, 23] 23 #[v, .slice (some ad) m c]).run Try.prog W = .ok v' W' ∧ NwOwn S W' base v' (A ++ B) ∧ Below base W W' ∧ W.grownBy W' v.ownBlock := by
  obtain ⟨i0, hi, hz0, hz1, hz2⟩ := info_parts Try.infoNodeR
  obtain ⟨X, hX1, hX2⟩ := hv
  obtain ⟨gg, cap2, W2, hrun, hown, hgrow, hat, hlt2⟩ := run_append_lies (P := Try.prog) W 23 23 base 25 i0 _ 8 104 Try.underNodesR hi hz0 hz1 hz2 rfl (by omega) _ A.length X.flatten hX2
    ad m c Y.flatten (by rw [hx.flatLen, hm]) hnews (ndsOn_oneN hx) h0 (by unfold maxLen; omega) (by omega) hb0 _ rfl
  have hkeep : ∀ b, (S b ∧ b < W.heap.size ∧ v.ownBlock ≠ some b) → b < W.heap.size → W2.heap[b]? = W.heap[b]? := fun b hb hlt => hgrow.block b hlt (fun e => hb.2.2 e.symm)
  have hmono : ∀ b, (S b ∧ b < W.heap.size ∧ v.ownBlock ≠ some b) → S b ∧ b < W2.heap.size ∧ (Value.slice (some ⟨gg, 0, none⟩) (A.length + m) cap2).ownBlock ≠ some b := fun b hb => by
    refine ⟨hb.1, Nat.lt_of_lt_of_le hb.2.1 hgrow.size, fun e => ?_⟩
    have e2 : gg = b := by injection e
    rcases hat with h | h
    · exact hb.2.2 (by rw [h, e2])
    · have := hb.2.1
      omega
  refine ⟨_, _, hrun, ⟨X ++ Y, ?_, ?_⟩, (Below.refl base W).grown hgrow hb0 fun j ej => (World.ownsRow.lt hX2 j ej).1, hgrow⟩
  · exact ((hX1.join hx).kept hgrow.size hkeep).mono hmono
  · rw [List.length_append, hm, List.flatten_append]; exact hown
end Go.Proofs.Ythhdlcckboiecaa
namespace Go.Proofs.Ythhdlcckboiecaa
open Go.RowKit
set_option linter.unusedVariables false
set_option linter.unusedSimpArgs false
theorem ret_ndN {fn : Func} {p : Tmp} {R : Ending → World → Prop} {a : Act} {w : World} (h : fn.results = #[.cell p 25]) (g : Nat) (cs : Array Value)
    (hp : a.tmps.getD p undef = .pointer (some ⟨g, 0, none⟩)) (hg : w.heap[g]? = some (.cells cs 25 (0, 0))) (h8 : cs.size = 8) (hd : a.defers = [])
    (hR : R (.returned (.agg cs)) w) : bodyPost Try.prog fn R .ret a w := by
  have hi : (Try.prog.info? 25).map (·.size) = some cs.size := by rw [h8]; kernel_rfl
  have hl : (loadVar 25 ⟨g, 0, none⟩).run Try.prog w = .ok (.agg cs) w := run_loadVar_row w g _ _ cs _ _ hg Try.underlying25 rfl hi
  refine ⟨hd, _, ?_, hR⟩
  have hp' : a.tmps[p]?.getD undef = .pointer (some ⟨g, 0, none⟩) := by simpa using hp
  simp [results, h, hp', asAddr, hl, Sem.run_bind]
theorem flat8_inv (Y : List (List Value)) (h8 : ∀ x ∈ Y, x.length = 8) (j : Nat) (u : Value) (hu : Y.flatten[j]? = some u) (hl : Y.flatten.length = Y.length * 8) : ∃ y, Y[j / 8]? = some y ∧ y[j % 8]? = some u := by
  obtain ⟨hj, -⟩ := List.getElem?_eq_some_iff.1 hu
  have h1 : j / 8 < Y.length := by omega
  refine ⟨Y[j / 8], List.getElem?_eq_getElem h1, ?_⟩
  have h2 := flat8_at Y h8 (j / 8) (j % 8) _ (List.getElem?_eq_getElem h1) (by omega)
  have e : j / 8 * 8 + j % 8 = j := by omega
  rw [e] at h2
  rw [← h2]; exact hu
/-- A node, its parts laid open. -/
theorem NdOn.parts {S : Nat → Prop} {W : World} {n : Nd} {cs : List Value} (h : NdOn S W n cs) : ∃ vs a cap Y, cs = [.int .i64 (Td.kind n), vs, .int .i64 (Td.num n), .string (Td.name n), .int .i64 (Td.mn n), .int .i64 (Td.mx n), .bool (Td.lazy n), .slice a (Td.subs n).length cap] ∧
    RRowOn S W vs (Td.set n) ∧ NdsOn S W (Td.subs n) Y ∧ (0 < (Td.subs n).length → ∃ b off, a = some ⟨b, off, none⟩ ∧ S b ∧ b < W.heap.size ∧ ∀ j u, Y.flatten[j]? = some u → W.cell? ((⟨b, off, none⟩ : Addr).add j) = some u) := by
  cases h with
  | @mk k num mn mx set name lz subs vs a cap C hk hset hname hlen hrow hsub =>
    have hY : NdsOn S W subs ((List.range subs.length).map C) := ⟨by simp, fun j hj => ⟨C j, by simp [hj], hsub j hj⟩⟩
    refine ⟨vs, a, cap, (List.range subs.length).map C, rfl, hset, hY, fun h0 => ?_⟩
    obtain ⟨b, off, ha, hS, hb, -, -⟩ := hrow 0 h0
    refine ⟨b, off, ha, hS, hb, fun j u hu => ?_⟩
    obtain ⟨y, hy, hyu⟩ := flat8_inv _ hY.is.len8 j u hu (by rw [hY.flatLen, hY.1])
    have hj : j / 8 < subs.length := by
      have := (List.getElem?_eq_some_iff.1 hy).1
      simpa using this
    obtain ⟨b', off', ha', -, -, -, hc⟩ := hrow (j / 8) hj
    rw [ha] at ha'
    cases ha'
    have hyC : y = C (j / 8) := by
      have : ((List.range subs.length).map C)[j / 8]? = some (C (j / 8)) := by simp [hj]
      rw [this] at hy
      exact (Option.some.inj hy).symm
    have := hc (j % 8) (by omega)
    rw [← hyC, hyu] at this
    have e : off + j / 8 * 8 + j % 8 = off + j := by omega
    rw [e] at this
    rw [Addr.add_lit]
    exact this
end Go.Proofs.Ythhdlcckboiecaa
