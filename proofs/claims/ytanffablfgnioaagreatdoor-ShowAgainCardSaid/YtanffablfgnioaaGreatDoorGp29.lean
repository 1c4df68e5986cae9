/- The landed lex: escapes, bracket expressions. · A row of tokens that is owned. · The landed parse: trees in memory apart from the parser's box; an owned row of nodes. · The landed parse: its state in memory; its small functions. -/
import Derived.Test.YtanffablfgnioaaGreatDoorGp25
import Derived.Test.YtanffablfgnioaaGreatDoorGp28
import Derived.Test.YtanffablfgnioaaGreatDoorGp18
import Derived.Test.YtanffablfgnioaaGreatDoorGp2
import Derived.Test.YtanffablfgnioaaGreatDoorGp23
namespace Go.Proofs.YtanffablfgnioaaGreatDoor
open Go.RowKit
open Lx (Tk TR)
set_option linter.unusedVariables false
theorem box_kept {W W' : World} {o : Obj} (hb : Below (W.alloc o).heap.size (W.alloc o) W') : W'.heap[W.heap.size]? = some o := (hb.block _ (by simp)).trans (heap_alloc_new W o)
theorem box_on {w w' : World} {k B : Nat} {o : Obj} (h : w.heap[k]? = some o) (hk : k < B) (hb : Below B w w') : w'.heap[k]? = some o := (hb.block _ hk).trans h
theorem below_of_alloc {W W' : World} {o : Obj} (hb : Below (W.alloc o).heap.size (W.alloc o) W') : Below W.heap.size W W' := ((Below.refl _ W).alloc (Nat.le_refl _) o).trans (hb.mono (by simp))
theorem size_of_alloc {W W' : World} {o : Obj} (hb : Below (W.alloc o).heap.size (W.alloc o) W') : W.heap.size < W'.heap.size := by have := hb.size; simp at this; omega
theorem own_slice {W : World} {base : Nat} {v : Value} {l : List (Int × Int)} (h : RgOwn W base v l) : ∃ a c, v = .slice a l.length c := by
  unfold RgOwn at h
  rcases h.2 with ⟨e, e0⟩ | ⟨g, c, cur, e, _⟩
  · exact ⟨none, 0, by rw [e, e0]⟩
  · exact ⟨_, _, e⟩
/-- What a walk reads and writes of a box of eight cells. -/
theorem box_facts {w : World} {B : Nat} {u0 u1 u2 u3 u4 u5 u6 u7 : Value} {t : TypeId} (h : w.heap[B]? = some (.cells #[u0, u1, u2, u3, u4, u5, u6, u7] t (0, 0))) :
    w.cell? ⟨B, 0, none⟩ = some u0 ∧ w.cell? ⟨B, 1, none⟩ = some u1 ∧ w.cell? ⟨B, 2, none⟩ = some u2 ∧ w.cell? ⟨B, 3, none⟩ = some u3 ∧ w.cell? ⟨B, 4, none⟩ = some u4 ∧ w.cell? ⟨B, 5, none⟩ = some u5 ∧ w.cell? ⟨B, 6, none⟩ = some u6 ∧ w.cell? ⟨B, 7, none⟩ = some u7 ∧ w.frozen? ⟨B, 0, none⟩ = false ∧ w.frozen? ⟨B, 1, none⟩ = false ∧ w.frozen? ⟨B, 2, none⟩ = false ∧ w.frozen? ⟨B, 3, none⟩ = false ∧ w.frozen? ⟨B, 4, none⟩ = false ∧ w.frozen? ⟨B, 5, none⟩ = false ∧ w.frozen? ⟨B, 6, none⟩ = false ∧ w.frozen? ⟨B, 7, none⟩ = false := by
  refine ⟨?_, ?_, ?_, ?_, ?_, ?_, ?_, ?_, ?_, ?_, ?_, ?_, ?_, ?_, ?_, ?_⟩ <;> simp [World.cell?, World.frozen?, h]
theorem grown_set1 (W : World) (B o : Nat) (v : Value) : W.grownBy (W.setCell ⟨B, o, none⟩ v) (some B) :=
  ⟨rfl, rfl, rfl, by simp, fun k hk hne => heap_setCell_other _ _ _ _ (fun e => hne (by rw [e]))⟩
theorem own_set8 {w : World} {base : Nat} {v : Value} {l : List (Int × Int)} (h : RgOwn w base v l) {B : Nat} (hB : B < base) (v0 v1 v2 v3 v4 v5 v6 v7 : Value) : RgOwn ((((((((w.setCell ⟨B, 0, none⟩ v0).setCell ⟨B, 1, none⟩ v1).setCell ⟨B, 2, none⟩ v2).setCell ⟨B, 3, none⟩ v3).setCell ⟨B, 4, none⟩ v4).setCell ⟨B, 5, none⟩ v5).setCell ⟨B, 6, none⟩ v6).setCell ⟨B, 7, none⟩ v7) base v l :=
  h.kept (row := some B) ((((((((grown_set1 w B 0 v0).trans (grown_set1 _ B 1 v1)).trans (grown_set1 _ B 2 v2)).trans (grown_set1 _ B 3 v3)).trans (grown_set1 _ B 4 v4)).trans (grown_set1 _ B 5 v5)).trans (grown_set1 _ B 6 v6)).trans (grown_set1 _ B 7 v7)) (by
    cases e : v.ownBlock with
    | none => exact .inl rfl
    | some g => exact .inr (fun e2 => by
        have a1 := (World.ownsRow.lt h g e).1
        injection e2 with e3
        omega))
set_option maxRecDepth 100000 in
set_option maxHeartbeats 8000000 in
theorem escape_any (W : World) (s : ByteArray) (hs : s.size ≤ 100000) (h1 : 1 ≤ s.size) (hE : Ev W) : Calls Tryz.prog 30 #[.string s] W (TokPost (Lx.escX s) W) := by
  obtain ⟨X, hX⟩ : ∃ X, Lx.escX s = X := ⟨_, rfl⟩
  rw [hX]
  have HE := Lib.hid hE
  have h1i : (1 : Int) ≤ (s.size : Int) := by omega
  have HSH := Lib.hid (fun w => short_any w (s.extract 1 s.size) (by rw [ByteArray.size_extract]; omega))
  rw [tail_drop, List.getElem?_drop, Nat.add_zero] at HSH
  unfold Lx.escX at hX
  have HST := Lib.hid (fun w (hw : Ev w) => bSet_any w s hs hw)
  have hsc := Br.set_cases s
  have HNU := Lib.hid (fun w => bNumber_any w s (by omega))
  have hnc := Br.num_cases (Utf.nums s)
  obtain ⟨sh, hsh⟩ : ∃ x, Lx.shortX ((Utf.nums s)[1]?.getD 0) = x := ⟨_, rfl⟩
  rw [hsh] at hX HSH
  have HX := Lib.hid hX.symm
  clear hsh hX hE
  go_enter Tryz.func30, Tryz.ntmps30
  go_wp2_with fail
  refine (HSH.out _).mono ?_
  intro e w1 hp
  obtain ⟨hb1, hp⟩ := hp
  have HBX := Lib.hid (box_kept hb1)
  have HSZ := size_of_alloc hb1
  have HB1 := Lib.hid (below_of_alloc hb1)
  clear hb1
  rcases hp with ⟨hx, rfl⟩ | ⟨t, hx, hc, rfl⟩
  · subst hx
    unfold tkV
    have hX2 : X = Lx.setX s := HX.out
    unfold Lx.setX at hX2
    obtain ⟨⟨cl, n, c⟩, hq⟩ : ∃ p, Br.set s = p := ⟨_, rfl⟩
    rw [hq] at HST hX2 hsc
    dsimp only at hX2 hsc
    have HX2 := Lib.hid hX2
    clear hq hX2 HX
    go_wp2_with fail
    refine (HST.out _ (HE.out.below (Nat.le_refl _) (HB1.out.alloc (by omega) _))).mono ?_
    rintro e w2 ⟨v, out, rfl, hi, ho, hb2⟩
    have HBX2 := Lib.hid (box_on (box_on HBX.out (Nat.lt_of_lt_of_le HSZ (Nat.le_refl _)) ((Below.refl _ w1).alloc (Nat.le_refl _) _)) (by simp; omega) hb2)
    have HB2 := Lib.hid ((HB1.out.alloc (by omega) _).trans (hb2.mono (by simp; omega)))
    have HI := Lib.hid hi
    obtain ⟨va, vc, rfl⟩ := own_slice ho
    have HO := Lib.hid (ho.lower (base' := W.heap.size + 1) (by simp; omega))
    clear hi ho hb2
    by_cases k0 : c = 0
    · subst k0
      obtain ⟨m, rfl⟩ : ∃ m : Nat, n = m := ⟨n.toNat, by rcases hsc with ⟨_, _, h | h | h | h⟩ | ⟨x, _, _, h, _⟩ <;> omega⟩
      have hX3 := HX2.out
      rw [if_pos rfl, Int.toNat_natCast] at hX3
      have HX3 := Lib.hid hX3
      clear hX3 hsc hnc
      obtain ⟨d0, d1, d2, d3, d4, d5, d6, d7, g0, g1, g2, g3, g4, g5, g6, g7⟩ := box_facts HBX2.out
      go_wp2
      (try simp only [Exit.inBlock, Exit.then])
      refine ret_tk rfl W.heap.size _ rfl (set8_blk _ _ _ _ _ _ _ _ _ _ HBX2.out) rfl rfl ?_
      refine ⟨set8_below HB2.out _ (Nat.le_refl _) _ _ _ _ _ _ _ _, .inr ⟨_, m, _, out, HX3.out, rfl, HI.out, ?_⟩⟩
      exact (own_set8 HO.out (by omega) _ _ _ _ _ _ _ _).lower (by omega)
    · have k1 : (c == 0) = false := by simpa using k0
      have hX3 := HX2.out
      rw [if_neg k0] at hX3
      by_cases k5 : c = 5
      · subst k5
        rw [if_pos rfl] at hX3
        unfold Lx.numX at hX3
        obtain ⟨⟨r, n2, c2⟩, hp⟩ : ∃ p, Br.num (Utf.nums s) = p := ⟨_, rfl⟩
        rw [hp] at HNU hX3 hnc
        dsimp only at HNU hX3 hnc
        have HX3 := Lib.hid hX3
        clear hX3 hsc hp k0
        go_wp2_with fail
        refine (HNU.out _).mono ?_
        rintro e w3 ⟨rfl, rfl⟩
        obtain ⟨d0, d1, d2, d3, d4, d5, d6, d7, g0, g1, g2, g3, g4, g5, g6, g7⟩ := box_facts HBX2.out
        by_cases k2 : c2 = 0
        · subst k2
          obtain ⟨m, rfl⟩ : ∃ m : Nat, n2 = m := ⟨n2.toNat, by omega⟩
          have hX3 := HX3.out
          rw [if_pos rfl, Int.toNat_natCast] at hX3
          have HX4 := Lib.hid hX3
          clear hX3 hnc
          go_wp2
          (try simp only [Exit.inBlock, Exit.then])
          refine ret_tk rfl W.heap.size _ rfl (set8_blk _ _ _ _ _ _ _ _ _ _ HBX2.out) rfl rfl ?_
          exact tokPost_plain (set8_below HB2.out _ (Nat.le_refl _) _ _ _ _ _ _ _ _) HX4.out rfl rfl
        · have hX3 := HX3.out
          rw [if_neg k2] at hX3
          have HX4 := Lib.hid hX3
          obtain ⟨rfl, rfl⟩ : r = 0 ∧ n2 = 0 := by omega
          clear hX3 hnc k2
          go_wp2
          (try simp only [Exit.inBlock, Exit.then])
          refine ret_tk rfl W.heap.size _ rfl (set8_blk _ _ _ _ _ _ _ _ _ _ HBX2.out) rfl rfl ?_
          exact ⟨set8_below HB2.out _ (Nat.le_refl _) _ _ _ _ _ _ _ _, .inl ⟨1, _, _, HX4.out, rfl⟩⟩
      · rw [if_neg k5] at hX3
        have k6 : (c == 5) = false := by simpa using k5
        have HX4 := Lib.hid hX3
        obtain ⟨d0, d1, d2, d3, d4, d5, d6, d7, g0, g1, g2, g3, g4, g5, g6, g7⟩ := box_facts HBX2.out
        clear hX3 hnc hsc k5 k0
        go_wp2
        (try simp only [Exit.inBlock, Exit.then])
        refine ret_tk rfl W.heap.size _ rfl (set8_blk _ _ _ _ _ _ _ _ _ _ HBX2.out) rfl rfl ?_
        exact ⟨set8_below HB2.out _ (Nat.le_refl _) _ _ _ _ _ _ _ _, .inl ⟨0, _, _, HX4.out, rfl⟩⟩
  · subst hx
    unfold tkV
    have HX2 : Hid (X = .ok t 2) := Lib.hid HX.out
    have HC := Lib.hid hc
    obtain ⟨d0, d1, d2, d3, d4, d5, d6, d7, g0, g1, g2, g3, g4, g5, g6, g7⟩ := box_facts HBX.out
    clear hsc hnc hc HX
    go_wp2
    (try simp only [Exit.inBlock, Exit.then])
    refine ret_tk rfl W.heap.size _ rfl ((heap_alloc_old _ _ (by rw [set8_size]; exact HSZ)).trans (set8_blk _ _ _ _ _ _ _ _ _ _ HBX.out)) rfl rfl ?_
    exact tokPost_plain ((set8_below HB1.out _ (Nat.le_refl _) _ _ _ _ _ _ _ _).alloc (by rw [set8_size]; exact Nat.le_of_lt HSZ) _) HX2.out HC.out rfl
end Go.Proofs.YtanffablfgnioaaGreatDoor
namespace Go.Proofs.YtanffablfgnioaaGreatDoor
open Go.RowKit
open Lx (Tk TR)
set_option linter.unusedVariables false
theorem Tryz.infoToken : (Tryz.prog.info? 39).map (fun i => (i.zero, i.size, i.bytes)) = some (some (.agg #[.int .i64 0, .int .i64 0, .int .i64 0, .string ⟨#[]⟩, .int .i64 0, .int .i64 0, .bool false, .slice none 0 0]), 8, 88) := by kernel_rfl
theorem Tryz.underTokens : Tryz.prog.underlying 35 = some (.slice 39) := by kernel_rfl
/-- The set of a token, apart from a block. -/
def SetAt (base : Nat) (W : World) (vs : Value) (c : Br.Cls) (o : Option Nat) : Prop :=
  ∃ out, Br.SetIs c out ∧ RRow W vs out ∧ ∀ b off n cap, vs = .slice (some ⟨b, off, none⟩) n cap → b < W.heap.size ∧ o ≠ some b ∧ base ≤ b
def TkOwn (W : World) (base : Nat) (v : Value) (T : List (Int × Tk)) : Prop :=
  ∃ X : List (List Value), X.length = T.length ∧ W.ownsRow base 39 8 v T.length X.flatten ∧
    ∀ j (h : j < T.length), ∃ vs, X[j]? = some (TkCells T[j].1 T[j].2 vs) ∧ SetAt base W vs T[j].2.cls v.ownBlock
theorem TkOwn.nil (W : World) (base : Nat) : TkOwn W base (.slice none 0 0) [] := ⟨[], rfl, World.ownsRow_nil _ _ _ _, fun j h => absurd h (by simp)⟩
theorem SetAt.kept {base : Nat} {W W' : World} {vs : Value} {c : Br.Cls} {o : Option Nat} (h : SetAt base W vs c o) (hb : Below W.heap.size W W') : SetAt base W' vs c o := by
  obtain ⟨out, h1, h2, h3⟩ := h
  exact ⟨out, h1, h2.below (Nat.le_refl _) hb, fun b off n cap e => ⟨Nat.lt_of_lt_of_le (h3 b off n cap e).1 hb.size, (h3 b off n cap e).2⟩⟩
theorem TkOwn.kept {W W' : World} {base : Nat} {v : Value} {T : List (Int × Tk)} (h : TkOwn W base v T) (hb : Below W.heap.size W W') : TkOwn W' base v T := by
  obtain ⟨X, h1, h2, h3⟩ := h
  refine ⟨X, h1, h2.kept ⟨hb.os, hb.tape, hb.output, hb.size, fun k hk _ => hb.block k hk⟩ (row := none) (by cases hv : v.ownBlock <;> simp), fun j hj => ?_⟩
  obtain ⟨vs, e, hs⟩ := h3 j hj
  exact ⟨vs, e, hs.kept hb⟩
theorem TkOwn.lt {W : World} {base : Nat} {v : Value} {T : List (Int × Tk)} (h : TkOwn W base v T) : ∀ b, v.ownBlock = some b → base ≤ b ∧ b < W.heap.size := by
  obtain ⟨X, _, h2, _⟩ := h
  exact fun b hb => World.ownsRow.lt h2 b hb
theorem TkOwn.slice {W : World} {base : Nat} {v : Value} {T : List (Int × Tk)} (h : TkOwn W base v T) : ∃ a cap, v = .slice a T.length cap := by
  obtain ⟨X, h1, h2, h3⟩ := h
  rcases h2.2 with ⟨e, e0⟩ | ⟨g, cap, cur, e, _⟩
  · exact ⟨none, 0, by rw [e, e0]⟩
  · exact ⟨_, _, e⟩
theorem RRow.grown {W W' : World} {v : Value} {l : List (Int × Int)} (h : RRow W v l) {o : Option Nat} (hg : W.grownBy W' o) (hne : ∀ b off n cap, v = .slice (some ⟨b, off, none⟩) n cap → o ≠ some b) : RRow W' v l := by
  obtain ⟨a, cap, hv, hl, hw, hc⟩ := h
  refine ⟨a, cap, hv, hl, hw, fun j hj => ?_⟩
  obtain ⟨b, off, ha, hlt, h1, h2⟩ := hc j hj
  subst ha
  have hn := hne b off _ _ hv
  exact ⟨b, off, rfl, Nat.lt_of_lt_of_le hlt hg.size, (hg.cell h1 (fun e => hn e.symm)), (hg.cell h2 (fun e => hn e.symm))⟩
theorem SetAt.grown {base : Nat} {W W' : World} {vs : Value} {c : Br.Cls} {o o' : Option Nat} (h : SetAt base W vs c o) (hg : W.grownBy W' o) (h' : o' = o ∨ ∃ g, o' = some g ∧ W.heap.size ≤ g) : SetAt base W' vs c o' := by
  obtain ⟨out, h1, h2, h3⟩ := h
  refine ⟨out, h1, h2.grown hg (fun b off n cap e => (h3 b off n cap e).2.1), fun b off n cap e => ⟨Nat.lt_of_lt_of_le (h3 b off n cap e).1 hg.size, ?_, (h3 b off n cap e).2.2⟩⟩
  rcases h' with rfl | ⟨g, rfl, hg2⟩
  · exact (h3 b off n cap e).2.1
  · intro e2
    injection e2 with e2
    have := (h3 b off n cap e).1
    omega
/-- The set of a token that a call has made, apart from an elder row. -/
theorem setAt_new {W : World} {base : Nat} {vs : Value} {c : Br.Cls} {out : List (Int × Int)} (hi : Br.SetIs c out) (ho : RgOwn W base vs out) {o : Option Nat} (hlt : ∀ b, o = some b → b < base) {base' : Nat} (hbb : base' ≤ base) : SetAt base' W vs c o := by
  refine ⟨out, hi, setIs_row hi ho, fun b off n cap e => ?_⟩
  have hu := ho
  unfold RgOwn at hu
  rcases hu.2 with ⟨e1, _⟩ | ⟨g, c1, cur, e1, hb, _⟩
  · rw [e] at e1; cases e1
  · rw [e] at e1
    injection e1 with e2 e3 e4
    injection e2 with e2
    injection e2 with e5 e6 e7
    subst e5
    have h9 := (World.ownsRow.lt hu b (by rw [e, e6]; rfl)).2
    exact ⟨h9, fun h => by have := hlt b h; omega, by omega⟩
/-- One token more. -/
theorem append_tok (W : World) (base : Nat) (v : Value) (T : List (Int × Tk)) (hv : TkOwn W base v T) (hb0 : base ≤ W.heap.size) (hT : T.length ≤ 1000000) (a : Int) (t : Tk) (vs : Value) (h1 : vs.oneCell' = true)
    (bt : Nat) (hnews : ∀ j u, (TkCells a t vs)[j]? = some u → W.cell? ((⟨bt, 0, none⟩ : Addr).add j) = some u) (hs : SetAt base W vs t.cls v.ownBlock) (c : Nat) :
    ∃ v' W', (Builtin.append_ #[35, 35] 35 #[v, .slice (some ⟨bt, 0, none⟩) 1 c]).run Tryz.prog W = .ok v' W' ∧ TkOwn W' base v' (T ++ [(a, t)]) ∧ Below base W W' := by
  obtain ⟨i0, hi, hz0, hz1, hz2⟩ := info_parts Tryz.infoToken
  obtain ⟨X, hX1, hX2, hX3⟩ := hv
  obtain ⟨gg, cap2, W2, hrun, hown, hgrow, hat, hlt2⟩ := run_append_lies (P := Tryz.prog) W 35 35 base 39 i0 _ 8 88 Tryz.underTokens hi hz0 hz1 hz2 rfl (by omega) _ T.length X.flatten hX2
    ⟨bt, 0, none⟩ 1 c (TkCells a t vs) rfl hnews (by intro u hu; simp [TkCells] at hu; rcases hu with rfl | rfl | rfl | rfl | rfl | rfl | rfl | rfl <;> first | rfl | exact h1) (by omega) (by unfold maxLen; omega) (by omega) hb0 _ rfl
  have ho : (Value.slice (some ⟨gg, 0, none⟩) (T.length + 1) cap2).ownBlock = v.ownBlock ∨ ∃ g, (Value.slice (some ⟨gg, 0, none⟩) (T.length + 1) cap2).ownBlock = some g ∧ W.heap.size ≤ g := by
    rcases hat with h | h
    · exact .inl (by rw [h]; rfl)
    · exact .inr ⟨gg, rfl, by omega⟩
  refine ⟨_, _, hrun, ⟨X ++ [TkCells a t vs], by simp [hX1], by simpa using hown, fun j hj => ?_⟩, (Below.refl base W).grown hgrow hb0 fun j ej => (World.ownsRow.lt hX2 j ej).1⟩
  by_cases hjl : j < T.length
  · obtain ⟨us, e, hu⟩ := hX3 j hjl
    refine ⟨us, ?_, ?_⟩
    · rw [List.getElem?_append_left (by omega), List.getElem_append_left hjl]; exact e
    · rw [List.getElem_append_left hjl]; exact hu.grown hgrow ho
  · have hj2 : j = T.length := by simp at hj; omega
    subst hj2
    refine ⟨vs, ?_, ?_⟩
    · rw [List.getElem?_append_right (by omega)]; simp [hX1]
    · simp only [List.getElem_append_right (Nat.le_refl _), Nat.sub_self, List.getElem_cons_zero]
      exact hs.grown hgrow ho
end Go.Proofs.YtanffablfgnioaaGreatDoor
namespace Go.Proofs.YtanffablfgnioaaGreatDoor
open Go.RowKit
open Lx (Tk)
open Ps (TL)
set_option linter.unusedVariables false
theorem Tryz.infoNodeP : (Tryz.prog.info? 26).map (fun i => (i.zero, i.size, i.bytes)) = some (some (.agg #[.int .i64 0, .slice none 0 0, .int .i64 0, .string ⟨#[]⟩, .int .i64 0, .int .i64 0, .bool false, .slice none 0 0]), 8, 104) := by kernel_rfl
theorem Tryz.underNodesP : Tryz.prog.underlying 24 = some (.slice 26) := by kernel_rfl
/-- The blocks that a tree made by a call may lie in: those from ahead of parsing, but the parser's box, and the call's own. -/
def Sb (lo B P0 base b : Nat) : Prop := (b < P0 ∧ b ≠ B ∧ lo ≤ b) ∨ base ≤ b
theorem Sb.ne {lo B P0 base b : Nat} (hB : B < P0) (hP : P0 ≤ base) (h : Sb lo B P0 base b) : b ≠ B := by
  rcases h with h | h
  · exact h.2.1
  · omega
theorem Sb.lower {lo B P0 base base' b : Nat} (hb : base' ≤ base) (h : Sb lo B P0 base b) : Sb lo B P0 base' b := by
  rcases h with h | h
  · exact .inl h
  · exact .inr (by omega)
theorem NdOn.grown {S : Nat → Prop} {W W' : World} {o : Option Nat} {x : Nd} {cs : List Value} (h : NdOn S W x cs) (hg : W.grownBy W' o) (hS : ∀ b, S b → some b ≠ o) : NdOn S W' x cs :=
  h.kept hg.size (fun b hb hlt => hg.block b hlt (hS b hb))
/-- A tree that a call has made. -/
def NdP (lo B P0 base : Nat) (W : World) (x : Nd) (cs : List Value) : Prop := NdOn (fun b => Sb lo B P0 base b ∧ b < W.heap.size) W x cs
theorem NdOn.lies {S : Nat → Prop} {W : World} : ∀ {x : Nd} {cs : List Value}, NdOn S W x cs → NdOn (fun b => S b ∧ b < W.heap.size) W x cs := by
  intro n cs h
  induction h with
  | mk cs hkk hset hname hlen hrow hsub ih =>
    refine .mk cs hkk ⟨hset.1, fun g off len cap e hl => ⟨hset.2 g off len cap e hl, ?_⟩⟩ hname hlen (fun j hj => ?_) ih
    · obtain ⟨a, c, hv, _, _, h3⟩ := hset.1
      rw [hv] at e
      injection e with e1 e2 e3
      obtain ⟨b, off', ha, hb, _⟩ := h3 0 (by omega)
      rw [ha] at e1; injection e1 with e1; injection e1 with e1 _ _
      rw [← e1]; exact hb
    · obtain ⟨b, off, ha, h1, hb, hl, hc⟩ := hrow j hj
      exact ⟨b, off, ha, ⟨h1, hb⟩, hb, hl, hc⟩
theorem NdP.grown {lo B P0 base : Nat} {W W' : World} {x : Nd} {cs : List Value} (hB : B < P0) (hP : P0 ≤ base) (h : NdP lo B P0 base W x cs) (hg : W.grownBy W' (some B)) : NdP lo B P0 base W' x cs :=
  (NdOn.grown h hg (fun b hb e => (hb.1.ne hB hP) (by injection e))).mono (fun b hb => ⟨hb.1, Nat.lt_of_lt_of_le hb.2 hg.size⟩)
theorem NdP.lower {lo B P0 base base' : Nat} {W : World} {x : Nd} {cs : List Value} (hb : base' ≤ base) (h : NdP lo B P0 base W x cs) : NdP lo B P0 base' W x cs := NdOn.mono (fun b hb' => ⟨hb'.1.lower hb, hb'.2⟩) h
theorem below_grown {n : Nat} {W W' : World} (h : Below W.heap.size W W') (o : Option Nat) : W.grownBy W' o := ⟨h.os, h.tape, h.output, h.size, fun k hk _ => h.block k hk⟩
theorem grown_trans {W W' W'' : World} {o : Option Nat} (h : W.grownBy W' o) (k : W'.grownBy W'' o) : W.grownBy W'' o :=
  ⟨k.os.trans h.os, k.tape.trans h.tape, k.output.trans h.output, Nat.le_trans h.size k.size, fun b hb hne => (k.block b (Nat.lt_of_lt_of_le hb h.size) hne).trans (h.block b hb hne)⟩
theorem grown_refl (W : World) (o : Option Nat) : W.grownBy W o := ⟨rfl, rfl, rfl, Nat.le_refl _, fun _ _ _ => rfl⟩
theorem grown_alloc {W W' : World} {o : Option Nat} (h : W.grownBy W' o) (x : Obj) : W.grownBy (W'.alloc x) o :=
  ⟨h.os, h.tape, h.output, Nat.le_trans h.size (by simp), fun b hb hne => (Below.heap_alloc _ _ _ (Nat.lt_of_lt_of_le hb h.size)).trans (h.block b hb hne)⟩
theorem grown_set {W W' : World} {o : Option Nat} (h : W.grownBy W' o) (p : Addr) (v : Value) (hp : W.heap.size ≤ p.block ∨ o = some p.block) : W.grownBy (W'.setCell p v) o :=
  ⟨h.os, h.tape, h.output, Nat.le_trans h.size (by simp), fun b hb hne => (heap_setCell_other _ _ _ _ (by
    intro e
    rcases hp with hp | hp
    · omega
    · exact hne (by rw [hp, e]))).trans (h.block b hb hne)⟩
/-- An owned row of nodes, apart from the parser's box and from each other. -/
def NdOwn (lo B P0 : Nat) (W : World) (base : Nat) (v : Value) (A : List Nd) : Prop :=
  ∃ X, NdsOn (fun b => Sb lo B P0 base b ∧ b < W.heap.size ∧ v.ownBlock ≠ some b) W A X ∧ W.ownsRow base 26 8 v A.length X.flatten
theorem NdOwn.nil (lo B P0 : Nat) (W : World) (base : Nat) : NdOwn lo B P0 W base (.slice none 0 0) [] := ⟨[], NdsOn.nil _ _, World.ownsRow_nil _ _ _ _⟩
theorem NdOwn.grown {lo B P0 : Nat} {W W' : World} {base : Nat} {v : Value} {A : List Nd} (hB : B < P0) (hP : P0 ≤ base) (h : NdOwn lo B P0 W base v A) (hg : W.grownBy W' (some B)) : NdOwn lo B P0 W' base v A := by
  obtain ⟨X, h1, h2⟩ := h
  refine ⟨X, (h1.kept hg.size (fun b hb hlt => hg.block b hlt (fun e => (hb.1.ne hB hP) (by injection e)))).mono (fun b hb => ⟨hb.1, Nat.lt_of_lt_of_le hb.2.1 hg.size, hb.2.2⟩), h2.kept hg ?_⟩
  cases hv : v.ownBlock with
  | none => exact .inl rfl
  | some g =>
    refine .inr fun e => ?_
    injection e with e
    have := (World.ownsRow.lt h2 g hv).1
    omega
theorem NdOwn.lt {lo B P0 : Nat} {W : World} {base : Nat} {v : Value} {A : List Nd} (h : NdOwn lo B P0 W base v A) : ∀ b, v.ownBlock = some b → base ≤ b ∧ b < W.heap.size := by
  obtain ⟨X, _, h2⟩ := h
  exact fun b hb => World.ownsRow.lt h2 b hb
theorem NdOwn.slice {lo B P0 : Nat} {W : World} {base : Nat} {v : Value} {A : List Nd} (h : NdOwn lo B P0 W base v A) : ∃ a cap, v = .slice a A.length cap := by
  obtain ⟨X, _, h2⟩ := h
  rcases h2.2 with ⟨e, e0⟩ | ⟨g, cap, cur, e, _⟩
  · exact ⟨none, 0, by rw [e, e0]⟩
  · exact ⟨_, _, e⟩
theorem NdOn.one {S : Nat → Prop} {W : World} {x : Nd} {cs : List Value} (h : NdOn S W x cs) : ∀ u ∈ cs, u.oneCell' = true := by
  cases h with
  | mk cs hkk hset hname hlen hrow hsub =>
    obtain ⟨a, c, hv, _⟩ := hset.1
    intro u hu
    simp only [List.mem_cons, List.not_mem_nil, or_false] at hu
    rcases hu with rfl | rfl | rfl | rfl | rfl | rfl | rfl | rfl <;> first | rfl | (rw [hv]; rfl)
/-- One node more. -/
theorem append_nd {lo B P0 : Nat} (W : World) (base : Nat) (v : Value) (A : List Nd) (hv : NdOwn lo B P0 W base v A) (hb0 : base ≤ W.heap.size) (hA : A.length ≤ 1000000) (x : Nd) (cs : List Value)
    (bt : Nat) (hnews : ∀ j u, cs[j]? = some u → W.cell? ((⟨bt, 0, none⟩ : Addr).add j) = some u) (hx : NdOn (fun b => Sb lo B P0 base b ∧ b < W.heap.size ∧ v.ownBlock ≠ some b) W x cs) (c : Nat) :
    ∃ v' W', (Builtin.append_ #[24, 24] 24 #[v, .slice (some ⟨bt, 0, none⟩) 1 c]).run Tryz.prog W = .ok v' W' ∧ NdOwn lo B P0 W' base v' (A ++ [x]) ∧ Below base W W' ∧ W.grownBy W' v.ownBlock := by
  obtain ⟨i0, hi, hz0, hz1, hz2⟩ := info_parts Tryz.infoNodeP
  obtain ⟨X, hX1, hX2⟩ := hv
  obtain ⟨gg, cap2, W2, hrun, hown, hgrow, hat, hlt2⟩ := run_append_lies (P := Tryz.prog) W 24 24 base 26 i0 _ 8 104 Tryz.underNodesP hi hz0 hz1 hz2 rfl (by omega) _ A.length X.flatten hX2
    ⟨bt, 0, none⟩ 1 c cs (by rw [hx.is.len]) hnews hx.one (by omega) (by unfold maxLen; omega) (by omega) hb0 _ rfl
  have hkeep : ∀ b, Sb lo B P0 base b ∧ b < W.heap.size ∧ v.ownBlock ≠ some b → b < W.heap.size → W2.heap[b]? = W.heap[b]? := fun b hb hlt => hgrow.block b hlt (fun e => hb.2.2 e.symm)
  have hmono : ∀ b, Sb lo B P0 base b ∧ b < W.heap.size ∧ v.ownBlock ≠ some b → Sb lo B P0 base b ∧ b < W2.heap.size ∧ (Value.slice (some ⟨gg, 0, none⟩) (A.length + 1) cap2).ownBlock ≠ some b := fun b hb => by
    refine ⟨hb.1, Nat.lt_of_lt_of_le hb.2.1 hgrow.size, fun e => ?_⟩
    have e2 : gg = b := by injection e
    rcases hat with h | h
    · exact hb.2.2 (by rw [h, e2])
    · have := hb.2.1
      omega
  refine ⟨_, _, hrun, ⟨X ++ [cs], ?_, by simpa using hown⟩, (Below.refl base W).grown hgrow hb0 fun j ej => (World.ownsRow.lt hX2 j ej).1, hgrow⟩
  exact ((hX1.snoc hx).kept hgrow.size hkeep).mono hmono
/-- A row of nodes that is not empty, laid open. -/
theorem NdOwn.at {lo B P0 : Nat} {W : World} {base : Nat} {v : Value} {A : List Nd} (h : NdOwn lo B P0 W base v A) (h0 : 0 < A.length) : ∃ g cap, v = .slice (some ⟨g, 0, none⟩) A.length cap ∧ base ≤ g ∧ g < W.heap.size ∧ A.length ≤ cap ∧ cap ≤ maxLen ∧
    ∀ j (hj : j < A.length), ∃ cs, NdP lo B P0 base W A[j] cs ∧ ∀ q, q < 8 → W.cell? ⟨g, j * 8 + q, none⟩ = cs[q]? := by
  obtain ⟨X, h1, h2⟩ := h
  have h2' := h2
  rcases h2.2 with ⟨_, e⟩ | ⟨g, cap, cur, e, hb, hg, h3, h4, _⟩
  · omega
  · subst e
    refine ⟨g, cap, rfl, hb, (Array.getElem?_eq_some_iff.1 hg).1, h3, h4, fun j hj => ?_⟩
    obtain ⟨x, hx, hn⟩ := h1.2 j hj
    refine ⟨x, hn.mono (fun b hb => ⟨hb.1, hb.2.1⟩), fun q hq => ?_⟩
    have := World.ownsRow.cellAt h2' (j * 8 + q) (by omega)
    rw [this]
    exact flat8_at X h1.is.len8 j q x hx hq
/-- A node whose parts are an owned row. -/
theorem NdOwn.node {lo B P0 : Nat} {W : World} {base : Nat} {v : Value} {A : List Nd} (h : NdOwn lo B P0 W base v A) (h0 : 0 < A.length) (hlen : A.length ≤ 8796093022208) {k num mn mx : Int} {name : ByteArray} {lz : Bool} (hk : I64 k ∧ I64 num ∧ I64 mn ∧ I64 mx) (hname : name.size ≤ 140737488351232) :
    NdP lo B P0 base W (.mk k [] num name mn mx lz A) [.int .i64 k, .slice none 0 0, .int .i64 num, .string name, .int .i64 mn, .int .i64 mx, .bool lz, v] := by
  obtain ⟨X, h1, h2⟩ := h
  rcases h2.2 with ⟨_, e⟩ | ⟨g, cap, cur, e, hb, hg, h3, h4, h5, h6⟩
  · omega
  · subst e
    refine NdOn.row (X := X) (h1.mono (fun b hb => ⟨hb.1, hb.2.1⟩)) (S := fun b => Sb lo B P0 base b ∧ b < W.heap.size) (g := g) ⟨.inr hb, (Array.getElem?_eq_some_iff.1 hg).1⟩ hg (fun j hj => ?_) hlen hk RRowOn.nil hname
    rw [← h6]
    have hl := h2.1
    rw [List.getElem?_take_of_lt (by omega)]
    simp
/-- A row made of one node. -/
theorem ndOwn_lit {lo B P0 : Nat} (W : World) (base : Nat) (hb : base ≤ W.heap.size) (x : Nd) (cs : List Value) (hx : NdP lo B P0 base W x cs) : NdOwn lo B P0 (W.alloc (.cells cs.toArray 26)) base (.slice (some ⟨W.heap.size, 0, none⟩) 1 1) [x] := by
  have h8 := hx.is.len
  refine ⟨[cs], ?_, ?_⟩
  · have h1 : NdsOn (fun b => Sb lo B P0 base b ∧ b < W.heap.size) W [x] [cs] := by simpa using (NdsOn.nil (fun b => Sb lo B P0 base b ∧ b < W.heap.size) W).snoc hx
    refine (h1.kept (W' := W.alloc (.cells cs.toArray 26)) (by simp) (fun b hb hlt => Below.heap_alloc _ _ _ hlt)).mono (fun b hb => ⟨hb.1, by simp; omega, ?_⟩)
    intro e
    have : W.heap.size = b := by injection e
    omega
  · have := World.ownsRow_lit (base := base) (e := 26) (size := 8) W cs.toArray 1 hb (by unfold maxLen; omega) (by simp [h8])
    simpa using this
end Go.Proofs.YtanffablfgnioaaGreatDoor
namespace Go.Proofs.YtanffablfgnioaaGreatDoor
open Go.RowKit
open Lx (Tk)
open Ps (TL)
set_option linter.unusedVariables false
/-- A list of tokens that lies in certain blocks. -/
def TkOn (S : Nat → Prop) (W : World) (v : Value) (L : TL) : Prop :=
  ∃ b o0 cap, v = .slice (some ⟨b, o0, none⟩) L.length cap ∧ S b ∧ b < W.heap.size ∧ L.length ≤ cap ∧ cap ≤ maxLen ∧
    ∀ j (hj : j < L.length), ∃ vs out, Br.SetIs L[j].2.cls out ∧ RRowOn S W vs out ∧ ∀ q, q < 8 → W.cell? ⟨b, o0 + j * 8 + q, none⟩ = (TkCells L[j].1 L[j].2 vs)[q]?
theorem TkOn.kept {S : Nat → Prop} {W W' : World} {v : Value} {L : TL} (h : TkOn S W v L) (hs : W.heap.size ≤ W'.heap.size) (hk : ∀ b, S b → b < W.heap.size → W'.heap[b]? = W.heap[b]?) : TkOn S W' v L := by
  obtain ⟨b, o0, cap, e, hS, hlt, h1, h2, h3⟩ := h
  refine ⟨b, o0, cap, e, hS, Nat.lt_of_lt_of_le hlt hs, h1, h2, fun j hj => ?_⟩
  obtain ⟨vs, out, k1, k2, k3⟩ := h3 j hj
  exact ⟨vs, out, k1, k2.kept hs hk, fun q hq => (cell_of_blk (hk b hS hlt) _).trans (k3 q hq)⟩
/-- The first token, laid open; the rest. -/
theorem TkOn.head {S : Nat → Prop} {W : World} {v : Value} {p : Int × Tk} {L : TL} (h : TkOn S W v (p :: L)) : ∃ b o0 cap va vl vc out, v = .slice (some ⟨b, o0, none⟩) (L.length + 1) cap ∧ L.length + 1 ≤ cap ∧ cap ≤ maxLen ∧ S b ∧ b < W.heap.size ∧
    Br.SetIs p.2.cls out ∧ RRowOn S W (.slice va vl vc) out ∧ vl = out.length ∧
    W.cell? ⟨b, o0, none⟩ = some (.int .i64 p.2.kind) ∧ W.cell? ⟨b, o0 + 1, none⟩ = some (.int .i64 p.1) ∧ W.cell? ⟨b, o0 + 2, none⟩ = some (.int .i64 p.2.num) ∧ W.cell? ⟨b, o0 + 3, none⟩ = some (.string p.2.name) ∧
    W.cell? ⟨b, o0 + 4, none⟩ = some (.int .i64 p.2.mn) ∧ W.cell? ⟨b, o0 + 5, none⟩ = some (.int .i64 p.2.mx) ∧ W.cell? ⟨b, o0 + 6, none⟩ = some (.bool p.2.lazy) ∧ W.cell? ⟨b, o0 + 7, none⟩ = some (.slice va vl vc) ∧
    TkOn S W (.slice (some ⟨b, o0 + 8, none⟩) L.length (cap - 1)) L := by
  obtain ⟨b, o0, cap, e, hS, hlt, h1, h2, h3⟩ := h
  have h1' : L.length + 1 ≤ cap := h1
  obtain ⟨vs, out, k1, k2, k3⟩ := h3 0 (by simp)
  obtain ⟨va, vc, hv, _⟩ := k2.1
  subst hv
  refine ⟨b, o0, cap, va, out.length, vc, out, e, h1', h2, hS, hlt, k1, k2, rfl, k3 0 (by omega), k3 1 (by omega), k3 2 (by omega), k3 3 (by omega), k3 4 (by omega), k3 5 (by omega), k3 6 (by omega), k3 7 (by omega), ?_⟩
  refine ⟨b, o0 + 8, cap - 1, rfl, hS, hlt, by omega, by omega, fun j hj => ?_⟩
  obtain ⟨us, out2, i1, i2, i3⟩ := h3 (j + 1) (by simpa using hj)
  refine ⟨us, out2, i1, i2, fun q hq => ?_⟩
  rw [show o0 + 8 + j * 8 + q = o0 + (j + 1) * 8 + q by omega]
  exact i3 q hq
/-- What is so of each token of a pattern. -/
def TokOk (p : Int × Tk) : Prop := (0 ≤ p.1 ∧ p.1 ≤ 1000000) ∧ I64 p.2.num ∧ I64 p.2.mn ∧ I64 p.2.mx ∧ p.2.name.size ≤ 4096 ∧ (p.2.kind = 9 → p.2.num = 0 ∨ p.2.num = 1) ∧ (p.2.kind = 13 → ∃ Xs n, Br.brack p.2.name = .ok Xs n)
/-- The parser's state. -/
structure PSt (lo : Nat) (W : World) (B P0 : Nat) (v : Value) (L : TL) (f g : Int) : Prop where
  box : W.heap[B]? = some (.cells #[v, .int .i64 f, .int .i64 g] 41 (0, 0))
  row : TkOn (fun b => b < P0 ∧ b ≠ B ∧ lo ≤ b) W v L
  ends : Ps.Ends L
  tok : ∀ p ∈ L, TokOk p
  hB : B < P0
  hP : P0 ≤ W.heap.size
  len : L.length ≤ 200000
  g0 : 0 ≤ g
  g1 : g + (L.length : Int) ≤ 400000
theorem PSt.cells {W : World} {lo B P0 : Nat} {v : Value} {L : TL} {f g : Int} (h : PSt lo W B P0 v L f g) : W.cell? ⟨B, 0, none⟩ = some v ∧ W.cell? ⟨B, 1, none⟩ = some (.int .i64 f) ∧ W.cell? ⟨B, 2, none⟩ = some (.int .i64 g) ∧
    W.frozen? ⟨B, 0, none⟩ = false ∧ W.frozen? ⟨B, 1, none⟩ = false ∧ W.frozen? ⟨B, 2, none⟩ = false := by
  have hb := h.box
  refine ⟨by simp [World.cell?, hb], by simp [World.cell?, hb], by simp [World.cell?, hb], by simp [World.frozen?, hb], by simp [World.frozen?, hb], by simp [World.frozen?, hb]⟩
theorem PSt.cons {W : World} {lo B P0 : Nat} {v : Value} {L : TL} {f g : Int} (h : PSt lo W B P0 v L f g) : ∃ p M, L = p :: M := by
  have := h.ends.pos
  cases L with
  | nil => simp at this
  | cons p M => exact ⟨p, M, rfl⟩
/-- Memory grows, the parser's box stands. -/
theorem PSt.below {W W' : World} {lo B P0 : Nat} {v : Value} {L : TL} {f g : Int} (h : PSt lo W B P0 v L f g) (hb : Below W.heap.size W W') : PSt lo W' B P0 v L f g :=
  ⟨(hb.block B (Array.getElem?_eq_some_iff.1 h.box).1).trans h.box, h.row.kept hb.size (fun b _ hlt => hb.block b hlt), h.ends, h.tok, h.hB, Nat.le_trans h.hP hb.size, h.len, h.g0, h.g1⟩
set_option maxRecDepth 100000 in
set_option maxHeartbeats 2000000 in
theorem kind_any {W : World} {lo B P0 : Nat} {v : Value} {L : TL} {f g : Int} (h : PSt lo W B P0 v L f g) : Calls Tryz.prog 19 #[.pointer (some ⟨B, 0, none⟩)] W fun e w' => e = .returned (.int .i64 (Ps.kd L)) ∧ w' = W := by
  obtain ⟨p, M, rfl⟩ := h.cons
  obtain ⟨c0, c1, c2, z0, z1, z2⟩ := h.cells
  obtain ⟨b, o0, cap, va, vl, vc, out, rfl, h1, h2, hS, hlt, k1, k2, k3, q0, q1, q2, q3, q4, q5, q6, q7, hr⟩ := h.row.head
  have hn : (0 : Int) < ((M.length + 1 : Nat) : Int) := by omega
  obtain ⟨n, hn2⟩ : ∃ n, M.length + 1 = n := ⟨_, rfl⟩
  rw [hn2] at c0 hn
  clear h hr k2 k1 hn2 h1
  go_enter Tryz.func19, Tryz.ntmps19
  go_wp2
  go_ret
  exact ⟨rfl, rfl⟩
set_option maxRecDepth 100000 in
set_option maxHeartbeats 2000000 in
theorem at_any {W : World} {lo B P0 : Nat} {v : Value} {L : TL} {f g : Int} (h : PSt lo W B P0 v L f g) : Calls Tryz.prog 21 #[.pointer (some ⟨B, 0, none⟩)] W fun e w' => e = .returned (.int .i64 (Ps.pl L)) ∧ w' = W := by
  obtain ⟨p, M, rfl⟩ := h.cons
  obtain ⟨c0, c1, c2, z0, z1, z2⟩ := h.cells
  obtain ⟨b, o0, cap, va, vl, vc, out, rfl, h1, h2, hS, hlt, k1, k2, k3, q0, q1, q2, q3, q4, q5, q6, q7, hr⟩ := h.row.head
  have hn : (0 : Int) < ((M.length + 1 : Nat) : Int) := by omega
  obtain ⟨n, hn2⟩ : ∃ n, M.length + 1 = n := ⟨_, rfl⟩
  rw [hn2] at c0 hn
  clear h hr k2 k1 hn2 h1
  go_enter Tryz.func21, Tryz.ntmps21
  go_wp2
  go_ret
  exact ⟨rfl, rfl⟩
set_option maxRecDepth 100000 in
set_option maxHeartbeats 2000000 in
theorem hasFlag_any {W : World} {lo B P0 : Nat} {v : Value} {L : TL} {f g : Int} (h : PSt lo W B P0 v L f g) (x : Int) : Calls Tryz.prog 93 #[.pointer (some ⟨B, 0, none⟩), .int .i64 x] W fun e w' => e = .returned (.bool (Ps.hasP f x)) ∧ w' = W := by
  obtain ⟨c0, c1, c2, z0, z1, z2⟩ := h.cells
  clear h
  go_enter Tryz.func93, Tryz.ntmps93
  go_wp2
  go_ret
  exact ⟨rfl, rfl⟩
set_option maxRecDepth 100000 in
set_option maxHeartbeats 2000000 in
theorem fail_any (W : World) (a c : Int) : Calls Tryz.prog 20 #[.int .i64 a, .int .i64 c] W fun e w' => e = .panicked [{ v := .iface 55 (.agg #[.int .i64 a, .int .i64 c]), recovered := false }] ∧ Below W.heap.size W w' := by
  go_enter Tryz.func20, Tryz.ntmps20
  go_wp2
  exact ⟨rfl, rfl, Below.refl _ _⟩
theorem PSt.turned {W W' : World} {lo B P0 : Nat} {v v' : Value} {L L' : TL} {f f' g g' : Int} (h : PSt lo W B P0 v L f g) (hg : W.grownBy W' (some B)) (hbox : W'.heap[B]? = some (.cells #[v', .int .i64 f', .int .i64 g'] 41 (0, 0)))
    (hrow : TkOn (fun b => b < P0 ∧ b ≠ B ∧ lo ≤ b) W v' L') (hE : Ps.Ends L') (hM : ∀ p ∈ L', p ∈ L) (hlen : L'.length ≤ L.length) (h0 : 0 ≤ g') (h1 : g' + (L'.length : Int) ≤ 400000) : PSt lo W' B P0 v' L' f' g' :=
  ⟨hbox, hrow.kept hg.size (fun b hb hlt => hg.block b hlt (fun e => hb.2.1 (by injection e))), hE, fun p hp => h.tok p (hM p hp), h.hB, Nat.le_trans h.hP hg.size, Nat.le_trans hlen h.len, h0, h1⟩
theorem heap_alloc_new' (W : World) (o : Obj) (n : Nat) (h : W.heap.size = n) : (W.alloc o).heap[n]? = some o := by subst h; exact heap_alloc_new W o
/-- The way out of a function whose one result is a token, or a node, in a box. -/
theorem ret_tk1 {fn : Func} {p : Tmp} {R : Ending → World → Prop} {a : Act} {w : World} (h : fn.results = #[.cell p 39]) (g : Nat) (cs : Array Value)
    (hp : a.tmps.getD p undef = .pointer (some ⟨g, 0, none⟩)) (hg : w.heap[g]? = some (.cells cs 39 (0, 0))) (h8 : cs.size = 8) (hd : a.defers = [])
    (hR : R (.returned (.agg cs)) w) : bodyPost Tryz.prog fn R .ret a w := by
  have hi : (Tryz.prog.info? 39).map (·.size) = some cs.size := by rw [h8]; kernel_rfl
  have hl : (loadVar 39 ⟨g, 0, none⟩).run Tryz.prog w = .ok (.agg cs) w := run_loadVar_row w g _ _ cs _ _ hg Tryz.underlying39 rfl hi
  refine ⟨hd, _, ?_, hR⟩
  have hp' : a.tmps[p]?.getD undef = .pointer (some ⟨g, 0, none⟩) := by simpa using hp
  simp [results, h, hp', asAddr, hl, Sem.run_bind]
theorem ret_nd1 {fn : Func} {p : Tmp} {R : Ending → World → Prop} {a : Act} {w : World} (h : fn.results = #[.cell p 26]) (g : Nat) (cs : Array Value)
    (hp : a.tmps.getD p undef = .pointer (some ⟨g, 0, none⟩)) (hg : w.heap[g]? = some (.cells cs 26 (0, 0))) (h8 : cs.size = 8) (hd : a.defers = [])
    (hR : R (.returned (.agg cs)) w) : bodyPost Tryz.prog fn R .ret a w := by
  have hi : (Tryz.prog.info? 26).map (·.size) = some cs.size := by rw [h8]; kernel_rfl
  have hl : (loadVar 26 ⟨g, 0, none⟩).run Tryz.prog w = .ok (.agg cs) w := run_loadVar_row w g _ _ cs _ _ hg Tryz.underlying26 rfl hi
  refine ⟨hd, _, ?_, hR⟩
  have hp' : a.tmps[p]?.getD undef = .pointer (some ⟨g, 0, none⟩) := by simpa using hp
  simp [results, h, hp', asAddr, hl, Sem.run_bind]
/-- What next hands back. -/
def NextPost (lo B P0 : Nat) (p : Int × Tk) (M : TL) (f g : Int) (W : World) (e : Ending) (w' : World) : Prop :=
  ∃ va vl vc out v', e = .returned (tkV p.1 p.2 (.slice va vl vc)) ∧ Br.SetIs p.2.cls out ∧ RRowOn (fun b => b < P0 ∧ b ≠ B ∧ lo ≤ b) w' (.slice va vl vc) out ∧ vl = out.length ∧ PSt lo w' B P0 v' M f g ∧ W.grownBy w' (some B)
set_option maxRecDepth 100000 in
set_option maxHeartbeats 2000000 in
theorem next_any {W : World} {lo B P0 : Nat} {v : Value} {p : Int × Tk} {M : TL} {f g : Int} (h : PSt lo W B P0 v (p :: M) f g) (h0 : p.2.kind ≠ 0) : Calls Tryz.prog 38 #[.pointer (some ⟨B, 0, none⟩)] W (NextPost lo B P0 p M f g W) := by
  have H := Lib.hid h
  obtain ⟨c0, c1, c2, z0, z1, z2⟩ := h.cells
  have hE : Ps.Ends M := h.ends.tail h0
  have hpos := hE.pos
  obtain ⟨b, o0, cap, va, vl, vc, out, rfl, h1, h2, hS, hlt, k1, k2, k3, q0, q1, q2, q3, q4, q5, q6, q7, hr⟩ := h.row.head
  subst k3
  have hB := (Array.getElem?_eq_some_iff.1 h.box).1
  obtain ⟨N, hN⟩ : ∃ N, M.length = N := ⟨_, rfl⟩
  have HN := Lib.hid hN
  have HR := Lib.hid hr
  have HK2 := Lib.hid k2
  have HK1 := Lib.hid k1
  have HE := Lib.hid hE
  rw [hN] at h1 c0 hpos
  have hn : (0 : Int) < ((N + 1 : Nat) : Int) := by omega
  have hn1 : (1 : Int) ≤ ((N + 1 : Nat) : Int) := by omega
  have hcap : ¬ cap = 1 := by omega
  unfold maxLen at h2
  clear h hr k2 k1 hN hE
  go_enter Tryz.func38, Tryz.ntmps38
  go_wp2
  (try simp only [Exit.inBlock, Exit.then])
  obtain ⟨O, hO⟩ : ∃ O : Obj, O = .cells #[.int .i64 p.2.kind, .int .i64 p.1, .int .i64 p.2.num, .string p.2.name, .int .i64 p.2.mn, .int .i64 p.2.mx, .bool p.2.lazy, .slice va out.length vc] 39 := ⟨_, rfl⟩
  have hg : W.grownBy (W.setCell ⟨B, 0, none⟩ (.slice (some ⟨b, o0 + 8, none⟩) N (cap - 1))) (some B) := grown_set (grown_refl _ _) _ _ (.inr rfl)
  have hg2 := grown_alloc (grown_alloc hg O) O
  have hnew := (Below.heap_alloc ((W.setCell ⟨B, 0, none⟩ (.slice (some ⟨b, o0 + 8, none⟩) N (cap - 1))).alloc O) O W.heap.size (by simp)).trans (heap_alloc_new' (W.setCell ⟨B, 0, none⟩ (.slice (some ⟨b, o0 + 8, none⟩) N (cap - 1))) O W.heap.size (by simp))
  have hbx : (((W.setCell ⟨B, 0, none⟩ (.slice (some ⟨b, o0 + 8, none⟩) N (cap - 1))).alloc O).alloc O).heap[B]? = some (.cells #[.slice (some ⟨b, o0 + 8, none⟩) N (cap - 1), .int .i64 f, .int .i64 g] 41 (0, 0)) := by
    refine (Below.heap_alloc _ _ _ (by simp; omega)).trans ((Below.heap_alloc _ _ _ (by simp; omega)).trans ?_)
    have := heap_setCell_same W B 0 _ _ (.slice (some ⟨b, o0 + 8, none⟩) N (cap - 1)) H.out.box
    simpa using this
  have hnew2 : (((W.setCell ⟨B, 0, none⟩ (.slice (some ⟨b, o0 + 8, none⟩) N (cap - 1))).alloc O).alloc O).heap[W.heap.size]? = some O := hnew
  subst hO
  refine ret_tk1 rfl W.heap.size _ rfl hnew2 rfl rfl ?_
  refine ⟨va, _, vc, out, _, rfl, HK1.out, (HK2.out.kept hg2.size (fun b hb hlt => hg2.block b hlt (fun e => hb.2.1 (by injection e)))), rfl, PSt.turned H.out hg2 hbx (by have := HR.out; rwa [HN.out] at this) HE.out (fun q hq => List.mem_cons_of_mem _ hq) (by simp) H.out.g0 (by have := H.out.g1; simp at this; omega), hg2⟩
end Go.Proofs.YtanffablfgnioaaGreatDoor
