/- The landed norm: slices.Repeat of one node: the call. · The reference's tree (burinref06): All: the nodes of a tree, in an owned row of steps (nine cells each). · The landed tree: descend, nodes and its iterator: all nodes that are not too deep, in order. -/
import Derived.Test.YthhdlcckboiecaaGp6
import Derived.Deep.RegionLaw
import Derived.Laws.CopyOwn
import Derived.Test.YthhdlcckboiecaaGp3
import Derived.Test.YthhdlcckboiecaaGp2
import Derived.IntWalk
import Derived.WalkSmall
import Derived.Maps.Range
import Derived.Deep.RegionHeld3
import Derived.Deep.AppendLies
import Derived.RangeFuncBox
import Derived.RangeFuncNested
import Derived.RangeFuncBound
import Derived.RangeFuncCalls
import Derived.RangeFuncLeaves
import Derived.Shelf.Abstract
import Derived.OwnWalkIn
import Derived.TacticsInMore
import Derived.LoopNIn
import Derived.LoopIn
namespace Go.Proofs.Ythhdlcckboiecaa
open Go.RowKit
set_option linter.unusedVariables false
set_option linter.unusedSimpArgs false
set_option maxRecDepth 100000 in
set_option maxHeartbeats 8000000 in
theorem repeatN_any (W : World) (b off c N : Nat) (z : List Value) (hN : N ≤ 1000000) (hz : z.length = 8) (h1 : ∀ v ∈ z, v.oneCell' = true)
    (hc : ∀ j v, z[j]? = some v → W.cell? ⟨b, off + j, none⟩ = some v) (hb : b < W.heap.size) :
    Calls Try.prog 41 #[.slice (some ⟨b, off, none⟩) 1 c, .int .i64 (N : Int)] W fun e w' =>
      ∃ g, e = .returned (.slice (some ⟨g, 0, none⟩) N N) ∧ W.heap.size ≤ g ∧ w'.heap[g]? = some (.cells (repsL z N).toArray 25 (0, 0)) ∧ Below W.heap.size W w' := by
  have mixed : Try.prog.follows .mixedOrders = true := by kernel_rfl
  obtain ⟨i0, hi0, hz0, hz1, hz2⟩ := info_parts Try.infoNodeR
  have HS : (Try.prog.info? 25).map (·.size) = some 8 := by rw [hi0]; simp [hz1]
  have HM : Hid (∀ w : World, Calls Try.prog 57 #[.int .u64 1, .int .u64 (N : Int)] w fun e w' => e = .returned (.tuple #[.int .u64 0, .int .u64 (N : Int)]) ∧ w' = w) := Lib.hid (fun w => by
    have h := mul_any w 1 N (by omega) (by omega)
    rw [Nat.one_mul, Nat.div_eq_of_lt (by omega), Nat.mod_eq_of_lt (by omega)] at h
    exact h)
  have hwN : IntKind.u64.wrap (N : Int) = (N : Int) := by rw [IntKind.wrap_u64]; omega
  have hwM : IntKind.i64.wrap (N : Int) = (N : Int) := by rw [IntKind.wrap_i64]; omega
  have hmk : ∀ w', (Instr.makeSlice 23 (.int .i64 (N : Int)) (.int .i64 (N : Int))).run Try.prog w' = .ok (.slice (some ⟨w'.heap.size, 0, none⟩) N N) (w'.alloc (.cells (madeCells (Value.agg #[.int .i64 0, .slice none 0 0, .int .i64 0, .string ⟨#[]⟩, .int .i64 0, .int .i64 0, .bool false, .slice none 0 0]).cells (N * 8)) 25)) := fun w' => by
    have := run_make (P := Try.prog) w' 23 25 i0 _ Try.underNodesR hi0 hz0 .i64 .i64 (N : Int) (N : Int) (by omega) (Int.le_refl _) (by rw [hz2]; omega) (by omega)
    rw [hz1, Int.toNat_natCast] at this
    exact this
  have hsz := size_madeCells (Value.agg #[.int .i64 0, .slice none 0 0, .int .i64 0, .string ⟨#[]⟩, .int .i64 0, .int .i64 0, .bool false, .slice none 0 0]).cells (N * 8)
  obtain ⟨C, hC⟩ : ∃ C, madeCells (Value.agg #[.int .i64 0, .slice none 0 0, .int .i64 0, .string ⟨#[]⟩, .int .i64 0, .int .i64 0, .bool false, .slice none 0 0]).cells (N * 8) = C := ⟨_, rfl⟩
  rw [hC] at hmk hsz
  have HC := Lib.hid hsz
  clear hC hsz
  go_enter Try.func41, Try.ntmps41
  go_wp2_with fail
  refine (HM.out _).mono ?_
  rintro e w1 ⟨rfl, rfl⟩
  have hcp0 : ∀ ty, (Builtin.copy_ #[23, 23] ty #[.slice (some ⟨w1.heap.size, 0, none⟩) N N, .slice (some ⟨b, off, none⟩) 1 c]).run Try.prog (w1.alloc (.cells C 25)) =
      .ok (goInt (Nat.min 1 N)) ((w1.alloc (.cells C 25)).setRow w1.heap.size (C.toList.take (0 * 8) ++ repsL z (Nat.min 1 N) ++ C.toList.drop (0 * 8 + (repsL z (Nat.min 1 N)).length)).toArray) := fun ty =>
    copy_rowS (P := Try.prog) _ _ _ ty 25 8 w1.heap.size (0 * 8) N N ⟨b, off, none⟩ 1 c C 25 (repsL z (Nat.min 1 N)) Try.underNodesR HS (heap_alloc_new _ _) (repsL_len z hz _)
      (fun j v hv => by
        have hv2 : z[j]? = some v := by
          obtain ⟨hj, -⟩ := List.getElem?_eq_some_iff.mp hv
          rw [repsL_len z hz] at hj
          have := Nat.min_le_left 1 N
          rw [repsL_get z hz _ j hj, Nat.mod_eq_of_lt (by have : Nat.min 1 N * 8 ≤ 1 * 8 := Nat.mul_le_mul_right 8 this; omega)] at hv
          exact hv
        rw [Addr.add_lit]
        exact ((((Below.refl w1.heap.size w1).alloc (Nat.le_refl _) (.cells C 25)).cell (p := ⟨b, off + j, none⟩) hb)).trans (hc j v hv2))
      (by have h2 := repsL_len z hz (Nat.min 1 N); have h3 := Nat.min_le_right 1 N; have h4 : Nat.min 1 N * 8 ≤ N * 8 := Nat.mul_le_mul_right 8 h3; have := HC.out; omega)
      (fun v hv => h1 v (repsL_mem hv))
  have HU0 : Hid (RepTo (C.toList.take (0 * 8) ++ repsL z (Nat.min 1 N) ++ C.toList.drop (0 * 8 + (repsL z (Nat.min 1 N)).length)).toArray z N (0 + Nat.min 1 N)) := Lib.hid (RepTo.step ⟨HC.out, by simp [repsL]⟩ hz (by rw [Nat.zero_add]; exact Nat.min_le_right 1 N))
  rw [Nat.zero_add (Nat.min 1 N)] at HU0
  obtain ⟨C1, hC1⟩ : ∃ C1, (C.toList.take (0 * 8) ++ repsL z (Nat.min 1 N) ++ C.toList.drop (0 * 8 + (repsL z (Nat.min 1 N)).length)).toArray = C1 := ⟨_, rfl⟩
  rw [hC1] at HU0
  simp only [hC1] at hcp0
  have HG0 : Hid (((w1.alloc (.cells C 25)).setRow w1.heap.size C1).heap[w1.heap.size]? = some (.cells C1 25 (0, 0))) := Lib.hid (setRow_heap _ _ _ _ _ _ (heap_alloc_new _ _))
  have HB0 : Hid (Below w1.heap.size w1 ((w1.alloc (.cells C 25)).setRow w1.heap.size C1)) := Lib.hid (below_setRow ((Below.refl w1.heap.size w1).alloc (Nat.le_refl _) _) (Nat.le_refl _) _)
  obtain ⟨m0, hm0⟩ : ∃ m0, Nat.min 1 N = m0 := ⟨_, rfl⟩
  rw [hm0] at HU0
  simp only [hm0] at hcp0
  have hm1 : m0 ≤ N ∧ (m0 = 1 ∨ N = 0) := by
    have : Nat.min 1 N = min 1 N := rfl
    omega
  obtain ⟨g, hg⟩ : ∃ g, w1.heap.size = g := ⟨_, rfl⟩
  rw [hg] at hcp0 HG0 HB0
  clear hC1 hm0 hc HC
  go_wp2_with (simp only [hcp0])
  go_loopw [8] (fun nv wr => ∃ (k : Nat) (cs : Array Value), k ≤ N ∧ (1 ≤ k ∨ N = 0) ∧ nv = .int .i64 (k : Int) ∧ Hid (wr.heap[g]? = some (.cells cs 25 (0, 0))) ∧ Hid (RepTo cs z N k) ∧ Hid (Below g w1 wr)) (fun nv _ => N - (intOf nv).toNat)
  case atStart => exact ⟨m0, C1, hm1.1, by omega, by go_num, HG0, HU0, HB0⟩
  case round =>
    obtain ⟨k, cs, hk, hk1, rfl, HG, HU, HB⟩ := hrel
    by_cases hkl : k < N
    · obtain ⟨k', hk'⟩ : ∃ k', Nat.min k (N - k) = k' := ⟨_, rfl⟩
      have hk2 : k' ≤ k ∧ k + k' ≤ N ∧ 1 ≤ k' := by
        have : Nat.min k (N - k) = min k (N - k) := rfl
        omega
      have hcp1 : ∀ w : World, w.heap[g]? = some (.cells cs 25 (0, 0)) → ∀ ty dc sc, (Builtin.copy_ #[23, 23] ty #[.slice (some ⟨g, k * 8, none⟩) (N - k) dc, .slice (some ⟨g, 0, none⟩) k sc]).run Try.prog w =
          .ok (goInt k') (w.setRow g (cs.toList.take (k * 8) ++ repsL z k' ++ cs.toList.drop (k * 8 + (repsL z k').length)).toArray) := fun w hw ty dc sc => by
        have h := copy_rowS (P := Try.prog) w 23 23 ty 25 8 g (k * 8) (N - k) dc ⟨g, 0, none⟩ k sc cs 25 (repsL z k') Try.underNodesR HS hw (by rw [hk']; exact repsL_len z hz _)
          (fun j v hv => by
            rw [Addr.add_lit, Nat.zero_add, cellrowN hw]
            exact HU.out.get hz hk2.1 j v hv)
          (by have h2 := repsL_len z hz k'; have := HU.out.size; omega)
          (fun v hv => h1 v (repsL_mem hv))
        rw [hk'] at h
        exact h
      have HUS := Lib.hid (HU.out.step hz hk2.2.1)
      obtain ⟨C2, hC2⟩ : ∃ C2, (cs.toList.take (k * 8) ++ repsL z k' ++ cs.toList.drop (k * 8 + (repsL z k').length)).toArray = C2 := ⟨_, rfl⟩
      rw [hC2] at HUS
      simp only [hC2] at hcp1
      have HG2 : Hid ((wr.drew.setRow g C2).heap[g]? = some (.cells C2 25 (0, 0))) := Lib.hid (setRow_heap _ _ _ _ _ _ HG.out)
      have HB2 : Hid (Below g w1 (wr.drew.setRow g C2)) := Lib.hid (below_setRow HB.out.drew (Nat.le_refl _) _)
      have k0 : (0 : Int) ≤ (k : Int) := by omega
      have k1 : (k : Int) ≤ (N : Int) := by omega
      have k2 : ¬ (N = k) := by omega
      have hcpD := hcp1 wr.drew HG.out 3 (N - k) N
      clear hC2 hk' hcp1 hcp0
      go_wp2
      go_region
      go_roundw
      case rel => exact ⟨.int .i64 ((k : Int) + (k' : Int)), _, _, _, _, _, _, _, _, _, _, _, _, _, ⟨k + k', C2, hk2.2.1, by omega, by go_num, HG2, HUS, HB2⟩, rfl⟩
      case measure => simp [intOf]; omega
    · obtain rfl : k = N := by omega
      go_wp2
      go_ret
      exact ⟨g, rfl, by omega, by rw [← HU.out.all]; exact HG.out, by rw [hg]; exact HB.out⟩
end Go.Proofs.Ythhdlcckboiecaa
namespace Go.Proofs.Ythhdlcckboiecaa
open Go.RowKit
set_option linter.unusedVariables false



















theorem Td.flat_succ (l : List Nd) (f : Nd → List (Nat × Nd)) (k : Nat) (m : Nd) (hk : l[k]? = some m) : (l.take (k + 1)).flatMap f = (l.take k).flatMap f ++ f m := by
  obtain ⟨h, rfl⟩ := List.getElem?_eq_some_iff.1 hk
  rw [List.take_succ_eq_append_getElem h, List.flatMap_append]; simp
theorem Td.flat_le (l : List Nd) (f : Nd → List (Nat × Nd)) (k : Nat) : ((l.take k).flatMap f).length ≤ (l.flatMap f).length := by
  have h : l.flatMap f = (l.take k).flatMap f ++ (l.drop k).flatMap f := by rw [← List.flatMap_append, List.take_append_drop]
  rw [h, List.length_append]; omega
theorem Td.all_len_pos (k d : Nat) (n : Nd) : 1 ≤ (Td.all (k + 1) d n).length := by rw [Td.all]; simp











































































































































end Go.Proofs.Ythhdlcckboiecaa
namespace Go.Proofs.Ythhdlcckboiecaa
open Go.RowKit Go.Shelf
attribute [local go_sem] Oper.semAt_some
set_option linter.unusedVariables false
/-- A node with its depth, as the iterator hands it over: its cells read in the world Wb. -/
abbrev NdX (Wb : World) := { x : Nat × Nd × List Value // NdIs Wb x.2.1 x.2.2 }
def encN {Wb : World} (x : NdX Wb) : Array Value := #[.int .i64 (x.1.1 : Int), .agg x.1.2.2.toArray]
def ndP {Wb : World} (x : NdX Wb) : Nat × Nd := (x.1.1, x.1.2.1)
/-- What a round of the caller's loop keeps: all that lay below n0, and all nodes from n1 on. -/
structure KpN (n0 n1 : Nat) (X Y : World) : Prop where
  below : Below n0 X Y
  own : ∀ (k : Nat) (cs : Array Value) (fr : Nat × Nat), n1 ≤ k → X.heap[k]? = some (Obj.cells cs 25 fr) → Y.heap[k]? = some (Obj.cells cs 25 fr)
theorem kpN_t {n0 n1 : Nat} {X Y Z : World} (h : KpN n0 n1 X Y) (k : KpN n0 n1 Y Z) : KpN n0 n1 X Z := ⟨h.below.trans k.below, fun i cs fr hi hx => k.own i cs fr hi (h.own i cs fr hi hx)⟩
theorem KpN.refl (n0 n1 : Nat) (X : World) : KpN n0 n1 X X := ⟨Below.refl _ _, fun _ _ _ _ h => h⟩
theorem kpN_b {n0 n1 : Nat} {w : World} (hn : n0 ≤ w.heap.size) (W : World) (l : Nat) (o o' : Obj) (hl : w.heap.size ≤ l) (h : W.heap[l]? = some o) (hc : o.isCells = false) (hw : o.isWalk = false) : KpN n0 n1 W (W.putObj l o') :=
  ⟨belowK_b hn W l o o' hl h hc hw, fun k cs fr _ hk => by
    have hne : k ≠ l := fun e => by subst e; rw [h] at hk; cases hk; cases hc
    rw [(grownBy_putObj' W l o').block k (Array.getElem?_eq_some_iff.1 hk).1 (fun e => hne (by cases e; rfl))]; exact hk⟩
theorem KpN.of_below {n0 n1 : Nat} {X Y : World} (h : Below X.heap.size X Y) (hn : n0 ≤ X.heap.size) : KpN n0 n1 X Y := ⟨h.mono hn, fun k cs fr _ hk => (h.block k (Array.getElem?_eq_some_iff.1 hk).1).trans hk⟩
theorem KpN.alloc {n0 n1 : Nat} (X : World) (o : Obj) (hn : n0 ≤ X.heap.size) : KpN n0 n1 X (X.alloc o) := .of_below ((Below.refl X.heap.size X).alloc (Nat.le_refl _) o) hn
theorem KpN.set {n0 n1 : Nat} (X : World) (p : Addr) (v : Value) (h0 : n0 ≤ p.block) (h1 : p.block < n1) : KpN n0 n1 X (X.setCell p v) :=
  ⟨(Below.refl n0 X).setCell h0 v, fun k cs fr hk hx => (Below.heap_setCell _ _ _ _ (by omega)).trans hx⟩
/-- A step that turns one block, of another type. -/
theorem KpN.grown {n0 n1 : Nat} {X Y : World} {row : Option Nat} (h : X.grownBy Y row) (hn : n0 ≤ X.heap.size) (hr : ∀ r, row = some r → n0 ≤ r ∧ ∀ cs fr, X.heap[r]? ≠ some (Obj.cells cs 25 fr)) : KpN n0 n1 X Y :=
  ⟨(Below.refl n0 X).grown h hn (fun k hk => (hr k hk).1), fun k cs fr _ hx => by
    rw [h.block k (Array.getElem?_eq_some_iff.1 hx).1 (fun e => (hr k e.symm).2 cs fr hx)]; exact hx⟩
theorem yield_wide {m : Nat} (m' : Nat) {P : Program} {l : Nat} {args : Array Value} {W : World} {R : Ending → World → Prop} (h : YieldAt Fence.wide m P l args W R) : YieldAt Fence.wide m' P l args W R := by
  obtain ⟨fn, tmps, assign, body, hy, h1, h2⟩ := h
  exact ⟨fn, tmps, assign, body, hy, h1, fun c cs _ => h2 c cs (fun d h => by cases h)⟩
def StopsAt (Wb : World) (n0 n1 : Nat) (k d : Nat) (nd : Nd) (J Jx : List (NdX Wb) → World → Prop) (pre : List (NdX Wb)) (W : World) (e : Ending) (W' : World) : Prop :=
  (e = .returned (.bool true) ∧ (∃ xs : List (NdX Wb), xs.map ndP = Td.all k d nd ∧ J (pre ++ xs) W') ∧ KpN n0 n1 W W') ∨
  (e = .returned (.bool false) ∧ ∃ q : List (NdX Wb), q.map ndP <+: Td.all k d nd ∧ Jx (pre ++ q) W')
def DescOk (Wb : World) (l n1 N M : Nat) (J Jx : List (NdX Wb) → World → Prop) (Pd : Nd → Prop) (k : Nat) : Prop :=
  ∀ (d : Nat) (nd : Nd) (cs : List Value) (pre : List (NdX Wb)) (W : World), d + k = M + 1 → NdIs Wb nd cs → Pd nd → Below Wb.heap.size Wb W → J pre W → pre.length + (Td.all k d nd).length ≤ N → n1 ≤ W.heap.size →
    Calls Try.prog 45 #[.agg cs.toArray, .int .i64 (d : Int), .int .i64 (M : Int), .func (.yield l) #[] #[]] W (StopsAt Wb Wb.heap.size n1 k d nd J Jx pre W)
theorem blkc {W : World} {B : Nat} {cs : Array Value} {t : TypeId} (h : W.heap[B]? = some (.cells cs t (0, 0))) (i : Nat) : W.cell? ⟨B, i, none⟩ = cs[i]? := by simp [World.cell?, h]
theorem kp_box {n0 n1 : Nat} {X Y : World} (h : KpN n0 n1 X Y) {B : Nat} {cs : Array Value} (hB : n1 ≤ B) (hx : X.heap[B]? = some (.cells cs 25 (0, 0))) (i : Nat) : Y.cell? ⟨B, i, none⟩ = cs[i]? := by
  have := h.own B cs (0, 0) hB hx
  simp [World.cell?, this]
set_option maxRecDepth 100000 in
set_option maxHeartbeats 4000000 in
theorem desc_step (Wb : World) (l n1 N M : Nat) (hM : M ≤ 100000) (J Jx : List (NdX Wb) → World → Prop) (B0 : Nat) (hJ : AbidesFrom B0 J)
    (Pd : Nd → Prop) (hPd : ∀ n, Pd n → ∀ m ∈ Td.subs n, Pd m)
    (hY : ∀ pre (x : NdX Wb) W, J pre W → Pd x.1.2.1 → pre.length < N → YieldAt Fence.wide 0 Try.prog l (encN x) W fun e W' => (e = .returned (.bool true) ∧ J (pre ++ [x]) W' ∧ KpN Wb.heap.size n1 W W') ∨ (e = .returned (.bool false) ∧ Jx (pre ++ [x]) W'))
    (k : Nat) (ih : 1 ≤ k → DescOk Wb l n1 N M J Jx Pd k) : DescOk Wb l n1 N M J Jx Pd (k + 1) := by
  intro d nd cs pre W hd hnd hpn hb hJ0 hN hn1
  have HPS := Lib.hid (hPd nd hpn)
  have hbs := hb.size
  have hJa : ∀ pre W o, J pre W → J pre (W.alloc o) := fun pre W o h => hJ pre W _ none h (World.grownBy_alloc W o none) (fun r e => by cases e)
  obtain ⟨x, hx⟩ : ∃ x : NdX Wb, x = ⟨(d, nd, cs), hnd⟩ := ⟨_, rfl⟩
  have hallp : 1 ≤ (Td.all (k + 1) d nd).length := Td.all_len_pos k d nd
  have hy := yield_wide (100000) (hY pre x (W.alloc (.cells cs.toArray 25)) (hJa _ _ _ hJ0) (by rw [hx]; exact hpn) (by omega))
  have hxe : encN x = #[.int .i64 (d : Int), .agg cs.toArray] := by rw [hx]; rfl
  rw [hxe] at hy
  have HXP : Hid (ndP x = (d, nd)) := Lib.hid (by rw [hx]; rfl)
  have HALL : Hid (Td.all (k + 1) d nd = (d, nd) :: (Td.subs nd).flatMap (Td.all k (d + 1))) := Lib.hid (by rw [Td.all])
  have HBB := Lib.hid hb
  have HJA := Lib.hid hJa
  have HN := Lib.hid hN
  have IH := Lib.hid ih
  have HND := Lib.hid hnd
  obtain ⟨vs, a, cap, C, hC⟩ := hnd.cells
  have hcs := hC.eq
  have hlen := hC.len
  have HSUB := Lib.hid hC.sub
  have HNEW := Lib.hid (heap_alloc_new W (.cells cs.toArray 25))
  have HKA : Hid (KpN Wb.heap.size n1 W (W.alloc (.cells cs.toArray 25))) := Lib.hid (KpN.alloc W _ (by omega))
  clear hx hxe ih hJa hJ hY hC hb hJ0 hN hallp hnd hPd hpn
  subst hcs
  obtain ⟨L, hL⟩ : ∃ L, (Td.subs nd).length = L := ⟨_, rfl⟩
  rw [hL] at hlen HSUB HNEW hy HKA
  rw [hL]
  have HL := Lib.hid hL
  clear hL
  refine (callsIn_wide (n := 100001)).1 ?_
  refine callsIn_of_wp Try.func45 rfl trivial ?_ rfl
  simp only [Try.ntmps45, List.size_toArray, List.length_cons, List.length_nil, Nat.reduceAdd, Nat.reduceSub, Array.replicate_succ, Array.replicate_zero, List.push_toArray, List.append_toArray, List.nil_append, List.cons_append]
  obtain ⟨fn, tmps, assign, body, hyy, hR⟩ := hy
  gi_wp2
  refine hR.mono ?_
  clear hR hyy
  rintro e W3 (⟨rfl, hJ3, hk3⟩ | ⟨rfl, hJx3⟩)
  · have hbx : W3.cell? ⟨W.heap.size, 7, none⟩ = some (.slice a L cap) := by
      have := kp_box hk3 hn1 HNEW.out 7
      simpa using this
    have HJ3 := Lib.hid hJ3
    have HK3 := Lib.hid (kpN_t HKA.out hk3)
    have HB3 := Lib.hid (HBB.out.trans HK3.out.below)
    clear hJ3 hk3
    by_cases hk0 : k = 0
    · subst hk0
      have hdM : (d : Int) = (M : Int) := by omega
      have hdM' : d = M := by omega
      subst hdM'
      have HE : Hid (Td.all 1 d nd = [(d, nd)]) := Lib.hid (by rw [HALL.out]; simp [Td.all])
      gi_wp2
      go_ret
      exact .inl ⟨rfl, ⟨[x], by rw [HE.out]; simp [HXP.out], HJ3.out⟩, HK3.out⟩
    · have hdM : ¬ (d : Int) = (M : Int) := by omega
      have hdw : IntKind.i64.wrap ((d : Int) + 1) = ((d + 1 : Nat) : Int) := by rw [IntKind.wrap_i64]; omega
      have HIH := Lib.hid (IH.out (by omega))
      have hn3 : n1 ≤ W3.heap.size := by have := HK3.out.below.size; omega
      gi_wp2
      rw [show ((d : Int) == (M : Int)) = false from beq_eq_false_iff_ne.2 (by omega)]
      gi_loopw [10, 22] (fun bx iv wr => ∃ (i : Nat) (xs : List (NdX Wb)), i ≤ L ∧ iv = .int .i64 (i : Int) ∧ Hid (xs.map ndP = ((Td.subs nd).take i).flatMap (Td.all k (d + 1))) ∧ Hid (J (pre ++ (x :: xs)) wr) ∧ Hid (KpN Wb.heap.size n1 W wr)) (fun _ iv _ => L - (intOf iv).toNat)
      case atStart => exact ⟨0, [], Nat.zero_le _, rfl, Lib.hid (by simp), HJ3, HK3⟩
      case round =>
        obtain ⟨i, xs, hi, rfl, HXS, HJS, HKS⟩ := hrel
        by_cases hlt : i < L
        · obtain ⟨b, off, m, u0, u1, u2, u3, u4, u5, u6, u7, rfl, hbl, hm, hnd, q0, q1, q2, q3, q4, q5, q6, q7⟩ := HSUB.out i hlt
          have hbw : Below Wb.heap.size Wb wr := HBB.out.trans HKS.out.below
          have kc : ∀ o v, Wb.cell? ⟨b, o, none⟩ = some v → wr.cell? ⟨b, o, none⟩ = some v := fun o v h => (hbw.cell (p := ⟨b, o, none⟩) hbl).trans h
          replace q0 := kc _ _ q0; replace q1 := kc _ _ q1; replace q2 := kc _ _ q2; replace q3 := kc _ _ q3
          replace q4 := kc _ _ q4; replace q5 := kc _ _ q5; replace q6 := kc _ _ q6; replace q7 := kc _ _ q7
          have hbl2 : b < wr.heap.size := Nat.lt_of_lt_of_le hbl hbw.size
          obtain ⟨f1, f2, f3, f4, F1⟩ := hnd.form
          obtain ⟨rfl, rfl, rfl, rfl, rfl, rfl, rfl, rfl⟩ := F1
          have HFM := Lib.hid (Td.flat_succ (Td.subs nd) (Td.all k (d + 1)) i m hm)
          have hle : (pre ++ (x :: xs)).length + (Td.all k (d + 1) m).length ≤ N := by
            have h1 := HN.out
            have h2 := congrArg List.length HXS.out
            have h3 := congrArg List.length HFM.out
            have h4 := Td.flat_le (Td.subs nd) (Td.all k (d + 1)) (i + 1)
            rw [HALL.out, List.length_cons] at h1
            rw [List.length_map] at h2
            rw [List.length_append] at h3
            rw [List.length_append, List.length_cons]
            omega
          have hwr : n1 ≤ wr.heap.size := by have := HKS.out.below.size; omega
          have hcall := fun o => HIH.out (d + 1) m _ (pre ++ (x :: xs)) (wr.alloc o) (by omega) hnd (HPS.out m (List.mem_of_getElem? hm)) (hbw.alloc hbw.size o) (HJA.out _ _ o HJS.out) hle (by simp; omega)
          have HC := Lib.hid hcall
          have HKW : Hid (∀ o, KpN Wb.heap.size n1 wr (wr.alloc o)) := Lib.hid (fun o => KpN.alloc wr o hbw.size)
          clear kc hm hnd hbw hle hcall
          gi_wp2_with fail
          refine ⟨trivial, ?_⟩
          refine (callsIn_wide.2 (HC.out _)).mono ?_
          rintro e w5 (⟨rfl, ⟨ys, hys, hj5⟩, hk5⟩ | ⟨rfl, q, hq, hx5⟩)
          · have HYS : Hid ((xs ++ ys).map ndP = ((Td.subs nd).take (i + 1)).flatMap (Td.all k (d + 1))) := Lib.hid (by rw [List.map_append, HXS.out, hys, HFM.out])
            have HJ5 : Hid (J (pre ++ (x :: (xs ++ ys))) w5) := Lib.hid (by rw [List.append_assoc] at hj5; exact hj5)
            have HK5 := Lib.hid (kpN_t HKS.out (kpN_t (HKW.out _) hk5))
            clear hys hj5 hk5 q0 q1 q2 q3 q4 q5 q6 q7
            gi_wp2
            go_roundw
            case rel => exact ⟨i + 1, xs ++ ys, by omega, by go_num, HYS, HJ5, HK5⟩
            case measure => simp [intOf]; omega
          · have HQ : Hid ((x :: (xs ++ q)).map ndP <+: Td.all (k + 1) d nd) := Lib.hid (by
              rw [HALL.out, List.map_cons, HXP.out, List.map_append, HXS.out]
              refine List.cons_prefix_cons.2 ⟨rfl, ?_⟩
              refine List.IsPrefix.trans (List.prefix_append_right_inj _ |>.2 hq) ?_
              rw [← HFM.out]
              exact ⟨((Td.subs nd).drop (i + 1)).flatMap (Td.all k (d + 1)), by rw [← List.flatMap_append, List.take_append_drop]⟩)
            have HX5 : Hid (Jx (pre ++ (x :: (xs ++ q))) w5) := Lib.hid (by rw [List.append_assoc] at hx5; exact hx5)
            clear hq hx5 q0 q1 q2 q3 q4 q5 q6 q7
            gi_wp2
            go_ret
            exact .inr ⟨rfl, _, HQ.out, HX5.out⟩
        · obtain rfl : i = L := by omega
          have HE : Hid ((x :: xs).map ndP = Td.all (k + 1) d nd) := Lib.hid (by
            have := HXS.out
            rw [List.take_of_length_le (by rw [HL.out]; exact Nat.le_refl _)] at this
            rw [HALL.out, List.map_cons, HXP.out, this])
          gi_wp2
          go_ret
          exact .inl ⟨rfl, ⟨_, HE.out, HJS.out⟩, HKS.out⟩
  · have HX3 := Lib.hid hJx3
    have HQ : Hid ([x].map ndP <+: Td.all (k + 1) d nd) := Lib.hid (by
      rw [HALL.out, List.map_cons, HXP.out]
      exact List.cons_prefix_cons.2 ⟨rfl, List.nil_prefix⟩)
    clear hJx3
    gi_wp2
    go_ret
    exact .inr ⟨rfl, _, HQ.out, HX3.out⟩
end Go.Proofs.Ythhdlcckboiecaa
