/- slices.Sort, slices.Contains, slices.Index at lists of integers: the library's contracts, laid over this translation. · slices.Sort, slices.Contains, slices.Index at lists of integers, on rows that are owned or read. · The landed fold: the contract of Family, a loop made with a jump. · The landed fold: the ranges of all numbers that are in a pair. · The landed ranges: Union. · The landed ranges: Both. · What Close hands back. -/
import Derived.Shelf.Sort.Plain
import Derived.Shelf.Slices.Turned
import Derived.Test.YtanffablfgnioaaGreatDoorProg
import Derived.Test.YtanffablfgnioaaGreatDoorGp1
import Derived.Sort.OwnSortedInts
import Derived.Test.YtanffablfgnioaaGreatDoorGp26
import Derived.ScopeJumps
import Derived.WalkMore
import Derived.Test.YtanffablfgnioaaGreatDoorGp17
import Derived.Test.YtanffablfgnioaaGreatDoorGp23
import Derived.Test.YtanffablfgnioaaGreatDoorGp6
namespace Go.Proofs
open Go.Shelf
def Tryz.sortInts_ren : Go.Shelf.Ren := ⟨fun | 189 => 151 | 125 => 178 | 257 => 183 | 128 => 204 | 129 => 169 | 294 => 206 | 295 => 207 | 296 => 208 | 297 => 209 | 298 => 210 | 299 => 211 | 216 => 212 | 300 => 213 | 301 => 214 | 328 => 223 | 329 => 219 | 330 => 220 | 331 => 224 | 332 => 225 | 215 => 179 | 343 => 229 | n => n, fun | 28 => 113 | 3 => 3 | 46 => 107 | 0 => 0 | 51 => 191 | 53 => 158 | 4 => 4 | 183 => 217 | 182 => 216 | 131 => 103 | 5 => 5 | 9 => 9 | 218 => 243 | 222 => 247 | 228 => 262 | 229 => 75 | n => n, fun | n => n⟩
theorem Tryz.sortInts : Go.Proofs.Lays.n189 Tryz.prog Tryz.sortInts_ren := {
  mixed := by kernel_rfl
  f125 := Tryz.func178.trans (congrArg some (by kernel_rfl))
  f128 := Tryz.func204.trans (congrArg some (by kernel_rfl))
  f129 := Tryz.func169.trans (congrArg some (by kernel_rfl))
  f189 := Tryz.func151.trans (congrArg some (by kernel_rfl))
  f215 := Tryz.func179.trans (congrArg some (by kernel_rfl))
  f216 := Tryz.func212.trans (congrArg some (by kernel_rfl))
  f257 := Tryz.func183.trans (congrArg some (by kernel_rfl))
  f294 := Tryz.func206.trans (congrArg some (by kernel_rfl))
  f295 := Tryz.func207.trans (congrArg some (by kernel_rfl))
  f296 := Tryz.func208.trans (congrArg some (by kernel_rfl))
  f297 := Tryz.func209.trans (congrArg some (by kernel_rfl))
  f298 := Tryz.func210.trans (congrArg some (by kernel_rfl))
  f299 := Tryz.func211.trans (congrArg some (by kernel_rfl))
  f300 := Tryz.func213.trans (congrArg some (by kernel_rfl))
  f301 := Tryz.func214.trans (congrArg some (by kernel_rfl))
  f328 := Tryz.func223.trans (congrArg some (by kernel_rfl))
  f329 := Tryz.func219.trans (congrArg some (by kernel_rfl))
  f330 := Tryz.func220.trans (congrArg some (by kernel_rfl))
  f331 := Tryz.func224.trans (congrArg some (by kernel_rfl))
  f332 := Tryz.func225.trans (congrArg some (by kernel_rfl))
  f343 := Tryz.func229.trans (congrArg some (by kernel_rfl))
  t0 := Tryz.underlying0
  a0 := Tryz.isAgg0
  z0 := Tryz.sizeOf0
  v0 := Tryz.zeroValue0
  t3 := Tryz.underlying3
  a3 := Tryz.isAgg3
  z3 := Tryz.sizeOf3
  v3 := Tryz.zeroValue3
  t4 := Tryz.underlying4
  a4 := Tryz.isAgg4
  z4 := Tryz.sizeOf4
  v4 := Tryz.zeroValue4
  t5 := Tryz.underlying5
  a5 := Tryz.isAgg5
  z5 := Tryz.sizeOf5
  v5 := Tryz.zeroValue5
  t9 := Tryz.underlying9
  a9 := Tryz.isAgg9
  z9 := Tryz.sizeOf9
  v9 := Tryz.zeroValue9
  t28 := Tryz.underlying113
  a28 := Tryz.isAgg113
  z28 := Tryz.sizeOf113
  v28 := Tryz.zeroValue113
  t46 := Tryz.underlying107
  a46 := Tryz.isAgg107
  z46 := Tryz.sizeOf107
  v46 := Tryz.zeroValue107
  t51 := Tryz.underlying191
  a51 := Tryz.isAgg191
  z51 := Tryz.sizeOf191
  v51 := Tryz.zeroValue191
  t53 := Tryz.underlying158
  a53 := Tryz.isAgg158
  z53 := Tryz.sizeOf158
  v53 := Tryz.zeroValue158
  t131 := Tryz.underlying103
  a131 := Tryz.isAgg103
  z131 := Tryz.sizeOf103
  v131 := Tryz.zeroValue103
  t182 := Tryz.underlying216
  a182 := Tryz.isAgg216
  z182 := Tryz.sizeOf216
  v182 := Tryz.zeroValue216
  t183 := Tryz.underlying217
  a183 := Tryz.isAgg217
  z183 := Tryz.sizeOf217
  v183 := Tryz.zeroValue217
  t218 := Tryz.underlying243
  a218 := Tryz.isAgg243
  z218 := Tryz.sizeOf243
  v218 := Tryz.zeroValue243
  t222 := Tryz.underlying247
  a222 := Tryz.isAgg247
  z222 := Tryz.sizeOf247
  v222 := Tryz.zeroValue247
  t228 := Tryz.underlying262
  a228 := Tryz.isAgg262
  z228 := Tryz.sizeOf262
  v228 := Tryz.zeroValue262
  t229 := Tryz.underlying75
  a229 := Tryz.isAgg75
  z229 := Tryz.sizeOf75
  v229 := Tryz.zeroValue75 }
def Tryz.hasInts_ren : Go.Shelf.Ren := ⟨fun | 107 => 75 | 108 => 101 | n => n, fun | 28 => 113 | 3 => 3 | 4 => 4 | 0 => 0 | n => n, fun | n => n⟩
theorem Tryz.hasInts : Go.Proofs.Lays.n107 Tryz.prog Tryz.hasInts_ren := {
  mixed := by kernel_rfl
  f107 := Tryz.func75.trans (congrArg some (by kernel_rfl))
  f108 := Tryz.func101.trans (congrArg some (by kernel_rfl))
  t0 := Tryz.underlying0
  a0 := Tryz.isAgg0
  z0 := Tryz.sizeOf0
  v0 := Tryz.zeroValue0
  t3 := Tryz.underlying3
  a3 := Tryz.isAgg3
  z3 := Tryz.sizeOf3
  v3 := Tryz.zeroValue3
  t4 := Tryz.underlying4
  a4 := Tryz.isAgg4
  z4 := Tryz.sizeOf4
  v4 := Tryz.zeroValue4
  t28 := Tryz.underlying113
  a28 := Tryz.isAgg113
  z28 := Tryz.sizeOf113
  v28 := Tryz.zeroValue113 }
end Go.Proofs
namespace Go.Proofs.YtanffablfgnioaaGreatDoor
open Go.RowKit
set_option linter.unusedVariables false
theorem below_grownBy {w w' : World} {base g : Nat} (h : w.grownBy w' (some g)) (hb : base ≤ g) (hg : g < w.heap.size) : Below base w w' :=
  ⟨h.os, h.tape, h.output, h.size, fun k hk => h.block k (by omega) (by intro e; injection e with e; omega)⟩
theorem sort_ints (W : World) (base : Nat) (v : Value) (l s : List Int) (h : IOwn W base v l) (hp : 0 < l.length) (hl : l.length ≤ 8796093022208) (hs : (l.mergeSort fun x y => decide (x ≤ y)) = s) :
    Calls Tryz.prog 151 #[v] W fun e w' => e = .returned (.tuple #[]) ∧ IOwn w' base v s ∧ Below base W w' := by
  have hown := h
  rcases hown.2 with ⟨_, hz⟩ | ⟨g, cap, cur, rfl, hbg, hg, hnc, hcm, hcs, ht⟩
  · omega
  · have hlt : g < W.heap.size := (Array.getElem?_eq_some_iff.1 hg).1
    rw [Nat.mul_one] at ht
    have hcon := Any.slices_Sort_int (P := Tryz.prog) Tryz.sortInts g 0 cap l W (holds_of_blockI hg ht) hlt (by omega)
    change Calls Tryz.prog 151 _ _ _ at hcon
    refine hcon.mono ?_
    rintro e w' ⟨rfl, n, os, rfl⟩
    rw [hs]
    have hsl : s.length = l.length := by rw [← hs]; simp
    refine ⟨rfl, ?_, below_grownBy (grownBy_sortedI _) hbg hlt⟩
    have := ownsRow_sortedI (n := n) (os := os) hsl hbg hg hnc hcm hcs
    unfold IOwn flat1
    rw [hsl]
    exact this
theorem has_ints (W : World) (v : Value) (l : List Int) (x : Int) (h : IRow W v l) (hl : l.length ≤ 8796093022208) :
    Calls Tryz.prog 75 #[v, .int .i64 x] W fun e w' => e = .returned (.bool (l.contains x)) ∧ w' = W := by
  obtain ⟨a, cap, rfl, h1, h2, hc⟩ := h
  rcases Nat.eq_zero_or_pos l.length with h0 | hp
  · have e0 : l = [] := List.eq_nil_of_length_eq_zero h0
    subst e0
    have hcon := Any.slices_Contains_int_empty (P := Tryz.prog) Tryz.hasInts a cap x W
    change Calls Tryz.prog 75 _ _ _ at hcon
    exact hcon
  · obtain ⟨b, rfl, _, _⟩ := hc 0 hp
    have hcon := Any.slices_Contains_int (P := Tryz.prog) Tryz.hasInts b 0 l.length cap l x W (Nat.le_refl _) (by omega) (fun j hj => by
      obtain ⟨b', e, _, h3⟩ := hc j hj
      injection e with e; injection e with e; subst e
      rw [Nat.zero_add]; simpa [List.getD] using h3)
    change Calls Tryz.prog 75 _ _ _ at hcon
    rwa [List.take_length] at hcon
end Go.Proofs.YtanffablfgnioaaGreatDoor
namespace Go.Proofs.YtanffablfgnioaaGreatDoor
open Go.RowKit
set_option linter.unusedVariables false
/-- What the walk is handed as the table of blocks: read at each place it is that block. -/
def IdxOk (V : Value) : Prop := ∀ i : Nat, i < 14 → ∀ w : World, (Instr.index 175 V (.int .i64 (i : Int))).run Tryz.prog w =
  .ok (.agg #[.int .i64 (Fd.blocksL[i]?.getD (0, 0, 0)).1, .int .i64 (Fd.blocksL[i]?.getD (0, 0, 0)).2.1, .int .i64 (Fd.blocksL[i]?.getD (0, 0, 0)).2.2]) w
theorem blks_idx : IdxOk blksV := by
  intro i hi w
  have h : i = 0 ∨ i = 1 ∨ i = 2 ∨ i = 3 ∨ i = 4 ∨ i = 5 ∨ i = 6 ∨ i = 7 ∨ i = 8 ∨ i = 9 ∨ i = 10 ∨ i = 11 ∨ i = 12 ∨ i = 13 := by omega
  rcases h with rfl | rfl | rfl | rfl | rfl | rfl | rfl | rfl | rfl | rfl | rfl | rfl | rfl | rfl
  all_goals (show _ = _; kernel_rfl)
structure WalkIs (r : Int) (v : Nat) (T : List Int) : Prop where
  eq : Fd.walkL r v = T
structure ScanOf (x : Int) (L T : List Int) : Prop where
  eq : Fd.scan x L = T
theorem blocks_ok (W : World) : Calls Tryz.prog 149 #[] W fun e w' => ∃ V, e = .returned V ∧ Hid (IdxOk V) ∧ Below W.heap.size W w' :=
  (blocks_any W).mono fun _ _ ⟨h1, h2⟩ => ⟨blksV, h1, Lib.hid blks_idx, h2⟩
theorem partner_at (p q s x m : Int) (hb : (p, q, s) ∈ Fd.blocksL) (hm : Fd.partner (p, q, s) x = m) (W : World) :
    Calls Tryz.prog 150 #[.agg #[.int .i64 p, .int .i64 q, .int .i64 s], .int .i64 x] W fun e w' => e = .returned (.int .i64 m) ∧ ∃ q os', w' = Go.Sort.grow (W.drewN q) os' := by
  rw [← hm]; exact partner_any W (p, q, s) x hb
theorem wp_scope_jumps1 {P : Program} {a : Act} {w : World} {Q : Exit → Act → World → Prop} {c rest : Code} (l : Nat) (J : Act → World → Prop) (μ : Act → World → Nat) (hf : findLabel c l = some (Code.skip.seq rest))
    (pass : ∀ a w, J a w → rest.wp P (Exit.jump l (fun a' w' => J a' w' ∧ μ a' w' < μ a w) Q) a w)
    (first : (∀ a w, J a w → rest.wp P (Exit.jump l J Q) a w) → c.wp P (Exit.jump l J Q) a w) : (Code.scope c).wp P Q a w :=
  wp_scope_jumps l J μ hf (first fun a w h => Code.wp_mono (fun e a' w' q => by cases e <;> first | exact q | exact ⟨q.1, q.2.1⟩) (pass a w h)) (fun a w h => wp_seq (wp_skip (pass a w h)))
theorem below_growN (w : World) (n : Nat) (os : Array Obj) : Below w.heap.size w (Go.Sort.grow (w.drewN n) os) :=
  ⟨rfl, rfl, rfl, by simp [Go.Sort.grow], fun k hk => by rw [Go.Sort.heap_grow_old _ _ (by exact hk)]; rfl⟩
theorem iown_one (W : World) (r : Int) : IOwn (W.alloc (.cells #[.int .i64 r] 3)) W.heap.size (.slice (some ⟨W.heap.size, 0, none⟩) 1 1) [r] :=
  ⟨rfl, .inr ⟨W.heap.size, 1, #[.int .i64 r], rfl, Nat.le_refl _, heap_alloc_new _ _, Nat.le_refl _, by decide, rfl, rfl⟩⟩
theorem fold_pre (x : Int) (v : Nat) (L : List Int) (hv : v < L.length) (h : L[v]?.getD 0 = x) : ∀ bs : List Fd.Blk, v < (bs.foldl (Fd.addB x) L).length ∧ (bs.foldl (Fd.addB x) L)[v]?.getD 0 = x := by
  intro bs
  induction bs generalizing L with
  | nil => exact ⟨hv, h⟩
  | cons b bs ih =>
    rw [List.foldl_cons]
    refine ih _ ?_ ?_
    · have := (Fd.addB_len x L b).1; omega
    · unfold Fd.addB; split
      · exact h
      · rw [List.getElem?_append_left hv]; exact h
theorem blk_take_succ (x : Int) (L : List Int) (i : Nat) (hi : i < 14) : (Fd.blocksL.take (i + 1)).foldl (Fd.addB x) L = Fd.addB x ((Fd.blocksL.take i).foldl (Fd.addB x) L) (Fd.blocksL[i]?.getD (0, 0, 0)) := by
  rw [List.take_succ_eq_append_getElem (by rw [Fd.blocks_len]; exact hi), List.foldl_append, List.getElem?_eq_getElem (by rw [Fd.blocks_len]; exact hi)]; rfl
theorem addB_yes {x m : Int} {o : List Int} {b : Fd.Blk} (hm : Fd.partner b x = m) (h : o.contains m = true) : Fd.addB x o b = o := by
  unfold Fd.addB; rw [hm, if_pos ((Fd.joinB_iff _ _).2 (by simpa using h))]
theorem addB_no {x m : Int} {o : List Int} {b : Fd.Blk} (hm : Fd.partner b x = m) (h : o.contains m = false) : Fd.addB x o b = o ++ [m] := by
  unfold Fd.addB; rw [hm, if_neg (fun h1 => by rw [Fd.joinB_iff] at h1; simp at h; exact h h1)]
theorem walk_at (r : Int) (N v : Nat) (hv : v < N) (hg : ∀ v, v < N → v < (Fd.walkL r v).length) (h : ¬ v + 1 < (Fd.walkL r (v + 1)).length) : v + 1 = N := by
  rcases Nat.lt_or_ge (v + 1) N with h1 | h1
  · exact absurd (hg _ h1) h
  · omega
theorem flat1_snoc' (l : List Int) (x : Int) : flat1 (l ++ [x]) = flat1 l ++ [Value.int .i64 x] := by simp [flat1]
def FamJ (W : World) (r : Int) (N : Nat) (a : Act) (w : World) : Prop :=
  ∃ (v : Nat) (V u0 u1 u2 u5 u6 u7 u8 u9 u10 u11 u12 u13 u14 u15 u16 u17 u18 u19 u20 u21 u22 u23 u24 u25 u26 u27 u28 u29 u30 u31 u32 u33 u34 u35 u36 u37 : Value), a = { tmps := #[u0, u1, u2, V, .int .i64 (v : Int), u5, u6, u7, u8, u9, u10, u11, u12, u13, u14, u15, u16, u17, u18, u19, u20, u21, u22, u23, u24, u25, u26, u27, u28, u29, u30, u31, u32, u33, u34, u35, u36, u37], defers := [] } ∧ v < N ∧ Hid (IOwn w W.heap.size V (Fd.walkL r v)) ∧ Hid (Below W.heap.size W w)
def famMu (N : Nat) (a : Act) (_ : World) : Nat := N - (intOf (a.tmps.getD 4 undef)).toNat
set_option maxRecDepth 100000 in
set_option maxHeartbeats 4000000 in
theorem fam_any (W : World) (r : Int) :
    Calls Tryz.prog 114 #[.int .i64 r] W fun e w' => ∃ v, e = .returned v ∧ IOwn w' W.heap.size v (Fd.fam r) ∧ Below W.heap.size W w' := by
  obtain ⟨i0, hi0, hz0, hz1, hz2⟩ := info_parts Tryz.infoInt
  obtain ⟨N, n1, n3, hNl, hNg, hNp⟩ := Fd.walk_cases r
  have HNL := Lib.hid hNl
  have HNG := Lib.hid hNg
  have HNP := Lib.hid (Fd.sorted_fam hNp)
  have HI0 := Lib.hid (iown_one W r)
  have HB0 := Lib.hid ((Below.refl W.heap.size W).alloc (Nat.le_refl _) (.cells #[.int .i64 r] 3))
  clear hNl hNg hNp
  obtain ⟨F, hF⟩ : ∃ F, Fd.fam r = F := ⟨_, rfl⟩
  rw [hF] at HNP ⊢
  clear hF
  have mixed : Tryz.prog.follows .mixedOrders = true := by kernel_rfl
  go_enter Tryz.func114, Tryz.ntmps114
  go_wp2
  refine wp_scope_jumps1 0 (FamJ W r N) (famMu N) rfl ?_ ?_
  · rintro a w ⟨v, V, u0, u1, u2, u5, u6, u7, u8, u9, u10, u11, u12, u13, u14, u15, u16, u17, u18, u19, u20, u21, u22, u23, u24, u25, u26, u27, u28, u29, u30, u31, u32, u33, u34, u35, u36, u37, rfl, hv, HO, HB⟩
    have hmu : ∀ T w, famMu N ⟨T, []⟩ w = N - (intOf (T.getD 4 undef)).toNat := fun _ _ => rfl
    rw [hmu]
    clear hmu
    show Code.wp _ _ (Exit.jump 0 (fun a' w' => FamJ W r N a' w' ∧ famMu N a' w' < N - ((v : Int)).toNat) _) _ _
    go_wp2_with fail
    refine (blocks_ok _).mono ?_
    rintro e w1 ⟨A, rfl, HIX, hb⟩
    have hvl := HNG.out v hv
    have hwl := Fd.walk_len r v
    have hvv : v * 14 ≤ 3 * 14 := Nat.mul_le_mul_right _ (by omega)
    have HNX : ScanOf ((Fd.walkL r v)[v]?.getD 0) (Fd.walkL r v) (Fd.walkL r (v + 1)) := ⟨rfl⟩
    have HO1 := Lib.hid (HO.out.below (hb.mono (Nat.le_refl _)))
    have HB1 := Lib.hid (HB.out.trans (hb.mono HB.out.size))
    obtain ⟨L2, hL2⟩ : ∃ L2, Fd.walkL r (v + 1) = L2 := ⟨_, rfl⟩
    have HW2 : WalkIs r (v + 1) L2 := ⟨hL2⟩
    have hwl2 := Fd.walk_len r (v + 1)
    have hvv2 : (v + 1) * 14 ≤ 4 * 14 := Nat.mul_le_mul_right _ (by omega)
    have hwa := walk_at r N v hv HNG.out
    rw [hL2] at HNX hwl2 hwa
    have hl2 : L2.length ≤ 60 := by omega
    have hl1 := hwl2.1
    have HWA := Lib.hid hwa
    obtain ⟨L, hL⟩ : ∃ L, Fd.walkL r v = L := ⟨_, rfl⟩
    rw [hL] at hvl hwl HNX HO1
    obtain ⟨x, hx⟩ : ∃ x, L[v]?.getD 0 = x := ⟨_, rfl⟩
    rw [hx] at HNX
    have HPR := Lib.hid (fold_pre x v L hvl hx)
    have HLL : L.length ≤ 43 := by omega
    clear HO HB hb hL hx hwl hL2 hwl2 hwa hvv hvv2
    go_wp2
    go_hide hQ
    have HQ := Lib.hid hQ
    clear hQ
    go_loopw [3, 11] (fun O I wr => ∃ i : Nat, i ≤ 14 ∧ I = .int .i64 i ∧ Hid (IOwn wr W.heap.size O ((Fd.blocksL.take i).foldl (Fd.addB x) L)) ∧ Hid (Below W.heap.size W wr)) (fun _ I _ => 14 - (intOf I).toNat)
    case atStart => exact ⟨0, by omega, rfl, HO1, HB1⟩
    case round =>
      obtain ⟨i, hi, rfl, HOi, HBi⟩ := hrel
      obtain ⟨wo, rfl⟩ : ∃ wo : World, wo = wr := ⟨_, rfl⟩
      have hsz := HBi.out.size
      by_cases hlt : i < 14
      · have HST := Lib.hid (blk_take_succ x L i hlt)
        have hpr := HPR.out (Fd.blocksL.take i)
        have hol := Fd.scan_len x (Fd.blocksL.take i) L
        have hti : (Fd.blocksL.take i).length ≤ 14 := by rw [List.length_take, Fd.blocks_len]; omega
        have hbm := blk_idx i hlt
        have hix := HIX.out i hlt
        obtain ⟨o, ho⟩ : ∃ o, (Fd.blocksL.take i).foldl (Fd.addB x) L = o := ⟨_, rfl⟩
        rw [ho] at HOi HST hpr hol
        obtain ⟨b, hbb⟩ : ∃ b, Fd.blocksL[i]?.getD (0, 0, 0) = b := ⟨_, rfl⟩
        rw [hbb] at HST hbm hix
        obtain ⟨hpv, hpx⟩ := hpr
        have hol2 : o.length ≤ 60 := by omega
        clear ho hbb hol hti
        obtain ⟨p, q, s⟩ := b
        dsimp only at hix
        have hown := HOi.out
        obtain ⟨oa, oc, rfl, ho1, ho2, hoc⟩ := hown.row
        obtain ⟨g, rfl, hg, hcell⟩ := hoc v hpv
        rw [hpx] at hcell
        obtain ⟨m, hm⟩ : ∃ m, Fd.partner (p, q, s) x = m := ⟨_, rfl⟩
        have HPA := Lib.hid (partner_at p q s x m hbm hm)
        have HAY := Lib.hid (fun h => addB_yes (o := o) hm h)
        have HAN := Lib.hid (fun h => addB_no (o := o) hm h)
        obtain ⟨n, hn⟩ : ∃ n, o.length = n := ⟨_, rfl⟩
        have HN := Lib.hid hn
        rw [hn] at hpv hol2 ho1 ⊢
        rw [hn] at HOi
        have k0 : (0 : Int) ≤ (v : Int) := by omega
        have k1 : (v : Int) < (n : Int) := by omega
        clear hm hbm hn hoc hpx hown
        go_wp2
        have f1 := fun n os => cell_grown (w := wo.alloc (.cells #[.int .i64 p, .int .i64 q, .int .i64 s] 174)) (a := ⟨g, v, none⟩) (v := .int .i64 x) (by simp; omega) ((World.cell?_alloc_lt wo _ ⟨g, v, none⟩ hg).trans hcell) n os
        have f2 := fun n os => cell_grown (w := wo.alloc (.cells #[.int .i64 p, .int .i64 q, .int .i64 s] 174)) (a := ⟨wo.heap.size, 0, none⟩) (v := .int .i64 p) (by simp) (by simp) n os
        have f3 := fun n os => cell_grown (w := wo.alloc (.cells #[.int .i64 p, .int .i64 q, .int .i64 s] 174)) (a := ⟨wo.heap.size, 1, none⟩) (v := .int .i64 q) (by simp) (by simp) n os
        have f4 := fun n os => cell_grown (w := wo.alloc (.cells #[.int .i64 p, .int .i64 q, .int .i64 s] 174)) (a := ⟨wo.heap.size, 2, none⟩) (v := .int .i64 s) (by simp) (by simp) n os
        go_quiet_grown (first | (go_at_call 150; refine Calls.grown_of (HPA.out _)))
        clear f1 f2 f3 f4
        have hgr := (HBi.out.alloc hsz (.cells #[.int .i64 p, .int .i64 q, .int .i64 s] 174)).trans ((below_growN (wo.alloc (.cells #[.int .i64 p, .int .i64 q, .int .i64 s] 174)) nq osq).mono (by simp; omega))
        have hog := (HOi.out.alloc (.cells #[.int .i64 p, .int .i64 q, .int .i64 s] 174)).below (below_growN (wo.alloc (.cells #[.int .i64 p, .int .i64 q, .int .i64 s] 174)) nq osq)
        obtain ⟨ws, hws⟩ : ∃ ws, Go.Sort.grow ((wo.alloc (.cells #[.int .i64 p, .int .i64 q, .int .i64 s] 174)).drewN nq) osq = ws := ⟨_, rfl⟩
        rw [hws] at hgr hog ⊢
        have HBS := Lib.hid hgr
        have HOS := Lib.hid hog
        have hhi := has_ints ws _ o m hog.row (by rw [HN.out]; omega)
        obtain ⟨C, hC⟩ : ∃ C, o.contains m = C := ⟨_, rfl⟩
        rw [hC] at hhi
        have HC := Lib.hid hC
        have HHI := Lib.hid hhi
        have hsz2 := hgr.size
        clear hws hgr hog hC hhi hix hcell hg
        go_wp2_with fail
        refine HHI.out.mono ?_
        rintro e w2 ⟨rfl, hw2⟩
        subst hw2
        cases C
        · have HS2 : Hid ((Fd.blocksL.take (i + 1)).foldl (Fd.addB x) L = o ++ [m]) := Lib.hid (by rw [HST.out, HAN.out HC.out])
          have hown := HOS.out
          unfold IOwn at hown
          rw [HN.out] at hown
          go_wp2_with (at_builtin; (refine wpList_append_own _ (by rfl) _ _ 113 (by rfl) W.heap.size 3 i0 (.int .i64 0) 1 8 Tryz.underlying113 hi0 hz0 hz1 hz2 rfl (by decide) _ n (flat1 o) (by rfl) (hown.alloc _) ⟨w2.heap.size, 0, none⟩ 1 1 [.int .i64 m] (by rfl) rfl (World.news_of_block (cs := #[.int .i64 m]) (heap_alloc_new w2 _)) (by simp [Value.oneCell']) (by unfold maxLen; omega) (by omega) (by simp; omega) ?_))
          intro v1 w3 hown1 hgrow _
          have hO2 : IOwn w3 W.heap.size v1 ((Fd.blocksL.take (i + 1)).foldl (Fd.addB x) L) := by rw [HS2.out]; unfold IOwn; rw [List.length_append, HN.out, flat1_snoc']; simpa [flat1] using hown1
          have hB2 := (HBS.out.alloc hsz2 _).grown hgrow (by simp; omega) (fun q hq => (hown.lt q hq).1)
          have HO2 := Lib.hid hO2
          have HB2 := Lib.hid hB2
          clear hO2 hown1 hgrow hown hB2
          go_wp2
          go_roundw
          case rel => exact ⟨i + 1, by omega, by go_num, HO2, HB2⟩
          case measure => simp [intOf]; omega
        · have HS2 : Hid ((Fd.blocksL.take (i + 1)).foldl (Fd.addB x) L = o) := Lib.hid (by rw [HST.out, HAY.out HC.out])
          go_wp2
          go_roundw
          case rel => exact ⟨i + 1, by omega, by go_num, by rw [HS2.out]; exact HOS, HBS⟩
          case measure => simp [intOf]; omega
      · obtain rfl : i = 14 := by omega
        have hO := HOi.out
        rw [List.take_of_length_le (by rw [Fd.blocks_len]; exact Nat.le_refl _)] at hO
        have hO2 : IOwn wo W.heap.size u3 L2 := by rw [← HNX.eq]; exact hO
        obtain ⟨oa, oc, rfl, ho1, ho2, _⟩ := hO2.row
        obtain ⟨n, hn⟩ : ∃ n, L2.length = n := ⟨_, rfl⟩
        have HN := Lib.hid hn
        rw [hn] at hO2 HWA ho1 hl1 hl2 ⊢
        have HO2 := Lib.hid hO2
        clear hO hO2 hn
        obtain rfl := HQ.out
        clear HQ
        by_cases hgo : v + 1 < n
        · have hvN : v + 1 < N := by
            rcases Nat.lt_or_ge (v + 1) N with h | h
            · exact h
            · exfalso
              have e : v + 1 = N := by omega
              have := HNL.out
              rw [← e, HW2.eq, HN.out] at this
              omega
          go_wp2
          go_step3
          refine ⟨rfl, ⟨v + 1, .slice oa n oc, _, _, _, _, _, _, _, _, _, _, _, _, _, _, _, _, _, _, _, _, _, _, _, _, _, _, _, _, _, _, _, _, _, _, _, _, rfl, hvN, by rw [HW2.eq]; exact HO2, HBi⟩, ?_⟩
          show N - (((v + 1 : Nat) : Int)).toNat < N - ((v : Int)).toNat
          omega
        · have e : v + 1 = N := HWA.out hgo
          subst e
          have hso := sort_ints wo W.heap.size _ L2 F (by have := HO2.out; rwa [← HN.out] at this) (by rw [HN.out]; omega) (by rw [HN.out]; omega) (by rw [← HW2.eq]; exact HNP.out)
          rw [HN.out] at hso
          have HSO := Lib.hid hso
          clear hso HNL HNG HNP HWA HW2
          go_wp2_with fail
          refine HSO.out.mono ?_
          rintro e w3 ⟨rfl, ho3, hb3⟩
          have HO3 := Lib.hid ho3
          have HB3 := Lib.hid (HBi.out.trans hb3)
          clear ho3 hb3
          go_wp2
          simp only [Exit.jump]
          go_ret
          exact ⟨_, rfl, HO3.out, HB3.out⟩
  · intro hp
    have HP := Lib.hid hp
    clear hp
    go_wp2
    go_step3
    iterate 2 go_step
    refine HP.out _ _ ?_
    exact ⟨0, _, _, _, _, _, _, _, _, _, _, _, _, _, _, _, _, _, _, _, _, _, _, _, _, _, _, _, _, _, _, _, _, _, _, _, _, _, rfl, by omega, HI0, HB0⟩
end Go.Proofs.YtanffablfgnioaaGreatDoor
namespace Go.Proofs.YtanffablfgnioaaGreatDoor
open Go.RowKit
set_option linter.unusedVariables false
theorem flat2_two (l : List (Int × Int)) (a b c d : Int) : flat2 (l ++ [(a, b), (c, d)]) = flat2 l ++ [Value.int .i64 a, .int .i64 b, .int .i64 c, .int .i64 d] := by
  rw [show l ++ [(a, b), (c, d)] = (l ++ [(a, b)]) ++ [(c, d)] by simp, flat2_snoc, flat2_snoc]; simp
structure PairSt (i : Nat) (b : Fd.Blk) : Prop where
  eq : Fd.pairedOf (Fd.blocksL.take (i + 1)) = Fd.pairedOf (Fd.blocksL.take i) ++ [(b.1, b.2.1), (b.1 + b.2.2, b.2.1 + b.2.2)]
  len : (Fd.pairedOf (Fd.blocksL.take i)).length = i * 2
theorem pairSt (i : Nat) (hi : i < 14) (b : Fd.Blk) (h : Fd.blocksL[i]?.getD (0, 0, 0) = b) : PairSt i b := by
  subst h
  exact ⟨Fd.pairedOf_succ i hi, by rw [Fd.pairedOf_len, List.length_take, Fd.blocks_len]; omega⟩
def pairT (i : Nat) : List (Int × Int) := Fd.pairedOf (Fd.blocksL.take i)
set_option maxRecDepth 100000 in
set_option maxHeartbeats 4000000 in
theorem paired_any (W : World) :
    Calls Tryz.prog 113 #[] W fun e w' => ∃ v, e = .returned v ∧ RgOwn w' W.heap.size v Fd.pairedL ∧ Below W.heap.size W w' := by
  obtain ⟨i0, hi0, hz0, hz1, hz2⟩ := info_parts Tryz.infoRange
  go_enter Tryz.func113, Tryz.ntmps113
  go_wp2_with fail
  refine (blocks_ok _).mono ?_
  rintro e w1 ⟨A, rfl, HIX, hb⟩
  have HB1 := Lib.hid hb
  clear hb
  go_wp2
  go_loopw [1, 5] (fun O I wr => ∃ i : Nat, i ≤ 14 ∧ I = .int .i64 i ∧ Hid (RgOwn wr W.heap.size O (pairT i)) ∧ Hid (Below W.heap.size W wr)) (fun _ I _ => 14 - (intOf I).toNat)
  case atStart => exact ⟨0, by omega, rfl, Lib.hid RgOwn.nil, HB1⟩
  case round =>
    obtain ⟨i, hi, rfl, HOi, HBi⟩ := hrel
    have hsz := HBi.out.size
    by_cases hlt : i < 14
    · have hbm := blk_idx i hlt
      have hix := HIX.out i hlt
      obtain ⟨b, hbb⟩ : ∃ b, Fd.blocksL[i]?.getD (0, 0, 0) = b := ⟨_, rfl⟩
      have HP := pairSt i hlt b hbb
      rw [hbb] at hbm hix
      have hbd := blk_bd b hbm
      clear hbb hbm
      obtain ⟨p, q, s⟩ := b
      dsimp only at hix hbd
      obtain ⟨a1, a2, a3, a4, a5, a6⟩ := hbd
      have hown := HOi.out
      unfold RgOwn pairT at hown
      rw [HP.len] at hown
      have q1 : (p + s + 9223372036854775808) % 18446744073709551616 - 9223372036854775808 = p + s := by omega
      have q2 : (q + s + 9223372036854775808) % 18446744073709551616 - 9223372036854775808 = q + s := by omega
      go_wp2_with (at_builtin; (refine wpList_append_own _ (by rfl) _ _ 23 (by rfl) W.heap.size 49 i0 (.agg #[.int .i64 0, .int .i64 0]) 2 16 Tryz.underlying23 hi0 hz0 hz1 hz2 rfl (by decide) _ (i * 2) (flat2 (Fd.pairedOf (Fd.blocksL.take i))) (by rfl) ((hown.alloc _).alloc _) ⟨wr.heap.size + 1, 0, none⟩ 2 2 [.int .i64 p, .int .i64 q, .int .i64 (p + s), .int .i64 (q + s)] (by rfl) rfl ?c1 (by simp [Value.oneCell']) (by unfold maxLen; omega) (by omega) (by simp; omega) ?_))
      case c1 => exact World.news_of_block (cs := #[.int .i64 p, .int .i64 q, .int .i64 (p + s), .int .i64 (q + s)]) (heap_new2 _ _ _)
      intro v1 w3 hown1 hgrow _
      have hO2 : RgOwn w3 W.heap.size v1 (pairT (i + 1)) := by
        unfold RgOwn pairT; rw [HP.eq, List.length_append, HP.len, flat2_two]; exact hown1
      have hB2 := ((HBi.out.alloc hsz _).alloc (by simp; omega) _).grown hgrow (by simp; omega) (fun q hq => (hown.lt q hq).1)
      have HO2 := Lib.hid hO2
      have HB2 := Lib.hid hB2
      clear hO2 hown1 hgrow hown hB2 HP
      go_wp2
      go_roundw
      case rel => exact ⟨i + 1, by omega, by go_num, HO2, HB2⟩
      case measure => simp [intOf]; omega
    · obtain rfl : i = 14 := by omega
      have hO := HOi.out
      unfold pairT at hO
      rw [List.take_of_length_le (by rw [Fd.blocks_len]; exact Nat.le_refl _)] at hO
      have HO2 : Hid (RgOwn wr W.heap.size u1 Fd.pairedL) := Lib.hid hO
      clear hO
      go_wp2
      go_ret
      exact ⟨_, rfl, HO2.out, HBi.out⟩
end Go.Proofs.YtanffablfgnioaaGreatDoor
namespace Go.Proofs.YtanffablfgnioaaGreatDoor
open Go.RowKit
set_option linter.unusedVariables false
set_option maxRecDepth 100000 in
set_option maxHeartbeats 1000000 in
theorem keep_union : KeepOk 152 (fun x y => x || y) := by
  refine ⟨enters_of Tryz.func152 (by kernel_rfl) rfl, fun x y w => ?_⟩
  cases x <;> cases y
  all_goals
    go_enter Tryz.func152, Tryz.ntmps152
    go_wp2
    go_ret
    exact ⟨rfl, rfl⟩
set_option maxRecDepth 100000 in
set_option maxHeartbeats 1000000 in
theorem union_any (W : World) (va vb : Value) (a b : List (Int × Int)) (ha : RRow W va a) (hb : RRow W vb b) : Calls Tryz.prog 115 #[va, vb] W (MakePost 1 a b W) := by
  have HC := Lib.hid (combine_any W va vb a b _ _ 1 keep_union rfl (fun x y => by cases x <;> cases y <;> rfl) ha hb)
  clear ha hb
  go_enter Tryz.func115, Tryz.ntmps115
  go_wp2_with fail
  refine HC.out.mono ?_
  rintro e w1 ⟨v, out, rfl, hm, ho, hb⟩
  have HM := Lib.hid (And.intro hm (And.intro ho hb))
  clear hm ho hb
  go_wp2
  go_ret
  exact ⟨v, out, rfl, HM.out⟩
end Go.Proofs.YtanffablfgnioaaGreatDoor
namespace Go.Proofs.YtanffablfgnioaaGreatDoor
open Go.RowKit
set_option linter.unusedVariables false
set_option maxRecDepth 100000 in
set_option maxHeartbeats 1000000 in
theorem keep_both : KeepOk 148 (fun x y => x && y) := by
  refine ⟨enters_of Tryz.func148 (by kernel_rfl) rfl, fun x y w => ?_⟩
  cases x <;> cases y
  all_goals
    go_enter Tryz.func148, Tryz.ntmps148
    go_wp2
    go_ret
    exact ⟨rfl, rfl⟩
set_option maxRecDepth 100000 in
set_option maxHeartbeats 1000000 in
theorem both_any (W : World) (va vb : Value) (a b : List (Int × Int)) (ha : RRow W va a) (hb : RRow W vb b) : Calls Tryz.prog 112 #[va, vb] W (MakePost 2 a b W) := by
  have HC := Lib.hid (combine_any W va vb a b _ _ 2 keep_both rfl (fun x y => by cases x <;> cases y <;> rfl) ha hb)
  clear ha hb
  go_enter Tryz.func112, Tryz.ntmps112
  go_wp2_with fail
  refine HC.out.mono ?_
  rintro e w1 ⟨v, out, rfl, hm, ho, hb⟩
  have HM := Lib.hid (And.intro hm (And.intro ho hb))
  clear hm ho hb
  go_wp2
  go_ret
  exact ⟨v, out, rfl, HM.out⟩
end Go.Proofs.YtanffablfgnioaaGreatDoor
namespace Go.Proofs.YtanffablfgnioaaGreatDoor
open Go.RowKit
set_option linter.unusedVariables false
def ClosePost (l : List (Int × Int)) (W : World) (e : Ending) (w' : World) : Prop :=
  ∃ v out, e = .returned v ∧ Rg.NormL out ∧ (∀ q, Rg.hasB out q = Fd.clB l q) ∧ RgOwn w' W.heap.size v out ∧ Below W.heap.size W w'
theorem own_block_some {W : World} {base : Nat} {v : Value} {l : List (Int × Int)} (h : RgOwn W base v l) {g : Nat} (hg : v.ownBlock = some g) : base ≤ g ∧ g < W.heap.size := World.ownsRow.lt h g hg
/-- A slice that does not lie below a block. -/
def Fresh (B : Nat) (v : Value) : Prop := ∀ b o s n c, v = .slice (some ⟨b, o, s⟩) n c → B ≤ b
theorem Fresh.lower {B B' : Nat} {v : Value} (h : Fresh B v) (hb : B' ≤ B) : Fresh B' v := fun b o s n c e => Nat.le_trans hb (h b o s n c e)
theorem IOwn.fresh {W : World} {base : Nat} {v : Value} {T : List Int} (h : IOwn W base v T) : Fresh base v := by
  rcases h.2 with ⟨rfl, _⟩ | ⟨g, cap, cur, rfl, hb, _⟩
  · intro b o s n c e; cases e
  · intro b o s n c e; injection e with e _ _; injection e with e; injection e with e _ _; omega
theorem take_snoc {l : List Int} {k : Nat} {x : Int} (hk : k < l.length) (hx : l[k]?.getD 0 = x) : l.take (k + 1) = l.take k ++ [x] := by
  rw [List.take_succ_eq_append_getElem hk]
  rw [List.getElem?_eq_getElem hk] at hx
  rw [← hx]; rfl
theorem map_take_succ (l : List Int) (k : Nat) (hk : k < l.length) (x : Int) (hx : l[k]?.getD 0 = x) : (l.take (k + 1)).map Fd.one = (l.take k).map Fd.one ++ [(x, x)] := by
  rw [take_snoc hk hx, List.map_append]; rfl
end Go.Proofs.YtanffablfgnioaaGreatDoor
