/- The landed bands: Turn, a range over a function in every round of a loop. -/
import Derived.Test.YtfopcgbfbedcjaaGp31
import Derived.Test.YtfopcgbfbedcjaaGp11
import Derived.Test.YtfopcgbfbedcjaaGp4
import Derived.Test.YtfopcgbfbedcjaaGp32
import Derived.Deep.AppendLies
namespace Go.Proofs.Ytfopcgbfbedcjaa
open Go.RowKit Go.Shelf
attribute [local go_sem] Oper.semAt_some
set_option linter.unusedVariables false
theorem rg_one_news2 (W : World) (x y : Int) : ∀ j u, [Value.int .i64 x, Value.int .i64 y][j]? = some u → (W.alloc (.cells #[.int .i64 x, .int .i64 y] 44)).cell? ((⟨W.heap.size, 0, none⟩ : Addr).add j) = some u :=
  World.news_of_block (cs := #[.int .i64 x, .int .i64 y]) (t := 44) (fr := (0, 0)) (heap_alloc_new W _)
theorem KpR.grown {B0 Bs : Nat} {v : Value} {X Y : World} {row : Option Nat} (h : X.grownBy Y row) (hB : B0 ≤ X.heap.size) (hr : ∀ r, row = some r → B0 ≤ r ∧ r ≠ Bs) : KpR B0 Bs v X Y :=
  ⟨fun k hk => h.block k (by omega) (fun e => by have := (hr k e.symm).1; omega), fun hb => hb.kept h (fun e => (hr Bs e.symm).2 rfl)⟩
theorem QOwnU.shut {w w' : World} {B base : Nat} {v : Value} {us : List Value} {L : List (List (Int × Int))} (h : QOwnU w base v us L) (hs : Shut B w w') : QOwnU w' base v us L :=
  ⟨h.1, ownsRow_shut h.2.1 hs, fun j hj => ownsRow_shut (h.2.2.1 j hj) hs, h.2.2.2⟩
/-- What the inner loop of Turn holds: the box of what is turned, and what has come. -/
def TurnJ (w0 : World) (pre : List (Int × Int × Int)) (W : World) : Prop :=
  (w0.heap.size + 2 ≤ W.heap.size ∧ ∃ v, Boxed W w0.heap.size 22 v ∧ RgOwn W (w0.heap.size + 2) v (pre.map Prod.snd)) ∧ Below w0.heap.size w0 W
theorem TurnJ.own {w0 : World} (B : Nat) (hB : w0.heap.size ≤ B) : OwnFrom B (TurnJ w0) :=
  OwnFrom.and (Own.from (fun s A C row hs hg hr => by
    obtain ⟨h0, v, h1, h2⟩ := hs
    exact ⟨Nat.le_trans h0 hg.size, v, boxed_own2 h1 hg hr, rgOwn_own2 h2 hg hr⟩) _) (ownFrom_below (Nat.le_refl _) hB)
/-- The activation of Turn between two rounds. -/
structure TurnI (W : World) (A : Option Addr) (n cap : Nat) (L : List (List (Int × Int))) (a : Act) (w : World) : Prop where mk0 ::
  has : ∃ (i : Nat) (us : List Value) (Ds : List Nat) (V x5 x6 x12 x13 x14 x15 x16 x23 x24 x25 x26 x27 : Value),
    a = { tmps := #[.slice A n cap, undef, .slice none 0 0, V, undef, x5, x6, undef, undef, .slice A n cap, .int .i64 n, .int .i64 i, x12, x13, x14, x15, x16, undef, undef, undef, undef, undef, undef, x23, x24, x25, x26, x27, undef], defers := Ds.map markOf } ∧
    i ≤ n ∧ QOwnU w W.heap.size V us (Bd.turnL (L.take i)) ∧ us.length = i ∧ Below W.heap.size W w ∧ Marks W.heap.size w Ds
theorem TurnI.mk {W w : World} {A : Option Addr} {n cap : Nat} {L : List (List (Int × Int))} {tmps : Array Value} (i : Nat) (us : List Value) (Ds : List Nat) {ds : List Deferred} (V x5 x6 x12 x13 x14 x15 x16 x23 x24 x25 x26 x27 : Value)
    (ht : tmps = #[.slice A n cap, undef, .slice none 0 0, V, undef, x5, x6, undef, undef, .slice A n cap, .int .i64 n, .int .i64 i, x12, x13, x14, x15, x16, undef, undef, undef, undef, undef, undef, x23, x24, x25, x26, x27, undef]) (hd : ds = Ds.map markOf)
    (h1 : i ≤ n) (h2 : QOwnU w W.heap.size V us (Bd.turnL (L.take i))) (h3 : us.length = i) (h4 : Below W.heap.size W w) (h5 : Marks W.heap.size w Ds) : TurnI W A n cap L { tmps := tmps, defers := ds } w :=
  ⟨i, us, Ds, V, x5, x6, x12, x13, x14, x15, x16, x23, x24, x25, x26, x27, by rw [ht, hd], h1, h2, h3, h4, h5⟩
set_option maxRecDepth 100000 in
set_option maxHeartbeats 4000000 in
theorem turn_in (fu : Nat) (hfu : 3 ≤ fu) (W : World) (v : Value) (L : List (List (Int × Int))) (h : QRow W v L) (hL : L.length ≤ 1000000000) (hq : ∀ q ∈ L, q.length ≤ 1000000) :
    CallsIn Fence.wide fu Try.prog 17 #[v] W fun e w' => ∃ v', e = .returned v' ∧ QOwn w' W.heap.size v' (Bd.turnL L) ∧ Below W.heap.size W w' := by
  obtain ⟨i0, hi0, hz0, hz1, hz2⟩ := info_parts Try.infoRange
  obtain ⟨i1, hi1, hy0, hy1, hy2⟩ := info_parts Try.infoSeq
  have h1 : 1 ≤ fu := by omega
  obtain ⟨A, cap, rfl, hl, hc⟩ := h
  have HC := Lib.hid hc
  have HLQ := Lib.hid hq
  obtain ⟨n, hn⟩ : ∃ n, L.length = n := ⟨_, rfl⟩
  have HN := Lib.hid hn
  rw [hn] at hl HC hL ⊢
  clear hc hn hq
  refine callsIn_of_wp_marks Try.func17 rfl trivial ?_ rfl
  simp only [Try.ntmps17, List.size_toArray, List.length_cons, List.length_nil, Nat.reduceAdd, Nat.reduceSub, Array.replicate_succ, Array.replicate_zero, List.push_toArray, List.append_toArray, List.nil_append, List.cons_append]
  gi_wp2
  refine wpIn_loop (I := TurnI W A n cap L) (μ := fun a _ => n - (intOf (a.tmps.getD 11 undef)).toNat) (TurnI.mk 0 [] [] _ _ _ _ _ _ _ _ _ _ _ _ _ rfl rfl (Nat.zero_le _) QOwnU.nil rfl (Below.refl _ _) (Marks.nil _ _)) ?_
  rintro a0 wr ⟨i, us, Ds, V, x5, x6, x12, x13, x14, x15, x16, x23, x24, x25, x26, x27, rfl, hi, ho, hul, hb, hm⟩
  have HO := Lib.hid ho
  have HB := Lib.hid hb
  have HM := Lib.hid hm
  have hsz := HB.out.size
  clear ho hb hm
  by_cases hlt : i < n
  · obtain ⟨g, off, u, rfl, hg, hc1, hu⟩ := HC.out i hlt
    obtain ⟨q, eq⟩ : ∃ q, L[i]?.getD [] = q := ⟨_, rfl⟩
    rw [eq] at hu
    have hqm : q.length ≤ 1000000 := by
      refine HLQ.out q ?_
      rw [← eq, List.getElem?_eq_getElem (by rw [HN.out]; exact hlt)]; exact List.getElem_mem _
    have HTS := Lib.hid (turn_succ L i (by rw [HN.out]; exact hlt) q eq)
    rw [← HB.out.cell (p := ⟨g, off + i, none⟩) hg] at hc1
    obtain ⟨ua, uc, rfl, hql, hqw, hqc⟩ := hu
    have HQC := Lib.hid hqc
    obtain ⟨m, hm⟩ : ∃ m, q.length = m := ⟨_, rfl⟩
    have HMQ := Lib.hid hm
    rw [hm] at hql HQC hqm hc1
    have k0 : (0 : Int) ≤ (i : Int) := by omega
    have k1 : (i : Int) < (n : Int) := by omega
    clear eq hqc hqw hm
    gi_wp2_with fail
    refine ⟨trivial, ?_⟩
    refine (callsIn_wide.2 (back_any _ _ _ _)).mono ?_
    rintro e w' ⟨rfl, rfl⟩
    gi_wp2
    have hBw : Below wr.heap.size wr ((wr.alloc (.cells #[.slice none 0 0] 22)).alloc (.cells #[.slice ua m uc] 22)) := ((Below.refl _ wr).alloc (Nat.le_refl _) _).alloc (by simp) _
    have b0 := Boxed.new wr 22 (.slice none 0 0)
    have bS := Boxed.new (wr.alloc (.cells #[.slice none 0 0] 22)) 22 (.slice ua m uc)
    rw [World.size_alloc] at bS
    refine wpIn_rangeFunc_ownH rfl h1 (gf := 51) (lb := #[.pointer (some ⟨wr.heap.size + 1, 0, none⟩)]) rfl trivial (enters_of Try.func51 (by kernel_rfl) rfl)
      (back_stops (fu - 1) (by omega) (wr.heap.size + 1) wr.heap.size m uc ua q hql _ (by simp; omega) bS (fun j hj => by
        obtain ⟨b, o2, h1, h2, h3, h4⟩ := HQC.out j hj
        have hbw : b < wr.heap.size := by omega
        exact ⟨b, o2, h1, hbw, (hBw.cell (p := ⟨b, o2 + j * 2, none⟩) hbw).trans ((HB.out.cell (p := ⟨b, o2 + j * 2, none⟩) h2).trans h3), (hBw.cell (p := ⟨b, o2 + j * 2 + 1, none⟩) hbw).trans ((HB.out.cell (p := ⟨b, o2 + j * 2 + 1, none⟩) h2).trans h4)⟩))
      kpR_t (kpR_b (by simp; omega)) (Below.refl _ _) (fun _ => rfl)
      (TurnJ wr) (fun _ _ _ => False) (TurnJ.own _ (by simp; omega)) (fun _ _ _ _ _ hs _ _ => hs)
      ⟨⟨by simp, _, b0.alloc _, RgOwn.nil⟩, hBw⟩
      (fun x a' W' => ∃ Bx, wr.heap.size + 2 ≤ Bx ∧ W'.heap[Bx]? = some (.cells #[.int .i64 x.2.1, .int .i64 x.2.2] 44 (0, 0)) ∧
        a' = { tmps := #[.slice (some ⟨g, off, none⟩) n cap, undef, .slice none 0 0, V, undef, .slice ua m uc, .pointer (some ⟨wr.heap.size, 0, none⟩), undef, .pointer (some ⟨Bx, 0, none⟩), .slice (some ⟨g, off, none⟩) n cap, .int .i64 n, .int .i64 i, .bool true, .pointer (some ⟨g, off + i, none⟩), .slice ua m uc, .slice ua m uc, .func (.func 51) #[] #[.pointer (some ⟨wr.heap.size + 1, 0, none⟩)], .int .i64 x.1, .agg #[.int .i64 x.2.1, .int .i64 x.2.2], undef, undef, undef, undef, x23, x24, x25, x26, x27, undef], defers := [] })
      (fun x a' s X Y row hs hgr hr => by
        obtain ⟨Bx, e1, e2, e3⟩ := hs
        exact ⟨Bx, e1, (hgr.block Bx (Array.getElem?_eq_some_iff.1 e2).1 (fun e => by
          obtain ⟨_, o, ho, hco⟩ := hr Bx e.symm
          rw [e2] at ho; cases ho; cases hco)).trans e2, e3⟩)
      ?assign ?body ?done ?stop
    case assign =>
      rintro l pre ⟨x0, x1, x2⟩ W' K ⟨⟨hs0, v, hv, hr⟩, hB'⟩ hK
      unfold encB
      dsimp only
      gi_wp2
      exact hK _ _ ((KeepsOthers.alloc _ _).from _) (KpR.below ((Below.refl _ _).alloc (Nat.le_refl _) _) (by omega)) ⟨⟨by simp; omega, v, hv.alloc _, hr.alloc _⟩, hB'.alloc (by omega) _⟩ ⟨W'.heap.size, hs0, heap_alloc_new _ _, rfl⟩
    case body =>
      rintro l pre x a' W' hl hrec ⟨⟨hs0, v, hv, hr⟩, hB'⟩ ⟨Bx, hBx, bX, rfl⟩ hlen
      have c0 := hv.cell
      obtain ⟨x0, x1, x2⟩ := x
      dsimp only at bX
      have cx1 : W'.cell? ⟨Bx, 0, none⟩ = some (.int .i64 x1) := by simp [World.cell?, bX]
      have cx2 : W'.cell? ⟨Bx, 1, none⟩ = some (.int .i64 x2) := by simp [World.cell?, bX]
      obtain ⟨a1, cap1, rfl⟩ := hr.slice
      rw [List.length_map] at *
      obtain ⟨gg, cap2, W2, hrun, hown, hgrow, hat, hlt2⟩ := run_append_lies (P := Try.prog) (W'.alloc (.cells #[.int .i64 x1, .int .i64 x2] 44)) 22 22 (wr.heap.size + 2) 44 i0 (.agg #[.int .i64 0, .int .i64 0]) 2 16 Try.underlying22 hi0 hz0 hz1 hz2 rfl (by omega) _ pre.length (flat2 (pre.map Prod.snd)) (by have := hr.alloc (.cells #[.int .i64 x1, .int .i64 x2] 44); unfold RgOwn at this; rw [List.length_map] at this; exact this)
        ⟨W'.heap.size, 0, none⟩ 1 1 [.int .i64 x1, .int .i64 x2] (by rfl) (rg_one_news2 W' x1 x2) (by simp [Value.oneCell']) (by omega) (by unfold maxLen; omega) (by omega) (by simp; omega) (W'.heap.size + 1) (by simp)
      have hrow : ∀ {B : Nat}, (Value.slice a1 pre.length cap1).ownBlock = some B → wr.heap.size + 2 ≤ B ∧ ∃ cur, W'.heap[B]? = some (.cells cur 44 (0, 0)) := fun {B} e => by
        rcases hr.2 with ⟨hx, _⟩ | ⟨g', cap', cur', hx, hg', hgb, _⟩
        · rw [hx] at e; simp [Value.ownBlock] at e
        · rw [hx] at e; simp [Value.ownBlock] at e; subst e; exact ⟨hg', cur', hgb⟩
      have hneW : ∀ B, B < wr.heap.size + 2 → some B ≠ (Value.slice a1 pre.length cap1).ownBlock := fun B hB' e => by
        have := (hrow e.symm).1; omega
      have hv2 : Boxed W2 wr.heap.size 22 (.slice a1 pre.length cap1) := (hv.alloc _).kept hgrow (hneW _ (by omega))
      have hcb := hv2.cell
      have hfb := hv2.frozen
      gi_wp2_with (gi_at_builtin; refine wpListIn_append_run2 rfl _ _ 22 rfl _ _ (.slice (some ⟨gg, 0, none⟩) (pre.length + 1) cap2) W2 rfl rfl hrun ?_)
      have hoa : ∀ {B : Nat} {o : Obj}, W'.heap[B]? = some o → (W'.alloc (.cells #[.int .i64 x1, .int .i64 x2] 44)).heap[B]? = some o := fun {B o} h => (Below.heap_alloc _ _ _ (Array.getElem?_eq_some_iff.1 h).1).trans h
      have hgw : wr.heap.size + 2 ≤ gg := by
        rcases hat with e | e
        · exact (hrow e).1
        · omega
      have ko : KeepsOthers W' (W2.setCell ⟨wr.heap.size, 0, none⟩ (.slice (some ⟨gg, 0, none⟩) (pre.length + 1) cap2)) :=
        ((KeepsOthers.alloc W' _).trans (KeepsOthers.of_grownBy hgrow (fun j o hj ho => by
          obtain ⟨_, cur, hc⟩ := hrow hj
          rw [hoa hc] at ho; cases ho; rfl))).trans (KeepsOthers.setCell _ _ _)
      have hkp : KpR wr.heap.size (wr.heap.size + 1) (.slice ua m uc) W' (W2.setCell ⟨wr.heap.size, 0, none⟩ (.slice (some ⟨gg, 0, none⟩) (pre.length + 1) cap2)) :=
        kpR_t (kpR_t (KpR.below ((Below.refl _ _).alloc (Nat.le_refl _) _) (by omega)) (KpR.grown hgrow (by simp; omega) (fun r e => by have := (hrow e).1; omega)))
          (KpR.grown (grownBy_setCell' W2 _ _) (by have := hgrow.size; simp at this; omega) (fun r e => by cases e; omega))
      have hfl : flat2 ((pre ++ [(x0, x1, x2)]).map Prod.snd) = flat2 (pre.map Prod.snd) ++ [Value.int .i64 x1, Value.int .i64 x2] := by rw [List.map_append]; exact flat2_snoc _ _
      have hown2 : RgOwn W2 (wr.heap.size + 2) (.slice (some ⟨gg, 0, none⟩) (pre.length + 1) cap2) ((pre ++ [(x0, x1, x2)]).map Prod.snd) := by unfold RgOwn; rw [hfl, List.length_map, List.length_append]; exact hown
      have hB2 : Below wr.heap.size wr W2 := (hB'.alloc (by omega) _).grown hgrow (by simp; omega) (fun q hq => by have := (hrow hq).1; omega)
      exact ⟨ko.from _, hkp, ⟨by have := hgrow.size; simp at this ⊢; omega, _, hv2.set _, World.ownsRow.kept hown2 (grownBy_setCell' W2 _ _) (.inr (by simp [Value.ownBlock]; omega))⟩, hB2.setCell (p := ⟨wr.heap.size, 0, none⟩) (Nat.le_refl _) _⟩
    case done =>
      rintro D ys W' hD rfl ⟨⟨hs0, v, hv, hr⟩, hB'⟩ hK
      have hrv : RgOwn W' (wr.heap.size + 2) v q.reverse := by
        rw [backF_snd q m (by have := HMQ.out; omega), ← HMQ.out, List.take_length] at hr
        exact hr
      have c0 := hv.cell
      obtain ⟨sa, sc, rfl⟩ := hrv.slice
      have hml : q.reverse.length = m := by rw [List.length_reverse]; exact HMQ.out
      rw [hml] at hv c0 hrv
      have hq0 := HO.out.below hB'
      have hqa := hq0.alloc (.cells #[.slice sa m sc] 22)
      have hou := hqa.2.1
      rw [hul] at hou
      have hmk := HM.out.cons hB' (by simp at hD; omega) hsz hK
      obtain ⟨gg, cap2, W2, hrun, hown, hgrow, hat, hlt2⟩ := run_append_lies (P := Try.prog) (W'.alloc (.cells #[.slice sa m sc] 22)) 26 26 W.heap.size 22 i1 nilV 1 24 Try.underlying26 hi1 hy0 hy1 hy2 rfl (by decide) V i us hou
        ⟨W'.heap.size, 0, none⟩ 1 1 [.slice sa m sc] (by rfl) (World.news_of_block (cs := #[.slice sa m sc]) (t := 22) (fr := (0, 0)) (heap_alloc_new W' _)) (by simp [Value.oneCell']) (by omega) (by unfold maxLen; omega) (by omega) (by simp; omega) (W'.heap.size + 1) (by simp)
      have hua : ∀ j, j < us.length → ∀ b, (us[j]?.getD nilV).ownBlock = some b → (Value.slice sa m sc).ownBlock ≠ some b := fun j hj b e e2 => by
        have a1 := ((HO.out.2.2.1 j hj).lt e).2
        have a2 := (hrv.lt e2).1
        omega
      have huv : ∀ b, (Value.slice sa m sc).ownBlock = some b → V.ownBlock ≠ some b := fun b e e2 => by
        have a1 := (HO.out.2.1.lt b e2).2
        have a2 := (hrv.lt e).1
        omega
      have hsn := QOwnU.snoc (q := q.reverse) hqa (RgOwn.alloc (RgOwn.lower hrv (by omega)) _) hua huv (by rw [hul]; exact hown) hgrow (hat.imp id (fun h => by rw [h]; simp))
      rw [← HTS.out, hul] at hsn
      have hko : KeepsOthers W' W2 := (KeepsOthers.alloc W' _).trans (KeepsOthers.of_grownBy hgrow (fun j o hj ho => by
        rcases hou.2 with ⟨hx, _⟩ | ⟨g', cap', cur', hx, hg', hgb, _⟩
        · rw [hx] at hj; simp [Value.ownBlock] at hj
        · rw [hx] at hj; simp [Value.ownBlock] at hj; subst hj; rw [hgb] at ho; cases ho; rfl))
      have hB2 : Below W.heap.size W W2 := ((HB.out.trans (hB'.mono hsz)).alloc (by omega) _).grown hgrow (by simp; omega) (fun q hq => (hou.lt q hq).1)
      have HSN := Lib.hid (And.intro hsn (And.intro hB2 (hmk.keep hko)))
      clear hsn hB2 hmk hko hua huv
      gi_wp2_with (gi_at_builtin; refine wpListIn_append_run2 rfl _ _ 26 rfl _ _ (.slice (some ⟨gg, 0, none⟩) (i + 1) cap2) W2 rfl rfl hrun ?_)
      exact ⟨TurnI.mk (i + 1) (us ++ [.slice sa m sc]) (D :: Ds) _ _ _ _ _ _ _ _ _ _ _ _ _ rfl rfl (by omega) HSN.out.1 (by simp [hul]) HSN.out.2.1 HSN.out.2.2, by simp [intOf]; omega⟩
    case stop =>
      rintro D c pre W' _ _ h _
      exact h.elim
  · obtain rfl : i = n := by omega
    have hO := HO.out
    rw [List.take_of_length_le (by rw [HN.out]; exact Nat.le_refl _)] at hO
    have HO2 := Lib.hid hO
    clear hO
    gi_wp2
    refine leaves_marks (B := W.heap.size) Ds wr HM.out hsz (fun w' hs => ?_)
    refine ⟨_, results_tmp rfl _ _ _, ?_⟩
    exact ⟨_, rfl, ⟨us, HO2.out.shut hs⟩, HB.out.trans hs.below⟩
theorem turn_any (W : World) (v : Value) (L : List (List (Int × Int))) (h : QRow W v L) (hL : L.length ≤ 1000000000) (hq : ∀ q ∈ L, q.length ≤ 1000000) :
    Calls Try.prog 17 #[v] W fun e w' => ∃ v', e = .returned v' ∧ QOwn w' W.heap.size v' (Bd.turnL L) ∧ Below W.heap.size W w' :=
  callsIn_wide.1 (turn_in 3 (by omega) W v L h hL hq)
end Go.Proofs.Ytfopcgbfbedcjaa
