/- The landed tree: Groups. -/
import Derived.Test.YtanffablfgnioaaGp9
namespace Go.Proofs.Ytanffablfgnioaa
open Go.RowKit Go.Shelf
attribute [local go_sem] Oper.semAt_some
set_option linter.unusedVariables false
theorem TxOwn.lower {W : World} {b b' : Nat} {v : Value} {T : List ByteArray} (h : TxOwn W b v T) (hb : b' ≤ b) : TxOwn W b' v T := by
  refine ⟨h.1, ?_⟩
  rcases h.2 with ⟨e, e0⟩ | ⟨g, cap, cur, e, hg, rest⟩
  · exact .inl ⟨e, e0⟩
  · exact .inr ⟨g, cap, cur, e, Nat.le_trans hb hg, rest⟩
theorem txOwn_own {W W' : World} {base : Nat} {v : Value} {T : List ByteArray} {row : Option Nat} (h : TxOwn W base v T) (hg : W.grownBy W' row) (hr : ∀ r, row = some r → ∃ o : Obj, W.heap[r]? = some o ∧ o.isCells = false) : TxOwn W' base v T := by
  refine World.ownsRow.kept h hg ?_
  rcases h.2 with ⟨rfl, _⟩ | ⟨g, cap, cur, rfl, _, hgb, _⟩
  · exact .inl rfl
  · refine .inr fun e => ?_
    obtain ⟨o, ho, hc⟩ := hr g e.symm
    rw [hgb] at ho; cases ho; cases hc
theorem blk_kept {W W' : World} {B : Nat} {cs : Array Value} {t : TypeId} {fr : Nat × Nat} {row : Option Nat} (h : W.heap[B]? = some (.cells cs t fr)) (hg : W.grownBy W' row) (hr : ∀ r, row = some r → ∃ o : Obj, W.heap[r]? = some o ∧ o.isCells = false) : W'.heap[B]? = some (.cells cs t fr) := by
  rw [hg.block B (Array.getElem?_eq_some_iff.1 h).1 (fun e => by
    obtain ⟨o, ho, hc⟩ := hr B e.symm
    rw [h] at ho; cases ho; cases hc)]; exact h
/-- What the loop of Groups holds: the list's box, the list. -/
def GI (B : Nat) (T : List ByteArray) (W : World) : Prop := B + 3 ≤ W.heap.size ∧ ∃ v, Boxed W B 34 v ∧ TxOwn W (B + 3) v T
theorem GI.own {B : Nat} {T : List ByteArray} {W W' : World} {row : Option Nat} (h : GI B T W) (hg : W.grownBy W' row) (hr : ∀ r, row = some r → ∃ o : Obj, W.heap[r]? = some o ∧ o.isCells = false) : GI B T W' := by
  obtain ⟨h0, v, h1, h2⟩ := h
  exact ⟨Nat.le_trans h0 hg.size, v, h1.kept hg (fun e => by
    obtain ⟨o, ho, hc⟩ := hr B e.symm
    rw [show W.heap[B]? = _ from h1] at ho; cases ho; cases hc), txOwn_own h2 hg hr⟩
def gpL {Wb : World} (pre : List (NdX Wb)) : List ByteArray := Td.groups (pre.map ndP)
theorem gpL_snoc {Wb : World} (pre : List (NdX Wb)) (x : NdX Wb) : gpL (pre ++ [x]) = gpL pre ++ (if Td.kind x.1.2.1 = 6 then [Td.name x.1.2.1] else []) := by
  unfold gpL Td.groups
  rw [List.map_append, List.filter_append, List.map_append]
  congr 1
  by_cases h : Td.kind x.1.2.1 = 6
  · rw [if_pos h]; simp [ndP, h]
  · rw [if_neg h]; simp [ndP, h]
theorem gpL_le {Wb : World} (pre : List (NdX Wb)) : (gpL pre).length ≤ pre.length := by
  unfold gpL Td.groups
  rw [List.length_map]
  exact Nat.le_trans (List.length_filter_le _ _) (by rw [List.length_map]; exact Nat.le_refl _)
set_option maxRecDepth 100000 in
set_option maxHeartbeats 4000000 in
theorem groups_in (n : Nat) (hn : 3 ≤ n) (W : World) (nd : Nd) (cs : List Value) (h : NdIs W nd cs) (hlen : (Td.all 1000 1 nd).length ≤ 1000000) :
    CallsIn Fence.wide n Try.prog 19 #[.agg cs.toArray] W fun e W' => ∃ v, e = .returned v ∧ TxOwn W' W.heap.size v (Td.groups (Td.all 1000 1 nd)) ∧ Below W.heap.size W W' := by
  have h1 : 1 ≤ n := by omega
  have HND := Lib.hid h
  obtain ⟨u0, u1, u2, u3, u4, u5, u6, u7, sa, sc, a, c, hcs, F⟩ := h.form_of
  subst hcs
  obtain ⟨rfl, rfl, rfl, rfl, rfl, rfl, rfl, rfl⟩ := F
  clear h
  refine callsIn_of_wp_marks Try.func19 rfl trivial ?_ rfl
  simp only [Try.ntmps19, List.size_toArray, List.length_cons, List.length_nil, Nat.reduceAdd, Nat.reduceSub, Array.replicate_succ, Array.replicate_zero, List.push_toArray, List.append_toArray, List.nil_append, List.cons_append]
  gi_wp2_with fail
  refine ⟨trivial, ?_⟩
  have hb1 : Below W.heap.size W ((W.alloc (.cells #[.int .i64 (Td.kind nd), .slice sa (Td.set nd).length sc, .int .i64 (Td.num nd), .string (Td.name nd), .int .i64 (Td.mn nd), .int .i64 (Td.mx nd), .bool (Td.lazy nd), .slice a (Td.subs nd).length c] 25)).alloc (.cells #[.slice none 0 0] 34)) := ((Below.refl _ W).alloc (Nat.le_refl _) _).alloc (by simp) _
  obtain ⟨w1, hw1⟩ : ∃ w1, (W.alloc (.cells #[.int .i64 (Td.kind nd), .slice sa (Td.set nd).length sc, .int .i64 (Td.num nd), .string (Td.name nd), .int .i64 (Td.mn nd), .int .i64 (Td.mx nd), .bool (Td.lazy nd), .slice a (Td.subs nd).length c] 25)).alloc (.cells #[.slice none 0 0] 34) = w1 := ⟨_, rfl⟩
  have bN : Boxed w1 (W.heap.size + 1) 34 (.slice none 0 0) := by
    rw [← hw1]
    have h9 := Boxed.new (W.alloc (.cells #[.int .i64 (Td.kind nd), .slice sa (Td.set nd).length sc, .int .i64 (Td.num nd), .string (Td.name nd), .int .i64 (Td.mn nd), .int .i64 (Td.mx nd), .bool (Td.lazy nd), .slice a (Td.subs nd).length c] 25)) 34 (.slice none 0 0)
    rwa [World.size_alloc] at h9
  have hsz : w1.heap.size = W.heap.size + 2 := by rw [← hw1]; simp
  rw [hw1] at hb1 ⊢
  have HSZ := Lib.hid hsz
  clear hw1 hsz
  refine (callsIn_wide.2 (nodes_any w1 nd _ 1000 (HND.out.kept hb1))).mono ?_
  rintro e w' ⟨rfl, rfl⟩
  gi_wp2
  refine wpIn_rangeFunc_ownH rfl h1 (gf := 46) (lb := #[.pointer (some ⟨w1.heap.size, 0, none⟩), .pointer (some ⟨w1.heap.size + 1, 0, none⟩)]) rfl trivial (enters_of Try.func46 (by kernel_rfl) rfl)
    (nodes_stops W w1 (n - 1) (W.heap.size + 4) 1000 (by omega) (by omega) nd _ HND.out hb1 (by rw [HSZ.out]; omega)) kpN_t (kpN_b (by simp [HSZ.out]; omega)) (Below.refl _ _) (fun _ => rfl)
    (fun pre W' => GI (W.heap.size + 1) (gpL pre) W' ∧ Below W.heap.size W W')
    (fun _ _ _ => False)
    (OwnFrom.and (Own.from (fun s A B row hs hg hr => hs.own hg hr) _) (ownFrom_below (Nat.le_refl _) (by simp [HSZ.out]; omega)))
    (fun _ _ _ _ _ hs _ _ => hs)
    ⟨⟨by simp [HSZ.out], _, (bN.alloc _).alloc _, World.ownsRow_nil _ _ _ _⟩, (hb1.alloc (by rw [HSZ.out]; omega) _).alloc (by simp [HSZ.out]; omega) _⟩
    (fun x a' W' => ∃ Bx, W.heap.size + 4 ≤ Bx ∧ W'.heap[Bx]? = some (.cells x.1.2.2.toArray 25 (0, 0)) ∧ a' = { tmps := #[.agg #[.int .i64 (Td.kind nd), .slice sa (Td.set nd).length sc, .int .i64 (Td.num nd), .string (Td.name nd), .int .i64 (Td.mn nd), .int .i64 (Td.mx nd), .bool (Td.lazy nd), .slice a (Td.subs nd).length c], .pointer (some ⟨W.heap.size, 0, none⟩), .slice none 0 0, .pointer (some ⟨W.heap.size + 1, 0, none⟩), undef, .pointer (some ⟨Bx, 0, none⟩), .agg #[.int .i64 (Td.kind nd), .slice sa (Td.set nd).length sc, .int .i64 (Td.num nd), .string (Td.name nd), .int .i64 (Td.mn nd), .int .i64 (Td.mx nd), .bool (Td.lazy nd), .slice a (Td.subs nd).length c], .func (.func 46) #[] #[.pointer (some ⟨w1.heap.size, 0, none⟩), .pointer (some ⟨w1.heap.size + 1, 0, none⟩)], .int .i64 (x.1.1 : Int), .agg x.1.2.2.toArray, undef, undef, undef, undef, undef, undef, undef, undef, undef], defers := [] })
    (fun x a' s A B row hs hg hr => by
      obtain ⟨Bx, q1, q2, q3⟩ := hs
      exact ⟨Bx, q1, blk_kept q2 hg (fun r e => (hr r e).2), q3⟩) ?assign ?body ?done ?stop
  case assign =>
    intro l pre x W2 K hi hK
    obtain ⟨hG, hB⟩ := hi
    obtain ⟨v0, v1, v2, v3, v4, v5, v6, v7, sa', sc', a', c', hx, F'⟩ := x.2.form_of
    have HK : Hid (∀ (W' : World) (cs' : Array Value), cs' = x.1.2.2.toArray → W' = W2.alloc (.cells cs' 25) → ∀ a', a' = _ → K a' W') := Lib.hid (fun W' cs' ec ew a' ea => hK a' W' (by rw [ew]; exact (KeepsOthers.alloc _ _).from _) (by rw [ew]; exact KpN.alloc _ _ hB.size)
      (by rw [ew]; exact ⟨hG.own (World.grownBy_alloc _ _ none) (fun r e => by cases e), hB.alloc hB.size _⟩) ⟨W2.heap.size, by have := hG.1; omega, by rw [ew, ec]; exact heap_alloc_new _ _, ea⟩)
    obtain ⟨rfl, rfl, rfl, rfl, rfl, rfl, rfl, rfl⟩ := F'
    unfold encN
    rw [hx]
    clear hK hG hB
    gi_wp2
    exact HK.out _ _ (by rw [hx]) rfl _ (by rw [hx])
  case body =>
    rintro l pre x a' W2 hl0 hrec ⟨⟨hsz2, v, hv, ho⟩, hB⟩ ⟨Bx, hBx, hbx, rfl⟩ hl
    have hgl := gpL_le pre
    have hsn := gpL_snoc pre x
    obtain ⟨v0, v1, v2, v3, v4, v5, v6, v7, sa', sc', a', c', hx, F'⟩ := x.2.form_of
    obtain ⟨rfl, rfl, rfl, rfl, rfl, rfl, rfl, rfl⟩ := F'
    rw [hx] at hbx
    have c0 := blkc hbx 0
    have c3 := blkc hbx 3
    simp only [List.getElem?_toArray, List.getElem?_cons_zero, List.getElem?_cons_succ] at c0 c3
    have hcc := hv.cell
    have hff := hv.frozen
    obtain ⟨T, hT⟩ : ∃ T, gpL pre = T := ⟨_, rfl⟩
    rw [hT] at hgl hsn ho
    obtain ⟨q, hq⟩ : ∃ q, T.length = q := ⟨_, rfl⟩
    have HQ := Lib.hid hq
    by_cases k6 : Td.kind x.1.2.1 = 6
    · rw [if_pos k6] at hsn
      obtain ⟨i0, hi, hz0, hz1, hz2⟩ := info_parts Try.infoText
      have ho2 := ho
      unfold TxOwn at ho2
      rw [hq] at ho2 hgl
      obtain ⟨g, cap, W3, hrun, hown, hgrow, hat, hlt⟩ := run_append_lies (P := Try.prog) (W2.alloc (.cells #[.string (Td.name x.1.2.1)] 9)) 34 34 (W.heap.size + 1 + 3) 9 i0 (.string ⟨#[]⟩) 1 16 Try.underText hi hz0 hz1 hz2 rfl (by decide) v q (T.map Value.string) (ho2.alloc _)
        ⟨W2.heap.size, 0, none⟩ 1 1 [.string (Td.name x.1.2.1)] (by rfl) (World.news_of_block (heap_alloc_new W2 (.cells #[.string (Td.name x.1.2.1)] 9))) (by simp [Value.oneCell']) (by omega) (by unfold maxLen; omega) (by omega) (by simp; omega) (W2.heap.size + 1) (by simp)
      have hrow : ∀ {B : Nat}, v.ownBlock = some B → W.heap.size + 4 ≤ B ∧ ∃ cur, W2.heap[B]? = some (.cells cur 9 (0, 0)) := fun {B} e => by
        rcases ho.2 with ⟨hx', _⟩ | ⟨g', cap', cur', hx', hg', hgb, _⟩
        · rw [hx'] at e; simp [Value.ownBlock] at e
        · rw [hx'] at e; simp [Value.ownBlock] at e; subst e; exact ⟨hg', cur', hgb⟩
      have hvs : ∃ a1 cap1, v = .slice a1 q cap1 := by rw [← hq]; exact TxOwn.slice ho
      have HOA : Hid (∀ (B : Nat) (o : Obj), W2.heap[B]? = some o → (W2.alloc (.cells #[.string (Td.name x.1.2.1)] 9)).heap[B]? = some o) := Lib.hid (fun {B o} h => (Below.heap_alloc _ _ _ (Array.getElem?_eq_some_iff.1 h).1).trans h)
      have hne : some (W.heap.size + 1) ≠ v.ownBlock := fun e => by have := (hrow e.symm).1; omega
      have hv3 : Boxed W3 (W.heap.size + 1) 34 v := (hv.alloc _).kept hgrow hne
      have hcc3 := hv3.cell
      have hff3 := hv3.frozen
      have hgw : W.heap.size + 4 ≤ g := by
        rcases hat with e | e
        · exact (hrow e).1
        · have := hB.size; omega
      have HF : Hid (∀ u, u = Value.slice (some ⟨g, 0, none⟩) (q + 1) cap → (∀ B, KeepsFrom B W2 (W3.setCell ⟨W.heap.size + 1, 0, none⟩ u)) ∧ KpN W.heap.size (W.heap.size + 4) W2 (W3.setCell ⟨W.heap.size + 1, 0, none⟩ u) ∧ (GI (W.heap.size + 1) (gpL (pre ++ [x])) (W3.setCell ⟨W.heap.size + 1, 0, none⟩ u)) ∧ Below W.heap.size W (W3.setCell ⟨W.heap.size + 1, 0, none⟩ u)) := Lib.hid (fun u hu => by
        have ko : KeepsOthers W2 (W3.setCell ⟨W.heap.size + 1, 0, none⟩ u) :=
          ((KeepsOthers.alloc W2 _).trans (KeepsOthers.of_grownBy hgrow (fun j o hj ho' => by
            obtain ⟨_, cur, hc⟩ := hrow hj
            rw [HOA.out _ _ hc] at ho'; cases ho'; rfl))).trans (KeepsOthers.setCell _ _ _)
        have kp : KpN W.heap.size (W.heap.size + 4) W2 (W3.setCell ⟨W.heap.size + 1, 0, none⟩ u) :=
          kpN_t (KpN.alloc W2 _ hB.size) (kpN_t (KpN.grown hgrow (by have := hB.size; simp; omega) (fun r e => ⟨by have := (hrow e).1; omega, fun cs fr hc' => by
            obtain ⟨_, cur, hc⟩ := hrow e
            rw [HOA.out _ _ hc] at hc'; injection hc' with hc'; injection hc' with _ h2 _; exact absurd h2 (by decide)⟩)) (KpN.set _ _ _ (by simp) (by simp)))
        refine ⟨fun B => ko.from B, kp, ⟨by have := hgrow.size; simp at this ⊢; omega, _, hv3.set _, ?_⟩, ?_⟩
        · subst hu
          rw [hsn]
          unfold TxOwn
          rw [List.length_append, hq, List.map_append]
          exact World.ownsRow.kept hown (grownBy_setCell' W3 _ _) (.inr (by simp [Value.ownBlock]; omega))
        · exact ((hB.alloc hB.size _).grown hgrow (by have := hB.size; simp; omega) (fun k hk => by have := (hrow hk).1; omega)).setCell (p := ⟨W.heap.size + 1, 0, none⟩) (by simp) _)
      obtain ⟨a1, cap1, rfl⟩ := hvs
      have HRUN := Lib.hid hrun
      clear hown hgrow hat hrow hsn ho ho2 hB hrec hl hT hq hbx hv hv3 HQ hrun
      gi_wp2_with (gi_at_builtin; refine wpListIn_append_run rfl _ _ 34 rfl _ _ (.slice (some ⟨g, 0, none⟩) (q + 1) cap) W3 rfl rfl HRUN.out ?_)
      exact ⟨(HF.out _ rfl).1 _, (HF.out _ rfl).2⟩
    · rw [if_neg k6, List.append_nil] at hsn
      have HF : Hid ((∀ B, KeepsFrom B W2 W2) ∧ KpN W.heap.size (W.heap.size + 4) W2 W2 ∧ (GI (W.heap.size + 1) (gpL (pre ++ [x])) W2) ∧ Below W.heap.size W W2) := Lib.hid
        ⟨fun B => KeepsFrom.refl _ _, KpN.refl _ _ _, ⟨hsz2, v, hv, by rw [hsn]; exact ho⟩, hB⟩
      clear hsn ho hB hv hrec hl hT hq hbx HQ
      gi_wp2
      exact ⟨HF.out.1 _, HF.out.2⟩
  case done =>
    rintro D ys W2 hD hys ⟨⟨hsz2, v, hv, ho⟩, hB⟩ hK
    have hyl : gpL ys = Td.groups (Td.all 1000 1 nd) := by unfold gpL; rw [hys]
    rw [hyl] at ho
    have hcc := hv.cell
    have HO := Lib.hid ho
    clear hys hyl ho
    gi_wp2
    refine ⟨by simp, .inl ⟨_, _, rfl, run_takeDeferred hK, ?_⟩⟩
    exact ⟨_, results_tmp rfl _ _ _, _, rfl, (txOwn_own HO.out (grownBy_putObj' _ D (.deferred none)) (fun r e => by cases e; exact ⟨_, hK, rfl⟩)).lower (by omega), hB.trans (belowK_b (w := W) (Nat.le_refl _) W2 D _ _ (by simp [HSZ.out] at hD; omega) hK rfl rfl)⟩
  case stop =>
    rintro D c pre W2 _ _ h _
    exact h.elim
end Go.Proofs.Ytanffablfgnioaa
