/- The landed tree: Depth. · The landed tree's Check: what its loop holds. -/
import Derived.Test.YthhdlcckboiecaaGp8
import Derived.Test.YthhdlcckboiecaaGp11
import Derived.Test.YthhdlcckboiecaaGp16
import Derived.Maps.OwnIn
import Derived.Maps.Views
namespace Go.Proofs.Ythhdlcckboiecaa
open Go.RowKit Go.Shelf
attribute [local go_sem] Oper.semAt_some
set_option linter.unusedVariables false
def dpL {Wb : World} (pre : List (NdX Wb)) : Nat := Td.deepL (pre.map ndP) 0
theorem dpL_snoc {Wb : World} (pre : List (NdX Wb)) (x : NdX Wb) : dpL (pre ++ [x]) = max (dpL pre) x.1.1 := by unfold dpL; rw [List.map_append, Td.deepL_append]; rfl
set_option maxRecDepth 100000 in
set_option maxHeartbeats 4000000 in
theorem depth_in (n : Nat) (hn : 3 ≤ n) (W : World) (nd : Nd) (cs : List Value) (h : NdIs W nd cs) :
    CallsIn Fence.wide n Try.prog 30 #[.agg cs.toArray] W fun e W' => e = .returned (.int .i64 ((Td.dep 1001 nd : Nat) : Int)) ∧ Below W.heap.size W W' := by
  have h1 : 1 ≤ n := by omega
  have HND := Lib.hid h
  obtain ⟨u0, u1, u2, u3, u4, u5, u6, u7, sa, sc, a, c, hcs, F⟩ := h.form_of
  subst hcs
  obtain ⟨rfl, rfl, rfl, rfl, rfl, rfl, rfl, rfl⟩ := F
  clear h
  refine callsIn_of_wp_marks Try.func30 rfl trivial ?_ rfl
  simp only [Try.ntmps30, List.size_toArray, List.length_cons, List.length_nil, Nat.reduceAdd, Nat.reduceSub, Array.replicate_succ, Array.replicate_zero, List.push_toArray, List.append_toArray, List.nil_append, List.cons_append]
  gi_wp2_with fail
  refine ⟨trivial, ?_⟩
  have hb1 : Below W.heap.size W ((W.alloc (.cells #[.int .i64 (Td.kind nd), .slice sa (Td.set nd).length sc, .int .i64 (Td.num nd), .string (Td.name nd), .int .i64 (Td.mn nd), .int .i64 (Td.mx nd), .bool (Td.lazy nd), .slice a (Td.subs nd).length c] 25)).alloc (.cells #[.int .i64 0] 3)) := ((Below.refl _ W).alloc (Nat.le_refl _) _).alloc (by simp) _
  obtain ⟨w1, hw1⟩ : ∃ w1, (W.alloc (.cells #[.int .i64 (Td.kind nd), .slice sa (Td.set nd).length sc, .int .i64 (Td.num nd), .string (Td.name nd), .int .i64 (Td.mn nd), .int .i64 (Td.mx nd), .bool (Td.lazy nd), .slice a (Td.subs nd).length c] 25)).alloc (.cells #[.int .i64 0] 3) = w1 := ⟨_, rfl⟩
  have bN : Boxed w1 (W.heap.size + 1) 3 (.int .i64 0) := by
    rw [← hw1]
    have h9 := Boxed.new (W.alloc (.cells #[.int .i64 (Td.kind nd), .slice sa (Td.set nd).length sc, .int .i64 (Td.num nd), .string (Td.name nd), .int .i64 (Td.mn nd), .int .i64 (Td.mx nd), .bool (Td.lazy nd), .slice a (Td.subs nd).length c] 25)) 3 (.int .i64 0)
    rwa [World.size_alloc] at h9
  have hsz : w1.heap.size = W.heap.size + 2 := by rw [← hw1]; simp
  rw [hw1] at hb1 ⊢
  have HSZ := Lib.hid hsz
  clear hw1 hsz
  refine (callsIn_wide.2 (nodes_any w1 nd _ 1001 (HND.out.kept hb1))).mono ?_
  rintro e w' ⟨rfl, rfl⟩
  gi_wp2
  refine wpIn_rangeFunc_ownG rfl h1 (gf := 44) (lb := #[.pointer (some ⟨w1.heap.size, 0, none⟩), .pointer (some ⟨w1.heap.size + 1, 0, none⟩)]) rfl trivial (enters_of Try.func44 (by kernel_rfl) rfl)
    (nodes_stops W w1 (n - 1) (W.heap.size + 4) 1001 (by omega) (by omega) nd _ HND.out hb1 (by rw [HSZ.out]; omega)) kpN_t (kpN_b (by simp [HSZ.out]; omega)) (Below.refl _ _) (fun _ => rfl)
    (fun pre W' => (dpL pre ≤ 1000 ∧ Boxed W' (W.heap.size + 1) 3 (.int .i64 (dpL pre : Int))) ∧ Below W.heap.size W W')
    (fun c pre W' => (c = .exit 0 ∧ 1000 < dpL pre ∧ Boxed W' (W.heap.size + 1) 3 (.int .i64 (dpL pre : Int))) ∧ Below W.heap.size W W')
    (OwnFrom.and (OwnFrom.and (fun _ _ _ _ hs _ _ => hs) (Own.from (boxed_own _ _ _) _)) (ownFrom_below (Nat.le_refl _) (by simp [HSZ.out]; omega)))
    (fun c => OwnFrom.and (OwnFrom.and (fun _ _ _ _ hs _ _ => hs) (OwnFrom.and (fun _ _ _ _ hs _ _ => hs) (Own.from (boxed_own _ _ _) _))) (ownFrom_below (Nat.le_refl _) (by simp [HSZ.out]; omega)))
    ⟨⟨by simp [dpL, Td.deepL], (bN.alloc _).alloc _⟩, (hb1.alloc (by rw [HSZ.out]; omega) _).alloc (by simp [HSZ.out]; omega) _⟩
    (fun x => { tmps := #[.agg #[.int .i64 (Td.kind nd), .slice sa (Td.set nd).length sc, .int .i64 (Td.num nd), .string (Td.name nd), .int .i64 (Td.mn nd), .int .i64 (Td.mx nd), .bool (Td.lazy nd), .slice a (Td.subs nd).length c], .pointer (some ⟨W.heap.size, 0, none⟩), .int .i64 0, .pointer (some ⟨W.heap.size + 1, 0, none⟩), .int .i64 (x.1.1 : Int), .agg #[.int .i64 (Td.kind nd), .slice sa (Td.set nd).length sc, .int .i64 (Td.num nd), .string (Td.name nd), .int .i64 (Td.mn nd), .int .i64 (Td.mx nd), .bool (Td.lazy nd), .slice a (Td.subs nd).length c], .func (.func 44) #[] #[.pointer (some ⟨w1.heap.size, 0, none⟩), .pointer (some ⟨w1.heap.size + 1, 0, none⟩)], .int .i64 (x.1.1 : Int), .agg x.1.2.2.toArray, undef, undef, undef, undef, undef, undef], defers := [] }) ?assign ?body ?done ?stop
  case assign =>
    intro l x W2 K hK
    unfold encN
    gi_wp2
    exact hK
  case body =>
    rintro l pre x W2 ⟨⟨hle, hc⟩, hB⟩ hl
    have hcc := hc.cell
    have hff := hc.frozen
    have HSET := Lib.hid (fun v => hc.set v)
    have HK : Hid (∀ v, (∀ B, KeepsFrom B W2 (W2.setCell ⟨W.heap.size + 1, 0, none⟩ v)) ∧ KpN W.heap.size (W.heap.size + 4) W2 (W2.setCell ⟨W.heap.size + 1, 0, none⟩ v) ∧ Below W.heap.size W (W2.setCell ⟨W.heap.size + 1, 0, none⟩ v)) := Lib.hid (fun v =>
      ⟨fun B => (KeepsOthers.setCell _ _ _).from B, KpN.set _ _ _ (by simp) (by simp), hB.setCell (p := ⟨W.heap.size + 1, 0, none⟩) (by simp) v⟩)
    have hm := dpL_snoc pre x
    clear hB hc
    by_cases hlt : dpL pre < x.1.1
    · have hm2 : Hid (dpL (pre ++ [x]) = x.1.1) := Lib.hid (by rw [hm]; omega)
      clear hm
      by_cases hgt : (1000 : Int) < (x.1.1 : Int)
      · gi_wp2
        exact ⟨(HK.out _).1 _, ⟨rfl, by rw [hm2.out]; omega, by rw [hm2.out]; first | exact HSET.out _ | (rw [show max ((dpL pre : Nat) : Int) (x.1.1 : Int) = (x.1.1 : Int) from by omega]; exact HSET.out _)⟩, (HK.out _).2.2⟩
      · gi_wp2
        exact ⟨(HK.out _).1 _, (HK.out _).2.1, ⟨by rw [hm2.out]; omega, by rw [hm2.out]; first | exact HSET.out _ | (rw [show max ((dpL pre : Nat) : Int) (x.1.1 : Int) = (x.1.1 : Int) from by omega]; exact HSET.out _)⟩, (HK.out _).2.2⟩
    · have hm2 : Hid (dpL (pre ++ [x]) = dpL pre) := Lib.hid (by rw [hm]; omega)
      have hgt : ¬ (1000 : Int) < (dpL pre : Int) := by omega
      clear hm
      gi_wp2
      exact ⟨(HK.out _).1 _, (HK.out _).2.1, ⟨by rw [hm2.out]; exact hle, by rw [hm2.out]; first | exact HSET.out _ | (rw [show max ((dpL pre : Nat) : Int) (x.1.1 : Int) = ((dpL pre : Nat) : Int) from by omega]; exact HSET.out _)⟩, (HK.out _).2.2⟩
  case done =>
    rintro D ys W2 hD hys ⟨⟨hle, hc⟩, hB⟩ hK
    have hyl : dpL ys = Td.dep 1001 nd := by unfold dpL; rw [hys]; exact Td.deep_all 1001 nd
    rw [hyl] at hc
    have hcc := hc.cell
    have HLN := Lib.hid hyl
    clear hys hyl
    gi_wp2
    refine ⟨by simp, .inl ⟨_, _, rfl, run_takeDeferred hK, ?_⟩⟩
    exact ⟨_, results_tmp rfl _ _ _, rfl, hB.trans (belowK_b (w := W) (Nat.le_refl _) W2 D _ _ (by simp [HSZ.out] at hD; omega) hK rfl rfl)⟩
  case stop =>
    rintro D c pre W2 hD hpre ⟨⟨rfl, hgt, hc⟩, hB⟩ hK
    have hyl : dpL pre = Td.dep 1001 nd := Td.deep_cut _ nd hpre hgt
    rw [hyl] at hc
    have hcc := hc.cell
    have HLN := Lib.hid hyl
    clear hpre hyl hgt
    gi_wp2
    refine ⟨by simp, .inl ⟨_, _, rfl, run_takeDeferred hK, ?_⟩⟩
    exact ⟨_, results_tmp rfl _ _ _, rfl, hB.trans (belowK_b (w := W) (Nat.le_refl _) W2 D _ _ (by simp [HSZ.out] at hD; omega) hK rfl rfl)⟩
end Go.Proofs.Ythhdlcckboiecaa
namespace Go.Proofs.Ythhdlcckboiecaa
open Go.RowKit Go.Shelf Go.Maps
set_option linter.unusedVariables false
theorem Try.underMapSI : Try.prog.underlying 49 = some (.map 9 3) := by kernel_rfl
theorem Try.underStr : Try.prog.underlying 9 = some .string := by kernel_rfl
theorem Try.underInt6 : Try.prog.underlying 3 = some (.int .i64) := by kernel_rfl
theorem zeroInt6 (w : World) : (zeroValue 3).run Try.prog w = .ok (.int .i64 0) w := by kernel_rfl
theorem law6 : Keyed Try.prog 9 := string_keyed Try.underStr
theorem keepsFrom_below {B : Nat} {X Y : World} (h : Below X.heap.size X Y) : KeepsFrom B X Y :=
  KeepsFrom.of_grownBy (row := none) ⟨h.os, h.tape, h.output, h.size, fun k hk _ => h.block k hk⟩ (fun j e => by cases e)
theorem grown_below {X Y : World} (h : Below X.heap.size X Y) : X.grownBy Y none := ⟨h.os, h.tape, h.output, h.size, fun k hk _ => h.block k hk⟩
theorem boxed_low {X Y : World} {B : Nat} {t : TypeId} {v : Value} (h : Boxed X B t v) (hb : Below X.heap.size X Y) : Boxed Y B t v := (hb.block _ h.lt).trans h
abbrev DW := DataW Unit
def MapIs (D : DW) (T : List ByteArray) : Prop := Maps.IsMap D ∧ ∀ (s : ByteArray) (c : Int), D.atKey (.string s.data.toList) (.lit (.int .i64 0)) = .lit (.int .i64 c) → decide (0 < c) = Td.hit T s
theorem hit_snoc (T : List ByteArray) (nm s : ByteArray) : Td.hit (T ++ [nm]) s = (Td.hit T s || ((nm.toList == s.toList) && !s.toList.isEmpty)) := by
  unfold Td.hit
  rw [List.any_append]
  cases T.any (fun t => t.toList == s.toList) <;> cases s.toList.isEmpty <;> simp
theorem MapIs.start : MapIs (.map []) [] := ⟨isMap_empty, fun s c h => by
  have h2 : (.lit (.int .i64 0) : DW) = .lit (.int .i64 c) := h
  injection h2 with h2; injection h2 with _ h2
  subst h2; rfl⟩
theorem MapIs.none {D : DW} {T : List ByteArray} {nm : ByteArray} (h : MapIs D T) (hn : nm.toList.isEmpty = true) : MapIs D (T ++ [nm]) := ⟨h.1, fun s c hs => by
  rw [h.2 s c hs, hit_snoc]
  have hnl : nm.toList = [] := List.isEmpty_iff.1 hn
  rw [hnl]
  cases hsl : s.toList with
  | nil => simp
  | cons a l => simp⟩
theorem MapIs.put {D : DW} {T : List ByteArray} {nm : ByteArray} {num : Int} (h : MapIs D T) (hn : nm.toList.isEmpty = false) (h0 : 0 < num) : MapIs (D.put (.string nm.data.toList) (.lit (.int .i64 num))) (T ++ [nm]) := ⟨h.1.put _ _, fun s c hs => by
  rw [hit_snoc]
  by_cases e : s = nm
  · subst e
    rw [atKey_put_same h.1 (show WideAt.IsKeyLit (.string s.data.toList) from trivial)] at hs
    injection hs with hs; injection hs with _ hs
    subst hs
    rw [hn, decide_eq_true h0]; simp
  · have hne : (Lit.string s.data.toList) ≠ .string nm.data.toList := fun e2 => e (by
      injection e2 with e2
      exact ByteArray.ext (Array.toList_inj.1 e2))
    rw [atKey_put_other hne] at hs
    rw [h.2 s c hs]
    have hb : (nm.toList == s.toList) = false := by
      rw [beq_eq_false_iff_ne]
      intro e2
      rw [ByteArray.toList_eq, ByteArray.toList_eq] at e2
      exact e (ByteArray.ext (Array.toList_inj.1 e2.symm))
    rw [hb]; simp⟩
/-- What the loop of Check holds between two rounds. -/
structure CkI (Br s0 : Nat) (T : List ByteArray) (W : World) : Prop where
  res : ∃ c : Int, Boxed W Br 28 (.int .i64 c)
  last : Boxed W s0 3 (.int .i64 (T.length : Int))
  box : Boxed W (s0 + 2) 49 (.map (some (s0 + 1)))
  map : ∃ (n : Nat) (D : DW), n ≤ T.length ∧ W.ownsMap Try.prog 9 (plainElem (H := Unit) Try.prog 3) (s0 + 1) n D ∧ MapIs D T
theorem CkI.grown {Br s0 : Nat} {T : List ByteArray} {W W' : World} {row : Option Nat} (h : CkI Br s0 T W) (hg : W.grownBy W' row) (h1 : some Br ≠ row) (h2 : some s0 ≠ row) (h3 : some (s0 + 2) ≠ row) (h4 : some (s0 + 1) ≠ row) : CkI Br s0 T W' := by
  obtain ⟨⟨c, hr⟩, hl, hb, n, D, hn, ho, hm⟩ := h
  exact ⟨⟨c, hr.kept hg h1⟩, hl.kept hg h2, hb.kept hg h3, n, D, hn, ho.kept hg h4, hm⟩
theorem CkI.own {Br s0 B : Nat} {T : List ByteArray} {W W' : World} {row : Option Nat} (h : CkI Br s0 T W) (hg : W.grownBy W' row) (hB : s0 + 2 < B) (hr : ∀ r, row = some r → B ≤ r ∧ ∃ o : Obj, W.heap[r]? = some o ∧ o.isCells = false) : CkI Br s0 T W' := by
  have hno : ∀ {k : Nat} {t : TypeId} {v : Value}, Boxed W k t v → some k ≠ row := fun {k t v} hk e => by
    obtain ⟨_, o, ho, hc⟩ := hr k e.symm
    rw [show W.heap[k]? = _ from hk] at ho; cases ho; cases hc
  obtain ⟨c, h1⟩ := h.res
  exact h.grown hg (hno h1) (hno h.last) (hno h.box) (fun e => by have := (hr _ e.symm).1; omega)
/-- The nodes so far are right. -/
def okP {Wb : World} (pre : List (NdX Wb)) : Prop := ∀ rest, Td.chkF [] (pre.map ndP ++ rest) = Td.chkF (gpL pre) rest
/-- The first error lies among the nodes so far. -/
def errP {Wb : World} (r : Int) (pre : List (NdX Wb)) : Prop := ∀ rest, Td.chkF [] (pre.map ndP ++ rest) = r
theorem okP.step {Wb : World} {pre : List (NdX Wb)} (h : okP pre) (x : NdX Wb) : ∀ rest, Td.chkF [] ((pre ++ [x]).map ndP ++ rest) = Td.chkF (gpL pre) ((x.1.1, x.1.2.1) :: rest) := fun rest => by
  rw [List.map_append, List.append_assoc]
  exact h _
theorem okP.bad {Wb : World} {pre : List (NdX Wb)} (h : okP pre) (x : NdX Wb) (hf : Td.fitsB x.1.2.1 = false) : errP 60 (pre ++ [x]) := fun rest => by
  rw [h.step, Td.chkF, if_pos hf]
theorem okP.other {Wb : World} {pre : List (NdX Wb)} (h : okP pre) (x : NdX Wb) (hf : Td.fitsB x.1.2.1 = true) (hk : Td.kind x.1.2.1 ≠ 6) : okP (pre ++ [x]) ∧ gpL (pre ++ [x]) = gpL pre := by
  have e : gpL (pre ++ [x]) = gpL pre := by rw [gpL_snoc, if_neg hk, List.append_nil]
  exact ⟨fun rest => by rw [h.step, Td.chkF, if_neg (by rw [hf]; decide), if_pos hk, e], e⟩
theorem okP.odd {Wb : World} {pre : List (NdX Wb)} (h : okP pre) (x : NdX Wb) (hf : Td.fitsB x.1.2.1 = true) (hk : Td.kind x.1.2.1 = 6) (hn : Td.num x.1.2.1 ≠ ((gpL pre).length : Int) + 1) : errP 60 (pre ++ [x]) := fun rest => by
  rw [h.step, Td.chkF, if_neg (by rw [hf]; decide), if_neg (fun e => e hk), if_pos hn]
theorem okP.long {Wb : World} {pre : List (NdX Wb)} (h : okP pre) (x : NdX Wb) (hf : Td.fitsB x.1.2.1 = true) (hk : Td.kind x.1.2.1 = 6) (hn : Td.num x.1.2.1 = ((gpL pre).length : Int) + 1) (hl : 31 < Td.num x.1.2.1) : errP 2 (pre ++ [x]) := fun rest => by
  rw [h.step, Td.chkF, if_neg (by rw [hf]; decide), if_neg (fun e => e hk), if_neg (fun e => e hn), if_pos hl]
theorem okP.there {Wb : World} {pre : List (NdX Wb)} (h : okP pre) (x : NdX Wb) (hf : Td.fitsB x.1.2.1 = true) (hk : Td.kind x.1.2.1 = 6) (hn : Td.num x.1.2.1 = ((gpL pre).length : Int) + 1) (hl : ¬ 31 < Td.num x.1.2.1) (hh : Td.hit (gpL pre) (Td.name x.1.2.1) = true) : errP 6 (pre ++ [x]) := fun rest => by
  rw [h.step, Td.chkF, if_neg (by rw [hf]; decide), if_neg (fun e => e hk), if_neg (fun e => e hn), if_neg hl, if_pos hh]
theorem okP.next {Wb : World} {pre : List (NdX Wb)} (h : okP pre) (x : NdX Wb) (hf : Td.fitsB x.1.2.1 = true) (hk : Td.kind x.1.2.1 = 6) (hn : Td.num x.1.2.1 = ((gpL pre).length : Int) + 1) (hl : ¬ 31 < Td.num x.1.2.1) (hh : Td.hit (gpL pre) (Td.name x.1.2.1) = false) : okP (pre ++ [x]) ∧ gpL (pre ++ [x]) = gpL pre ++ [Td.name x.1.2.1] := by
  have e : gpL (pre ++ [x]) = gpL pre ++ [Td.name x.1.2.1] := by rw [gpL_snoc, if_pos hk]
  exact ⟨fun rest => by rw [h.step, Td.chkF, if_neg (by rw [hf]; decide), if_neg (fun e => e hk), if_neg (fun e => e hn), if_neg hl, if_neg (by rw [hh]; decide), e], e⟩
end Go.Proofs.Ythhdlcckboiecaa
