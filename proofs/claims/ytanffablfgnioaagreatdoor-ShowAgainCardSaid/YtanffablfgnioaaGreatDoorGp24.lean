/- The landed class: list, the set that a text describes, or what it lacks. · The landed class: its two tables. · The landed class: find, by a table of names. · What a class's function hands back. · The landed class: Letter, Colon and Property. -/
import Derived.Test.YtanffablfgnioaaGreatDoorGp19
import Derived.Test.YtanffablfgnioaaGreatDoorGp22
import Derived.Test.YtanffablfgnioaaGreatDoorGp23
import Derived.Deep.AppendLies
import Derived.Test.YtanffablfgnioaaGreatDoorGp12
import Derived.Test.YtanffablfgnioaaGreatDoorGp3
import Derived.Test.YtanffablfgnioaaGreatDoorGp1
namespace Go.Proofs.YtanffablfgnioaaGreatDoor
open Go.RowKit Go.Shelf
attribute [local go_sem] Oper.semAt_some
set_option linter.unusedVariables false
theorem Cl.pairsT_len {l : List UInt8} (h : Cl.okText l = true) : (Cl.pairsT l).length ≤ 500 := by
  simp only [Cl.okText, Bool.and_eq_true, decide_eq_true_eq] at h
  unfold Cl.pairsT; rw [List.length_map]; exact h.2
/-- The list of a set, or of what it lacks. -/
def ListPost (neg : Bool) (L : List (Int × Int)) (W : World) (e : Ending) (w' : World) : Prop := ∃ v out, e = .returned v ∧ Rg.NormL out ∧ (∀ q, 0 ≤ q → q ≤ 1114111 → Rg.hasB out q = (neg != Rg.hasB L q)) ∧ RgOwn w' W.heap.size v out ∧ Below W.heap.size W w'
theorem boxed_ownc {W W' : World} {B : Nat} {t : TypeId} {v : Value} {row : Option Nat} (h : Boxed W B t v) (hg : W.grownBy W' row) (hr : ∀ r, row = some r → ∃ o : Obj, W.heap[r]? = some o ∧ o.isCells = false) : Boxed W' B t v :=
  h.kept hg (fun e => by
    obtain ⟨o, ho, hc⟩ := hr B e.symm
    rw [show W.heap[B]? = _ from h] at ho
    cases ho
    cases hc)
theorem rgOwn_own {W W' : World} {base : Nat} {v : Value} {l : List (Int × Int)} {row : Option Nat} (h : RgOwn W base v l) (hg : W.grownBy W' row) (hr : ∀ r, row = some r → ∃ o : Obj, W.heap[r]? = some o ∧ o.isCells = false) : RgOwn W' base v l := by
  refine World.ownsRow.kept h hg ?_
  rcases h.2 with ⟨rfl, _⟩ | ⟨g, cap, cur, rfl, _, hgb, _⟩
  · exact .inl rfl
  · refine .inr fun e => ?_
    obtain ⟨o, ho, hc⟩ := hr g e.symm
    rw [hgb] at ho; cases ho; cases hc
/-- What the loop of 'list' holds: the list's box, the list. -/
def LI (b : Nat) (l : List (Int × Int)) (W : World) : Prop := b + 2 ≤ W.heap.size ∧ ∃ v, Boxed W b 23 v ∧ RgOwn W (b + 2) v l
theorem LI.own {b : Nat} {l : List (Int × Int)} {W W' : World} {row : Option Nat} (h : LI b l W) (hg : W.grownBy W' row) (hr : ∀ r, row = some r → ∃ o : Obj, W.heap[r]? = some o ∧ o.isCells = false) : LI b l W' := by
  obtain ⟨h0, v, h1, h2⟩ := h
  exact ⟨Nat.le_trans h0 hg.size, v, boxed_ownc h1 hg hr, rgOwn_own h2 hg hr⟩
theorem rg_one_news (W : World) (x y : Int) : ∀ j u, [Value.int .i64 x, Value.int .i64 y][j]? = some u → (W.alloc (.cells #[.int .i64 x, .int .i64 y] 49)).cell? ((⟨W.heap.size, 0, none⟩ : Addr).add j) = some u :=
  World.news_of_block (cs := #[.int .i64 x, .int .i64 y]) (t := 49) (fr := (0, 0)) (heap_alloc_new W _)
set_option maxRecDepth 100000 in
set_option maxHeartbeats 4000000 in
theorem clist_in (n : Nat) (hn : 3 ≤ n) (s : ByteArray) (hok : Cl.okText s.data.toList = true) (hsp : ∀ p ∈ Cl.pairsT s.data.toList, -9223372036854775808 ≤ p.1 ∧ p.1 ≤ 9223372036854775807 ∧ -9223372036854775808 ≤ p.2 ∧ p.2 ≤ 9223372036854775807) (neg : Bool) (w : World) (htab : Spaces w) :
    CallsIn Fence.wide n Tryz.prog 105 #[.string s, .bool neg] w (ListPost neg (Cl.pairsT s.data.toList) w) := by
  have h1 : 1 ≤ n := by omega
  have HSP := Lib.hid hsp
  clear hsp
  refine callsIn_of_wp_marks Tryz.func105 rfl trivial ?_ rfl
  simp only [Tryz.ntmps105, List.size_toArray, List.length_cons, List.length_nil, Nat.reduceAdd, Nat.reduceSub, Array.replicate_succ, Array.replicate_zero, List.push_toArray, List.append_toArray, List.nil_append, List.cons_append]
  gi_wp2_with fail
  refine ⟨trivial, ?_⟩
  refine (callsIn_wide.2 (pairs_any s _)).mono ?_
  rintro e w' ⟨rfl, rfl⟩
  gi_wp2
  have b0 := Boxed.new w 23 (.slice none 0 0)
  have bS := Boxed.new (w.alloc (.cells #[.slice none 0 0] 23)) 9 (.string s)
  rw [World.size_alloc] at bS
  have hB0 : Below w.heap.size w ((w.alloc (.cells #[.slice none 0 0] 23)).alloc (.cells #[.string s] 9)) := ((Below.refl _ w).alloc (Nat.le_refl _) _).alloc (by simp) _
  refine wpIn_rangeFunc_ownG rfl h1 (gf := 173) (lb := #[.pointer (some ⟨w.heap.size + 1, 0, none⟩)]) rfl trivial (enters_of Tryz.func173 (by kernel_rfl) rfl)
    (pairs_stops (n - 1) (by omega) (w.heap.size + 1) s hok _ bS (htab.below (Nat.le_refl _) hB0)) kpS_t kpS_b (Below.refl _ _) (fun _ => rfl)
    (fun pre W => LI w.heap.size pre W ∧ Below w.heap.size w W)
    (fun _ _ _ => False)
    (OwnFrom.and (Own.from (fun s A B row hs hg hr => hs.own hg hr) _) (ownFrom_below (Nat.le_refl _) (by simp; omega)))
    (fun _ _ _ _ _ hs _ _ => hs)
    ⟨⟨by simp, _, b0.alloc _, RgOwn.nil⟩, hB0⟩
    (fun x => { tmps := #[.string s, .bool neg, undef, undef, .slice none 0 0, .pointer (some ⟨w.heap.size, 0, none⟩), .int .i64 x.1, .int .i64 x.2, .string s, .func (.func 173) #[] #[.pointer (some ⟨w.heap.size + 1, 0, none⟩)], .int .i64 x.1, .int .i64 x.2, undef, undef, undef, undef, undef, undef, undef, undef, undef, undef, undef], defers := [] }) ?assign ?body ?done ?stop
  case assign =>
    intro l x W K hK
    gi_wp2
    simpa using hK
  case body =>
    rintro l pre x W ⟨⟨hsz, v, hv, hr⟩, hB⟩ hlen
    have c0 := hv.cell
    obtain ⟨a1, cap1, rfl⟩ := hr.slice
    obtain ⟨i0, hi, hz0, hz1, hz2⟩ := info_parts Tryz.infoRange
    obtain ⟨g, cap, W2, hrun, hown, hgrow, hat, hlt⟩ := run_append_lies (P := Tryz.prog) (W.alloc (.cells #[.int .i64 x.1, .int .i64 x.2] 49)) 23 23 (w.heap.size + 2) 49 i0 (.agg #[.int .i64 0, .int .i64 0]) 2 16 Tryz.underlying23 hi hz0 hz1 hz2 rfl (by omega) _ pre.length (flat2 pre) (hr.alloc _)
      ⟨W.heap.size, 0, none⟩ 1 1 [.int .i64 x.1, .int .i64 x.2] (by rfl) (rg_one_news W x.1 x.2) (by simp [Value.oneCell']) (by omega) (by unfold maxLen; omega) (by omega) (by simp; omega) (W.heap.size + 1) (by simp)
    have hrow : ∀ {B : Nat}, (Value.slice a1 pre.length cap1).ownBlock = some B → w.heap.size + 2 ≤ B ∧ ∃ cur, W.heap[B]? = some (.cells cur 49 (0, 0)) := fun {B} e => by
      rcases hr.2 with ⟨hx, _⟩ | ⟨g', cap', cur', hx, hg', hgb, _⟩
      · rw [hx] at e; simp [Value.ownBlock] at e
      · rw [hx] at e; simp [Value.ownBlock] at e; subst e; exact ⟨hg', cur', hgb⟩
    have hneW : ∀ B, B < w.heap.size + 2 → some B ≠ (Value.slice a1 pre.length cap1).ownBlock := fun B hB' e => by
      have := (hrow e.symm).1; omega
    have hcb : (W2.cell? ⟨w.heap.size, 0, none⟩) = some (.slice a1 pre.length cap1) := ((hv.alloc _).kept hgrow (hneW _ (by omega))).cell
    have hfb : (W2.frozen? ⟨w.heap.size, 0, none⟩) = false := ((hv.alloc _).kept hgrow (hneW _ (by omega))).frozen
    gi_wp2_with (gi_at_builtin; refine wpListIn_append_run rfl _ _ 23 rfl _ _ (.slice (some ⟨g, 0, none⟩) (pre.length + 1) cap) W2 rfl rfl hrun ?_)
    have hka : KpS W (W.alloc (.cells #[.int .i64 x.1, .int .i64 x.2] 49)) := KpS.grown (World.grownBy_alloc W _ none) (fun r e => by cases e)
    have hoa : ∀ {B : Nat} {o : Obj}, W.heap[B]? = some o → (W.alloc (.cells #[.int .i64 x.1, .int .i64 x.2] 49)).heap[B]? = some o := fun {B o} h => (Below.heap_alloc _ _ _ (Array.getElem?_eq_some_iff.1 h).1).trans h
    have hk2 : KpS (W.alloc (.cells #[.int .i64 x.1, .int .i64 x.2] 49)) W2 := KpS.grown hgrow (fun r e cs fr h => by
      obtain ⟨_, cur, hc⟩ := hrow e
      rw [hoa hc] at h
      injection h with h; injection h with _ h _; exact absurd h (by decide))
    have hv2 : Boxed W2 w.heap.size 23 (.slice a1 pre.length cap1) := (hv.alloc _).kept hgrow (hneW _ (by omega))
    have hk3 : KpS W2 (W2.setCell ⟨w.heap.size, 0, none⟩ (.slice (some ⟨g, 0, none⟩) (pre.length + 1) cap)) := KpS.grown (grownBy_setCell' W2 _ _) (fun r e cs fr h => by
      cases e
      rw [show W2.heap[w.heap.size]? = _ from hv2] at h
      injection h with h; injection h with _ h _; exact absurd h (by decide))
    have hgw : w.heap.size + 2 ≤ g := by
      rcases hat with e | e
      · exact (hrow e).1
      · omega
    have ko : KeepsOthers W (W2.setCell ⟨w.heap.size, 0, none⟩ (.slice (some ⟨g, 0, none⟩) (pre.length + 1) cap)) :=
      ((KeepsOthers.alloc W _).trans (KeepsOthers.of_grownBy hgrow (fun j o hj ho => by
        obtain ⟨_, cur, hc⟩ := hrow hj
        rw [hoa hc] at ho; cases ho; rfl))).trans (KeepsOthers.setCell _ _ _)
    have hfl : flat2 (pre ++ [x]) = flat2 pre ++ [Value.int .i64 x.1, Value.int .i64 x.2] := flat2_snoc _ _
    have hown2 : RgOwn W2 (w.heap.size + 2) (.slice (some ⟨g, 0, none⟩) (pre.length + 1) cap) (pre ++ [x]) := by unfold RgOwn; rw [hfl, List.length_append]; exact hown
    have hB2 : Below w.heap.size w W2 := (hB.alloc (by omega) _).grown hgrow (by simp; omega) (fun q hq => by have := (hrow hq).1; omega)
    exact ⟨ko.from _, kpS_t (kpS_t hka hk2) hk3, ⟨by have := hgrow.size; simp at this ⊢; omega, _, hv2.set _, World.ownsRow.kept hown2 (grownBy_setCell' W2 _ _) (.inr (by simp [Value.ownBlock]; omega))⟩, hB2.setCell (p := ⟨w.heap.size, 0, none⟩) (Nat.le_refl _) _⟩
  case done =>
    rintro D ys W hD rfl ⟨⟨hsz, v, hv, hr⟩, hB⟩ hK
    have c0 := hv.cell
    obtain ⟨a1, cap1, rfl⟩ := hr.slice
    have HR : Hid (RRow W (.slice a1 (Cl.pairsT s.data.toList).length cap1) (Cl.pairsT s.data.toList)) := Lib.hid (hr.row (by have := Cl.pairsT_len hok; omega) (fun p hp => HSP.out p hp))
    cases neg
    · gi_wp2_with fail
      refine ⟨trivial, ?_⟩
      refine (callsIn_wide.2 (norm_any _ _ _ HR.out)).mono ?_
      rintro e w5 ⟨v5, out, rfl, hm5, ho5, hb5⟩
      have HM5 := Lib.hid hm5
      have HO5 := Lib.hid ho5
      have HB5 := Lib.hid hb5
      have hK5 : w5.heap[D]? = some (.deferred (some [])) := (hb5.block D (Array.getElem?_eq_some_iff.1 hK).1).trans hK
      clear hm5 ho5 hb5
      gi_wp2
      refine ⟨by simp, .inl ⟨_, _, rfl, run_takeDeferred hK5, ?_⟩⟩
      refine ⟨_, results_tmp rfl _ _ _, _, out, rfl, HM5.out.norm, fun q h0 h1 => by rw [HM5.out.has q h0 h1]; simp [Rg.opB, Rg.hasB], rgOwn_own (HO5.out.lower (by omega)) (grownBy_putObj' _ D (.deferred none)) (fun r e => by cases e; exact ⟨_, hK5, rfl⟩), ?_⟩
      exact (hB.trans (HB5.out.mono hB.size)).trans (belowK_b (w := w) (Nat.le_refl _) w5 D _ _ (by simp at hD; omega) hK5 rfl rfl)
    · gi_wp2_with fail
      refine ⟨trivial, ?_⟩
      refine (callsIn_wide.2 (not_any _ _ _ HR.out)).mono ?_
      rintro e w5 ⟨v5, out, rfl, hm5, ho5, hb5⟩
      have HM5 := Lib.hid hm5
      have HO5 := Lib.hid ho5
      have HB5 := Lib.hid hb5
      have hK5 : w5.heap[D]? = some (.deferred (some [])) := (hb5.block D (Array.getElem?_eq_some_iff.1 hK).1).trans hK
      clear hm5 ho5 hb5
      gi_wp2
      refine ⟨by simp, .inl ⟨_, _, rfl, run_takeDeferred hK5, ?_⟩⟩
      refine ⟨_, results_tmp rfl _ _ _, _, out, rfl, HM5.out.norm, fun q h0 h1 => by rw [HM5.out.has q h0 h1, (Rg.hasB_iff [(0, 1114111)] q).2 ⟨⟨h0, h1⟩, (0, 1114111), by simp, h0, h1⟩]; cases Rg.hasB (Cl.pairsT s.data.toList) q <;> rfl, rgOwn_own (HO5.out.lower (by omega)) (grownBy_putObj' _ D (.deferred none)) (fun r e => by cases e; exact ⟨_, hK5, rfl⟩), ?_⟩
      exact (hB.trans (HB5.out.mono hB.size)).trans (belowK_b (w := w) (Nat.le_refl _) w5 D _ _ (by simp at hD; omega) hK5 rfl rfl)
  case stop =>
    rintro D c pre W _ _ h _
    exact h.elim
theorem Cl.hexN_ok {l : List UInt8} (h : Cl.okHex l = true) : Cl.hexN 0 l < 1152921504606846976 := by
  simp only [Cl.okHex, Bool.and_eq_true, Bool.not_eq_true', decide_eq_true_eq] at h
  have := Cl.hexN_lt l 0 h.2
  have hp : 16 ^ l.length ≤ 16 ^ 15 := Nat.pow_le_pow_right (by omega) (by omega)
  omega
theorem clist_any (s : ByteArray) (hok : Cl.okText s.data.toList = true) (neg : Bool) (w : World) (htab : Spaces w) :
    Calls Tryz.prog 105 #[.string s, .bool neg] w (ListPost neg (Cl.pairsT s.data.toList) w) :=
  callsIn_wide.1 (clist_in 3 (by omega) s hok (by
    intro p hp
    have h := hok
    simp only [Cl.okText, Bool.and_eq_true, List.all_eq_true] at h
    unfold Cl.pairsT at hp
    obtain ⟨f, hf, rfl⟩ := List.mem_map.1 hp
    have hff := h.1.1.2 f hf
    simp only [Cl.okField, Bool.and_eq_true] at hff
    have h1 := Cl.hexN_ok hff.1.1
    have h2 := Cl.hexN_ok hff.1.2
    unfold Cl.pairT
    dsimp only
    omega) neg w htab)
end Go.Proofs.YtanffablfgnioaaGreatDoor
namespace Go.Proofs.YtanffablfgnioaaGreatDoor
open Go.RowKit
set_option linter.unusedVariables false
namespace Cl
def colB : List (ByteArray × ByteArray) := [(⟨#[97, 108, 110, 117, 109]⟩, ⟨#[51, 48, 45, 51, 57, 32, 52, 49, 45, 53, 65, 32, 54, 49, 45, 55, 65]⟩),
  (⟨#[97, 108, 112, 104, 97]⟩, ⟨#[52, 49, 45, 53, 65, 32, 54, 49, 45, 55, 65]⟩),
  (⟨#[97, 115, 99, 105, 105]⟩, ⟨#[48, 45, 55, 70]⟩),
  (⟨#[98, 108, 97, 110, 107]⟩, ⟨#[57, 32, 50, 48]⟩),
  (⟨#[99, 110, 116, 114, 108]⟩, ⟨#[48, 45, 49, 70, 32, 55, 70]⟩),
  (⟨#[100, 105, 103, 105, 116]⟩, ⟨#[51, 48, 45, 51, 57]⟩),
  (⟨#[103, 114, 97, 112, 104]⟩, ⟨#[50, 49, 45, 55, 69]⟩),
  (⟨#[108, 111, 119, 101, 114]⟩, ⟨#[54, 49, 45, 55, 65]⟩),
  (⟨#[112, 114, 105, 110, 116]⟩, ⟨#[50, 48, 45, 55, 69]⟩),
  (⟨#[112, 117, 110, 99, 116]⟩, ⟨#[50, 49, 45, 50, 70, 32, 51, 65, 45, 52, 48, 32, 53, 66, 45, 54, 48, 32, 55, 66, 45, 55, 69]⟩),
  (⟨#[115, 112, 97, 99, 101]⟩, ⟨#[57, 45, 68, 32, 50, 48]⟩),
  (⟨#[117, 112, 112, 101, 114]⟩, ⟨#[52, 49, 45, 53, 65]⟩),
  (⟨#[119, 111, 114, 100]⟩, ⟨#[51, 48, 45, 51, 57, 32, 52, 49, 45, 53, 65, 32, 54, 49, 45, 55, 65, 32, 53, 70]⟩),
  (⟨#[120, 100, 105, 103, 105, 116]⟩, ⟨#[51, 48, 45, 51, 57, 32, 52, 49, 45, 52, 54, 32, 54, 49, 45, 54, 54]⟩)]
def propB : List (ByteArray × ByteArray) := [(⟨#[65, 110, 121]⟩, ⟨#[48, 45, 49, 48, 70, 70, 70, 70]⟩),
  (⟨#[76, 97, 116, 105, 110]⟩, ⟨#[52, 49, 45, 53, 65, 32, 54, 49, 45, 55, 65, 32, 65, 65, 32, 66, 65, 32, 67, 48, 45, 68, 54, 32, 68, 56, 45, 70, 54, 32, 70, 56, 45, 50, 52, 70]⟩),
  (⟨#[71, 114, 101, 101, 107]⟩, ⟨#[51, 55, 48, 45, 51, 55, 51, 32, 51, 55, 53, 45, 51, 55, 55, 32, 51, 55, 65, 45, 51, 55, 68, 32, 51, 55, 70, 32, 51, 56, 52, 32, 51, 56, 54, 32, 51, 56, 56, 45, 51, 56, 65, 32, 51, 56, 67, 32, 51, 56, 69, 45, 51, 65, 49, 32, 51, 65, 51, 45, 51, 69, 49, 32, 51, 70, 48, 45, 51, 70, 70, 32, 50, 49, 50, 54]⟩),
  (⟨#[67, 121, 114, 105, 108, 108, 105, 99]⟩, ⟨#[52, 48, 48, 45, 52, 56, 52, 32, 52, 56, 55, 45, 53, 50, 70]⟩),
  (⟨#[76, 117]⟩, ⟨#[52, 49, 45, 53, 65, 32, 67, 48, 45, 68, 54, 32, 68, 56, 45, 68, 69, 32, 49, 55, 56, 32, 51, 57, 49, 45, 51, 65, 49, 32, 51, 65, 51, 45, 51, 65, 66, 32, 52, 48, 48, 45, 52, 50, 70]⟩),
  (⟨#[76, 108]⟩, ⟨#[54, 49, 45, 55, 65, 32, 66, 53, 32, 68, 70, 45, 70, 54, 32, 70, 56, 45, 70, 70, 32, 51, 65, 67, 45, 51, 67, 69, 32, 52, 51, 48, 45, 52, 53, 70, 32, 49, 55, 70]⟩),
  (⟨#[76]⟩, ⟨#[52, 49, 45, 53, 65, 32, 67, 48, 45, 68, 54, 32, 68, 56, 45, 68, 69, 32, 49, 55, 56, 32, 51, 57, 49, 45, 51, 65, 49, 32, 51, 65, 51, 45, 51, 65, 66, 32, 52, 48, 48, 45, 52, 50, 70, 32, 54, 49, 45, 55, 65, 32, 66, 53, 32, 68, 70, 45, 70, 54, 32, 70, 56, 45, 70, 70, 32, 51, 65, 67, 45, 51, 67, 69, 32, 52, 51, 48, 45, 52, 53, 70, 32, 49, 55, 70, 32, 52, 49, 45, 53, 65, 32, 54, 49, 45, 55, 65, 32, 65, 65, 32, 66, 65, 32, 67, 48, 45, 68, 54, 32, 68, 56, 45, 70, 54, 32, 70, 56, 45, 50, 52, 70, 32, 51, 55, 48, 45, 51, 55, 51, 32, 51, 55, 53, 45, 51, 55, 55, 32, 51, 55, 65, 45, 51, 55, 68, 32, 51, 55, 70, 32, 51, 56, 52, 32, 51, 56, 54, 32, 51, 56, 56, 45, 51, 56, 65, 32, 51, 56, 67, 32, 51, 56, 69, 45, 51, 65, 49, 32, 51, 65, 51, 45, 51, 69, 49, 32, 51, 70, 48, 45, 51, 70, 70, 32, 50, 49, 50, 54, 32, 52, 48, 48, 45, 52, 56, 52, 32, 52, 56, 55, 45, 53, 50, 70]⟩),
  (⟨#[78, 100]⟩, ⟨#[51, 48, 45, 51, 57, 32, 54, 54, 48, 45, 54, 54, 57, 32, 54, 70, 48, 45, 54, 70, 57, 32, 57, 54, 54, 45, 57, 54, 70]⟩)]
/-- The cells of a table. -/
def cellsT (T : List (ByteArray × ByteArray)) : Array Value := (T.flatMap fun p => [Value.string p.1, Value.string p.2]).toArray
end Cl
/-- A table in a new block. -/
def NamedPost (T : List (ByteArray × ByteArray)) (W : World) (e : Ending) (w' : World) : Prop := e = .returned (.slice (some ⟨W.heap.size, 0, none⟩) T.length T.length) ∧ w' = W.alloc (.cells (Cl.cellsT T) 195)
set_option maxRecDepth 100000 in
set_option maxHeartbeats 4000000 in
theorem colons_any (W : World) : Calls Tryz.prog 176 #[] W (NamedPost Cl.colB W) := by
  go_enter Tryz.func176, Tryz.ntmps176
  go_wp2
  go_ret
  exact ⟨rfl, rfl⟩
set_option maxRecDepth 100000 in
set_option maxHeartbeats 4000000 in
theorem properties_any (W : World) : Calls Tryz.prog 139 #[] W (NamedPost Cl.propB W) := by
  go_enter Tryz.func139, Tryz.ntmps139
  go_wp2
  go_ret
  exact ⟨rfl, rfl⟩
end Go.Proofs.YtanffablfgnioaaGreatDoor
namespace Go.Proofs.YtanffablfgnioaaGreatDoor
open Go.RowKit Go.Shelf
set_option linter.unusedVariables false
namespace Cl
/-- What a table has of a name. -/
def findT (T : List (ByteArray × ByteArray)) (s : List UInt8) : Option (ByteArray × ByteArray) := T.find? fun e => e.1.data.toList == s
def okTab (T : List (ByteArray × ByteArray)) : Bool := T.all fun e => okText e.2.data.toList
theorem okTab_col : okTab colB = true := by decide +kernel
theorem okTab_prop : okTab propB = true := by decide +kernel
theorem bare_eq (s : List UInt8) : Cl.bare s = (Lib.trimPrefix s [94], Lib.hasPrefix s [94]) := by
  cases s with
  | nil => rfl
  | cons b t =>
    by_cases h : b = 94
    · subst h
      cases t <;> rfl
    · have e1 : Cl.bare (b :: t) = (b :: t, false) := by
        unfold Cl.bare
        split
        · rename_i t' he; cases he; exact absurd rfl h
        · rfl
      have e2 : Lib.hasPrefix (b :: t) [94] = false := by
        have h' : ¬ (94 : UInt8) = b := fun e => h e.symm
        simp [Lib.hasPrefix, List.isPrefixOf, h']
      rw [e1]
      unfold Lib.trimPrefix
      rw [e2]; rfl
end Cl
theorem cutPrefix_any (s : ByteArray) (w : World) : Calls Tryz.prog 87 #[.string s, .string ⟨#[94]⟩] w fun e w' => e = .returned (.tuple #[.string ⟨(Cl.bare s.data.toList).1.toArray⟩, .bool (Cl.bare s.data.toList).2]) ∧ w' = w := by
  have hcon := Any.strings_CutPrefix (P := Tryz.prog) Tryz.layPrefix s ⟨#[94]⟩ w
  change Calls Tryz.prog 87 _ _ _ at hcon
  rw [Cl.bare_eq]
  exact hcon
/-- What find hands back: a set's list, or that there is no such name. -/
def FindPost (T : List (ByteArray × ByteArray)) (s : List UInt8) (W : World) (e : Ending) (w' : World) : Prop :=
  ∃ v out code, e = .returned (.tuple #[v, .int .i64 code]) ∧ RgOwn w' W.heap.size v out ∧ Below W.heap.size W w' ∧
    ((Cl.findT T (Cl.bare s).1 = none ∧ out = [] ∧ code = 70) ∨ ∃ p, Cl.findT T (Cl.bare s).1 = some p ∧ code = 0 ∧ Rg.NormL out ∧ ∀ q, 0 ≤ q → q ≤ 1114111 → Rg.hasB out q = ((Cl.bare s).2 != Rg.hasB (Cl.pairsT p.2.data.toList) q))
theorem cells_at (T : List (ByteArray × ByteArray)) (k : Nat) (p : ByteArray × ByteArray) (h : T[k]? = some p) : (Cl.cellsT T)[k * 2]? = some (.string p.1) ∧ (Cl.cellsT T)[k * 2 + 1]? = some (.string p.2) := by
  unfold Cl.cellsT
  simp only [List.getElem?_toArray]
  induction T generalizing k with
  | nil => simp at h
  | cons a t ih =>
    cases k with
    | zero => simp at h; subst h; simp
    | succ k =>
      have h' : t[k]? = some p := by simpa using h
      have e1 : (k + 1) * 2 = k * 2 + 1 + 1 := by omega
      rw [e1]
      simpa using ih k h'
set_option maxRecDepth 100000 in
set_option maxHeartbeats 4000000 in
theorem find_any (W : World) (T : List (ByteArray × ByteArray)) (hT : Cl.okTab T = true) (n : Nat) (hn : T.length = n) (h100 : n ≤ 100) (g : Nat) (hg : W.heap[g]? = some (.cells (Cl.cellsT T) 195 (0, 0))) (s : ByteArray) (htab : Spaces W) :
    Calls Tryz.prog 138 #[.slice (some ⟨g, 0, none⟩) n n, .string s] W (FindPost T s.data.toList W) := by
  have HG := Lib.hid hg
  have hgs : g < W.heap.size := (Array.getElem?_eq_some_iff.1 hg).1
  have HT := Lib.hid hT
  have HN := Lib.hid hn
  have HS := Lib.hid htab
  obtain ⟨nm, hnm⟩ : ∃ nm : ByteArray, nm = ⟨(Cl.bare s.data.toList).1.toArray⟩ := ⟨_, rfl⟩
  obtain ⟨neg, hneg⟩ : ∃ neg, neg = (Cl.bare s.data.toList).2 := ⟨_, rfl⟩
  have hcp := cutPrefix_any s W
  have HNM : Hid ((Cl.bare s.data.toList).1 = nm.data.toList) := Lib.hid (by rw [hnm])
  unfold FindPost
  rw [← hnm, ← hneg] at hcp
  rw [← hneg, HNM.out]
  have HCP := Lib.hid hcp
  clear hg hT hn htab hnm hneg hcp
  go_enter Tryz.func138, Tryz.ntmps138
  go_wp2_with fail
  refine HCP.out.mono ?_
  rintro e w0 ⟨rfl, rfl⟩
  clear HCP
  go_wp2
  go_loopw [17] (fun i wr => ∃ k : Nat, k ≤ n ∧ i = .int .i64 k ∧ Hid (∀ j, j < k → ∀ p, T[j]? = some p → p.1.data.toList ≠ nm.data.toList) ∧ Hid (Below w0.heap.size w0 wr)) (fun i _ => n - (intOf i).toNat)
  case atStart => exact ⟨0, Nat.zero_le _, rfl, Lib.hid (fun j hj => absurd hj (Nat.not_lt_zero _)), Lib.hid (Below.refl _ _)⟩
  case round =>
    obtain ⟨k, hk, rfl, HM, HB⟩ := hrel
    by_cases hlt : k < n
    · obtain ⟨p, hp⟩ : ∃ p, T[k]? = some p := ⟨T[k]'(by rw [HN.out]; exact hlt), List.getElem?_eq_getElem _⟩
      have hgr : wr.heap[g]? = some (.cells (Cl.cellsT T) 195 (0, 0)) := (HB.out.block g hgs).trans HG.out
      have hca := cells_at T k p hp
      have hc1 : wr.cell? ⟨g, k * 2, none⟩ = some (.string p.1) := by simp only [World.cell?, hgr]; exact hca.1
      have hc2 : wr.cell? ⟨g, k * 2 + 1, none⟩ = some (.string p.2) := by simp only [World.cell?, hgr]; exact hca.2
      have hgl : g < wr.heap.size := Nat.lt_of_lt_of_le hgs HB.out.size
      have hok : Hid (Cl.okText p.2.data.toList = true) := Lib.hid (by have := HT.out; unfold Cl.okTab at this; rw [List.all_eq_true] at this; exact this p (List.mem_of_getElem? hp))
      have HP := Lib.hid hp
      obtain ⟨p1, p2⟩ := p
      dsimp only at hc1 hc2 hok
      clear hp hca hgr
      by_cases he : p1 = nm
      · subst he
        have D0 := Lib.hid (HB.out.alloc HB.out.size (.cells #[.string p1, .string p2] 195))
        go_wp2_with fail
        refine (clist_any p2 hok.out neg _ (HS.out.below (Nat.le_refl _) D0.out)).mono ?_
        rintro e w5 ⟨v5, out, rfl, hn5, hh5, ho5, hb5⟩
        have HN5 := Lib.hid hn5
        have HH5 := Lib.hid hh5
        have HO5 := Lib.hid (ho5.lower D0.out.size)
        have HB5 := Lib.hid (D0.out.trans (hb5.mono D0.out.size))
        have HF : Hid (Cl.findT T p1.data.toList = some (p1, p2)) := Lib.hid (by
          unfold Cl.findT
          have hk2 : k < T.length := by rw [HN.out]; exact hlt
          have e1 : T[k] = (p1, p2) := by have := HP.out; rw [List.getElem?_eq_getElem hk2] at this; exact Option.some.inj this
          rw [List.find?_eq_some_iff_getElem]
          refine ⟨by simp, k, hk2, e1, fun j hj => ?_⟩
          have := HM.out j hj T[j] (List.getElem?_eq_getElem _)
          simpa using this)
        clear hn5 hh5 ho5 hb5
        go_wp2
        go_ret2
        exact ⟨v5, out, 0, rfl, HO5.out, HB5.out, .inr ⟨_, HF.out, rfl, HN5.out, HH5.out⟩⟩
      · have he2 : (p1.toList == nm.toList) = false := by
          rw [beq_eq_false_iff_ne]
          intro e
          rw [ByteArray.toList_eq, ByteArray.toList_eq] at e
          exact he (ByteArray.ext (Array.toList_inj.1 e))
        have HE : Hid (p1.data.toList ≠ nm.data.toList) := Lib.hid (fun e => he (ByteArray.ext (Array.toList_inj.1 e)))
        clear he
        go_wp2
        go_roundw
        case rel =>
          refine ⟨k + 1, by omega, by go_num, Lib.hid (fun j hj p hp => ?_), Lib.hid (HB.out.alloc HB.out.size _)⟩
          by_cases e : j = k
          · subst e
            rw [HP.out] at hp; cases hp; exact HE.out
          · exact HM.out j (by omega) p hp
        case measure => simp [intOf]; omega
    · obtain rfl : k = n := by omega
      have c1 : ¬ ((k : Int) < (k : Int)) := by omega
      go_wp2
      go_ret2
      refine ⟨_, [], 70, rfl, RgOwn.nil, HB.out, .inl ⟨?_, rfl, rfl⟩⟩
      unfold Cl.findT
      rw [List.find?_eq_none]
      intro p hp
      obtain ⟨j, hj⟩ := List.getElem?_of_mem hp
      have hlt : j < T.length := (List.getElem?_eq_some_iff.1 hj).1
      have := HM.out j (by rw [← HN.out]; exact hlt) p hj
      simpa using this
end Go.Proofs.YtanffablfgnioaaGreatDoor
namespace Go.Proofs.YtanffablfgnioaaGreatDoor
open Go.RowKit
set_option linter.unusedVariables false
/-- A class, or why there is none. -/
def ClassPost (X : Option (Bool × List Int)) (W : World) (e : Ending) (w' : World) : Prop :=
  ∃ v out code, e = .returned (.tuple #[v, .int .i64 code]) ∧ Cl.ClassIs X out code ∧ RgOwn w' W.heap.size v out ∧ Below W.heap.size W w'
theorem class_row {X : Option (Bool × List Int)} {out : List (Int × Int)} {code : Int} (hc : Cl.ClassIs X out code) {W : World} {base : Nat} {v : Value} (h : RgOwn W base v out) : RRow W v out := by
  cases X with
  | none => obtain ⟨rfl, _⟩ := hc; exact h.row (by simp) (fun p hp => by cases hp)
  | some p => exact h.normRow hc.2.1
namespace Cl
open Go.Proofs.YtanffablfgnioaaGreatDoor.Rg
end Cl
end Go.Proofs.YtanffablfgnioaaGreatDoor
namespace Go.Proofs.YtanffablfgnioaaGreatDoor
open Go.RowKit Go.Shelf
set_option linter.unusedVariables false
namespace Cl
open Go.Proofs.YtanffablfgnioaaGreatDoor.Rg
/-- Two lists of the same ranges. -/
def sameB (a b : List (Int × Int)) : Bool := a.all (fun p => b.contains p) && b.all (fun p => a.contains p)
theorem sameB_has {a b : List (Int × Int)} (h : sameB a b = true) (q : Int) : hasB a q = hasB b q := by
  simp only [sameB, Bool.and_eq_true, List.all_eq_true, List.contains_iff_mem] at h
  rw [Bool.eq_iff_iff, hasB_iff, hasB_iff]
  constructor
  · rintro ⟨h0, p, hp, h1⟩; exact ⟨h0, p, h.1 p hp, h1⟩
  · rintro ⟨h0, p, hp, h1⟩; exact ⟨h0, p, h.2 p hp, h1⟩
/-- The landed table has of each name what the reference's has. -/
def agreeB (T : List (ByteArray × ByteArray)) (U : List (List UInt8 × List Int)) : Bool :=
  (T.all fun e => match look U e.1.data.toList with | some n => sameB (pairsT e.2.data.toList) (pairsOf n) | none => false) && U.all fun u => T.any fun e => e.1.data.toList == u.1
theorem agree_col : agreeB colB colonT = true := by decide +kernel
theorem agree_prop : agreeB propB propT = true := by decide +kernel
theorem agree_some {T : List (ByteArray × ByteArray)} {U : List (List UInt8 × List Int)} (h : agreeB T U = true) {s : List UInt8} {p : ByteArray × ByteArray} (hf : findT T s = some p) :
    ∃ n, look U s = some n ∧ ∀ q, hasB (pairsT p.2.data.toList) q = hasB (pairsOf n) q := by
  simp only [agreeB, Bool.and_eq_true, List.all_eq_true] at h
  have hm := h.1 p (List.mem_of_find?_eq_some hf)
  have hs : p.1.data.toList = s := by have := List.find?_some hf; simpa using this
  rw [hs] at hm
  cases hl : look U s with
  | none => rw [hl] at hm; cases hm
  | some n => rw [hl] at hm; exact ⟨n, rfl, sameB_has hm⟩
theorem agree_none {T : List (ByteArray × ByteArray)} {U : List (List UInt8 × List Int)} (h : agreeB T U = true) {s : List UInt8} (hf : findT T s = none) : look U s = none := by
  simp only [agreeB, Bool.and_eq_true, List.all_eq_true] at h
  unfold look
  cases hu : U.find? fun e => s == e.1 with
  | none => rfl
  | some u =>
    exfalso
    have hs : s = u.1 := by have := List.find?_some hu; simpa using this
    have ha := h.2 u (List.mem_of_find?_eq_some hu)
    rw [List.any_eq_true] at ha
    obtain ⟨e, he, h2⟩ := ha
    unfold findT at hf
    rw [List.find?_eq_none] at hf
    exact hf e he (by rw [hs]; exact h2)
end Cl
theorem class_of_find {T : List (ByteArray × ByteArray)} {U : List (List UInt8 × List Int)} (h : Cl.agreeB T U = true) {s : List UInt8} {W : World} {e : Ending} {w' : World} (hp : FindPost T s W e w') : ClassPost (Cl.lookC U s) W e w' := by
  obtain ⟨v, out, code, rfl, ho, hb, hc⟩ := hp
  refine ⟨v, out, code, rfl, ?_, ho, hb⟩
  unfold Cl.lookC
  rcases hc with ⟨hf, rfl, rfl⟩ | ⟨p, hf, rfl, hn, hh⟩
  · rw [Cl.agree_none h hf]; exact ⟨rfl, rfl⟩
  · obtain ⟨n, hl, hs⟩ := Cl.agree_some h hf
    rw [hl]
    exact ⟨rfl, hn, fun q h0 h1 => by rw [hh q h0 h1, hs]⟩
theorem class_of_list {neg : Bool} {L : List (Int × Int)} {T : List Int} (h : ∀ q, Rg.hasB L q = Rg.hasB (Cl.pairsOf T) q) {out : List (Int × Int)} (hn : Rg.NormL out) (hh : ∀ q, 0 ≤ q → q ≤ 1114111 → Rg.hasB out q = (neg != Rg.hasB L q)) : Cl.ClassIs (some (neg, T)) out 0 :=
  ⟨rfl, hn, fun q h0 h1 => by rw [hh q h0 h1, h]⟩
theorem Cl.space_has (q : Int) : Rg.hasB (Cl.pairsT [57, 32, 65, 32, 67, 32, 68, 32, 50, 48]) q = Rg.hasB (Cl.pairsOf [9, 10, 12, 13, 32, 32]) q := by
  rw [show Cl.pairsT [57, 32, 65, 32, 67, 32, 68, 32, 50, 48] = [(9, 9), (10, 10), (12, 12), (13, 13), (32, 32)] by decide +kernel, show Cl.pairsOf [9, 10, 12, 13, 32, 32] = [(9, 10), (12, 13), (32, 32)] by decide, Bool.eq_iff_iff, Rg.hasB_iff, Rg.hasB_iff]
  simp only [List.mem_cons, List.not_mem_nil, or_false, exists_eq_or_imp, exists_eq_left]
  omega
set_option maxRecDepth 100000 in
set_option maxHeartbeats 2000000 in
theorem cColon_any (W : World) (s : ByteArray) (htab : Spaces W) : Calls Tryz.prog 141 #[.string s] W (ClassPost (Cl.lookC Cl.colonT s.data.toList) W) := by
  have HS := Lib.hid htab
  clear htab
  go_enter Tryz.func141, Tryz.ntmps141
  go_wp2_with fail
  refine (colons_any _).mono ?_
  rintro e w1 ⟨rfl, rfl⟩
  have D1 := Lib.hid ((Below.refl W.heap.size W).alloc (Nat.le_refl _) (.cells (Cl.cellsT Cl.colB) 195))
  go_wp2_with fail
  refine (find_any _ Cl.colB Cl.okTab_col 14 rfl (by decide) W.heap.size (heap_alloc_new W _) s (HS.out.below (Nat.le_refl _) D1.out)).mono ?_
  intro e w2 hp
  obtain ⟨v, out, code, rfl, hc, ho, hb⟩ := class_of_find Cl.agree_col hp
  have HC := Lib.hid hc
  have HO := Lib.hid (ho.lower D1.out.size)
  have HB := Lib.hid (D1.out.trans (hb.mono D1.out.size))
  clear hp hc ho hb
  go_wp2
  go_ret2
  exact ⟨v, out, code, rfl, HC.out, HO.out, HB.out⟩
set_option maxRecDepth 100000 in
set_option maxHeartbeats 2000000 in
theorem cProp_any (W : World) (s : ByteArray) (htab : Spaces W) : Calls Tryz.prog 104 #[.string s] W (ClassPost (Cl.lookC Cl.propT s.data.toList) W) := by
  have HS := Lib.hid htab
  clear htab
  go_enter Tryz.func104, Tryz.ntmps104
  go_wp2_with fail
  refine (properties_any _).mono ?_
  rintro e w1 ⟨rfl, rfl⟩
  have D1 := Lib.hid ((Below.refl W.heap.size W).alloc (Nat.le_refl _) (.cells (Cl.cellsT Cl.propB) 195))
  go_wp2_with fail
  refine (find_any _ Cl.propB Cl.okTab_prop 8 rfl (by decide) W.heap.size (heap_alloc_new W _) s (HS.out.below (Nat.le_refl _) D1.out)).mono ?_
  intro e w2 hp
  obtain ⟨v, out, code, rfl, hc, ho, hb⟩ := class_of_find Cl.agree_prop hp
  have HC := Lib.hid hc
  have HO := Lib.hid (ho.lower D1.out.size)
  have HB := Lib.hid (D1.out.trans (hb.mono D1.out.size))
  clear hp hc ho hb
  go_wp2
  go_ret2
  exact ⟨v, out, code, rfl, HC.out, HO.out, HB.out⟩
set_option maxRecDepth 100000 in
set_option maxHeartbeats 4000000 in
theorem cLetter_any (W : World) (c : Int) (htab : Spaces W) : Calls Tryz.prog 78 #[.int .u8 c] W (ClassPost (Cl.letterX c) W) := by
  have HS := Lib.hid htab
  clear htab
  by_cases h100 : c = 100
  · subst h100
    have HX : Hid (Cl.letterX 100 = some (false, [48, 57])) := Lib.hid (by decide)
    go_enter Tryz.func78, Tryz.ntmps78
    go_wp2_with fail
    refine (clist_any ⟨#[51, 48, 45, 51, 57]⟩ (by decide +kernel) false _ HS.out).mono ?_
    rintro e w1 ⟨v1, o1, rfl, hn, hh, ho, hb⟩
    have HN := Lib.hid hn
    have HH := Lib.hid hh
    have HO := Lib.hid ho
    have HB := Lib.hid hb
    clear hn hh ho hb
    go_wp2
    go_ret2
    exact ⟨v1, o1, 0, rfl, by rw [HX.out]; exact class_of_list (Cl.sameB_has (by decide +kernel)) HN.out HH.out, HO.out, HB.out⟩
  by_cases h68 : c = 68
  · subst h68
    have HX : Hid (Cl.letterX 68 = some (true, [48, 57])) := Lib.hid (by decide)
    go_enter Tryz.func78, Tryz.ntmps78
    go_wp2_with fail
    refine (clist_any ⟨#[51, 48, 45, 51, 57]⟩ (by decide +kernel) true _ HS.out).mono ?_
    rintro e w1 ⟨v1, o1, rfl, hn, hh, ho, hb⟩
    have HN := Lib.hid hn
    have HH := Lib.hid hh
    have HO := Lib.hid ho
    have HB := Lib.hid hb
    clear hn hh ho hb
    go_wp2
    go_ret2
    exact ⟨v1, o1, 0, rfl, by rw [HX.out]; exact class_of_list (Cl.sameB_has (by decide +kernel)) HN.out HH.out, HO.out, HB.out⟩
  by_cases h115 : c = 115
  · subst h115
    have HX : Hid (Cl.letterX 115 = some (false, [9, 10, 12, 13, 32, 32])) := Lib.hid (by decide)
    go_enter Tryz.func78, Tryz.ntmps78
    go_wp2_with fail
    refine (clist_any ⟨#[57, 32, 65, 32, 67, 32, 68, 32, 50, 48]⟩ (by decide +kernel) false _ HS.out).mono ?_
    rintro e w1 ⟨v1, o1, rfl, hn, hh, ho, hb⟩
    have HN := Lib.hid hn
    have HH := Lib.hid hh
    have HO := Lib.hid ho
    have HB := Lib.hid hb
    clear hn hh ho hb
    go_wp2
    go_ret2
    exact ⟨v1, o1, 0, rfl, by rw [HX.out]; exact class_of_list Cl.space_has HN.out HH.out, HO.out, HB.out⟩
  by_cases h83 : c = 83
  · subst h83
    have HX : Hid (Cl.letterX 83 = some (true, [9, 10, 12, 13, 32, 32])) := Lib.hid (by decide)
    go_enter Tryz.func78, Tryz.ntmps78
    go_wp2_with fail
    refine (clist_any ⟨#[57, 32, 65, 32, 67, 32, 68, 32, 50, 48]⟩ (by decide +kernel) true _ HS.out).mono ?_
    rintro e w1 ⟨v1, o1, rfl, hn, hh, ho, hb⟩
    have HN := Lib.hid hn
    have HH := Lib.hid hh
    have HO := Lib.hid ho
    have HB := Lib.hid hb
    clear hn hh ho hb
    go_wp2
    go_ret2
    exact ⟨v1, o1, 0, rfl, by rw [HX.out]; exact class_of_list Cl.space_has HN.out HH.out, HO.out, HB.out⟩
  by_cases h119 : c = 119
  · subst h119
    have HX : Hid (Cl.letterX 119 = some (false, Cl.word)) := Lib.hid (by decide)
    go_enter Tryz.func78, Tryz.ntmps78
    go_wp2_with fail
    refine (clist_any ⟨#[51, 48, 45, 51, 57, 32, 52, 49, 45, 53, 65, 32, 54, 49, 45, 55, 65, 32, 53, 70]⟩ (by decide +kernel) false _ HS.out).mono ?_
    rintro e w1 ⟨v1, o1, rfl, hn, hh, ho, hb⟩
    have HN := Lib.hid hn
    have HH := Lib.hid hh
    have HO := Lib.hid ho
    have HB := Lib.hid hb
    clear hn hh ho hb
    go_wp2
    go_ret2
    exact ⟨v1, o1, 0, rfl, by rw [HX.out]; exact class_of_list (Cl.sameB_has (by decide +kernel)) HN.out HH.out, HO.out, HB.out⟩
  by_cases h87 : c = 87
  · subst h87
    have HX : Hid (Cl.letterX 87 = some (true, Cl.word)) := Lib.hid (by decide)
    go_enter Tryz.func78, Tryz.ntmps78
    go_wp2_with fail
    refine (clist_any ⟨#[51, 48, 45, 51, 57, 32, 52, 49, 45, 53, 65, 32, 54, 49, 45, 55, 65, 32, 53, 70]⟩ (by decide +kernel) true _ HS.out).mono ?_
    rintro e w1 ⟨v1, o1, rfl, hn, hh, ho, hb⟩
    have HN := Lib.hid hn
    have HH := Lib.hid hh
    have HO := Lib.hid ho
    have HB := Lib.hid hb
    clear hn hh ho hb
    go_wp2
    go_ret2
    exact ⟨v1, o1, 0, rfl, by rw [HX.out]; exact class_of_list (Cl.sameB_has (by decide +kernel)) HN.out HH.out, HO.out, HB.out⟩
  have HX : Hid (Cl.letterX c = none) := Lib.hid (by unfold Cl.letterX; rw [if_neg h100, if_neg h68, if_neg h115, if_neg h83, if_neg h119, if_neg h87])
  go_enter Tryz.func78, Tryz.ntmps78
  go_wp2_with fail
  go_ret2
  exact ⟨_, [], 70, rfl, by rw [HX.out]; exact ⟨rfl, rfl⟩, RgOwn.nil, Below.refl _ _⟩
end Go.Proofs.YtanffablfgnioaaGreatDoor
