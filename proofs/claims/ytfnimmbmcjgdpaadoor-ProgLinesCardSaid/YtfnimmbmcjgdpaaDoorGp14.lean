/- The landed prog: a line of a text (appendLine). -/
import Derived.Test.YtfnimmbmcjgdpaaDoorGp10
import Derived.Test.YtfnimmbmcjgdpaaDoorGp13
import Derived.Lib.AppendStr
import Derived.Lib.OthersKept
import Derived.Lib.AppendIntMem
namespace Go.Proofs.YtfnimmbmcjgdpaaDoor
open Go.RowKit
set_option linter.unusedVariables false
namespace Pgm
theorem infoBy : (Tryd.prog.info? 5).map (fun i => (i.zero, i.size, i.bytes)) = some (some (.int .u8 0), 1, 1) := by kernel_rfl
theorem underBys : Tryd.prog.underlying 55 = some (.slice 5) := by kernel_rfl
theorem underTx : Tryd.prog.underlying 9 = some .string := by kernel_rfl
/-- A row of bytes that is owned. -/
def ByOwn (W : World) (base : Nat) (v : Value) (T : List UInt8) : Prop := W.ownsRow base 5 1 v T.length (Lib.byteCells T)
theorem ByOwn.nil (W : World) (base : Nat) : ByOwn W base (.slice none 0 0) [] := World.ownsRow_nil _ _ _ _
/-- The powers of ten of the library. -/
structure EvT (W : World) : Prop where
  lt : 4 < W.heap.size
  tab : Lib.TabBelow Tryd.prog W.heap.size W "internal/strconv.uint64pow10" .u64 Lib.pow10Tab
theorem EvT.below {W W' : World} (h : EvT W) (hb : Below W.heap.size W W') : EvT W' :=
  ⟨Nat.lt_of_lt_of_le h.lt hb.size, fun w' h' => h.tab w' (hb.trans (h'.mono hb.size))⟩
theorem EvT.at_ {W W' : World} (h : EvT W) {B : Nat} (hB : W.heap.size ≤ B) (hb : Below W.heap.size W W') : Lib.TabBelow Tryd.prog B W' "internal/strconv.uint64pow10" .u64 Lib.pow10Tab :=
  fun w' h' => h.tab w' (hb.trans (h'.mono hB))
theorem cells_app (a b : List UInt8) : Lib.byteCells (a ++ b) = Lib.byteCells a ++ Lib.byteCells b := by unfold Lib.byteCells; rw [List.map_append]
theorem ByOwn.slice {W : World} {base : Nat} {v : Value} {T : List UInt8} (h : ByOwn W base v T) : ∃ a cap, v = .slice a T.length cap := by
  rcases h.2 with ⟨e, e0⟩ | ⟨g, cap, cur, e, _⟩
  · exact ⟨none, 0, by rw [e, e0]⟩
  · exact ⟨_, _, e⟩
theorem ByOwn.turn {W : World} {base : Nat} {v : Value} {T : List UInt8} (h : ByOwn W base v T) : ∀ g, v.ownBlock = some g → ∃ c fz, W.heap[g]? = some (.cells c 5 fz) := fun g hg => by
  rcases h.2 with ⟨e, e0⟩ | ⟨g', cap, cur, e, _, hgg, _⟩
  · rw [e] at hg; cases hg
  · rw [e] at hg; cases hg; exact ⟨_, _, hgg⟩
/-- One byte more, out of a row of its own. -/
theorem append_by (W : World) (base : Nat) (v : Value) (T : List UInt8) (hv : ByOwn W base v T) (hb : base ≤ W.heap.size) (hT : T.length ≤ 1000000) (c : UInt8) (bt : Nat) (hnew : W.heap[bt]? = some (.cells #[.int .u8 c.toNat] 5 (0, 0))) (cc : Nat) :
    ∃ v' W', (Builtin.append_ #[55, 55] 55 #[v, .slice (some ⟨bt, 0, none⟩) 1 cc]).run Tryd.prog W = .ok v' W' ∧ ByOwn W' base v' (T ++ [c]) ∧ Below base W W' ∧ Lib.OthersKept 5 none W W' := by
  obtain ⟨i0, hi, hz0, hz1, hz2⟩ := info_parts infoBy
  obtain ⟨gg, cap2, W2, hrun, hown, hgrow, hat, hlt2⟩ := run_append_lies (P := Tryd.prog) W 55 55 base 5 i0 _ 1 1 underBys hi hz0 hz1 hz2 rfl (by omega) v _ _ hv
    ⟨bt, 0, none⟩ 1 cc [.int .u8 c.toNat] rfl (World.news_of_block hnew) (by intro u hu; simp at hu; subst hu; rfl) (by omega) (by unfold maxLen; omega) (by omega) hb _ rfl
  refine ⟨_, _, hrun, ?_, (Below.refl base W).grown hgrow hb fun j ej => (World.ownsRow.lt hv j ej).1, (Lib.OthersKept.refl _ _ W).grown hgrow hv.turn⟩
  unfold ByOwn
  rw [List.length_append, cells_app]
  exact hown
/-- A row of integers that is read. -/
def IntsAt (W : World) (a : Option Addr) (ns : List Int) : Prop := ∀ j (h : j < ns.length), ∃ b off cs f, a = some ⟨b, off, none⟩ ∧ W.heap[b]? = some (.cells cs 3 f) ∧ cs[off + j]? = some (.int .i64 ns[j])
theorem IntsAt.kept {W W' : World} {a : Option Addr} {ns : List Int} (h : IntsAt W a ns) (hk : Lib.OthersKept 5 none W W') : IntsAt W' a ns := fun j hj => by
  obtain ⟨b, off, cs, f, e, h1, h2⟩ := h j hj
  exact ⟨b, off, cs, f, e, hk b _ h1 (by simp) (fun c fz q => by injection q with _ q _; exact absurd q (by decide)), h2⟩
theorem IntsAt.cell {W : World} {a : Option Addr} {ns : List Int} (h : IntsAt W a ns) {j : Nat} (hj : j < ns.length) : ∃ b off, a = some ⟨b, off, none⟩ ∧ b < W.heap.size ∧ W.cell? ⟨b, off + j, none⟩ = some (.int .i64 ns[j]) := by
  obtain ⟨b, off, cs, f, e, h1, h2⟩ := h j hj
  exact ⟨b, off, e, (Array.getElem?_eq_some_iff.1 h1).1, by simp [World.cell?, h1, h2]⟩
theorem nums_take (ns : List Int) (k : Nat) (h : k < ns.length) : numsL (ns.take (k + 1)) = numsL (ns.take k) ++ 32 :: Lib.itoa ns[k] := by
  rw [List.take_add_one, List.getElem?_eq_getElem h]
  unfold numsL
  rw [List.flatMap_append]
  simp
theorem nums_take_len (ns : List Int) (k : Nat) (h : ∀ n ∈ ns, 0 ≤ n ∧ n < 1000000) : (numsL (ns.take k)).length ≤ 7 * k := by
  have h1 := nums_len (ns.take k) (fun n hn => h n (List.mem_of_mem_take hn))
  have h2 : (ns.take k).length ≤ k := List.length_take_le _ _
  omega
def LinePost (W : World) (base : Nat) (X : List UInt8) (e : Ending) (w' : World) : Prop := ∃ v', e = .returned v' ∧ ByOwn w' base v' X ∧ Below base W w' ∧ Lib.OthersKept 5 none W w'
set_option maxRecDepth 100000 in
set_option maxHeartbeats 8000000 in
theorem line_any (W : World) (base : Nat) (v : Value) (T : List UInt8) (s : ByteArray) (a : Option Addr) (m c : Nat) (ns : List Int) (h : ByOwn W base v T) (hb : base ≤ W.heap.size) (hT : T.length ≤ 500000) (hs : s.size ≤ 100)
    (hm : ns.length = m) (hm9 : m ≤ 10) (hrow : IntsAt W a ns) (hn : ∀ n ∈ ns, 0 ≤ n ∧ n < 1000000) (hev : ∀ w', Below base W w' → Lib.TabBelow Tryd.prog base w' "internal/strconv.uint64pow10" .u64 Lib.pow10Tab) :
    Calls Tryd.prog 45 #[v, .string s, .slice a m c] W (LinePost W base (T ++ lineL s.data.toList ns)) := by
  obtain ⟨i0, hi, hz0, hz1, hz2⟩ := info_parts infoBy
  have HR := Lib.hid hrow
  have HN := Lib.hid hn
  have HM := Lib.hid hm
  have HEV := Lib.hid hev
  have HO := Lib.hid h
  have hsl : s.data.toList.length = s.size := by simp
  have HSL := Lib.hid hsl
  have HTN := Lib.hid h.turn
  have hlt := World.ownsRow.lt h
  have HLT := Lib.hid (fun j ej => (hlt j ej).1)
  clear hrow hn hm hev hsl hlt
  go_enter Tryd.func45, Tryd.ntmps45
  go_wp2_with (at_builtin; (refine Lib.wpList_append_own_string _ rfl _ _ 55 9 (by rfl) base 5 i0 underBys underTx hi hz0 hz1 hz2 v T.length (Lib.byteCells T) (by rfl) h s (by rfl) (by unfold maxLen; omega) (by omega) hb ?_))
  intro v1 w1 hown1 hgr1 _
  have ho1 : ByOwn w1 base v1 (T ++ s.data.toList) := by
    unfold ByOwn
    rw [List.length_append, HSL.out, cells_app]
    exact hown1
  have HO1 := Lib.hid ho1
  have HB1 : Hid (Below base W w1) := Lib.hid ((Below.refl base W).grown hgr1 hb HLT.out)
  have HK1 : Hid (Lib.OthersKept 5 none W w1) := Lib.hid ((Lib.OthersKept.refl _ _ W).grown hgr1 HTN.out)
  obtain ⟨L1, hL1⟩ : ∃ L1, (T ++ s.data.toList).length = L1 := ⟨_, rfl⟩
  obtain ⟨a1, c1, h1⟩ := ho1.slice
  rw [hL1] at h1
  subst h1
  clear hL1
  clear hown1 hgr1 ho1
  go_wp2
  go_loopw [0, 8, 14] (fun V N K wr => ∃ (k : Nat) (u : Value), k ≤ m ∧ K = .int .i64 (k : Int) ∧ u = V ∧ Hid (ByOwn wr base u (T ++ s.data.toList ++ numsL (ns.take k))) ∧ Hid (Below base W wr) ∧ Hid (Lib.OthersKept 5 none W wr)) (fun V N K _ => m - (intOf K).toNat)
  case atStart => exact ⟨0, _, by omega, rfl, rfl, Lib.hid (by rw [show numsL (ns.take 0) = [] by simp [numsL], List.append_nil]; exact HO1.out), HB1, HK1⟩
  case round =>
    obtain ⟨k, u, hk, rfl, rfl, HU, HB, HK⟩ := hrel
    have hnl := nums_take_len ns k HN.out
    have hlen : (T ++ s.data.toList ++ numsL (ns.take k)).length ≤ 600000 := by
      rw [List.length_append, List.length_append, HSL.out]; omega
    by_cases hlt : k < m
    · have hkl : k < ns.length := by rw [HM.out]; exact hlt
      obtain ⟨b, off, rfl, hbl, hcell⟩ := (HR.out.kept HK.out).cell hkl
      have hnn := HN.out ns[k] (List.getElem_mem hkl)
      have hnt := nums_take ns k hkl
      obtain ⟨x, hx⟩ : ∃ x, ns[k] = x := ⟨_, rfl⟩
      rw [hx] at hcell hnn hnt
      obtain ⟨W2, hW2⟩ : ∃ W2, wr.alloc (.cells #[.int .u8 32] 5) = W2 := ⟨_, rfl⟩
      have hb2 : Below wr.heap.size wr W2 := by rw [← hW2]; exact (Below.refl _ _).alloc (Nat.le_refl _) _
      have hnew : W2.heap[wr.heap.size]? = some (.cells #[.int .u8 (32 : UInt8).toNat] 5 (0, 0)) := by rw [← hW2]; exact heap_alloc_new wr _
      have hbs := HB.out.size
      have hk2 : Lib.OthersKept 5 none wr W2 := by rw [← hW2]; exact (Lib.OthersKept.refl _ _ _).alloc _
      have hu2 : ByOwn W2 base u (T ++ s.data.toList ++ numsL (ns.take k)) := World.ownsRow.kept HU.out (row := none) ⟨hb2.os, hb2.tape, hb2.output, hb2.size, fun j hj _ => hb2.block j hj⟩ (by cases hv : u.ownBlock <;> simp)
      obtain ⟨v3, W3, hrun, ho3, hb3, hk3⟩ := append_by W2 base u _ hu2 (by have := hb2.size; omega) (by omega) 32 wr.heap.size hnew 1
      have HRUN := Lib.hid hrun
      have HB3 := Lib.hid (HB.out.trans ((hb2.mono (by omega)).trans hb3))
      have HK3 := Lib.hid (HK.out.trans (hk2.trans hk3))
      have HO3 := Lib.hid ho3
      have HW2 := Lib.hid hW2
      have HNT := Lib.hid hnt
      have hlen3 : (T ++ s.data.toList ++ numsL (ns.take k) ++ [32]).length ≤ 700000 := by rw [List.length_append]; simp at hlen ⊢; omega
      have hai := Any.strconv_AppendInt_10 (P := Tryd.prog) Tryd.layAppInt base _ x (by omega) (by omega) v3 _ W3 ho3 (by have := hb2.size; have := hb3.size; omega) (by omega) (HEV.out W3 HB3.out)
      change Calls Tryd.prog 76 _ _ _ at hai
      have HAI := Lib.hid hai
      obtain ⟨L3, hL3⟩ : ∃ L3, (T ++ s.data.toList ++ numsL (ns.take k) ++ [32]).length = L3 := ⟨_, rfl⟩
      obtain ⟨a3, c3, h3⟩ := ho3.slice
      rw [hL3] at h3
      subst h3
      clear hL3 hai ho3 hb3 hk3 hrun hW2 hnt hu2 hk2 hnew hb2 hnl hx hbs
      go_wp2_with (at_builtin; (rw [HW2.out]; refine wpList_append_run rfl _ _ 55 rfl _ _ _ W3 rfl rfl HRUN.out ?_))
      refine HAI.out.mono ?_
      rintro e w4 ⟨v4, rfl, ho4, hb4, hk4⟩
      have HO4 : Hid (ByOwn w4 base v4 (T ++ s.data.toList ++ numsL (ns.take (k + 1)))) := Lib.hid (by
        rw [HNT.out]
        unfold ByOwn
        have e1 : T ++ s.data.toList ++ (numsL (ns.take k) ++ 32 :: Lib.itoa x) = (T ++ s.data.toList ++ numsL (ns.take k) ++ [32]) ++ Lib.itoa x := by simp
        rw [e1, List.length_append, cells_app]
        exact ho4)
      have HB4 := Lib.hid (HB3.out.trans hb4)
      have HK4 := Lib.hid (HK3.out.trans hk4)
      clear ho4 hb4 hk4 hcell
      go_wp2
      go_roundw
      case rel => first | exact ⟨k + 1, _, by omega, by go_num, rfl, HO4, HB4, HK4⟩ | ((repeat apply Exists.intro); exact ⟨⟨k + 1, _, by omega, by go_num, rfl, HO4, HB4, HK4⟩, rfl⟩)
      case measure => simp [intOf]; omega
    · obtain rfl : k = m := by omega
      have hfull : ns.take k = ns := List.take_of_length_le (by rw [HM.out]; exact Nat.le_refl _)
      rw [hfull] at HU hlen
      obtain ⟨W2, hW2⟩ : ∃ W2, wr.alloc (.cells #[.int .u8 10] 5) = W2 := ⟨_, rfl⟩
      have hb2 : Below wr.heap.size wr W2 := by rw [← hW2]; exact (Below.refl _ _).alloc (Nat.le_refl _) _
      have hnew : W2.heap[wr.heap.size]? = some (.cells #[.int .u8 (10 : UInt8).toNat] 5 (0, 0)) := by rw [← hW2]; exact heap_alloc_new wr _
      have hbs := HB.out.size
      have hk2 : Lib.OthersKept 5 none wr W2 := by rw [← hW2]; exact (Lib.OthersKept.refl _ _ _).alloc _
      have hu2 : ByOwn W2 base u (T ++ s.data.toList ++ numsL ns) := World.ownsRow.kept HU.out (row := none) ⟨hb2.os, hb2.tape, hb2.output, hb2.size, fun j hj _ => hb2.block j hj⟩ (by cases hv : u.ownBlock <;> simp)
      obtain ⟨v3, W3, hrun, ho3, hb3, hk3⟩ := append_by W2 base u _ hu2 (by have := hb2.size; omega) (by omega) 10 wr.heap.size hnew 1
      have HRUN := Lib.hid hrun
      have HB3 := Lib.hid (HB.out.trans ((hb2.mono (by omega)).trans hb3))
      have HK3 := Lib.hid (HK.out.trans (hk2.trans hk3))
      have HO3 : Hid (ByOwn W3 base v3 (T ++ lineL s.data.toList ns)) := Lib.hid (by
        have e : T ++ lineL s.data.toList ns = T ++ s.data.toList ++ numsL ns ++ [10] := by simp [lineL]
        rw [e]; exact ho3)
      have HW2 := Lib.hid hW2
      clear ho3 hb3 hk3 hrun hW2 hu2 hk2 hnew hb2 hnl hbs hfull
      go_wp2_with (at_builtin; (rw [HW2.out]; refine wpList_append_run rfl _ _ 55 rfl _ _ _ W3 rfl rfl HRUN.out ?_))
      go_ret
      exact ⟨v3, rfl, HO3.out, HB3.out, HK3.out⟩
end Pgm
end Go.Proofs.YtfnimmbmcjgdpaaDoor
