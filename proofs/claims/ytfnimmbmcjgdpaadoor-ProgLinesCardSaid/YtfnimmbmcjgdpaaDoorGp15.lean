/- The landed prog: the fields that an instruction has (own). -/
import Derived.Test.YtfnimmbmcjgdpaaDoorGp14
import Derived.Test.YtfnimmbmcjgdpaaDoorGp3
namespace Go.Proofs.YtfnimmbmcjgdpaaDoor
open Go.RowKit
set_option linter.unusedVariables false
namespace Pgm
theorem infoIn14 : (Tryd.prog.info? 3).map (fun i => (i.zero, i.size, i.bytes)) = some (some (.int .i64 0), 1, 8) := by kernel_rfl
theorem underIn14 : Tryd.prog.underlying 30 = some (.slice 3) := by kernel_rfl
theorem append_i (W : World) (base : Nat) (v : Value) (T : List Int) (hv : IOwn W base v T) (hb : base ≤ W.heap.size) (hT : T.length ≤ 1000000) (c : Int) (bt : Nat) (hnew : W.heap[bt]? = some (.cells #[.int .i64 c] 3 (0, 0))) (cc : Nat) :
    ∃ v' W', (Builtin.append_ #[30, 30] 30 #[v, .slice (some ⟨bt, 0, none⟩) 1 cc]).run Tryd.prog W = .ok v' W' ∧ IOwn W' base v' (T ++ [c]) ∧ Below base W W' ∧ ∀ (b : Nat) (cs : Array Value) (t : TypeId) (f : Nat × Nat), W.heap[b]? = some (.cells cs t f) → t ≠ 3 → W'.heap[b]? = some (.cells cs t f) := by
  obtain ⟨i0, hi, hz0, hz1, hz2⟩ := info_parts infoIn14
  obtain ⟨gg, cap2, W2, hrun, hown, hgrow, hat, hlt2⟩ := run_append_lies (P := Tryd.prog) W 30 30 base 3 i0 _ 1 8 underIn14 hi hz0 hz1 hz2 rfl (by omega) v _ _ hv
    ⟨bt, 0, none⟩ 1 cc [.int .i64 c] rfl (World.news_of_block hnew) (by intro u hu; simp at hu; subst hu; rfl) (by omega) (by unfold maxLen; omega) (by omega) hb _ rfl
  refine ⟨_, _, hrun, ?_, (Below.refl base W).grown hgrow hb fun j ej => (World.ownsRow.lt hv j ej).1, fun b cs t f hbk ht => ?_⟩
  rotate_left
  · refine (hgrow.block b (Array.getElem?_eq_some_iff.1 hbk).1 (fun e => ?_)).trans hbk
    rcases hv.2 with ⟨e2, _⟩ | ⟨g', cap, cur, e2, _, hgg, _⟩
    · rw [e2] at e; cases e
    · rw [e2] at e
      have e3 : b = g' := Option.some.inj e
      rw [e3, hgg] at hbk
      injection hbk with hbk
      injection hbk with _ h9 _
      exact ht h9.symm
  unfold IOwn
  rw [List.length_append]
  simpa [flat1] using hown
theorem IOwn.sl {W : World} {base : Nat} {v : Value} {T : List Int} (h : IOwn W base v T) : ∃ a cap, v = .slice a T.length cap := by
  rcases h.2 with ⟨e, e0⟩ | ⟨g, cap, cur, e, _⟩
  · exact ⟨none, 0, by rw [e, e0]⟩
  · exact ⟨_, _, e⟩
theorem IOwn.ints {W : World} {base : Nat} {v : Value} {T : List Int} (h : IOwn W base v T) : ∃ a cap, v = .slice a T.length cap ∧ IntsAt W a T := by
  rcases h.2 with ⟨e, e0⟩ | ⟨g, cap, cur, e, hbg, hg, hnc, hcm, hcs, hz⟩
  · exact ⟨none, 0, by rw [e, e0], fun j hj => by omega⟩
  · refine ⟨_, cap, e, fun j hj => ⟨g, 0, cur, (0, 0), rfl, hg, ?_⟩⟩
    have h9 := World.ownsRow.cellAt (e ▸ h : W.ownsRow base 3 1 (.slice (some ⟨g, 0, none⟩) T.length cap) T.length (flat1 T)) j (by omega)
    simp only [World.cell?, hg] at h9
    rw [Nat.zero_add]
    have : (flat1 T)[j]? = some (.int .i64 T[j]) := by simp [flat1, List.getElem?_eq_getElem hj]
    rw [this] at h9
    simpa using h9
/-- Has an Op that field? -/
def hasF (o k : Nat) : Bool := !(decide (spA o k = 0) && decide (spB o k = 0))
def ownK (i : In) (o : Nat) : Nat → List Int
  | 0 => []
  | k + 1 => ownK i o k ++ if hasF o k = true then [fd i k] else []
theorem ownK_len (i : In) (o : Nat) : ∀ k, (ownK i o k).length ≤ k
  | 0 => Nat.le_refl _
  | k + 1 => by
    have := ownK_len i o k
    rw [ownK, List.length_append]
    split <;> simp <;> omega
theorem ownK_all {i : In} {o : Nat} (ho : i.op = (o : Int)) (h1 : 1 ≤ o) (h6 : o ≤ 6) : ownK i o 4 = ownL i := by
  have : o = 1 ∨ o = 2 ∨ o = 3 ∨ o = 4 ∨ o = 5 ∨ o = 6 := by omega
  unfold ownL
  rcases this with rfl | rfl | rfl | rfl | rfl | rfl <;> rw [ho] <;> simp [ownK, hasF, spA, spB, fd]
set_option maxRecDepth 100000 in
set_option maxHeartbeats 8000000 in
theorem own_any (i : In) (o : Nat) (ho : i.op = (o : Int)) (ho1 : 1 ≤ o) (ho6 : o ≤ 6) (W : World) (hE : EvO W) : Calls Tryd.prog 46 #[.agg #[.int .i64 (o : Int), .int .i64 i.lo, .int .i64 i.hi, .int .i64 i.x, .int .i64 i.y]] W fun e w' => ∃ v, e = .returned v ∧ IOwn w' W.heap.size v (ownL i) ∧ Below W.heap.size W w' := by
  obtain ⟨W1, hW1⟩ : ∃ W1, W.alloc (.cells #[.int .i64 (o : Int), .int .i64 i.lo, .int .i64 i.hi, .int .i64 i.x, .int .i64 i.y] 81) = W1 := ⟨_, rfl⟩
  have hb1 : Below W.heap.size W W1 := by rw [← hW1]; exact (Below.refl _ _).alloc (Nat.le_refl _) _
  have hx : W1.heap[W.heap.size]? = some (.cells #[.int .i64 (o : Int), .int .i64 i.lo, .int .i64 i.hi, .int .i64 i.x, .int .i64 i.y] 81 (0, 0)) := by rw [← hW1]; exact heap_alloc_new W _
  have HB1 := Lib.hid hb1
  have HE := Lib.hid hE
  have HW1 := Lib.hid hW1
  have HX := Lib.hid hx
  have HV := Lib.hid (fun w => values_any i w)
  have HH := Lib.hid (fun k (hk : k < 4) w => has_any o k (by omega) hk w)
  have HOL := Lib.hid (ownK_all ho ho1 ho6)
  unfold In.v In.fv at HV
  unfold opC at HH
  rw [ho] at HV
  have hi0 : (0 : Int) ≤ (o : Int) := by omega
  have hi7 : (o : Int) < 7 := by omega
  have hti : (o : Int).toNat = o := by omega
  clear hb1 hE hW1 hx ho
  go_enter Tryd.func46, Tryd.ntmps46
  go_wp2_with fail
  rw [HW1.out]
  refine (HV.out _).mono ?_
  rintro e w2 ⟨rfl, hb2⟩
  have HB2 := Lib.hid (HB1.out.trans (hb2.mono HB1.out.size))
  have HX2 := Lib.hid ((hb2.block _ (Array.getElem?_eq_some_iff.1 HX.out).1).trans HX.out)
  clear hb2
  go_wp2
  go_loopw [3, 8] (fun V K wr => ∃ (k : Nat) (u : Value), k ≤ 4 ∧ K = .int .i64 (k : Int) ∧ u = V ∧ Hid (IOwn wr W.heap.size u (ownK i o k)) ∧ Hid (Below W.heap.size W wr) ∧ Hid (wr.heap[W.heap.size]? = some (.cells #[.int .i64 (o : Int), .int .i64 i.lo, .int .i64 i.hi, .int .i64 i.x, .int .i64 i.y] 81 (0, 0)))) (fun V K _ => 4 - (intOf K).toNat)
  case atStart => exact ⟨0, _, by omega, rfl, rfl, Lib.hid IOwn.nil, HB2, HX2⟩
  case round =>
    obtain ⟨k, u, hk, rfl, rfl, HU, HB, HXr⟩ := hrel
    by_cases hlt : k < 4
    · have b0 := blkp HXr.out 0
      simp only [List.getElem?_toArray, List.getElem?_cons_zero, List.getElem?_cons_succ] at b0
      have hE2 := HE.out.below (Nat.le_refl _) HB.out
      have hix := index_fd i k hlt
      have c0 := hE2.cell o 0 (by omega) (by omega)
      have c1 := hE2.cell o 1 (by omega) (by omega)
      have c2 := hE2.cell o 2 (by omega) (by omega)
      have c3 := hE2.cell o 3 (by omega) (by omega)
      have c4 := hE2.cell o 4 (by omega) (by omega)
      have c5 := hE2.cell o 5 (by omega) (by omega)
      have c6 := hE2.cell o 6 (by omega) (by omega)
      have c7 := hE2.cell o 7 (by omega) (by omega)
      have c8 := hE2.cell o 8 (by omega) (by omega)
      simp only [opC, List.getElem?_cons_zero, List.getElem?_cons_succ, Nat.add_zero] at c0 c1 c2 c3 c4 c5 c6 c7 c8
      have hk0 : (0 : Int) ≤ (k : Int) := by omega
      have hk4 : (k : Int) < 4 := by omega
      have hkt : (k : Int).toNat = k := by omega
      have HHK := Lib.hid (HH.out k hlt)
      have hs : hasF o k = !(decide (spA o k = 0) && decide (spB o k = 0)) := rfl
      rw [← hs] at HHK
      have HOK : Hid (ownK i o (k + 1) = ownK i o k ++ if hasF o k = true then [fd i k] else []) := Lib.hid rfl
      clear hE2 hs
      cases hF : hasF o k with
      | true =>
        rw [hF] at HHK HOK
        rw [if_pos rfl] at HOK
        clear hF
        go_wp2_with fail
        refine (HHK.out _).mono ?_
        rintro e w3 ⟨rfl, hb3⟩
        have HB3 := Lib.hid (HB.out.trans (hb3.mono HB.out.size))
        have HX3 := Lib.hid ((hb3.block _ (Array.getElem?_eq_some_iff.1 HXr.out).1).trans HXr.out)
        have hu3 := HU.out.below hb3
        obtain ⟨W2, hW2⟩ : ∃ W2, w3.alloc (.cells #[.int .i64 (fd i k)] 3) = W2 := ⟨_, rfl⟩
        have hb4 : Below w3.heap.size w3 W2 := by rw [← hW2]; exact (Below.refl _ _).alloc (Nat.le_refl _) _
        have hnew : W2.heap[w3.heap.size]? = some (.cells #[.int .i64 (fd i k)] 3 (0, 0)) := by rw [← hW2]; exact heap_alloc_new w3 _
        have hlen := ownK_len i o k
        obtain ⟨v4, W4, hrun, ho4, hb5, hk5⟩ := append_i W2 W.heap.size u _ (hu3.below hb4) (by have := HB3.out.size; have := hb4.size; omega) (by omega) (fd i k) w3.heap.size hnew 1
        have HB4 := Lib.hid (HB3.out.trans ((hb4.mono HB3.out.size).trans hb5))
        have HX4 : Hid (W4.heap[W.heap.size]? = some (.cells #[.int .i64 (o : Int), .int .i64 i.lo, .int .i64 i.hi, .int .i64 i.x, .int .i64 i.y] 81 (0, 0))) := Lib.hid (hk5 _ _ _ _ ((hb4.block _ (Array.getElem?_eq_some_iff.1 HX3.out).1).trans HX3.out) (by decide))
        have HO4 : Hid (IOwn W4 W.heap.size v4 (ownK i o (k + 1))) := Lib.hid (by rw [HOK.out]; exact ho4)
        have HRUN := Lib.hid hrun
        have HW2 := Lib.hid hW2
        obtain ⟨L4, hL4⟩ : ∃ L4, (ownK i o k ++ [fd i k]).length = L4 := ⟨_, rfl⟩
        obtain ⟨a4, d4, h4⟩ := IOwn.sl ho4
        rw [hL4] at h4
        subst h4
        clear hb3 hb4 hb5 hk5 hu3 hnew hrun hW2 ho4 hL4 hlen b0 c0 c1 c2 c3 c4 c5 c6 c7 c8 hix
        go_wp2_with (at_builtin; (rw [HW2.out]; refine wpList_append_run rfl _ _ 30 rfl _ _ _ W4 rfl rfl HRUN.out ?_))
        go_roundw
        case rel => first | exact ⟨k + 1, _, by omega, by go_num, rfl, HO4, HB4, HX4⟩ | ((repeat apply Exists.intro); exact ⟨⟨k + 1, _, by omega, by go_num, rfl, HO4, HB4, HX4⟩, rfl⟩)
        case measure => simp [intOf]; omega
      | false =>
        rw [hF] at HHK HOK
        rw [if_neg (by decide), List.append_nil] at HOK
        have HU2 : Hid (IOwn wr W.heap.size u (ownK i o (k + 1))) := Lib.hid (by rw [HOK.out]; exact HU.out)
        clear hF
        go_wp2_with fail
        refine (HHK.out _).mono ?_
        rintro e w3 ⟨rfl, hb3⟩
        have HB3 := Lib.hid (HB.out.trans (hb3.mono HB.out.size))
        have HX3 := Lib.hid ((hb3.block _ (Array.getElem?_eq_some_iff.1 HXr.out).1).trans HXr.out)
        have HU3 := Lib.hid (HU2.out.below hb3)
        clear hb3 b0 c0 c1 c2 c3 c4 c5 c6 c7 c8 hix
        go_wp2
        go_roundw
        case rel => first | exact ⟨k + 1, _, by omega, by go_num, rfl, HU3, HB3, HX3⟩ | ((repeat apply Exists.intro); exact ⟨⟨k + 1, _, by omega, by go_num, rfl, HU3, HB3, HX3⟩, rfl⟩)
        case measure => simp [intOf]; omega
    · obtain rfl : k = 4 := by omega
      have HO : Hid (IOwn wr W.heap.size u (ownL i)) := Lib.hid (by rw [← HOL.out]; exact HU.out)
      go_wp2
      go_ret
      exact ⟨u, rfl, HO.out, HB.out⟩
end Pgm
end Go.Proofs.YtfnimmbmcjgdpaaDoor
