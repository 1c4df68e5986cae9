/- The landed verify: reached. -/
import Derived.Test.YtchcjinaagncjaaDoorGp13
import Derived.Test.YtchcjinaagncjaaDoorGp19
import Derived.Deep.LoopGhost
namespace Go.Proofs.YtchcjinaagncjaaDoor
open Go.RowKit
set_option linter.unusedVariables false
set_option linter.unusedSimpArgs false
namespace Pgm
/-- A row of truths in a block of its own. -/
def Bls (w : World) (B n : Nat) (f : Nat → Bool) : Prop := w.heap[B]? = some (.cells ((List.range n).map (fun s => Value.bool (f s))).toArray 4 (0, 0))
theorem Bls.cell {w : World} {B n : Nat} {f : Nat → Bool} (h : Bls w B n f) {s : Nat} (hs : s < n) : w.cell? ⟨B, s, none⟩ = some (.bool (f s)) ∧ w.frozen? ⟨B, s, none⟩ = false := by
  unfold Bls at h
  refine ⟨?_, by simp [World.frozen?, h]⟩
  rw [blkp h s]
  simp [hs]
theorem Bls.lt {w : World} {B n : Nat} {f : Nat → Bool} (h : Bls w B n f) : B < w.heap.size := (Array.getElem?_eq_some_iff.1 h).1
theorem Bls.set {w : World} {B n : Nat} {f : Nat → Bool} (h : Bls w B n f) (s : Nat) : Bls (w.setCell ⟨B, s, none⟩ (.bool true)) B n (fun k => f k || decide (k = s)) := by
  unfold Bls at h ⊢
  rw [heap_setCell_same w B s _ _ _ h]
  congr 2
  apply Array.toList_inj.1
  rw [Array.toList_setIfInBounds]
  apply List.ext_getElem (by simp)
  intro j h1 h2
  rw [List.getElem_set]
  by_cases e : s = j
  · subst e; simp
  · rw [if_neg e]
    simp [Ne.symm e]
theorem Bls.cong {w : World} {B n : Nat} {f g : Nat → Bool} (h : Bls w B n f) (e : ∀ s, s < n → f s = g s) : Bls w B n g := by
  unfold Bls at h ⊢
  rw [h]
  congr 3
  apply List.map_congr_left
  intro s hs
  rw [e s (List.mem_range.1 hs)]
theorem infoBl : (Tryd.prog.info? 4).map (fun i => (i.zero, i.size, i.bytes)) = some (some (.bool false), 1, 1) := by kernel_rfl
theorem underBl : Tryd.prog.underlying 65 = some (.slice 4) := by kernel_rfl
theorem make_bls (n : Nat) (hn : n ≤ 1000000) (W : World) : (Instr.makeSlice 65 (.int .i64 (n : Int)) (.int .i64 (n : Int))).run Tryd.prog W = .ok (.slice (some ⟨W.heap.size, 0, none⟩) n n) (W.alloc (.cells (madeCells (#[.bool false] : Array Value) (n * 1)) 4)) := by
  obtain ⟨i0, hi0, hz0, hz1, hz2⟩ := info_parts infoBl
  have := run_make (P := Tryd.prog) W 65 4 i0 (.bool false) underBl hi0 hz0 .i64 .i64 (n : Int) (n : Int) (by omega) (Int.le_refl _) (by rw [hz2]; omega) (by omega)
  rw [hz1, Int.toNat_natCast] at this
  exact this
theorem bls_made (n : Nat) (W : World) : Bls (W.alloc (.cells (madeCells (#[.bool false] : Array Value) (n * 1)) 4)) W.heap.size n (fun _ => false) := by
  unfold Bls
  rw [heap_alloc_new, Nat.mul_one]
  congr 2
  apply Array.toList_inj.1
  rw [toList_madeCells_one]
  apply List.ext_getElem
  · simp
  · intro j h1 h2; simp
theorem io_pop {w : World} {base g cap n : Nat} {T : List Int} {x : Int} (hn : T.length = n) (h : IOwn w base (.slice (some ⟨g, 0, none⟩) (n + 1) cap) (T ++ [x])) : IOwn w base (.slice (some ⟨g, 0, none⟩) n cap) T ∧ w.cell? ⟨g, n, none⟩ = some (.int .i64 x) ∧ n < cap := by
  subst hn
  have h6 := h.2
  rcases h6 with ⟨e, _⟩ | ⟨g', cap', cur, e, h1, h2, h3, h4, h5, h6⟩
  · injection e with e; cases e
  · injection e with e _ e3
    injection e with e
    injection e with e _ _
    subst e; subst e3
    simp only [List.length_append, List.length_cons, List.length_nil, Nat.zero_add, Nat.mul_one] at h3 h5 h6
    refine ⟨⟨by simp, .inr ⟨g, cap, cur, rfl, h1, h2, by omega, h4, by omega, ?_⟩⟩, ?_, by omega⟩
    · rw [Nat.mul_one]
      have : (cur.toList.take (T.length + 1)).take T.length = (flat1 (T ++ [x])).take T.length := by rw [h6]
      rw [List.take_take, Nat.min_eq_left (by omega)] at this
      rw [this]
      simp [flat1]
    · have h7 : (cur.toList.take (T.length + 1))[T.length]? = (flat1 (T ++ [x]))[T.length]? := by rw [h6]
      rw [List.getElem?_take_of_lt (by omega)] at h7
      simp only [World.cell?, h2]
      rw [if_neg (by decide)]
      simpa [flat1] using h7
theorem tgL_in {l : List In} (hT : Tg l) {k : Nat} (hk : k < l.length) {q : Nat} (hq : q < (tgL l[k]).length) : ∃ t : Nat, (tgL l[k])[q] = (t : Int) ∧ t < l.length ∧ ∃ h : q < (tin l k).length, (tin l k)[q] = t := by
  obtain ⟨h1, h2⟩ := hT _ (List.getElem_mem hk) _ (List.getElem_mem hq)
  refine ⟨(tgL l[k])[q].toNat, by omega, by omega, ?_⟩
  have e := tin_at hk
  refine ⟨by rw [e]; unfold tgN; rw [List.length_map]; exact hq, ?_⟩
  simp only [e, tgN, List.getElem_map]
theorem filter_step (K : Nat → Bool) (k : Nat) : (List.range (k + 1)).filter K = (List.range k).filter K ++ if K k = true then [k] else [] := by
  rw [List.range_succ, List.filter_append]
  congr 1
  cases h : K k <;> simp [h]
set_option maxRecDepth 100000 in
set_option maxHeartbeats 8000000 in
theorem reached_any (l : List In) (s : Nat) (sl : Int) (vs : Value) (W : World) (hr : InRow W vs l) (hT : Tg l) (hn4 : l.length ≤ 4000) (hs : s < l.length) :
    Calls Tryd.prog 54 #[.agg #[vs, .int .i64 (s : Int), .int .i64 sl]] W fun e w' => ∃ v, e = .returned v ∧ IOwn w' W.heap.size v ((rchL l s).map Int.ofNat) ∧ Below W.heap.size W w' := by
  obtain ⟨a, cap, hvs, hl, hbd, hc⟩ := (show ∃ a cap, vs = .slice a l.length cap ∧ _ from hr)
  obtain ⟨n, hn⟩ : ∃ n, l.length = n := ⟨_, rfl⟩
  rw [hn] at hvs
  subst hvs
  obtain ⟨B, hB⟩ : ∃ B, W.heap.size = B := ⟨_, rfl⟩
  obtain ⟨W1, hW1⟩ : ∃ W1, W.alloc (.cells #[.slice a n cap, .int .i64 (s : Int), .int .i64 sl] 46) = W1 := ⟨_, rfl⟩
  have hx1 : W1.heap[B]? = some (.cells #[.slice a n cap, .int .i64 (s : Int), .int .i64 sl] 46 (0, 0)) := by rw [← hW1, ← hB]; exact heap_alloc_new W _
  have hb1 : Below B W W1 := by rw [← hW1, ← hB]; exact (Below.refl _ _).alloc (Nat.le_refl _) _
  have hs1 : W1.heap.size = B + 1 := by rw [← hW1, ← hB]; simp
  have hmk := make_bls n (by omega) W1
  have hmd := bls_made n W1
  obtain ⟨C, hC⟩ : ∃ C, madeCells (#[.bool false] : Array Value) (n * 1) = C := ⟨_, rfl⟩
  rw [hC] at hmk hmd
  rw [hs1] at hmd
  obtain ⟨W2, hW2⟩ : ∃ W2, W1.alloc (.cells C 4) = W2 := ⟨_, rfl⟩
  rw [hW2] at hmk hmd
  rw [hs1] at hmk
  have hb2 : Below (B + 1) W1 W2 := by rw [← hW2, ← hs1]; exact (Below.refl _ _).alloc (Nat.le_refl _) _
  have hs2 : W2.heap.size = B + 2 := by rw [← hW2]; simp [hs1]
  have hx2 := (hb2.block B (by omega)).trans hx1
  obtain ⟨p1, p2⟩ := hmd.cell (s := s) (by omega)
  have hm3 := hmd.set s
  obtain ⟨W3, hW3⟩ : ∃ W3, W2.setCell ⟨B + 1, s, none⟩ (.bool true) = W3 := ⟨_, rfl⟩
  rw [hW3] at hm3
  have hx3 : W3.heap[B]? = some (.cells #[.slice a n cap, .int .i64 (s : Int), .int .i64 sl] 46 (0, 0)) := by rw [← hW3]; exact (heap_setCell_other W2 ⟨B + 1, s, none⟩ B _ (by show ¬ B = B + 1; omega)).trans hx2
  have hs3 : W3.heap.size = B + 2 := by rw [← hW3]; simp [hs2]
  have hb3 : Below B W W3 := by rw [← hW3]; exact (hb1.trans (hb2.mono (by omega))).setCell (p := ⟨B + 1, s, none⟩) (by show B ≤ B + 1; omega) _
  obtain ⟨W4, hW4⟩ : ∃ W4, W3.alloc (.cells #[.int .i64 (s : Int)] 3) = W4 := ⟨_, rfl⟩
  have hb4 : Below (B + 2) W3 W4 := by rw [← hW4, ← hs3]; exact (Below.refl _ _).alloc (Nat.le_refl _) _
  have ho4 : IOwn W4 (B + 2) (.slice (some ⟨B + 2, 0, none⟩) 1 1) ([s].map Int.ofNat) := by
    have := World.ownsRow_lit (base := B + 2) (e := 3) (size := 1) W3 #[.int .i64 (s : Int)] 1 (by omega) (by unfold maxLen; omega) (by simp)
    rw [hW4, hs3] at this
    exact this
  have hm4a : Bls W4 (B + 1) n (fun j => false || decide (j = s)) := (hb4.block (B + 1) (by omega)).trans hm3
  have hm4 : Bls W4 (B + 1) n (fun j => decide (j = s)) := hm4a.cong fun j _ => by simp
  have hx4 := (hb4.block B (by omega)).trans hx3
  have c0 := blkp hx1 0
  have c1 := blkp hx1 1
  have d0 := blkp hx2 0
  have d1 := blkp hx2 1
  have e1 := blkp hx3 1
  simp only [List.getElem?_toArray, List.getElem?_cons_zero, List.getElem?_cons_succ] at c0 c1 d0 d1 e1
  have HR := Lib.hid hr
  have HT := Lib.hid hT
  have HN := Lib.hid hn
  have hmkA : (Instr.makeSlice 65 (.int .i64 (n : Int)) (.int .i64 (n : Int))).run Tryd.prog (W.alloc (.cells #[.slice a n cap, .int .i64 (s : Int), .int .i64 sl] 46)) = .ok (.slice (some ⟨B + 1, 0, none⟩) n n) W2 := by rw [hW1]; exact hmk
  have HW1 := Lib.hid hW1
  have HW3 := Lib.hid hW3
  have HW4 := Lib.hid hW4
  have HS1 := Lib.hid hs1
  have HS2 := Lib.hid hs2
  have HS3 := Lib.hid hs3
  have HM4 := Lib.hid hm4
  have HX4 := Lib.hid hx4
  have HO4 := Lib.hid ho4
  have HB4 := Lib.hid (hb3.trans (hb4.mono (by omega)))
  have HSL := Lib.hid hs
  have HRI := Lib.hid (RI.start (l := l) hs)
  have hn0 : (0 : Int) ≤ (n : Int) := by omega
  have hn40 : n ≤ 4000 := by omega
  have s0 : (0 : Int) ≤ (s : Int) := by omega
  have s1 : (s : Int) < (n : Int) := by omega
  clear hc hT hW1 hW2 hW3 hW4 hb1 hb2 hb3 hb4 hl hbd hn hr hs1 hs2 hs3 hC hn4 hx1 hx2 hx3 hx4 ho4 hm4 hm4a hm3 hmd hs
  clear hmk
  have HUK : Hid (unk n (fun j => decide (j = s)) + 1 = n) := Lib.hid (by
    have h1 := unk_mark (K := fun _ => false) (show s < n by omega) rfl
    have h2 : unk n (fun _ => false) = n := by
      unfold unk
      rw [List.filter_eq_self.2 (by simp), List.length_range]
    rw [h2] at h1
    have h3 : (fun j => false || decide (j = s)) = fun j => decide (j = s) := by funext j; simp
    rw [h3] at h1
    exact h1)
  subst hB
  go_enter Tryd.func54, Tryd.ntmps54
  go_wp2
  rw [HW3.out, HW4.out, HS2.out]
  clear hmkA c0 c1 d0 d1 e1 p1 p2
  obtain ⟨B, hB⟩ : ∃ B, W.heap.size = B := ⟨_, rfl⟩
  have HBS := Lib.hid hB
  rw [hB] at HO4 HM4 HX4 HB4
  rw [hB]
  clear hB
  go_loopg [4] (2 * n) (fun N V wr => ∃ (K : Nat → Bool) (O : List Nat) (m g c : Nat), Hid (O.length = m) ∧ 2 * unk n K + m ≤ N ∧ unk n K + m ≤ n ∧ V = .slice (some ⟨g, 0, none⟩) m c ∧ Hid (RI l s K O none) ∧ Hid (IOwn wr (B + 2) (.slice (some ⟨g, 0, none⟩) m c) (O.map Int.ofNat)) ∧ Hid (Bls wr (B + 1) n K) ∧ Hid (wr.heap[B]? = some (.cells #[.slice a n cap, .int .i64 (s : Int), .int .i64 sl] 46 (0, 0))) ∧ Hid (Below B W wr))
  case atStart => exact ⟨fun j => decide (j = s), [s], 1, B + 2, 1, Lib.hid rfl, by have := HUK.out; omega, by have := HUK.out; omega, rfl, HRI, HO4, HM4, HX4, HB4⟩
  case round =>
    obtain ⟨K, O, m, g, c, HM, hN, hU, rfl, HI, HO, HK, HX, HB⟩ := hrel
    obtain ⟨wo, rfl⟩ : ∃ wo : World, wo = wr := ⟨_, rfl⟩
    rcases List.eq_nil_or_concat O with h0 | ⟨O', i, h0⟩
    · subst h0
      obtain rfl : 0 = m := HM.out
      have HF : Hid ((List.range n).filter K = rchL l s) := Lib.hid (by
        have := rchL_is (HI.out.fin HT.out HSL.out)
        rw [HN.out] at this
        exact this)
      clear hN hU
      go_wp2
      go_loopw [9, 62] (fun V Q wq => ∃ k : Nat, k ≤ n ∧ Q = .int .i64 (k : Int) ∧ Hid (IOwn wq B V (((List.range k).filter K).map Int.ofNat)) ∧ Hid (Bls wq (B + 1) n K) ∧ Hid (Below B W wq) ∧ (∃ a c, V = .slice a ((List.range k).filter K).length c)) (fun V Q _ => n - (intOf Q).toNat)
      case atStart => exact ⟨0, by omega, rfl, Lib.hid IOwn.nil, HK, HB, ⟨none, 0, rfl⟩⟩
      case round =>
        obtain ⟨k, hk, rfl, HV, HK, HB, ⟨av, cv, rfl⟩⟩ := hrel
        by_cases hlt : k < n
        · obtain ⟨p1, p2⟩ := HK.out.cell hlt
          have HFS := Lib.hid (filter_step K k)
          have hfl : ((List.range k).filter K).length ≤ k := by
            have := List.length_filter_le K (List.range k)
            rwa [List.length_range] at this
          have k0 : (0 : Int) ≤ (k : Int) := by omega
          have k1 : (k : Int) < (n : Int) := by omega
          have hbs : B ≤ wr.heap.size := by have := HB.out.size; rw [HBS.out] at this; exact this
          obtain ⟨z, hz⟩ : ∃ z, K k = z := ⟨_, rfl⟩
          rw [hz] at p1 HFS
          clear hz
          cases z with
          | true =>
            rw [if_pos rfl] at HFS
            obtain ⟨L, hL⟩ : ∃ L, ((List.range k).filter K).length = L := ⟨_, rfl⟩
            have HL := Lib.hid hL
            obtain ⟨a4, d4, W6, hrun, ho6, hb6, hk6⟩ := app_one wr B _ _ HV.out hbs L (by rw [List.length_map, hL]) (by omega) (k : Int)
            rw [hL] at hrun ⊢
            have HRUN := Lib.hid hrun
            have HO6 : Hid (IOwn W6 B (.slice a4 (L + 1) d4) (((List.range (k + 1)).filter K).map Int.ofNat)) := Lib.hid (by rw [HFS.out, List.map_append]; exact ho6)
            have HK6 : Hid (Bls W6 (B + 1) n K) := Lib.hid (hk6 _ _ _ _ HK.out (by decide))
            have HB6 := Lib.hid (HB.out.trans hb6)
            have HLL : Hid (((List.range (k + 1)).filter K).length = L + 1) := Lib.hid (by rw [HFS.out, List.length_append, HL.out]; rfl)
            clear hrun ho6 hb6 hk6 hL hfl
            go_wp2_with (at_builtin; (refine wpList_append_run rfl _ _ 30 rfl _ _ _ W6 rfl rfl HRUN.out ?_))
            go_roundw
            case rel => first | exact ⟨k + 1, by omega, by go_num, HO6, HK6, HB6, ⟨_, _, by rw [HLL.out]⟩⟩ | ((repeat apply Exists.intro); exact ⟨⟨k + 1, by omega, by go_num, HO6, HK6, HB6, ⟨_, _, by rw [HLL.out]⟩⟩, rfl⟩)
            case measure => simp [intOf]; omega
          | false =>
            rw [if_neg (by decide), List.append_nil] at HFS
            have HV6 : Hid (IOwn wr B (.slice av ((List.range k).filter K).length cv) (((List.range (k + 1)).filter K).map Int.ofNat)) := Lib.hid (by rw [HFS.out]; exact HV.out)
            clear hfl
            go_wp2
            go_roundw
            case rel => first | exact ⟨k + 1, by omega, by go_num, HV6, HK, HB, ⟨_, _, by rw [HFS.out]⟩⟩ | ((repeat apply Exists.intro); exact ⟨⟨k + 1, by omega, by go_num, HV6, HK, HB, ⟨_, _, by rw [HFS.out]⟩⟩, rfl⟩)
            case measure => simp [intOf]; omega
        · obtain rfl : k = n := by omega
          rw [HF.out] at HV
          rw [HF.out]
          go_wp2
          go_ret
          exact ⟨_, rfl, by rw [HBS.out]; exact HV.out, by rw [HBS.out]; exact HB.out⟩
    · rw [List.concat_eq_append] at h0
      subst h0
      obtain ⟨m', hm'⟩ : ∃ m', O'.length = m' := ⟨_, rfl⟩
      have hmm : m = m' + 1 := by rw [← HM.out, List.length_append, hm']; rfl
      subst hmm
      have HM' := Lib.hid hm'
      obtain ⟨hI, hil, hki⟩ := HI.out.pop
      have ho := HO.out
      rw [List.map_append] at ho
      obtain ⟨hop, hcl, hcap⟩ := io_pop (by rw [List.length_map]; exact hm') ho
      have HI' := Lib.hid hI
      have HO' := Lib.hid hop
      have HKI := Lib.hid hki
      obtain ⟨a', cap', hvs', hl', hbd', hc'⟩ := HR.out.below (Nat.le_refl _) (by rw [HBS.out]; exact HB.out)
      obtain ⟨b, off, ha, hbl, hcc⟩ := hc' i hil
      injection hvs' with e1 e2 e3
      subst e1
      subst ha
      clear e2 e3
      obtain ⟨y, hy⟩ : ∃ y, l[i] = y := ⟨_, rfl⟩
      have HY : Hid (l[i]? = some y) := Lib.hid (by rw [List.getElem?_eq_getElem hil, hy])
      have HIL := Lib.hid hil
      rw [hy] at hcc
      have q0 := hcc 0 (by omega)
      have q1 := hcc 1 (by omega)
      have q2 := hcc 2 (by omega)
      have q3 := hcc 3 (by omega)
      have q4 := hcc 4 (by omega)
      simp only [In.cs, List.getElem?_cons_zero, List.getElem?_cons_succ, Nat.add_zero] at q0 q1 q2 q3 q4
      have c0 := blkp HX.out 0
      simp only [List.getElem?_toArray, List.getElem?_cons_zero] at c0
      have i0 : (0 : Int) ≤ (i : Int) := by omega
      have i1 : (i : Int) < (n : Int) := by have := HN.out; omega
      have m0 : (0 : Int) ≤ (m' : Int) := by omega
      have m4 : m' ≤ 4000 := by omega
      have hxl : B < wo.heap.size := (Array.getElem?_eq_some_iff.1 HX.out).1
      have hgl0 := (World.ownsRow.lt HO.out g rfl).2
      have hcl' : wo.cell? ⟨g, m', none⟩ = some (.int .i64 (i : Int)) := hcl
      clear hI hil hki ho hop hm' hcc hc' hbd' hl' hy hcl
      go_wp2
      go_region
      obtain ⟨w2, hw2⟩ : ∃ w2, (wo.alloc (.cells #[.int .i64 y.op, .int .i64 y.lo, .int .i64 y.hi, .int .i64 y.x, .int .i64 y.y] 60)).drew = w2 := ⟨_, rfl⟩
      have hb2 : Below wo.heap.size wo w2 := by rw [← hw2]; exact ((Below.refl _ _).alloc (Nat.le_refl _) _).drew
      have hnew : w2.heap[wo.heap.size]? = some (.cells #[.int .i64 y.op, .int .i64 y.lo, .int .i64 y.hi, .int .i64 y.x, .int .i64 y.y] 60 (0, 0)) := by rw [← hw2]; exact inst_block wo y
      have hs2 := hb2.size
      have hBK := HK.out.lt
      have HTG := Lib.hid (targets_any y w2)
      have d0 := blkp hnew 0
      have d1 := blkp hnew 1
      have d2 := blkp hnew 2
      have d3 := blkp hnew 3
      have d4 := blkp hnew 4
      simp only [List.getElem?_toArray, List.getElem?_cons_zero, List.getElem?_cons_succ] at d0 d1 d2 d3 d4
      have HO2 := Lib.hid (io_keep HO'.out fun g' e => hb2.block g' (World.ownsRow.lt HO'.out g' e).2)
      have HK2 : Hid (Bls w2 (B + 1) n K) := Lib.hid ((hb2.block _ hBK).trans HK.out)
      have HX2 := Lib.hid ((hb2.block _ hxl).trans HX.out)
      have HB2 := Lib.hid (HB.out.trans (hb2.mono (Nat.le_of_lt hxl)))
      rw [hw2]
      have hmc : m' ≤ c := Nat.le_of_lt hcap
      clear hw2 hnew hb2 q0 q1 q2 q3 q4 c0 hcl' hgl0
      go_wp2_with fail
      refine HTG.out.mono ?_
      rintro e w3 ⟨v3, rfl, ho3, hb3⟩
      obtain ⟨a3, c3, rfl, hrd⟩ := io_rd ho3
      have hgl := (World.ownsRow.lt HO2.out g rfl).2
      have HO3 := Lib.hid (io_keep HO2.out fun g' e => hb3.block g' (World.ownsRow.lt HO2.out g' e).2)
      have HK3 : Hid (Bls w3 (B + 1) n K) := Lib.hid ((hb3.block _ HK2.out.lt).trans HK2.out)
      have HX3 := Lib.hid ((hb3.block _ (Nat.lt_of_lt_of_le hxl hs2)).trans HX2.out)
      have HB3 := Lib.hid (HB2.out.trans (hb3.mono (by omega)))
      have HRD := Lib.hid hrd
      have HNE : Hid (∀ b, a3 = some ⟨b, 0, none⟩ → 0 < (tgL y).length → g ≠ b) := Lib.hid (fun b hb h0 => by
        obtain ⟨b', h1, h2, h3, h4⟩ := hrd 0 h0
        rw [hb] at h1
        injection h1 with h1
        injection h1 with h1 _ _
        omega)
      have hBl2 : B + 1 < w2.heap.size := by omega
      have HIN : Hid (∀ q (hq : q < (tgL y).length), ∃ t : Nat, (tgL y)[q] = (t : Int) ∧ t < n ∧ ∃ h : q < (tin l i).length, (tin l i)[q] = t) := Lib.hid (fun q hq => by
        have h9 := HY.out
        rw [List.getElem?_eq_getElem HIL.out] at h9
        obtain rfl := Option.some.inj h9
        obtain ⟨t, h1, h2, h3⟩ := tgL_in HT.out HIL.out hq
        exact ⟨t, h1, by rw [← HN.out]; exact h2, h3⟩)
      have HTL : Hid ((tin l i).length = (tgL y).length) := Lib.hid (by
        have h9 := HY.out
        rw [List.getElem?_eq_getElem HIL.out] at h9
        rw [tin_at HIL.out, Option.some.inj h9]; unfold tgN; rw [List.length_map])
      have hlen := tgL_len y
      obtain ⟨mm, hmm⟩ : ∃ mm, (tgL y).length = mm := ⟨_, rfl⟩
      have HME := Lib.hid hmm
      rw [hmm] at hlen HTL HNE ⊢
      have hN' := Nat.lt_of_lt_of_le (show 2 * unk n K + m' < 2 * unk n K + (m' + 1) by omega) hN
      have hU' : unk n K + m' ≤ n := by omega
      clear ho3 hrd hb3 d0 d1 d2 d3 d4 hmm hgl hBK hcap hN hU
      go_wp2
      go_loopw [4, 43] (fun V Q wq => ∃ (q : Nat) (K' : Nat → Bool) (O2 : List Nat) (m2 g2 c2 : Nat), q ≤ mm ∧ Q = .int .i64 (q : Int) ∧ V = .slice (some ⟨g2, 0, none⟩) m2 c2 ∧ Hid (O2.length = m2) ∧ 2 * unk n K' + m2 ≤ 2 * unk n K + m' ∧ unk n K' + m2 ≤ n ∧ Hid (RI l s K' O2 (some i)) ∧ Hid (∀ t ∈ (tin l i).take q, K' t = true) ∧ Hid (K' i = true) ∧ Hid (IOwn wq (B + 2) (.slice (some ⟨g2, 0, none⟩) m2 c2) (O2.map Int.ofNat)) ∧ Hid (Bls wq (B + 1) n K') ∧ Hid (wq.heap[B]? = some (.cells #[.slice (some ⟨b, off, none⟩) n cap, .int .i64 (s : Int), .int .i64 sl] 46 (0, 0))) ∧ Hid (Nrd wq a3 (tgL y) w2.heap.size) ∧ Hid (∀ b, a3 = some ⟨b, 0, none⟩ → 0 < mm → g2 ≠ b) ∧ Hid (Below B W wq)) (fun V Q _ => mm - (intOf Q).toNat)
      case atStart => exact ⟨0, K, O', m', g, c, by omega, rfl, rfl, HM', Nat.le_refl _, hU', HI', Lib.hid (by simp), HKI, HO3, HK3, HX3, HRD, HNE, HB3⟩
      case round =>
        obtain ⟨q, K', O2, m2, g2, c2, hq, rfl, rfl, HM2, hu1, hu2, HI2, HTK, HKI2, HO2, HK2, HX2, HR2, HN2, HB2⟩ := hrel
        by_cases hql : q < mm
        · have hqe : q < (tgL y).length := by rw [HME.out]; exact hql
          obtain ⟨t, ht, htn, hqi, hti⟩ := HIN.out q hqe
          obtain ⟨b3, ha3, hlo3, hlt3, hc3⟩ := HR2.out q hqe
          rw [ht] at hc3
          subst ha3
          obtain ⟨p1, p2⟩ := HK2.out.cell htn
          have t0 : (0 : Int) ≤ (t : Int) := by omega
          have t1 : (t : Int) < (n : Int) := by omega
          have qq0 : (0 : Int) ≤ (q : Int) := by omega
          have qq1 : (q : Int) < (mm : Int) := by omega
          have HTQ : Hid (∀ u ∈ (tin l i).take (q + 1), u ∈ (tin l i).take q ∨ u = t) := Lib.hid (fun u hu => by
            rw [List.take_succ_eq_append_getElem hqi, hti] at hu
            simpa using hu)
          have HTM : Hid (t ∈ tin l i) := Lib.hid (by rw [← hti]; exact List.getElem_mem _)
          obtain ⟨z, hz⟩ : ∃ z, K' t = z := ⟨_, rfl⟩
          have HZ := Lib.hid hz
          rw [hz] at p1
          clear hz hti hqi
          cases z with
          | true =>
            have HTK2 : Hid (∀ u ∈ (tin l i).take (q + 1), K' u = true) := Lib.hid (fun u hu => by
              rcases HTQ.out u hu with h9 | h9
              · exact HTK.out u h9
              · rw [h9]; exact HZ.out)
            go_wp2
            go_roundw
            case rel => first | exact ⟨q + 1, K', O2, m2, g2, c2, by omega, by go_num, rfl, HM2, hu1, hu2, HI2, HTK2, HKI2, HO2, HK2, HX2, HR2, HN2, HB2⟩ | ((repeat apply Exists.intro); exact ⟨⟨q + 1, K', O2, m2, g2, c2, by omega, by go_num, rfl, HM2, hu1, hu2, HI2, HTK2, HKI2, HO2, HK2, HX2, HR2, HN2, HB2⟩, rfl⟩)
            case measure => simp [intOf]; omega
          | false =>
            have HUM := Lib.hid (unk_mark htn HZ.out)
            have HI3 := Lib.hid (HI2.out.mark HT.out HIL.out HKI2.out HTM.out)
            have HK4 := Lib.hid (HK2.out.set t)
            obtain ⟨w5, hw5⟩ : ∃ w5, wr.setCell ⟨B + 1, t, none⟩ (.bool true) = w5 := ⟨_, rfl⟩
            have hk5 : ∀ b, b ≠ B + 1 → w5.heap[b]? = wr.heap[b]? := fun b hb => by rw [← hw5]; exact heap_setCell_other wr ⟨B + 1, t, none⟩ b _ hb
            have hs5 : w5.heap.size = wr.heap.size := by rw [← hw5]; simp
            have hb5 : Below B W w5 := by rw [← hw5]; exact HB2.out.setCell (p := ⟨B + 1, t, none⟩) (Nat.le_succ _) _
            rw [hw5] at HK4
            have hgl := World.ownsRow.lt HO2.out g2 rfl
            have ho5 : IOwn w5 (B + 2) (.slice (some ⟨g2, 0, none⟩) m2 c2) (O2.map Int.ofNat) := io_keep HO2.out fun g' e => hk5 g' (by have := (World.ownsRow.lt HO2.out g' e).1; omega)
            obtain ⟨g4, d4, W6, hrun, ho6, hb6, hat, hk6⟩ := app_two w5 (B + 2) _ _ ho5 (by omega) m2 (by rw [List.length_map]; exact HM2.out) (by omega) (t : Int)
            have hx5 := (hk5 B (by omega)).trans HX2.out
            have HX6 := Lib.hid ((hk6 B (by rw [hs5]; exact Nat.lt_trans (Nat.lt_succ_self B) HK2.out.lt) (fun e => by
              have : g2 = B := by simpa [Value.ownBlock] using e
              omega)).trans hx5)
            have HK6 : Hid (Bls W6 (B + 1) n (fun j => K' j || decide (j = t))) := Lib.hid ((hk6 (B + 1) HK4.out.lt (fun e => by
              have : g2 = B + 1 := by simpa [Value.ownBlock] using e
              omega)).trans HK4.out)
            have HR6 : Hid (Nrd W6 (some ⟨b3, 0, none⟩) (tgL y) w2.heap.size) := Lib.hid (fun j hj => by
              obtain ⟨b', h1, h2, h3, h4⟩ := HR2.out j hj
              refine ⟨b', h1, h2, by have := hb6.size; omega, ?_⟩
              rw [← h4]
              have hne := HN2.out b' h1 (by omega)
              simp only [World.cell?, (hk6 b' (by omega) (fun e => hne (by simpa [Value.ownBlock] using e))).trans (hk5 b' (by omega))])
            have HN6 : Hid (∀ b, some (⟨b3, 0, none⟩ : Addr) = some ⟨b, 0, none⟩ → 0 < mm → g4 ≠ b) := Lib.hid (fun b' h1 h2 => by
              rcases hat with h9 | h9
              · have h8 : g2 = g4 := by simpa [Value.ownBlock] using h9
                rw [← h8]
                exact HN2.out b' h1 h2
              · injection h1 with h1
                injection h1 with h1 _ _
                omega)
            have HO6 : Hid (IOwn W6 (B + 2) (.slice (some ⟨g4, 0, none⟩) (m2 + 1) d4) ((O2 ++ [t]).map Int.ofNat)) := Lib.hid (by rw [List.map_append]; exact ho6)
            have HB6 := Lib.hid (hb5.trans (hb6.mono (by omega)))
            have HRUN := Lib.hid hrun
            have HM6 : Hid ((O2 ++ [t]).length = m2 + 1) := Lib.hid (by rw [List.length_append, HM2.out]; rfl)
            have hu3 : 2 * unk n (fun j => K' j || decide (j = t)) + (m2 + 1) ≤ 2 * unk n K + m' := by have := HUM.out; omega
            have hu4 : unk n (fun j => K' j || decide (j = t)) + (m2 + 1) ≤ n := by have := HUM.out; omega
            have HTK2 : Hid (∀ u ∈ (tin l i).take (q + 1), (K' u || decide (u = t)) = true) := Lib.hid (fun u hu => by
              rcases HTQ.out u hu with h9 | h9
              · rw [HTK.out u h9]; rfl
              · rw [h9]; simp)
            have HKI6 : Hid ((K' i || decide (i = t)) = true) := Lib.hid (by rw [HKI2.out]; rfl)
            have HW5 := Lib.hid hw5
            have HS5 := Lib.hid hs5
            clear hk5 hs5 hb5 hw5 ho5 hrun ho6 hb6 hat hk6 hx5 hgl
            go_wp2_with (at_builtin; (rw [HW5.out]; (try rw [← HS5.out]); refine wpList_append_run rfl _ _ 30 rfl _ _ _ W6 rfl rfl HRUN.out ?_))
            go_roundw
            case rel => first | exact ⟨q + 1, _, O2 ++ [t], m2 + 1, g4, d4, by omega, by go_num, rfl, HM6, hu3, hu4, HI3, HTK2, HKI6, HO6, HK6, HX6, HR6, HN6, HB6⟩ | ((repeat apply Exists.intro); exact ⟨⟨q + 1, _, O2 ++ [t], m2 + 1, g4, d4, by omega, by go_num, rfl, HM6, hu3, hu4, HI3, HTK2, HKI6, HO6, HK6, HX6, HR6, HN6, HB6⟩, rfl⟩)
            case measure => simp [intOf]; omega
        · obtain rfl : q = mm := by omega
          have HI9 := Lib.hid (HI2.out.done (fun t ht => HTK.out t (by rw [List.take_of_length_le (by rw [HTL.out]; exact Nat.le_refl _)]; exact ht)))
          go_wp2
          go_roundg (2 * unk n K' + m2)
          case rel => exact ⟨K', O2, m2, g2, c2, HM2, Nat.le_refl _, hu2, rfl, HI9, HO2, HK2, HX2, HB2⟩
          case measure => omega
end Pgm
end Go.Proofs.YtchcjinaagncjaaDoor
