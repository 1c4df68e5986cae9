/- The landed verify: countAhead. -/
import Derived.Test.YtchcjinaagncjaaDoorGp11
namespace Go.Proofs.YtchcjinaagncjaaDoor
open Go.RowKit
set_option linter.unusedVariables false
set_option linter.unusedSimpArgs false
namespace Pgm
/-- A row of numbers in a block of its own. -/
def Nums (w : World) (B n : Nat) (f : Nat → Int) : Prop := w.heap[B]? = some (.cells ((List.range n).map (fun s => Value.int .i64 (f s))).toArray 3 (0, 0))
theorem Nums.cell {w : World} {B n : Nat} {f : Nat → Int} (h : Nums w B n f) {s : Nat} (hs : s < n) : w.cell? ⟨B, s, none⟩ = some (.int .i64 (f s)) ∧ w.frozen? ⟨B, s, none⟩ = false := by
  unfold Nums at h
  refine ⟨?_, by simp [World.frozen?, h]⟩
  rw [blkp h s]
  simp [hs]
theorem Nums.lt {w : World} {B n : Nat} {f : Nat → Int} (h : Nums w B n f) : B < w.heap.size := (Array.getElem?_eq_some_iff.1 h).1
theorem Nums.set {w : World} {B n : Nat} {f : Nat → Int} (h : Nums w B n f) (s : Nat) (z : Int) : Nums (w.setCell ⟨B, s, none⟩ (.int .i64 z)) B n (fun k => if k = s then z else f k) := by
  unfold Nums at h ⊢
  rw [heap_setCell_same w B s _ _ _ h]
  congr 2
  apply Array.toList_inj.1
  rw [Array.toList_setIfInBounds]
  apply List.ext_getElem (by simp)
  intro j h1 h2
  rw [List.getElem_set]
  by_cases e : s = j
  · subst e; simp
  · rw [if_neg e]
    simp [Ne.symm e]
theorem Nums.cong {w : World} {B n : Nat} {f g : Nat → Int} (h : Nums w B n f) (e : ∀ s, s < n → f s = g s) : Nums w B n g := by
  unfold Nums at h ⊢
  rw [h]
  congr 3
  apply List.map_congr_left
  intro s hs
  rw [e s (List.mem_range.1 hs)]
theorem Nums.below {w w' : World} {B n m : Nat} {f : Nat → Int} (h : Nums w B n f) (hb : Below m w w') (hm : B < m) : Nums w' B n f := (hb.block B hm).trans h
/-- A row of numbers that is read, from lo on. -/
def Nrd (w : World) (a : Option Addr) (T : List Int) (lo : Nat) : Prop := ∀ j (h : j < T.length), ∃ b, a = some ⟨b, 0, none⟩ ∧ lo ≤ b ∧ b < w.heap.size ∧ w.cell? ⟨b, j, none⟩ = some (.int .i64 T[j])
theorem io_rd {w : World} {base : Nat} {v : Value} {T : List Int} (h : IOwn w base v T) : ∃ a cap, v = .slice a T.length cap ∧ Nrd w a T base := by
  rcases h.2 with ⟨e, e0⟩ | ⟨g, cap, cur, e, hbg, hg, hnc, hcm, hcs, hz⟩
  · exact ⟨none, 0, by rw [e, e0], fun j hj => by omega⟩
  · refine ⟨_, cap, e, fun j hj => ⟨g, rfl, hbg, (Array.getElem?_eq_some_iff.1 hg).1, ?_⟩⟩
    rw [World.ownsRow.cellAt (e ▸ h : w.ownsRow base 3 1 (.slice (some ⟨g, 0, none⟩) T.length cap) T.length (flat1 T)) j (by omega)]
    simp [flat1, List.getElem?_eq_getElem hj]
theorem Nrd.below {w w' : World} {a : Option Addr} {T : List Int} {lo n : Nat} (h : Nrd w a T lo) (hb : Below n w w') (hn : w.heap.size ≤ n) : Nrd w' a T lo := fun j hj => by
  obtain ⟨b, h1, h2, h3, h4⟩ := h j hj
  exact ⟨b, h1, h2, Nat.lt_of_lt_of_le h3 hb.size, (hb.cell (p := ⟨b, j, none⟩) (Nat.lt_of_lt_of_le h3 hn)).trans h4⟩
theorem Nrd.of {w w' : World} {a : Option Addr} {T : List Int} {lo B : Nat} (h : Nrd w a T lo) (hs : w.heap.size ≤ w'.heap.size) (hk : ∀ b, b ≠ B → b < w.heap.size → w'.heap[b]? = w.heap[b]?) (hB : B < lo) : Nrd w' a T lo := fun j hj => by
  obtain ⟨b, h1, h2, h3, h4⟩ := h j hj
  refine ⟨b, h1, h2, Nat.lt_of_lt_of_le h3 hs, ?_⟩
  rw [← h4]
  simp only [World.cell?, hk b (by omega) h3]
theorem Nrd.set {w : World} {a : Option Addr} {T : List Int} {lo B k : Nat} (h : Nrd w a T lo) (hB : B < lo) (u : Value) : Nrd (w.setCell ⟨B, k, none⟩ u) a T lo :=
  h.of (by simp) (fun b hb _ => heap_setCell_other w ⟨B, k, none⟩ b u hb) hB
def cnt (l : List In) (k t : Nat) : Nat := ((List.range k).map fun j => (inst l j).count t).sum
theorem cnt_succ (l : List In) (k t : Nat) : cnt l (k + 1) t = cnt l k t + (inst l k).count t := by
  unfold cnt
  rw [List.range_succ, List.map_append, List.sum_append]
  simp
theorem cnt_all (l : List In) (t : Nat) : cnt l l.length t = ahd l [] t := by
  unfold cnt ahd
  congr 2
  rw [List.filter_eq_self.2]
  simp
theorem etL_in {l : List In} (hT : Tg l) {k : Nat} (hk : k < l.length) {q : Nat} (hq : q < (etL l[k]).length) : ∃ t : Nat, (etL l[k])[q] = (t : Int) ∧ t < l.length ∧ ∃ h : q < (inst l k).length, (inst l k)[q] = t := by
  have hm : (etL l[k])[q] ∈ etL l[k] := List.getElem_mem _
  have hz2 : (etL l[k])[q] ∈ tgL l[k] := by
    unfold etL at hm ⊢
    split at hm
    · cases hm
    · rename_i h; simpa only [if_neg h] using hm
  obtain ⟨h1, h2⟩ := hT _ (List.getElem_mem hk) _ hz2
  refine ⟨(etL l[k])[q].toNat, by omega, by omega, ?_⟩
  have e := inst_at hk
  refine ⟨by rw [e]; unfold etN; rw [List.length_map]; exact hq, ?_⟩
  simp only [e, etN, List.getElem_map]
theorem etL_inlen {l : List In} {k : Nat} (hk : k < l.length) : (inst l k).length = (etL l[k]).length := by rw [inst_at hk]; unfold etN; rw [List.length_map]
theorem infoNum : (Tryd.prog.info? 3).map (fun i => (i.zero, i.size, i.bytes)) = some (some (.int .i64 0), 1, 8) := by kernel_rfl
theorem underNum : Tryd.prog.underlying 30 = some (.slice 3) := by kernel_rfl
theorem make_nums (n : Nat) (hn : n ≤ 1000000) (W : World) : (Instr.makeSlice 30 (.int .i64 (n : Int)) (.int .i64 (n : Int))).run Tryd.prog W = .ok (.slice (some ⟨W.heap.size, 0, none⟩) n n) (W.alloc (.cells (madeCells (#[.int .i64 0] : Array Value) (n * 1)) 3)) := by
  obtain ⟨i0, hi0, hz0, hz1, hz2⟩ := info_parts infoNum
  have := run_make (P := Tryd.prog) W 30 3 i0 (.int .i64 0) underNum hi0 hz0 .i64 .i64 (n : Int) (n : Int) (by omega) (Int.le_refl _) (by rw [hz2]; omega) (by omega)
  rw [hz1, Int.toNat_natCast] at this
  exact this
theorem nums_made (n : Nat) (W : World) : Nums (W.alloc (.cells (madeCells (#[.int .i64 0] : Array Value) (n * 1)) 3)) W.heap.size n (fun _ => 0) := by
  unfold Nums
  rw [heap_alloc_new, Nat.mul_one]
  congr 2
  apply Array.toList_inj.1
  rw [toList_madeCells_one]
  apply List.ext_getElem
  · simp
  · intro j h1 h2; simp
set_option maxRecDepth 100000 in
set_option maxHeartbeats 8000000 in
theorem cahd_any (l : List In) (vs : Value) (W : World) (hr : InRow W vs l) (hT : Tg l) (hn4 : l.length ≤ 4000) :
    Calls Tryd.prog 82 #[vs] W fun e w' => e = .returned (.slice (some ⟨W.heap.size, 0, none⟩) l.length l.length) ∧ Nums w' W.heap.size l.length (fun t => (ahd l [] t : Int)) ∧ Below W.heap.size W w' := by
  obtain ⟨a, cap, rfl, hl, hbd, hc⟩ := hr
  obtain ⟨n, hn⟩ : ∃ n, l.length = n := ⟨_, rfl⟩
  obtain ⟨B, hB⟩ : ∃ B, W.heap.size = B := ⟨_, rfl⟩
  have hmk := fun W => make_nums n (by omega) W
  have hmd := nums_made n W
  obtain ⟨W1, hW1⟩ : ∃ W1, W.alloc (.cells (madeCells (#[.int .i64 0] : Array Value) (n * 1)) 3) = W1 := ⟨_, rfl⟩
  have hb1 : Below W.heap.size W W1 := by rw [← hW1]; exact (Below.refl _ _).alloc (Nat.le_refl _) _
  rw [hW1] at hmd
  obtain ⟨C, hC⟩ : ∃ C, madeCells (#[.int .i64 0] : Array Value) (n * 1) = C := ⟨_, rfl⟩
  rw [hC] at hW1
  simp only [hC] at hmk
  rw [hB] at hmd hb1
  have HC := Lib.hid hc
  have HT := Lib.hid hT
  have HN := Lib.hid hn
  have HW1 := Lib.hid hW1
  have HM := Lib.hid hmd
  have HB1 := Lib.hid hb1
  have HBS := Lib.hid hB
  have HALL : Hid (∀ t, cnt l n t = ahd l [] t) := Lib.hid (fun t => by rw [← hn]; exact cnt_all l t)
  rw [hn]
  have hn0 : (0 : Int) ≤ (n : Int) := by omega
  rw [hB]
  clear hc hT hW1 hmd hb1 hC hl hbd hB hn
  go_enter Tryd.func82, Tryd.ntmps82
  go_wp2_with fail
  rw [HW1.out, HBS.out]
  clear hmk
  go_loopw [13] (fun K wr => ∃ k : Nat, k ≤ n ∧ K = .int .i64 (k : Int) ∧ Hid (Nums wr B n (fun t => (cnt l k t : Int))) ∧ Hid (Below B W wr)) (fun K _ => n - (intOf K).toNat)
  case atStart => exact ⟨0, by omega, rfl, Lib.hid (HM.out.cong fun s _ => by simp [cnt]), HB1⟩
  case round =>
    obtain ⟨k, hk, rfl, HM, HB⟩ := hrel
    by_cases hlt : k < n
    · have hkl : k < l.length := by rw [HN.out]; exact hlt
      obtain ⟨b, off, rfl, hbl, hcc⟩ := HC.out k hkl
      obtain ⟨y, hy⟩ : ∃ y, l[k] = y := ⟨_, rfl⟩
      have HIN : Hid (∀ q (hq : q < (etL y).length), ∃ t : Nat, (etL y)[q] = (t : Int) ∧ t < n ∧ ∃ h : q < (inst l k).length, (inst l k)[q] = t) := Lib.hid (fun q hq => by
        subst hy
        obtain ⟨t, h1, h2, h3⟩ := etL_in HT.out hkl hq
        exact ⟨t, h1, by rw [← HN.out]; exact h2, h3⟩)
      have HIL : Hid ((inst l k).length = (etL y).length) := Lib.hid (by rw [← hy]; exact etL_inlen hkl)
      rw [hy] at hcc
      have kc : ∀ q, q < 5 → wr.cell? ⟨b, off + k * 5 + q, none⟩ = y.cs[q]? := fun q hq => (HB.out.cell (p := ⟨b, off + k * 5 + q, none⟩) (by show b < B; rw [← HBS.out]; exact hbl)).trans (hcc q hq)
      have q0 := kc 0 (by omega)
      have q1 := kc 1 (by omega)
      have q2 := kc 2 (by omega)
      have q3 := kc 3 (by omega)
      have q4 := kc 4 (by omega)
      simp only [In.cs, List.getElem?_cons_zero, List.getElem?_cons_succ, Nat.add_zero] at q0 q1 q2 q3 q4
      obtain ⟨w2, hw2⟩ : ∃ w2, wr.alloc (.cells #[.int .i64 y.op, .int .i64 y.lo, .int .i64 y.hi, .int .i64 y.x, .int .i64 y.y] 60) = w2 := ⟨_, rfl⟩
      have hb2 : Below wr.heap.size wr w2 := by rw [← hw2]; exact (Below.refl _ _).alloc (Nat.le_refl _) _
      have hnew := inst_block wr y
      rw [hw2] at hnew
      have HET := Lib.hid (empty_any y w2)
      have hBs : B < wr.heap.size := HM.out.lt
      have HM2 := Lib.hid (HM.out.below hb2 hBs)
      have HB2 := Lib.hid (HB.out.trans (hb2.mono (Nat.le_of_lt hBs)))
      have hs2 := hb2.size
      have HW2 := Lib.hid hw2
      have hk0 : (0 : Int) ≤ (k : Int) := by omega
      have d0 := blkp hnew 0
      have d1 := blkp hnew 1
      have d2 := blkp hnew 2
      have d3 := blkp hnew 3
      have d4 := blkp hnew 4
      simp only [List.getElem?_toArray, List.getElem?_cons_zero, List.getElem?_cons_succ] at d0 d1 d2 d3 d4
      clear kc hcc hy hw2 hnew hb2
      go_wp2_with fail
      rw [HW2.out]
      refine HET.out.mono ?_
      rintro e w3 ⟨v3, rfl, ho3, hb3⟩
      obtain ⟨a3, c3, rfl, hrd⟩ := io_rd ho3
      have HRD := Lib.hid hrd
      have HM3 := Lib.hid (HM2.out.below hb3 (Nat.lt_of_lt_of_le hBs hs2))
      have HB3 := Lib.hid (HB2.out.trans (hb3.mono (Nat.le_trans (Nat.le_of_lt hBs) hs2)))
      have hlen := etL_len y
      obtain ⟨m, hm⟩ : ∃ m, (etL y).length = m := ⟨_, rfl⟩
      have HME := Lib.hid hm
      have hBL : B < w2.heap.size := Nat.lt_of_lt_of_le hBs hs2
      rw [hm] at hlen ⊢
      clear ho3 hrd hb3 q0 q1 q2 q3 q4 d0 d1 d2 d3 d4 hm
      go_wp2
      go_loopw [20] (fun Q wr => ∃ q : Nat, q ≤ m ∧ Q = .int .i64 (q : Int) ∧ Hid (Nums wr B n (fun t => (cnt l k t : Int) + (((inst l k).take q).count t : Nat))) ∧ Hid (Nrd wr a3 (etL y) w2.heap.size) ∧ Hid (Below B W wr)) (fun Q _ => m - (intOf Q).toNat)
      case atStart => exact ⟨0, by omega, rfl, Lib.hid (HM3.out.cong fun s _ => by simp), HRD, HB3⟩
      case round =>
        obtain ⟨q, hq, rfl, HM, HR, HB⟩ := hrel
        by_cases hql : q < m
        · have hqe : q < (etL y).length := by rw [HME.out]; exact hql
          obtain ⟨t, ht, htn, hqi, hti⟩ := HIN.out q hqe
          obtain ⟨b3, ha3, hlo3, hlt3, hc3⟩ := HR.out q hqe
          rw [ht] at hc3
          subst ha3
          obtain ⟨n1, n2⟩ := HM.out.cell htn
          have HST := Lib.hid (HM.out.set t ((cnt l k t : Int) + (((inst l k).take q).count t : Nat) + 1))
          have HTC := Lib.hid (fun s => take_count hqi s)
          rw [hti] at HTC
          have HRS := Lib.hid (fun u => HR.out.set (k := t) hBL u)
          have hle : ((inst l k).take q).count t ≤ 4 := by
            have h1 := List.count_le_length (a := t) (l := (inst l k).take q)
            have h2 := List.length_take_le q (inst l k)
            omega
          have hcl : cnt l k t ≤ 8000 := by
            have : ∀ k', cnt l k' t ≤ 2 * k' := fun k' => by
              induction k' with
              | zero => simp [cnt]
              | succ k' ih =>
                rw [cnt_succ]
                have h1 := List.count_le_length (a := t) (l := inst l k')
                have h2 : (inst l k').length ≤ 2 := by
                  unfold inst
                  split
                  · unfold etN; rw [List.length_map]; exact etL_len _
                  · simp
                omega
            have := this k
            omega
          obtain ⟨z, hz⟩ : ∃ z : Nat, (cnt l k t : Int) + (((inst l k).take q).count t : Nat) = (z : Int) := ⟨cnt l k t + ((inst l k).take q).count t, by omega⟩
          have hzb : z ≤ 9000 := by omega
          rw [hz] at n1 HST
          have t0 : (0 : Int) ≤ (t : Int) := by omega
          have t1 : (t : Int) < (n : Int) := by omega
          have q0 : (0 : Int) ≤ (q : Int) := by omega
          have q1 : (q : Int) < (m : Int) := by omega
          have hBW := Lib.hid (HB.out.setCell (p := ⟨B, t, none⟩) (Nat.le_refl _) (.int .i64 ((z : Int) + 1)))
          have HZ := Lib.hid hz
          clear hti hqi hle hcl hz
          go_wp2
          go_roundw
          case rel =>
            refine ⟨q + 1, by omega, by go_num, Lib.hid (HST.out.cong fun s _ => ?_), Lib.hid (HRS.out _), hBW⟩
            rw [HTC.out s]
            by_cases e : s = t
            · subst e; rw [if_pos rfl, if_pos rfl, ← HZ.out]; omega
            · rw [if_neg e, if_neg (fun h => e h.symm)]; omega
          case measure => simp [intOf]; omega
        · obtain rfl : q = m := by omega
          go_wp2
          go_roundw
          case rel =>
            refine ⟨k + 1, by omega, by go_num, Lib.hid (HM.out.cong fun s _ => ?_), HB⟩
            rw [cnt_succ, List.take_of_length_le (by rw [HIL.out, HME.out]; exact Nat.le_refl _)]
            omega
          case measure => simp [intOf]; omega
    · obtain rfl : k = n := by omega
      go_wp2
      go_ret
      exact ⟨rfl, HM.out.cong fun s _ => by rw [HALL.out], HB.out⟩
end Pgm
end Go.Proofs.YtchcjinaagncjaaDoor
