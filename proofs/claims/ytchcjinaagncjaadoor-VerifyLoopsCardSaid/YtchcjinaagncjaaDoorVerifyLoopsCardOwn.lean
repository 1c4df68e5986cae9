/- Ways without a byte, step by step: mathematics. · burinlaw16.VerifyLoops: the walk. -/
import Derived.Test.YtchcjinaagncjaaDoorGp27
import Derived.Test.YtchcjinaagncjaaDoorGp26
import Derived.BigQuiet
namespace Go.Proofs.YtchcjinaagncjaaDoor.Pgm
set_option linter.unusedVariables false
def morB (l : List In) (f : Nat → Bool) (k t : Nat) : Bool := (List.range k).any fun i => f i && decide (t ∈ inst l i)
def somB (l : List In) (f : Nat → Bool) (k : Nat) : Bool := (List.range k).any fun i => f i && decide (inst l i ≠ [])
def wayB (l : List In) : Nat → Nat → Bool
  | 0, b => decide (b < l.length)
  | r + 1, b => morB l (wayB l r) l.length b
def wsB (l : List In) : Nat → Bool
  | 0 => true
  | r + 1 => somB l (wayB l r) l.length
theorem morB_succ (l : List In) (f : Nat → Bool) (k t : Nat) : morB l f (k + 1) t = (morB l f k t || (f k && decide (t ∈ inst l k))) := by
  unfold morB; rw [List.range_succ, List.any_append]; simp
theorem somB_succ (l : List In) (f : Nat → Bool) (k : Nat) : somB l f (k + 1) = (somB l f k || (f k && decide (inst l k ≠ []))) := by
  unfold somB; rw [List.range_succ, List.any_append]; simp
theorem wayB_iff (l : List In) : ∀ r b, wayB l r b = true ↔ Way l r b
  | 0, b => by unfold wayB Way; exact decide_eq_true_iff
  | r + 1, b => by
    show morB l (wayB l r) l.length b = true ↔ ∃ a, Way l r a ∧ Edge l a b
    unfold morB
    rw [List.any_eq_true]
    constructor
    · rintro ⟨a, h1, h2⟩
      rw [Bool.and_eq_true, decide_eq_true_iff] at h2
      exact ⟨a, (wayB_iff l r a).1 h2.1, List.mem_range.1 h1, h2.2⟩
    · rintro ⟨a, h1, h2, h3⟩
      exact ⟨a, List.mem_range.2 h2, by rw [Bool.and_eq_true, decide_eq_true_iff]; exact ⟨(wayB_iff l r a).2 h1, h3⟩⟩
theorem wsB_iff (l : List In) (r : Nat) : wsB l (r + 1) = true ↔ ∃ b, Way l (r + 1) b := by
  show somB l (wayB l r) l.length = true ↔ _
  unfold somB
  rw [List.any_eq_true]
  constructor
  · rintro ⟨a, h1, h2⟩
    rw [Bool.and_eq_true, decide_eq_true_iff] at h2
    obtain ⟨b, hb⟩ := List.exists_mem_of_ne_nil _ h2.2
    exact ⟨b, a, (wayB_iff l r a).1 h2.1, List.mem_range.1 h1, hb⟩
  · rintro ⟨b, a, h1, h2, h3⟩
    exact ⟨a, List.mem_range.2 h2, by rw [Bool.and_eq_true, decide_eq_true_iff]; exact ⟨(wayB_iff l r a).2 h1, List.ne_nil_of_mem h3⟩⟩
/-- The longest way tells. -/
theorem wsB_end {l : List In} (hT : Tg l) : wsB l (l.length + 1) = decide ((ordF l).length < l.length) := by
  have hle := (ordF_inv l).len
  by_cases h : (ordF l).length = l.length
  · have h2 : ¬ (ordF l).length < l.length := by omega
    rw [decide_eq_false h2]
    apply Bool.eq_false_iff.2
    intro h3
    obtain ⟨b, a, h4, h5⟩ := (wsB_iff l l.length).1 h3
    exact way_none hT h a h4
  · rw [decide_eq_true (by omega)]
    exact (wsB_iff l l.length).2 (way_all hT h _)
def nxN (i : In) : List Nat := if i.op = 2 then [i.x.toNat, i.y.toNat] else if i.op = 3 ∨ i.op = 4 then [i.x.toNat] else []
theorem nxN_mem {l : List In} {k : Nat} (hk : k < l.length) (t : Nat) : t ∈ nxN l[k] ↔ t ∈ inst l k := by
  rw [inst_at hk]
  unfold nxN etN etL tgL
  by_cases h1 : l[k].op = 1
  · rw [if_pos h1, if_neg (by omega), if_neg (by omega)]; simp
  · rw [if_neg h1]
    by_cases h2 : l[k].op = 2
    · rw [if_pos h2, if_pos h2]; simp only [List.map_cons, List.map_nil, List.mem_cons, List.not_mem_nil, or_false]; exact or_comm
    · rw [if_neg h2, if_neg h2]
      by_cases h3 : l[k].op = 3 ∨ l[k].op = 4
      · rw [if_pos h3, if_pos (.inr h3)]; simp
      · rw [if_neg h3, if_neg (by rintro (h | h); exact h1 h; exact h3 h)]; simp
theorem nxN_nil {l : List In} {k : Nat} (hk : k < l.length) : nxN l[k] ≠ [] ↔ inst l k ≠ [] := by
  constructor
  · intro h e
    obtain ⟨t, ht⟩ := List.exists_mem_of_ne_nil _ h
    have := (nxN_mem hk t).1 ht
    rw [e] at this; cases this
  · intro h e
    obtain ⟨t, ht⟩ := List.exists_mem_of_ne_nil _ h
    have := (nxN_mem hk t).2 ht
    rw [e] at this; cases this
end Go.Proofs.YtchcjinaagncjaaDoor.Pgm
namespace Go.Proofs.YtchcjinaagncjaaDoor
open Go.RowKit
set_option linter.unusedVariables false
set_option linter.unusedSimpArgs false
namespace Pgm
theorem nxN_in {l : List In} (hT : Tg l) {k : Nat} (hk : k < l.length) {q : Nat} (hq : q < (nxL l[k]).length) : ∃ t : Nat, (nxL l[k])[q] = (t : Int) ∧ t < l.length ∧ ∃ h : q < (nxN l[k]).length, (nxN l[k])[q] = t := by
  have hm := (nxL_mem l[k] _).1 (List.getElem_mem hq)
  have hz2 : (nxL l[k])[q] ∈ tgL l[k] := by
    unfold etL at hm
    split at hm
    · cases hm
    · exact hm
  obtain ⟨h1, h2⟩ := hT _ (List.getElem_mem hk) _ hz2
  refine ⟨(nxL l[k])[q].toNat, by omega, by omega, ?_⟩
  have e : nxN l[k] = (nxL l[k]).map Int.toNat := by
    unfold nxN nxL
    split
    · rfl
    · split <;> rfl
  refine ⟨by rw [e, List.length_map]; exact hq, ?_⟩
  simp only [e, List.getElem_map]
theorem nxN_len (i : In) : (nxN i).length = (nxL i).length := by
  unfold nxN nxL
  split
  · rfl
  · split <;> rfl
/-- What has been marked while the targets of one are gone through. -/
def murB (l : List In) (f : Nat → Bool) (i : Nat) (nx : List Nat) (q t : Nat) : Bool := morB l f i t || (f i && decide (t ∈ nx.take q))
def sumB (l : List In) (f : Nat → Bool) (i q : Nat) : Bool := somB l f i || (f i && decide (0 < q))
set_option maxRecDepth 100000 in
set_option maxHeartbeats 8000000 in
theorem walkVerifyLoops (W : World) (u : Value) (l : List In) (st sl : Int) (hr : InRow W u l) (hst : I64 st) (hsl : I64 sl) (hE : EvV W) :
    Calls Tryd.prog 7 #[.agg #[u, .int .i64 st, .int .i64 sl]] W fun e w' => e = .returned (.bool true) ∧ Below W.heap.size W w' := by
  have HRW : Hid (∀ w, Below W.heap.size W w → InRow w u l) := Lib.hid (fun w h => hr.below (Nat.le_refl _) h)
  have HEV : Hid (∀ w, Below W.heap.size W w → EvV w) := Lib.hid (fun w h => hE.below (Nat.le_refl _) h)
  have HWK : Hid (∀ w, Below W.heap.size W w → Calls Tryd.prog 17 #[] w fun e w' => e = .returned (.bool true) ∧ Below w.heap.size w w') := Lib.hid (fun w h => works16_any w (hE.below (Nat.le_refl _) h))
  obtain ⟨a, cap, e0, hlm, hbd, hcc⟩ := (show ∃ a cap, u = .slice a l.length cap ∧ _ from hr)
  obtain ⟨n, hn⟩ : ∃ n, l.length = n := ⟨_, rfl⟩
  rw [hn] at e0 hlm
  subst e0
  obtain ⟨B, hB⟩ : ∃ B, W.heap.size = B := ⟨_, rfl⟩
  obtain ⟨W1, hW1⟩ : ∃ W1, W.alloc (.cells #[.slice a n cap, .int .i64 st, .int .i64 sl] 46) = W1 := ⟨_, rfl⟩
  have hx1 : W1.heap[B]? = some (.cells #[.slice a n cap, .int .i64 st, .int .i64 sl] 46 (0, 0)) := by rw [← hW1, ← hB]; exact heap_alloc_new W _
  have hb1 : Below B W W1 := by rw [← hW1, ← hB]; exact (Below.refl _ _).alloc (Nat.le_refl _) _
  rw [hB] at HRW HEV HWK
  have HX1 := Lib.hid hx1
  have HB1 := Lib.hid hb1
  have HW1 := Lib.hid hW1
  have HN := Lib.hid hn
  have HBS := Lib.hid hB
  have HC := Lib.hid hcc
  have HSZ : Hid (∀ w, Below B W w → B ≤ w.heap.size) := Lib.hid (fun w h => by have := h.size; rw [hB] at this; exact this)
  have n0 : (0 : Int) ≤ (n : Int) := by omega
  rw [hB]
  clear hr hE hn hW1 hx1 hb1 hB hcc hbd
  go_enter Tryd.func7, Tryd.ntmps7
  go_wp2_with fail
  rw [HW1.out, HBS.out]
  refine (HWK.out W1 HB1.out).mono ?_
  rintro e w2 ⟨rfl, hb2⟩
  have hx2 := (hb2.block B (Array.getElem?_eq_some_iff.1 HX1.out).1).trans HX1.out
  have HB2 : Hid (Below B W w2) := Lib.hid (HB1.out.trans (hb2.mono (HSZ.out _ HB1.out)))
  have HX2 := Lib.hid hx2
  have c0 := blkp hx2 0
  have c1 := blkp hx2 1
  have c2 := blkp hx2 2
  simp only [List.getElem?_toArray, List.getElem?_cons_zero, List.getElem?_cons_succ] at c0 c1 c2
  have HCK := Lib.hid (vcheck_any l st sl _ w2 (HRW.out _ HB2.out) (HEV.out _ HB2.out))
  have HTG : Hid (chkV l st sl = 0 ∨ chkV l st sl = 151 → Tg l ∧ 1 ≤ l.length ∧ decide (chkV l st sl = 151) = decide ((ordF l).length < l.length)) := Lib.hid (fun h => by
    unfold chkV at h ⊢
    by_cases h1 : Ok l st sl
    · rw [if_pos h1] at h ⊢
      by_cases h2 : tgB l st = true
      · rw [if_pos h2] at h ⊢
        by_cases h3 : slB l sl = true
        · rw [if_pos h3] at h ⊢
          refine ⟨(tg_of h1 h2).1, h1.1, ?_⟩
          by_cases h4 : (ordF l).length < l.length
          · rw [if_pos h4, decide_eq_true h4]; rfl
          · rw [if_neg h4, decide_eq_false h4]; rfl
        · rw [if_neg h3] at h; rcases h with h | h <;> cases h
      · rw [if_neg h2] at h; rcases h with h | h <;> cases h
    · rw [if_neg h1] at h; rcases h with h | h <;> cases h)
  clear hb2 hx2
  obtain ⟨Z, hZ⟩ : ∃ Z, chkV l st sl = Z := ⟨_, rfl⟩
  rw [hZ] at HCK HTG
  clear hZ
  go_wp2_with fail
  refine HCK.out.mono ?_
  rintro e w3 ⟨rfl, hb3⟩
  have hx3 := (hb3.block B (Array.getElem?_eq_some_iff.1 HX2.out).1).trans HX2.out
  have HB3 : Hid (Below B W w3) := Lib.hid (HB2.out.trans (hb3.mono (HSZ.out _ HB2.out)))
  have HX3 := Lib.hid hx3
  have d0 := blkp hx3 0
  simp only [List.getElem?_toArray, List.getElem?_cons_zero] at d0
  clear hb3 hx3 c0 c1 c2
  by_cases h60 : 60 < n
  · have h60' : (60 : Int) < (n : Int) := by omega
    go_wp2
    go_ret
    exact ⟨rfl, HB3.out⟩
  have h60' : ¬ (60 : Int) < (n : Int) := by omega
  by_cases hz : ¬ (Z = 0 ∨ Z = 151)
  · have z0 : (Z != 0) = true := bne_iff_ne.2 fun h => hz (.inl h)
    have z1 : (Z != 151) = true := bne_iff_ne.2 fun h => hz (.inr h)
    have d60 : decide ((60 : Int) < (n : Int)) = false := decide_eq_false h60'
    clear hz
    go_wp2
    go_ret
    exact ⟨rfl, HB3.out⟩
  have hz := Decidable.not_not.1 hz
  obtain ⟨hT, hn1, hdd⟩ := HTG.out hz
  have HT := Lib.hid hT
  have HDD := Lib.hid hdd
  rw [HN.out] at hn1
  have hmk := make_bls n (by omega) w3
  have hmd := bls_made n w3
  have HMK := Lib.hid (fun w => make_bls n (by omega) w)
  have HMD := Lib.hid (fun w => bls_made n w)
  obtain ⟨C, hC⟩ : ∃ C, madeCells (#[.bool false] : Array Value) (n * 1) = C := ⟨_, rfl⟩
  rw [hC] at hmk hmd HMK HMD
  obtain ⟨w4, hw4⟩ : ∃ w4, w3.alloc (.cells C 4) = w4 := ⟨_, rfl⟩
  have hb4 : Below w3.heap.size w3 w4 := by rw [← hw4]; exact (Below.refl _ _).alloc (Nat.le_refl _) _
  rw [hw4] at hmk hmd
  obtain ⟨P, hP⟩ : ∃ P, w3.heap.size = P := ⟨_, rfl⟩
  have HPS := Lib.hid hP
  have hBP : B < P := by rw [← hP]; exact (Array.getElem?_eq_some_iff.1 HX3.out).1
  have HX4 : Hid (w4.heap[B]? = some (.cells #[.slice a n cap, .int .i64 st, .int .i64 sl] 46 (0, 0))) := Lib.hid ((hb4.block B (by rw [hP]; exact hBP)).trans HX3.out)
  have HB4 : Hid (Below B W w4) := Lib.hid (HB3.out.trans (hb4.mono (HSZ.out _ HB3.out)))
  rw [hP] at hmd
  have HM4 : Hid (Bls w4 P n (fun j => decide (j < 0))) := Lib.hid (hmd.cong fun s _ => by simp)
  have HEND : Hid (wsB l (n + 1) = decide (Z = 151)) := Lib.hid (by
    have := wsB_end HT.out
    rw [HN.out] at this
    rw [this, HDD.out, HN.out])
  clear hb4 hw4 hP hmd
  have d60 : decide ((60 : Int) < (n : Int)) = false := decide_eq_false h60'
  clear hdd HDD HTG hT
  rcases hz with hz | hz <;> subst hz
  all_goals
    go_wp2_with fail
    rw [HPS.out]
    clear hmk d0
    go_loopw [34] (fun K wr => ∃ k : Nat, k ≤ n ∧ K = .int .i64 (k : Int) ∧ Hid (Bls wr P n (fun j => decide (j < k))) ∧ Hid (wr.heap[B]? = some (.cells #[.slice a n cap, .int .i64 st, .int .i64 sl] 46 (0, 0))) ∧ Hid (Below B W wr)) (fun K _ => n - (intOf K).toNat)
    case atStart => exact ⟨0, by omega, rfl, HM4, HX4, HB4⟩
    case round =>
      obtain ⟨k, hk, rfl, HM, HX, HB⟩ := hrel
      by_cases hlt : k < n
      · obtain ⟨p1, p2⟩ := HM.out.cell hlt
        have HM6 := Lib.hid ((HM.out.set k).cong (g := fun j => decide (j < k + 1)) fun s _ => by
          by_cases e : s = k
          · subst e; simp
          · have : decide (s < k + 1) = decide (s < k) := decide_eq_decide.2 (by omega)
            rw [this]; simp [e])
        have HX6 := Lib.hid ((heap_setCell_other wr ⟨P, k, none⟩ B (.bool true) (by show ¬ B = P; omega)).trans HX.out)
        have HB6 := Lib.hid (HB.out.setCell (p := ⟨P, k, none⟩) (by show B ≤ P; omega) (.bool true))
        have k0 : (0 : Int) ≤ (k : Int) := by omega
        have k1 : (k : Int) < (n : Int) := by omega
        go_wp2
        go_roundw
        case rel => exact ⟨k + 1, by omega, by go_num, HM6, HX6, HB6⟩
        case measure => simp [intOf]; omega
      · obtain rfl : k = n := by omega
        have c0 := blkp HX.out 0
        simp only [List.getElem?_toArray, List.getElem?_cons_zero] at c0
        have HMW : Hid (Bls wr P k (wayB l 0)) := Lib.hid (HM.out.cong fun s hs => by show _ = decide (s < l.length); rw [HN.out])
        go_wp2
        clear c0
        go_loopw [4, 6, 45] (fun V Y K wq => ∃ (r A : Nat) (X : Bool), r ≤ k + 1 ∧ K = .int .i64 (r : Int) ∧ Y = .bool X ∧ V = .slice (some ⟨A, 0, none⟩) k k ∧ B < A ∧ Hid (X = wsB l r) ∧ Hid (Bls wq A k (wayB l r)) ∧ Hid (wq.heap[B]? = some (.cells #[.slice a k cap, .int .i64 st, .int .i64 sl] 46 (0, 0))) ∧ Hid (Below B W wq)) (fun V Y K _ => k + 1 - (intOf K).toNat)
        case atStart => exact ⟨0, P, true, by omega, rfl, rfl, rfl, hBP, Lib.hid rfl, HMW, HX, HB⟩
        case round =>
          obtain ⟨r, A, X, hr, rfl, rfl, rfl, hBA, HXX, HM, HX, HB⟩ := hrel
          by_cases hrl : r < k + 1
          · have c0 := blkp HX.out 0
            simp only [List.getElem?_toArray, List.getElem?_cons_zero] at c0
            have hmk := HMK.out wr
            have hAl := HM.out.lt
            obtain ⟨w5, hw5⟩ : ∃ w5, wr.alloc (.cells C 4) = w5 := ⟨_, rfl⟩
            have hb5 : Below wr.heap.size wr w5 := by rw [← hw5]; exact (Below.refl _ _).alloc (Nat.le_refl _) _
            have hm5 : Bls w5 wr.heap.size k (fun _ => false) := by rw [← hw5, ← hC]; exact bls_made k wr
            have HM5 : Hid (Bls w5 A k (wayB l r)) := Lib.hid ((hb5.block A hAl).trans HM.out)
            have HX5 := Lib.hid ((hb5.block B (by omega)).trans HX.out)
            have HB5 : Hid (Below B W w5) := Lib.hid (HB.out.trans (hb5.mono (by omega)))
            obtain ⟨D, hD⟩ : ∃ D, wr.heap.size = D := ⟨_, rfl⟩
            have HDS := Lib.hid hD
            rw [hD] at hm5 hAl
            have HD5 : Hid (Bls w5 D k (morB l (wayB l r) 0)) := Lib.hid (hm5.cong fun s _ => rfl)
            have e0 := blkp HX5.out 0
            simp only [List.getElem?_toArray, List.getElem?_cons_zero] at e0
            have r0 : (r : Int) < (k : Int) + 1 := by omega
            rw [hw5] at hmk
            clear hb5 hw5 hm5 hD
            go_wp2
            rw [HDS.out]
            clear hmk c0 e0
            go_loopw [6, 54] (fun Y K wq => ∃ (i : Nat) (X : Bool), i ≤ k ∧ K = .int .i64 (i : Int) ∧ Y = .bool X ∧ Hid (X = somB l (wayB l r) i) ∧ Hid (Bls wq A k (wayB l r)) ∧ Hid (Bls wq D k (morB l (wayB l r) i)) ∧ Hid (wq.heap[B]? = some (.cells #[.slice a k cap, .int .i64 st, .int .i64 sl] 46 (0, 0))) ∧ Hid (Below B W wq)) (fun Y K _ => k - (intOf K).toNat)
            case atStart => exact ⟨0, false, by omega, rfl, rfl, Lib.hid rfl, HM5, HD5, HX5, HB5⟩
            case round =>
              obtain ⟨i, X2, hi, rfl, rfl, HY2, HM, HD, HX, HB⟩ := hrel
              by_cases hil0 : i < k
              · have hil : i < l.length := by rw [HN.out]; exact hil0
                obtain ⟨b, off, rfl, hbl, hcc⟩ := HC.out i hil
                obtain ⟨y, hy⟩ : ∃ y, l[i] = y := ⟨_, rfl⟩
                have HIN : Hid (∀ q (hq : q < (nxL y).length), ∃ t : Nat, (nxL y)[q] = (t : Int) ∧ t < k ∧ ∃ h : q < (nxN y).length, (nxN y)[q] = t) := Lib.hid (fun q hq => by
                  subst hy
                  obtain ⟨t, h1, h2, h3⟩ := nxN_in HT.out hil hq
                  exact ⟨t, h1, by rw [← HN.out]; exact h2, h3⟩)
                have HNM : Hid (∀ t, t ∈ nxN y ↔ t ∈ inst l i) := Lib.hid (fun t => by rw [← hy]; exact nxN_mem hil t)
                have HNN : Hid (nxN y ≠ [] ↔ inst l i ≠ []) := Lib.hid (by rw [← hy]; exact nxN_nil hil)
                rw [hy] at hcc
                have kc : ∀ q, q < 5 → wr.cell? ⟨b, off + i * 5 + q, none⟩ = y.cs[q]? := fun q hq => (HB.out.cell (p := ⟨b, off + i * 5 + q, none⟩) (by show b < B; rw [← HBS.out]; exact hbl)).trans (hcc q hq)
                have q0 := kc 0 (by omega)
                have q1 := kc 1 (by omega)
                have q2 := kc 2 (by omega)
                have q3 := kc 3 (by omega)
                have q4 := kc 4 (by omega)
                simp only [In.cs, List.getElem?_cons_zero, List.getElem?_cons_succ, Nat.add_zero] at q0 q1 q2 q3 q4
                obtain ⟨w6, hw6⟩ : ∃ w6, wr.alloc (.cells #[.int .i64 y.op, .int .i64 y.lo, .int .i64 y.hi, .int .i64 y.x, .int .i64 y.y] 60) = w6 := ⟨_, rfl⟩
                have hb6 : Below wr.heap.size wr w6 := by rw [← hw6]; exact (Below.refl _ _).alloc (Nat.le_refl _) _
                have hnew := inst_block wr y
                rw [hw6] at hnew
                have HNX := Lib.hid (next16_any y w6)
                have hDl := HD.out.lt
                have HM6 : Hid (Bls w6 A k (wayB l r)) := Lib.hid ((hb6.block A (by omega)).trans HM.out)
                have HD6 : Hid (Bls w6 D k (morB l (wayB l r) i)) := Lib.hid ((hb6.block D hDl).trans HD.out)
                have HX6 := Lib.hid ((hb6.block B (by omega)).trans HX.out)
                have HB6 : Hid (Below B W w6) := Lib.hid (HB.out.trans (hb6.mono (by omega)))
                have hs6 := hb6.size
                have HW6 := Lib.hid hw6
                have d0 := blkp hnew 0
                have d1 := blkp hnew 1
                have d2 := blkp hnew 2
                have d3 := blkp hnew 3
                have d4 := blkp hnew 4
                simp only [List.getElem?_toArray, List.getElem?_cons_zero, List.getElem?_cons_succ] at d0 d1 d2 d3 d4
                have i0 : (0 : Int) ≤ (i : Int) := by omega
                have i1 : (i : Int) < (k : Int) := by omega
                clear kc hcc hy hw6 hnew hb6 hil
                go_wp2_with fail
                rw [HW6.out]
                refine HNX.out.mono ?_
                rintro e w7 ⟨v7, rfl, ho7, hb7⟩
                obtain ⟨a7, c7, rfl, hrd7⟩ := io_rd ho7
                have HR7 := Lib.hid hrd7
                have HM7 : Hid (Bls w7 A k (wayB l r)) := Lib.hid ((hb7.block A (by omega)).trans HM6.out)
                have HD7 : Hid (Bls w7 D k (murB l (wayB l r) i (nxN y) 0)) := Lib.hid (((hb7.block D (by omega)).trans HD6.out : Bls w7 D k (morB l (wayB l r) i)) |> fun h => Bls.cong h fun s _ => by unfold murB; simp)
                have HX7 := Lib.hid ((hb7.block B (by omega)).trans HX6.out)
                have HB7 : Hid (Below B W w7) := Lib.hid (HB6.out.trans (hb7.mono (by omega)))
                have hlen := nxL_len y
                obtain ⟨mm, hmm⟩ : ∃ mm, (nxL y).length = mm := ⟨_, rfl⟩
                have HME := Lib.hid hmm
                have hDw : D < w6.heap.size := by omega
                have HS7 : Hid (X2 = sumB l (wayB l r) i 0) := Lib.hid (by rw [HY2.out]; unfold sumB; simp)
                have HNL : Hid ((nxN y).length = mm) := Lib.hid (by rw [nxN_len, hmm])
                rw [hmm] at hlen ⊢
                clear ho7 hrd7 hb7 hmm q0 q1 q2 q3 q4 d0 d1 d2 d3 d4
                go_wp2
                go_loopw [6, 62] (fun Y Q wq => ∃ (q : Nat) (X : Bool), q ≤ mm ∧ Q = .int .i64 (q : Int) ∧ Y = .bool X ∧ Hid (X = sumB l (wayB l r) i q) ∧ Hid (Bls wq A k (wayB l r)) ∧ Hid (Bls wq D k (murB l (wayB l r) i (nxN y) q)) ∧ Hid (Nrd wq a7 (nxL y) w6.heap.size) ∧ Hid (wq.heap[B]? = some (.cells #[.slice (some ⟨b, off, none⟩) k cap, .int .i64 st, .int .i64 sl] 46 (0, 0))) ∧ Hid (Below B W wq)) (fun Y Q _ => mm - (intOf Q).toNat)
                case atStart => exact ⟨0, X2, by omega, rfl, rfl, HS7, HM7, HD7, HR7, HX7, HB7⟩
                case round =>
                  obtain ⟨q, X3, hq, rfl, rfl, HX3, HM, HD, HR, HX, HB⟩ := hrel
                  by_cases hql : q < mm
                  · have hqe : q < (nxL y).length := by rw [HME.out]; exact hql
                    obtain ⟨t, ht, htk, hqi, hti⟩ := HIN.out q hqe
                    obtain ⟨b7, ha7, hlo7, hlt7, hc7⟩ := HR.out q hqe
                    rw [ht] at hc7
                    subst ha7
                    obtain ⟨p1, p2⟩ := HM.out.cell hil0
                    obtain ⟨g1, g2⟩ := HD.out.cell htk
                    have HTQ : Hid (∀ s, (s ∈ (nxN y).take (q + 1)) ↔ (s ∈ (nxN y).take q ∨ s = t)) := Lib.hid (fun s => by
                      rw [List.take_succ_eq_append_getElem hqi, hti]; simp)
                    have t0 : (0 : Int) ≤ (t : Int) := by omega
                    have t1 : (t : Int) < (k : Int) := by omega
                    have qq0 : (0 : Int) ≤ (q : Int) := by omega
                    have qq1 : (q : Int) < (mm : Int) := by omega
                    obtain ⟨z, hz⟩ : ∃ z, wayB l r i = z := ⟨_, rfl⟩
                    have HZ := Lib.hid hz
                    rw [hz] at p1
                    clear hz hti hqi
                    cases z with
                    | true =>
                      have HD9 := Lib.hid ((HD.out.set t).cong (g := murB l (wayB l r) i (nxN y) (q + 1)) fun s _ => by
                        unfold murB
                        rw [HZ.out]
                        apply Bool.eq_iff_iff.2
                        simp only [Bool.or_eq_true, Bool.true_and, decide_eq_true_iff, HTQ.out s, or_assoc])
                      have HM9 : Hid (∀ u, Bls (wr.setCell ⟨D, t, none⟩ u) A k (wayB l r)) := Lib.hid (fun u => (heap_setCell_other wr ⟨D, t, none⟩ A u (by show ¬ A = D; omega)).trans HM.out)
                      have HR9 := Lib.hid (fun u => HR.out.set (k := t) hDw u)
                      have HX9 := Lib.hid (fun u => (heap_setCell_other wr ⟨D, t, none⟩ B u (by show ¬ B = D; omega)).trans HX.out)
                      have HB9 := Lib.hid (fun u => HB.out.setCell (p := ⟨D, t, none⟩) (by show B ≤ D; omega) u)
                      have HS9 : Hid (true = sumB l (wayB l r) i (q + 1)) := Lib.hid (by unfold sumB; rw [HZ.out]; simp)
                      go_wp2
                      go_roundw
                      case rel => first | exact ⟨q + 1, true, by omega, by go_num, rfl, HS9, Lib.hid (HM9.out _), HD9, Lib.hid (HR9.out _), Lib.hid (HX9.out _), Lib.hid (HB9.out _)⟩ | ((repeat apply Exists.intro); exact ⟨⟨q + 1, true, by omega, by go_num, rfl, HS9, Lib.hid (HM9.out _), HD9, Lib.hid (HR9.out _), Lib.hid (HX9.out _), Lib.hid (HB9.out _)⟩, rfl⟩)
                      case measure => simp [intOf]; omega
                    | false =>
                      have HD9 := Lib.hid (HD.out.cong (g := murB l (wayB l r) i (nxN y) (q + 1)) fun s _ => by unfold murB; rw [HZ.out]; simp)
                      have HS9 : Hid (X3 = sumB l (wayB l r) i (q + 1)) := Lib.hid (by rw [HX3.out]; unfold sumB; rw [HZ.out]; simp)
                      go_wp2
                      go_roundw
                      case rel => first | exact ⟨q + 1, X3, by omega, by go_num, rfl, HS9, HM, HD9, HR, HX, HB⟩ | ((repeat apply Exists.intro); exact ⟨⟨q + 1, X3, by omega, by go_num, rfl, HS9, HM, HD9, HR, HX, HB⟩, rfl⟩)
                      case measure => simp [intOf]; omega
                  · obtain rfl : q = mm := by omega
                    have HD9 := Lib.hid (HD.out.cong (g := morB l (wayB l r) (i + 1)) fun s _ => by
                      rw [morB_succ]; unfold murB
                      rw [List.take_of_length_le (by rw [HNL.out]; exact Nat.le_refl _)]
                      rw [decide_eq_decide.2 (HNM.out s)])
                    have HS9 : Hid (X3 = somB l (wayB l r) (i + 1)) := Lib.hid (by
                      rw [HX3.out, somB_succ]; unfold sumB
                      have : decide (0 < q) = decide (inst l i ≠ []) := decide_eq_decide.2 (by
                        rw [← HNN.out, ← HNL.out]
                        constructor
                        · intro h e; rw [e] at h; simp at h
                        · intro h; exact List.length_pos_iff.2 h)
                      rw [this])
                    go_wp2
                    go_roundw
                    case rel => first | exact ⟨i + 1, X3, by omega, by go_num, rfl, HS9, HM, HD9, HX, HB⟩ | ((repeat apply Exists.intro); exact ⟨⟨i + 1, X3, by omega, by go_num, rfl, HS9, HM, HD9, HX, HB⟩, rfl⟩)
                    case measure => simp [intOf]; omega
              · obtain rfl : i = k := by omega
                have HD9 : Hid (Bls wr D i (wayB l (r + 1))) := Lib.hid (HD.out.cong fun s _ => by
                  show _ = morB l (wayB l r) l.length s
                  rw [HN.out])
                have HS9 : Hid (X2 = wsB l (r + 1)) := Lib.hid (by
                  rw [HY2.out]
                  show _ = somB l (wayB l r) l.length
                  rw [HN.out])
                have hBD : B < D := by omega
                go_wp2
                go_roundw
                case rel => first | exact ⟨r + 1, D, X2, by omega, by go_num, rfl, rfl, hBD, HS9, HD9, HX, HB⟩ | ((repeat apply Exists.intro); exact ⟨⟨r + 1, D, X2, by omega, by go_num, rfl, rfl, hBD, HS9, HD9, HX, HB⟩, rfl⟩)
                case measure => simp [intOf]; omega
          · obtain rfl : r = k + 1 := by omega
            have HXE := Lib.hid (HXX.out.trans HEND.out)
            have r0 : ¬ (((k + 1 : Nat)) : Int) < (k : Int) + 1 := by omega
            go_wp2
            go_ret
            exact ⟨retv_bool (by rw [HXE.out]; rfl), HB.out⟩
end Pgm
end Go.Proofs.YtchcjinaagncjaaDoor
