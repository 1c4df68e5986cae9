/- Mathematics of TreeParts: a tree and its parts. · burinlaw06.TreeParts, walked. -/
import Derived.Test.YthhijakclinjaaaGp29
import Derived.Test.YthhijakclinjaaaGp30
import Derived.Test.YthhijakclinjaaaGp16
import Derived.BigQuiet
namespace Go.Proofs.Ythhijakclinjaaa
open Go.RowKit
set_option linter.unusedVariables false
namespace Td
theorem fit_subs {k : Nat} {n m : Nd} (h : fit (k + 1) n) (hm : m ∈ subs n) : fit k m := h.2.2.2 m hm
theorem flat_snd (f g : Nd → List (Nat × Nd)) : ∀ (l : List Nd), (∀ m ∈ l, (f m).map (·.2) = (g m).map (·.2)) → (l.flatMap f).map (·.2) = (l.flatMap g).map (·.2)
  | [], _ => rfl
  | m :: l, h => by
    rw [List.flatMap_cons, List.flatMap_cons, List.map_append, List.map_append, h m (by simp), flat_snd f g l (fun x hx => h x (List.mem_cons_of_mem _ hx))]
theorem all_snd : ∀ (k j j' d d' : Nat) (n : Nd), fit k n → k ≤ j → k ≤ j' → (all j d n).map (·.2) = (all j' d' n).map (·.2)
  | 0, _, _, _, _, _, h, _, _ => h.elim
  | k + 1, 0, _, _, _, _, _, h, _ => absurd h (by omega)
  | k + 1, _ + 1, 0, _, _, _, _, _, h => absurd h (by omega)
  | k + 1, j + 1, j' + 1, d, d', n, hf, h1, h2 => by
    rw [all, all, List.map_cons, List.map_cons, flat_snd (all j (d + 1)) (all j' (d' + 1)) (subs n) (fun m hm => all_snd k j j' (d + 1) (d' + 1) m (fit_subs hf hm) (by omega) (by omega))]
theorem all_len_eq {k j j' d d' : Nat} {n : Nd} (h : fit k n) (h1 : k ≤ j) (h2 : k ≤ j') : (all j d n).length = (all j' d' n).length := by
  have := congrArg List.length (all_snd k j j' d d' n h h1 h2)
  simpa using this
theorem map_eq_of {f g : Nd → Nat} : ∀ (l : List Nd), (∀ m ∈ l, f m = g m) → l.map f = l.map g
  | [], _ => rfl
  | m :: l, h => by rw [List.map_cons, List.map_cons, h m (by simp), map_eq_of l (fun x hx => h x (List.mem_cons_of_mem _ hx))]
theorem dep_eq : ∀ (k j j' : Nat) (n : Nd), fit k n → k ≤ j → k ≤ j' → dep j n = dep j' n
  | 0, _, _, _, h, _, _ => h.elim
  | k + 1, 0, _, _, _, h, _ => absurd h (by omega)
  | k + 1, _ + 1, 0, _, _, _, h => absurd h (by omega)
  | k + 1, j + 1, j' + 1, n, hf, h1, h2 => by
    rw [dep, dep, map_eq_of (subs n) (fun m hm => dep_eq k j j' m (fit_subs hf hm) (by omega) (by omega))]
theorem flat_len (f : Nd → List (Nat × Nd)) : ∀ (l : List Nd), (l.flatMap f).length = (l.map (fun m => (f m).length)).sum
  | [] => rfl
  | m :: l => by rw [List.flatMap_cons, List.length_append, flat_len f l, List.map_cons, List.sum_cons]
/-- One node more than its parts together. -/
theorem parts_len (n : Nd) (h : fit 40 n) : (all 1000 1 n).length = 1 + ((subs n).map (fun m => (all 1000 1 m).length)).sum := by
  have e : (all 1000 1 n) = (1, n) :: (subs n).flatMap (all 999 2) := by rw [all]
  rw [e, List.length_cons, flat_len, map_eq_of (f := fun m => (all 999 2 m).length) (g := fun m => (all 1000 1 m).length) (subs n) (fun m hm => all_len_eq (fit_subs h hm) (by omega) (by omega))]
  omega
theorem parts_dep (n : Nd) (h : fit 40 n) : dep 1001 n = ((subs n).map (dep 1001)).foldl max 0 + 1 := by
  rw [dep, map_eq_of (f := dep 1000) (g := dep 1001) (subs n) (fun m hm => dep_eq 39 1000 1001 m (fit_subs h hm) (by omega) (by omega))]
theorem chk_plain : ∀ (T : List ByteArray) (l : List (Nat × Nd)), (∀ p ∈ l, kind p.2 ≠ 6) → (chkF T l = 0 ↔ ∀ p ∈ l, fitsB p.2 = true)
  | T, [], _ => by simp [chkF]
  | T, p :: l, h => by
    have hk := h p (by simp)
    have ih := chk_plain T l (fun x hx => h x (List.mem_cons_of_mem _ hx))
    rw [chkF]
    cases hf : fitsB p.2
    · rw [if_pos rfl]
      constructor
      · intro e; cases e
      · intro e; have := e p (by simp); rw [hf] at this; cases this
    · rw [if_neg (by decide), if_pos hk, ih]
      constructor
      · intro e q hq
        rcases List.mem_cons.1 hq with rfl | hq
        · exact hf
        · exact e q hq
      · intro e q hq; exact e q (List.mem_cons_of_mem _ hq)
theorem groups_nil {l : List (Nat × Nd)} (h : groups l = []) : ∀ p ∈ l, kind p.2 ≠ 6 := fun p hp e => by
  unfold groups at h
  rw [List.map_eq_nil_iff, List.filter_eq_nil_iff] at h
  have := h p hp
  rw [e] at this
  exact this rfl
/-- The parts of what is right are right. -/
theorem parts_ok (n : Nd) (h : fit 40 n) (hc : checkN n = 0) (hg : groups (all 1000 1 n) = []) : ∀ m ∈ subs n, checkN m = 0 := fun m hm => by
  have hno := groups_nil hg
  unfold checkN at hc
  by_cases hd : 1000 < dep 1001 n
  · rw [if_pos hd] at hc; cases hc
  rw [if_neg hd] at hc
  have hfit := (chk_plain [] _ hno).1 hc
  have hsub : ∀ x, x ∈ (all 1000 1 m).map (·.2) → ∃ p ∈ all 1000 1 n, p.2 = x := fun x hx => by
    rw [all_snd 39 1000 999 1 2 m (fit_subs h hm) (by omega) (by omega)] at hx
    obtain ⟨p, hp, rfl⟩ := List.mem_map.1 hx
    refine ⟨p, ?_, rfl⟩
    have e : (all 1000 1 n) = (1, n) :: (subs n).flatMap (all 999 2) := by rw [all]
    rw [e]
    exact List.mem_cons_of_mem _ (List.mem_flatMap.2 ⟨m, hm, hp⟩)
  unfold checkN
  have hdm : ¬ 1000 < dep 1001 m := by have := dep_fit 39 1001 m (fit_subs h hm); omega
  rw [if_neg hdm]
  refine (chk_plain [] _ (fun p hp => ?_)).2 (fun p hp => ?_)
  · obtain ⟨q, hq, e⟩ := hsub p.2 (List.mem_map.2 ⟨p, hp, rfl⟩)
    rw [← e]; exact hno q hq
  · obtain ⟨q, hq, e⟩ := hsub p.2 (List.mem_map.2 ⟨p, hp, rfl⟩)
    rw [← e]; exact hfit q hq
theorem sum_take_le : ∀ (l : List Nat) (i : Nat), (l.take i).sum ≤ l.sum
  | [], i => by simp
  | x :: l, 0 => by simp
  | x :: l, i + 1 => by
    rw [List.take_succ_cons, List.sum_cons, List.sum_cons]
    have := sum_take_le l i
    omega
end Td
end Go.Proofs.Ythhijakclinjaaa
namespace Go.Proofs.Ythhijakclinjaaa
open Go.RowKit
set_option linter.unusedVariables false
set_option maxRecDepth 100000 in
set_option maxHeartbeats 16000000 in
theorem walkTreeParts (W : World) (cs : List Value) (n : Nd) (h : NdIs W n cs) : Calls Try.prog 6 #[.agg cs.toArray] W fun e w' => e = .returned (.bool true) ∧ Below W.heap.size W w' := by
  have mixed : Try.prog.follows .mixedOrders = true := by kernel_rfl
  have hb1 : Below W.heap.size W (W.alloc (.cells cs.toArray 25)) := (Below.refl W.heap.size W).alloc (Nat.le_refl _) _
  have hnw := heap_alloc_new W (.cells cs.toArray 25)
  obtain ⟨W1, hW1⟩ : ∃ W1, W.alloc (.cells cs.toArray 25) = W1 := ⟨_, rfl⟩
  have hsz : W1.heap.size = W.heap.size + 1 := by rw [← hW1]; simp
  rw [hW1] at hb1 hnw
  have HN := Lib.hid (h.kept hb1)
  have HB := Lib.hid hb1
  have HX := Lib.hid hnw
  have HSZ := Lib.hid hsz
  obtain ⟨vs, a, c, C, hC⟩ := h.cells
  obtain ⟨sa, sc, hvs, _⟩ := hC.set
  have hcs := hC.eq
  have hlen := hC.len
  have HSUB := Lib.hid hC.sub
  subst hvs
  subst hcs
  have HW1 := Lib.hid hW1
  obtain ⟨L, hL⟩ : ∃ L, (Td.subs n).length = L := ⟨_, rfl⟩
  have HL := Lib.hid hL
  rw [hL] at hlen HSUB HX HN HW1 ⊢
  clear h hb1 hnw hsz hW1 hC hL
  go_enter Try.func6, Try.ntmps6
  go_wp2_with fail
  rw [HW1.out]
  refine (works6_any W1).mono ?_
  rintro e w2 ⟨rfl, hb2⟩
  replace HN := Lib.hid (HN.out.kept hb2)
  replace HX := Lib.hid ((hb2.block _ (Array.getElem?_eq_some_iff.1 HX.out).1).trans HX.out)
  replace HB := Lib.hid (HB.out.trans (hb2.mono HB.out.size))
  have HS2 : Hid (W.heap.size < w2.heap.size) := Lib.hid (by have := hb2.size; rw [HSZ.out] at this; omega)
  clear hb2 HSZ HW1
  have b0 := blkc HX.out 0
  have b1 := blkc HX.out 1
  have b2 := blkc HX.out 2
  have b3 := blkc HX.out 3
  have b4 := blkc HX.out 4
  have b5 := blkc HX.out 5
  have b6 := blkc HX.out 6
  have b7 := blkc HX.out 7
  simp only [List.getElem?_toArray, List.getElem?_cons_zero, List.getElem?_cons_succ] at b0 b1 b2 b3 b4 b5 b6 b7
  go_wp2_with fail
  refine (refGreat_any w2 n _ 300 (by omega) (by omega) HN.out).mono ?_
  rintro e w3 ⟨b, rfl, hgr, hb3⟩
  replace HN := Lib.hid (HN.out.kept hb3)
  replace HX := Lib.hid ((hb3.block _ (Array.getElem?_eq_some_iff.1 HX.out).1).trans HX.out)
  replace HB := Lib.hid (HB.out.trans (hb3.mono HB.out.size))
  replace HS2 : Hid (W.heap.size < w3.heap.size) := Lib.hid (Nat.lt_of_lt_of_le HS2.out hb3.size)
  clear hb3 b0 b1 b2 b3 b4 b5 b6 b7
  cases b with
  | true =>
    go_wp2
    go_ret
    exact ⟨rfl, HB.out⟩
  | false =>
    have HFIT := Lib.hid (hgr rfl).2
    have HWG := Lib.hid (hgr rfl)
    have HLEN := Lib.hid (Td.parts_len n (hgr rfl).2)
    have HDEP := Lib.hid (Td.parts_dep n (hgr rfl).2)
    have HSM := Lib.hid (Td.all_small n 300 (by omega) (hgr rfl) 1)
    clear hgr
    have b7 := blkc HX.out 7
    simp only [List.getElem?_toArray, List.getElem?_cons_zero, List.getElem?_cons_succ] at b7
    go_wp2
    go_loopw [3, 4, 5, 7, 15] (fun v3 v4 v5 v7 iv wr => ∃ (i s d : Nat) (f : Bool), i ≤ L ∧ v3 = .int .i64 (s : Int) ∧ v4 = .int .i64 (d : Int) ∧ v5 = .bool f ∧ iv = .int .i64 (i : Int) ∧ s ≤ 1000000 ∧ d ≤ 2000 ∧
        Hid (s = 1 + (((Td.subs n).map (fun m => (Td.all 1000 1 m).length)).take i).sum) ∧ Hid (d = (((Td.subs n).map (Td.dep 1001)).take i).foldl max 0) ∧ Hid (f = ((Td.subs n).take i).all (fun m => Td.checkN m == 0)) ∧ Hid (Below w3.heap.size w3 wr)) (fun _ _ _ _ iv _ => L - (intOf iv).toNat)
    case atStart => exact ⟨0, 1, 0, true, Nat.zero_le _, rfl, rfl, rfl, rfl, by omega, by omega, Lib.hid (by simp), Lib.hid (by simp), Lib.hid (by simp), Lib.hid (Below.refl _ _)⟩
    case round =>
      obtain ⟨i, s, d, f, hi, rfl, rfl, rfl, rfl, hs, hd, HS, HD, HF, HBW⟩ := hrel
      by_cases hlt : i < L
      · obtain ⟨g, off, m, u0, u1, u2, u3, u4, u5, u6, u7, rfl, hbl, hm, hnd, q0, q1, q2, q3, q4, q5, q6, q7⟩ := HSUB.out i hlt
        have hWr : Below W.heap.size W wr := HB.out.trans (HBW.out.mono HB.out.size)
        have kc : ∀ o v, W.cell? ⟨g, o, none⟩ = some v → wr.cell? ⟨g, o, none⟩ = some v := fun o v h => (hWr.cell (p := ⟨g, o, none⟩) hbl).trans h
        replace q0 := kc _ _ q0; replace q1 := kc _ _ q1; replace q2 := kc _ _ q2; replace q3 := kc _ _ q3
        replace q4 := kc _ _ q4; replace q5 := kc _ _ q5; replace q6 := kc _ _ q6; replace q7 := kc _ _ q7
        have hbl2 : g < wr.heap.size := Nat.lt_of_lt_of_le hbl hWr.size
        obtain ⟨f1, f2, f3, f4, F1⟩ := hnd.form
        obtain ⟨rfl, rfl, rfl, rfl, rfl, rfl, rfl, rfl⟩ := F1
        have hmem : m ∈ Td.subs n := List.mem_of_getElem? hm
        have hfm := Td.fit_subs HFIT.out hmem
        have hsm : (Td.all 1000 1 m).length ≤ 1000000 := by
          have h1 := Td.parts_len n HFIT.out
          have h2 := HSM.out
          have h3 := Td.sum_take_le ((Td.subs n).map (fun m => (Td.all 1000 1 m).length)) (i + 1)
          have hil : i < ((Td.subs n).map (fun m => (Td.all 1000 1 m).length)).length := by rw [List.length_map, HL.out]; exact hlt
          rw [Td.sum_take_succ _ _ hil] at h3
          have h4 : ((Td.subs n).map (fun m => (Td.all 1000 1 m).length))[i] = (Td.all 1000 1 m).length := by
            rw [List.getElem_map]
            obtain ⟨hh, e⟩ := List.getElem?_eq_some_iff.1 hm
            rw [e]
          rw [h4] at h3
          omega
        have hs' : s + (Td.all 1000 1 m).length ≤ 1000000 := by
          have h1 := Td.parts_len n HFIT.out
          have h2 := HSM.out
          have h3 := Td.sum_take_le ((Td.subs n).map (fun m => (Td.all 1000 1 m).length)) (i + 1)
          have hil : i < ((Td.subs n).map (fun m => (Td.all 1000 1 m).length)).length := by rw [List.length_map, HL.out]; exact hlt
          rw [Td.sum_take_succ _ _ hil] at h3
          have h4 : ((Td.subs n).map (fun m => (Td.all 1000 1 m).length))[i] = (Td.all 1000 1 m).length := by
            rw [List.getElem_map]
            obtain ⟨hh, e⟩ := List.getElem?_eq_some_iff.1 hm
            rw [e]
          rw [h4] at h3
          have h5 := HS.out
          omega
        have HS' : Hid (s + (Td.all 1000 1 m).length = 1 + (((Td.subs n).map (fun m => (Td.all 1000 1 m).length)).take (i + 1)).sum) := Lib.hid (by
          have hil : i < ((Td.subs n).map (fun m => (Td.all 1000 1 m).length)).length := by rw [List.length_map, HL.out]; exact hlt
          rw [Td.sum_take_succ _ _ hil, HS.out, List.getElem_map]
          obtain ⟨hh, e⟩ := List.getElem?_eq_some_iff.1 hm
          rw [e]; omega)
        have HD' : Hid (max d (Td.dep 1001 m) = (((Td.subs n).map (Td.dep 1001)).take (i + 1)).foldl max 0) := Lib.hid (by
          have hil : i < ((Td.subs n).map (Td.dep 1001)).length := by rw [List.length_map, HL.out]; exact hlt
          rw [Td.foldl_max_succ _ _ hil, HD.out, List.getElem_map]
          obtain ⟨hh, e⟩ := List.getElem?_eq_some_iff.1 hm
          rw [e])
        have HF' : Hid ((f && (Td.checkN m == 0)) = ((Td.subs n).take (i + 1)).all (fun m => Td.checkN m == 0)) := Lib.hid (by rw [Td.all_take_succ _ _ _ _ hm, HF.out])
        have hdm := Td.dep_le 1001 m
        obtain ⟨N, hN⟩ : ∃ N, (Td.all 1000 1 m).length = N := ⟨_, rfl⟩
        obtain ⟨D, hD⟩ : ∃ D, Td.dep 1001 m = D := ⟨_, rfl⟩
        obtain ⟨K, hK⟩ : ∃ K, Td.checkN m = K := ⟨_, rfl⟩
        have hw : IntKind.i64.wrap ((s : Int) + (N : Int)) = ((s + N : Nat) : Int) := by rw [IntKind.wrap_i64]; omega
        have hnd3 := hnd.kept hWr
        have hbx := heap_alloc_new wr (.cells #[.int .i64 (Td.kind m), .slice f1 (Td.set m).length f2, .int .i64 (Td.num m), .string (Td.name m), .int .i64 (Td.mn m), .int .i64 (Td.mx m), .bool (Td.lazy m), .slice f3 (Td.subs m).length f4] 25)
        obtain ⟨wx, hwx⟩ : ∃ wx, wr.alloc (.cells #[.int .i64 (Td.kind m), .slice f1 (Td.set m).length f2, .int .i64 (Td.num m), .string (Td.name m), .int .i64 (Td.mn m), .int .i64 (Td.mx m), .bool (Td.lazy m), .slice f3 (Td.subs m).length f4] 25) = wx := ⟨_, rfl⟩
        have hbx1 : Below wr.heap.size wr wx := by rw [← hwx]; exact (Below.refl _ wr).alloc (Nat.le_refl _) _
        have hlx : wr.heap.size < wx.heap.size := by rw [← hwx]; simp
        rw [hwx] at hbx
        have H1 := Lib.hid (fun p : GrownTo wx => trSize_any p.W' m _ (hnd3.kept (hbx1.trans (p.h.mono hbx1.size))) hsm)
        have H2 := Lib.hid (fun p : GrownTo wx => trDepth_any p.W' m _ (hnd3.kept (hbx1.trans (p.h.mono hbx1.size))))
        have H3 := Lib.hid (fun p : GrownTo wx => trCheck_any p.W' m _ (hnd3.kept (hbx1.trans (p.h.mono hbx1.size))) hsm)
        rw [hN] at H1 HS' hs'
        rw [hD] at H2 HD' hdm
        rw [hK] at H3 HF'
        have HBX := Lib.hid hbx
        have HWX := Lib.hid hwx
        have HBW1 := Lib.hid (HBW.out.trans (hbx1.mono HBW.out.size))
        have q : ∀ (p : GrownTo wx) (i : Nat) (v : Value), (#[.int .i64 (Td.kind m), .slice f1 (Td.set m).length f2, .int .i64 (Td.num m), .string (Td.name m), .int .i64 (Td.mn m), .int .i64 (Td.mx m), .bool (Td.lazy m), .slice f3 (Td.subs m).length f4] : Array Value)[i]? = some v → p.W'.cell? ⟨wr.heap.size, i, none⟩ = some v := fun p i v hv => by
          simp only [World.cell?, (p.h.block _ hlx).trans HBX.out]
          simpa using hv
        have c0 := fun p => q p 0 _ rfl
        have c1 := fun p => q p 1 _ rfl
        have c2 := fun p => q p 2 _ rfl
        have c3 := fun p => q p 3 _ rfl
        have c4 := fun p => q p 4 _ rfl
        have c5 := fun p => q p 5 _ rfl
        have c6 := fun p => q p 6 _ rfl
        have c7 := fun p => q p 7 _ rfl
        have HC := Lib.hid (And.intro c0 (And.intro c1 (And.intro c2 (And.intro c3 (And.intro c4 (And.intro c5 (And.intro c6 c7)))))))
        have HCP := Lib.hid (fun p : GrownTo wx => (p.h.block _ hlx).trans HBX.out)
        clear q c0 c1 c2 c3 c4 c5 c6 c7 hwx hbx hbx1 hnd hnd3 kc hm hmem hfm hN hD hK hWr hsm HS HD HF b7
        by_cases hdl : (d : Int) < (D : Int)
        · have hmx : max d D = D := by omega
          rw [hmx] at HD'
          go_wp2
          rw [HWX.out]
          obtain ⟨c0, c1, c2, c3, c4, c5, c6, c7⟩ := HC.out
          refine wp_region_quiet_below (by assumption) (by kernel_rfl) ?_
          repeat (quiet_step (first
            | (go_at_call 19; exact calls_grownTo (H1.out _))
            | (go_at_call 21; exact calls_grownTo (H2.out _))))
          refine wpQuiet_nil ?_
          intro _ hw'
          obtain ⟨pz, hw''⟩ := hw'
          subst hw''
          have HBZ := Lib.hid (HBW1.out.trans (pz.h.mono HBW1.out.size))
          have HXZ := Lib.hid (HCP.out pz)
          have HC3 := Lib.hid (H3.out pz)
          clear c0 c1 c2 c3 c4 c5 c6 c7
          have b0 := blkc HXZ.out 0
          have b1 := blkc HXZ.out 1
          have b2 := blkc HXZ.out 2
          have b3 := blkc HXZ.out 3
          have b4 := blkc HXZ.out 4
          have b5 := blkc HXZ.out 5
          have b6 := blkc HXZ.out 6
          have b7 := blkc HXZ.out 7
          simp only [List.getElem?_toArray, List.getElem?_cons_zero, List.getElem?_cons_succ] at b0 b1 b2 b3 b4 b5 b6 b7
          cases f with
          | false =>
            have HF2 : Hid (false = ((Td.subs n).take (i + 1)).all (fun m => Td.checkN m == 0)) := Lib.hid (by rw [← HF'.out]; rfl)
            go_wp2
            go_roundw
            case rel => exact ⟨i + 1, s + N, D, false, by omega, rfl, rfl, rfl, by go_num, hs', by omega, HS', HD', HF2, HBZ⟩
            case measure => simp [intOf]; omega
          | true =>
            have HF2 : Hid ((K == 0) = ((Td.subs n).take (i + 1)).all (fun m => Td.checkN m == 0)) := Lib.hid (by rw [← HF'.out]; rfl)
            go_wp2_with fail
            refine HC3.out.mono ?_
            rintro e w9 ⟨rfl, hb9⟩
            have HB9 := Lib.hid (HBZ.out.trans (hb9.mono HBZ.out.size))
            clear hb9 b0 b1 b2 b3 b4 b5 b6 b7
            go_wp2
            go_roundw
            case rel => exact ⟨i + 1, s + N, D, (K == 0), by omega, rfl, rfl, rfl, by go_num, hs', by omega, HS', HD', HF2, HB9⟩
            case measure => simp [intOf]; omega
        · have hmx : max d D = d := by omega
          rw [hmx] at HD'
          go_wp2
          rw [HWX.out]
          obtain ⟨c0, c1, c2, c3, c4, c5, c6, c7⟩ := HC.out
          refine wp_region_quiet_below (by assumption) (by kernel_rfl) ?_
          repeat (quiet_step (first
            | (go_at_call 19; exact calls_grownTo (H1.out _))
            | (go_at_call 21; exact calls_grownTo (H2.out _))))
          refine wpQuiet_nil ?_
          intro _ hw'
          obtain ⟨pz, hw''⟩ := hw'
          subst hw''
          have HBZ := Lib.hid (HBW1.out.trans (pz.h.mono HBW1.out.size))
          have HXZ := Lib.hid (HCP.out pz)
          have HC3 := Lib.hid (H3.out pz)
          clear c0 c1 c2 c3 c4 c5 c6 c7
          have b0 := blkc HXZ.out 0
          have b1 := blkc HXZ.out 1
          have b2 := blkc HXZ.out 2
          have b3 := blkc HXZ.out 3
          have b4 := blkc HXZ.out 4
          have b5 := blkc HXZ.out 5
          have b6 := blkc HXZ.out 6
          have b7 := blkc HXZ.out 7
          simp only [List.getElem?_toArray, List.getElem?_cons_zero, List.getElem?_cons_succ] at b0 b1 b2 b3 b4 b5 b6 b7
          cases f with
          | false =>
            have HF2 : Hid (false = ((Td.subs n).take (i + 1)).all (fun m => Td.checkN m == 0)) := Lib.hid (by rw [← HF'.out]; rfl)
            go_wp2
            go_roundw
            case rel => exact ⟨i + 1, s + N, d, false, by omega, rfl, (by first | rfl | (rw [if_neg (by omega)])), rfl, by go_num, hs', by omega, HS', HD', HF2, HBZ⟩
            case measure => simp [intOf]; omega
          | true =>
            have HF2 : Hid ((K == 0) = ((Td.subs n).take (i + 1)).all (fun m => Td.checkN m == 0)) := Lib.hid (by rw [← HF'.out]; rfl)
            go_wp2_with fail
            refine HC3.out.mono ?_
            rintro e w9 ⟨rfl, hb9⟩
            have HB9 := Lib.hid (HBZ.out.trans (hb9.mono HBZ.out.size))
            clear hb9 b0 b1 b2 b3 b4 b5 b6 b7
            go_wp2
            go_roundw
            case rel => exact ⟨i + 1, s + N, d, (K == 0), by omega, rfl, (by first | rfl | (rw [if_neg (by omega)])), rfl, by go_num, hs', by omega, HS', HD', HF2, HB9⟩
            case measure => simp [intOf]; omega
      · obtain rfl : i = L := by omega
        have hs2 : s = (Td.all 1000 1 n).length := by
          rw [HLEN.out, HS.out, List.take_of_length_le (by rw [List.length_map, HL.out]; exact Nat.le_refl _)]
        have hd2 : d + 1 = Td.dep 1001 n := by
          rw [HDEP.out, HD.out, List.take_of_length_le (by rw [List.length_map, HL.out]; exact Nat.le_refl _)]
        have hf2 : Td.checkN n = 0 → Td.groups (Td.all 1000 1 n) = [] → f = true := fun h1 h2 => by
          rw [HF.out, List.take_of_length_le (by rw [HL.out]; exact Nat.le_refl _), List.all_eq_true]
          exact fun m hm => by rw [Td.parts_ok n HFIT.out h1 h2 m hm]; rfl
        have HNE := Lib.hid (HN.out.kept HBW.out)
        have HXE := Lib.hid ((HBW.out.block _ HS2.out).trans HX.out)
        have HBE := Lib.hid (HB.out.trans (HBW.out.mono HB.out.size))
        have hw1 : IntKind.i64.wrap ((d : Int) + 1) = ((d + 1 : Nat) : Int) := by rw [IntKind.wrap_i64]; omega
        obtain ⟨N, hN⟩ : ∃ N, (Td.all 1000 1 n).length = N := ⟨_, rfl⟩
        obtain ⟨D, hD⟩ : ∃ D, Td.dep 1001 n = D := ⟨_, rfl⟩
        obtain ⟨K, hK⟩ : ∃ K, Td.checkN n = K := ⟨_, rfl⟩
        obtain ⟨T, hT⟩ : ∃ T, Td.groups (Td.all 1000 1 n) = T := ⟨_, rfl⟩
        rw [hN] at hs2
        rw [hD] at hd2
        rw [hK, hT] at hf2
        have E1 := Lib.hid (trSize_any wr n _ HNE.out HSM.out)
        rw [hN] at E1
        have HHD := Lib.hid hD
        have HHK := Lib.hid hK
        have HHT := Lib.hid hT
        subst hs2
        subst hd2
        clear hN hD hK hT b7 HS HD HF
        have b0 := blkc HXE.out 0
        have b1 := blkc HXE.out 1
        have b2 := blkc HXE.out 2
        have b3 := blkc HXE.out 3
        have b4 := blkc HXE.out 4
        have b5 := blkc HXE.out 5
        have b6 := blkc HXE.out 6
        have b7 := blkc HXE.out 7
        simp only [List.getElem?_toArray, List.getElem?_cons_zero, List.getElem?_cons_succ] at b0 b1 b2 b3 b4 b5 b6 b7
        go_wp2_with fail
        refine E1.out.mono ?_
        rintro e x1 ⟨rfl, hb⟩
        replace HNE := Lib.hid (HNE.out.kept hb)
        replace HXE := Lib.hid ((hb.block _ (Array.getElem?_eq_some_iff.1 HXE.out).1).trans HXE.out)
        replace HBE := Lib.hid (HBE.out.trans (hb.mono HBE.out.size))
        clear hb E1 b0 b1 b2 b3 b4 b5 b6 b7
        have b0 := blkc HXE.out 0
        have b1 := blkc HXE.out 1
        have b2 := blkc HXE.out 2
        have b3 := blkc HXE.out 3
        have b4 := blkc HXE.out 4
        have b5 := blkc HXE.out 5
        have b6 := blkc HXE.out 6
        have b7 := blkc HXE.out 7
        simp only [List.getElem?_toArray, List.getElem?_cons_zero, List.getElem?_cons_succ] at b0 b1 b2 b3 b4 b5 b6 b7
        go_wp2_with fail
        refine (trDepth_any x1 n _ HNE.out).mono ?_
        rintro e x2 ⟨rfl, hb⟩
        rw [HHD.out]
        replace HNE := Lib.hid (HNE.out.kept hb)
        replace HXE := Lib.hid ((hb.block _ (Array.getElem?_eq_some_iff.1 HXE.out).1).trans HXE.out)
        replace HBE := Lib.hid (HBE.out.trans (hb.mono HBE.out.size))
        clear hb b0 b1 b2 b3 b4 b5 b6 b7
        have b0 := blkc HXE.out 0
        have b1 := blkc HXE.out 1
        have b2 := blkc HXE.out 2
        have b3 := blkc HXE.out 3
        have b4 := blkc HXE.out 4
        have b5 := blkc HXE.out 5
        have b6 := blkc HXE.out 6
        have b7 := blkc HXE.out 7
        simp only [List.getElem?_toArray, List.getElem?_cons_zero, List.getElem?_cons_succ] at b0 b1 b2 b3 b4 b5 b6 b7
        go_wp2_with fail
        refine (trCheck_any x2 n _ HNE.out HSM.out).mono ?_
        rintro e x3 ⟨rfl, hb⟩
        rw [HHK.out]
        replace HNE := Lib.hid (HNE.out.kept hb)
        replace HXE := Lib.hid ((hb.block _ (Array.getElem?_eq_some_iff.1 HXE.out).1).trans HXE.out)
        replace HBE := Lib.hid (HBE.out.trans (hb.mono HBE.out.size))
        clear hb b0 b1 b2 b3 b4 b5 b6 b7
        by_cases k0 : K = 0
        · have b0 := blkc HXE.out 0
          have b1 := blkc HXE.out 1
          have b2 := blkc HXE.out 2
          have b3 := blkc HXE.out 3
          have b4 := blkc HXE.out 4
          have b5 := blkc HXE.out 5
          have b6 := blkc HXE.out 6
          have b7 := blkc HXE.out 7
          simp only [List.getElem?_toArray, List.getElem?_cons_zero, List.getElem?_cons_succ] at b0 b1 b2 b3 b4 b5 b6 b7
          go_wp2_with fail
          refine (trGroups_any x3 n _ HNE.out HSM.out).mono ?_
          rintro e x4 ⟨v4, rfl, ht, hb⟩
          rw [HHT.out] at ht
          obtain ⟨a9, c9, rfl⟩ := ht.slice
          replace HNE := Lib.hid (HNE.out.kept hb)
          replace HXE := Lib.hid ((hb.block _ (Array.getElem?_eq_some_iff.1 HXE.out).1).trans HXE.out)
          replace HBE := Lib.hid (HBE.out.trans (hb.mono HBE.out.size))
          clear hb ht b0 b1 b2 b3 b4 b5 b6 b7
          by_cases t0 : T.length = 0
          · have hft := hf2 k0 (List.eq_nil_of_length_eq_zero t0)
            subst hft
            clear hf2
            go_wp2
            all_goals go_ret
            all_goals exact ⟨by simp, HBE.out⟩
          · have t1 : (0 : Int) < (T.length : Int) := by omega
            clear hf2
            go_wp2
            go_ret
            exact ⟨rfl, HBE.out⟩
        · clear hf2
          go_wp2
          go_ret
          exact ⟨rfl, HBE.out⟩
end Go.Proofs.Ythhijakclinjaaa
