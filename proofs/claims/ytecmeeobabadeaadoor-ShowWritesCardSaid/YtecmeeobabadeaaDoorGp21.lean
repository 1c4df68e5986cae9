/- The reference's show (burinref10): Text of a node with parts; the whole. -/
import Derived.Test.YtecmeeobabadeaaDoorGp20
namespace Go.Proofs.YtecmeeobabadeaaDoor
open Go.RowKit
set_option linter.unusedVariables false
theorem wrapT (b : Bool) (x : List Int) : Sh.wrapL b x = (if b then [40, 63, 58] else []) ++ (x ++ (if b then [41] else [])) := by
  cases b
  · simp [Sh.wrapL]
  · simp [Sh.wrapL]
theorem take_flat {f : Nd → List Int} (l : List Nd) (i : Nat) (m : Nd) (h : l[i]? = some m) : (l.take (i + 1)).flatMap f = (l.take i).flatMap f ++ f m := by
  obtain ⟨hi, rfl⟩ := List.getElem?_eq_some_iff.1 h
  rw [List.take_succ_eq_append_getElem hi, List.flatMap_append]
  simp
theorem take_alt {f : Nd → List Int} (l : List Nd) (i : Nat) (m : Nd) (h : l[i]? = some m) : Sh.altL ((l.take (i + 1)).map f) = Sh.altL ((l.take i).map f) ++ ((if 0 < i then [124] else []) ++ f m) := by
  obtain ⟨hi, rfl⟩ := List.getElem?_eq_some_iff.1 h
  rw [List.take_succ_eq_append_getElem hi, List.map_append]
  cases i with
  | zero => simp [Sh.altL]
  | succ i =>
    rw [if_pos (by omega)]
    have hne : (l.take (i + 1)).map f ≠ [] := by
      intro e
      have := congrArg List.length e
      rw [List.length_map, List.length_take, List.length_nil] at this
      omega
    exact Sh.altL_snoc (f l[i + 1]) _ hne
theorem sub_all {k d : Nat} {n m : Nd} (h : (Td.all (k + 1) d n).length ≤ 1000000) (hm : m ∈ Td.subs n) : (Td.all k (d + 1) m).length ≤ 1000000 := by
  rw [Td.all, List.length_cons, all_flat_len] at h
  have : ∀ (l : List Nd), m ∈ l → (Td.all k (d + 1) m).length ≤ (l.map (fun m => (Td.all k (d + 1) m).length)).sum := by
    intro l
    induction l with
    | nil => intro h; cases h
    | cons x l ih =>
      intro h
      rw [List.map_cons, List.sum_cons]
      rcases List.mem_cons.1 h with rfl | h
      · omega
      · have := ih h; omega
  have := this _ hm
  omega
theorem wrap_ge (b : Bool) (x : List Int) : x.length ≤ (Sh.wrapL b x).length := by
  rw [wrapT]
  simp only [List.length_append]
  omega
set_option maxRecDepth 100000 in
set_option maxHeartbeats 8000000 in
theorem text_7 (k : Nat) (ih : TextOk k) (W : World) (n : Nd) (cs : List Value) (most : Int) (d : Nat) (hn : NdIs W n cs) (hf : FitZ (k + 1) n) (hz : (Td.all (k + 1) d n).length ≤ 1000000) (hm : 0 ≤ most ∧ most ≤ 4096) (hk : Td.kind n = 7) :
    Calls Tryd.prog 13 #[.agg cs.toArray, .int .i64 most] W fun e w' => ∃ T : ByteArray, e = .returned (.string T) ∧ TxQ most (Sh.shL (k + 1) n) T ∧ Below W.heap.size W w' := by
  have m0 : ¬ most < 0 := by omega
  have hfit := hf.1
  have hfn := fitN_of hfit
  have hlen2 := sh_short (k + 1) d n hf
  have hsub := hf.2
  obtain ⟨vs, a, cap, C, hC⟩ := hn.cells
  have hcs := hC.eq
  subst hcs
  obtain ⟨N, hN⟩ : ∃ N, (Td.subs n).length = N := ⟨_, rfl⟩
  rw [hN, hk]
  obtain ⟨P, hP⟩ : ∃ P : Nat → List Int, P = fun i => ((Td.subs n).take i).flatMap (Sh.partL k 7) := ⟨_, rfl⟩
  have hP0 : P 0 = [] := by rw [hP]; rfl
  have hPS : ∀ i m, (Td.subs n)[i]? = some m → P (i + 1) = P i ++ (([] : List Int) ++ Sh.wrapL (Sh.wrapB 7 (Td.kind m)) (Sh.shL k m)) := fun i m h => by
    rw [hP]
    exact take_flat (f := Sh.partL k 7) _ i m h
  have hend : Sh.shL (k + 1) n = P N := by
    rw [hP]
    dsimp only
    rw [List.take_of_length_le (by omega), Sh.shL, hk]; rfl
  have hPle : ∀ i, (P i).length ≤ 30000000000000 := fun i => by
    have h1 : (P i).length ≤ ((Td.subs n).flatMap (Sh.partL k 7)).length := by rw [hP]; exact flat_take_le _ _ i
    have h2 : ((Td.subs n).flatMap (Sh.partL k 7)).length = (Sh.shL (k + 1) n).length := by
      rw [hend, hP]
      dsimp only
      rw [List.take_of_length_le (by omega)]
    omega
  have HP0 := Lib.hid hP0
  have HPS := Lib.hid hPS
  have HPL := Lib.hid hPle
  have HEND := Lib.hid hend
  have HC := Lib.hid hC.sub
  have HNN := Lib.hid hN
  have hnlen := hC.len
  rw [hN] at hnlen
  have HNC := Lib.hid hn
  have IH := Lib.hid (fun (w : World) (m : Nd) (ds : List Value) (mo : Int) (hm : m ∈ Td.subs n) (hnd : NdIs w m ds) (h : -100000000000000 ≤ mo ∧ mo ≤ 4096) => ih w m ds mo (d + 1) hnd (hsub m hm) (sub_all hz hm) h)
  obtain ⟨W1, hW1⟩ : ∃ W1, W.alloc (.cells #[.int .i64 7, vs, .int .i64 (Td.num n), .string (Td.name n), .int .i64 (Td.mn n), .int .i64 (Td.mx n), .bool (Td.lazy n), .slice a N cap] 25) = W1 := ⟨_, rfl⟩
  have B1 : Hid (Below W.heap.size W W1) := Lib.hid (by rw [← hW1]; exact (Below.refl _ _).alloc (Nat.le_refl _) _)
  have q0 : W1.cell? ⟨W.heap.size, 0, none⟩ = some (.int .i64 7) := by rw [← hW1]; simp
  have q7 : W1.cell? ⟨W.heap.size, 7, none⟩ = some (.slice a N cap) := by rw [← hW1]; simp
  have hs1 : W1.heap.size = W.heap.size + 1 := by rw [← hW1]; simp
  have HW1 := Lib.hid hW1
  have HQ0 := Lib.hid q0
  have HQ7 := Lib.hid q7
  have h09 : W.heap.size < W1.heap.size := by omega
  clear hC hn hN hf hz hfn hsub hlen2 hfit ih hk hP hP0 hPS hPle hend hW1
  go_enter Tryd.func13, Tryd.ntmps13
  go_wp2
  rw [HW1.out]
  go_loopw [7, 8] (fun sv iv wr => ∃ (i : Nat) (S : ByteArray), i ≤ N ∧ sv = .string S ∧ iv = .int .i64 (i : Int) ∧ Hid (TxQ most (P i) S) ∧ Hid (Below W1.heap.size W1 wr)) (fun _ iv _ => N - (intOf iv).toNat)
  case atStart => exact ⟨0, ⟨#[]⟩, Nat.zero_le _, rfl, rfl, Lib.hid (TxQ.of (by rw [HP0.out]; rfl)), Lib.hid (Below.refl _ _)⟩
  case round =>
    obtain ⟨i, S, hi, rfl, rfl, HS, HBW⟩ := hrel
    have hss : S.size ≤ 30000000000000 := Nat.le_trans HS.out.short (HPL.out i)
    have hsz := HBW.out.size
    have h0r : W.heap.size < wr.heap.size := by omega
    have q0r := (HBW.out.cell (p := ⟨W.heap.size, 0, none⟩) h09).trans HQ0.out
    have q7r := (HBW.out.cell (p := ⟨W.heap.size, 7, none⟩) h09).trans HQ7.out
    clear q0 q7
    by_cases hlt : i < N
    · obtain ⟨b, off, m, u0, u1, u2, u3, u4, u5, u6, u7, rfl, hb, hmm, hnd, c0, c1, c2, c3, c4, c5, c6, c7⟩ := HC.out i (by rw [HNN.out]; exact hlt)
      have hbw : Below W.heap.size W wr := B1.out.trans (HBW.out.mono B1.out.size)
      have HMM := Lib.hid hmm
      have HPN := Lib.hid (HPS.out i m hmm)
      have hmem : m ∈ Td.subs n := List.mem_of_getElem? hmm
      have HND := Lib.hid (hnd.kept hbw)
      obtain ⟨f1, f2, f3, f4, F1⟩ := hnd.form
      obtain ⟨rfl, rfl, rfl, rfl, rfl, rfl, rfl, rfl⟩ := F1
      replace c0 := (hbw.cell (p := ⟨b, off + i * 8, none⟩) hb).trans c0
      replace c1 := (hbw.cell (p := ⟨b, off + i * 8 + 1, none⟩) hb).trans c1
      replace c2 := (hbw.cell (p := ⟨b, off + i * 8 + 2, none⟩) hb).trans c2
      replace c3 := (hbw.cell (p := ⟨b, off + i * 8 + 3, none⟩) hb).trans c3
      replace c4 := (hbw.cell (p := ⟨b, off + i * 8 + 4, none⟩) hb).trans c4
      replace c5 := (hbw.cell (p := ⟨b, off + i * 8 + 5, none⟩) hb).trans c5
      replace c6 := (hbw.cell (p := ⟨b, off + i * 8 + 6, none⟩) hb).trans c6
      replace c7 := (hbw.cell (p := ⟨b, off + i * 8 + 7, none⟩) hb).trans c7
      have hbr : b < wr.heap.size := Nat.lt_of_lt_of_le hb hbw.size
      have HBX := Lib.hid hbw
      obtain ⟨j, hj⟩ : ∃ j, Td.kind m = j := ⟨_, rfl⟩
      have HJ := Lib.hid hj
      have HCL := Lib.hid (IH.out wr m _ (most - (S.size : Int)) hmem HND.out ⟨by omega, by omega⟩)
      have ws : IntKind.i64.wrap (most - (S.size : Int)) = most - (S.size : Int) := by rw [IntKind.wrap_i64]; omega
      rw [hj] at c0 HCL HPN
      clear hmm hnd hbw hb hmem hj
      go_wp2_with fail
      refine HCL.out.mono ?_
      rintro e w2 ⟨t, rfl, ht, hb2⟩
      have HT := Lib.hid ht
      have hts : t.size ≤ 30000000000000 := by
        have h9 := HPL.out (i + 1)
        rw [HPN.out] at h9
        simp only [List.length_append] at h9
        have h8 := ht.short
        have h7 := wrap_ge (Sh.wrapB 7 j) (Sh.shL k m)
        omega
      have HB2 := Lib.hid (HBW.out.trans (hb2.mono hsz))
      have hs2 := hb2.size
      have h02 : W.heap.size < w2.heap.size := by omega
      have p0 := (hb2.cell (p := ⟨W.heap.size, 0, none⟩) h0r).trans q0r
      have p7 := (hb2.cell (p := ⟨W.heap.size, 7, none⟩) h0r).trans q7r
      clear hb2 ht q0r q7r c0 c1 c2 c3 c4 c5 c6 c7
      by_cases j8 : j = 8
      · have HW : Hid (Sh.wrapB 7 j = true) := Lib.hid (by rw [j8]; rfl)
        obtain rfl : j = 8 := j8
        have n1 : ¬ 9223372036854775807 < 3 + t.size := by omega
        have n2 : ¬ 9223372036854775807 < 3 + t.size + 1 := by omega
        have hz1 : ((⟨#[40, 63, 58]⟩ : ByteArray) ++ t).size = 3 + t.size := ByteArray.size_append ..
        have n3 : ¬ 9223372036854775807 < ((⟨#[40, 63, 58]⟩ : ByteArray) ++ t).size + 1 := by omega
        have hz2 : (((⟨#[40, 63, 58]⟩ : ByteArray) ++ t) ++ (⟨#[41]⟩ : ByteArray)).size = 3 + t.size + 1 := by rw [ByteArray.size_append, hz1]; rfl
        obtain ⟨V, hV⟩ : ∃ V, ((⟨#[40, 63, 58]⟩ : ByteArray) ++ t) ++ (⟨#[41]⟩ : ByteArray) = V := ⟨_, rfl⟩
        have hVn : Utf.nums V = [40, 63, 58] ++ (Utf.nums t ++ [41]) := by rw [← hV, Br.nums_append', Br.nums_append', List.append_assoc]; rfl
        rw [hV] at hz2
        have m1 : ¬ 9223372036854775807 < S.size + (3 + t.size + 1) := by omega
        have m3 : ¬ 9223372036854775807 < S.size + 1 + (3 + t.size + 1) := by omega
        have m2 : ¬ 9223372036854775807 < S.size + V.size := by omega
        have m0 : ¬ 9223372036854775807 < S.size + 1 := by omega
        have m4 : ¬ 9223372036854775807 < S.size + 1 + V.size := by omega
        have hz3 : (S ++ (⟨#[124]⟩ : ByteArray)).size = S.size + 1 := ByteArray.size_append ..
        have m5 : ¬ 9223372036854775807 < (S ++ (⟨#[124]⟩ : ByteArray)).size + V.size := by omega
        have m6 : ¬ 9223372036854775807 < (S ++ (⟨#[124]⟩ : ByteArray)).size + (3 + t.size + 1) := by omega
        have HVN := Lib.hid hVn
        have HV := Lib.hid hV
        have HNX : Hid (TxQ most (P (i + 1)) (S ++ V)) := Lib.hid (by
          rw [HPN.out]
          rw [wrapT, HW.out]
          have h9 := TxQ.step (T := (S ++ V)) HS.out HT.out [40, 63, 58] [41] (by
            rw [Br.nums_append', hVn]
            try simp)
          simpa using h9)
        clear hVn hz3 hz1
        clear hV
        go_wp2
        all_goals
          rw [HV.out]
          first
            | exact ⟨⟨i + 1, _, by omega, rfl, by go_num, HNX, HB2⟩, by simp [intOf]; omega⟩
            | (go_roundw
               case rel => exact ⟨i + 1, _, by omega, rfl, by go_num, HNX, HB2⟩
               case measure => simp [intOf]; omega)
      by_cases j7 : j = 7
      · have HW : Hid (Sh.wrapB 7 j = true) := Lib.hid (by rw [j7]; rfl)
        obtain rfl : j = 7 := j7
        have n1 : ¬ 9223372036854775807 < 3 + t.size := by omega
        have n2 : ¬ 9223372036854775807 < 3 + t.size + 1 := by omega
        have hz1 : ((⟨#[40, 63, 58]⟩ : ByteArray) ++ t).size = 3 + t.size := ByteArray.size_append ..
        have n3 : ¬ 9223372036854775807 < ((⟨#[40, 63, 58]⟩ : ByteArray) ++ t).size + 1 := by omega
        have hz2 : (((⟨#[40, 63, 58]⟩ : ByteArray) ++ t) ++ (⟨#[41]⟩ : ByteArray)).size = 3 + t.size + 1 := by rw [ByteArray.size_append, hz1]; rfl
        obtain ⟨V, hV⟩ : ∃ V, ((⟨#[40, 63, 58]⟩ : ByteArray) ++ t) ++ (⟨#[41]⟩ : ByteArray) = V := ⟨_, rfl⟩
        have hVn : Utf.nums V = [40, 63, 58] ++ (Utf.nums t ++ [41]) := by rw [← hV, Br.nums_append', Br.nums_append', List.append_assoc]; rfl
        rw [hV] at hz2
        have m1 : ¬ 9223372036854775807 < S.size + (3 + t.size + 1) := by omega
        have m3 : ¬ 9223372036854775807 < S.size + 1 + (3 + t.size + 1) := by omega
        have m2 : ¬ 9223372036854775807 < S.size + V.size := by omega
        have m0 : ¬ 9223372036854775807 < S.size + 1 := by omega
        have m4 : ¬ 9223372036854775807 < S.size + 1 + V.size := by omega
        have hz3 : (S ++ (⟨#[124]⟩ : ByteArray)).size = S.size + 1 := ByteArray.size_append ..
        have m5 : ¬ 9223372036854775807 < (S ++ (⟨#[124]⟩ : ByteArray)).size + V.size := by omega
        have m6 : ¬ 9223372036854775807 < (S ++ (⟨#[124]⟩ : ByteArray)).size + (3 + t.size + 1) := by omega
        have HVN := Lib.hid hVn
        have HV := Lib.hid hV
        have HNX : Hid (TxQ most (P (i + 1)) (S ++ V)) := Lib.hid (by
          rw [HPN.out]
          rw [wrapT, HW.out]
          have h9 := TxQ.step (T := (S ++ V)) HS.out HT.out [40, 63, 58] [41] (by
            rw [Br.nums_append', hVn]
            try simp)
          simpa using h9)
        clear hVn hz3 hz1
        clear hV
        go_wp2
        all_goals
          rw [HV.out]
          first
            | exact ⟨⟨i + 1, _, by omega, rfl, by go_num, HNX, HB2⟩, by simp [intOf]; omega⟩
            | (go_roundw
               case rel => exact ⟨i + 1, _, by omega, rfl, by go_num, HNX, HB2⟩
               case measure => simp [intOf]; omega)
      by_cases j9 : j = 9
      · have HW : Hid (Sh.wrapB 7 j = false) := Lib.hid (by rw [j9]; rfl)
        obtain rfl : j = 9 := j9
        obtain ⟨V, hV⟩ : ∃ V, t = V := ⟨_, rfl⟩
        have hVn : Utf.nums V = [] ++ (Utf.nums t ++ []) := by rw [← hV]; simp
        have hz2 : V.size = t.size := by rw [hV]
        have m1 : ¬ 9223372036854775807 < S.size + t.size := by omega
        have m3 : ¬ 9223372036854775807 < S.size + 1 + t.size := by omega
        have m2 : ¬ 9223372036854775807 < S.size + V.size := by omega
        have m0 : ¬ 9223372036854775807 < S.size + 1 := by omega
        have m4 : ¬ 9223372036854775807 < S.size + 1 + V.size := by omega
        have hz3 : (S ++ (⟨#[124]⟩ : ByteArray)).size = S.size + 1 := ByteArray.size_append ..
        have m5 : ¬ 9223372036854775807 < (S ++ (⟨#[124]⟩ : ByteArray)).size + V.size := by omega
        have m6 : ¬ 9223372036854775807 < (S ++ (⟨#[124]⟩ : ByteArray)).size + t.size := by omega
        have HVN := Lib.hid hVn
        have HV := Lib.hid hV
        have HNX : Hid (TxQ most (P (i + 1)) (S ++ V)) := Lib.hid (by
          rw [HPN.out]
          rw [wrapT, HW.out]
          have h9 := TxQ.step (T := (S ++ V)) HS.out HT.out [] [] (by
            rw [Br.nums_append', hVn]
            try simp)
          simpa using h9)
        clear hVn hz3
        rw [← HV.out] at HNX
        clear hV
        go_wp2
        all_goals
          first
            | exact ⟨⟨i + 1, _, by omega, rfl, by go_num, HNX, HB2⟩, by simp [intOf]; omega⟩
            | (go_roundw
               case rel => exact ⟨i + 1, _, by omega, rfl, by go_num, HNX, HB2⟩
               case measure => simp [intOf]; omega)
      have HW : Hid (Sh.wrapB 7 j = false) := Lib.hid (by unfold Sh.wrapB; simp [j7, j8, j9])
      obtain ⟨V, hV⟩ : ∃ V, t = V := ⟨_, rfl⟩
      have hVn : Utf.nums V = [] ++ (Utf.nums t ++ []) := by rw [← hV]; simp
      have hz2 : V.size = t.size := by rw [hV]
      have m1 : ¬ 9223372036854775807 < S.size + t.size := by omega
      have m3 : ¬ 9223372036854775807 < S.size + 1 + t.size := by omega
      have m2 : ¬ 9223372036854775807 < S.size + V.size := by omega
      have m0 : ¬ 9223372036854775807 < S.size + 1 := by omega
      have m4 : ¬ 9223372036854775807 < S.size + 1 + V.size := by omega
      have hz3 : (S ++ (⟨#[124]⟩ : ByteArray)).size = S.size + 1 := ByteArray.size_append ..
      have m5 : ¬ 9223372036854775807 < (S ++ (⟨#[124]⟩ : ByteArray)).size + V.size := by omega
      have m6 : ¬ 9223372036854775807 < (S ++ (⟨#[124]⟩ : ByteArray)).size + t.size := by omega
      have HVN := Lib.hid hVn
      have HV := Lib.hid hV
      have HNX : Hid (TxQ most (P (i + 1)) (S ++ V)) := Lib.hid (by
        rw [HPN.out]
        rw [wrapT, HW.out]
        have h9 := TxQ.step (T := (S ++ V)) HS.out HT.out [] [] (by
          rw [Br.nums_append', hVn]
          try simp)
        simpa using h9)
      clear hVn hz3
      rw [← HV.out] at HNX
      clear hV
      go_wp2
      all_goals
        first
          | exact ⟨⟨i + 1, _, by omega, rfl, by go_num, HNX, HB2⟩, by simp [intOf]; omega⟩
          | (go_roundw
             case rel => exact ⟨i + 1, _, by omega, rfl, by go_num, HNX, HB2⟩
             case measure => simp [intOf]; omega)
    · obtain rfl : i = N := by omega
      have HBE := Lib.hid (B1.out.trans (HBW.out.mono B1.out.size))
      have HFN : Hid (TxQ most (Sh.shL (k + 1) n) S) := Lib.hid (by rw [HEND.out]; exact HS.out)
      go_wp2
      go_ret
      exact ⟨_, rfl, HFN.out, HBE.out⟩
set_option maxRecDepth 100000 in
set_option maxHeartbeats 8000000 in
theorem text_8 (k : Nat) (ih : TextOk k) (W : World) (n : Nd) (cs : List Value) (most : Int) (d : Nat) (hn : NdIs W n cs) (hf : FitZ (k + 1) n) (hz : (Td.all (k + 1) d n).length ≤ 1000000) (hm : 0 ≤ most ∧ most ≤ 4096) (hk : Td.kind n = 8) :
    Calls Tryd.prog 13 #[.agg cs.toArray, .int .i64 most] W fun e w' => ∃ T : ByteArray, e = .returned (.string T) ∧ TxQ most (Sh.shL (k + 1) n) T ∧ Below W.heap.size W w' := by
  have m0 : ¬ most < 0 := by omega
  have hfit := hf.1
  have hfn := fitN_of hfit
  have hlen2 := sh_short (k + 1) d n hf
  have hsub := hf.2
  obtain ⟨vs, a, cap, C, hC⟩ := hn.cells
  have hcs := hC.eq
  subst hcs
  obtain ⟨N, hN⟩ : ∃ N, (Td.subs n).length = N := ⟨_, rfl⟩
  rw [hN, hk]
  obtain ⟨P, hP⟩ : ∃ P : Nat → List Int, P = fun i => Sh.altL (((Td.subs n).take i).map (Sh.partL k 8)) := ⟨_, rfl⟩
  have hP0 : P 0 = [] := by rw [hP]; rfl
  have hPS : ∀ i m, (Td.subs n)[i]? = some m → P (i + 1) = P i ++ ((if 0 < i then [124] else []) ++ Sh.wrapL (Sh.wrapB 8 (Td.kind m)) (Sh.shL k m)) := fun i m h => by
    rw [hP]
    exact take_alt (f := Sh.partL k 8) _ i m h
  have hend : Sh.shL (k + 1) n = P N := by
    rw [hP]
    dsimp only
    rw [List.take_of_length_le (by omega), Sh.shL, hk]; rfl
  have hPle : ∀ i, (P i).length ≤ 30000000000000 := fun i => by
    have h1 : (P i).length ≤ (Sh.altL ((Td.subs n).map (Sh.partL k 8))).length := by rw [hP]; exact alt_take_le _ _ i
    have h2 : (Sh.altL ((Td.subs n).map (Sh.partL k 8))).length = (Sh.shL (k + 1) n).length := by
      rw [hend, hP]
      dsimp only
      rw [List.take_of_length_le (by omega)]
    omega
  have HP0 := Lib.hid hP0
  have HPS := Lib.hid hPS
  have HPL := Lib.hid hPle
  have HEND := Lib.hid hend
  have HC := Lib.hid hC.sub
  have HNN := Lib.hid hN
  have hnlen := hC.len
  rw [hN] at hnlen
  have HNC := Lib.hid hn
  have IH := Lib.hid (fun (w : World) (m : Nd) (ds : List Value) (mo : Int) (hm : m ∈ Td.subs n) (hnd : NdIs w m ds) (h : -100000000000000 ≤ mo ∧ mo ≤ 4096) => ih w m ds mo (d + 1) hnd (hsub m hm) (sub_all hz hm) h)
  obtain ⟨W1, hW1⟩ : ∃ W1, W.alloc (.cells #[.int .i64 8, vs, .int .i64 (Td.num n), .string (Td.name n), .int .i64 (Td.mn n), .int .i64 (Td.mx n), .bool (Td.lazy n), .slice a N cap] 25) = W1 := ⟨_, rfl⟩
  have B1 : Hid (Below W.heap.size W W1) := Lib.hid (by rw [← hW1]; exact (Below.refl _ _).alloc (Nat.le_refl _) _)
  have q0 : W1.cell? ⟨W.heap.size, 0, none⟩ = some (.int .i64 8) := by rw [← hW1]; simp
  have q7 : W1.cell? ⟨W.heap.size, 7, none⟩ = some (.slice a N cap) := by rw [← hW1]; simp
  have hs1 : W1.heap.size = W.heap.size + 1 := by rw [← hW1]; simp
  have HW1 := Lib.hid hW1
  have HQ0 := Lib.hid q0
  have HQ7 := Lib.hid q7
  have h09 : W.heap.size < W1.heap.size := by omega
  clear hC hn hN hf hz hfn hsub hlen2 hfit ih hk hP hP0 hPS hPle hend hW1
  go_enter Tryd.func13, Tryd.ntmps13
  go_wp2
  rw [HW1.out]
  go_loopw [7, 8] (fun sv iv wr => ∃ (i : Nat) (S : ByteArray), i ≤ N ∧ sv = .string S ∧ iv = .int .i64 (i : Int) ∧ Hid (TxQ most (P i) S) ∧ Hid (Below W1.heap.size W1 wr)) (fun _ iv _ => N - (intOf iv).toNat)
  case atStart => exact ⟨0, ⟨#[]⟩, Nat.zero_le _, rfl, rfl, Lib.hid (TxQ.of (by rw [HP0.out]; rfl)), Lib.hid (Below.refl _ _)⟩
  case round =>
    obtain ⟨i, S, hi, rfl, rfl, HS, HBW⟩ := hrel
    have hss : S.size ≤ 30000000000000 := Nat.le_trans HS.out.short (HPL.out i)
    have hsz := HBW.out.size
    have h0r : W.heap.size < wr.heap.size := by omega
    have q0r := (HBW.out.cell (p := ⟨W.heap.size, 0, none⟩) h09).trans HQ0.out
    have q7r := (HBW.out.cell (p := ⟨W.heap.size, 7, none⟩) h09).trans HQ7.out
    clear q0 q7
    by_cases hlt : i < N
    · obtain ⟨b, off, m, u0, u1, u2, u3, u4, u5, u6, u7, rfl, hb, hmm, hnd, c0, c1, c2, c3, c4, c5, c6, c7⟩ := HC.out i (by rw [HNN.out]; exact hlt)
      have hbw : Below W.heap.size W wr := B1.out.trans (HBW.out.mono B1.out.size)
      have HMM := Lib.hid hmm
      have HPN := Lib.hid (HPS.out i m hmm)
      have hmem : m ∈ Td.subs n := List.mem_of_getElem? hmm
      have HND := Lib.hid (hnd.kept hbw)
      obtain ⟨f1, f2, f3, f4, F1⟩ := hnd.form
      obtain ⟨rfl, rfl, rfl, rfl, rfl, rfl, rfl, rfl⟩ := F1
      replace c0 := (hbw.cell (p := ⟨b, off + i * 8, none⟩) hb).trans c0
      replace c1 := (hbw.cell (p := ⟨b, off + i * 8 + 1, none⟩) hb).trans c1
      replace c2 := (hbw.cell (p := ⟨b, off + i * 8 + 2, none⟩) hb).trans c2
      replace c3 := (hbw.cell (p := ⟨b, off + i * 8 + 3, none⟩) hb).trans c3
      replace c4 := (hbw.cell (p := ⟨b, off + i * 8 + 4, none⟩) hb).trans c4
      replace c5 := (hbw.cell (p := ⟨b, off + i * 8 + 5, none⟩) hb).trans c5
      replace c6 := (hbw.cell (p := ⟨b, off + i * 8 + 6, none⟩) hb).trans c6
      replace c7 := (hbw.cell (p := ⟨b, off + i * 8 + 7, none⟩) hb).trans c7
      have hbr : b < wr.heap.size := Nat.lt_of_lt_of_le hb hbw.size
      have HBX := Lib.hid hbw
      obtain ⟨j, hj⟩ : ∃ j, Td.kind m = j := ⟨_, rfl⟩
      have HJ := Lib.hid hj
      have HCL := Lib.hid (IH.out wr m _ (most - (S.size : Int)) hmem HND.out ⟨by omega, by omega⟩)
      have ws : IntKind.i64.wrap (most - (S.size : Int)) = most - (S.size : Int) := by rw [IntKind.wrap_i64]; omega
      rw [hj] at c0 HCL HPN
      clear hmm hnd hbw hb hmem hj
      go_wp2_with fail
      refine HCL.out.mono ?_
      rintro e w2 ⟨t, rfl, ht, hb2⟩
      have HT := Lib.hid ht
      have hts : t.size ≤ 30000000000000 := by
        have h9 := HPL.out (i + 1)
        rw [HPN.out] at h9
        simp only [List.length_append] at h9
        have h8 := ht.short
        have h7 := wrap_ge (Sh.wrapB 8 j) (Sh.shL k m)
        omega
      have HB2 := Lib.hid (HBW.out.trans (hb2.mono hsz))
      have hs2 := hb2.size
      have h02 : W.heap.size < w2.heap.size := by omega
      have p0 := (hb2.cell (p := ⟨W.heap.size, 0, none⟩) h0r).trans q0r
      have p7 := (hb2.cell (p := ⟨W.heap.size, 7, none⟩) h0r).trans q7r
      clear hb2 ht q0r q7r c0 c1 c2 c3 c4 c5 c6 c7
      by_cases hi0 : 0 < i
      · have hi1 : (0 : Int) < (i : Int) := by omega
        by_cases j8 : j = 8
        · have HW : Hid (Sh.wrapB 8 j = true) := Lib.hid (by rw [j8]; rfl)
          obtain rfl : j = 8 := j8
          have n1 : ¬ 9223372036854775807 < 3 + t.size := by omega
          have n2 : ¬ 9223372036854775807 < 3 + t.size + 1 := by omega
          have hz1 : ((⟨#[40, 63, 58]⟩ : ByteArray) ++ t).size = 3 + t.size := ByteArray.size_append ..
          have n3 : ¬ 9223372036854775807 < ((⟨#[40, 63, 58]⟩ : ByteArray) ++ t).size + 1 := by omega
          have hz2 : (((⟨#[40, 63, 58]⟩ : ByteArray) ++ t) ++ (⟨#[41]⟩ : ByteArray)).size = 3 + t.size + 1 := by rw [ByteArray.size_append, hz1]; rfl
          obtain ⟨V, hV⟩ : ∃ V, ((⟨#[40, 63, 58]⟩ : ByteArray) ++ t) ++ (⟨#[41]⟩ : ByteArray) = V := ⟨_, rfl⟩
          have hVn : Utf.nums V = [40, 63, 58] ++ (Utf.nums t ++ [41]) := by rw [← hV, Br.nums_append', Br.nums_append', List.append_assoc]; rfl
          rw [hV] at hz2
          have m1 : ¬ 9223372036854775807 < S.size + (3 + t.size + 1) := by omega
          have m3 : ¬ 9223372036854775807 < S.size + 1 + (3 + t.size + 1) := by omega
          have m2 : ¬ 9223372036854775807 < S.size + V.size := by omega
          have m0 : ¬ 9223372036854775807 < S.size + 1 := by omega
          have m4 : ¬ 9223372036854775807 < S.size + 1 + V.size := by omega
          have hz3 : (S ++ (⟨#[124]⟩ : ByteArray)).size = S.size + 1 := ByteArray.size_append ..
          have m5 : ¬ 9223372036854775807 < (S ++ (⟨#[124]⟩ : ByteArray)).size + V.size := by omega
          have m6 : ¬ 9223372036854775807 < (S ++ (⟨#[124]⟩ : ByteArray)).size + (3 + t.size + 1) := by omega
          have HVN := Lib.hid hVn
          have HV := Lib.hid hV
          have HNX : Hid (TxQ most (P (i + 1)) ((S ++ (⟨#[124]⟩ : ByteArray)) ++ V)) := Lib.hid (by
            rw [HPN.out]
            rw [if_pos (by omega)]
            rw [wrapT, HW.out]
            have h9 := TxQ.step (T := ((S ++ (⟨#[124]⟩ : ByteArray)) ++ V)) HS.out HT.out [124, 40, 63, 58] [41] (by
              rw [Br.nums_append', Br.nums_append', hVn]
              show _ ++ [124] ++ _ = _
              try simp)
            simpa using h9)
          clear hVn hz3 hz1
          clear hV
          go_wp2
          all_goals
            rw [HV.out]
            first
              | exact ⟨⟨i + 1, _, by omega, rfl, by go_num, HNX, HB2⟩, by simp [intOf]; omega⟩
              | (go_roundw
                 case rel => exact ⟨i + 1, _, by omega, rfl, by go_num, HNX, HB2⟩
                 case measure => simp [intOf]; omega)
        by_cases j7 : j = 7
        · have HW : Hid (Sh.wrapB 8 j = false) := Lib.hid (by rw [j7]; rfl)
          obtain rfl : j = 7 := j7
          obtain ⟨V, hV⟩ : ∃ V, t = V := ⟨_, rfl⟩
          have hVn : Utf.nums V = [] ++ (Utf.nums t ++ []) := by rw [← hV]; simp
          have hz2 : V.size = t.size := by rw [hV]
          have m1 : ¬ 9223372036854775807 < S.size + t.size := by omega
          have m3 : ¬ 9223372036854775807 < S.size + 1 + t.size := by omega
          have m2 : ¬ 9223372036854775807 < S.size + V.size := by omega
          have m0 : ¬ 9223372036854775807 < S.size + 1 := by omega
          have m4 : ¬ 9223372036854775807 < S.size + 1 + V.size := by omega
          have hz3 : (S ++ (⟨#[124]⟩ : ByteArray)).size = S.size + 1 := ByteArray.size_append ..
          have m5 : ¬ 9223372036854775807 < (S ++ (⟨#[124]⟩ : ByteArray)).size + V.size := by omega
          have m6 : ¬ 9223372036854775807 < (S ++ (⟨#[124]⟩ : ByteArray)).size + t.size := by omega
          have HVN := Lib.hid hVn
          have HV := Lib.hid hV
          have HNX : Hid (TxQ most (P (i + 1)) ((S ++ (⟨#[124]⟩ : ByteArray)) ++ V)) := Lib.hid (by
            rw [HPN.out]
            rw [if_pos (by omega)]
            rw [wrapT, HW.out]
            have h9 := TxQ.step (T := ((S ++ (⟨#[124]⟩ : ByteArray)) ++ V)) HS.out HT.out [124] [] (by
              rw [Br.nums_append', Br.nums_append', hVn]
              show _ ++ [124] ++ _ = _
              try simp)
            simpa using h9)
          clear hVn hz3
          rw [← HV.out] at HNX
          clear hV
          go_wp2
          all_goals
            first
              | exact ⟨⟨i + 1, _, by omega, rfl, by go_num, HNX, HB2⟩, by simp [intOf]; omega⟩
              | (go_roundw
                 case rel => exact ⟨i + 1, _, by omega, rfl, by go_num, HNX, HB2⟩
                 case measure => simp [intOf]; omega)
        by_cases j9 : j = 9
        · have HW : Hid (Sh.wrapB 8 j = false) := Lib.hid (by rw [j9]; rfl)
          obtain rfl : j = 9 := j9
          obtain ⟨V, hV⟩ : ∃ V, t = V := ⟨_, rfl⟩
          have hVn : Utf.nums V = [] ++ (Utf.nums t ++ []) := by rw [← hV]; simp
          have hz2 : V.size = t.size := by rw [hV]
          have m1 : ¬ 9223372036854775807 < S.size + t.size := by omega
          have m3 : ¬ 9223372036854775807 < S.size + 1 + t.size := by omega
          have m2 : ¬ 9223372036854775807 < S.size + V.size := by omega
          have m0 : ¬ 9223372036854775807 < S.size + 1 := by omega
          have m4 : ¬ 9223372036854775807 < S.size + 1 + V.size := by omega
          have hz3 : (S ++ (⟨#[124]⟩ : ByteArray)).size = S.size + 1 := ByteArray.size_append ..
          have m5 : ¬ 9223372036854775807 < (S ++ (⟨#[124]⟩ : ByteArray)).size + V.size := by omega
          have m6 : ¬ 9223372036854775807 < (S ++ (⟨#[124]⟩ : ByteArray)).size + t.size := by omega
          have HVN := Lib.hid hVn
          have HV := Lib.hid hV
          have HNX : Hid (TxQ most (P (i + 1)) ((S ++ (⟨#[124]⟩ : ByteArray)) ++ V)) := Lib.hid (by
            rw [HPN.out]
            rw [if_pos (by omega)]
            rw [wrapT, HW.out]
            have h9 := TxQ.step (T := ((S ++ (⟨#[124]⟩ : ByteArray)) ++ V)) HS.out HT.out [124] [] (by
              rw [Br.nums_append', Br.nums_append', hVn]
              show _ ++ [124] ++ _ = _
              try simp)
            simpa using h9)
          clear hVn hz3
          rw [← HV.out] at HNX
          clear hV
          go_wp2
          all_goals
            first
              | exact ⟨⟨i + 1, _, by omega, rfl, by go_num, HNX, HB2⟩, by simp [intOf]; omega⟩
              | (go_roundw
                 case rel => exact ⟨i + 1, _, by omega, rfl, by go_num, HNX, HB2⟩
                 case measure => simp [intOf]; omega)
        have HW : Hid (Sh.wrapB 8 j = false) := Lib.hid (by unfold Sh.wrapB; simp [j7, j8, j9])
        obtain ⟨V, hV⟩ : ∃ V, t = V := ⟨_, rfl⟩
        have hVn : Utf.nums V = [] ++ (Utf.nums t ++ []) := by rw [← hV]; simp
        have hz2 : V.size = t.size := by rw [hV]
        have m1 : ¬ 9223372036854775807 < S.size + t.size := by omega
        have m3 : ¬ 9223372036854775807 < S.size + 1 + t.size := by omega
        have m2 : ¬ 9223372036854775807 < S.size + V.size := by omega
        have m0 : ¬ 9223372036854775807 < S.size + 1 := by omega
        have m4 : ¬ 9223372036854775807 < S.size + 1 + V.size := by omega
        have hz3 : (S ++ (⟨#[124]⟩ : ByteArray)).size = S.size + 1 := ByteArray.size_append ..
        have m5 : ¬ 9223372036854775807 < (S ++ (⟨#[124]⟩ : ByteArray)).size + V.size := by omega
        have m6 : ¬ 9223372036854775807 < (S ++ (⟨#[124]⟩ : ByteArray)).size + t.size := by omega
        have HVN := Lib.hid hVn
        have HV := Lib.hid hV
        have HNX : Hid (TxQ most (P (i + 1)) ((S ++ (⟨#[124]⟩ : ByteArray)) ++ V)) := Lib.hid (by
          rw [HPN.out]
          rw [if_pos (by omega)]
          rw [wrapT, HW.out]
          have h9 := TxQ.step (T := ((S ++ (⟨#[124]⟩ : ByteArray)) ++ V)) HS.out HT.out [124] [] (by
            rw [Br.nums_append', Br.nums_append', hVn]
            show _ ++ [124] ++ _ = _
            try simp)
          simpa using h9)
        clear hVn hz3
        rw [← HV.out] at HNX
        clear hV
        go_wp2
        all_goals
          first
            | exact ⟨⟨i + 1, _, by omega, rfl, by go_num, HNX, HB2⟩, by simp [intOf]; omega⟩
            | (go_roundw
               case rel => exact ⟨i + 1, _, by omega, rfl, by go_num, HNX, HB2⟩
               case measure => simp [intOf]; omega)
      · have hi1 : ¬ (0 : Int) < (i : Int) := by omega
        by_cases j8 : j = 8
        · have HW : Hid (Sh.wrapB 8 j = true) := Lib.hid (by rw [j8]; rfl)
          obtain rfl : j = 8 := j8
          have n1 : ¬ 9223372036854775807 < 3 + t.size := by omega
          have n2 : ¬ 9223372036854775807 < 3 + t.size + 1 := by omega
          have hz1 : ((⟨#[40, 63, 58]⟩ : ByteArray) ++ t).size = 3 + t.size := ByteArray.size_append ..
          have n3 : ¬ 9223372036854775807 < ((⟨#[40, 63, 58]⟩ : ByteArray) ++ t).size + 1 := by omega
          have hz2 : (((⟨#[40, 63, 58]⟩ : ByteArray) ++ t) ++ (⟨#[41]⟩ : ByteArray)).size = 3 + t.size + 1 := by rw [ByteArray.size_append, hz1]; rfl
          obtain ⟨V, hV⟩ : ∃ V, ((⟨#[40, 63, 58]⟩ : ByteArray) ++ t) ++ (⟨#[41]⟩ : ByteArray) = V := ⟨_, rfl⟩
          have hVn : Utf.nums V = [40, 63, 58] ++ (Utf.nums t ++ [41]) := by rw [← hV, Br.nums_append', Br.nums_append', List.append_assoc]; rfl
          rw [hV] at hz2
          have m1 : ¬ 9223372036854775807 < S.size + (3 + t.size + 1) := by omega
          have m3 : ¬ 9223372036854775807 < S.size + 1 + (3 + t.size + 1) := by omega
          have m2 : ¬ 9223372036854775807 < S.size + V.size := by omega
          have m0 : ¬ 9223372036854775807 < S.size + 1 := by omega
          have m4 : ¬ 9223372036854775807 < S.size + 1 + V.size := by omega
          have hz3 : (S ++ (⟨#[124]⟩ : ByteArray)).size = S.size + 1 := ByteArray.size_append ..
          have m5 : ¬ 9223372036854775807 < (S ++ (⟨#[124]⟩ : ByteArray)).size + V.size := by omega
          have m6 : ¬ 9223372036854775807 < (S ++ (⟨#[124]⟩ : ByteArray)).size + (3 + t.size + 1) := by omega
          have HVN := Lib.hid hVn
          have HV := Lib.hid hV
          have HNX : Hid (TxQ most (P (i + 1)) (S ++ V)) := Lib.hid (by
            rw [HPN.out]
            rw [if_neg (by omega)]
            rw [wrapT, HW.out]
            have h9 := TxQ.step (T := (S ++ V)) HS.out HT.out [40, 63, 58] [41] (by
              rw [Br.nums_append', hVn]
              try simp)
            simpa using h9)
          clear hVn hz3 hz1
          clear hV
          go_wp2
          all_goals
            rw [HV.out]
            first
              | exact ⟨⟨i + 1, _, by omega, rfl, by go_num, HNX, HB2⟩, by simp [intOf]; omega⟩
              | (go_roundw
                 case rel => exact ⟨i + 1, _, by omega, rfl, by go_num, HNX, HB2⟩
                 case measure => simp [intOf]; omega)
        by_cases j7 : j = 7
        · have HW : Hid (Sh.wrapB 8 j = false) := Lib.hid (by rw [j7]; rfl)
          obtain rfl : j = 7 := j7
          obtain ⟨V, hV⟩ : ∃ V, t = V := ⟨_, rfl⟩
          have hVn : Utf.nums V = [] ++ (Utf.nums t ++ []) := by rw [← hV]; simp
          have hz2 : V.size = t.size := by rw [hV]
          have m1 : ¬ 9223372036854775807 < S.size + t.size := by omega
          have m3 : ¬ 9223372036854775807 < S.size + 1 + t.size := by omega
          have m2 : ¬ 9223372036854775807 < S.size + V.size := by omega
          have m0 : ¬ 9223372036854775807 < S.size + 1 := by omega
          have m4 : ¬ 9223372036854775807 < S.size + 1 + V.size := by omega
          have hz3 : (S ++ (⟨#[124]⟩ : ByteArray)).size = S.size + 1 := ByteArray.size_append ..
          have m5 : ¬ 9223372036854775807 < (S ++ (⟨#[124]⟩ : ByteArray)).size + V.size := by omega
          have m6 : ¬ 9223372036854775807 < (S ++ (⟨#[124]⟩ : ByteArray)).size + t.size := by omega
          have HVN := Lib.hid hVn
          have HV := Lib.hid hV
          have HNX : Hid (TxQ most (P (i + 1)) (S ++ V)) := Lib.hid (by
            rw [HPN.out]
            rw [if_neg (by omega)]
            rw [wrapT, HW.out]
            have h9 := TxQ.step (T := (S ++ V)) HS.out HT.out [] [] (by
              rw [Br.nums_append', hVn]
              try simp)
            simpa using h9)
          clear hVn hz3
          rw [← HV.out] at HNX
          clear hV
          go_wp2
          all_goals
            first
              | exact ⟨⟨i + 1, _, by omega, rfl, by go_num, HNX, HB2⟩, by simp [intOf]; omega⟩
              | (go_roundw
                 case rel => exact ⟨i + 1, _, by omega, rfl, by go_num, HNX, HB2⟩
                 case measure => simp [intOf]; omega)
        by_cases j9 : j = 9
        · have HW : Hid (Sh.wrapB 8 j = false) := Lib.hid (by rw [j9]; rfl)
          obtain rfl : j = 9 := j9
          obtain ⟨V, hV⟩ : ∃ V, t = V := ⟨_, rfl⟩
          have hVn : Utf.nums V = [] ++ (Utf.nums t ++ []) := by rw [← hV]; simp
          have hz2 : V.size = t.size := by rw [hV]
          have m1 : ¬ 9223372036854775807 < S.size + t.size := by omega
          have m3 : ¬ 9223372036854775807 < S.size + 1 + t.size := by omega
          have m2 : ¬ 9223372036854775807 < S.size + V.size := by omega
          have m0 : ¬ 9223372036854775807 < S.size + 1 := by omega
          have m4 : ¬ 9223372036854775807 < S.size + 1 + V.size := by omega
          have hz3 : (S ++ (⟨#[124]⟩ : ByteArray)).size = S.size + 1 := ByteArray.size_append ..
          have m5 : ¬ 9223372036854775807 < (S ++ (⟨#[124]⟩ : ByteArray)).size + V.size := by omega
          have m6 : ¬ 9223372036854775807 < (S ++ (⟨#[124]⟩ : ByteArray)).size + t.size := by omega
          have HVN := Lib.hid hVn
          have HV := Lib.hid hV
          have HNX : Hid (TxQ most (P (i + 1)) (S ++ V)) := Lib.hid (by
            rw [HPN.out]
            rw [if_neg (by omega)]
            rw [wrapT, HW.out]
            have h9 := TxQ.step (T := (S ++ V)) HS.out HT.out [] [] (by
              rw [Br.nums_append', hVn]
              try simp)
            simpa using h9)
          clear hVn hz3
          rw [← HV.out] at HNX
          clear hV
          go_wp2
          all_goals
            first
              | exact ⟨⟨i + 1, _, by omega, rfl, by go_num, HNX, HB2⟩, by simp [intOf]; omega⟩
              | (go_roundw
                 case rel => exact ⟨i + 1, _, by omega, rfl, by go_num, HNX, HB2⟩
                 case measure => simp [intOf]; omega)
        have HW : Hid (Sh.wrapB 8 j = false) := Lib.hid (by unfold Sh.wrapB; simp [j7, j8, j9])
        obtain ⟨V, hV⟩ : ∃ V, t = V := ⟨_, rfl⟩
        have hVn : Utf.nums V = [] ++ (Utf.nums t ++ []) := by rw [← hV]; simp
        have hz2 : V.size = t.size := by rw [hV]
        have m1 : ¬ 9223372036854775807 < S.size + t.size := by omega
        have m3 : ¬ 9223372036854775807 < S.size + 1 + t.size := by omega
        have m2 : ¬ 9223372036854775807 < S.size + V.size := by omega
        have m0 : ¬ 9223372036854775807 < S.size + 1 := by omega
        have m4 : ¬ 9223372036854775807 < S.size + 1 + V.size := by omega
        have hz3 : (S ++ (⟨#[124]⟩ : ByteArray)).size = S.size + 1 := ByteArray.size_append ..
        have m5 : ¬ 9223372036854775807 < (S ++ (⟨#[124]⟩ : ByteArray)).size + V.size := by omega
        have m6 : ¬ 9223372036854775807 < (S ++ (⟨#[124]⟩ : ByteArray)).size + t.size := by omega
        have HVN := Lib.hid hVn
        have HV := Lib.hid hV
        have HNX : Hid (TxQ most (P (i + 1)) (S ++ V)) := Lib.hid (by
          rw [HPN.out]
          rw [if_neg (by omega)]
          rw [wrapT, HW.out]
          have h9 := TxQ.step (T := (S ++ V)) HS.out HT.out [] [] (by
            rw [Br.nums_append', hVn]
            try simp)
          simpa using h9)
        clear hVn hz3
        rw [← HV.out] at HNX
        clear hV
        go_wp2
        all_goals
          first
            | exact ⟨⟨i + 1, _, by omega, rfl, by go_num, HNX, HB2⟩, by simp [intOf]; omega⟩
            | (go_roundw
               case rel => exact ⟨i + 1, _, by omega, rfl, by go_num, HNX, HB2⟩
               case measure => simp [intOf]; omega)
    · obtain rfl : i = N := by omega
      have HBE := Lib.hid (B1.out.trans (HBW.out.mono B1.out.size))
      have HFN : Hid (TxQ most (Sh.shL (k + 1) n) S) := Lib.hid (by rw [HEND.out]; exact HS.out)
      go_wp2
      go_ret
      exact ⟨_, rfl, HFN.out, HBE.out⟩
set_option maxRecDepth 100000 in
set_option maxHeartbeats 8000000 in
theorem text_9 (k : Nat) (ih : TextOk k) (W : World) (n : Nd) (cs : List Value) (most : Int) (d : Nat) (hn : NdIs W n cs) (hf : FitZ (k + 1) n) (hz : (Td.all (k + 1) d n).length ≤ 1000000) (hm : 0 ≤ most ∧ most ≤ 4096) (hk : Td.kind n = 9) :
    Calls Tryd.prog 13 #[.agg cs.toArray, .int .i64 most] W fun e w' => ∃ T : ByteArray, e = .returned (.string T) ∧ TxQ most (Sh.shL (k + 1) n) T ∧ Below W.heap.size W w' := by
  have m0 : ¬ most < 0 := by omega
  have hfit := hf.1
  have hfn := fitN_of hfit
  have hlen2 := sh_short (k + 1) d n hf
  have hsub := hf.2
  obtain ⟨vs, a, cap, C, hC⟩ := hn.cells
  have hcs := hC.eq
  subst hcs
  obtain ⟨N, hN⟩ : ∃ N, (Td.subs n).length = N := ⟨_, rfl⟩
  rw [hN, hk]
  obtain ⟨P, hP⟩ : ∃ P : Nat → List Int, P = fun i => ((Td.subs n).take i).flatMap (Sh.partL k 9) := ⟨_, rfl⟩
  have hP0 : P 0 = [] := by rw [hP]; rfl
  have hPS : ∀ i m, (Td.subs n)[i]? = some m → P (i + 1) = P i ++ (([] : List Int) ++ Sh.wrapL (Sh.wrapB 9 (Td.kind m)) (Sh.shL k m)) := fun i m h => by
    rw [hP]
    exact take_flat (f := Sh.partL k 9) _ i m h
  have hend : Sh.shL (k + 1) n = P N ++ Sh.timesL (Td.mn n) (Td.mx n) (Td.lazy n) := by
    rw [hP]
    dsimp only
    rw [List.take_of_length_le (by omega), Sh.shL, hk]; rfl
  have hPle : ∀ i, (P i).length ≤ 30000000000000 := fun i => by
    have h1 : (P i).length ≤ ((Td.subs n).flatMap (Sh.partL k 9)).length := by rw [hP]; exact flat_take_le _ _ i
    have h2 : ((Td.subs n).flatMap (Sh.partL k 9)).length ≤ (Sh.shL (k + 1) n).length := by
      rw [hend, hP]
      dsimp only
      rw [List.take_of_length_le (by omega), List.length_append]; omega
    omega
  have HP0 := Lib.hid hP0
  have HPS := Lib.hid hPS
  have HPL := Lib.hid hPle
  have HEND := Lib.hid hend
  have HC := Lib.hid hC.sub
  have HNN := Lib.hid hN
  have hnlen := hC.len
  rw [hN] at hnlen
  have HNC := Lib.hid hn
  have IH := Lib.hid (fun (w : World) (m : Nd) (ds : List Value) (mo : Int) (hm : m ∈ Td.subs n) (hnd : NdIs w m ds) (h : -100000000000000 ≤ mo ∧ mo ≤ 4096) => ih w m ds mo (d + 1) hnd (hsub m hm) (sub_all hz hm) h)
  have HTM := Lib.hid (fun (w : World) (hw : Below W.heap.size W w) => timesR_any w n _ (hn.kept hw) (hfn.rep hk).2)
  rw [hN, hk] at HTM
  have HTZ := Lib.hid (count_short (hfn.rep hk).2.1 (hfn.rep hk).2.2.1 (hfn.rep hk).2.2.2 (Td.lazy n))
  have hN1 := (hfn.rep hk).1
  rw [hN] at hN1
  have HN1 := Lib.hid hN1
  clear hN1
  obtain ⟨W1, hW1⟩ : ∃ W1, W.alloc (.cells #[.int .i64 9, vs, .int .i64 (Td.num n), .string (Td.name n), .int .i64 (Td.mn n), .int .i64 (Td.mx n), .bool (Td.lazy n), .slice a N cap] 25) = W1 := ⟨_, rfl⟩
  have B1 : Hid (Below W.heap.size W W1) := Lib.hid (by rw [← hW1]; exact (Below.refl _ _).alloc (Nat.le_refl _) _)
  have q0 : W1.cell? ⟨W.heap.size, 0, none⟩ = some (.int .i64 9) := by rw [← hW1]; simp
  have q1 : W1.cell? ⟨W.heap.size, 1, none⟩ = some (vs) := by rw [← hW1]; simp
  have q2 : W1.cell? ⟨W.heap.size, 2, none⟩ = some (.int .i64 (Td.num n)) := by rw [← hW1]; simp
  have q3 : W1.cell? ⟨W.heap.size, 3, none⟩ = some (.string (Td.name n)) := by rw [← hW1]; simp
  have q4 : W1.cell? ⟨W.heap.size, 4, none⟩ = some (.int .i64 (Td.mn n)) := by rw [← hW1]; simp
  have q5 : W1.cell? ⟨W.heap.size, 5, none⟩ = some (.int .i64 (Td.mx n)) := by rw [← hW1]; simp
  have q6 : W1.cell? ⟨W.heap.size, 6, none⟩ = some (.bool (Td.lazy n)) := by rw [← hW1]; simp
  have q7 : W1.cell? ⟨W.heap.size, 7, none⟩ = some (.slice a N cap) := by rw [← hW1]; simp
  have hs1 : W1.heap.size = W.heap.size + 1 := by rw [← hW1]; simp
  have HW1 := Lib.hid hW1
  have HQ0 := Lib.hid q0
  have HQ1 := Lib.hid q1
  have HQ2 := Lib.hid q2
  have HQ3 := Lib.hid q3
  have HQ4 := Lib.hid q4
  have HQ5 := Lib.hid q5
  have HQ6 := Lib.hid q6
  have HQ7 := Lib.hid q7
  have h09 : W.heap.size < W1.heap.size := by omega
  clear hC hn hN hf hz hfn hsub hlen2 hfit ih hk hP hP0 hPS hPle hend hW1
  go_enter Tryd.func13, Tryd.ntmps13
  go_wp2
  rw [HW1.out]
  go_loopw [7, 8] (fun sv iv wr => ∃ (i : Nat) (S : ByteArray), i ≤ N ∧ sv = .string S ∧ iv = .int .i64 (i : Int) ∧ Hid (TxQ most (P i) S) ∧ Hid (Below W1.heap.size W1 wr)) (fun _ iv _ => N - (intOf iv).toNat)
  case atStart => exact ⟨0, ⟨#[]⟩, Nat.zero_le _, rfl, rfl, Lib.hid (TxQ.of (by rw [HP0.out]; rfl)), Lib.hid (Below.refl _ _)⟩
  case round =>
    obtain ⟨i, S, hi, rfl, rfl, HS, HBW⟩ := hrel
    have hss : S.size ≤ 30000000000000 := Nat.le_trans HS.out.short (HPL.out i)
    have hsz := HBW.out.size
    have h0r : W.heap.size < wr.heap.size := by omega
    have q0r := (HBW.out.cell (p := ⟨W.heap.size, 0, none⟩) h09).trans HQ0.out
    have q1r := (HBW.out.cell (p := ⟨W.heap.size, 1, none⟩) h09).trans HQ1.out
    have q2r := (HBW.out.cell (p := ⟨W.heap.size, 2, none⟩) h09).trans HQ2.out
    have q3r := (HBW.out.cell (p := ⟨W.heap.size, 3, none⟩) h09).trans HQ3.out
    have q4r := (HBW.out.cell (p := ⟨W.heap.size, 4, none⟩) h09).trans HQ4.out
    have q5r := (HBW.out.cell (p := ⟨W.heap.size, 5, none⟩) h09).trans HQ5.out
    have q6r := (HBW.out.cell (p := ⟨W.heap.size, 6, none⟩) h09).trans HQ6.out
    have q7r := (HBW.out.cell (p := ⟨W.heap.size, 7, none⟩) h09).trans HQ7.out
    clear q0 q1 q2 q3 q4 q5 q6 q7
    by_cases hlt : i < N
    · obtain ⟨b, off, m, u0, u1, u2, u3, u4, u5, u6, u7, rfl, hb, hmm, hnd, c0, c1, c2, c3, c4, c5, c6, c7⟩ := HC.out i (by rw [HNN.out]; exact hlt)
      have hbw : Below W.heap.size W wr := B1.out.trans (HBW.out.mono B1.out.size)
      have HMM := Lib.hid hmm
      have HPN := Lib.hid (HPS.out i m hmm)
      have hmem : m ∈ Td.subs n := List.mem_of_getElem? hmm
      have HND := Lib.hid (hnd.kept hbw)
      obtain ⟨f1, f2, f3, f4, F1⟩ := hnd.form
      obtain ⟨rfl, rfl, rfl, rfl, rfl, rfl, rfl, rfl⟩ := F1
      replace c0 := (hbw.cell (p := ⟨b, off + i * 8, none⟩) hb).trans c0
      replace c1 := (hbw.cell (p := ⟨b, off + i * 8 + 1, none⟩) hb).trans c1
      replace c2 := (hbw.cell (p := ⟨b, off + i * 8 + 2, none⟩) hb).trans c2
      replace c3 := (hbw.cell (p := ⟨b, off + i * 8 + 3, none⟩) hb).trans c3
      replace c4 := (hbw.cell (p := ⟨b, off + i * 8 + 4, none⟩) hb).trans c4
      replace c5 := (hbw.cell (p := ⟨b, off + i * 8 + 5, none⟩) hb).trans c5
      replace c6 := (hbw.cell (p := ⟨b, off + i * 8 + 6, none⟩) hb).trans c6
      replace c7 := (hbw.cell (p := ⟨b, off + i * 8 + 7, none⟩) hb).trans c7
      have hbr : b < wr.heap.size := Nat.lt_of_lt_of_le hb hbw.size
      have HBX := Lib.hid hbw
      obtain ⟨j, hj⟩ : ∃ j, Td.kind m = j := ⟨_, rfl⟩
      have HJ := Lib.hid hj
      have HCL := Lib.hid (IH.out wr m _ (most - (S.size : Int)) hmem HND.out ⟨by omega, by omega⟩)
      have ws : IntKind.i64.wrap (most - (S.size : Int)) = most - (S.size : Int) := by rw [IntKind.wrap_i64]; omega
      rw [hj] at c0 HCL HPN
      clear hmm hnd hbw hb hmem hj
      go_wp2_with fail
      refine HCL.out.mono ?_
      rintro e w2 ⟨t, rfl, ht, hb2⟩
      have HT := Lib.hid ht
      have hts : t.size ≤ 30000000000000 := by
        have h9 := HPL.out (i + 1)
        rw [HPN.out] at h9
        simp only [List.length_append] at h9
        have h8 := ht.short
        have h7 := wrap_ge (Sh.wrapB 9 j) (Sh.shL k m)
        omega
      have HB2 := Lib.hid (HBW.out.trans (hb2.mono hsz))
      have hs2 := hb2.size
      have h02 : W.heap.size < w2.heap.size := by omega
      have p0 := (hb2.cell (p := ⟨W.heap.size, 0, none⟩) h0r).trans q0r
      have p1 := (hb2.cell (p := ⟨W.heap.size, 1, none⟩) h0r).trans q1r
      have p2 := (hb2.cell (p := ⟨W.heap.size, 2, none⟩) h0r).trans q2r
      have p3 := (hb2.cell (p := ⟨W.heap.size, 3, none⟩) h0r).trans q3r
      have p4 := (hb2.cell (p := ⟨W.heap.size, 4, none⟩) h0r).trans q4r
      have p5 := (hb2.cell (p := ⟨W.heap.size, 5, none⟩) h0r).trans q5r
      have p6 := (hb2.cell (p := ⟨W.heap.size, 6, none⟩) h0r).trans q6r
      have p7 := (hb2.cell (p := ⟨W.heap.size, 7, none⟩) h0r).trans q7r
      clear hb2 ht q0r q1r q2r q3r q4r q5r q6r q7r c0 c1 c2 c3 c4 c5 c6 c7
      by_cases j8 : j = 8
      · have HW : Hid (Sh.wrapB 9 j = true) := Lib.hid (by rw [j8]; rfl)
        obtain rfl : j = 8 := j8
        have n1 : ¬ 9223372036854775807 < 3 + t.size := by omega
        have n2 : ¬ 9223372036854775807 < 3 + t.size + 1 := by omega
        have hz1 : ((⟨#[40, 63, 58]⟩ : ByteArray) ++ t).size = 3 + t.size := ByteArray.size_append ..
        have n3 : ¬ 9223372036854775807 < ((⟨#[40, 63, 58]⟩ : ByteArray) ++ t).size + 1 := by omega
        have hz2 : (((⟨#[40, 63, 58]⟩ : ByteArray) ++ t) ++ (⟨#[41]⟩ : ByteArray)).size = 3 + t.size + 1 := by rw [ByteArray.size_append, hz1]; rfl
        obtain ⟨V, hV⟩ : ∃ V, ((⟨#[40, 63, 58]⟩ : ByteArray) ++ t) ++ (⟨#[41]⟩ : ByteArray) = V := ⟨_, rfl⟩
        have hVn : Utf.nums V = [40, 63, 58] ++ (Utf.nums t ++ [41]) := by rw [← hV, Br.nums_append', Br.nums_append', List.append_assoc]; rfl
        rw [hV] at hz2
        have m1 : ¬ 9223372036854775807 < S.size + (3 + t.size + 1) := by omega
        have m3 : ¬ 9223372036854775807 < S.size + 1 + (3 + t.size + 1) := by omega
        have m2 : ¬ 9223372036854775807 < S.size + V.size := by omega
        have m0 : ¬ 9223372036854775807 < S.size + 1 := by omega
        have m4 : ¬ 9223372036854775807 < S.size + 1 + V.size := by omega
        have hz3 : (S ++ (⟨#[124]⟩ : ByteArray)).size = S.size + 1 := ByteArray.size_append ..
        have m5 : ¬ 9223372036854775807 < (S ++ (⟨#[124]⟩ : ByteArray)).size + V.size := by omega
        have m6 : ¬ 9223372036854775807 < (S ++ (⟨#[124]⟩ : ByteArray)).size + (3 + t.size + 1) := by omega
        have HVN := Lib.hid hVn
        have HV := Lib.hid hV
        have HNX : Hid (TxQ most (P (i + 1)) (S ++ V)) := Lib.hid (by
          rw [HPN.out]
          rw [wrapT, HW.out]
          have h9 := TxQ.step (T := (S ++ V)) HS.out HT.out [40, 63, 58] [41] (by
            rw [Br.nums_append', hVn]
            try simp)
          simpa using h9)
        clear hVn hz3 hz1
        clear hV
        go_wp2
        all_goals
          rw [HV.out]
          first
            | exact ⟨⟨i + 1, _, by omega, rfl, by go_num, HNX, HB2⟩, by simp [intOf]; omega⟩
            | (go_roundw
               case rel => exact ⟨i + 1, _, by omega, rfl, by go_num, HNX, HB2⟩
               case measure => simp [intOf]; omega)
      by_cases j7 : j = 7
      · have HW : Hid (Sh.wrapB 9 j = true) := Lib.hid (by rw [j7]; rfl)
        obtain rfl : j = 7 := j7
        have n1 : ¬ 9223372036854775807 < 3 + t.size := by omega
        have n2 : ¬ 9223372036854775807 < 3 + t.size + 1 := by omega
        have hz1 : ((⟨#[40, 63, 58]⟩ : ByteArray) ++ t).size = 3 + t.size := ByteArray.size_append ..
        have n3 : ¬ 9223372036854775807 < ((⟨#[40, 63, 58]⟩ : ByteArray) ++ t).size + 1 := by omega
        have hz2 : (((⟨#[40, 63, 58]⟩ : ByteArray) ++ t) ++ (⟨#[41]⟩ : ByteArray)).size = 3 + t.size + 1 := by rw [ByteArray.size_append, hz1]; rfl
        obtain ⟨V, hV⟩ : ∃ V, ((⟨#[40, 63, 58]⟩ : ByteArray) ++ t) ++ (⟨#[41]⟩ : ByteArray) = V := ⟨_, rfl⟩
        have hVn : Utf.nums V = [40, 63, 58] ++ (Utf.nums t ++ [41]) := by rw [← hV, Br.nums_append', Br.nums_append', List.append_assoc]; rfl
        rw [hV] at hz2
        have m1 : ¬ 9223372036854775807 < S.size + (3 + t.size + 1) := by omega
        have m3 : ¬ 9223372036854775807 < S.size + 1 + (3 + t.size + 1) := by omega
        have m2 : ¬ 9223372036854775807 < S.size + V.size := by omega
        have m0 : ¬ 9223372036854775807 < S.size + 1 := by omega
        have m4 : ¬ 9223372036854775807 < S.size + 1 + V.size := by omega
        have hz3 : (S ++ (⟨#[124]⟩ : ByteArray)).size = S.size + 1 := ByteArray.size_append ..
        have m5 : ¬ 9223372036854775807 < (S ++ (⟨#[124]⟩ : ByteArray)).size + V.size := by omega
        have m6 : ¬ 9223372036854775807 < (S ++ (⟨#[124]⟩ : ByteArray)).size + (3 + t.size + 1) := by omega
        have HVN := Lib.hid hVn
        have HV := Lib.hid hV
        have HNX : Hid (TxQ most (P (i + 1)) (S ++ V)) := Lib.hid (by
          rw [HPN.out]
          rw [wrapT, HW.out]
          have h9 := TxQ.step (T := (S ++ V)) HS.out HT.out [40, 63, 58] [41] (by
            rw [Br.nums_append', hVn]
            try simp)
          simpa using h9)
        clear hVn hz3 hz1
        clear hV
        go_wp2
        all_goals
          rw [HV.out]
          first
            | exact ⟨⟨i + 1, _, by omega, rfl, by go_num, HNX, HB2⟩, by simp [intOf]; omega⟩
            | (go_roundw
               case rel => exact ⟨i + 1, _, by omega, rfl, by go_num, HNX, HB2⟩
               case measure => simp [intOf]; omega)
      by_cases j9 : j = 9
      · have HW : Hid (Sh.wrapB 9 j = true) := Lib.hid (by rw [j9]; rfl)
        obtain rfl : j = 9 := j9
        have n1 : ¬ 9223372036854775807 < 3 + t.size := by omega
        have n2 : ¬ 9223372036854775807 < 3 + t.size + 1 := by omega
        have hz1 : ((⟨#[40, 63, 58]⟩ : ByteArray) ++ t).size = 3 + t.size := ByteArray.size_append ..
        have n3 : ¬ 9223372036854775807 < ((⟨#[40, 63, 58]⟩ : ByteArray) ++ t).size + 1 := by omega
        have hz2 : (((⟨#[40, 63, 58]⟩ : ByteArray) ++ t) ++ (⟨#[41]⟩ : ByteArray)).size = 3 + t.size + 1 := by rw [ByteArray.size_append, hz1]; rfl
        obtain ⟨V, hV⟩ : ∃ V, ((⟨#[40, 63, 58]⟩ : ByteArray) ++ t) ++ (⟨#[41]⟩ : ByteArray) = V := ⟨_, rfl⟩
        have hVn : Utf.nums V = [40, 63, 58] ++ (Utf.nums t ++ [41]) := by rw [← hV, Br.nums_append', Br.nums_append', List.append_assoc]; rfl
        rw [hV] at hz2
        have m1 : ¬ 9223372036854775807 < S.size + (3 + t.size + 1) := by omega
        have m3 : ¬ 9223372036854775807 < S.size + 1 + (3 + t.size + 1) := by omega
        have m2 : ¬ 9223372036854775807 < S.size + V.size := by omega
        have m0 : ¬ 9223372036854775807 < S.size + 1 := by omega
        have m4 : ¬ 9223372036854775807 < S.size + 1 + V.size := by omega
        have hz3 : (S ++ (⟨#[124]⟩ : ByteArray)).size = S.size + 1 := ByteArray.size_append ..
        have m5 : ¬ 9223372036854775807 < (S ++ (⟨#[124]⟩ : ByteArray)).size + V.size := by omega
        have m6 : ¬ 9223372036854775807 < (S ++ (⟨#[124]⟩ : ByteArray)).size + (3 + t.size + 1) := by omega
        have HVN := Lib.hid hVn
        have HV := Lib.hid hV
        have HNX : Hid (TxQ most (P (i + 1)) (S ++ V)) := Lib.hid (by
          rw [HPN.out]
          rw [wrapT, HW.out]
          have h9 := TxQ.step (T := (S ++ V)) HS.out HT.out [40, 63, 58] [41] (by
            rw [Br.nums_append', hVn]
            try simp)
          simpa using h9)
        clear hVn hz3 hz1
        clear hV
        go_wp2
        all_goals
          rw [HV.out]
          first
            | exact ⟨⟨i + 1, _, by omega, rfl, by go_num, HNX, HB2⟩, by simp [intOf]; omega⟩
            | (go_roundw
               case rel => exact ⟨i + 1, _, by omega, rfl, by go_num, HNX, HB2⟩
               case measure => simp [intOf]; omega)
      have HW : Hid (Sh.wrapB 9 j = false) := Lib.hid (by unfold Sh.wrapB; simp [j7, j8, j9])
      obtain ⟨V, hV⟩ : ∃ V, t = V := ⟨_, rfl⟩
      have hVn : Utf.nums V = [] ++ (Utf.nums t ++ []) := by rw [← hV]; simp
      have hz2 : V.size = t.size := by rw [hV]
      have m1 : ¬ 9223372036854775807 < S.size + t.size := by omega
      have m3 : ¬ 9223372036854775807 < S.size + 1 + t.size := by omega
      have m2 : ¬ 9223372036854775807 < S.size + V.size := by omega
      have m0 : ¬ 9223372036854775807 < S.size + 1 := by omega
      have m4 : ¬ 9223372036854775807 < S.size + 1 + V.size := by omega
      have hz3 : (S ++ (⟨#[124]⟩ : ByteArray)).size = S.size + 1 := ByteArray.size_append ..
      have m5 : ¬ 9223372036854775807 < (S ++ (⟨#[124]⟩ : ByteArray)).size + V.size := by omega
      have m6 : ¬ 9223372036854775807 < (S ++ (⟨#[124]⟩ : ByteArray)).size + t.size := by omega
      have HVN := Lib.hid hVn
      have HV := Lib.hid hV
      have HNX : Hid (TxQ most (P (i + 1)) (S ++ V)) := Lib.hid (by
        rw [HPN.out]
        rw [wrapT, HW.out]
        have h9 := TxQ.step (T := (S ++ V)) HS.out HT.out [] [] (by
          rw [Br.nums_append', hVn]
          try simp)
        simpa using h9)
      clear hVn hz3
      rw [← HV.out] at HNX
      clear hV
      go_wp2
      all_goals
        first
          | exact ⟨⟨i + 1, _, by omega, rfl, by go_num, HNX, HB2⟩, by simp [intOf]; omega⟩
          | (go_roundw
             case rel => exact ⟨i + 1, _, by omega, rfl, by go_num, HNX, HB2⟩
             case measure => simp [intOf]; omega)
    · obtain rfl : i = N := by omega
      have HBE := Lib.hid (B1.out.trans (HBW.out.mono B1.out.size))
      go_wp2_with fail
      refine (HTM.out wr HBE.out).mono ?_
      rintro e w2 ⟨t, rfl, ht, hb2⟩
      have hts : t.size ≤ 12 := by rw [← Utf.nums_length, ht]; exact HTZ.out
      have HBF := Lib.hid (HBE.out.trans (hb2.mono HBE.out.size))
      have HFN : Hid (TxQ most (Sh.shL (k + 1) n) (S ++ t)) := Lib.hid (by
        rw [HEND.out]
        have h9 := TxQ.step (T := S ++ t) HS.out (TxQ.of ht) [] [] (by rw [Br.nums_append']; simp)
        simpa using h9)
      have n1 : ¬ 9223372036854775807 < S.size + t.size := by omega
      clear ht hb2 q0r q1r q2r q3r q4r q5r q6r q7r
      go_wp2
      go_ret
      exact ⟨_, rfl, HFN.out, HBF.out⟩
theorem textR_any : ∀ k, TextOk k
  | 0 => fun W n cs most d _ hf => absurd hf id
  | k + 1 => by
    intro W n cs most d hn hf hz hm
    by_cases h0 : most < 0
    · exact text_neg (k + 1) W n cs most hn ⟨hm.1, h0⟩
    have ih := textR_any k
    have hk := (fitN_of hf.1).kind
    have hm' : 0 ≤ most ∧ most ≤ 4096 := ⟨by omega, hm.2⟩
    rcases (show Td.kind n = 1 ∨ Td.kind n = 2 ∨ Td.kind n = 3 ∨ Td.kind n = 4 ∨ Td.kind n = 5 ∨ Td.kind n = 6 ∨ Td.kind n = 7 ∨ Td.kind n = 8 ∨ Td.kind n = 9 by omega) with h | h | h | h | h | h | h | h | h
    · exact text_1 k ih W n cs most d hn hf hz hm' h
    · exact text_2 k ih W n cs most d hn hf hz hm' h
    · exact text_3 k ih W n cs most d hn hf hz hm' h
    · exact text_4 k ih W n cs most d hn hf hz hm' h
    · exact text_5 k ih W n cs most d hn hf hz hm' h
    · exact text_6 k ih W n cs most d hn hf hz hm' h
    · exact text_7 k ih W n cs most d hn hf hz hm' h
    · exact text_8 k ih W n cs most d hn hf hz hm' h
    · exact text_9 k ih W n cs most d hn hf hz hm' h
end Go.Proofs.YtecmeeobabadeaaDoor
