/- The landed norm: repeat. -/
import Derived.Test.YthhdlcckboiecaaGp28
namespace Go.Proofs.Ythhdlcckboiecaa
open Go.RowKit
open Go.Proofs.Ythhdlcckboiecaa.Nm
set_option linter.unusedVariables false
set_option linter.unusedSimpArgs false
/-- The last copy made a repetition: the row as it lies then. -/
theorem rest_lay (lo : Nat) (w4 w8 w9 : World) (g kp : Nat) (x : Nd) (XX : List (List Value)) (y : List Value) (hRC : RowC w4 g (kp + 1) (fun j => XX.getD j [])) (hnds : NdsOn (fun b => lo ≤ b ∧ b < w4.heap.size ∧ b ≠ g) w4 (List.replicate (kp + 1) x) XX) (hy : XX[kp]? = some y)
    (hb : Below w4.heap.size w4 w8) (h : Nat) (hh : w4.heap.size ≤ h) (hlo : lo ≤ w4.heap.size) (hrow : w8.heap[h]? = some (.cells y.toArray 25 (0, 0))) (OV : Int) (hOV : I64 OV) (LZ : Bool) (hw9 : ((((((((w8.setCell ⟨g, kp * 8, none⟩ (.int .i64 9)).setCell ⟨g, kp * 8 + 1, none⟩ (.slice none 0 0)).setCell ⟨g, kp * 8 + 2, none⟩ (.int .i64 0)).setCell ⟨g, kp * 8 + 3, none⟩ (.string ⟨#[]⟩)).setCell ⟨g, kp * 8 + 4, none⟩ (.int .i64 0)).setCell ⟨g, kp * 8 + 5, none⟩ (.int .i64 OV)).setCell ⟨g, kp * 8 + 6, none⟩ (.bool LZ)).setCell ⟨g, kp * 8 + 7, none⟩ (.slice (some ⟨h, 0, none⟩) 1 1)) = w9) :
    ∃ X2, NdsOn (fun b => lo ≤ b ∧ b < w9.heap.size) w9 (List.replicate kp x ++ [.mk 9 [] 0 ⟨#[]⟩ 0 OV LZ [x]]) X2 ∧ (∀ j u, X2.flatten[j]? = some u → w9.cell? ((⟨g, 0, none⟩ : Addr).add j) = some u) ∧ w9.heap.size = w8.heap.size ∧ ∀ b, b ≠ g → w9.heap[b]? = w8.heap[b]? := by
  have hg := hRC.lt
  have hsz : w9.heap.size = w8.heap.size := by rw [← hw9]; simp
  have hkeep : ∀ b, b ≠ g → w9.heap[b]? = w8.heap[b]? := fun b hb => by
    rw [← hw9]
    rw [heap_setCell_other _ _ _ _ (by exact hb), heap_setCell_other _ _ _ _ (by exact hb), heap_setCell_other _ _ _ _ (by exact hb), heap_setCell_other _ _ _ _ (by exact hb), heap_setCell_other _ _ _ _ (by exact hb), heap_setCell_other _ _ _ _ (by exact hb), heap_setCell_other _ _ _ _ (by exact hb), heap_setCell_other _ _ _ _ (by exact hb)]
  have hlen : XX.length = kp + 1 := by rw [hnds.1, List.length_replicate]
  have hF8 : ∀ j, j < kp + 1 → (XX.getD j []).length = 8 := fun j hj => by
    obtain ⟨z, hz, hn⟩ := hnds.2 j (by rw [List.length_replicate]; exact hj)
    rw [List.getD, hz]; exact hn.is.len
  have hR8 := (hRC.kept (hb.block g hg)).set8 hF8 kp (by omega) (.int .i64 9) (.slice none 0 0) (.int .i64 0) (.string ⟨#[]⟩) (.int .i64 0) (.int .i64 OV) (.bool LZ) (.slice (some ⟨h, 0, none⟩) 1 1)
  rw [hw9] at hR8
  have hbs := hb.size
  have hx9 : ∀ j z, XX[j]? = some z → j < kp + 1 → NdOn (fun b => lo ≤ b ∧ b < w9.heap.size) w9 x z := fun j z hz hj => by
    obtain ⟨z', hz', hn⟩ := hnds.2 j (by rw [List.length_replicate]; exact hj)
    rw [hz] at hz'
    rw [List.getElem_replicate] at hn
    rw [Option.some.inj hz']
    exact NdOn.mono (fun b hb => ⟨hb.1, by rw [hsz]; exact Nat.lt_of_lt_of_le hb.2.1 hbs⟩) (NdOn.kept (by rw [hsz]; exact hbs) (fun b hbb hl => (hkeep b hbb.2.2).trans (hb.block b hl)) hn)
  have hrest : NdOn (fun b => lo ≤ b ∧ b < w9.heap.size) w9 (.mk 9 [] 0 ⟨#[]⟩ 0 OV LZ [x]) [.int .i64 9, .slice none 0 0, .int .i64 0, .string ⟨#[]⟩, .int .i64 0, .int .i64 OV, .bool LZ, .slice (some ⟨h, 0, none⟩) 1 1] := by
    have hh9 : w9.heap[h]? = some (.cells y.toArray 25 (0, 0)) := (hkeep h (by omega)).trans hrow
    have hlt : h < w9.heap.size := (Array.getElem?_eq_some_iff.1 hh9).1
    have := NdOn.row (S := fun b => lo ≤ b ∧ b < w9.heap.size) (L := [x]) (X := [y]) ((NdsOn.nil _ _).snoc (hx9 kp y hy (by omega))) (g := h) ⟨by omega, hlt⟩ hh9 (fun j hj => by simp) (by simp) (k := 9) (num := 0) (mn := 0) (mx := OV) (set := []) (name := ⟨#[]⟩) (lz := LZ) (vs := .slice none 0 0) (cap := 1) ⟨by unfold I64; omega, by unfold I64; omega, by unfold I64; omega, hOV⟩ RRowOn.nil (Nat.zero_le _)
    exact this
  obtain ⟨F2, hF2⟩ : ∃ F2 : Nat → List Value, (fun j => if j = kp then [.int .i64 9, .slice none 0 0, .int .i64 0, .string ⟨#[]⟩, .int .i64 0, .int .i64 OV, .bool LZ, .slice (some ⟨h, 0, none⟩) 1 1] else XX.getD j []) = F2 := ⟨_, rfl⟩
  rw [hF2] at hR8
  have hnd2 : NdsOn (fun b => lo ≤ b ∧ b < w9.heap.size) w9 (List.replicate kp x ++ [.mk 9 [] 0 ⟨#[]⟩ 0 OV LZ [x]]) ((List.range (kp + 1)).map F2) := by
    refine ⟨by simp, fun j hj => ?_⟩
    have hj' : j < kp + 1 := by simpa using hj
    refine ⟨F2 j, by simp [hj'], ?_⟩
    by_cases e : j = kp
    · subst e
      have e1 : (List.replicate j x ++ [Nd.mk 9 [] 0 ⟨#[]⟩ 0 OV LZ [x]])[j]'hj = Nd.mk 9 [] 0 ⟨#[]⟩ 0 OV LZ [x] := by simp
      rw [e1, ← hF2]
      simp only [if_pos trivial]
      exact hrest
    · have e1 : (List.replicate kp x ++ [Nd.mk 9 [] 0 ⟨#[]⟩ 0 OV LZ [x]])[j]'hj = x := by
        rw [List.getElem_append_left (by rw [List.length_replicate]; omega), List.getElem_replicate]
      rw [e1, ← hF2]
      simp only [if_neg e]
      have hz : XX[j]? = some (XX.getD j []) := by rw [List.getD, List.getElem?_eq_getElem (by omega)]; rfl
      exact hx9 j _ hz (by omega)
  refine ⟨_, hnd2, fun j u hu => ?_, hsz, hkeep⟩
  obtain ⟨yy, h1, h2⟩ := flat8_inv _ hnd2.is.len8 j u hu (by rw [hnd2.flatLen]; simp)
  have hj8 : j / 8 < kp + 1 := by
    have := (List.getElem?_eq_some_iff.1 h1).1
    simpa using this
  have hc := hR8.cell (j / 8) (j % 8) hj8 (by omega)
  have e1 : F2 (j / 8) = yy := by simpa [hj8] using h1
  rw [e1, h2, show j / 8 * 8 + j % 8 = j by omega] at hc
  rw [Addr.add_lit, Nat.zero_add]
  exact hc
/-- What repeat is asked of its node. -/
structure RepFit (good : Nd → Prop) (f : Nd → Nd) (d : Nat) (n m : Nd) : Prop where
  subs : Td.subs n = [m]
  lo : 0 ≤ Td.mn n ∧ Td.mn n ≤ 1000
  hi : Td.mx n = -1 ∨ Td.mn n ≤ Td.mx n ∧ Td.mx n ≤ 1000
  good : good m
  shal : Shal d (f m)
  cat : Td.kind (f m) = 7 → 0 < (Td.subs (f m)).length
  len : (catL (List.replicate (Td.mn n).toNat (f m))).length ≤ 999998
set_option maxRecDepth 100000 in
set_option maxHeartbeats 8000000 in
theorem repeat_1 (good : Nd → Prop) (f : Nd → Nd) (ih : CoreOk good f) (d : Nat) (W : World) (n m : Nd) (cs : List Value) (hn : NdIs W n cs) (hF : RepFit good f d n m) (hx0 : Td.mx n ≠ 0) :
    Calls Try.prog 37 #[.agg cs.toArray] W fun e w' => ∃ cs' : List Value, e = .returned (.agg cs'.toArray) ∧ NwP (fun b => W.heap.size ≤ b) w' (Nm.repS n (f m)) cs' ∧ Below W.heap.size W w' := by
  have HN := Lib.hid hn
  obtain ⟨vs, a, cap, C, hC⟩ := hn.cells
  obtain ⟨sa, sk, sc, rfl⟩ : ∃ a k c, vs = .slice a k c := by obtain ⟨a, c, h, -⟩ := hC.set; exact ⟨a, _, c, h⟩
  have hcs := hC.eq
  obtain ⟨b, off, m', u0, u1, u2, u3, u4, u5, u6, u7, rfl, hb, hm', hnd, q0, q1, q2, q3, q4, q5, q6, q7⟩ := hC.sub 0 (by rw [hF.subs]; simp)
  rw [hF.subs] at hm' hcs
  obtain rfl : m = m' := by simpa using hm'
  subst hcs
  obtain ⟨f1, f2, f3, f4, F1⟩ := hnd.form
  obtain ⟨rfl, rfl, rfl, rfl, rfl, rfl, rfl, rfl⟩ := F1
  rw [Nat.zero_mul, Nat.add_zero] at q0 q1 q2 q3 q4 q5 q6 q7
  have HC := Lib.hid (fun (w : World) (hw : Below W.heap.size W w) => ih w m _ hF.good (hnd.kept hw))
  have HF := Lib.hid hF
  obtain ⟨x, hx⟩ : ∃ x, f m = x := ⟨_, rfl⟩
  rw [hx] at HC ⊢
  have hlo := hF.lo
  have hhi := hF.hi
  have HS : Hid (Shal d x) := Lib.hid (by rw [← hx]; exact hF.shal)
  have H7 : Hid (Td.kind x = 7 → 0 < (Td.subs x).length) := Lib.hid (by rw [← hx]; exact hF.cat)
  have HL : Hid ((catL (List.replicate (Td.mn n).toNat x)).length ≤ 999998) := Lib.hid (by rw [← hx]; exact hF.len)
  have HOPT := Lib.hid (fun (w : World) (hw : Below W.heap.size W w) => optional_any w n _ (HN.out.kept hw) hlo.1 (by rcases hhi with h | h; exact .inr h; exact .inl h.1))
  have HREP : Hid (repS n x = if Td.kind x = 1 then x else if Td.mx n = Td.mn n then catN (List.replicate (Td.mn n).toNat x) else catN (List.replicate (Td.mn n).toNat x ++ [restN n x])) := Lib.hid (by unfold repS; rw [if_neg hx0])
  have HREST : Hid (restN n x = .mk 9 [] 0 ⟨#[]⟩ 0 (if Td.mx n = -1 then -1 else Td.mx n - Td.mn n) (Td.lazy n) [x]) := Lib.hid rfl
  obtain ⟨R, hR⟩ : ∃ R, repS n x = R := ⟨_, rfl⟩
  rw [hR] at HREP ⊢
  clear hR hF hx hm' hC hnd
  obtain ⟨K, hK⟩ : ∃ K, Td.kind n = K := ⟨_, rfl⟩
  obtain ⟨A, hA⟩ : ∃ A, Td.mn n = A := ⟨_, rfl⟩
  obtain ⟨Z, hZ⟩ : ∃ Z, Td.mx n = Z := ⟨_, rfl⟩
  rw [hA] at HL HREP hlo hhi
  rw [hZ] at HREP hhi hx0
  have HPRE : Hid (Td.mx n = Z ∧ Td.mn n = A) := Lib.hid ⟨hZ, hA⟩
  obtain ⟨W1, hW1⟩ : ∃ W1, (W.alloc (.cells #[.int .i64 K, .slice sa sk sc, .int .i64 (Td.num n), .string (Td.name n), .int .i64 A, .int .i64 Z, .bool (Td.lazy n), .slice (some ⟨b, off, none⟩) 1 cap] 25)).alloc (.cells #[.int .i64 0, .slice none 0 0, .int .i64 0, .string ⟨#[]⟩, .int .i64 0, .int .i64 0, .bool false, .slice none 0 0] 25) = W1 := ⟨_, rfl⟩
  have HB1 : Hid (Below W.heap.size W W1) := Lib.hid (by rw [← hW1]; exact ((Below.refl _ _).alloc (Nat.le_refl _) _).alloc (by simp) _)
  have HX1 : Hid (W1.heap[W.heap.size]? = some (.cells #[.int .i64 K, .slice sa sk sc, .int .i64 (Td.num n), .string (Td.name n), .int .i64 A, .int .i64 Z, .bool (Td.lazy n), .slice (some ⟨b, off, none⟩) 1 cap] 25 (0, 0))) := Lib.hid (by
    rw [← hW1]
    exact (Below.heap_alloc _ _ _ (by simp)).trans (heap_alloc_new _ _))
  have HY1 : Hid (W1.heap[W.heap.size + 1]? = some (.cells #[.int .i64 0, .slice none 0 0, .int .i64 0, .string ⟨#[]⟩, .int .i64 0, .int .i64 0, .bool false, .slice none 0 0] 25 (0, 0))) := Lib.hid (by rw [← hW1]; exact alloc2_new _ _ _)
  have hs1 : W1.heap.size = W.heap.size + 2 := by rw [← hW1]; simp
  simp only [hK, hA, hZ, List.length_singleton] at HOPT ⊢
  have HW1 := Lib.hid hW1
  clear hW1
  clear hK hA hZ HN
  go_enter Try.func37, Try.ntmps37
  go_wp2_with fail
  rw [HW1.out]
  refine (HC.out W1 HB1.out).mono ?_
  rintro e w2 ⟨cs', rfl, hnw, hb2⟩
  have HB2 := Lib.hid (HB1.out.trans (hb2.mono HB1.out.size))
  have HX2 := Lib.hid ((hb2.block _ (by omega)).trans HX1.out)
  have HY2 := Lib.hid ((hb2.block _ (by omega)).trans HY1.out)
  have hs2 := hb2.size
  have HNW := Lib.hid hnw
  obtain ⟨ws, a9, cap9, Y, hxe, hset, -, -⟩ := hnw.parts
  obtain ⟨ta, tk, tc, rfl⟩ : ∃ a k c, ws = .slice a k c := by obtain ⟨a, c, h, -⟩ := hset.1; exact ⟨a, _, c, h⟩
  subst hxe
  obtain ⟨kk, hkk⟩ : ∃ kk, Td.kind x = kk := ⟨_, rfl⟩
  have HKK := Lib.hid hkk
  rw [hkk] at HNW HREP ⊢
  clear hkk
  clear hset hnw hb2 HW1 HC HB1 HX1 HY1 q0 q1 q2 q3 q4 q5 q6 q7
  obtain ⟨W3, hW3⟩ : ∃ W3, w2.alloc (.cells #[.int .i64 kk, .slice ta tk tc, .int .i64 (Td.num x), .string (Td.name x), .int .i64 (Td.mn x), .int .i64 (Td.mx x), .bool (Td.lazy x), .slice a9 (Td.subs x).length cap9] 25) = W3 := ⟨_, rfl⟩
  have hb3 : Below w2.heap.size w2 W3 := by rw [← hW3]; exact (Below.refl _ _).alloc (Nat.le_refl _) _
  have hs3 : W3.heap.size = w2.heap.size + 1 := by rw [← hW3]; simp
  have HB3 := Lib.hid (HB2.out.trans (hb3.mono HB2.out.size))
  have HX3 := Lib.hid ((hb3.block _ (by omega)).trans HX2.out)
  have HY3 := Lib.hid ((hb3.block _ (by omega)).trans HY2.out)
  have HT3 : Hid (W3.heap[w2.heap.size]? = some (.cells #[.int .i64 kk, .slice ta tk tc, .int .i64 (Td.num x), .string (Td.name x), .int .i64 (Td.mn x), .int .i64 (Td.mx x), .bool (Td.lazy x), .slice a9 (Td.subs x).length cap9] 25 (0, 0))) := Lib.hid (by rw [← hW3]; exact heap_alloc_new _ _)
  have HN3 : Hid (NdOn (fun b => W1.heap.size ≤ b ∧ b < W3.heap.size) W3 x [.int .i64 kk, .slice ta tk tc, .int .i64 (Td.num x), .string (Td.name x), .int .i64 (Td.mn x), .int .i64 (Td.mx x), .bool (Td.lazy x), .slice a9 (Td.subs x).length cap9]) := Lib.hid (NdOn.mono (fun b hb => ⟨hb.1, by have := hb.2; omega⟩) (NdOn.kept hb3.size (fun b _ hl => hb3.block b hl) HNW.out))
  have HW3 := Lib.hid hW3
  clear hW3 hb3 HX2 HY2 HB2 HNW
  by_cases kx : kk = 1
  · subst kx
    have HRX : Hid (R = x) := Lib.hid (by rw [HREP.out, if_pos rfl])
    obtain ⟨c0, c1, c2, c3, c4, c5, c6, c7⟩ := nbox_cells HY3.out
    have ff := fun o => nbox_frozen HY3.out o
    rw [← HW3.out] at c0 c1 c2 c3 c4 c5 c6 c7
    simp only [← HW3.out] at ff
    have f0 := ff 0
    have f1 := ff 1
    have f2 := ff 2
    have f3 := ff 3
    have f4 := ff 4
    have f5 := ff 5
    have f6 := ff 6
    have f7 := ff 7
    clear ff
    go_wp2
    (try simp only [Exit.inBlock, Exit.then])
    rw [HW3.out]
    refine ret_ndN rfl (W.heap.size + 1) _ rfl (set8_blk _ _ _ _ _ _ _ _ _ _ HY3.out) rfl rfl ?_
    refine ⟨[_, _, _, _, _, _, _, _], rfl, ?_, set8_below HB3.out _ (by omega) _ _ _ _ _ _ _ _⟩
    rw [HRX.out]
    exact nw_set8 _ _ _ _ _ _ _ _ HN3.out (by omega) (by omega)
  have hlo1 : W1.heap.size ≤ W3.heap.size := by omega
  have HCAT : Hid (∀ (lo : Nat) (w : World) (A' : List Nd) (X : List (List Value)) (N g cap : Nat), A'.length = N → 0 < N → N ≤ 1000000 → NdsOn (fun b => lo ≤ b ∧ b < w.heap.size) w A' X → g < w.heap.size → (∀ j u, X.flatten[j]? = some u → w.cell? ((⟨g, 0, none⟩ : Addr).add j) = some u) → (∀ y ∈ A', Td.kind y = 7 → 0 < (Td.subs y).length) → (catL A').length ≤ 1000000 → lo ≤ w.heap.size →
      Calls Try.prog 35 #[.slice (some ⟨g, 0, none⟩) N cap] w fun e w' => ∃ cs : List Value, e = .returned (.agg cs.toArray) ∧ NwP (fun b => lo ≤ b) w' (catN A') cs ∧ Below w.heap.size w w') :=
    Lib.hid (fun lo w A' X N g cap hN h0 hN1 hA hg hrow h7 hL hlo => concatenate_any lo w A' X N hN h0 hN1 g 0 cap hA hg hrow h7 hL hlo)
  obtain ⟨kp, rfl⟩ : ∃ kp : Nat, A = (kp : Int) := ⟨A.toNat, by omega⟩
  rw [Int.toNat_natCast] at HL HREP
  have hkp : kp ≤ 1000 := by omega
  obtain ⟨X0, X1, X2, X3, X4, X5, X6, X7⟩ := nbox_cells HX3.out
  obtain ⟨T0, T1, T2, T3, T4, T5, T6, T7⟩ := nbox_cells HT3.out
  rw [← HW3.out] at X0 X1 X2 X3 X4 X5 X6 X7 T0 T1 T2 T3 T4 T5 T6 T7
  by_cases hZ : Z = (kp : Int)
  · subst hZ
    have HRX : Hid (R = catN (List.replicate kp x)) := Lib.hid (by rw [HREP.out, if_neg kx, if_pos rfl])
    have hk1 : 1 ≤ kp := by omega
    have HCO := Lib.hid (copies_any W1.heap.size d W3 x [.int .i64 kk, .slice ta tk tc, .int .i64 (Td.num x), .string (Td.name x), .int .i64 (Td.mn x), .int .i64 (Td.mx x), .bool (Td.lazy x), .slice a9 (Td.subs x).length cap9] kp HN3.out hlo1 HS.out hk1 (by omega))
    rw [← HW3.out] at HCO
    go_wp2_with fail
    refine HCO.out.mono ?_
    rintro e w4 ⟨v, rfl, hown, hb4⟩
    rw [HW3.out] at hown hb4
    obtain ⟨g, gc, XX, hv, hg1, hg2, hnds, hrow, -⟩ := hown.lay (by rw [List.length_replicate]; omega)
    rw [List.length_replicate] at hv
    subst hv
    have HB4 := Lib.hid (HB3.out.trans (hb4.mono HB3.out.size))
    have HY4 := Lib.hid ((hb4.block _ (by omega)).trans HY3.out)
    have hs4 := hb4.size
    have HCC := Lib.hid (HCAT.out W1.heap.size w4 (List.replicate kp x) XX kp g gc (List.length_replicate ..) (by omega) (by omega) (hnds.mono (fun b hb => ⟨hb.1, hb.2.1⟩)) hg2 hrow (fun y hy => by rw [List.eq_of_mem_replicate hy]; exact H7.out) (Nat.le_trans HL.out (by omega)) (by omega))
    clear hnds hrow hown hb4 HCO X0 X1 X2 X3 X4 X5 X6 X7 T0 T1 T2 T3 T4 T5 T6 T7
    go_wp2_with fail
    refine HCC.out.mono ?_
    rintro e w5 ⟨cs5, rfl, hn5, hb5⟩
    have HB5 := Lib.hid (HB4.out.trans (hb5.mono HB4.out.size))
    have HY5 := Lib.hid ((hb5.block _ (by omega)).trans HY4.out)
    have HN5 := Lib.hid hn5
    obtain ⟨vs5, a5, cap5, Y5, hxe5, hset5, -, -⟩ := hn5.parts
    obtain ⟨pa, pk, pc, rfl⟩ : ∃ a k c, vs5 = .slice a k c := by obtain ⟨a, c, h, -⟩ := hset5.1; exact ⟨a, _, c, h⟩
    subst hxe5
    have hs5 := hb5.size
    clear hset5 hn5 hb5
    obtain ⟨c0, c1, c2, c3, c4, c5, c6, c7⟩ := nbox_cells HY5.out
    have f0 := nbox_frozen HY5.out 0
    have f1 := nbox_frozen HY5.out 1
    have f2 := nbox_frozen HY5.out 2
    have f3 := nbox_frozen HY5.out 3
    have f4 := nbox_frozen HY5.out 4
    have f5 := nbox_frozen HY5.out 5
    have f6 := nbox_frozen HY5.out 6
    have f7 := nbox_frozen HY5.out 7
    obtain ⟨R2, hR2⟩ : ∃ R2, catN (List.replicate kp x) = R2 := ⟨_, rfl⟩
    rw [hR2] at HN5 HRX ⊢
    clear hR2
    go_wp2
    (try simp only [Exit.inBlock, Exit.then])
    refine ret_ndN rfl (W.heap.size + 1) _ rfl (set8_blk _ _ _ _ _ _ _ _ _ _ HY5.out) rfl rfl ?_
    refine ⟨[_, _, _, _, _, _, _, _], rfl, ?_, set8_below HB5.out _ (by omega) _ _ _ _ _ _ _ _⟩
    rw [HRX.out]
    exact nw_set8 _ _ _ _ _ _ _ _ HN5.out (by omega) (by omega)
  have HRX : Hid (R = catN (List.replicate kp x ++ [restN n x])) := Lib.hid (by rw [HREP.out, if_neg kx, if_neg hZ])
  have HCO := Lib.hid (copies_any W1.heap.size d W3 x [.int .i64 kk, .slice ta tk tc, .int .i64 (Td.num x), .string (Td.name x), .int .i64 (Td.mn x), .int .i64 (Td.mx x), .bool (Td.lazy x), .slice a9 (Td.subs x).length cap9] (kp + 1) HN3.out hlo1 HS.out (by omega) (by omega))
  rw [← HW3.out] at HCO
  have hwk : IntKind.i64.wrap ((kp : Int) + 1) = ((kp + 1 : Nat) : Int) := by rw [IntKind.wrap_i64]; omega
  go_wp2_with fail
  refine HCO.out.mono ?_
  rintro e w4 ⟨v, rfl, hown, hb4⟩
  rw [HW3.out] at hown hb4
  obtain ⟨g, gc, XX, hv, hg1, hg2, hnds, -, hRC⟩ := hown.lay (by rw [List.length_replicate]; omega)
  rw [List.length_replicate] at hv hRC
  subst hv
  have HB4 := Lib.hid (HB3.out.trans (hb4.mono HB3.out.size))
  have HY4 := Lib.hid ((hb4.block _ (by omega)).trans HY3.out)
  have HX4 := Lib.hid ((hb4.block _ (by omega)).trans HX3.out)
  have hs4 := hb4.size
  have HND := Lib.hid hnds
  have HRC := Lib.hid hRC
  obtain ⟨y, hy, hny⟩ := hnds.2 kp (by rw [List.length_replicate]; omega)
  rw [List.getElem_replicate] at hny
  obtain ⟨ys, a6, cap6, Y6, hxe6, hset6, -, -⟩ := hny.parts
  obtain ⟨ya, yk, yc, rfl⟩ : ∃ a k c, ys = .slice a k c := by obtain ⟨a, c, h, -⟩ := hset6.1; exact ⟨a, _, c, h⟩
  rw [HKK.out] at hxe6
  have hcell : ∀ q, q < 8 → w4.cell? ⟨g, kp * 8 + q, none⟩ = y[q]? := fun q hq => by
    rw [hRC.cell kp q (by omega) hq, List.getD, hy]; rfl
  subst hxe6
  have HY := Lib.hid hy
  have HNY := Lib.hid hny
  have q0 := hcell 0 (by omega)
  have q1 := hcell 1 (by omega)
  have q2 := hcell 2 (by omega)
  have q3 := hcell 3 (by omega)
  have q4 := hcell 4 (by omega)
  have q5 := hcell 5 (by omega)
  have q6 := hcell 6 (by omega)
  have q7 := hcell 7 (by omega)
  simp only [Nat.add_zero, List.getElem?_cons_zero, List.getElem?_cons_succ] at q0 q1 q2 q3 q4 q5 q6 q7
  obtain ⟨p0, p1, p2, p3, p4, p5, p6, p7⟩ := nbox_cells HX4.out
  have ff := hRC.frozen
  have k0 : (0 : Int) ≤ (kp : Int) := by omega
  have k1 : (kp : Int) < ((kp + 1 : Nat) : Int) := by omega
  have k2 : (kp : Int) < (kp : Int) + 1 := by omega
  have k3 : (kp : Int).toNat = kp := by omega
  clear hcell hny hset6 hy hRC hnds hown hb4 HCO X0 X1 X2 X3 X4 X5 X6 X7 T0 T1 T2 T3 T4 T5 T6 T7
  have HOP : Hid (∀ w, Below w4.heap.size w4 w → Calls Try.prog 54 #[.agg #[.int .i64 K, .slice sa sk sc, .int .i64 (Td.num n), .string (Td.name n), .int .i64 (kp : Int), .int .i64 Z, .bool (Td.lazy n), .slice (some ⟨b, off, none⟩) 1 cap]] w fun e w' => e = .returned (.int .i64 (if Z = -1 then -1 else Z - (kp : Int))) ∧ Below w.heap.size w w') := Lib.hid (fun w hb => HOPT.out w (HB4.out.trans (hb.mono HB4.out.size)))
  obtain ⟨OV, hOV⟩ : ∃ OV, (if Z = -1 then -1 else Z - (kp : Int)) = OV := ⟨_, rfl⟩
  rw [hOV] at HOP
  have HOV := Lib.hid hOV
  have hBlt : W.heap.size < w4.heap.size := by omega
  have HQ : Hid (∀ w, Below w4.heap.size w4 w → w.cell? ⟨W.heap.size, 0, none⟩ = some (.int .i64 K) ∧ w.cell? ⟨W.heap.size, 1, none⟩ = some (.slice sa sk sc) ∧ w.cell? ⟨W.heap.size, 2, none⟩ = some (.int .i64 (Td.num n)) ∧ w.cell? ⟨W.heap.size, 3, none⟩ = some (.string (Td.name n)) ∧ w.cell? ⟨W.heap.size, 4, none⟩ = some (.int .i64 (kp : Int)) ∧ w.cell? ⟨W.heap.size, 5, none⟩ = some (.int .i64 Z) ∧ w.cell? ⟨W.heap.size, 6, none⟩ = some (.bool (Td.lazy n)) ∧ w.cell? ⟨W.heap.size, 7, none⟩ = some (.slice (some ⟨b, off, none⟩) 1 cap) ∧ w.cell? ⟨g, kp * 8, none⟩ = some (.int .i64 kk) ∧ w.cell? ⟨g, kp * 8 + 1, none⟩ = some (.slice ya yk yc) ∧ w.cell? ⟨g, kp * 8 + 2, none⟩ = some (.int .i64 (Td.num x)) ∧ w.cell? ⟨g, kp * 8 + 3, none⟩ = some (.string (Td.name x)) ∧ w.cell? ⟨g, kp * 8 + 4, none⟩ = some (.int .i64 (Td.mn x)) ∧ w.cell? ⟨g, kp * 8 + 5, none⟩ = some (.int .i64 (Td.mx x)) ∧ w.cell? ⟨g, kp * 8 + 6, none⟩ = some (.bool (Td.lazy x)) ∧ w.cell? ⟨g, kp * 8 + 7, none⟩ = some (.slice a6 (Td.subs x).length cap6) ∧ w.frozen? ⟨g, kp * 8, none⟩ = false ∧ w.frozen? ⟨g, kp * 8 + 1, none⟩ = false ∧ w.frozen? ⟨g, kp * 8 + 2, none⟩ = false ∧ w.frozen? ⟨g, kp * 8 + 3, none⟩ = false ∧ w.frozen? ⟨g, kp * 8 + 4, none⟩ = false ∧ w.frozen? ⟨g, kp * 8 + 5, none⟩ = false ∧ w.frozen? ⟨g, kp * 8 + 6, none⟩ = false ∧ w.frozen? ⟨g, kp * 8 + 7, none⟩ = false) := Lib.hid (fun w hw =>
    ⟨(hw.cell (p := ⟨_, _, none⟩) hBlt).trans p0, (hw.cell (p := ⟨_, _, none⟩) hBlt).trans p1, (hw.cell (p := ⟨_, _, none⟩) hBlt).trans p2, (hw.cell (p := ⟨_, _, none⟩) hBlt).trans p3, (hw.cell (p := ⟨_, _, none⟩) hBlt).trans p4, (hw.cell (p := ⟨_, _, none⟩) hBlt).trans p5, (hw.cell (p := ⟨_, _, none⟩) hBlt).trans p6, (hw.cell (p := ⟨_, _, none⟩) hBlt).trans p7,
      (hw.cell (p := ⟨_, _, none⟩) hg2).trans q0, (hw.cell (p := ⟨_, _, none⟩) hg2).trans q1, (hw.cell (p := ⟨_, _, none⟩) hg2).trans q2, (hw.cell (p := ⟨_, _, none⟩) hg2).trans q3, (hw.cell (p := ⟨_, _, none⟩) hg2).trans q4, (hw.cell (p := ⟨_, _, none⟩) hg2).trans q5, (hw.cell (p := ⟨_, _, none⟩) hg2).trans q6, (hw.cell (p := ⟨_, _, none⟩) hg2).trans q7,
      (HRC.out.kept (hw.block g hg2)).frozen _, (HRC.out.kept (hw.block g hg2)).frozen _, (HRC.out.kept (hw.block g hg2)).frozen _, (HRC.out.kept (hw.block g hg2)).frozen _, (HRC.out.kept (hw.block g hg2)).frozen _, (HRC.out.kept (hw.block g hg2)).frozen _, (HRC.out.kept (hw.block g hg2)).frozen _, (HRC.out.kept (hw.block g hg2)).frozen _⟩)
  have HQA := Lib.hid (fun o : Obj => HQ.out (w4.alloc o) ((Below.refl _ _).alloc (Nat.le_refl _) o))
  have f0 := ff (kp * 8)
  have f1 := ff (kp * 8 + 1)
  have f2 := ff (kp * 8 + 2)
  have f3 := ff (kp * 8 + 3)
  have f4 := ff (kp * 8 + 4)
  have f5 := ff (kp * 8 + 5)
  have f6 := ff (kp * 8 + 6)
  have f7 := ff (kp * 8 + 7)
  obtain ⟨p0a, p1a, p2a, p3a, p4a, p5a, p6a, p7a, q0a, q1a, q2a, q3a, q4a, q5a, q6a, q7a, f0a, f1a, f2a, f3a, f4a, f5a, f6a, f7a⟩ := HQA.out (.cells #[.int .i64 kk, .slice ya yk yc, .int .i64 (Td.num x), .string (Td.name x), .int .i64 (Td.mn x), .int .i64 (Td.mx x), .bool (Td.lazy x), .slice a6 (Td.subs x).length cap6] 25)
  clear HOPT hOV ff HQA
  go_wp2
  go_region_law (go_simp; go_at_call 54; refine (calls_keep HOP.out (by first | exact (Below.refl _ _).drew | exact ((Below.refl _ _).alloc (Nat.le_refl _) _).drew | exact Below.refl _ _ | exact (Below.refl _ _).alloc (Nat.le_refl _) _)).mono ?_; rintro e w8 ⟨rfl, hb8, hB8⟩; have HB8 := Lib.hid hB8; have Hb8 := Lib.hid hb8; have h8s := hB8.size; obtain ⟨p0b, p1b, p2b, p3b, p4b, p5b, p6b, p7b, q0b, q1b, q2b, q3b, q4b, q5b, q6b, q7b, f0b, f1b, f2b, f3b, f4b, f5b, f6b, f7b⟩ := HQ.out w8 hB8; obtain ⟨p0c, p1c, p2c, p3c, p4c, p5c, p6c, p7c, q0c, q1c, q2c, q3c, q4c, q5c, q6c, q7c, f0c, f1c, f2c, f3c, f4c, f5c, f6c, f7c⟩ := HQ.out (w8.alloc (.cells #[.int .i64 kk, .slice ya yk yc, .int .i64 (Td.num x), .string (Td.name x), .int .i64 (Td.mn x), .int .i64 (Td.mx x), .bool (Td.lazy x), .slice a6 (Td.subs x).length cap6] 25)) (hB8.alloc hB8.size _); clear hb8 hB8)
  all_goals (
    clear p0b p1b p2b p3b p4b p5b p6b p7b q0b q1b q2b q3b q4b q5b q6b q7b f0b f1b f2b f3b f4b f5b f6b f7b p0c p1c p2c p3c p4c p5c p6c p7c q0c q1c q2c q3c q4c q5c q6c q7c f0c f1c f2c f3c f4c f5c f6c f7c p0a p1a p2a p3a p4a p5a p6a p7a q0a q1a q2a q3a q4a q5a q6a q7a f0a f1a f2a f3a f4a f5a f6a f7a p0 p1 p2 p3 p4 p5 p6 p7 q0 q1 q2 q3 q4 q5 q6 q7 f0 f1 f2 f3 f4 f5 f6 f7
    have hOV9 : I64 OV := by
      have := HOV.out
      unfold I64
      split at this <;> omega
    first
      | (obtain ⟨w9, hw9⟩ : ∃ w9, ((((((((w8.setCell ⟨g, kp * 8, none⟩ (.int .i64 9)).setCell ⟨g, kp * 8 + 1, none⟩ (.slice none 0 0)).setCell ⟨g, kp * 8 + 2, none⟩ (.int .i64 0)).setCell ⟨g, kp * 8 + 3, none⟩ (.string ⟨#[]⟩)).setCell ⟨g, kp * 8 + 4, none⟩ (.int .i64 0)).setCell ⟨g, kp * 8 + 5, none⟩ (.int .i64 OV)).setCell ⟨g, kp * 8 + 6, none⟩ (.bool (Td.lazy n))).setCell ⟨g, kp * 8 + 7, none⟩ (.slice (some ⟨w4.heap.size, 0, none⟩) 1 1)) = w9 := ⟨_, rfl⟩
         have hb9 : Below W.heap.size W w9 := by
           rw [← hw9]
           exact (((((((((HB4.out.trans (HB8.out.mono HB4.out.size)).setCell (p := ⟨g, kp * 8, none⟩) (by show W.heap.size ≤ g; omega) _).setCell (p := ⟨g, kp * 8 + 1, none⟩) (by show W.heap.size ≤ g; omega) _).setCell (p := ⟨g, kp * 8 + 2, none⟩) (by show W.heap.size ≤ g; omega) _).setCell (p := ⟨g, kp * 8 + 3, none⟩) (by show W.heap.size ≤ g; omega) _).setCell (p := ⟨g, kp * 8 + 4, none⟩) (by show W.heap.size ≤ g; omega) _).setCell (p := ⟨g, kp * 8 + 5, none⟩) (by show W.heap.size ≤ g; omega) _).setCell (p := ⟨g, kp * 8 + 6, none⟩) (by show W.heap.size ≤ g; omega) _).setCell (p := ⟨g, kp * 8 + 7, none⟩) (by show W.heap.size ≤ g; omega) _)
         have hbw : Below w4.heap.size w4 w8 := HB8.out
         have HR9 := Lib.hid (rest_lay W1.heap.size w4 w8 w9 g kp x XX _ HRC.out HND.out HY.out hbw w4.heap.size (Nat.le_refl _) (by omega) ((Hb8.out.block w4.heap.size (by simp [World.drew])).trans (heap_alloc_new w4 _)) OV hOV9 (Td.lazy n) hw9)
         have hk9 : Hid (∀ b, b ≠ g → b < w4.heap.size → w9.heap[b]? = w4.heap[b]?) := Lib.hid (fun b hb hl => by
           obtain ⟨X2, n1, n2, n3, n4⟩ := HR9.out
           exact (n4 b hb).trans (hbw.block b hl))
         have HX9 : Hid (∃ X2, NdsOn (fun b => W1.heap.size ≤ b ∧ b < w9.heap.size) w9 (List.replicate kp x ++ [.mk 9 [] 0 ⟨#[]⟩ 0 OV (Td.lazy n) [x]]) X2 ∧ (∀ j u, X2.flatten[j]? = some u → w9.cell? ((⟨g, 0, none⟩ : Addr).add j) = some u) ∧ w4.heap.size ≤ w9.heap.size) := Lib.hid (by
           obtain ⟨X2, n1, n2, n3, n4⟩ := HR9.out
           exact ⟨X2, n1, n2, by rw [n3]; exact hbw.size⟩)
         rw [hw9]
         clear hw9 HR9 hbw)
      | (obtain ⟨w9, hw9⟩ : ∃ w9, (((((((((w8.alloc (.cells #[.int .i64 kk, .slice ya yk yc, .int .i64 (Td.num x), .string (Td.name x), .int .i64 (Td.mn x), .int .i64 (Td.mx x), .bool (Td.lazy x), .slice a6 (Td.subs x).length cap6] 25)).setCell ⟨g, kp * 8, none⟩ (.int .i64 9)).setCell ⟨g, kp * 8 + 1, none⟩ (.slice none 0 0)).setCell ⟨g, kp * 8 + 2, none⟩ (.int .i64 0)).setCell ⟨g, kp * 8 + 3, none⟩ (.string ⟨#[]⟩)).setCell ⟨g, kp * 8 + 4, none⟩ (.int .i64 0)).setCell ⟨g, kp * 8 + 5, none⟩ (.int .i64 OV)).setCell ⟨g, kp * 8 + 6, none⟩ (.bool (Td.lazy n))).setCell ⟨g, kp * 8 + 7, none⟩ (.slice (some ⟨w8.heap.size, 0, none⟩) 1 1)) = w9 := ⟨_, rfl⟩
         have hb9 : Below W.heap.size W w9 := by
           rw [← hw9]
           exact ((((((((((HB4.out.trans (HB8.out.mono HB4.out.size)).alloc (by have := HB8.out.size; omega) _).setCell (p := ⟨g, kp * 8, none⟩) (by show W.heap.size ≤ g; omega) _).setCell (p := ⟨g, kp * 8 + 1, none⟩) (by show W.heap.size ≤ g; omega) _).setCell (p := ⟨g, kp * 8 + 2, none⟩) (by show W.heap.size ≤ g; omega) _).setCell (p := ⟨g, kp * 8 + 3, none⟩) (by show W.heap.size ≤ g; omega) _).setCell (p := ⟨g, kp * 8 + 4, none⟩) (by show W.heap.size ≤ g; omega) _).setCell (p := ⟨g, kp * 8 + 5, none⟩) (by show W.heap.size ≤ g; omega) _).setCell (p := ⟨g, kp * 8 + 6, none⟩) (by show W.heap.size ≤ g; omega) _).setCell (p := ⟨g, kp * 8 + 7, none⟩) (by show W.heap.size ≤ g; omega) _)
         have hbw : Below w4.heap.size w4 (w8.alloc (.cells #[.int .i64 kk, .slice ya yk yc, .int .i64 (Td.num x), .string (Td.name x), .int .i64 (Td.mn x), .int .i64 (Td.mx x), .bool (Td.lazy x), .slice a6 (Td.subs x).length cap6] 25)) := HB8.out.alloc HB8.out.size _
         have HR9 := Lib.hid (rest_lay W1.heap.size w4 (w8.alloc (.cells #[.int .i64 kk, .slice ya yk yc, .int .i64 (Td.num x), .string (Td.name x), .int .i64 (Td.mn x), .int .i64 (Td.mx x), .bool (Td.lazy x), .slice a6 (Td.subs x).length cap6] 25)) w9 g kp x XX _ HRC.out HND.out HY.out hbw w8.heap.size HB8.out.size (by omega) (heap_alloc_new w8 _) OV hOV9 (Td.lazy n) hw9)
         have hk9 : Hid (∀ b, b ≠ g → b < w4.heap.size → w9.heap[b]? = w4.heap[b]?) := Lib.hid (fun b hb hl => by
           obtain ⟨X2, n1, n2, n3, n4⟩ := HR9.out
           exact (n4 b hb).trans (hbw.block b hl))
         have HX9 : Hid (∃ X2, NdsOn (fun b => W1.heap.size ≤ b ∧ b < w9.heap.size) w9 (List.replicate kp x ++ [.mk 9 [] 0 ⟨#[]⟩ 0 OV (Td.lazy n) [x]]) X2 ∧ (∀ j u, X2.flatten[j]? = some u → w9.cell? ((⟨g, 0, none⟩ : Addr).add j) = some u) ∧ w4.heap.size ≤ w9.heap.size) := Lib.hid (by
           obtain ⟨X2, n1, n2, n3, n4⟩ := HR9.out
           exact ⟨X2, n1, n2, by rw [n3]; exact hbw.size⟩)
         rw [hw9]
         clear hw9 HR9 hbw)
    obtain ⟨X2, n1, n2, n3⟩ := HX9.out
    have e9 : Hid (restN n x = .mk 9 [] 0 ⟨#[]⟩ 0 OV (Td.lazy n) [x]) := Lib.hid (by rw [HREST.out, HPRE.out.1, HPRE.out.2, HOV.out])
    have HCC := Lib.hid (HCAT.out W1.heap.size w9 (List.replicate kp x ++ [.mk 9 [] 0 ⟨#[]⟩ 0 OV (Td.lazy n) [x]]) X2 (kp + 1) g gc (by simp) (by omega) (by omega) n1 (by omega) n2 (fun z hz => by
      rcases List.mem_append.1 hz with hz | hz
      · rw [List.eq_of_mem_replicate hz]; exact H7.out
      · rw [List.mem_singleton.1 hz]; intro e; exact absurd e (by simp [Td.kind])) (by
      rw [catL_snoc, List.length_append]
      have := HL.out
      rw [if_neg (by simp [Td.kind]), if_neg (by simp [Td.kind])]
      simp only [List.length_singleton]
      omega) (by omega))
    have HB9 := Lib.hid hb9
    have HY9 : Hid (w9.heap[W.heap.size + 1]? = some (.cells #[.int .i64 0, .slice none 0 0, .int .i64 0, .string ⟨#[]⟩, .int .i64 0, .int .i64 0, .bool false, .slice none 0 0] 25 (0, 0))) := Lib.hid ((hk9.out _ (by omega) (by omega)).trans HY4.out)
    clear n1 n2 hb9 HX9 hk9 HCAT
    go_wp2_with fail
    refine HCC.out.mono ?_
    rintro e w5 ⟨cs5, rfl, hn5, hb5⟩
    have HB5 := Lib.hid (HB9.out.trans (hb5.mono HB9.out.size))
    have HY5 := Lib.hid ((hb5.block _ (by omega)).trans HY9.out)
    have HN5 := Lib.hid hn5
    obtain ⟨vs5, a5, cap5, Y5, hxe5, hset5, -, -⟩ := hn5.parts
    obtain ⟨pa, pk, pc, rfl⟩ : ∃ a k c, vs5 = .slice a k c := by obtain ⟨a, c, h, -⟩ := hset5.1; exact ⟨a, _, c, h⟩
    subst hxe5
    have hs5 := hb5.size
    clear hset5 hn5 hb5
    obtain ⟨c0, c1, c2, c3, c4, c5, c6, c7⟩ := nbox_cells HY5.out
    have f0 := nbox_frozen HY5.out 0
    have f1 := nbox_frozen HY5.out 1
    have f2 := nbox_frozen HY5.out 2
    have f3 := nbox_frozen HY5.out 3
    have f4 := nbox_frozen HY5.out 4
    have f5 := nbox_frozen HY5.out 5
    have f6 := nbox_frozen HY5.out 6
    have f7 := nbox_frozen HY5.out 7
    obtain ⟨R2, hR2⟩ : ∃ R2, catN (List.replicate kp x ++ [.mk 9 [] 0 ⟨#[]⟩ 0 OV (Td.lazy n) [x]]) = R2 := ⟨_, rfl⟩
    have HRX2 : Hid (R = R2) := Lib.hid (by rw [HRX.out, e9.out, hR2])
    rw [hR2] at HN5 ⊢
    clear hR2
    go_wp2
    (try simp only [Exit.inBlock, Exit.then])
    refine ret_ndN rfl (W.heap.size + 1) _ rfl (set8_blk _ _ _ _ _ _ _ _ _ _ HY5.out) rfl rfl ?_
    refine ⟨[_, _, _, _, _, _, _, _], rfl, ?_, set8_below HB5.out _ (by omega) _ _ _ _ _ _ _ _⟩
    rw [HRX2.out]
    exact nw_set8 _ _ _ _ _ _ _ _ HN5.out (by omega) (by omega))
end Go.Proofs.Ythhdlcckboiecaa
