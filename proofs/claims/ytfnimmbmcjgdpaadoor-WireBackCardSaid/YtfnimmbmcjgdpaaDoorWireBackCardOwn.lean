/- burinlaw15.WireBack: the walk. -/
import Derived.Test.YtfnimmbmcjgdpaaDoorGp26
import Derived.Test.YtfnimmbmcjgdpaaDoorGp14
namespace Go.Proofs.YtfnimmbmcjgdpaaDoor
open Go.RowKit
set_option linter.unusedVariables false
namespace Pgm
theorem enc_parts {l : List In} {st sl : Int} (h : Ok l st sl) (t : List UInt8) : (bodyW l st sl ++ t).take 3 = magicL ∧ rdVs 3 ((bodyW l st sl ++ t).drop 3) = some ([st, sl, (l.length : Int)], l.flatMap instW ++ t) ∧ rdIs (l.length : Int).toNat (l.flatMap instW ++ t) = some (l, t) := by
  have hok := h
  obtain ⟨o1, o2, o3, o4, o5, o6, _⟩ := hok
  refine ⟨by unfold bodyW; rfl, (rdVs_iff _ _ _ _).2 ⟨rfl, ?_, ?_⟩, ?_⟩
  · intro n hn
    simp only [List.mem_cons, List.not_mem_nil, or_false] at hn
    omega
  · unfold bodyW
    simp [magicL]
  · rw [Int.toNat_natCast]
    exact rdIs_fit l t (ok_fit h)
theorem dec_len {l : List In} {st sl : Int} (h : Ok l st sl) (t : List UInt8) (ht : t.length ≠ 1) : decL (bodyW l st sl ++ t) = none := by
  obtain ⟨h1, h2, h3⟩ := enc_parts h t
  by_cases hx : xorL (bodyW l st sl ++ t) = 0
  · rw [dec_is h1 hx h2 h3, if_neg (fun q => ht q.1)]
  · exact dec_no2 hx
theorem dec_more {l : List In} {st sl : Int} (h : Ok l st sl) : decL (encL l st sl ++ [0]) = none := by
  unfold encL
  rw [List.append_assoc]
  exact dec_len h _ (by simp)
theorem dec_less {l : List In} {st sl : Int} (h : Ok l st sl) : decL (encL l st sl).dropLast = none := by
  unfold encL
  rw [List.dropLast_concat]
  have := dec_len h [] (by simp)
  rwa [List.append_nil] at this
theorem z_size (T : ByteArray) : (T ++ (⟨#[0]⟩ : ByteArray)).size = T.size + 1 := by rw [ByteArray.size_append]; rfl
theorem z_list (T : ByteArray) : (T ++ (⟨#[0]⟩ : ByteArray)).data.toList = T.data.toList ++ [0] := by rw [ByteArray.data_append, Array.toList_append]
theorem cut_list (T : ByteArray) (m : Nat) (h : T.data.toList.length = m + 1) : (T.extract 0 m).data.toList = T.data.toList.dropLast := by
  rw [ByteArray.data_extract, Array.toList_extract, List.extract_eq_take_drop, List.dropLast_eq_take, h]
  simp
theorem cut_size (T : ByteArray) (m : Nat) : (T.extract 0 m).size ≤ T.size := by rw [ByteArray.size_extract]; omega
theorem ok_bd {l : List In} {st sl : Int} (h : Ok l st sl) : ∀ i ∈ l, i.bd := fun i hi => by
  have hf := ok_fit h i hi
  unfold Fit at hf
  exact ⟨⟨by omega, by omega⟩, ⟨by omega, by omega⟩, ⟨by omega, by omega⟩, ⟨by omega, by omega⟩, ⟨by omega, by omega⟩⟩
theorem toList_nn {T : ByteArray} (h : 0 < T.size) : T.toList.isEmpty = false ∧ ¬ T.toList = [] ∧ (T.toList == []) = false := by
  have h1 : ¬ T.toList = [] := by
    rw [ByteArray.toList_eq]
    intro e
    have h5 : T.data.toList.length = 0 := by rw [e]; rfl
    rw [len_list] at h5
    omega
  exact ⟨by rw [Bool.eq_false_iff]; exact fun h => h1 (List.isEmpty_iff.1 h), h1, by rw [beq_eq_false_iff_ne]; exact h1⟩
set_option maxRecDepth 100000 in
set_option maxHeartbeats 16000000 in
theorem walkWireBack (W : World) (u : Value) (l : List In) (st sl : Int) (s : ByteArray) (hr : InRow W u l) (hst : I64 st) (hsl : I64 sl) (hs : s.size ≤ 140737488351232) (hE : EvO W) :
    Calls Tryd.prog 7 #[.agg #[u, .int .i64 st, .int .i64 sl], .string s] W fun e w' => e = .returned (.bool true) ∧ Below W.heap.size W w' := by
  obtain ⟨A1, k1, e1, hl⟩ := (show ∃ A k, u = .slice A l.length k ∧ l.length ≤ 3518437208883 from by obtain ⟨A, k, e, hl, _⟩ := hr; exact ⟨A, k, e, hl⟩)
  obtain ⟨n, hn⟩ : ∃ n, l.length = n := ⟨_, rfl⟩
  rw [hn] at e1 hl
  subst e1
  obtain ⟨w0, hw0⟩ : ∃ w0, W.alloc (.cells #[.slice A1 n k1, .int .i64 st, .int .i64 sl] 46) = w0 := ⟨_, rfl⟩
  have hb0 : Below W.heap.size W w0 := by rw [← hw0]; exact (Below.refl _ _).alloc (Nat.le_refl _) _
  have hx0 : w0.heap[W.heap.size]? = some (.cells #[.slice A1 n k1, .int .i64 st, .int .i64 sl] 46 (0, 0)) := by rw [← hw0]; exact heap_alloc_new W _
  have HW0 := Lib.hid hw0
  have HB0 := Lib.hid hb0
  have HX0 := Lib.hid hx0
  have HE := Lib.hid hE
  have HRP := Lib.hid hr
  have HWK := Lib.hid (works15_any w0 (hE.below (Nat.le_refl _) hb0))
  have HEP : Hid (∀ w, Below W.heap.size W w → Calls Tryd.prog 26 #[.agg #[.slice A1 n k1, .int .i64 st, .int .i64 sl]] w fun e w' => e = .returned (.tuple #[.string (encS l st sl), .int .i64 (chk l st sl)]) ∧ Below w.heap.size w w') := Lib.hid (fun w h => encode15 l st sl _ w (hr.below (Nat.le_refl _) h) (hE.below (Nat.le_refl _) h))
  have HCP : Hid (∀ w, Below W.heap.size W w → Calls Tryd.prog 30 #[.agg #[.slice A1 n k1, .int .i64 st, .int .i64 sl]] w fun e w' => e = .returned (.int .i64 (chk l st sl)) ∧ Below w.heap.size w w') := Lib.hid (fun w h => check_any l st sl _ w (hr.below (Nat.le_refl _) h) (hE.below (Nat.le_refl _) h))
  have HLN := Lib.hid hn
  clear hb0 hx0 hw0 hE hr hst hsl hn
  have n0 : (0 : Int) ≤ (n : Int) := by omega
  by_cases hn100 : (100 : Int) < (n : Int)
  · clear hs
    go_enter Tryd.func7, Tryd.ntmps7
    go_wp2_with (rw [HW0.out])
    refine HWK.out.mono ?_
    rintro e w1 ⟨rfl, hb1⟩
    have HB1 := Lib.hid (HB0.out.trans (hb1.mono HB0.out.size))
    have c0 : w1.cell? ⟨W.heap.size, 0, none⟩ = some (.slice A1 n k1) := blkp ((hb1.block _ (Array.getElem?_eq_some_iff.1 HX0.out).1).trans HX0.out) 0
    clear hb1
    go_wp2
    go_ret
    exact ⟨rfl, HB1.out⟩
  by_cases hs3 : (1000 : Int) < (s.size : Int)
  · clear hs
    go_enter Tryd.func7, Tryd.ntmps7
    go_wp2_with (rw [HW0.out])
    refine HWK.out.mono ?_
    rintro e w1 ⟨rfl, hb1⟩
    have HB1 := Lib.hid (HB0.out.trans (hb1.mono HB0.out.size))
    have c0 : w1.cell? ⟨W.heap.size, 0, none⟩ = some (.slice A1 n k1) := blkp ((hb1.block _ (Array.getElem?_eq_some_iff.1 HX0.out).1).trans HX0.out) 0
    clear hb1
    go_wp2
    go_ret
    exact ⟨rfl, HB1.out⟩
  have hs1000 : s.size ≤ 1000 := by omega
  have hn101 : n ≤ 100 := by omega
  have hch : (∃ T m, Ok l st sl ∧ encS l st sl = T ∧ chk l st sl = 0 ∧ T.size = m + 1 ∧ m ≤ 1000 ∧ decL T.data.toList = some (l, st, sl) ∧ decL (T.data.toList ++ [0]) = none ∧ decL T.data.toList.dropLast = none) ∨ (¬ Ok l st sl ∧ encS l st sl = ⟨#[]⟩ ∧ chk l st sl = 130) := by
    by_cases hok : Ok l st sl
    · have h1 := enc_len l st sl
      rw [HLN.out] at h1
      refine .inl ⟨_, (encL l st sl).length - 1, hok, enc_ok hok, chk_ok hok, by rw [txB_size]; omega, by omega, ?_, ?_, ?_⟩
      · rw [txB_list]; exact dec_enc hok
      · rw [txB_list]; exact dec_more hok
      · rw [txB_list]; exact dec_less hok
    · exact .inr ⟨hok, enc_no hok, chk_not hok⟩
  have HCH := Lib.hid hch
  have hsq : (s.toList == s.toList) = true := by simp
  clear hs hch
  go_enter Tryd.func7, Tryd.ntmps7
  go_wp2_with (rw [HW0.out])
  refine HWK.out.mono ?_
  rintro e w1 ⟨rfl, hb1⟩
  have HB1 := Lib.hid (HB0.out.trans (hb1.mono HB0.out.size))
  have HQ1 := Lib.hid hb1
  have c0 : w1.cell? ⟨W.heap.size, 0, none⟩ = some (.slice A1 n k1) := blkp ((hb1.block _ (Array.getElem?_eq_some_iff.1 HX0.out).1).trans HX0.out) 0
  clear hb1
  go_wp2_with fail
  cases hd : decL s.data.toList with
  | some p =>
    obtain ⟨l2, st2, sl2⟩ := p
    obtain ⟨hok2, henc2⟩ := (dec_iff _ _ _ _).1 hd
    have hl2 := enc_len l2 st2 sl2
    rw [henc2] at hl2
    have HL2 : Hid (l2.length ≤ 1000) := Lib.hid (by have := len_list s; omega)
    have HOK2 := Lib.hid hok2
    have HEN2 : Hid (encS l2 st2 sl2 = s) := Lib.hid (by rw [enc_ok hok2, henc2, txB_of])
    refine (dec_yes w1 s (by omega) (HE.out.below (Nat.le_refl _) HB1.out) hd).mono ?_
    rintro e w2 ⟨v2, rfl, ho2, hb2⟩
    obtain ⟨a9, c9, e9⟩ := ho2.slice
    obtain ⟨L9, hL9⟩ : ∃ L9, l2.length = L9 := ⟨_, rfl⟩
    rw [hL9] at e9
    subst e9
    have HQ2 := Lib.hid (HQ1.out.trans (hb2.mono HQ1.out.size))
    have HO2 := Lib.hid ho2
    clear ho2 hb2 hd hok2 henc2 hl2 hL9 c0
    obtain ⟨w3, hw3⟩ : ∃ w3, w2.alloc (.cells #[.slice a9 L9 c9, .int .i64 st2, .int .i64 sl2] 46) = w3 := ⟨_, rfl⟩
    have hb3 : Below w2.heap.size w2 w3 := by rw [← hw3]; exact (Below.refl _ _).alloc (Nat.le_refl _) _
    have hx3 : w3.heap[w2.heap.size]? = some (.cells #[.slice a9 L9 c9, .int .i64 st2, .int .i64 sl2] 46 (0, 0)) := by rw [← hw3]; exact heap_alloc_new w2 _
    have HQ3 := Lib.hid (HQ2.out.trans (hb3.mono HQ2.out.size))
    have HO3 := Lib.hid (HO2.out.below hb3 (Nat.le_refl _))
    have HX3 := Lib.hid hx3
    have HE3 := Lib.hid (HE.out.below (Nat.le_refl _) (HB0.out.trans (HQ3.out.mono HB0.out.size)))
    have HN3 := Lib.hid (encode15 l2 st2 sl2 _ w3 (HO3.out.row (by have := HL2.out; omega) (ok_bd HOK2.out)) HE3.out)
    rw [HEN2.out, chk_ok HOK2.out] at HN3
    have HW3 := Lib.hid hw3
    clear hb3 hx3 hw3
    go_wp2_with fail
    rw [HW3.out]
    refine HN3.out.mono ?_
    rintro e w4 ⟨rfl, hb4⟩
    have hx4 := (hb4.block _ (Array.getElem?_eq_some_iff.1 HX3.out).1).trans HX3.out
    have d0 : w4.cell? ⟨w2.heap.size, 0, none⟩ = some (.slice a9 L9 c9) := blkp hx4 0
    have d1 : w4.cell? ⟨w2.heap.size, 1, none⟩ = some (.int .i64 st2) := blkp hx4 1
    have d2 : w4.cell? ⟨w2.heap.size, 2, none⟩ = some (.int .i64 sl2) := blkp hx4 2
    have HCK4 := Lib.hid (check_any l2 st2 sl2 _ w4 ((HO3.out.below hb4 (Nat.le_refl _)).row (by have := HL2.out; omega) (ok_bd HOK2.out)) (HE3.out.below (Nat.le_refl _) hb4))
    rw [chk_ok HOK2.out] at HCK4
    have HQ4 := Lib.hid (HQ3.out.trans (hb4.mono HQ3.out.size))
    clear hb4 hx4
    go_wp2_with fail
    refine HCK4.out.mono ?_
    rintro e w5 ⟨rfl, hb5⟩
    have HQ5 := Lib.hid (HQ4.out.trans (hb5.mono HQ4.out.size))
    clear hb5 d0 d1 d2
    have HB5 := Lib.hid (HB0.out.trans (HQ5.out.mono HB0.out.size))
    have hx5 := (HQ5.out.block _ (Array.getElem?_eq_some_iff.1 HX0.out).1).trans HX0.out
    have p0 : w5.cell? ⟨W.heap.size, 0, none⟩ = some (.slice A1 n k1) := blkp hx5 0
    have p1 : w5.cell? ⟨W.heap.size, 1, none⟩ = some (.int .i64 st) := blkp hx5 1
    have p2 : w5.cell? ⟨W.heap.size, 2, none⟩ = some (.int .i64 sl) := blkp hx5 2
    have HX5 := Lib.hid hx5
    clear hx5
    go_wp2_with fail
    have HE5 := Lib.hid (HE.out.below (Nat.le_refl _) HB5.out)
    have HEP5 := Lib.hid (HEP.out w5 HB5.out)
    rcases HCH.out with ⟨T, m, hok, ht, hck, hz, hm, hd1, hd2, hd3⟩ | ⟨hok, ht, hck⟩
    · rw [ht, hck] at HEP5
      have HOK := Lib.hid hok
      have hpos : 0 < T.size := by omega
      obtain ⟨hn3, hn1, hn2⟩ := toList_nn hpos
      have HD1 := Lib.hid (fun w he => dec_yes w T (by omega) he hd1)
      have HD2 := Lib.hid (fun w he => dec_nay w (T ++ ⟨#[0]⟩) (by rw [z_size]; omega) he (by rw [z_list]; exact hd2))
      have HD3 := Lib.hid (fun w he => dec_nay w (T.extract 0 m) (by have := cut_size T m; omega) he (by rw [cut_list T m (by simpa using hz)]; exact hd3))
      obtain ⟨X2, hX2⟩ : ∃ X2, T ++ (⟨#[0]⟩ : ByteArray) = X2 := ⟨_, rfl⟩
      obtain ⟨X3, hX3⟩ : ∃ X3, T.extract 0 m = X3 := ⟨_, rfl⟩
      rw [hX2] at HD2
      rw [hX3] at HD3
      have nov : ¬ 9223372036854775807 < T.size + 1 := by omega
      have nov2 : ¬ 9223372036854775807 < m + 1 + 1 := by omega
      have hle : (m : Int) ≤ (T.size : Int) := by omega
      have hsub : (T.size : Int) - 1 = (m : Int) := by omega
      have hsub2 : ((m + 1 : Nat) : Int) - 1 = (m : Int) := by omega
      have hmw : IntKind.i64.wrap (m : Int) = (m : Int) := by rw [IntKind.wrap_i64]; omega
      have hm0 : (0 : Int) ≤ (m : Int) := by omega
      clear ht hck hok hd1 hd2 hd3 hpos
      refine HEP5.out.mono ?_
      rintro e w6 ⟨rfl, hb6⟩
      have HB6 := Lib.hid (HB5.out.trans (hb6.mono HB5.out.size))
      have HX6 := Lib.hid ((hb6.block _ (Array.getElem?_eq_some_iff.1 HX5.out).1).trans HX5.out)
      clear hb6
      go_wp2_with fail
      refine (HD1.out w6 (HE.out.below (Nat.le_refl _) HB6.out)).mono ?_
      rintro e w7 ⟨v7, rfl, ho7, hb7⟩
      obtain ⟨a7, c7, e7⟩ := ho7.slice
      obtain ⟨L7, hL7⟩ : ∃ L7, l.length = L7 := ⟨_, rfl⟩
      rw [hL7] at e7
      subst e7
      have HB7 := Lib.hid (HB6.out.trans (hb7.mono HB6.out.size))
      have HX7 := Lib.hid ((hb7.block _ (Array.getElem?_eq_some_iff.1 HX6.out).1).trans HX6.out)
      obtain ⟨w8, hw8⟩ : ∃ w8, w7.alloc (.cells #[.slice a7 L7 c7, .int .i64 st, .int .i64 sl] 46) = w8 := ⟨_, rfl⟩
      have hb8 : Below w7.heap.size w7 w8 := by rw [← hw8]; exact (Below.refl _ _).alloc (Nat.le_refl _) _
      have hy8 : w8.heap[w7.heap.size]? = some (.cells #[.slice a7 L7 c7, .int .i64 st, .int .i64 sl] 46 (0, 0)) := by rw [← hw8]; exact heap_alloc_new w7 _
      have HB8 := Lib.hid (HB7.out.trans (hb8.mono HB7.out.size))
      have HO8 := Lib.hid (ho7.below hb8 (Nat.le_refl _))
      have HX8 := Lib.hid ((hb8.block _ (Array.getElem?_eq_some_iff.1 HX7.out).1).trans HX7.out)
      have HY8 := Lib.hid hy8
      have HW8 := Lib.hid hw8
      clear ho7 hb7 hb8 hy8 hw8 hL7
      go_wp2_with fail
      rw [HW8.out]
      (try rw [hX2])
      refine (HD2.out w8 (HE.out.below (Nat.le_refl _) HB8.out)).mono ?_
      rintro e w9 ⟨rfl, hb9⟩
      obtain ⟨wa, hwa⟩ : ∃ wa, w9.alloc (.cells #[.slice none 0 0, .int .i64 0, .int .i64 0] 46) = wa := ⟨_, rfl⟩
      have hba : Below w8.heap.size w8 wa := by rw [← hwa]; exact hb9.alloc hb9.size _
      have HBA := Lib.hid (HB8.out.trans (hba.mono HB8.out.size))
      have HQA := Lib.hid hba
      have HWA := Lib.hid hwa
      clear hb9 hba hwa
      go_wp2_with fail
      (try rw [HWA.out])
      (try rw [hX3])
      refine (HD3.out wa (HE.out.below (Nat.le_refl _) HBA.out)).mono ?_
      rintro e wb ⟨rfl, hbb⟩
      obtain ⟨wc, hwc⟩ : ∃ wc, wb.alloc (.cells #[.slice none 0 0, .int .i64 0, .int .i64 0] 46) = wc := ⟨_, rfl⟩
      have hbc : Below w8.heap.size w8 wc := by rw [← hwc]; exact (HQA.out.trans (hbb.mono HQA.out.size)).alloc (Nat.le_trans HQA.out.size hbb.size) _
      have hbq : Below w8.heap.size w8 wb := HQA.out.trans (hbb.mono HQA.out.size)
      have hxb := (hbq.block _ (Array.getElem?_eq_some_iff.1 HX8.out).1).trans HX8.out
      have hyb := (hbq.block _ (Array.getElem?_eq_some_iff.1 HY8.out).1).trans HY8.out
      have q0 : wb.cell? ⟨W.heap.size, 0, none⟩ = some (.slice A1 n k1) := blkp hxb 0
      have q1 : wb.cell? ⟨W.heap.size, 1, none⟩ = some (.int .i64 st) := blkp hxb 1
      have q2 : wb.cell? ⟨W.heap.size, 2, none⟩ = some (.int .i64 sl) := blkp hxb 2
      have r0 : wb.cell? ⟨w7.heap.size, 0, none⟩ = some (.slice a7 L7 c7) := blkp hyb 0
      have r1 : wb.cell? ⟨w7.heap.size, 1, none⟩ = some (.int .i64 st) := blkp hyb 1
      have r2 : wb.cell? ⟨w7.heap.size, 2, none⟩ = some (.int .i64 sl) := blkp hyb 2
      have l1 := (Array.getElem?_eq_some_iff.1 hxb).1
      have l2' := (Array.getElem?_eq_some_iff.1 hyb).1
      have HBC := Lib.hid (HB8.out.trans (hbc.mono HB8.out.size))
      have HSM := Lib.hid (same_any wc _ _ l l st sl st sl (HRP.out.below (Nat.le_refl _) HBC.out) ((HO8.out.below hbc (Nat.le_refl _)).row (by have := HLN.out; omega) (ok_bd HOK.out)))
      rw [decide_eq_true (show st = st ∧ sl = sl ∧ l = l from ⟨rfl, rfl, rfl⟩)] at HSM
      have HWC := Lib.hid hwc
      clear hbb hwc hbc hbq hxb hyb
      go_wp2_with fail
      rw [HWC.out]
      refine HSM.out.mono ?_
      rintro e wd ⟨rfl, hbd⟩
      have HBD := Lib.hid (HBC.out.trans (hbd.mono HBC.out.size))
      clear hbd q0 q1 q2 r0 r1 r2
      go_wp2
      go_ret
      exact ⟨rfl, HBD.out⟩
    · rw [ht, hck] at HEP5
      have HCP2 := Lib.hid HCP.out
      rw [hck] at HCP2
      clear ht hck hok
      refine HEP5.out.mono ?_
      rintro e w6 ⟨rfl, hb6⟩
      have HB6 := Lib.hid (HB5.out.trans (hb6.mono HB5.out.size))
      have hx6 := (hb6.block _ (Array.getElem?_eq_some_iff.1 HX5.out).1).trans HX5.out
      have q0 : w6.cell? ⟨W.heap.size, 0, none⟩ = some (.slice A1 n k1) := blkp hx6 0
      have q1 : w6.cell? ⟨W.heap.size, 1, none⟩ = some (.int .i64 st) := blkp hx6 1
      have q2 : w6.cell? ⟨W.heap.size, 2, none⟩ = some (.int .i64 sl) := blkp hx6 2
      clear hb6 hx6
      go_wp2_with fail
      refine (HCP2.out w6 HB6.out).mono ?_
      rintro e w7 ⟨rfl, hb7⟩
      have HB7 := Lib.hid (HB6.out.trans (hb7.mono HB6.out.size))
      clear hb7 q0 q1 q2
      go_wp2
      go_ret
      exact ⟨rfl, HB7.out⟩
  | none =>
    refine (dec_nay w1 s (by omega) (HE.out.below (Nat.le_refl _) HB1.out) hd).mono ?_
    rintro e w2 ⟨rfl, hb2⟩
    have HQ2 := Lib.hid (HQ1.out.trans (hb2.mono HQ1.out.size))
    clear hb2 hd c0
    obtain ⟨w5, hw5⟩ : ∃ w5, w2.alloc (.cells #[.slice none 0 0, .int .i64 0, .int .i64 0] 46) = w5 := ⟨_, rfl⟩
    have hb5 : Below w2.heap.size w2 w5 := by rw [← hw5]; exact (Below.refl _ _).alloc (Nat.le_refl _) _
    have HQ5 := Lib.hid (HQ2.out.trans (hb5.mono HQ2.out.size))
    have HB5 := Lib.hid (HB0.out.trans (HQ5.out.mono HB0.out.size))
    have hx2 := (HQ2.out.block _ (Array.getElem?_eq_some_iff.1 HX0.out).1).trans HX0.out
    have hx5 := (HQ5.out.block _ (Array.getElem?_eq_some_iff.1 HX0.out).1).trans HX0.out
    have p0 : w2.cell? ⟨W.heap.size, 0, none⟩ = some (.slice A1 n k1) := blkp hx2 0
    have p1 : w2.cell? ⟨W.heap.size, 1, none⟩ = some (.int .i64 st) := blkp hx2 1
    have p2 : w2.cell? ⟨W.heap.size, 2, none⟩ = some (.int .i64 sl) := blkp hx2 2
    have hlW := (Array.getElem?_eq_some_iff.1 hx2).1
    have HX5 := Lib.hid hx5
    have HW5 := Lib.hid hw5
    clear hx5 hx2 hb5 hw5
    go_wp2_with fail
    rw [HW5.out]
    clear p0 p1 p2 hlW
    have HE5 := Lib.hid (HE.out.below (Nat.le_refl _) HB5.out)
    have HEP5 := Lib.hid (HEP.out w5 HB5.out)
    rcases HCH.out with ⟨T, m, hok, ht, hck, hz, hm, hd1, hd2, hd3⟩ | ⟨hok, ht, hck⟩
    · rw [ht, hck] at HEP5
      have HOK := Lib.hid hok
      have hpos : 0 < T.size := by omega
      obtain ⟨hn3, hn1, hn2⟩ := toList_nn hpos
      have HD1 := Lib.hid (fun w he => dec_yes w T (by omega) he hd1)
      have HD2 := Lib.hid (fun w he => dec_nay w (T ++ ⟨#[0]⟩) (by rw [z_size]; omega) he (by rw [z_list]; exact hd2))
      have HD3 := Lib.hid (fun w he => dec_nay w (T.extract 0 m) (by have := cut_size T m; omega) he (by rw [cut_list T m (by simpa using hz)]; exact hd3))
      obtain ⟨X2, hX2⟩ : ∃ X2, T ++ (⟨#[0]⟩ : ByteArray) = X2 := ⟨_, rfl⟩
      obtain ⟨X3, hX3⟩ : ∃ X3, T.extract 0 m = X3 := ⟨_, rfl⟩
      rw [hX2] at HD2
      rw [hX3] at HD3
      have nov : ¬ 9223372036854775807 < T.size + 1 := by omega
      have nov2 : ¬ 9223372036854775807 < m + 1 + 1 := by omega
      have hle : (m : Int) ≤ (T.size : Int) := by omega
      have hsub : (T.size : Int) - 1 = (m : Int) := by omega
      have hsub2 : ((m + 1 : Nat) : Int) - 1 = (m : Int) := by omega
      have hmw : IntKind.i64.wrap (m : Int) = (m : Int) := by rw [IntKind.wrap_i64]; omega
      have hm0 : (0 : Int) ≤ (m : Int) := by omega
      clear ht hck hok hd1 hd2 hd3 hpos
      refine HEP5.out.mono ?_
      rintro e w6 ⟨rfl, hb6⟩
      have HB6 := Lib.hid (HB5.out.trans (hb6.mono HB5.out.size))
      have HX6 := Lib.hid ((hb6.block _ (Array.getElem?_eq_some_iff.1 HX5.out).1).trans HX5.out)
      clear hb6
      go_wp2_with fail
      refine (HD1.out w6 (HE.out.below (Nat.le_refl _) HB6.out)).mono ?_
      rintro e w7 ⟨v7, rfl, ho7, hb7⟩
      obtain ⟨a7, c7, e7⟩ := ho7.slice
      obtain ⟨L7, hL7⟩ : ∃ L7, l.length = L7 := ⟨_, rfl⟩
      rw [hL7] at e7
      subst e7
      have HB7 := Lib.hid (HB6.out.trans (hb7.mono HB6.out.size))
      have HX7 := Lib.hid ((hb7.block _ (Array.getElem?_eq_some_iff.1 HX6.out).1).trans HX6.out)
      obtain ⟨w8, hw8⟩ : ∃ w8, w7.alloc (.cells #[.slice a7 L7 c7, .int .i64 st, .int .i64 sl] 46) = w8 := ⟨_, rfl⟩
      have hb8 : Below w7.heap.size w7 w8 := by rw [← hw8]; exact (Below.refl _ _).alloc (Nat.le_refl _) _
      have hy8 : w8.heap[w7.heap.size]? = some (.cells #[.slice a7 L7 c7, .int .i64 st, .int .i64 sl] 46 (0, 0)) := by rw [← hw8]; exact heap_alloc_new w7 _
      have HB8 := Lib.hid (HB7.out.trans (hb8.mono HB7.out.size))
      have HO8 := Lib.hid (ho7.below hb8 (Nat.le_refl _))
      have HX8 := Lib.hid ((hb8.block _ (Array.getElem?_eq_some_iff.1 HX7.out).1).trans HX7.out)
      have HY8 := Lib.hid hy8
      have HW8 := Lib.hid hw8
      clear ho7 hb7 hb8 hy8 hw8 hL7
      go_wp2_with fail
      rw [HW8.out]
      (try rw [hX2])
      refine (HD2.out w8 (HE.out.below (Nat.le_refl _) HB8.out)).mono ?_
      rintro e w9 ⟨rfl, hb9⟩
      obtain ⟨wa, hwa⟩ : ∃ wa, w9.alloc (.cells #[.slice none 0 0, .int .i64 0, .int .i64 0] 46) = wa := ⟨_, rfl⟩
      have hba : Below w8.heap.size w8 wa := by rw [← hwa]; exact hb9.alloc hb9.size _
      have HBA := Lib.hid (HB8.out.trans (hba.mono HB8.out.size))
      have HQA := Lib.hid hba
      have HWA := Lib.hid hwa
      clear hb9 hba hwa
      go_wp2_with fail
      (try rw [HWA.out])
      (try rw [hX3])
      refine (HD3.out wa (HE.out.below (Nat.le_refl _) HBA.out)).mono ?_
      rintro e wb ⟨rfl, hbb⟩
      obtain ⟨wc, hwc⟩ : ∃ wc, wb.alloc (.cells #[.slice none 0 0, .int .i64 0, .int .i64 0] 46) = wc := ⟨_, rfl⟩
      have hbc : Below w8.heap.size w8 wc := by rw [← hwc]; exact (HQA.out.trans (hbb.mono HQA.out.size)).alloc (Nat.le_trans HQA.out.size hbb.size) _
      have hbq : Below w8.heap.size w8 wb := HQA.out.trans (hbb.mono HQA.out.size)
      have hxb := (hbq.block _ (Array.getElem?_eq_some_iff.1 HX8.out).1).trans HX8.out
      have hyb := (hbq.block _ (Array.getElem?_eq_some_iff.1 HY8.out).1).trans HY8.out
      have q0 : wb.cell? ⟨W.heap.size, 0, none⟩ = some (.slice A1 n k1) := blkp hxb 0
      have q1 : wb.cell? ⟨W.heap.size, 1, none⟩ = some (.int .i64 st) := blkp hxb 1
      have q2 : wb.cell? ⟨W.heap.size, 2, none⟩ = some (.int .i64 sl) := blkp hxb 2
      have r0 : wb.cell? ⟨w7.heap.size, 0, none⟩ = some (.slice a7 L7 c7) := blkp hyb 0
      have r1 : wb.cell? ⟨w7.heap.size, 1, none⟩ = some (.int .i64 st) := blkp hyb 1
      have r2 : wb.cell? ⟨w7.heap.size, 2, none⟩ = some (.int .i64 sl) := blkp hyb 2
      have l1 := (Array.getElem?_eq_some_iff.1 hxb).1
      have l2' := (Array.getElem?_eq_some_iff.1 hyb).1
      have HBC := Lib.hid (HB8.out.trans (hbc.mono HB8.out.size))
      have HSM := Lib.hid (same_any wc _ _ l l st sl st sl (HRP.out.below (Nat.le_refl _) HBC.out) ((HO8.out.below hbc (Nat.le_refl _)).row (by have := HLN.out; omega) (ok_bd HOK.out)))
      rw [decide_eq_true (show st = st ∧ sl = sl ∧ l = l from ⟨rfl, rfl, rfl⟩)] at HSM
      have HWC := Lib.hid hwc
      clear hbb hwc hbc hbq hxb hyb
      go_wp2_with fail
      rw [HWC.out]
      refine HSM.out.mono ?_
      rintro e wd ⟨rfl, hbd⟩
      have HBD := Lib.hid (HBC.out.trans (hbd.mono HBC.out.size))
      clear hbd q0 q1 q2 r0 r1 r2
      go_wp2
      go_ret
      exact ⟨rfl, HBD.out⟩
    · rw [ht, hck] at HEP5
      have HCP2 := Lib.hid HCP.out
      rw [hck] at HCP2
      clear ht hck hok
      refine HEP5.out.mono ?_
      rintro e w6 ⟨rfl, hb6⟩
      have HB6 := Lib.hid (HB5.out.trans (hb6.mono HB5.out.size))
      have hx6 := (hb6.block _ (Array.getElem?_eq_some_iff.1 HX5.out).1).trans HX5.out
      have q0 : w6.cell? ⟨W.heap.size, 0, none⟩ = some (.slice A1 n k1) := blkp hx6 0
      have q1 : w6.cell? ⟨W.heap.size, 1, none⟩ = some (.int .i64 st) := blkp hx6 1
      have q2 : w6.cell? ⟨W.heap.size, 2, none⟩ = some (.int .i64 sl) := blkp hx6 2
      clear hb6 hx6
      go_wp2_with fail
      refine (HCP2.out w6 HB6.out).mono ?_
      rintro e w7 ⟨rfl, hb7⟩
      have HB7 := Lib.hid (HB6.out.trans (hb7.mono HB6.out.size))
      clear hb7 q0 q1 q2
      go_wp2
      go_ret
      exact ⟨rfl, HB7.out⟩
end Pgm
end Go.Proofs.YtfnimmbmcjgdpaaDoor
