/- burinlaw14.ProgBack: the walk. -/
import Derived.Test.YtgonfbfagcajcaaDoorGp26
namespace Go.Proofs.YtgonfbfagcajcaaDoor
open Go.RowKit
set_option linter.unusedVariables false
namespace Pgm
/-- The last line of a program's text. -/
theorem text_tail {l : List In} {st sl : Int} (h : Ok l st sl) : ∃ A C, textL l st sl = A ++ C ++ [10] ∧ C ≠ [] ∧ (10 : UInt8) ∉ C := by
  have hl : l ≠ [] := fun e => by have := h.1; rw [e] at this; simp at this
  obtain ⟨ini, x, rfl⟩ : ∃ ini x, l = ini ++ [x] := ⟨l.dropLast, l.getLast hl, (List.dropLast_concat_getLast hl).symm⟩
  have hf := ok_fit h x (by simp)
  have hop := fit_op hf
  refine ⟨lineL title [st, sl] ++ ini.flatMap instL, wBytes x.op ++ numsL (ownL x), ?_, ?_, ?_⟩
  · unfold textL instL lineL
    simp [List.flatMap_append]
  · intro e
    have h1 : wBytes x.op = [] := (List.append_eq_nil_iff.1 e).1
    obtain ⟨h2, h3⟩ := hop
    rcases (by omega : x.op = 1 ∨ x.op = 2 ∨ x.op = 3 ∨ x.op = 4 ∨ x.op = 5 ∨ x.op = 6) with h | h | h | h | h | h <;> rw [h] at h1 <;> exact absurd h1 (by decide)
  · rw [List.mem_append, not_or]
    exact ⟨word_no 10 (.inl rfl) x.op, nums_no10 _ (fun n hn => (fit_own hf n hn).1)⟩
theorem read_more {l : List In} {st sl : Int} (h : Ok l st sl) : readL (textL l st sl ++ [120]) = none := by
  cases e : readL (textL l st sl ++ [120]) with
  | none => rfl
  | some r =>
    obtain ⟨l2, st2, sl2⟩ := r
    obtain ⟨h1, h2⟩ := read_some e
    obtain ⟨A, C, h3, _, _⟩ := text_tail h1
    rw [h3] at h2
    have := congrArg List.getLast? h2
    simp at this
theorem read_less {l : List In} {st sl : Int} (h : Ok l st sl) : readL (textL l st sl).dropLast = none := by
  cases e : readL (textL l st sl).dropLast with
  | none => rfl
  | some r =>
    obtain ⟨l2, st2, sl2⟩ := r
    obtain ⟨h1, h2⟩ := read_some e
    obtain ⟨A, C, h3, _, _⟩ := text_tail h1
    obtain ⟨A', C', h3', h4', h5'⟩ := text_tail h
    rw [h3, h3', List.dropLast_concat] at h2
    have h6 := congrArg List.getLast? h2
    rw [List.getLast?_concat, List.getLast?_append] at h6
    cases hx : C'.getLast? with
    | none => exact absurd (List.getLast?_eq_none_iff.1 hx) h4'
    | some x =>
      rw [hx] at h6
      simp at h6
      exact absurd (h6 ▸ List.mem_of_getLast? hx) h5'
theorem text_len {l : List In} {st sl : Int} (h : Ok l st sl) (hl : l.length ≤ 100) : (textL l st sl).length ≤ 100000 := by
  have h1 := insts_tlen l (ok_fit h)
  have h2 := nums_len [st, sl] (fun n hn => by
    simp only [List.mem_cons, List.not_mem_nil, or_false] at hn
    obtain ⟨_, _, a1, a2, a3, a4, _⟩ := h
    rcases hn with rfl | rfl <;> omega)
  unfold textL lineL
  simp only [List.length_append, List.length_cons, List.length_nil] at h2 ⊢
  have h3 : title.length = 7 := rfl
  omega
theorem read_yes (W : World) (X : ByteArray) (hz : X.size ≤ 1000000000) (hE : EvP W) {l : List In} {st sl : Int} (hn : readL X.data.toList = some (l, st, sl)) : Calls Tryd.prog 26 #[.string X] W fun e w' => ∃ v, e = .returned (.tuple #[.agg #[v, .int .i64 st, .int .i64 sl], .int .i64 0]) ∧ InOwn w' W.heap.size v l ∧ Below W.heap.size W w' :=
  (read14 W X hz hE).mono fun e w' ⟨h, hb⟩ => by
    rw [hn] at h
    rcases h with ⟨v, l3, st3, sl3, h1, h2, h3⟩ | ⟨h1, _⟩
    · injection h1 with h1; injection h1 with h1 h4; injection h4 with h4 h5
      subst h1; subst h4; subst h5
      exact ⟨v, h2, h3, hb⟩
    · cases h1
theorem read_no (W : World) (X : ByteArray) (hz : X.size ≤ 1000000000) (hE : EvP W) (hn : readL X.data.toList = none) : Calls Tryd.prog 26 #[.string X] W fun e w' => e = .returned (.tuple #[.agg #[.slice none 0 0, .int .i64 0, .int .i64 0], .int .i64 130]) ∧ Below W.heap.size W w' :=
  (read14 W X hz hE).mono fun e w' ⟨h, hb⟩ => by
    rw [hn] at h
    rcases h with ⟨v, l3, st3, sl3, h1, h2, h3⟩ | ⟨_, h2⟩
    · cases h1
    · exact ⟨h2, hb⟩
theorem x_size (T : ByteArray) : (T ++ (⟨#[120]⟩ : ByteArray)).size = T.size + 1 := by rw [ByteArray.size_append]; rfl
theorem x_list (T : ByteArray) : (T ++ (⟨#[120]⟩ : ByteArray)).data.toList = T.data.toList ++ [120] := by rw [ByteArray.data_append, Array.toList_append]
theorem less_list (T : ByteArray) (m : Nat) (h : T.data.toList.length = m + 1) : (T.extract 0 m).data.toList = T.data.toList.dropLast := by
  rw [ByteArray.data_extract, Array.toList_extract, List.extract_eq_take_drop, List.dropLast_eq_take, h]
  simp
theorem less_size (T : ByteArray) (m : Nat) : (T.extract 0 m).size ≤ T.size := by rw [ByteArray.size_extract]; omega
set_option maxRecDepth 100000 in
set_option maxHeartbeats 8000000 in
theorem walkProgBack (W : World) (u : Value) (l : List In) (st sl : Int) (s : ByteArray) (hr : InRow W u l) (hst : I64 st) (hsl : I64 sl) (hs : s.size ≤ 140737488351232) (hE : EvP W) :
    Calls Tryd.prog 7 #[.agg #[u, .int .i64 st, .int .i64 sl], .string s] W fun e w' => e = .returned (.bool true) ∧ Below W.heap.size W w' := by
  obtain ⟨A1, k1, e1, _⟩ := (show ∃ A k, u = .slice A l.length k ∧ True from by obtain ⟨A, k, e, _⟩ := hr; exact ⟨A, k, e, trivial⟩)
  obtain ⟨n, hn⟩ : ∃ n, l.length = n := ⟨_, rfl⟩
  rw [hn] at e1
  subst e1
  obtain ⟨w0, hw0⟩ : ∃ w0, W.alloc (.cells #[.slice A1 n k1, .int .i64 st, .int .i64 sl] 48) = w0 := ⟨_, rfl⟩
  have hb0 : Below W.heap.size W w0 := by rw [← hw0]; exact (Below.refl _ _).alloc (Nat.le_refl _) _
  have hx0 : w0.heap[W.heap.size]? = some (.cells #[.slice A1 n k1, .int .i64 st, .int .i64 sl] 48 (0, 0)) := by rw [← hw0]; exact heap_alloc_new W _
  have HS0 : Hid (w0.heap.size = W.heap.size + 1) := Lib.hid (by rw [← hw0]; simp)
  have HW0 := Lib.hid hw0
  have HB0 := Lib.hid hb0
  have HX0 := Lib.hid hx0
  have HE := Lib.hid hE
  have HR := Lib.hid hr
  have HWK := Lib.hid (works14_any w0 (hE.below hb0))
  have HSP : Hid (∀ w, Below W.heap.size W w → Calls Tryd.prog 24 #[.agg #[.slice A1 n k1, .int .i64 st, .int .i64 sl]] w fun e w' => e = .returned (.tuple #[.string (shS l st sl), .int .i64 (chk l st sl)]) ∧ Below w.heap.size w w') := Lib.hid (fun w h => show14 l st sl _ w (hr.below (Nat.le_refl _) h) (hE.below h))
  have HCP : Hid (∀ w, Below W.heap.size W w → Calls Tryd.prog 20 #[.agg #[.slice A1 n k1, .int .i64 st, .int .i64 sl]] w fun e w' => e = .returned (.int .i64 (chk l st sl)) ∧ Below w.heap.size w w') := Lib.hid (fun w h => check_any l st sl _ w (hr.below (Nat.le_refl _) h) (hE.below h).ops)
  clear hb0 hx0 hw0 hE hr hst hsl
  have n0 : (0 : Int) ≤ (n : Int) := by omega
  by_cases hn100 : (100 : Int) < (n : Int)
  · clear hs
    go_enter Tryd.func7, Tryd.ntmps7
    go_wp2_with (rw [HW0.out])
    refine HWK.out.mono ?_
    rintro e w1 ⟨rfl, hb1⟩
    have HB1 := Lib.hid (HB0.out.trans (hb1.mono HB0.out.size))
    have c0 : w1.cell? ⟨W.heap.size, 0, none⟩ = some (.slice A1 n k1) := blkp ((hb1.block _ (Array.getElem?_eq_some_iff.1 HX0.out).1).trans HX0.out) 0
    clear hb1
    go_wp2
    go_ret
    exact ⟨rfl, HB1.out⟩
  by_cases hs3 : (3000 : Int) < (s.size : Int)
  · clear hs
    go_enter Tryd.func7, Tryd.ntmps7
    go_wp2_with (rw [HW0.out])
    refine HWK.out.mono ?_
    rintro e w1 ⟨rfl, hb1⟩
    have HB1 := Lib.hid (HB0.out.trans (hb1.mono HB0.out.size))
    have c0 : w1.cell? ⟨W.heap.size, 0, none⟩ = some (.slice A1 n k1) := blkp ((hb1.block _ (Array.getElem?_eq_some_iff.1 HX0.out).1).trans HX0.out) 0
    clear hb1
    go_wp2
    go_ret
    exact ⟨rfl, HB1.out⟩
  have HRD := Lib.hid (fun w hw => read14 w s (by omega) hw)
  have hch : (∃ T m, Ok l st sl ∧ txB (textL l st sl) = T ∧ shS l st sl = T ∧ chk l st sl = 0 ∧ T.size = m + 1 ∧ m ≤ 100000) ∨ (¬ Ok l st sl ∧ shS l st sl = ⟨#[]⟩ ∧ chk l st sl = 130) := by
    by_cases hok : Ok l st sl
    · have h1 := text_len hok (by omega)
      obtain ⟨A, C, h3, _, _⟩ := text_tail hok
      have h4 : (txB (textL l st sl)).size = (A ++ C).length + 1 := by rw [txB_size, h3]; simp only [List.length_append, List.length_cons, List.length_nil]
      refine .inl ⟨_, _, hok, rfl, ?_, chk_ok hok, h4, ?_⟩
      · unfold shS; rw [if_pos hok]
      · rw [txB_size] at h4; omega
    · refine .inr ⟨hok, ?_, chk_not hok⟩
      unfold shS; rw [if_neg hok]
  have HCH := Lib.hid hch
  have hsq : (s.toList == s.toList) = true := by simp
  clear hs hch
  go_enter Tryd.func7, Tryd.ntmps7
  go_wp2_with (rw [HW0.out])
  refine HWK.out.mono ?_
  rintro e w1 ⟨rfl, hb1⟩
  have HB1 := Lib.hid (HB0.out.trans (hb1.mono HB0.out.size))
  have hx1 := (hb1.block _ (Array.getElem?_eq_some_iff.1 HX0.out).1).trans HX0.out
  have HX1 := Lib.hid hx1
  have c0 : w1.cell? ⟨W.heap.size, 0, none⟩ = some (.slice A1 n k1) := blkp hx1 0
  clear hb1 hx1
  go_wp2_with fail
  refine (HRD.out w1 (HE.out.below HB1.out)).mono ?_
  rintro e w2 ⟨h, hb2⟩
  have HB2 := Lib.hid (HB1.out.trans (hb2.mono HB1.out.size))
  have HX2 := Lib.hid ((hb2.block _ (Array.getElem?_eq_some_iff.1 HX1.out).1).trans HX1.out)
  clear hb2 c0
  rcases h with ⟨v, l2, st2, sl2, hrd, rfl, ho⟩ | ⟨hrd, rfl⟩
  · obtain ⟨hok2, htx2⟩ := read_some hrd
    obtain ⟨A9, k9, e9⟩ := ho.slice
    obtain ⟨L9, hL9⟩ : ∃ L9, l2.length = L9 := ⟨_, rfl⟩
    rw [hL9] at e9
    subst e9
    obtain ⟨w3, hw3⟩ : ∃ w3, w2.alloc (.cells #[.slice A9 L9 k9, .int .i64 st2, .int .i64 sl2] 48) = w3 := ⟨_, rfl⟩
    have hb3 : Below w2.heap.size w2 w3 := by rw [← hw3]; exact (Below.refl _ _).alloc (Nat.le_refl _) _
    have HY3 : Hid (w3.heap[w2.heap.size]? = some (.cells #[.slice A9 L9 k9, .int .i64 st2, .int .i64 sl2] 48 (0, 0))) := Lib.hid (by rw [← hw3]; exact heap_alloc_new w2 _)
    have HX3 := Lib.hid ((hb3.block _ (Array.getElem?_eq_some_iff.1 HX2.out).1).trans HX2.out)
    have HB3 := Lib.hid (HB2.out.trans (hb3.mono HB2.out.size))
    have HRW2 := Lib.hid ((ho.below hb3 (Nat.le_refl _)).row (by have := hok2.2.1; omega) (by
      have h9 := instsX_bd 4001 (cutB 10 s.data.toList)
      unfold readL at hrd
      split at hrd
      · injection hrd with hrd; injection hrd with h1 _; rw [← h1]; exact h9
      · cases hrd))
    have HS2 := Lib.hid (show14 l2 st2 sl2 _ w3 HRW2.out (HE.out.below HB3.out))
    rw [show shS l2 st2 sl2 = s by unfold shS; rw [if_pos hok2, htx2, txB_of], chk_ok hok2] at HS2
    have HC2 := Lib.hid (fun w (h : Below w3.heap.size w3 w) => check_any l2 st2 sl2 _ w (HRW2.out.below (Nat.le_refl _) h) (HE.out.below (HB3.out.trans (h.mono HB3.out.size))).ops)
    rw [chk_ok hok2] at HC2
    have r0 : w3.cell? ⟨w2.heap.size, 0, none⟩ = some (.slice A9 L9 k9) := blkp HY3.out 0
    have r1 : w3.cell? ⟨w2.heap.size, 1, none⟩ = some (.int .i64 st2) := blkp HY3.out 1
    have r2 : w3.cell? ⟨w2.heap.size, 2, none⟩ = some (.int .i64 sl2) := blkp HY3.out 2
    clear hrd ho hok2 htx2 hL9 hb3
    go_wp2_with fail
    refine HS2.out.mono ?_
    rintro e w4 ⟨rfl, hb4⟩
    have HD4 := Lib.hid hb4
    have HB4 := Lib.hid (HB3.out.trans (hb4.mono HB3.out.size))
    have hy4 := (hb4.block _ (Array.getElem?_eq_some_iff.1 HY3.out).1).trans HY3.out
    have HX4 := Lib.hid ((hb4.block _ (Array.getElem?_eq_some_iff.1 HX3.out).1).trans HX3.out)
    have q0 : w4.cell? ⟨w2.heap.size, 0, none⟩ = some (.slice A9 L9 k9) := blkp hy4 0
    have q1 : w4.cell? ⟨w2.heap.size, 1, none⟩ = some (.int .i64 st2) := blkp hy4 1
    have q2 : w4.cell? ⟨w2.heap.size, 2, none⟩ = some (.int .i64 sl2) := blkp hy4 2
    clear hb4 hw3 hy4 r0 r1 r2
    go_wp2_with fail
    refine (HC2.out w4 HD4.out).mono ?_
    rintro e wx ⟨rfl, hbx⟩
    have HBX := Lib.hid (HB4.out.trans (hbx.mono HB4.out.size))
    have hxx := (hbx.block _ (Array.getElem?_eq_some_iff.1 HX4.out).1).trans HX4.out
    have HXX := Lib.hid hxx
    have c0 : wx.cell? ⟨W.heap.size, 0, none⟩ = some (.slice A1 n k1) := blkp hxx 0
    have c1 : wx.cell? ⟨W.heap.size, 1, none⟩ = some (.int .i64 st) := blkp hxx 1
    have c2 : wx.cell? ⟨W.heap.size, 2, none⟩ = some (.int .i64 sl) := blkp hxx 2
    clear hbx hxx q0 q1 q2
    go_wp2_with fail
    clear c0 c1 c2
    -- the program itself
    refine (HSP.out wx HBX.out).mono ?_
    rintro e wy ⟨rfl, hby⟩
    have HBY := Lib.hid (HBX.out.trans (hby.mono HBX.out.size))
    have hxy := (hby.block _ (Array.getElem?_eq_some_iff.1 HXX.out).1).trans HXX.out
    have HXY := Lib.hid hxy
    clear hby
    rcases HCH.out with ⟨T, m, hok, hT, hsh, hck, hm, hm1⟩ | ⟨hok, hsh, hck⟩
    case inr =>
      have HCQ := Lib.hid (HCP.out wy HBY.out)
      rw [hck] at HCQ
      rw [hsh, hck]
      have c0 : wy.cell? ⟨W.heap.size, 0, none⟩ = some (.slice A1 n k1) := blkp hxy 0
      have c1 : wy.cell? ⟨W.heap.size, 1, none⟩ = some (.int .i64 st) := blkp hxy 1
      have c2 : wy.cell? ⟨W.heap.size, 2, none⟩ = some (.int .i64 sl) := blkp hxy 2
      clear hok hsh hck hxy
      go_wp2_with fail
      refine HCQ.out.mono ?_
      rintro e wz ⟨rfl, hbz⟩
      have HBZ := Lib.hid (HBY.out.trans (hbz.mono HBY.out.size))
      clear hbz c0 c1 c2
      go_wp2
      go_ret
      exact ⟨rfl, HBZ.out⟩
    case inl =>
      rw [hsh, hck]
      have htd : T.data.toList = textL l st sl := by rw [← hT, txB_list]
      have hlt : T.data.toList.length = m + 1 := by rw [← hm]; simp
      have HRT := Lib.hid (fun w hw => read_yes w T (by omega) hw (by rw [htd]; exact read_text hok))
      have HRX := Lib.hid (fun w hw => read_no w (T ++ (⟨#[120]⟩ : ByteArray)) (by rw [x_size]; omega) hw (by rw [x_list, htd]; exact read_more hok))
      have HRL := Lib.hid (fun w hw => read_no w (T.extract 0 m) (by have := less_size T m; omega) hw (by rw [less_list T m hlt, htd]; exact read_less hok))
      have hn1 : ¬ T.toList = [] := by
        rw [ByteArray.toList_eq]
        intro e
        rw [e] at hlt
        cases hlt
      have hn2 : (T.toList == []) = false := by rw [beq_eq_false_iff_ne]; exact hn1
      have hn3 : T.toList.isEmpty = false := by rw [Bool.eq_false_iff]; exact fun h => hn1 (List.isEmpty_iff.1 h)
      have hn4 : (T.toList == (⟨#[]⟩ : ByteArray).toList) = false := by rw [show (⟨#[]⟩ : ByteArray).toList = [] by rw [ByteArray.toList_eq]]; exact hn2
      have hwr : IntKind.i64.wrap ((T.size : Int) - 1) = ((m : Nat) : Int) := by rw [IntKind.wrap_i64, hm]; omega
      have hz1 : ¬ (9223372036854775807 < T.size + 1) := by omega
      have hz2 : ¬ (9223372036854775807 < T.size + (⟨#[120]⟩ : ByteArray).size) := hz1
      have m0 : (0 : Int) ≤ (m : Int) := by omega
      have m1 : (m : Int) ≤ (T.size : Int) := by omega
      have m2 : m ≤ T.size := by omega
      have HM := Lib.hid hm
      clear hok hsh hck hxy hT htd hm hm1 hlt
      go_wp2_with fail
      refine (HRT.out wy (HE.out.below HBY.out)).mono ?_
      rintro e wa ⟨v5, rfl, ho5, hba⟩
      obtain ⟨A5, k5, e5⟩ := ho5.slice
      rw [hn] at e5
      subst e5
      have HBA := Lib.hid (HBY.out.trans (hba.mono HBY.out.size))
      have HXA := Lib.hid ((hba.block _ (Array.getElem?_eq_some_iff.1 HXY.out).1).trans HXY.out)
      obtain ⟨wb, hwb⟩ : ∃ wb, wa.alloc (.cells #[.slice A5 n k5, .int .i64 st, .int .i64 sl] 48) = wb := ⟨_, rfl⟩
      have hbb : Below wa.heap.size wa wb := by rw [← hwb]; exact (Below.refl _ _).alloc (Nat.le_refl _) _
      have HYB : Hid (wb.heap[wa.heap.size]? = some (.cells #[.slice A5 n k5, .int .i64 st, .int .i64 sl] 48 (0, 0))) := Lib.hid (by rw [← hwb]; exact heap_alloc_new wa _)
      have HXB := Lib.hid ((hbb.block _ (Array.getElem?_eq_some_iff.1 HXA.out).1).trans HXA.out)
      have HBB := Lib.hid (HBA.out.trans (hbb.mono HBA.out.size))
      have HOB := Lib.hid (ho5.below hbb (Nat.le_refl _))
      clear ho5 hba hbb
      go_wp2_with fail
      refine (HRX.out wb (HE.out.below HBB.out)).mono ?_
      rintro e wc ⟨rfl, hbc⟩
      have HBC := Lib.hid (HBB.out.trans (hbc.mono HBB.out.size))
      have HXC := Lib.hid ((hbc.block _ (Array.getElem?_eq_some_iff.1 HXB.out).1).trans HXB.out)
      have HYC := Lib.hid ((hbc.block _ (Array.getElem?_eq_some_iff.1 HYB.out).1).trans HYB.out)
      have HOC := Lib.hid (HOB.out.below hbc (Nat.le_refl _))
      obtain ⟨wd, hwd⟩ : ∃ wd, wc.alloc (.cells #[.slice none 0 0, .int .i64 0, .int .i64 0] 48) = wd := ⟨_, rfl⟩
      have hbd : Below wc.heap.size wc wd := by rw [← hwd]; exact (Below.refl _ _).alloc (Nat.le_refl _) _
      have HBD := Lib.hid (HBC.out.trans (hbd.mono HBC.out.size))
      have HXD := Lib.hid ((hbd.block _ (Array.getElem?_eq_some_iff.1 HXC.out).1).trans HXC.out)
      have HYD := Lib.hid ((hbd.block _ (Array.getElem?_eq_some_iff.1 HYC.out).1).trans HYC.out)
      have HOD := Lib.hid (HOC.out.below hbd (Nat.le_refl _))
      have HWD := Lib.hid hwd
      clear hbc hbd hwb hwd
      go_wp2_with fail
      rw [HWD.out]
      refine (HRL.out wd (HE.out.below HBD.out)).mono ?_
      rintro e we ⟨rfl, hbe⟩
      have HBE := Lib.hid (HBD.out.trans (hbe.mono HBD.out.size))
      have HXE := Lib.hid ((hbe.block _ (Array.getElem?_eq_some_iff.1 HXD.out).1).trans HXD.out)
      have HYE := Lib.hid ((hbe.block _ (Array.getElem?_eq_some_iff.1 HYD.out).1).trans HYD.out)
      have HOE := Lib.hid (HOD.out.below hbe (Nat.le_refl _))
      obtain ⟨wf, hwf⟩ : ∃ wf, we.alloc (.cells #[.slice none 0 0, .int .i64 0, .int .i64 0] 48) = wf := ⟨_, rfl⟩
      have hbf : Below we.heap.size we wf := by rw [← hwf]; exact (Below.refl _ _).alloc (Nat.le_refl _) _
      have HBF := Lib.hid (HBE.out.trans (hbf.mono HBE.out.size))
      have hxf := ((hbf.block _ (Array.getElem?_eq_some_iff.1 HXE.out).1).trans HXE.out)
      have hyf := ((hbf.block _ (Array.getElem?_eq_some_iff.1 HYE.out).1).trans HYE.out)
      have HOF := Lib.hid (HOE.out.below hbf (Nat.le_refl _))
      have HXF := Lib.hid hxf
      have HYF := Lib.hid hyf
      have HRW := Lib.hid (HOF.out.row (by omega) (by obtain ⟨_, _, _, _, hb, _⟩ := HR.out; exact hb))
      have HSM := Lib.hid (fun w (h : Below wf.heap.size wf w) => sameProg_any w _ _ l l st sl st sl (HR.out.below (Nat.le_refl _) (HBF.out.trans (h.mono HBF.out.size))) (HRW.out.below (Nat.le_refl _) h))
      have HSN := Lib.hid (fun w (h : Below wf.heap.size wf w) => same_any w _ _ l l st sl st sl (HR.out.below (Nat.le_refl _) (HBF.out.trans (h.mono HBF.out.size))) (HRW.out.below (Nat.le_refl _) h))
      rw [show decide (st = st ∧ sl = sl ∧ l = l) = true by simp] at HSM HSN
      have c0 : (we.alloc (.cells #[.slice none 0 0, .int .i64 0, .int .i64 0] 48)).cell? ⟨W.heap.size, 0, none⟩ = some (.slice A1 n k1) := by rw [hwf]; exact blkp hxf 0
      have c1 : (we.alloc (.cells #[.slice none 0 0, .int .i64 0, .int .i64 0] 48)).cell? ⟨W.heap.size, 1, none⟩ = some (.int .i64 st) := by rw [hwf]; exact blkp hxf 1
      have c2 : (we.alloc (.cells #[.slice none 0 0, .int .i64 0, .int .i64 0] 48)).cell? ⟨W.heap.size, 2, none⟩ = some (.int .i64 sl) := by rw [hwf]; exact blkp hxf 2
      have d0 : (we.alloc (.cells #[.slice none 0 0, .int .i64 0, .int .i64 0] 48)).cell? ⟨wa.heap.size, 0, none⟩ = some (.slice A5 n k5) := by rw [hwf]; exact blkp hyf 0
      have d1 : (we.alloc (.cells #[.slice none 0 0, .int .i64 0, .int .i64 0] 48)).cell? ⟨wa.heap.size, 1, none⟩ = some (.int .i64 st) := by rw [hwf]; exact blkp hyf 1
      have d2 : (we.alloc (.cells #[.slice none 0 0, .int .i64 0, .int .i64 0] 48)).cell? ⟨wa.heap.size, 2, none⟩ = some (.int .i64 sl) := by rw [hwf]; exact blkp hyf 2
      have HWF := Lib.hid hwf
      clear hbe hbf hxf hyf hwf
      go_wp2_with fail
      rw [HWF.out]
      refine (HSM.out wf (Below.refl _ _)).mono ?_
      rintro e wg ⟨rfl, hbg⟩
      have HBG := Lib.hid hbg
      have hxg := ((hbg.block _ (Array.getElem?_eq_some_iff.1 HXF.out).1).trans HXF.out)
      have hyg := ((hbg.block _ (Array.getElem?_eq_some_iff.1 HYF.out).1).trans HYF.out)
      clear c0 c1 c2 d0 d1 d2 hbg
      have c0 : wg.cell? ⟨W.heap.size, 0, none⟩ = some (.slice A1 n k1) := blkp hxg 0
      have c1 : wg.cell? ⟨W.heap.size, 1, none⟩ = some (.int .i64 st) := blkp hxg 1
      have c2 : wg.cell? ⟨W.heap.size, 2, none⟩ = some (.int .i64 sl) := blkp hxg 2
      have d0 : wg.cell? ⟨wa.heap.size, 0, none⟩ = some (.slice A5 n k5) := blkp hyg 0
      have d1 : wg.cell? ⟨wa.heap.size, 1, none⟩ = some (.int .i64 st) := blkp hyg 1
      have d2 : wg.cell? ⟨wa.heap.size, 2, none⟩ = some (.int .i64 sl) := blkp hyg 2
      clear hxg hyg
      go_wp2_with fail
      refine (HSN.out wg HBG.out).mono ?_
      rintro e wh ⟨rfl, hbh⟩
      have HBH := Lib.hid (HBF.out.trans ((HBG.out.trans (hbh.mono HBG.out.size)).mono HBF.out.size))
      clear hbh c0 c1 c2 d0 d1 d2
      go_wp2
      go_ret
      exact ⟨rfl, HBH.out⟩
  · obtain ⟨wx, hwx⟩ : ∃ wx, w2.alloc (.cells #[.slice none 0 0, .int .i64 0, .int .i64 0] 48) = wx := ⟨_, rfl⟩
    have hbx : Below w2.heap.size w2 wx := by rw [← hwx]; exact (Below.refl _ _).alloc (Nat.le_refl _) _
    have hyx : wx.heap[w2.heap.size]? = some (.cells #[.slice none 0 0, .int .i64 0, .int .i64 0] 48 (0, 0)) := by rw [← hwx]; exact heap_alloc_new w2 _
    have hxx := (hbx.block _ (Array.getElem?_eq_some_iff.1 HX2.out).1).trans HX2.out
    have HXX := Lib.hid hxx
    have HBX := Lib.hid (HB2.out.trans (hbx.mono HB2.out.size))
    have c0 : (w2.alloc (.cells #[.slice none 0 0, .int .i64 0, .int .i64 0] 48)).cell? ⟨W.heap.size, 0, none⟩ = some (.slice A1 n k1) := by rw [hwx]; exact blkp hxx 0
    have c1 : (w2.alloc (.cells #[.slice none 0 0, .int .i64 0, .int .i64 0] 48)).cell? ⟨W.heap.size, 1, none⟩ = some (.int .i64 st) := by rw [hwx]; exact blkp hxx 1
    have c2 : (w2.alloc (.cells #[.slice none 0 0, .int .i64 0, .int .i64 0] 48)).cell? ⟨W.heap.size, 2, none⟩ = some (.int .i64 sl) := by rw [hwx]; exact blkp hxx 2
    have HWX := Lib.hid hwx
    clear hbx hxx hyx hrd hwx
    go_wp2_with fail
    rw [HWX.out]
    clear c0 c1 c2
    -- the program itself
    refine (HSP.out wx HBX.out).mono ?_
    rintro e wy ⟨rfl, hby⟩
    have HBY := Lib.hid (HBX.out.trans (hby.mono HBX.out.size))
    have hxy := (hby.block _ (Array.getElem?_eq_some_iff.1 HXX.out).1).trans HXX.out
    have HXY := Lib.hid hxy
    clear hby
    rcases HCH.out with ⟨T, m, hok, hT, hsh, hck, hm, hm1⟩ | ⟨hok, hsh, hck⟩
    case inr =>
      have HCQ := Lib.hid (HCP.out wy HBY.out)
      rw [hck] at HCQ
      rw [hsh, hck]
      have c0 : wy.cell? ⟨W.heap.size, 0, none⟩ = some (.slice A1 n k1) := blkp hxy 0
      have c1 : wy.cell? ⟨W.heap.size, 1, none⟩ = some (.int .i64 st) := blkp hxy 1
      have c2 : wy.cell? ⟨W.heap.size, 2, none⟩ = some (.int .i64 sl) := blkp hxy 2
      clear hok hsh hck hxy
      go_wp2_with fail
      refine HCQ.out.mono ?_
      rintro e wz ⟨rfl, hbz⟩
      have HBZ := Lib.hid (HBY.out.trans (hbz.mono HBY.out.size))
      clear hbz c0 c1 c2
      go_wp2
      go_ret
      exact ⟨rfl, HBZ.out⟩
    case inl =>
      rw [hsh, hck]
      have htd : T.data.toList = textL l st sl := by rw [← hT, txB_list]
      have hlt : T.data.toList.length = m + 1 := by rw [← hm]; simp
      have HRT := Lib.hid (fun w hw => read_yes w T (by omega) hw (by rw [htd]; exact read_text hok))
      have HRX := Lib.hid (fun w hw => read_no w (T ++ (⟨#[120]⟩ : ByteArray)) (by rw [x_size]; omega) hw (by rw [x_list, htd]; exact read_more hok))
      have HRL := Lib.hid (fun w hw => read_no w (T.extract 0 m) (by have := less_size T m; omega) hw (by rw [less_list T m hlt, htd]; exact read_less hok))
      have hn1 : ¬ T.toList = [] := by
        rw [ByteArray.toList_eq]
        intro e
        rw [e] at hlt
        cases hlt
      have hn2 : (T.toList == []) = false := by rw [beq_eq_false_iff_ne]; exact hn1
      have hn3 : T.toList.isEmpty = false := by rw [Bool.eq_false_iff]; exact fun h => hn1 (List.isEmpty_iff.1 h)
      have hn4 : (T.toList == (⟨#[]⟩ : ByteArray).toList) = false := by rw [show (⟨#[]⟩ : ByteArray).toList = [] by rw [ByteArray.toList_eq]]; exact hn2
      have hwr : IntKind.i64.wrap ((T.size : Int) - 1) = ((m : Nat) : Int) := by rw [IntKind.wrap_i64, hm]; omega
      have hz1 : ¬ (9223372036854775807 < T.size + 1) := by omega
      have hz2 : ¬ (9223372036854775807 < T.size + (⟨#[120]⟩ : ByteArray).size) := hz1
      have m0 : (0 : Int) ≤ (m : Int) := by omega
      have m1 : (m : Int) ≤ (T.size : Int) := by omega
      have m2 : m ≤ T.size := by omega
      have HM := Lib.hid hm
      clear hok hsh hck hxy hT htd hm hm1 hlt
      go_wp2_with fail
      refine (HRT.out wy (HE.out.below HBY.out)).mono ?_
      rintro e wa ⟨v5, rfl, ho5, hba⟩
      obtain ⟨A5, k5, e5⟩ := ho5.slice
      rw [hn] at e5
      subst e5
      have HBA := Lib.hid (HBY.out.trans (hba.mono HBY.out.size))
      have HXA := Lib.hid ((hba.block _ (Array.getElem?_eq_some_iff.1 HXY.out).1).trans HXY.out)
      obtain ⟨wb, hwb⟩ : ∃ wb, wa.alloc (.cells #[.slice A5 n k5, .int .i64 st, .int .i64 sl] 48) = wb := ⟨_, rfl⟩
      have hbb : Below wa.heap.size wa wb := by rw [← hwb]; exact (Below.refl _ _).alloc (Nat.le_refl _) _
      have HYB : Hid (wb.heap[wa.heap.size]? = some (.cells #[.slice A5 n k5, .int .i64 st, .int .i64 sl] 48 (0, 0))) := Lib.hid (by rw [← hwb]; exact heap_alloc_new wa _)
      have HXB := Lib.hid ((hbb.block _ (Array.getElem?_eq_some_iff.1 HXA.out).1).trans HXA.out)
      have HBB := Lib.hid (HBA.out.trans (hbb.mono HBA.out.size))
      have HOB := Lib.hid (ho5.below hbb (Nat.le_refl _))
      clear ho5 hba hbb
      go_wp2_with fail
      refine (HRX.out wb (HE.out.below HBB.out)).mono ?_
      rintro e wc ⟨rfl, hbc⟩
      have HBC := Lib.hid (HBB.out.trans (hbc.mono HBB.out.size))
      have HXC := Lib.hid ((hbc.block _ (Array.getElem?_eq_some_iff.1 HXB.out).1).trans HXB.out)
      have HYC := Lib.hid ((hbc.block _ (Array.getElem?_eq_some_iff.1 HYB.out).1).trans HYB.out)
      have HOC := Lib.hid (HOB.out.below hbc (Nat.le_refl _))
      obtain ⟨wd, hwd⟩ : ∃ wd, wc.alloc (.cells #[.slice none 0 0, .int .i64 0, .int .i64 0] 48) = wd := ⟨_, rfl⟩
      have hbd : Below wc.heap.size wc wd := by rw [← hwd]; exact (Below.refl _ _).alloc (Nat.le_refl _) _
      have HBD := Lib.hid (HBC.out.trans (hbd.mono HBC.out.size))
      have HXD := Lib.hid ((hbd.block _ (Array.getElem?_eq_some_iff.1 HXC.out).1).trans HXC.out)
      have HYD := Lib.hid ((hbd.block _ (Array.getElem?_eq_some_iff.1 HYC.out).1).trans HYC.out)
      have HOD := Lib.hid (HOC.out.below hbd (Nat.le_refl _))
      have HWD := Lib.hid hwd
      clear hbc hbd hwb hwd
      go_wp2_with fail
      rw [HWD.out]
      refine (HRL.out wd (HE.out.below HBD.out)).mono ?_
      rintro e we ⟨rfl, hbe⟩
      have HBE := Lib.hid (HBD.out.trans (hbe.mono HBD.out.size))
      have HXE := Lib.hid ((hbe.block _ (Array.getElem?_eq_some_iff.1 HXD.out).1).trans HXD.out)
      have HYE := Lib.hid ((hbe.block _ (Array.getElem?_eq_some_iff.1 HYD.out).1).trans HYD.out)
      have HOE := Lib.hid (HOD.out.below hbe (Nat.le_refl _))
      obtain ⟨wf, hwf⟩ : ∃ wf, we.alloc (.cells #[.slice none 0 0, .int .i64 0, .int .i64 0] 48) = wf := ⟨_, rfl⟩
      have hbf : Below we.heap.size we wf := by rw [← hwf]; exact (Below.refl _ _).alloc (Nat.le_refl _) _
      have HBF := Lib.hid (HBE.out.trans (hbf.mono HBE.out.size))
      have hxf := ((hbf.block _ (Array.getElem?_eq_some_iff.1 HXE.out).1).trans HXE.out)
      have hyf := ((hbf.block _ (Array.getElem?_eq_some_iff.1 HYE.out).1).trans HYE.out)
      have HOF := Lib.hid (HOE.out.below hbf (Nat.le_refl _))
      have HXF := Lib.hid hxf
      have HYF := Lib.hid hyf
      have HRW := Lib.hid (HOF.out.row (by omega) (by obtain ⟨_, _, _, _, hb, _⟩ := HR.out; exact hb))
      have HSM := Lib.hid (fun w (h : Below wf.heap.size wf w) => sameProg_any w _ _ l l st sl st sl (HR.out.below (Nat.le_refl _) (HBF.out.trans (h.mono HBF.out.size))) (HRW.out.below (Nat.le_refl _) h))
      have HSN := Lib.hid (fun w (h : Below wf.heap.size wf w) => same_any w _ _ l l st sl st sl (HR.out.below (Nat.le_refl _) (HBF.out.trans (h.mono HBF.out.size))) (HRW.out.below (Nat.le_refl _) h))
      rw [show decide (st = st ∧ sl = sl ∧ l = l) = true by simp] at HSM HSN
      have c0 : (we.alloc (.cells #[.slice none 0 0, .int .i64 0, .int .i64 0] 48)).cell? ⟨W.heap.size, 0, none⟩ = some (.slice A1 n k1) := by rw [hwf]; exact blkp hxf 0
      have c1 : (we.alloc (.cells #[.slice none 0 0, .int .i64 0, .int .i64 0] 48)).cell? ⟨W.heap.size, 1, none⟩ = some (.int .i64 st) := by rw [hwf]; exact blkp hxf 1
      have c2 : (we.alloc (.cells #[.slice none 0 0, .int .i64 0, .int .i64 0] 48)).cell? ⟨W.heap.size, 2, none⟩ = some (.int .i64 sl) := by rw [hwf]; exact blkp hxf 2
      have d0 : (we.alloc (.cells #[.slice none 0 0, .int .i64 0, .int .i64 0] 48)).cell? ⟨wa.heap.size, 0, none⟩ = some (.slice A5 n k5) := by rw [hwf]; exact blkp hyf 0
      have d1 : (we.alloc (.cells #[.slice none 0 0, .int .i64 0, .int .i64 0] 48)).cell? ⟨wa.heap.size, 1, none⟩ = some (.int .i64 st) := by rw [hwf]; exact blkp hyf 1
      have d2 : (we.alloc (.cells #[.slice none 0 0, .int .i64 0, .int .i64 0] 48)).cell? ⟨wa.heap.size, 2, none⟩ = some (.int .i64 sl) := by rw [hwf]; exact blkp hyf 2
      have HWF := Lib.hid hwf
      clear hbe hbf hxf hyf hwf
      go_wp2_with fail
      rw [HWF.out]
      refine (HSM.out wf (Below.refl _ _)).mono ?_
      rintro e wg ⟨rfl, hbg⟩
      have HBG := Lib.hid hbg
      have hxg := ((hbg.block _ (Array.getElem?_eq_some_iff.1 HXF.out).1).trans HXF.out)
      have hyg := ((hbg.block _ (Array.getElem?_eq_some_iff.1 HYF.out).1).trans HYF.out)
      clear c0 c1 c2 d0 d1 d2 hbg
      have c0 : wg.cell? ⟨W.heap.size, 0, none⟩ = some (.slice A1 n k1) := blkp hxg 0
      have c1 : wg.cell? ⟨W.heap.size, 1, none⟩ = some (.int .i64 st) := blkp hxg 1
      have c2 : wg.cell? ⟨W.heap.size, 2, none⟩ = some (.int .i64 sl) := blkp hxg 2
      have d0 : wg.cell? ⟨wa.heap.size, 0, none⟩ = some (.slice A5 n k5) := blkp hyg 0
      have d1 : wg.cell? ⟨wa.heap.size, 1, none⟩ = some (.int .i64 st) := blkp hyg 1
      have d2 : wg.cell? ⟨wa.heap.size, 2, none⟩ = some (.int .i64 sl) := blkp hyg 2
      clear hxg hyg
      go_wp2_with fail
      refine (HSN.out wg HBG.out).mono ?_
      rintro e wh ⟨rfl, hbh⟩
      have HBH := Lib.hid (HBF.out.trans ((HBG.out.trans (hbh.mono HBG.out.size)).mono HBF.out.size))
      clear hbh c0 c1 c2 d0 d1 d2
      go_wp2
      go_ret
      exact ⟨rfl, HBH.out⟩
end Pgm
end Go.Proofs.YtgonfbfagcajcaaDoor
