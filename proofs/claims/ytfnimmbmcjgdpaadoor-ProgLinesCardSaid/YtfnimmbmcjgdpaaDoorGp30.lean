/- The landed prog: Read. -/
import Derived.Test.YtfnimmbmcjgdpaaDoorGp29
namespace Go.Proofs.YtfnimmbmcjgdpaaDoor
open Go.RowKit
set_option linter.unusedVariables false
namespace Pgm
theorem i64_num (t : List UInt8) : I64 (numV t) := atoiV_bd _
theorem instOf_bd (o : Nat) (ho : o < 7) (r : List UInt8) : (instOf (o : Int) r).bd := by
  have h0 : I64 (0 : Int) := ⟨by decide, by decide⟩
  have ho2 : I64 (o : Int) := ⟨by omega, by omega⟩
  unfold instOf In.bd
  (repeat' split) <;> simp only [] <;> refine ⟨?_, ?_, ?_, ?_, ?_⟩ <;> first | exact h0 | exact ho2 | exact i64_num _ | exact ⟨by decide, by decide⟩
theorem instX_bd (l : List UInt8) : (instX l).bd := by
  unfold instX
  obtain ⟨o, ho, e⟩ := opOf_lt (cutA 32 l)
  rw [e]
  exact instOf_bd o ho _
theorem instsX_bd : ∀ (f : Nat) (s : List UInt8), ∀ i ∈ instsX f s, i.bd
  | 0, s, i, h => by simp [instsX] at h
  | f + 1, s, i, h => by
    unfold instsX at h
    split at h
    · simp at h
    · rcases List.mem_cons.1 h with rfl | h
      · exact instX_bd _
      · exact instsX_bd f _ i h
theorem show14 (l : List In) (st sl : Int) (vs : Value) (W : World) (hr : InRow W vs l) (hE : EvP W) : Calls Tryd.prog 19 #[.agg #[vs, .int .i64 st, .int .i64 sl]] W fun e w' => e = .returned (.tuple #[.string (shS l st sl), .int .i64 (chk l st sl)]) ∧ Below W.heap.size W w' := by
  unfold shS chk
  by_cases h : Ok l st sl
  · rw [if_pos h, if_pos h]
    exact show_ok l st sl vs W hr hE.ops hE.tab h
  · rw [if_neg h, if_neg h]
    exact show_bad l st sl vs W hr hE.ops h
/-- What Read hands back. -/
def ReadPost (s : List UInt8) (W : World) (e : Ending) (w' : World) : Prop :=
  ((∃ v l st sl, readL s = some (l, st, sl) ∧ e = .returned (.tuple #[.agg #[v, .int .i64 st, .int .i64 sl], .int .i64 0]) ∧ InOwn w' W.heap.size v l) ∨
    (readL s = none ∧ e = .returned (.tuple #[.agg #[.slice none 0 0, .int .i64 0, .int .i64 0], .int .i64 130]))) ∧ Below W.heap.size W w'
set_option maxRecDepth 100000 in
set_option maxHeartbeats 8000000 in
theorem read14 (W : World) (s : ByteArray) (hs : s.size ≤ 1000000000) (hE : EvP W) : Calls Tryd.prog 21 #[.string s] W (ReadPost s.data.toList W) := by
  have HG := Lib.hid (fun w hw => callsIn_wide.1 (guess_in 3 (by omega) w s hs hw))
  have HRD : Hid (readL s.data.toList = if Ok (gL s.data.toList) (gSt s.data.toList) (gSl s.data.toList) ∧ textL (gL s.data.toList) (gSt s.data.toList) (gSl s.data.toList) = s.data.toList then some (gL s.data.toList, gSt s.data.toList, gSl s.data.toList) else none) := Lib.hid rfl
  have HLN : Hid ((gL s.data.toList).length ≤ 4001) := Lib.hid (insts_len 4001 _)
  have HBD : Hid (∀ i ∈ gL s.data.toList, i.bd) := Lib.hid (instsX_bd 4001 _)
  unfold ReadPost
  obtain ⟨R, h⟩ : ∃ R, readL s.data.toList = R := ⟨_, rfl⟩
  rw [h] at HRD ⊢
  clear h
  obtain ⟨l, h⟩ : ∃ l, gL s.data.toList = l := ⟨_, rfl⟩
  rw [h] at HRD HLN HBD HG
  clear h
  obtain ⟨st, h⟩ : ∃ z, gSt s.data.toList = z := ⟨_, rfl⟩
  rw [h] at HRD HG
  clear h
  obtain ⟨sl, h⟩ : ∃ z, gSl s.data.toList = z := ⟨_, rfl⟩
  rw [h] at HRD HG
  clear h hs
  have HE := Lib.hid hE
  have HSH := Lib.hid (fun w vs hr he => show14 l st sl vs w hr he)
  have hch : (Ok l st sl ∧ textL l st sl = s.data.toList ∧ shS l st sl = s ∧ chk l st sl = 0) ∨ (Ok l st sl ∧ ¬ textL l st sl = s.data.toList ∧ ¬ shS l st sl = s ∧ chk l st sl = 0) ∨ (¬ Ok l st sl ∧ chk l st sl = 130) := by
    unfold shS chk
    by_cases h : Ok l st sl
    · rw [if_pos h, if_pos h]
      by_cases h2 : textL l st sl = s.data.toList
      · exact .inl ⟨h, h2, by rw [h2]; unfold txB; simp, rfl⟩
      · exact .inr (.inl ⟨h, h2, fun e => h2 (by rw [← e, txB_list]), rfl⟩)
    · rw [if_neg h, if_neg h]
      exact .inr (.inr ⟨h, rfl⟩)
  obtain ⟨sh, h⟩ : ∃ z, shS l st sl = z := ⟨_, rfl⟩
  rw [h] at HSH hch
  clear h
  obtain ⟨ck, h⟩ : ∃ z, chk l st sl = z := ⟨_, rfl⟩
  rw [h] at HSH hch
  clear h hE
  have HCH := Lib.hid hch
  clear hch
  go_enter Tryd.func21, Tryd.ntmps21
  go_wp2_with fail
  obtain ⟨w0, hw0⟩ : ∃ w0, W.alloc (.cells #[.slice none 0 0, .int .i64 0, .int .i64 0] 46) = w0 := ⟨_, rfl⟩
  have HB0 : Hid (Below W.heap.size W w0) := Lib.hid (by rw [← hw0]; exact (Below.refl _ _).alloc (Nat.le_refl _) _)
  have HR0 : Hid (w0.heap[W.heap.size]? = some (.cells #[.slice none 0 0, .int .i64 0, .int .i64 0] 46 (0, 0))) := Lib.hid (by rw [← hw0]; exact heap_alloc_new W _)
  have HS0 : Hid (w0.heap.size = W.heap.size + 1) := Lib.hid (by rw [← hw0]; simp)
  rw [hw0]
  clear hw0
  refine (HG.out w0 (HE.out.below HB0.out)).mono ?_
  rintro e w1 ⟨v, rfl, ho, hb⟩
  obtain ⟨a9, c9, e9⟩ := ho.slice
  obtain ⟨L9, hL9⟩ : ∃ L9, l.length = L9 := ⟨_, rfl⟩
  rw [hL9] at e9
  subst e9
  have HO := Lib.hid ho
  have HB1 := Lib.hid hb
  clear ho hb hL9
  go_wp2_with fail
  obtain ⟨w2, hw2⟩ : ∃ w2, w1.alloc (.cells #[.slice a9 L9 c9, .int .i64 st, .int .i64 sl] 46) = w2 := ⟨_, rfl⟩
  have hb2 : Below w1.heap.size w1 w2 := by rw [← hw2]; exact (Below.refl _ _).alloc (Nat.le_refl _) _
  have HP2 : Hid (w2.heap[w1.heap.size]? = some (.cells #[.slice a9 L9 c9, .int .i64 st, .int .i64 sl] 46 (0, 0))) := Lib.hid (by rw [← hw2]; exact heap_alloc_new w1 _)
  have HB2 := Lib.hid (HB1.out.trans (hb2.mono HB1.out.size))
  have HO2 := Lib.hid (HO.out.below hb2 (Nat.le_refl _))
  rw [hw2]
  clear hw2 hb2
  refine (HSH.out w2 _ (HO2.out.row (by have := HLN.out; omega) HBD.out) (HE.out.below (HB0.out.trans (HB2.out.mono HB0.out.size)))).mono ?_
  rintro e w3 ⟨rfl, hb3⟩
  have HB3 := Lib.hid (HB2.out.trans (hb3.mono HB2.out.size))
  have HO3 := Lib.hid (HO2.out.below hb3 (Nat.le_refl _))
  have hp3 := (hb3.block _ (Array.getElem?_eq_some_iff.1 HP2.out).1).trans HP2.out
  have hr3 := (HB3.out.block W.heap.size (by rw [HS0.out]; omega)).trans HR0.out
  have HR3 := Lib.hid hr3
  have p0 : w3.cell? ⟨w1.heap.size, 0, none⟩ = some (.slice a9 L9 c9) := blkp hp3 0
  have p1 : w3.cell? ⟨w1.heap.size, 1, none⟩ = some (.int .i64 st) := blkp hp3 1
  have p2 : w3.cell? ⟨w1.heap.size, 2, none⟩ = some (.int .i64 sl) := blkp hp3 2
  have r0 : w3.cell? ⟨W.heap.size, 0, none⟩ = some (.slice none 0 0) := blkp hr3 0
  have r1 : w3.cell? ⟨W.heap.size, 1, none⟩ = some (.int .i64 0) := blkp hr3 1
  have r2 : w3.cell? ⟨W.heap.size, 2, none⟩ = some (.int .i64 0) := blkp hr3 2
  have f0 := frzp hr3 0
  have f1 := frzp hr3 1
  have f2 := frzp hr3 2
  have HBW := Lib.hid (HB0.out.trans (HB3.out.mono (by rw [HS0.out]; omega)))
  clear hb3 hp3 hr3
  rcases HCH.out with ⟨h1, h2, h3, h4⟩ | ⟨h1, h2, h3, h4⟩ | ⟨h1, h4⟩
  · have HRS : Hid (R = some (l, st, sl)) := Lib.hid (by rw [HRD.out, if_pos ⟨h1, h2⟩])
    subst h3
    subst h4
    clear h1 h2
    go_wp2
    refine ret_box2 rfl W.heap.size #[.slice a9 L9 c9, .int .i64 st, .int .i64 sl] (load_prog (box3_set _ _ _ HR3.out).2 rfl) rfl rfl ?_
    obtain ⟨g1, g2⟩ := box3_set (.slice a9 L9 c9) (.int .i64 st) (.int .i64 sl) HR3.out
    refine ⟨.inl ⟨_, l, st, sl, HRS.out, rfl, ?_⟩, HBW.out.grown g1 HBW.out.size (fun j hj => by injection hj; omega)⟩
    refine InOwn.mono (World.ownsRow.kept HO3.out g1 ?_ : InOwn _ w0.heap.size _ l) (by rw [HS0.out]; omega)
    cases hv : (Value.slice a9 L9 c9).ownBlock with
    | none => exact .inl rfl
    | some b => exact .inr (fun e => by have := (InOwn.lt HO3.out b hv).1; have := HS0.out; simp at e; omega)
  · have HRS : Hid (R = none) := Lib.hid (by rw [HRD.out, if_neg (fun h => h2 h.2)])
    have hbq : (sh.toList == s.toList) = false := by rw [beq_eq_false_iff_ne, ByteArray.toList_eq, ByteArray.toList_eq]; exact fun e => h3 (ByteArray.ext (Array.toList_inj.1 e))
    subst h4
    clear h1 h2 h3
    go_wp2
    refine ret_box2 rfl W.heap.size #[.slice none 0 0, .int .i64 0, .int .i64 0] (load_prog (box3_set _ _ _ HR3.out).2 rfl) rfl rfl ?_
    obtain ⟨g1, g2⟩ := box3_set (.slice none 0 0) (.int .i64 0) (.int .i64 0) HR3.out
    exact ⟨.inr ⟨HRS.out, rfl⟩, HBW.out.grown g1 HBW.out.size (fun j hj => by injection hj; omega)⟩
  · have HRS : Hid (R = none) := Lib.hid (by rw [HRD.out, if_neg (fun h => h1 h.1)])
    subst h4
    clear h1
    go_wp2
    refine ret_box2 rfl W.heap.size #[.slice none 0 0, .int .i64 0, .int .i64 0] (load_prog (box3_set _ _ _ HR3.out).2 rfl) rfl rfl ?_
    obtain ⟨g1, g2⟩ := box3_set (.slice none 0 0) (.int .i64 0) (.int .i64 0) HR3.out
    exact ⟨.inr ⟨HRS.out, rfl⟩, HBW.out.grown g1 HBW.out.size (fun j hj => by injection hj; omega)⟩
end Pgm
end Go.Proofs.YtfnimmbmcjgdpaaDoor
