/- The landed prog: guess. -/
import Derived.Test.YtfnimmbmcjgdpaaDoorGp27
import Derived.Test.YtfnimmbmcjgdpaaDoorGp28
namespace Go.Proofs.YtfnimmbmcjgdpaaDoor
open Go.RowKit Go.Shelf
attribute [local go_sem] Oper.semAt_some
set_option linter.unusedVariables false
namespace Pgm
/-- What the loop of guess holds: the program's box at p, the iterator's at B. -/
def GuessI (p B : Nat) (st sl : Int) (n0 : Nat) (w0 : World) (pre : List (List UInt8)) (W : World) : Prop :=
  (∃ v, W.heap[p]? = some (.cells #[v, .int .i64 st, .int .i64 sl] 46 (0, 0)) ∧ InOwn W (B + 1) v (pre.map fun x => instX (cutA 10 x))) ∧ Below n0 w0 W
theorem guessI_own {p B : Nat} {st sl : Int} {n0 b : Nat} {w0 : World} (hn : n0 ≤ w0.heap.size) (hb : n0 ≤ b) : OwnFrom b (GuessI p B st sl n0 w0) :=
  OwnFrom.and (Own.from (fun s A C row hs hg hr => by
    obtain ⟨v, h1, h2⟩ := hs
    refine ⟨v, (hg.block p (Array.getElem?_eq_some_iff.1 h1).1 (fun e => ?_)).trans h1, ownsRow_own h2 hg hr⟩
    obtain ⟨o, ho, hc⟩ := hr p e.symm
    rw [h1] at ho
    cases ho
    cases hc) _) (ownFrom_below hn hb)
theorem guessI_fr {p B : Nat} {st sl : Int} {n0 : Nat} {w0 : World} (hp : p < B) (hB : n0 ≤ B) (hn : n0 ≤ w0.heap.size) {s : List (List UInt8)} {X Y : World} (h : GuessI p B st sl n0 w0 s X) (hf : LnFr B X Y) : GuessI p B st sl n0 w0 s Y := by
  obtain ⟨⟨v, h1, h2⟩, h3⟩ := h
  refine ⟨⟨v, (hf.1.block p (Array.getElem?_eq_some_iff.1 h1).1 (fun e => by cases e; omega)).trans h1, World.ownsRow.kept h2 hf.1 ?_⟩, ?_⟩
  · cases hv : v.ownBlock with
    | none => exact .inl rfl
    | some b => exact .inr (fun e => by have := (InOwn.lt h2 b hv).1; simp at e; omega)
  · exact h3.grown hf.1 (Nat.le_trans hn h3.size) (fun j hj => by cases hj; exact hB)
theorem linesL_mem : ∀ (n : Nat) (s : List UInt8), s.length ≤ n → ∀ x ∈ linesL s, x.length ≤ s.length
  | 0, s, h, x, hx => by
    have : s = [] := List.eq_nil_of_length_eq_zero (by omega)
    subst this; simp [linesL_nil] at hx
  | n + 1, s, h, x, hx => by
    by_cases e : s = []
    · subst e; simp [linesL_nil] at hx
    · have hl := cutB_lt 10 s e
      rw [linesL_cons e, List.mem_cons] at hx
      rcases hx with rfl | hx
      · exact head_len s
      · have := linesL_mem n (cutB 10 s) (by omega) x hx; omega
theorem tsuf14 (w : World) (x : List UInt8) (hx : x.length ≤ 1000000000) : Calls Tryd.prog 85 #[.string (txB x), .string ⟨#[10]⟩] w fun e w' => e = .returned (.string (txB (Lib.trimSuffix x [10]))) ∧ Below w.heap.size w w' := by
  have h9 := Any.strings_TrimSuffix (P := Tryd.prog) Tryd.layTrimS (txB x) ⟨#[10]⟩ w (by rw [txB_size]; omega)
  change Calls Tryd.prog 85 _ _ _ at h9
  refine h9.mono ?_
  rintro e w' ⟨he, rfl⟩
  rw [txB_list] at he
  exact ⟨he, Below.refl _ _⟩
theorem box3_set {W2 : World} {r : Nat} {x y z : Value} {t : TypeId} (a b c : Value) (h : W2.heap[r]? = some (.cells #[x, y, z] t (0, 0))) :
    W2.grownBy (((W2.setCell ⟨r, 0, none⟩ a).setCell ⟨r, 1, none⟩ b).setCell ⟨r, 2, none⟩ c) (some r) ∧ (((W2.setCell ⟨r, 0, none⟩ a).setCell ⟨r, 1, none⟩ b).setCell ⟨r, 2, none⟩ c).heap[r]? = some (.cells #[a, b, c] t (0, 0)) := by
  refine ⟨⟨rfl, rfl, rfl, ?_, fun k _ hk => ?_⟩, ?_⟩
  · exact Nat.le_trans (Nat.le_trans (KeepsWalks.setCell _ _ _).size (KeepsWalks.setCell _ _ _).size) (KeepsWalks.setCell _ _ _).size
  · have hne : k ≠ r := fun e => hk (by rw [e])
    exact (Below.heap_setCell _ _ _ k hne).trans ((Below.heap_setCell _ _ _ k hne).trans (Below.heap_setCell _ _ _ k hne))
  · exact heap_setCell_same _ r 2 _ _ c (heap_setCell_same _ r 1 _ _ b (heap_setCell_same _ r 0 _ _ a h))
/-- Where guess ends: the program is copied to the result's box, and the mark on the loop is taken away. -/
theorem guess_last {W w0 W2 : World} {D base : Nat} {v : Value} {l : List In} {st sl : Int} (hb0 : Below W.heap.size W w0) (hs : w0.heap.size = W.heap.size + 1) (hbb : Below w0.heap.size w0 W2) (hD : w0.heap.size ≤ D)
    (hr : W2.heap[W.heap.size]? = some (.cells #[.slice none 0 0, .int .i64 0, .int .i64 0] 46 (0, 0))) (hov : InOwn W2 base v l) (hbs : W.heap.size < base) (hK : W2.heap[D]? = some (.deferred (some []))) :
    (((W2.setCell ⟨W.heap.size, 0, none⟩ v).setCell ⟨W.heap.size, 1, none⟩ (.int .i64 st)).setCell ⟨W.heap.size, 2, none⟩ (.int .i64 sl)).heap[D]? = some (.deferred (some [])) ∧
    ((((W2.setCell ⟨W.heap.size, 0, none⟩ v).setCell ⟨W.heap.size, 1, none⟩ (.int .i64 st)).setCell ⟨W.heap.size, 2, none⟩ (.int .i64 sl)).putObj D (.deferred none)).heap[W.heap.size]? = some (.cells #[v, .int .i64 st, .int .i64 sl] 46 (0, 0)) ∧
    InOwn ((((W2.setCell ⟨W.heap.size, 0, none⟩ v).setCell ⟨W.heap.size, 1, none⟩ (.int .i64 st)).setCell ⟨W.heap.size, 2, none⟩ (.int .i64 sl)).putObj D (.deferred none)) W.heap.size v l ∧
    Below W.heap.size W ((((W2.setCell ⟨W.heap.size, 0, none⟩ v).setCell ⟨W.heap.size, 1, none⟩ (.int .i64 st)).setCell ⟨W.heap.size, 2, none⟩ (.int .i64 sl)).putObj D (.deferred none)) := by
  obtain ⟨g1, g2⟩ := box3_set v (.int .i64 st) (.int .i64 sl) hr
  have hsz := hbb.size
  have hne : D ≠ W.heap.size := by omega
  have hk := (g1.block D (Array.getElem?_eq_some_iff.1 hK).1 (fun e => hne (by injection e))).trans hK
  have hb2 : Below W.heap.size W W2 := hb0.trans (hbb.mono (by omega))
  have hb3 := hb2.grown g1 (by omega) (fun j hj => by injection hj; omega)
  refine ⟨hk, (World.putObj_heap_other (fun e => hne e.symm)).trans g2, ?_, hb3.grown (grownBy_putObj' _ D _) (by have := g1.size; omega) (fun j hj => by injection hj; omega)⟩
  have h1 : InOwn _ base v l := World.ownsRow.kept hov g1 (by
    cases hv : v.ownBlock with
    | none => exact .inl rfl
    | some b => exact .inr (fun e => by have := (InOwn.lt hov b hv).1; simp at e; omega))
  have h2 : InOwn _ base v l := ownsRow_own h1 (grownBy_putObj' _ D (.deferred none)) (fun r e => by cases e; exact ⟨_, hk, rfl⟩)
  exact h2.mono (by omega)
set_option maxRecDepth 100000 in
set_option maxHeartbeats 8000000 in
theorem guess_in (n : Nat) (hn : 3 ≤ n) (W : World) (s : ByteArray) (hs : s.size ≤ 1000000000) (hE : EvP W) : CallsIn Fence.wide n Tryd.prog 49 #[.string s] W fun e W' =>
    ∃ v, e = .returned (.agg #[v, .int .i64 (gSt s.data.toList), .int .i64 (gSl s.data.toList)]) ∧ InOwn W' W.heap.size v (gL s.data.toList) ∧ Below W.heap.size W W' := by
  have h1 : 1 ≤ n := by omega
  have hl0 : s.data.toList.length ≤ 1000000000 := by simpa using hs
  have q1 := cutA_le 10 s.data.toList
  have q2 := cutB_le 32 (cutA 10 s.data.toList)
  have q3 := cutB_le 32 (cutB 32 (cutA 10 s.data.toList))
  have q4 := cutB_le 10 s.data.toList
  have HC1 := Lib.hid (fun w hw => cut14 w s hs 10 hw)
  have HC2 := Lib.hid (fun w hw => cut14 w (txB (cutA 10 s.data.toList)) (by rw [txB_size]; omega) 32 hw)
  have HN1 := Lib.hid (fun w hw => number14 w (txB (cutB 32 (cutA 10 s.data.toList))) (by rw [txB_size]; omega) hw)
  have HN2 := Lib.hid (fun w hw => number14 w (txB (cutB 32 (cutB 32 (cutA 10 s.data.toList)))) (by rw [txB_size]; omega) hw)
  rw [txB_list] at HC2 HN1 HN2
  have HL0 : Hid (gL s.data.toList = ((linesL (cutB 10 s.data.toList)).take 4001).map (fun x => instX (cutA 10 x))) := Lib.hid (insts_lines 4001 (cutB 10 s.data.toList))
  have HLN : Hid ((cutB 10 s.data.toList).length ≤ 1000000000) := Lib.hid (by omega)
  have HLF := Lib.hid (fun w => linesFn w (txB (cutB 10 s.data.toList)))
  have HSQ := Lib.hid (fun m B hm w0 hc => lines_seq m B hm (cutB 10 s.data.toList) (by omega) w0 hc)
  have HXL : Hid (∀ x ∈ linesL (cutB 10 s.data.toList), x.length ≤ 1000000000) := Lib.hid (fun x hx => by have := linesL_mem _ (cutB 10 s.data.toList) (Nat.le_refl _) x hx; omega)
  unfold gSt gSl
  obtain ⟨K, hK⟩ : ∃ K, gL s.data.toList = K := ⟨_, rfl⟩
  rw [hK] at HL0 ⊢
  obtain ⟨st, h⟩ : ∃ z, numV (cutB 32 (cutA 10 s.data.toList)) = z := ⟨_, rfl⟩
  rw [h] at HN1 ⊢
  clear h
  obtain ⟨sl, h⟩ : ∃ z, numV (cutB 32 (cutB 32 (cutA 10 s.data.toList))) = z := ⟨_, rfl⟩
  rw [h] at HN2 ⊢
  clear h
  obtain ⟨LL, h⟩ : ∃ z, linesL (cutB 10 s.data.toList) = z := ⟨_, rfl⟩
  rw [h] at HL0 HSQ HXL
  clear h
  obtain ⟨T1, h⟩ : ∃ z, txB (cutA 10 s.data.toList) = z := ⟨_, rfl⟩
  rw [h] at HC1 HC2
  clear h
  obtain ⟨T2, h⟩ : ∃ z, txB (cutB 10 s.data.toList) = z := ⟨_, rfl⟩
  rw [h] at HC1 HLF HSQ
  clear h
  obtain ⟨T3, h⟩ : ∃ z, txB (cutB 32 (cutA 10 s.data.toList)) = z := ⟨_, rfl⟩
  rw [h] at HC2 HN1
  clear h
  obtain ⟨T4, h⟩ : ∃ z, txB (cutB 32 (cutB 32 (cutA 10 s.data.toList))) = z := ⟨_, rfl⟩
  rw [h] at HN1 HN2
  clear h
  obtain ⟨T5, h⟩ : ∃ z, txB (cutB 32 (cutB 32 (cutB 32 (cutA 10 s.data.toList)))) = z := ⟨_, rfl⟩
  rw [h] at HN2
  clear h
  obtain ⟨T6, h⟩ : ∃ z, txB (cutA 32 (cutA 10 s.data.toList)) = z := ⟨_, rfl⟩
  rw [h] at HC2
  clear h
  obtain ⟨c1, h⟩ : ∃ z, decide ((10 : UInt8) ∈ s.data.toList) = z := ⟨_, rfl⟩
  rw [h] at HC1
  clear h
  obtain ⟨c2, h⟩ : ∃ z, decide ((32 : UInt8) ∈ cutA 10 s.data.toList) = z := ⟨_, rfl⟩
  rw [h] at HC2
  clear h hK q1 q2 q3 q4 hl0 hs
  have HE := Lib.hid hE
  clear hE
  refine callsIn_of_wp_marks Tryd.func49 rfl trivial ?_ rfl
  simp only [Tryd.ntmps49, List.size_toArray, List.length_cons, List.length_nil, Nat.reduceAdd, Nat.reduceSub, Array.replicate_succ, Array.replicate_zero, List.push_toArray, List.append_toArray, List.nil_append, List.cons_append]
  gi_wp2_with fail
  refine ⟨trivial, ?_⟩
  obtain ⟨w0, hw0⟩ : ∃ w0, W.alloc (.cells #[.slice none 0 0, .int .i64 0, .int .i64 0] 46) = w0 := ⟨_, rfl⟩
  have HB0 : Hid (Below W.heap.size W w0) := Lib.hid (by rw [← hw0]; exact (Below.refl _ _).alloc (Nat.le_refl _) _)
  have HR0 : Hid (w0.heap[W.heap.size]? = some (.cells #[.slice none 0 0, .int .i64 0, .int .i64 0] 46 (0, 0))) := Lib.hid (by rw [← hw0]; exact heap_alloc_new W _)
  have HS0 : Hid (w0.heap.size = W.heap.size + 1) := Lib.hid (by rw [← hw0]; simp)
  rw [hw0]
  clear hw0
  refine (callsIn_wide.2 (HC1.out w0 (HE.out.below HB0.out))).mono ?_
  rintro e w1 ⟨rfl, hb1⟩
  have HB1 := Lib.hid (HB0.out.trans (hb1.mono HB0.out.size))
  have HD1 := Lib.hid hb1
  clear hb1
  gi_wp2_with fail
  refine ⟨trivial, ?_⟩
  refine (callsIn_wide.2 (HC2.out w1 (HE.out.below HB1.out))).mono ?_
  rintro e w2 ⟨rfl, hb2⟩
  have HB2 := Lib.hid (HB1.out.trans (hb2.mono HB1.out.size))
  have HD2 := Lib.hid (HD1.out.trans (hb2.mono HD1.out.size))
  clear hb2
  gi_wp2_with fail
  refine ⟨trivial, ?_⟩
  refine (callsIn_wide.2 (HN1.out w2 (HE.out.below HB2.out))).mono ?_
  rintro e w3 ⟨rfl, hb3⟩
  have HB3 := Lib.hid (HB2.out.trans (hb3.mono HB2.out.size))
  have HD3 := Lib.hid (HD2.out.trans (hb3.mono HD2.out.size))
  clear hb3
  gi_wp2_with fail
  refine ⟨trivial, ?_⟩
  refine (callsIn_wide.2 (HN2.out w3 (HE.out.below HB3.out))).mono ?_
  rintro e w4 ⟨rfl, hb4⟩
  have HB4 := Lib.hid (HB3.out.trans (hb4.mono HB3.out.size))
  have HD4 := Lib.hid (HD3.out.trans (hb4.mono HD3.out.size))
  clear hb4
  gi_wp2_with fail
  refine ⟨trivial, ?_⟩
  refine (callsIn_wide.2 (HLF.out _)).mono ?_
  rintro e w5 ⟨rfl, hw5⟩
  rw [World.size_alloc]
  have hk1 : w5.heap[w4.heap.size]? = some (.cells #[.slice none 0 0, .int .i64 st, .int .i64 sl] 46 (0, 0)) := by
    rw [← hw5]
    exact (Below.heap_alloc _ _ _ (by simp)).trans (heap_alloc_new w4 _)
  have hk2 : w5.heap[w4.heap.size + 1]? = some (.cells #[.string T2] 9 (0, 0)) := by
    rw [← hw5]
    have h9 := heap_alloc_new (w4.alloc (.cells #[.slice none 0 0, .int .i64 st, .int .i64 sl] 46)) (.cells #[.string T2] 9)
    rwa [World.size_alloc] at h9
  have hsz : w5.heap.size = w4.heap.size + 2 := by rw [← hw5]; simp
  have hb5 : Below w0.heap.size w0 w5 := by
    rw [← hw5]
    exact (HD4.out.alloc HD4.out.size _).alloc (by simp; have := HD4.out.size; omega) _
  have hp0 : w0.heap.size ≤ w4.heap.size := HD4.out.size
  clear hw5
  gi_wp2
  refine range_fr rfl h1 (gf := 106) (lb := #[.pointer (some ⟨w4.heap.size + 1, 0, none⟩)]) rfl trivial (enters_of Tryd.func106 (by kernel_rfl) rfl)
    (HSQ.out (n - 1) (w4.heap.size + 1) (by omega) w5 hk2) (lnKeeps _) (fun _ _ _ _ hs _ _ => hs) lnKp_t (lnKp_b (by omega)) (fun _ _ _ _ _ _ _ _ _ _ => trivial) (Below.refl _ _) (fun _ => rfl)
    (fun pre W' => GuessI w4.heap.size (w4.heap.size + 1) st sl w0.heap.size w0 pre W' ∧ pre.length ≤ 4000)
    (fun c pre W' => (c = .exit 0 ∧ pre.length = 4001) ∧ GuessI w4.heap.size (w4.heap.size + 1) st sl w0.heap.size w0 pre W')
    (OwnFrom.and (guessI_own (Nat.le_refl _) (by omega)) (fun _ _ _ _ hs _ _ => hs))
    (fun c => OwnFrom.and (fun _ _ _ _ hs _ _ => hs) (guessI_own (Nat.le_refl _) (by omega)))
    (fun s A C hs hf => ⟨guessI_fr (by omega) (by omega) (Nat.le_refl _) hs.1 hf, hs.2⟩)
    (fun c s A C hs hf => ⟨hs.1, guessI_fr (by omega) (by omega) (Nat.le_refl _) hs.2 hf⟩)
    ⟨⟨⟨_, hk1, InOwn.nil _ _⟩, hb5⟩, by simp⟩ ?round ?done ?stop
  case round =>
    intro lp pre x Wr hlp hrec hI hR hlen
    have hIo := (guessI_own (p := w4.heap.size) (B := w4.heap.size + 1) (st := st) (sl := sl) (w0 := w0) (b := w5.heap.size) (Nat.le_refl _) (by omega))
    obtain ⟨r, hrec⟩ := hrec
    have hz : ((#[41] : Array Tmp).zip (encT x)).toList = [(41, .string (txB x))] := by simp [encT]
    rw [← Array.foldl_toList, hz]
    simp only [List.foldl_cons, List.foldl_nil, List.setIfInBounds_toArray, List.set_cons_succ, List.set_cons_zero]
    clear hz
    gi_wp2
    refine ⟨KeepsFrom.refl _ _, fun o ho1 ho2 => ?_⟩
    have hI1 := hIo.putObj o hI.1 (by omega) hrec rfl
    have hkp : LnKp (w4.heap.size + 1) Wr (Wr.putObj lp o) := lnKp_b (w := w5) (by omega) Wr lp _ o hlp hrec rfl rfl
    have HPL := Lib.hid hI.2
    obtain ⟨Wb, hWb⟩ : ∃ Wb, Wr.putObj lp o = Wb := ⟨_, rfl⟩
    rw [hWb] at hI1 hkp ⊢
    have HKP := Lib.hid hkp
    clear hWb hrec hI hIo hkp hlp
    obtain ⟨⟨v, hcv, hov⟩, hbb⟩ := hI1
    have hpw : w4.heap.size < Wb.heap.size := (Array.getElem?_eq_some_iff.1 hcv).1
    have HCV := Lib.hid hcv
    have HOV := Lib.hid hov
    have HBB := Lib.hid hbb
    have HP : Hid (∀ w', Below Wb.heap.size Wb w' → w'.cell? ⟨w4.heap.size, 0, none⟩ = some v ∧ w'.frozen? ⟨w4.heap.size, 0, none⟩ = false) := Lib.hid (fun w' h => by
      have h2 := (h.block _ (Array.getElem?_eq_some_iff.1 HCV.out).1).trans HCV.out
      exact ⟨blkp h2 0, frzp h2 0⟩)
    have HEV : Hid (∀ w', Below Wb.heap.size Wb w' → EvP w') := Lib.hid (fun w' h => (HE.out.below (HB0.out.trans (HBB.out.mono HB0.out.size))).below h)
    have HTS := Lib.hid (fun w => tsuf14 w x hR.1)
    have HIN : Hid (∀ w', Below Wb.heap.size Wb w' → Calls Tryd.prog 84 #[.string (txB (Lib.trimSuffix x [10]))] w' fun e w2 => e = .returned (.agg #[.int .i64 (instX (cutA 10 x)).op, .int .i64 (instX (cutA 10 x)).lo, .int .i64 (instX (cutA 10 x)).hi, .int .i64 (instX (cutA 10 x)).x, .int .i64 (instX (cutA 10 x)).y]) ∧ Below w'.heap.size w' w2) := Lib.hid (fun w' h => by
      have h9 := inst14 w' (txB (Lib.trimSuffix x [10])) (by rw [txB_size, hR.2]; have := cutA_le 10 x; omega) (HEV.out w' h)
      rw [txB_list, hR.2] at h9
      rw [hR.2]
      exact h9)
    obtain ⟨X, hX⟩ : ∃ X, instX (cutA 10 x) = X := ⟨_, rfl⟩
    obtain ⟨S1, hS1⟩ : ∃ S1, txB x = S1 := ⟨_, rfl⟩
    obtain ⟨S2, hS2⟩ : ∃ S2, txB (Lib.trimSuffix x [10]) = S2 := ⟨_, rfl⟩
    rw [hS1, hS2] at HTS
    rw [hS2, hX] at HIN
    rw [hS1]
    have HX := Lib.hid hX
    clear hS1 hS2 hX hcv hov hbb hR hk1 hk2 hb5
    have hwb := HBB.out.size
    have HAP : Hid (∀ wt, Below Wb.heap.size Wb wt → ∃ a9 c9 W9, (Builtin.append_ #[44, 44] 44 #[v, .slice (some ⟨wt.heap.size, 0, none⟩) 1 1]).run Tryd.prog (wt.alloc (.cells #[.int .i64 X.op, .int .i64 X.lo, .int .i64 X.hi, .int .i64 X.x, .int .i64 X.y] 81)) = .ok (.slice a9 (pre.length + 1) c9) W9 ∧
        InOwn W9 (w4.heap.size + 1 + 1) (.slice a9 (pre.length + 1) c9) ((pre ++ [x]).map fun x => instX (cutA 10 x)) ∧ Below (w4.heap.size + 1 + 1) (wt.alloc (.cells #[.int .i64 X.op, .int .i64 X.lo, .int .i64 X.hi, .int .i64 X.x, .int .i64 X.y] 81)) W9 ∧ (wt.alloc (.cells #[.int .i64 X.op, .int .i64 X.lo, .int .i64 X.hi, .int .i64 X.x, .int .i64 X.y] 81)).grownBy W9 v.ownBlock) := Lib.hid (fun wt hb => by
      have hz := hb.size
      have h2 := heap_alloc_new wt (.cells #[.int .i64 X.op, .int .i64 X.lo, .int .i64 X.hi, .int .i64 X.x, .int .i64 X.y] 81)
      have h9 := append_in (wt.alloc (.cells #[.int .i64 X.op, .int .i64 X.lo, .int .i64 X.hi, .int .i64 X.x, .int .i64 X.y] 81)) (w4.heap.size + 1 + 1) v (pre.map fun x => instX (cutA 10 x))
        ((HOV.out.below hb (Nat.le_refl _)).below (Below.refl _ _ |>.alloc (Nat.le_refl _) _) (Nat.le_refl _)) (by simp; omega) (by rw [List.length_map]; have := HPL.out; omega) X wt.heap.size (fun j u hj => by
          rw [show (⟨wt.heap.size, 0, none⟩ : Addr).add j = ⟨wt.heap.size, j, none⟩ from by simp [Addr.add]; exact fun h => h.symm]
          rw [blkp h2 j]
          simpa [In.cs] using hj) 1
      rw [List.map_append, List.map_singleton, HX.out]
      obtain ⟨v9, W9, r1, r2, r3, r4⟩ := h9
      obtain ⟨a9, c9, e9⟩ := r2.slice
      rw [List.length_append, List.length_map, List.length_singleton] at e9
      subst e9
      exact ⟨a9, c9, W9, r1, r2, r3, r4⟩)
    have HC9 : Hid (∀ wt W9 : World, Below Wb.heap.size Wb wt → (wt.alloc (.cells #[.int .i64 X.op, .int .i64 X.lo, .int .i64 X.hi, .int .i64 X.x, .int .i64 X.y] 81)).grownBy W9 v.ownBlock → W9.cell? ⟨w4.heap.size, 0, none⟩ = some v ∧ W9.frozen? ⟨w4.heap.size, 0, none⟩ = false) := Lib.hid (fun wt W9 hb hg => by
      have h3 := (Below.heap_alloc wt (.cells #[.int .i64 X.op, .int .i64 X.lo, .int .i64 X.hi, .int .i64 X.x, .int .i64 X.y] 81) w4.heap.size (by have := hb.size; omega)).trans ((hb.block _ hpw).trans HCV.out)
      have h4 := (hg.block w4.heap.size (Array.getElem?_eq_some_iff.1 h3).1 (fun e => by have := (HOV.out.lt w4.heap.size e.symm).1; omega)).trans h3
      exact ⟨blkp h4 0, frzp h4 0⟩)
    have HCU : Hid (∀ wt : World, Below Wb.heap.size Wb wt → (wt.alloc (.cells #[.int .i64 X.op, .int .i64 X.lo, .int .i64 X.hi, .int .i64 X.x, .int .i64 X.y] 81)).cell? ⟨w4.heap.size, 0, none⟩ = some v) := Lib.hid (fun wt hb => blkp ((Below.heap_alloc wt (.cells #[.int .i64 X.op, .int .i64 X.lo, .int .i64 X.hi, .int .i64 X.x, .int .i64 X.y] 81) w4.heap.size (by have := hb.size; omega)).trans ((hb.block _ hpw).trans HCV.out)) 0)
    have HFIN : Hid (∀ (wt W9 : World) (v9 : Value), Below Wb.heap.size Wb wt → InOwn W9 (w4.heap.size + 1 + 1) v9 ((pre ++ [x]).map fun x => instX (cutA 10 x)) → Below (w4.heap.size + 1 + 1) (wt.alloc (.cells #[.int .i64 X.op, .int .i64 X.lo, .int .i64 X.hi, .int .i64 X.x, .int .i64 X.y] 81)) W9 → (wt.alloc (.cells #[.int .i64 X.op, .int .i64 X.lo, .int .i64 X.hi, .int .i64 X.x, .int .i64 X.y] 81)).grownBy W9 v.ownBlock →
        KeepsFrom w5.heap.size Wb (W9.setCell ⟨w4.heap.size, 0, none⟩ v9) ∧ LnKp (w4.heap.size + 1) Wr (W9.setCell ⟨w4.heap.size, 0, none⟩ v9) ∧ GuessI w4.heap.size (w4.heap.size + 1) st sl w0.heap.size w0 (pre ++ [x]) (W9.setCell ⟨w4.heap.size, 0, none⟩ v9) ∧ (W9.setCell ⟨w4.heap.size, 0, none⟩ v9).cell? ⟨w4.heap.size, 0, none⟩ = some v9) := Lib.hid (fun wt W9 v9 hb ho hb9 hg => by
      have hz := hb.size
      have h3 := (Below.heap_alloc wt (.cells #[.int .i64 X.op, .int .i64 X.lo, .int .i64 X.hi, .int .i64 X.x, .int .i64 X.y] 81) w4.heap.size (by omega)).trans ((hb.block _ hpw).trans HCV.out)
      have h4 := (hg.block w4.heap.size (Array.getElem?_eq_some_iff.1 h3).1 (fun e => by have := (HOV.out.lt w4.heap.size e.symm).1; omega)).trans h3
      have h5 := heap_setCell_same W9 w4.heap.size 0 _ _ v9 h4
      have ho1 : InOwn (wt.alloc (.cells #[.int .i64 X.op, .int .i64 X.lo, .int .i64 X.hi, .int .i64 X.x, .int .i64 X.y] 81)) (w4.heap.size + 1 + 1) v (pre.map fun x => instX (cutA 10 x)) := (HOV.out.below hb (Nat.le_refl _)).below (Below.refl _ _ |>.alloc (Nat.le_refl _) _) (Nat.le_refl _)
      refine ⟨?_, ?_, ⟨⟨v9, h5, World.ownsRow.kept ho (grownBy_setCell' W9 w4.heap.size v9) ?_⟩, ?_⟩, blkp h5 0⟩
      · refine (((KeepsOthers.of_grownBy (row := none) ⟨hb.os, hb.tape, hb.output, hb.size, fun k hk _ => hb.block k hk⟩ (fun _ _ e => by cases e)).trans (KeepsOthers.alloc _ _)).trans (KeepsOthers.of_grownBy hg ?_)).trans (KeepsOthers.setCell _ _ _) |>.from _
        intro j o ej hj
        rcases ho1.2 with ⟨e, _⟩ | ⟨g, cap, cur, e, _, hgg, _⟩
        · rw [e] at ej; cases ej
        · rw [e] at ej
          cases ej
          rw [hgg] at hj
          cases hj
          rfl
      · intro u hu
        have hb1 := HKP.out u hu
        have hlt : w4.heap.size + 1 < Wb.heap.size := (Array.getElem?_eq_some_iff.1 (show Wb.heap[w4.heap.size + 1]? = _ from hb1)).1
        have h6 := (Below.heap_alloc wt (.cells #[.int .i64 X.op, .int .i64 X.lo, .int .i64 X.hi, .int .i64 X.x, .int .i64 X.y] 81) (w4.heap.size + 1) (by omega)).trans ((hb.block _ hlt).trans hb1)
        exact (Below.heap_setCell W9 _ v9 (w4.heap.size + 1) (by simp)).trans ((hg.block (w4.heap.size + 1) (Array.getElem?_eq_some_iff.1 h6).1 (fun e => by have := (HOV.out.lt (w4.heap.size + 1) e.symm).1; omega)).trans h6)
      · cases hv : v9.ownBlock with
        | none => exact .inl rfl
        | some b => exact .inr (fun e => by have := (InOwn.lt ho b hv).1; simp at e; omega)
      · exact ((((HBB.out.trans (hb.mono HBB.out.size)).alloc (by omega) _).grown hg (by simp; omega) (fun j hj => by have := (HOV.out.lt j hj).1; omega))).setCell (p := ⟨w4.heap.size, 0, none⟩) (by simpa using hp0) _)
    have hc0 := (HP.out _ (Below.refl _ _).drew).1
    have hf0 := (HP.out _ (Below.refl _ _).drew).2
    gi_wp2
    refine region_round_held (fun _ => True) (by kernel_rfl) rfl (by rintro ⟨a, w, h⟩; exact h) trivial (fun _ => ?_)
    go_walkH3 (trivial) (first
      | (go_at_call 85; refine (HTS.out _).mono ?_; rintro e ws ⟨rfl, hbs⟩; have HBS := Lib.hid ((Below.refl Wb.heap.size Wb).drew.trans hbs); have hcs := (HP.out _ HBS.out).1; have hfs := (HP.out _ HBS.out).2; clear hbs)
      | (go_at_call 84; refine (HIN.out _ HBS.out).mono ?_; rintro e wt ⟨rfl, hbt⟩; have HBT := Lib.hid (HBS.out.trans (hbt.mono HBS.out.size)); have hct := (HP.out _ HBT.out).1; have hft := (HP.out _ HBT.out).2; have hcu := HCU.out wt HBT.out; clear hbt)
      | (obtain ⟨a9, c9, W9, hrun, ho9, hb9, hg9⟩ := HAP.out wt HBT.out; have HO9 := Lib.hid ho9; have HB9 := Lib.hid hb9; have HG9 := Lib.hid hg9; have hc9 := (HC9.out wt W9 HBT.out hg9).1; have hf9 := (HC9.out wt W9 HBT.out hg9).2; refine step_append_known (by rfl) _ _ 44 (by rfl) v _ (.slice a9 (pre.length + 1) c9) W9 (by rfl) (by rfl) hrun ?_; clear hrun ho9 hb9 hg9))
    all_goals
      obtain ⟨z1, z2, z3, z4⟩ := HFIN.out wt W9 _ HBT.out HO9.out HB9.out HG9.out
      have Z1 := Lib.hid z1
      have Z2 := Lib.hid z2
      have Z3 := Lib.hid z3
      obtain ⟨Wz, hWz⟩ : ∃ Wz, W9.setCell ⟨w4.heap.size, 0, none⟩ (.slice a9 (pre.length + 1) c9) = Wz := ⟨_, rfl⟩
      rw [hWz] at Z1 Z2 Z3 z4 ⊢
      clear hWz z1 z2 z3
      by_cases hmax : pre.length + 1 ≤ 4000
      · have hm1 : ¬ (4000 : Int) < ((pre.length + 1 : Nat) : Int) := by omega
        gi_wp2
        exact ⟨by have := Z1.out; rwa [hsz] at this, Z2.out, Z3.out, by simp; omega⟩
      · have hm1 : (4000 : Int) < ((pre.length + 1 : Nat) : Int) := by omega
        gi_wp2
        exact ⟨by have := Z1.out; rwa [hsz] at this, trivial, ⟨rfl, by simp; have := HPL.out; omega⟩, Z3.out⟩
  case done =>
    rintro D ys W2 hD hys ⟨hI, hl⟩ hK
    obtain ⟨⟨v, hcv, hov⟩, hbb⟩ := hI
    subst hys
    obtain ⟨a9, c9, e9⟩ := hov.slice
    obtain ⟨L9, hL9⟩ : ∃ L9, (ys.map fun x => instX (cutA 10 x)).length = L9 := ⟨_, rfl⟩
    rw [hL9] at e9
    subst e9
    have hrb := (hbb.block W.heap.size (by rw [HS0.out]; omega)).trans HR0.out
    have p0 : W2.cell? ⟨w4.heap.size, 0, none⟩ = some (.slice a9 L9 c9) := blkp hcv 0
    have p1 : W2.cell? ⟨w4.heap.size, 1, none⟩ = some (.int .i64 st) := blkp hcv 1
    have p2 : W2.cell? ⟨w4.heap.size, 2, none⟩ = some (.int .i64 sl) := blkp hcv 2
    have r0 : W2.cell? ⟨W.heap.size, 0, none⟩ = some (.slice none 0 0) := blkp hrb 0
    have r1 : W2.cell? ⟨W.heap.size, 1, none⟩ = some (.int .i64 0) := blkp hrb 1
    have r2 : W2.cell? ⟨W.heap.size, 2, none⟩ = some (.int .i64 0) := blkp hrb 2
    have f0 := frzp hrb 0
    have f1 := frzp hrb 1
    have f2 := frzp hrb 2
    have HL9 : Hid (K = ys.map (fun x => instX (cutA 10 x))) := Lib.hid (by rw [HL0.out, List.take_of_length_le (by omega)])
    rw [← HL9.out] at hov
    obtain ⟨e1, e2, e3, e4⟩ := guess_last (st := st) (sl := sl) HB0.out HS0.out hbb (by omega) hrb hov (by have := HS0.out; omega) hK
    have E1 := Lib.hid e1
    have E2 := Lib.hid e2
    have E3 := Lib.hid e3
    have E4 := Lib.hid e4
    clear hov hL9 hbb hl hcv hrb hk1 hk2 hb5 e1 e2 e3 e4 hK hD 
    gi_wp2
    refine ⟨by simp, .inl ⟨_, _, rfl, run_takeDeferred E1.out, ?_⟩⟩
    refine ⟨.agg #[.slice a9 L9 c9, .int .i64 st, .int .i64 sl], ?_, ⟨_, rfl, E3.out, E4.out⟩⟩
    have hld := load_prog E2.out rfl
    simp [results, Tryd.f49, asAddr, hld, Sem.run_bind]
  case stop =>
    rintro D c pre W2 hD hpre ⟨⟨rfl, hl⟩, hI⟩ hK
    obtain ⟨⟨v, hcv, hov⟩, hbb⟩ := hI
    obtain ⟨a9, c9, e9⟩ := hov.slice
    obtain ⟨L9, hL9⟩ : ∃ L9, (pre.map fun x => instX (cutA 10 x)).length = L9 := ⟨_, rfl⟩
    rw [hL9] at e9
    subst e9
    have hrb := (hbb.block W.heap.size (by rw [HS0.out]; omega)).trans HR0.out
    have p0 : W2.cell? ⟨w4.heap.size, 0, none⟩ = some (.slice a9 L9 c9) := blkp hcv 0
    have p1 : W2.cell? ⟨w4.heap.size, 1, none⟩ = some (.int .i64 st) := blkp hcv 1
    have p2 : W2.cell? ⟨w4.heap.size, 2, none⟩ = some (.int .i64 sl) := blkp hcv 2
    have r0 : W2.cell? ⟨W.heap.size, 0, none⟩ = some (.slice none 0 0) := blkp hrb 0
    have r1 : W2.cell? ⟨W.heap.size, 1, none⟩ = some (.int .i64 0) := blkp hrb 1
    have r2 : W2.cell? ⟨W.heap.size, 2, none⟩ = some (.int .i64 0) := blkp hrb 2
    have f0 := frzp hrb 0
    have f1 := frzp hrb 1
    have f2 := frzp hrb 2
    have HL9 : Hid (K = pre.map (fun x => instX (cutA 10 x))) := Lib.hid (by
      obtain ⟨t, ht⟩ := hpre
      rw [HL0.out, ← ht, List.take_append_of_le_length (by omega), List.take_of_length_le (by omega)])
    rw [← HL9.out] at hov
    obtain ⟨e1, e2, e3, e4⟩ := guess_last (st := st) (sl := sl) HB0.out HS0.out hbb (by omega) hrb hov (by have := HS0.out; omega) hK
    have E1 := Lib.hid e1
    have E2 := Lib.hid e2
    have E3 := Lib.hid e3
    have E4 := Lib.hid e4
    clear hov hL9 hbb hl hcv hrb hk1 hk2 hb5 e1 e2 e3 e4 hK hD hpre
    gi_wp2
    refine ⟨by simp, .inl ⟨_, _, rfl, run_takeDeferred E1.out, ?_⟩⟩
    refine ⟨.agg #[.slice a9 L9 c9, .int .i64 st, .int .i64 sl], ?_, ⟨_, rfl, E3.out, E4.out⟩⟩
    have hld := load_prog E2.out rfl
    simp [results, Tryd.f49, asAddr, hld, Sem.run_bind]
end Pgm
end Go.Proofs.YtfnimmbmcjgdpaaDoor
