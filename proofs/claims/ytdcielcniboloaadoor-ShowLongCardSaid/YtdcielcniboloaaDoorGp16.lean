/- The landed show: pattern. -/
import Derived.Test.YtdcielcniboloaaDoorGp15
import Derived.Laws.BytesArg
namespace Go.Proofs.YtdcielcniboloaaDoor
open Go.RowKit
set_option linter.unusedVariables false
theorem assertS_nil (w : World) : (Instr.typeAssert .nilIface 20 50 true).run Tryd.prog w = .ok (.tuple #[.agg #[], .bool false]) w := by kernel_rfl
theorem assertS_run (w : World) : (Instr.typeAssert (.iface 50 (.agg #[])) 20 50 true).run Tryd.prog w = .ok (.tuple #[.agg #[], .bool true]) w := by kernel_rfl
set_option maxRecDepth 100000 in
set_option maxHeartbeats 4000000 in
theorem catchS_idle (sb eb : Nat) (w : World) : CallsD Tryd.prog 19 #[.pointer (some ⟨sb, 0, none⟩), .pointer (some ⟨eb, 0, none⟩)] .returning w fun e u' w' => e = .returned (.tuple #[]) ∧ u' = .returning ∧ Below w.heap.size w w' := by
  have hta := assertS_nil
  refine callsD_of_wpS Tryd.func19 rfl fun c₀ cs hu => ?_
  simp only [Tryd.ntmps19, List.size_toArray, List.length_cons, List.length_nil, Nat.reduceAdd, Nat.reduceSub, Array.replicate_succ, Array.replicate_zero, List.push_toArray, List.append_toArray, List.nil_append, List.cons_append]
  apply wpS_seq
  apply wpS_region
  simp [wpOpsS, go_sem, recoverD, hu, Exit.thenS]
  refine wpS_of_wp ?_
  go_wp2
  have hb9 : Below w.heap.size w (w.alloc (.cells #[] 50)) := (Below.refl _ _).alloc (Nat.le_refl _) _
  cases c₀
  simp_all [bodyPostS, results, Tryd.f19]
set_option maxRecDepth 100000 in
set_option maxHeartbeats 8000000 in
theorem catchS_long (sb eb base : Nat) (w : World) (older : List PanicEntry) {s0 e0 : Value} (hs : w.heap[sb]? = some (.cells #[s0] 9 (0, 0))) (he : w.heap[eb]? = some (.cells #[e0] 28 (0, 0)))
    (hne : sb ≠ eb) (hbs : base ≤ sb ∧ base ≤ eb ∧ base ≤ w.heap.size) :
    CallsD Tryd.prog 19 #[.pointer (some ⟨sb, 0, none⟩), .pointer (some ⟨eb, 0, none⟩)] (.panicking ({ v := .iface 50 (.agg #[]), recovered := false } :: older)) w fun e u' w' => e = .returned (.tuple #[]) ∧
      u' = .panicking ({ v := .iface 50 (.agg #[]), recovered := true } :: older) ∧ w'.heap[sb]? = some (.cells #[.string ⟨#[]⟩] 9 (0, 0)) ∧ w'.heap[eb]? = some (.cells #[.int .i64 2] 28 (0, 0)) ∧ Below base w w' := by
  have hta := fun w => assertS_run w
  refine callsD_of_wpS Tryd.func19 rfl fun c₀ cs hu => ?_
  simp only [Tryd.ntmps19, List.size_toArray, List.length_cons, List.length_nil, Nat.reduceAdd, Nat.reduceSub, Array.replicate_succ, Array.replicate_zero, List.push_toArray, List.append_toArray, List.nil_append, List.cons_append]
  apply wpS_seq
  apply wpS_region
  simp [wpOpsS, go_sem, recoverD, hu, Exit.thenS]
  refine wpS_of_wp ?_
  obtain ⟨w1, hw1⟩ : ∃ w1, w.alloc (.cells #[] 50) = w1 := ⟨_, rfl⟩
  have hb1 : Below w.heap.size w w1 := by rw [← hw1]; exact (Below.refl _ _).alloc (Nat.le_refl _) _
  have hs1 := (hb1.block _ (Array.getElem?_eq_some_iff.1 hs).1).trans hs
  have he1 := (hb1.block _ (Array.getElem?_eq_some_iff.1 he).1).trans he
  have y0 := cell_box hs1
  have y1 := cell_box he1
  have z0 := frozen_box hs1
  have z1 := frozen_box he1
  have hq0 : (w1.setCell ⟨sb, 0, none⟩ (.string ⟨#[]⟩)).heap[sb]? = some (.cells #[.string ⟨#[]⟩] 9 (0, 0)) := by
    have h9 := heap_setCell_same w1 sb 0 _ _ (.string ⟨#[]⟩) hs1
    simpa using h9
  have hq1 : (w1.setCell ⟨sb, 0, none⟩ (.string ⟨#[]⟩)).heap[eb]? = some (.cells #[e0] 28 (0, 0)) := (heap_setCell_other w1 ⟨sb, 0, none⟩ eb _ (fun e => hne e.symm)).trans he1
  have hr0 : ((w1.setCell ⟨sb, 0, none⟩ (.string ⟨#[]⟩)).setCell ⟨eb, 0, none⟩ (.int .i64 2)).heap[sb]? = some (.cells #[.string ⟨#[]⟩] 9 (0, 0)) := (heap_setCell_other _ ⟨eb, 0, none⟩ sb _ hne).trans hq0
  have hr1 : ((w1.setCell ⟨sb, 0, none⟩ (.string ⟨#[]⟩)).setCell ⟨eb, 0, none⟩ (.int .i64 2)).heap[eb]? = some (.cells #[.int .i64 2] 28 (0, 0)) := by
    have h9 := heap_setCell_same _ eb 0 _ _ (.int .i64 2) hq1
    simpa using h9
  have hbl : Below base w ((w1.setCell ⟨sb, 0, none⟩ (.string ⟨#[]⟩)).setCell ⟨eb, 0, none⟩ (.int .i64 2)) := ((hb1.mono hbs.2.2).setCell (p := ⟨sb, 0, none⟩) hbs.1 _).setCell (p := ⟨eb, 0, none⟩) hbs.2.1 _
  have HU := Lib.hid hu
  have HR0 := Lib.hid hr0
  have HR1 := Lib.hid hr1
  have HBL := Lib.hid hbl
  have x2 := cell_box hq1
  have z2 := frozen_box hq1
  clear hb1 hs1 he1 hq0 hq1 hr0 hr1 hbl hs he hu hbs
  go_wp2
  cases c₀
  have hu := HU.out
  simp only at hu
  subst hu
  simp [bodyPostS, results, Tryd.f19]
  exact ⟨HR0.out, HR1.out, HBL.out⟩
/-- What is printed, read as a text. -/
theorem pr_text {W : World} {B : Nat} {O : List Int} (h : PrOk W B O) (hb : Utf.Bytes O) : ∃ v, W.heap[B]? = some (.cells #[v] 39 (0, 0)) ∧ (convert 37 9 v).run Tryd.prog W = .ok (.string (txtB O)) W := by
  obtain ⟨v, h1, h2⟩ := h
  refine ⟨v, h1, ?_⟩
  rcases h2.2 with ⟨rfl, e0⟩ | ⟨g, cap, cur, rfl, hg, hgc, hnc, hcm, hsz, htk⟩
  · have e1 : O = [] := List.length_eq_zero_iff.1 e0
    subst e1
    show (convert 37 9 (.slice none 0 0)).run Tryd.prog W = .ok (.string ⟨#[]⟩) W
    exact run_convert_bytes_nil (P := Tryd.prog) (w := W) 37 5 (by kernel_rfl) (by kernel_rfl) 0 0 9 (by kernel_rfl)
  · have hl : (O.map fun x => UInt8.ofNat x.toNat).length = O.length := List.length_map ..
    have h9 := run_convert_bytes_back (P := Tryd.prog) W 37 9 5 ⟨g, 0, none⟩ cap (O.map fun x => UInt8.ofNat x.toNat) (by kernel_rfl) (by kernel_rfl) (by kernel_rfl) (fun j hj => by
      have hjO : j < O.length := by omega
      have hx := hb O[j] (List.getElem_mem hjO)
      have h3 : (((O.map fun x => UInt8.ofNat x.toNat)[j]).toNat : Int) = O[j] := by
        rw [List.getElem_map, UInt8.toNat_ofNat']
        omega
      rw [h3, Addr.add_lit, Nat.zero_add]
      have h4 : cur.toList[j]? = some (.int .u8 O[j]) := by
        have h5 := congrArg (fun l => l[j]?) htk
        simp only [Nat.mul_one] at h5
        rw [List.getElem?_take_of_lt hjO, List.getElem?_map, List.getElem?_eq_getElem hjO] at h5
        exact h5
      rw [Array.getElem?_toList] at h4
      simp [World.cell?, hgc, h4])
    rw [hl] at h9
    exact h9
/-- What a pattern is printed as, or that it is too long. -/
def ShT (X : List Int) (T : ByteArray) (c : Int) : Prop := (X.length ≤ 4096 ∧ Utf.nums T = X ∧ c = 0) ∨ (4096 < X.length ∧ T = ⟨#[]⟩ ∧ c = 2)
set_option maxRecDepth 100000 in
set_option maxHeartbeats 8000000 in
theorem pattern_show (W0 W : World) (B k : Nat) (n : Nd) (cs : List Value) (hf : FitS k n) (hp : PrOk W B []) (hE : PrEv W0 B W) (hn : NdOn (fun b => b < B) W n cs) :
    Calls Tryd.prog 13 #[.pointer (some ⟨B, 0, none⟩), .agg cs.toArray] W fun e w' => ∃ T c, e = .returned (.tuple #[.string T, .int .i64 c]) ∧ ShT (Sh.shL k n) T c ∧ Below B W w' := by
  have hmf : ∀ (fn : Fn) (first cap : Array Value) (w : World), (Instr.makeFunc fn first cap).run Tryd.prog w = .ok (.func fn first cap) w := fun _ _ _ _ => rfl
  obtain ⟨u0, u1, u2, u3, u4, u5, u6, u7, sa, sc, aa, ac, rfl, F⟩ := hn.is.form_of
  have hBlt := hp.lt
  obtain ⟨nb, hnb⟩ : ∃ nb, W.heap.size = nb := ⟨_, rfl⟩
  obtain ⟨w1, hw1⟩ : ∃ w1, ((W.alloc (.cells #[u0, u1, u2, u3, u4, u5, u6, u7] 25)).alloc (.cells #[.string ⟨#[]⟩] 9)).alloc (.cells #[.int .i64 0] 28) = w1 := ⟨_, rfl⟩
  have hb1 : Below W.heap.size W w1 := by rw [← hw1]; exact (((Below.refl _ _).alloc (Nat.le_refl _) _).alloc (by simp) _).alloc (by simp; omega) _
  have old : ∀ {w : World} {b : Nat} {o x : Obj}, w.heap[b]? = some o → (w.alloc x).heap[b]? = some o := fun h => (Below.heap_alloc _ _ _ (Array.getElem?_eq_some_iff.1 h).1).trans h
  have hn1 : w1.heap[nb]? = some (.cells #[u0, u1, u2, u3, u4, u5, u6, u7] 25 (0, 0)) := by rw [← hw1, ← hnb]; exact old (old (heap_alloc_new _ _))
  have hs1 : w1.heap[nb + 1]? = some (.cells #[.string ⟨#[]⟩] 9 (0, 0)) := by
    rw [← hw1, ← hnb]
    have h9 := heap_alloc_new (W.alloc (.cells #[u0, u1, u2, u3, u4, u5, u6, u7] 25)) (.cells #[.string ⟨#[]⟩] 9)
    rw [World.size_alloc] at h9
    exact old h9
  have he1 : w1.heap[nb + 2]? = some (.cells #[.int .i64 0] 28 (0, 0)) := by
    rw [← hw1, ← hnb]
    have h9 := heap_alloc_new ((W.alloc (.cells #[u0, u1, u2, u3, u4, u5, u6, u7] 25)).alloc (.cells #[.string ⟨#[]⟩] 9)) (.cells #[.int .i64 0] 28)
    rw [World.size_alloc, World.size_alloc] at h9
    exact h9
  obtain ⟨p1, k1⟩ := hp.kpb hb1
  have HND := Lib.hid (node_show k W0 w1 B [] n _ hf p1 (by decide) (hE.kp (by omega) k1) (hn.kp k1))
  obtain ⟨X, hX⟩ : ∃ X, Sh.shL k n = X := ⟨_, rfl⟩
  have HBY : Hid (Utf.Bytes X) := Lib.hid (by rw [← hX]; exact bytes_sh k n)
  rw [hX] at HND ⊢
  have HK1 := Lib.hid k1
  have HN1 := Lib.hid hn1
  have HS1 := Lib.hid hs1
  have HE1 := Lib.hid he1
  have HW1 := Lib.hid hw1
  have HNB := Lib.hid hnb
  obtain ⟨d0, d1, d2, d3, d4, d5, d6, d7⟩ := box_cells hn1
  have hnB : B < nb := by omega
  obtain ⟨rfl, rfl, rfl, rfl, rfl, rfl, rfl, rfl⟩ := F
  clear hb1 hn1 hs1 he1 hw1 hnb p1 k1 hn hE hp hf hX old
  go_enter_defers Tryd.func13, Tryd.ntmps13
  go_wp2_with fail
  rw [HW1.out, HNB.out]
  refine HND.out.mono ?_
  rintro e w2 ⟨k2, h2⟩
  have hs2 := k2.kept HS1.out (noP_of (by decide) (by decide))
  have he2 := k2.kept HE1.out (noP_of (by decide) (by decide))
  have HK2 := Lib.hid (HK1.out.trans k2)
  have hz2 : nb + 2 < w2.heap.size := (Array.getElem?_eq_some_iff.1 he2).1
  have hBW : B ≤ W.heap.size := by rw [HNB.out]; omega
  rcases h2 with ⟨l2, rfl, p2⟩ | ⟨l2, O', a1, a2, rfl, a3⟩
  · rw [List.nil_append] at p2
    rw [List.length_nil, Nat.zero_add] at l2
    obtain ⟨v, hbx, hcv⟩ := pr_text p2 HBY.out
    have HT : Hid (ShT X (txtB X) 0) := Lib.hid (.inl ⟨l2, txtB_nums HBY.out, rfl⟩)
    obtain ⟨T, hT⟩ : ∃ T, txtB X = T := ⟨_, rfl⟩
    rw [hT] at hcv HT
    have q0 := cell_box hbx
    have qs := cell_box hs2
    have zs := frozen_box hs2
    have hs3 : (w2.setCell ⟨nb + 1, 0, none⟩ (.string T)).heap[nb + 1]? = some (.cells #[.string T] 9 (0, 0)) := by
      have h9 := heap_setCell_same w2 (nb + 1) 0 _ _ (.string T) hs2
      simpa using h9
    have he3 : (w2.setCell ⟨nb + 1, 0, none⟩ (.string T)).heap[nb + 2]? = some (.cells #[.int .i64 0] 28 (0, 0)) := (heap_setCell_other w2 ⟨nb + 1, 0, none⟩ (nb + 2) _ (by show nb + 2 ≠ nb + 1; omega)).trans he2
    have qe := cell_box he3
    have ze := frozen_box he3
    obtain ⟨w3, hw3⟩ : ∃ w3, (w2.setCell ⟨nb + 1, 0, none⟩ (.string T)).setCell ⟨nb + 2, 0, none⟩ (.int .i64 0) = w3 := ⟨_, rfl⟩
    have hs4 : w3.heap[nb + 1]? = some (.cells #[.string T] 9 (0, 0)) := by rw [← hw3]; exact (heap_setCell_other _ ⟨nb + 2, 0, none⟩ (nb + 1) _ (by show nb + 1 ≠ nb + 2; omega)).trans hs3
    have he4 : w3.heap[nb + 2]? = some (.cells #[.int .i64 0] 28 (0, 0)) := by
      rw [← hw3]
      have h9 := heap_setCell_same _ (nb + 2) 0 _ _ (.int .i64 0) he3
      simpa using h9
    have HB3 : Hid (Below B W w3) := Lib.hid (by rw [← hw3]; exact ((HK2.out.below hBW).setCell (p := ⟨nb + 1, 0, none⟩) (by show B ≤ nb + 1; omega) _).setCell (p := ⟨nb + 2, 0, none⟩) (by show B ≤ nb + 2; omega) _)
    have HW3 := Lib.hid hw3
    have HS4 := Lib.hid hs4
    have HE4 := Lib.hid he4
    clear hbx hs3 he3 hw3 hs4 he4 hs2 he2 p2 l2 k2 hT
    go_wp2
    rw [HW3.out]
    refine leaves_cons (f := 19) (args := #[.pointer (some ⟨nb + 1, 0, none⟩), .pointer (some ⟨nb + 2, 0, none⟩)]) (by simp) (by simp [go_sem]) ?_
    refine (catchS_idle (nb + 1) (nb + 2) w3).mono ?_
    rintro e u' w4 ⟨rfl, rfl, hb4⟩
    have hl4 := (Array.getElem?_eq_some_iff.1 HE4.out).1
    have qa := cell_box ((hb4.block _ (by omega)).trans HS4.out)
    have qe := cell_box ((hb4.block _ hl4).trans HE4.out)
    have HFIN : Hid (Below B W w4) := Lib.hid (HB3.out.trans (hb4.mono (by omega)))
    clear hb4 q0 qs zs ze hcv
    simp [Leaves, settle, results, Tryd.f13, go_sem, qa, qe]
    exact ⟨_, _, ⟨rfl, rfl⟩, HT.out, HFIN.out⟩
  · refine leaves_cons (f := 19) (args := #[.pointer (some ⟨nb + 1, 0, none⟩), .pointer (some ⟨nb + 2, 0, none⟩)]) (by simp) (by simp [go_sem]) ?_
    refine (catchS_long (nb + 1) (nb + 2) B w2 [] hs2 he2 (by omega) (by omega)).mono ?_
    rintro e u' w3 ⟨rfl, rfl, hs3, he3, hb3⟩
    have qa := cell_box hs3
    have qe := cell_box he3
    have HFIN : Hid (Below B W w3) := Lib.hid ((HK2.out.below hBW).trans hb3)
    have HT : Hid (ShT X ⟨#[]⟩ 2) := Lib.hid (.inr ⟨by rw [List.length_nil, Nat.zero_add] at l2; exact l2, rfl, rfl⟩)
    clear hs3 he3 hb3 a3 l2
    simp [Leaves, settle, results, Tryd.f13, go_sem, qa, qe]
    exact ⟨_, _, ⟨rfl, rfl⟩, HT.out, HFIN.out⟩
end Go.Proofs.YtdcielcniboloaaDoor
