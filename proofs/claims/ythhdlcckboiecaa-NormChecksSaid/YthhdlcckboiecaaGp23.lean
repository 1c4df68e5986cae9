/- The landed norm: clone. -/
import Derived.Test.YthhdlcckboiecaaGp22
import Derived.Test.YthhdlcckboiecaaGp6
import Derived.Deep.RegionLaw
namespace Go.Proofs.Ythhdlcckboiecaa
open Go.RowKit
set_option linter.unusedVariables false
set_option linter.unusedSimpArgs false
/-- A tree that is at most so deep, no node with too many parts. -/
def Shal : Nat → Nd → Prop
  | 0, _ => False
  | k + 1, n => (Td.subs n).length ≤ 999999 ∧ ∀ m ∈ Td.subs n, Shal k m
def CloneOk (k : Nat) : Prop := ∀ (W : World) (n : Nd) (cs : List Value), Shal k n → NdIs W n cs →
  Calls Try.prog 64 #[.agg cs.toArray] W fun e w' => ∃ cs' : List Value, e = .returned (.agg cs'.toArray) ∧ NwP (fun b => W.heap.size ≤ b) w' n cs' ∧ Below W.heap.size W w'
theorem RowC.congr {W : World} {g N : Nat} {F G : Nat → List Value} (h : RowC W g N F) (e : ∀ j, j < N → F j = G j) : RowC W g N G := by
  obtain ⟨cur, h1, h2, h3⟩ := h
  exact ⟨cur, h1, h2, fun j hj q hq => by rw [h3 j hj q hq, e j hj]⟩
theorem set_len {F : Nat → List Value} {N i p : Nat} {v : Value} (h8 : ∀ j, j < N → (F j).length = 8) : ∀ j, j < N → ((fun j => if j = i then (F j).set p v else F j) j).length = 8 := fun j hj => by
  show (if j = i then (F j).set p v else F j).length = 8
  split
  · rw [List.length_set]; exact h8 j hj
  · exact h8 j hj
theorem RowC.set8 {W : World} {g N : Nat} {F : Nat → List Value} (h : RowC W g N F) (h8 : ∀ j, j < N → (F j).length = 8) (i : Nat) (hi : i < N) (v0 v1 v2 v3 v4 v5 v6 v7 : Value) :
    RowC ((((((((W.setCell ⟨g, i * 8, none⟩ v0).setCell ⟨g, i * 8 + 1, none⟩ v1).setCell ⟨g, i * 8 + 2, none⟩ v2).setCell ⟨g, i * 8 + 3, none⟩ v3).setCell ⟨g, i * 8 + 4, none⟩ v4).setCell ⟨g, i * 8 + 5, none⟩ v5).setCell ⟨g, i * 8 + 6, none⟩ v6).setCell ⟨g, i * 8 + 7, none⟩ v7) g N (fun j => if j = i then [v0, v1, v2, v3, v4, v5, v6, v7] else F j) := by
  have s0 := h.set1 h8 i 0 hi (by omega) v0
  have l0 := set_len (i := i) (p := 0) (v := v0) h8
  have s1 := s0.set1 l0 i 1 hi (by omega) v1
  have l1 := set_len (i := i) (p := 1) (v := v1) l0
  have s2 := s1.set1 l1 i 2 hi (by omega) v2
  have l2 := set_len (i := i) (p := 2) (v := v2) l1
  have s3 := s2.set1 l2 i 3 hi (by omega) v3
  have l3 := set_len (i := i) (p := 3) (v := v3) l2
  have s4 := s3.set1 l3 i 4 hi (by omega) v4
  have l4 := set_len (i := i) (p := 4) (v := v4) l3
  have s5 := s4.set1 l4 i 5 hi (by omega) v5
  have l5 := set_len (i := i) (p := 5) (v := v5) l4
  have s6 := s5.set1 l5 i 6 hi (by omega) v6
  have l6 := set_len (i := i) (p := 6) (v := v6) l5
  have s7 := s6.set1 l6 i 7 hi (by omega) v7
  rw [Nat.add_zero] at s7
  refine s7.congr (fun j hj => ?_)
  by_cases hji : j = i
  · subst hji
    simp only [if_pos rfl]
    match hF : F j, h8 j hj with
    | [a0, a1, a2, a3, a4, a5, a6, a7], _ => rfl
  · simp only [if_neg hji]
/-- A node again, its set and its row elsewhere. -/
theorem nd_again {S : Nat → Prop} {W W' : World} {n : Nd} {cs : List Value} (h : NdIs W n cs) {v1 : Value} {a : Option Addr} {c N : Nat} (hN : (Td.subs n).length = N) (hset : RRowOn S W' v1 (Td.set n)) (F : Nat → List Value)
    (hrow : ∀ j, j < N → ∃ b off, a = some ⟨b, off, none⟩ ∧ S b ∧ b < W'.heap.size ∧ (F j).length = 8 ∧ ∀ i, i < 8 → W'.cell? ⟨b, off + j * 8 + i, none⟩ = (F j)[i]?) (hsub : ∀ j m, (Td.subs n)[j]? = some m → NdOn S W' m (F j)) :
    NdOn S W' n [.int .i64 (Td.kind n), v1, .int .i64 (Td.num n), .string (Td.name n), .int .i64 (Td.mn n), .int .i64 (Td.mx n), .bool (Td.lazy n), .slice a N c] := by
  obtain ⟨vs, a0, cap, C, hC⟩ := h.cells
  cases n with
  | mk k set num name mn mx lz subs =>
    have hN' : subs.length = N := hN
    subst hN'
    exact NdOn.mk F hC.bd hset hC.name hC.len hrow (fun j hj => hsub j _ (List.getElem?_eq_getElem hj))
theorem rowcell {W : World} {B : Nat} {cs : Array Value} {t : TypeId} (h : W.heap[B]? = some (.cells cs t (0, 0))) (i : Nat) : W.cell? ⟨B, i, none⟩ = cs[i]? := by simp [World.cell?, h]
set_option maxRecDepth 100000 in
set_option maxHeartbeats 8000000 in
theorem clone_step (k : Nat) (ih : CloneOk k) : CloneOk (k + 1) := by
  intro W n cs hs h
  have mixed : Try.prog.follows .mixedOrders = true := by kernel_rfl
  have hon := NdOn.of h
  obtain ⟨vs, a, cap, Y, hcs, hset, hY, hYr⟩ := hon.parts
  have HID := Lib.hid h
  subst hcs
  obtain ⟨sa, sk, sc, rfl⟩ : ∃ a k c, vs = .slice a k c := by obtain ⟨a, c, h, -⟩ := hset.1; exact ⟨a, _, c, h⟩
  have HSETC := Lib.hid (fun (w : World) (hb : Below W.heap.size W w) => cloneRg_set w _ _ (hset.1.below (Nat.le_refl _) hb))
  have HROWC := Lib.hid (fun (w : World) (hb : Below W.heap.size W w) => cloneNd_row w (Td.subs n) Y a cap (NdsOn.kept hb.size (fun b hb' _ => hb.block b hb') hY) (by have := hs.1; omega) (fun h0 => by
    obtain ⟨b, off, ha, hS, hlt, hc⟩ := hYr h0
    exact ⟨b, off, ha, hS, Nat.lt_of_lt_of_le hlt hb.size, fun j u hu => by
      have h9 := hc j u hu
      rw [Addr.add_lit] at h9 ⊢
      exact (hb.cell (p := ⟨b, off + j, none⟩) hlt).trans h9⟩))
  have HY := Lib.hid hY
  have HS := Lib.hid hs
  have IH := Lib.hid ih
  obtain ⟨N, hN⟩ : ∃ N, (Td.subs n).length = N := ⟨_, rfl⟩
  rw [hN] at HROWC ⊢
  have HNN := Lib.hid hN
  have hN9 : N ≤ 999999 := by rw [← hN]; exact hs.1
  clear hon h hset hY hYr hs ih hN
  go_enter Try.func64, Try.ntmps64
  go_wp2_with fail
  obtain ⟨w0, hw0⟩ : ∃ w0, (W.alloc (.cells #[.int .i64 (Td.kind n), .slice sa sk sc, .int .i64 (Td.num n), .string (Td.name n), .int .i64 (Td.mn n), .int .i64 (Td.mx n), .bool (Td.lazy n), .slice a N cap] 25)).alloc (.cells #[.int .i64 0, .slice none 0 0, .int .i64 0, .string ⟨#[]⟩, .int .i64 0, .int .i64 0, .bool false, .slice none 0 0] 25) = w0 := ⟨_, rfl⟩
  have HX0 : Hid (w0.heap[W.heap.size]? = some (.cells #[.int .i64 (Td.kind n), .slice sa sk sc, .int .i64 (Td.num n), .string (Td.name n), .int .i64 (Td.mn n), .int .i64 (Td.mx n), .bool (Td.lazy n), .slice a N cap] 25 (0, 0))) := Lib.hid (by rw [← hw0]; exact (Below.heap_alloc _ _ _ (by simp)).trans (heap_alloc_new W _))
  have HR0 : Hid (w0.heap[W.heap.size + 1]? = some (.cells #[.int .i64 0, .slice none 0 0, .int .i64 0, .string ⟨#[]⟩, .int .i64 0, .int .i64 0, .bool false, .slice none 0 0] 25 (0, 0))) := Lib.hid (by
    rw [← hw0]
    have := heap_alloc_new (W.alloc (.cells #[.int .i64 (Td.kind n), .slice sa sk sc, .int .i64 (Td.num n), .string (Td.name n), .int .i64 (Td.mn n), .int .i64 (Td.mx n), .bool (Td.lazy n), .slice a N cap] 25)) (.cells #[.int .i64 0, .slice none 0 0, .int .i64 0, .string ⟨#[]⟩, .int .i64 0, .int .i64 0, .bool false, .slice none 0 0] 25)
    rw [World.size_alloc] at this
    exact this)
  have HB0 : Hid (Below W.heap.size W w0) := Lib.hid (by rw [← hw0]; exact ((Below.refl _ _).alloc (Nat.le_refl _) _).alloc (by simp) _)
  have hs0 : w0.heap.size = W.heap.size + 2 := by rw [← hw0]; simp
  rw [hw0]
  clear hw0
  refine (HSETC.out w0 HB0.out).mono ?_
  rintro e w1 ⟨v1, rfl, hv1, hb1⟩
  rw [hs0] at hb1
  have HX1 : Hid (w1.heap[W.heap.size]? = some (.cells #[.int .i64 (Td.kind n), .slice sa sk sc, .int .i64 (Td.num n), .string (Td.name n), .int .i64 (Td.mn n), .int .i64 (Td.mx n), .bool (Td.lazy n), .slice a N cap] 25 (0, 0))) := Lib.hid ((hb1.block _ (by omega)).trans HX0.out)
  have HR1 : Hid (w1.heap[W.heap.size + 1]? = some (.cells #[.int .i64 0, .slice none 0 0, .int .i64 0, .string ⟨#[]⟩, .int .i64 0, .int .i64 0, .bool false, .slice none 0 0] 25 (0, 0))) := Lib.hid ((hb1.block _ (by omega)).trans HR0.out)
  have HB1 : Hid (Below W.heap.size W w1) := Lib.hid (HB0.out.trans (hb1.mono (by omega)))
  have hs1 : W.heap.size + 2 ≤ w1.heap.size := by have := hb1.size; omega
  have HV1 := Lib.hid hv1
  obtain ⟨na, nk, nc, rfl⟩ : ∃ a k c, v1 = .slice a k c := by obtain ⟨a, c, h, -⟩ := hv1.1; exact ⟨a, _, c, h⟩
  have b0 := rowcell HX1.out 0
  have b1 := rowcell HX1.out 1
  have b2 := rowcell HX1.out 2
  have b3 := rowcell HX1.out 3
  have b4 := rowcell HX1.out 4
  have b5 := rowcell HX1.out 5
  have b6 := rowcell HX1.out 6
  have b7 := rowcell HX1.out 7
  simp only [List.getElem?_toArray, List.getElem?_cons_zero, List.getElem?_cons_succ] at b0 b1 b2 b3 b4 b5 b6 b7
  have f1 : w1.frozen? ⟨W.heap.size, 1, none⟩ = false := by simp [World.frozen?, HX1.out]
  clear hb1 hv1
  go_wp2_with fail
  obtain ⟨wA, hwA⟩ : ∃ wA, w1.setCell ⟨W.heap.size, 1, none⟩ (.slice na nk nc) = wA := ⟨_, rfl⟩
  have HXA : Hid (wA.heap[W.heap.size]? = some (.cells #[.int .i64 (Td.kind n), .slice na nk nc, .int .i64 (Td.num n), .string (Td.name n), .int .i64 (Td.mn n), .int .i64 (Td.mx n), .bool (Td.lazy n), .slice a N cap] 25 (0, 0))) := Lib.hid (by
    rw [← hwA]
    have := heap_setCell_same w1 W.heap.size 1 _ _ (.slice na nk nc) HX1.out
    simpa using this)
  have HRA : Hid (wA.heap[W.heap.size + 1]? = some (.cells #[.int .i64 0, .slice none 0 0, .int .i64 0, .string ⟨#[]⟩, .int .i64 0, .int .i64 0, .bool false, .slice none 0 0] 25 (0, 0))) := Lib.hid (by rw [← hwA]; exact (heap_setCell_other _ _ _ _ (by simp)).trans HR1.out)
  have HBA : Hid (Below W.heap.size W wA) := Lib.hid (by rw [← hwA]; exact HB1.out.setCell (p := ⟨W.heap.size, 1, none⟩) (Nat.le_refl _) _)
  have hsA : W.heap.size + 2 ≤ wA.heap.size := by rw [← hwA]; simpa using hs1
  have HVA : Hid (RRowOn (fun b => W.heap.size + 2 ≤ b ∧ b < wA.heap.size) wA (.slice na nk nc) (Td.set n)) := Lib.hid (by
    rw [← hwA]
    refine (HV1.out.kept (by simp) (fun b hb _ => heap_setCell_other _ _ _ _ (by show b ≠ W.heap.size; omega))).mono (fun b hb => ⟨by omega, by simpa using hb.2⟩))
  rw [hwA]
  clear hwA b0 b1 b2 b3 b4 b5 b6 b7 f1
  refine (HROWC.out wA HBA.out).mono ?_
  rintro e w2 ⟨v2, rfl, hcl, hb2⟩
  have HX2 : Hid (w2.heap[W.heap.size]? = some (.cells #[.int .i64 (Td.kind n), .slice na nk nc, .int .i64 (Td.num n), .string (Td.name n), .int .i64 (Td.mn n), .int .i64 (Td.mx n), .bool (Td.lazy n), .slice a N cap] 25 (0, 0))) := Lib.hid ((hb2.block _ (by omega)).trans HXA.out)
  have HR2 : Hid (w2.heap[W.heap.size + 1]? = some (.cells #[.int .i64 0, .slice none 0 0, .int .i64 0, .string ⟨#[]⟩, .int .i64 0, .int .i64 0, .bool false, .slice none 0 0] 25 (0, 0))) := Lib.hid ((hb2.block _ (by omega)).trans HRA.out)
  have HB2 : Hid (Below W.heap.size W w2) := Lib.hid (HBA.out.trans (hb2.mono (by omega)))
  have hs2 : wA.heap.size ≤ w2.heap.size := hb2.size
  have HV2 : Hid (RRowOn (fun b => W.heap.size + 2 ≤ b ∧ b < w2.heap.size) w2 (.slice na nk nc) (Td.set n)) := Lib.hid ((HVA.out.kept hb2.size (fun b hb' hl => hb2.block b hl)).mono (fun b hb' => ⟨hb'.1, by omega⟩))
  have b0 := rowcell HX2.out 0
  have b1 := rowcell HX2.out 1
  have b2 := rowcell HX2.out 2
  have b3 := rowcell HX2.out 3
  have b4 := rowcell HX2.out 4
  have b5 := rowcell HX2.out 5
  have b6 := rowcell HX2.out 6
  have b7 := rowcell HX2.out 7
  simp only [List.getElem?_toArray, List.getElem?_cons_zero, List.getElem?_cons_succ] at b0 b1 b2 b3 b4 b5 b6 b7
  have f7 : w2.frozen? ⟨W.heap.size, 7, none⟩ = false := by simp [World.frozen?, HX2.out]
  have HKB : Hid (∀ b, b < wA.heap.size → w2.heap[b]? = wA.heap[b]?) := Lib.hid (fun b hl => hb2.block b hl)
  clear hb2
  rcases hcl with ⟨h0, a', c', rfl⟩ | ⟨h0, g, c', rfl, hg, hcap, hR⟩
  · have hN0 : N = 0 := by rw [← HNN.out]; exact h0
    subst hN0
    go_wp2
    obtain ⟨w3, hw3⟩ : ∃ w3, w2.setCell ⟨W.heap.size, 7, none⟩ (.slice a' 0 c') = w3 := ⟨_, rfl⟩
    have HX3 : Hid (w3.heap[W.heap.size]? = some (.cells #[.int .i64 (Td.kind n), .slice na nk nc, .int .i64 (Td.num n), .string (Td.name n), .int .i64 (Td.mn n), .int .i64 (Td.mx n), .bool (Td.lazy n), .slice a' 0 c'] 25 (0, 0))) := Lib.hid (by
      rw [← hw3]
      have := heap_setCell_same w2 W.heap.size 7 _ _ (.slice a' 0 c') HX2.out
      simpa using this)
    have HR3 : Hid (w3.heap[W.heap.size + 1]? = some (.cells #[.int .i64 0, .slice none 0 0, .int .i64 0, .string ⟨#[]⟩, .int .i64 0, .int .i64 0, .bool false, .slice none 0 0] 25 (0, 0))) := Lib.hid (by rw [← hw3]; exact (heap_setCell_other _ _ _ _ (by simp)).trans HR2.out)
    have HB3 : Hid (Below W.heap.size W w3) := Lib.hid (by rw [← hw3]; exact HB2.out.setCell (p := ⟨W.heap.size, 7, none⟩) (Nat.le_refl _) _)
    have HV3 : Hid (RRowOn (fun b => (W.heap.size ≤ b ∧ b ≠ W.heap.size + 1) ∧ b < w3.heap.size) w3 (.slice na nk nc) (Td.set n)) := Lib.hid (by
      rw [← hw3]
      exact (HV2.out.kept (by simp) (fun b hb _ => heap_setCell_other _ _ _ _ (by show b ≠ W.heap.size; omega))).mono (fun b hb => ⟨⟨by omega, by omega⟩, by simpa using hb.2⟩))
    have HNODE0 : Hid (NdOn (fun b => (W.heap.size ≤ b ∧ b ≠ W.heap.size + 1) ∧ b < w3.heap.size) w3 n [.int .i64 (Td.kind n), .slice na nk nc, .int .i64 (Td.num n), .string (Td.name n), .int .i64 (Td.mn n), .int .i64 (Td.mx n), .bool (Td.lazy n), .slice a' 0 c']) := Lib.hid (nd_again HID.out HNN.out HV3.out (fun _ => [])
      (fun j hj => absurd hj (by omega)) (fun j m hm => by
        have := (List.getElem?_eq_some_iff.1 hm).1
        rw [HNN.out] at this
        exact absurd this (by omega)))
    rw [hw3]
    clear hw3 b0 b1 b2 b3 b4 b5 b6 b7 f7
    go_loopw [16] (fun iv wr => iv = .int .i64 0 ∧ w3 = wr) (fun _ _ => 0)
    case atStart => exact ⟨rfl, rfl⟩
    case round =>
      obtain ⟨rfl, rfl⟩ := hrel
      have b0 := rowcell HX3.out 0
      have b1 := rowcell HX3.out 1
      have b2 := rowcell HX3.out 2
      have b3 := rowcell HX3.out 3
      have b4 := rowcell HX3.out 4
      have b5 := rowcell HX3.out 5
      have b6 := rowcell HX3.out 6
      have b7 := rowcell HX3.out 7
      simp only [List.getElem?_toArray, List.getElem?_cons_zero, List.getElem?_cons_succ] at b0 b1 b2 b3 b4 b5 b6 b7
      have c0 : w3.cell? ⟨W.heap.size + 1, 0, none⟩ = some (.int .i64 0) := by simp [World.cell?, HR3.out]
      have f0 : w3.frozen? ⟨W.heap.size + 1, 0, none⟩ = false := by simp [World.frozen?, HR3.out]
      have c1 : w3.cell? ⟨W.heap.size + 1, 1, none⟩ = some (.slice none 0 0) := by simp [World.cell?, HR3.out]
      have f1 : w3.frozen? ⟨W.heap.size + 1, 1, none⟩ = false := by simp [World.frozen?, HR3.out]
      have c2 : w3.cell? ⟨W.heap.size + 1, 2, none⟩ = some (.int .i64 0) := by simp [World.cell?, HR3.out]
      have f2 : w3.frozen? ⟨W.heap.size + 1, 2, none⟩ = false := by simp [World.frozen?, HR3.out]
      have c3 : w3.cell? ⟨W.heap.size + 1, 3, none⟩ = some (.string ⟨#[]⟩) := by simp [World.cell?, HR3.out]
      have f3 : w3.frozen? ⟨W.heap.size + 1, 3, none⟩ = false := by simp [World.frozen?, HR3.out]
      have c4 : w3.cell? ⟨W.heap.size + 1, 4, none⟩ = some (.int .i64 0) := by simp [World.cell?, HR3.out]
      have f4 : w3.frozen? ⟨W.heap.size + 1, 4, none⟩ = false := by simp [World.frozen?, HR3.out]
      have c5 : w3.cell? ⟨W.heap.size + 1, 5, none⟩ = some (.int .i64 0) := by simp [World.cell?, HR3.out]
      have f5 : w3.frozen? ⟨W.heap.size + 1, 5, none⟩ = false := by simp [World.frozen?, HR3.out]
      have c6 : w3.cell? ⟨W.heap.size + 1, 6, none⟩ = some (.bool false) := by simp [World.cell?, HR3.out]
      have f6 : w3.frozen? ⟨W.heap.size + 1, 6, none⟩ = false := by simp [World.frozen?, HR3.out]
      have c7 : w3.cell? ⟨W.heap.size + 1, 7, none⟩ = some (.slice none 0 0) := by simp [World.cell?, HR3.out]
      have f7 : w3.frozen? ⟨W.heap.size + 1, 7, none⟩ = false := by simp [World.frozen?, HR3.out]
      go_wp2
      (try simp only [Exit.inBlock, Exit.then])
      refine ret_ndN rfl (W.heap.size + 1) _ rfl (set8_blk _ _ _ _ _ _ _ _ _ _ HR3.out) rfl rfl ?_
      refine ⟨[_, _, _, _, _, _, _, _], rfl, ?_, set8_below HB3.out _ (by omega) _ _ _ _ _ _ _ _⟩
      exact NdOn.mono (fun b hb => ⟨hb.1.1, by rw [set8_size]; exact hb.2⟩) (NdOn.kept (by rw [set8_size]; exact Nat.le_refl _) (fun b hb _ => set8_other _ _ _ _ _ _ _ _ _ _ b hb.1.2) HNODE0.out)
  · rw [HNN.out] at h0 hcap hR ⊢
    have HG2 : Hid (wA.heap.size ≤ g) := Lib.hid hg
    have HRC := Lib.hid hR
    have hgl := hR.lt
    have HSV : Hid (RRowOn (fun b => W.heap.size + 2 ≤ b ∧ b < g) w2 (.slice na nk nc) (Td.set n)) := Lib.hid ((HVA.out.kept (W' := w2) hs2 (fun b hb' hl => (HKB.out b hl))).mono (fun b hb' => ⟨hb'.1, by have := HG2.out; omega⟩))
    clear hR hg
    go_wp2
    obtain ⟨w3, hw3⟩ : ∃ w3, w2.setCell ⟨W.heap.size, 7, none⟩ (.slice (some ⟨g, 0, none⟩) N c') = w3 := ⟨_, rfl⟩
    have HX3 : Hid (w3.heap[W.heap.size]? = some (.cells #[.int .i64 (Td.kind n), .slice na nk nc, .int .i64 (Td.num n), .string (Td.name n), .int .i64 (Td.mn n), .int .i64 (Td.mx n), .bool (Td.lazy n), .slice (some ⟨g, 0, none⟩) N c'] 25 (0, 0))) := Lib.hid (by
      rw [← hw3]
      have := heap_setCell_same w2 W.heap.size 7 _ _ (.slice (some ⟨g, 0, none⟩) N c') HX2.out
      simpa using this)
    have HR3 : Hid (w3.heap[W.heap.size + 1]? = some (.cells #[.int .i64 0, .slice none 0 0, .int .i64 0, .string ⟨#[]⟩, .int .i64 0, .int .i64 0, .bool false, .slice none 0 0] 25 (0, 0))) := Lib.hid (by rw [← hw3]; exact (heap_setCell_other _ _ _ _ (by simp)).trans HR2.out)
    have HB3 : Hid (Below W.heap.size W w3) := Lib.hid (by rw [← hw3]; exact HB2.out.setCell (p := ⟨W.heap.size, 7, none⟩) (Nat.le_refl _) _)
    have HV3 : Hid (RRowOn (fun b => W.heap.size + 2 ≤ b ∧ b < g) w3 (.slice na nk nc) (Td.set n)) := Lib.hid (by
      rw [← hw3]
      exact HSV.out.kept (by simp) (fun b hb _ => heap_setCell_other _ _ _ _ (by show b ≠ W.heap.size; omega)))
    have HC3 : Hid (RowC w3 g N (fun j => Y.getD j [])) := Lib.hid (by
      rw [← hw3]
      exact HRC.out.kept (heap_setCell_other _ _ _ _ (by show g ≠ W.heap.size; have := HG2.out; omega)))
    rw [hw3]
    clear hw3 b0 b1 b2 b3 b4 b5 b6 b7 f7
    go_loopw [16] (fun iv wr => ∃ (i : Nat) (F : Nat → List Value), i ≤ N ∧ iv = .int .i64 (i : Int) ∧ Hid (wr.heap[W.heap.size]? = some (.cells #[.int .i64 (Td.kind n), .slice na nk nc, .int .i64 (Td.num n), .string (Td.name n), .int .i64 (Td.mn n), .int .i64 (Td.mx n), .bool (Td.lazy n), .slice (some ⟨g, 0, none⟩) N c'] 25 (0, 0))) ∧ Hid (wr.heap[W.heap.size + 1]? = some (.cells #[.int .i64 0, .slice none 0 0, .int .i64 0, .string ⟨#[]⟩, .int .i64 0, .int .i64 0, .bool false, .slice none 0 0] 25 (0, 0))) ∧ Hid (Below W.heap.size W wr) ∧
      Hid (RRowOn (fun b => W.heap.size + 2 ≤ b ∧ b < g) wr (.slice na nk nc) (Td.set n)) ∧ Hid (RowC wr g N F) ∧ Hid (∀ j m, j < i → (Td.subs n)[j]? = some m → NwP (fun b => g < b) wr m (F j)) ∧ Hid (∀ j, i ≤ j → F j = Y.getD j []) ∧ Hid (∀ j, j < N → (F j).length = 8)) (fun iv _ => N - (intOf iv).toNat)
    case atStart => exact ⟨0, fun j => Y.getD j [], Nat.zero_le _, rfl, HX3, HR3, HB3, HV3, HC3, Lib.hid (fun j m hj => absurd hj (by omega)), Lib.hid (fun j _ => rfl), Lib.hid (fun j hj => by
      obtain ⟨x, hx, hn⟩ := HY.out.2 j (by rw [HNN.out]; exact hj)
      show (Y.getD j []).length = 8
      rw [List.getD, hx]; exact hn.is.len)⟩
    case round =>
      obtain ⟨i, F, hi, rfl, HX, HR, HB, HV, HC, HD, HE, HF8⟩ := hrel
      by_cases hlt : i < N
      · have hiL : i < (Td.subs n).length := by rw [HNN.out]; exact hlt
        obtain ⟨x, hx, hn⟩ := HY.out.2 i hiL
        obtain ⟨m, hm⟩ : ∃ m, (Td.subs n)[i] = m := ⟨_, rfl⟩
        have hmm := hm
        rw [hm] at hn
        have hsm : Shal k m := HS.out.2 m (by rw [← hm]; exact List.getElem_mem _)
        have hFi : F i = x := by rw [HE.out i (Nat.le_refl _), List.getD, hx]; rfl
        have hnd : NdIs wr m x := hn.is.kept HB.out
        obtain ⟨ws, wa, wc, -, hxe, hws, -, -⟩ := (NdOn.of hnd).parts
        obtain ⟨za, zk, zc, rfl⟩ : ∃ a k c, ws = .slice a k c := by obtain ⟨a, c, h, -⟩ := hws.1; exact ⟨a, _, c, h⟩
        have hq : ∀ q, q < 8 → wr.cell? ⟨g, i * 8 + q, none⟩ = x[q]? := fun q hq => by rw [HC.out.cell i q hlt hq, hFi]
        subst hxe
        have q0 := hq 0 (by omega)
        have q1 := hq 1 (by omega)
        have q2 := hq 2 (by omega)
        have q3 := hq 3 (by omega)
        have q4 := hq 4 (by omega)
        have q5 := hq 5 (by omega)
        have q6 := hq 6 (by omega)
        have q7 := hq 7 (by omega)
        simp only [Nat.add_zero, List.getElem?_cons_zero, List.getElem?_cons_succ] at q0 q1 q2 q3 q4 q5 q6 q7
        have k0 : (0 : Int) ≤ (i : Int) := by omega
        have k1 : (i : Int) < (N : Int) := by omega
        have hgr := HC.out.lt
        have hB0 : W.heap.size < wr.heap.size := (Array.getElem?_eq_some_iff.1 HX.out).1
        have b7 := rowcell HX.out 7
        simp only [List.getElem?_toArray, List.getElem?_cons_zero, List.getElem?_cons_succ] at b7
        have HDR : Hid (Below wr.heap.size wr (wr.alloc (.cells #[.int .i64 (Td.kind m), .slice za zk zc, .int .i64 (Td.num m), .string (Td.name m), .int .i64 (Td.mn m), .int .i64 (Td.mx m), .bool (Td.lazy m), .slice wa (Td.subs m).length wc] 25)).drew) := Lib.hid ((Below.refl _ _).alloc (Nat.le_refl _) _).drew
        have HCW := Lib.hid (IH.out (wr.alloc (.cells #[.int .i64 (Td.kind m), .slice za zk zc, .int .i64 (Td.num m), .string (Td.name m), .int .i64 (Td.mn m), .int .i64 (Td.mx m), .bool (Td.lazy m), .slice wa (Td.subs m).length wc] 25)).drew m [.int .i64 (Td.kind m), .slice za zk zc, .int .i64 (Td.num m), .string (Td.name m), .int .i64 (Td.mn m), .int .i64 (Td.mx m), .bool (Td.lazy m), .slice wa (Td.subs m).length wc] hsm (hnd.kept HDR.out))
        have HQ : Hid (∀ w8, Below wr.heap.size wr w8 → (∀ q, q < 8 → ∃ u, w8.cell? ⟨g, i * 8 + q, none⟩ = some u) ∧ (∀ o, w8.frozen? ⟨g, o, none⟩ = false) ∧ w8.cell? ⟨W.heap.size, 7, none⟩ = some (.slice (some ⟨g, 0, none⟩) N c')) := Lib.hid (fun w8 hb => by
          have hR8 := HC.out.kept (hb.block g hgr)
          refine ⟨fun q hq => ?_, hR8.frozen, (hb.cell (p := ⟨W.heap.size, 7, none⟩) hB0).trans b7⟩
          rw [hR8.cell i q hlt hq, hFi]
          match q, hq with
          | 0, _ => exact ⟨_, rfl⟩
          | 1, _ => exact ⟨_, rfl⟩
          | 2, _ => exact ⟨_, rfl⟩
          | 3, _ => exact ⟨_, rfl⟩
          | 4, _ => exact ⟨_, rfl⟩
          | 5, _ => exact ⟨_, rfl⟩
          | 6, _ => exact ⟨_, rfl⟩
          | 7, _ => exact ⟨_, rfl⟩)
        have hgB : W.heap.size + 2 ≤ g := by have := HG2.out; omega
        have hBg0 : W.heap.size < g := by omega
        have hBg1 : W.heap.size + 1 < g := by omega
        have hB1l : W.heap.size + 1 < wr.heap.size := (Array.getElem?_eq_some_iff.1 HR.out).1
        have HSUB : Hid (∀ j m', j < i + 1 → (Td.subs n)[j]? = some m' → j = i → m' = m) := Lib.hid (fun j m' _ hm' e => by
          subst e
          rw [List.getElem?_eq_getElem hiL] at hm'
          rw [← Option.some.inj hm']; exact hmm)
        clear hq hws hnd hn hx hm
        go_wp2
        go_region_law (go_simp; go_at_call 64; refine HCW.out.mono ?_; rintro e w8 ⟨cs8, rfl, hn8, hb8⟩; have HB8 : Hid (Below wr.heap.size wr w8) := Lib.hid (HDR.out.trans (hb8.mono HDR.out.size)); have HN8 := Lib.hid hn8; obtain ⟨vs8, a8, cap8, Y8, hxe8, hset8, -, -⟩ := hn8.parts; obtain ⟨ta, tk, tc, rfl⟩ : ∃ a k c, vs8 = .slice a k c := (by obtain ⟨a, c, h, -⟩ := hset8.1; exact ⟨a, _, c, h⟩); subst hxe8; obtain ⟨z1, z2, z3⟩ := HQ.out w8 HB8.out; obtain ⟨p0, d0⟩ := z1 0 (by omega); obtain ⟨p1, d1⟩ := z1 1 (by omega); obtain ⟨p2, d2⟩ := z1 2 (by omega); obtain ⟨p3, d3⟩ := z1 3 (by omega); obtain ⟨p4, d4⟩ := z1 4 (by omega); obtain ⟨p5, d5⟩ := z1 5 (by omega); obtain ⟨p6, d6⟩ := z1 6 (by omega); obtain ⟨p7, d7⟩ := z1 7 (by omega); rw [Nat.add_zero] at d0; have HS8 := Lib.hid hset8; clear z1 hn8 hset8 hb8)
        all_goals (
          have HKP : Hid (∀ (b : Nat) (x0 x1 x2 x3 x4 x5 x6 x7 : Value), b ≠ g → b < wr.heap.size → (((((((((w8.setCell ⟨g, i * 8, none⟩ x0).setCell ⟨g, i * 8 + 1, none⟩ x1).setCell ⟨g, i * 8 + 2, none⟩ x2).setCell ⟨g, i * 8 + 3, none⟩ x3).setCell ⟨g, i * 8 + 4, none⟩ x4).setCell ⟨g, i * 8 + 5, none⟩ x5).setCell ⟨g, i * 8 + 6, none⟩ x6).setCell ⟨g, i * 8 + 7, none⟩ x7).heap[b]? = wr.heap[b]?)) := Lib.hid (fun b x0 x1 x2 x3 x4 x5 x6 x7 hb hl => by
            rw [heap_setCell_other _ _ _ _ (by exact hb), heap_setCell_other _ _ _ _ (by exact hb), heap_setCell_other _ _ _ _ (by exact hb), heap_setCell_other _ _ _ _ (by exact hb), heap_setCell_other _ _ _ _ (by exact hb), heap_setCell_other _ _ _ _ (by exact hb), heap_setCell_other _ _ _ _ (by exact hb), heap_setCell_other _ _ _ _ (by exact hb)]
            exact HB8.out.block b hl)
          have hz8 := HB8.out.size
          go_wp2
          go_roundw
          case rel =>
            refine ⟨i + 1, fun j => if j = i then [.int .i64 (Td.kind m), .slice ta tk tc, .int .i64 (Td.num m), .string (Td.name m), .int .i64 (Td.mn m), .int .i64 (Td.mx m), .bool (Td.lazy m), .slice a8 (Td.subs m).length cap8] else F j, by omega, by go_num, Lib.hid ((HKP.out W.heap.size _ _ _ _ _ _ _ _ (Nat.ne_of_lt hBg0) hB0).trans HX.out), Lib.hid ((HKP.out (W.heap.size + 1) _ _ _ _ _ _ _ _ (Nat.ne_of_lt hBg1) hB1l).trans HR.out), ?_, ?_, Lib.hid (RowC.set8 (HC.out.kept (HB8.out.block g hgr)) HF8.out i hlt _ _ _ _ _ _ _ _), ?_, Lib.hid (fun j hj => by show (if j = i then _ else F j) = _; rw [if_neg (by omega)]; exact HE.out j (by omega)), Lib.hid (fun j hj => by show (if j = i then _ else F j).length = 8; split; rfl; exact HF8.out j hj)⟩
            · exact Lib.hid ((((((((((HB.out.trans (HB8.out.mono HB.out.size)).setCell (p := ⟨g, i * 8, none⟩) (by show W.heap.size ≤ g; omega) _).setCell (p := ⟨g, i * 8 + 1, none⟩) (by show W.heap.size ≤ g; omega) _).setCell (p := ⟨g, i * 8 + 2, none⟩) (by show W.heap.size ≤ g; omega) _).setCell (p := ⟨g, i * 8 + 3, none⟩) (by show W.heap.size ≤ g; omega) _).setCell (p := ⟨g, i * 8 + 4, none⟩) (by show W.heap.size ≤ g; omega) _).setCell (p := ⟨g, i * 8 + 5, none⟩) (by show W.heap.size ≤ g; omega) _).setCell (p := ⟨g, i * 8 + 6, none⟩) (by show W.heap.size ≤ g; omega) _).setCell (p := ⟨g, i * 8 + 7, none⟩) (by show W.heap.size ≤ g; omega) _))
            · exact Lib.hid (HV.out.kept (by simp only [World.size_setCell]; omega) (fun b hb hl => HKP.out b _ _ _ _ _ _ _ _ (Nat.ne_of_lt hb.2) hl))
            · refine Lib.hid (fun j m' hj hm' => ?_)
              by_cases hji : j = i
              · have e := HSUB.out j m' hj hm' hji
                subst e
                show NdOn _ _ _ (if j = i then _ else F j)
                rw [if_pos hji]
                exact NdOn.mono (S := fun b => wr.heap.size + 1 ≤ b ∧ b < w8.heap.size) (fun b hb => ⟨by omega, by simp only [World.size_setCell]; exact hb.2⟩) (NdOn.kept (by simp only [World.size_setCell]; exact Nat.le_refl _) (fun b hb hl => by
                  have hne : b ≠ g := by omega
                  rw [heap_setCell_other _ _ _ _ (by exact hne), heap_setCell_other _ _ _ _ (by exact hne), heap_setCell_other _ _ _ _ (by exact hne), heap_setCell_other _ _ _ _ (by exact hne), heap_setCell_other _ _ _ _ (by exact hne), heap_setCell_other _ _ _ _ (by exact hne), heap_setCell_other _ _ _ _ (by exact hne), heap_setCell_other _ _ _ _ (by exact hne)]) (NdOn.mono (fun b hb => ⟨by have := hb.1; simpa using this, hb.2⟩) HN8.out))
              · show NdOn _ _ _ (if j = i then _ else F j)
                rw [if_neg hji]
                exact NdOn.mono (S := fun b => g < b ∧ b < wr.heap.size) (fun b hb => ⟨hb.1, by simp only [World.size_setCell]; omega⟩) (NdOn.kept (by simp only [World.size_setCell]; exact hz8) (fun b hb hl => HKP.out b _ _ _ _ _ _ _ _ (by omega) hl) (HD.out j m' (by omega) hm'))
          case measure => simp [intOf]; omega)
      · obtain rfl : i = N := by omega
        have HNODE : Hid (NdOn (fun b => (W.heap.size ≤ b ∧ b ≠ W.heap.size + 1) ∧ b < wr.heap.size) wr n [.int .i64 (Td.kind n), .slice na nk nc, .int .i64 (Td.num n), .string (Td.name n), .int .i64 (Td.mn n), .int .i64 (Td.mx n), .bool (Td.lazy n), .slice (some ⟨g, 0, none⟩) i c']) := Lib.hid (nd_again HID.out HNN.out (HV.out.mono (fun b hb => ⟨⟨by omega, by omega⟩, Nat.lt_trans hb.2 HC.out.lt⟩)) F
          (fun j hj => ⟨g, 0, rfl, ⟨⟨by have := HG2.out; omega, by have := HG2.out; omega⟩, HC.out.lt⟩, HC.out.lt, HF8.out j hj, fun q hq => by rw [Nat.zero_add]; exact HC.out.cell j q hj hq⟩)
          (fun j m hm => NdOn.mono (S := fun b => g < b ∧ b < wr.heap.size) (fun b hb => ⟨⟨by have := HG2.out; omega, by have := HG2.out; omega⟩, hb.2⟩) (HD.out j m (by have := (List.getElem?_eq_some_iff.1 hm).1; rw [HNN.out] at this; exact this) hm)))
        have b0 := rowcell HX.out 0
        have b1 := rowcell HX.out 1
        have b2 := rowcell HX.out 2
        have b3 := rowcell HX.out 3
        have b4 := rowcell HX.out 4
        have b5 := rowcell HX.out 5
        have b6 := rowcell HX.out 6
        have b7 := rowcell HX.out 7
        simp only [List.getElem?_toArray, List.getElem?_cons_zero, List.getElem?_cons_succ] at b0 b1 b2 b3 b4 b5 b6 b7
        have c0 : wr.cell? ⟨W.heap.size + 1, 0, none⟩ = some (.int .i64 0) := by simp [World.cell?, HR.out]
        have f0 : wr.frozen? ⟨W.heap.size + 1, 0, none⟩ = false := by simp [World.frozen?, HR.out]
        have c1 : wr.cell? ⟨W.heap.size + 1, 1, none⟩ = some (.slice none 0 0) := by simp [World.cell?, HR.out]
        have f1 : wr.frozen? ⟨W.heap.size + 1, 1, none⟩ = false := by simp [World.frozen?, HR.out]
        have c2 : wr.cell? ⟨W.heap.size + 1, 2, none⟩ = some (.int .i64 0) := by simp [World.cell?, HR.out]
        have f2 : wr.frozen? ⟨W.heap.size + 1, 2, none⟩ = false := by simp [World.frozen?, HR.out]
        have c3 : wr.cell? ⟨W.heap.size + 1, 3, none⟩ = some (.string ⟨#[]⟩) := by simp [World.cell?, HR.out]
        have f3 : wr.frozen? ⟨W.heap.size + 1, 3, none⟩ = false := by simp [World.frozen?, HR.out]
        have c4 : wr.cell? ⟨W.heap.size + 1, 4, none⟩ = some (.int .i64 0) := by simp [World.cell?, HR.out]
        have f4 : wr.frozen? ⟨W.heap.size + 1, 4, none⟩ = false := by simp [World.frozen?, HR.out]
        have c5 : wr.cell? ⟨W.heap.size + 1, 5, none⟩ = some (.int .i64 0) := by simp [World.cell?, HR.out]
        have f5 : wr.frozen? ⟨W.heap.size + 1, 5, none⟩ = false := by simp [World.frozen?, HR.out]
        have c6 : wr.cell? ⟨W.heap.size + 1, 6, none⟩ = some (.bool false) := by simp [World.cell?, HR.out]
        have f6 : wr.frozen? ⟨W.heap.size + 1, 6, none⟩ = false := by simp [World.frozen?, HR.out]
        have c7 : wr.cell? ⟨W.heap.size + 1, 7, none⟩ = some (.slice none 0 0) := by simp [World.cell?, HR.out]
        have f7 : wr.frozen? ⟨W.heap.size + 1, 7, none⟩ = false := by simp [World.frozen?, HR.out]
        go_wp2
        (try simp only [Exit.inBlock, Exit.then])
        refine ret_ndN rfl (W.heap.size + 1) _ rfl (set8_blk _ _ _ _ _ _ _ _ _ _ HR.out) rfl rfl ?_
        refine ⟨[_, _, _, _, _, _, _, _], rfl, ?_, set8_below HB.out _ (by omega) _ _ _ _ _ _ _ _⟩
        exact NdOn.mono (fun b hb => ⟨hb.1.1, by rw [set8_size]; exact hb.2⟩) (NdOn.kept (by rw [set8_size]; exact Nat.le_refl _) (fun b hb _ => set8_other _ _ _ _ _ _ _ _ _ _ b hb.1.2) HNODE.out)
theorem clone_any : ∀ k, CloneOk k
  | 0 => fun _ _ _ h _ => h.elim
  | k + 1 => clone_step k (clone_any k)
end Go.Proofs.Ythhdlcckboiecaa
