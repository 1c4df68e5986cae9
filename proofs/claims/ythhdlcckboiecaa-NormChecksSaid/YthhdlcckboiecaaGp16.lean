/- The landed tree: fits. -/
import Derived.Test.YthhdlcckboiecaaGp11
import Derived.Test.YthhdlcckboiecaaGp13
import Derived.Test.YthhdlcckboiecaaGp14
import Derived.Test.YthhdlcckboiecaaGp15
namespace Go.Proofs.Ythhdlcckboiecaa
open Go.RowKit
set_option linter.unusedVariables false
set_option linter.unusedSimpArgs false
theorem blk_cell {W : World} {B : Nat} {cs : Array Value} {t : TypeId} (h : W.heap[B]? = some (.cells cs t (0, 0))) (i : Nat) : W.cell? ⟨B, i, none⟩ = cs[i]? := by simp [World.cell?, h]
theorem blk_frozen {W : World} {B : Nat} {cs : Array Value} {t : TypeId} (h : W.heap[B]? = some (.cells cs t (0, 0))) (i : Nat) : W.frozen? ⟨B, i, none⟩ = false := by simp [World.frozen?, h]
/-- The call of Same at the end. -/
def EndOk (W : World) (K : Int) : Prop := ∀ (W2 : World) (X : Nd) (cs : List Value), Below W.heap.size W W2 → NdIs W2 X cs →
  Calls Try.prog 49 #[.agg cs.toArray, .agg #[.int .i64 K, .slice none 0 0, .int .i64 0, .string ⟨#[]⟩, .int .i64 0, .int .i64 0, .bool false, .slice none 0 0]] W2
    fun e w' => e = .returned (.bool (Td.sameB 1000 X (Td.zeroN K))) ∧ Below W.heap.size W w'
theorem endOk (W : World) (K : Int) (hK : I64 K) : EndOk W K := fun W2 X cs hb hX =>
  (trSame_any W2 X (Td.zeroN K) cs _ hX (.zero W2 K hK)).mono fun _ _ ⟨he, hb2⟩ => ⟨he, hb.trans (hb2.mono hb.size)⟩
set_option maxRecDepth 100000 in
set_option maxHeartbeats 8000000 in
theorem fits_k1 (W : World) (K num mn mx : Int) (set : List (Int × Int)) (nm : ByteArray) (lz : Bool) (subs : List Nd) (cs : List Value) (h : NdIs W (.mk K set num nm mn mx lz subs) cs) (hK : K = 1) :
    Calls Try.prog 32 #[.agg cs.toArray] W fun e w' => e = .returned (.bool (Td.fitsB (.mk K set num nm mn mx lz subs))) ∧ Below W.heap.size W w' := by
  obtain ⟨TV, hTV⟩ : ∃ TV, Td.fitsB (.mk K set num nm mn mx lz subs) = TV := ⟨_, rfl⟩
  rw [hTV]
  have hb2 : ∀ (o1 o2 : Obj), Below W.heap.size W ((W.alloc o1).alloc o2) := fun o1 o2 => ((Below.refl W.heap.size W).alloc (Nat.le_refl _) o1).alloc (by simp) o2
  obtain ⟨vs, a, cap, C, hC⟩ := h.cells
  obtain ⟨sa, scap, hvs, hsl, _, _⟩ := hC.set
  have hcs := hC.eq
  have hlen := hC.len
  have hnm := hC.name
  have HSET := Lib.hid hC.set
  have HE := Lib.hid (endOk W K hC.bd.1)
  subst hvs
  subst hcs
  replace hsl : set.length ≤ 8796093022208 := hsl
  replace hlen : subs.length ≤ 8796093022208 := hlen
  replace hnm : nm.size ≤ 140737488351232 := hnm
  replace HSET : Hid (RRow W (.slice sa set.length scap) set) := HSET
  have HK := Lib.hid (fun W2 (hb : Below W.heap.size W W2) => h.kept hb)
  replace HK : Hid (∀ W2, Below W.heap.size W W2 → NdIs W2 (.mk K set num nm mn mx lz subs) [.int .i64 K, .slice sa set.length scap, .int .i64 num, .string nm, .int .i64 mn, .int .i64 mx, .bool lz, .slice a subs.length cap]) := HK
  have HB2 := Lib.hid hb2
  show Calls Try.prog 32 #[.agg #[.int .i64 K, .slice sa set.length scap, .int .i64 num, .string nm, .int .i64 mn, .int .i64 mx, .bool lz, .slice a subs.length cap]] W _
  clear h hC hb2
  obtain ⟨N, hN⟩ : ∃ N, set.length = N := ⟨_, rfl⟩
  obtain ⟨L, hL⟩ : ∃ L, subs.length = L := ⟨_, rfl⟩
  rw [hN] at hsl HSET
  rw [hL] at hlen
  rw [hN, hL] at HK
  rw [hN, hL]
  subst hK
  have HT : Hid (TV = Td.sameB 1000 (.mk 1 set num nm mn mx lz subs) (Td.zeroN 1)) := Lib.hid (by rw [← hTV]; exact Td.told1 (n := .mk 1 set num nm mn mx lz subs) (by simp [Td.kind]))
  clear hTV hN hL
  go_enter Try.func32, Try.ntmps32
  go_wp2_with fail
  refine (HE.out _ _ _ (HB2.out _ _) (HK.out _ (HB2.out _ _))).mono ?_
  rintro e w5 ⟨rfl, hb5⟩
  go_wp2
  go_ret
  exact ⟨by rw [HT.out]; rfl, hb5⟩
set_option maxRecDepth 100000 in
set_option maxHeartbeats 8000000 in
theorem fits_k2 (W : World) (K num mn mx : Int) (set : List (Int × Int)) (nm : ByteArray) (lz : Bool) (subs : List Nd) (cs : List Value) (h : NdIs W (.mk K set num nm mn mx lz subs) cs) (hK : K = 2) :
    Calls Try.prog 32 #[.agg cs.toArray] W fun e w' => e = .returned (.bool (Td.fitsB (.mk K set num nm mn mx lz subs))) ∧ Below W.heap.size W w' := by
  obtain ⟨TV, hTV⟩ : ∃ TV, Td.fitsB (.mk K set num nm mn mx lz subs) = TV := ⟨_, rfl⟩
  rw [hTV]
  have hb2 : ∀ (o1 o2 : Obj), Below W.heap.size W ((W.alloc o1).alloc o2) := fun o1 o2 => ((Below.refl W.heap.size W).alloc (Nat.le_refl _) o1).alloc (by simp) o2
  obtain ⟨vs, a, cap, C, hC⟩ := h.cells
  obtain ⟨sa, scap, hvs, hsl, _, _⟩ := hC.set
  have hcs := hC.eq
  have hlen := hC.len
  have hnm := hC.name
  have HSET := Lib.hid hC.set
  have HE := Lib.hid (endOk W K hC.bd.1)
  subst hvs
  subst hcs
  replace hsl : set.length ≤ 8796093022208 := hsl
  replace hlen : subs.length ≤ 8796093022208 := hlen
  replace hnm : nm.size ≤ 140737488351232 := hnm
  replace HSET : Hid (RRow W (.slice sa set.length scap) set) := HSET
  have HK := Lib.hid (fun W2 (hb : Below W.heap.size W W2) => h.kept hb)
  replace HK : Hid (∀ W2, Below W.heap.size W W2 → NdIs W2 (.mk K set num nm mn mx lz subs) [.int .i64 K, .slice sa set.length scap, .int .i64 num, .string nm, .int .i64 mn, .int .i64 mx, .bool lz, .slice a subs.length cap]) := HK
  have HB2 := Lib.hid hb2
  show Calls Try.prog 32 #[.agg #[.int .i64 K, .slice sa set.length scap, .int .i64 num, .string nm, .int .i64 mn, .int .i64 mx, .bool lz, .slice a subs.length cap]] W _
  clear h hC hb2
  obtain ⟨N, hN⟩ : ∃ N, set.length = N := ⟨_, rfl⟩
  obtain ⟨L, hL⟩ : ∃ L, subs.length = L := ⟨_, rfl⟩
  rw [hN] at hsl HSET
  rw [hL] at hlen
  rw [hN, hL] at HK
  rw [hN, hL]
  subst hK
  have HT : Hid (TV = Td.sameB 1000 (.mk 2 set num nm mn mx lz subs) (Td.zeroN 2)) := Lib.hid (by rw [← hTV]; exact Td.told1 (n := .mk 2 set num nm mn mx lz subs) (by simp [Td.kind]))
  clear hTV hN hL
  go_enter Try.func32, Try.ntmps32
  go_wp2_with fail
  refine (HE.out _ _ _ (HB2.out _ _) (HK.out _ (HB2.out _ _))).mono ?_
  rintro e w5 ⟨rfl, hb5⟩
  go_wp2
  go_ret
  exact ⟨by rw [HT.out]; rfl, hb5⟩
set_option maxRecDepth 100000 in
set_option maxHeartbeats 8000000 in
theorem fits_k4 (W : World) (K num mn mx : Int) (set : List (Int × Int)) (nm : ByteArray) (lz : Bool) (subs : List Nd) (cs : List Value) (h : NdIs W (.mk K set num nm mn mx lz subs) cs) (hK : K = 4) :
    Calls Try.prog 32 #[.agg cs.toArray] W fun e w' => e = .returned (.bool (Td.fitsB (.mk K set num nm mn mx lz subs))) ∧ Below W.heap.size W w' := by
  obtain ⟨TV, hTV⟩ : ∃ TV, Td.fitsB (.mk K set num nm mn mx lz subs) = TV := ⟨_, rfl⟩
  rw [hTV]
  have hb2 : ∀ (o1 o2 : Obj), Below W.heap.size W ((W.alloc o1).alloc o2) := fun o1 o2 => ((Below.refl W.heap.size W).alloc (Nat.le_refl _) o1).alloc (by simp) o2
  obtain ⟨vs, a, cap, C, hC⟩ := h.cells
  obtain ⟨sa, scap, hvs, hsl, _, _⟩ := hC.set
  have hcs := hC.eq
  have hlen := hC.len
  have hnm := hC.name
  have HSET := Lib.hid hC.set
  have HE := Lib.hid (endOk W K hC.bd.1)
  subst hvs
  subst hcs
  replace hsl : set.length ≤ 8796093022208 := hsl
  replace hlen : subs.length ≤ 8796093022208 := hlen
  replace hnm : nm.size ≤ 140737488351232 := hnm
  replace HSET : Hid (RRow W (.slice sa set.length scap) set) := HSET
  have HK := Lib.hid (fun W2 (hb : Below W.heap.size W W2) => h.kept hb)
  replace HK : Hid (∀ W2, Below W.heap.size W W2 → NdIs W2 (.mk K set num nm mn mx lz subs) [.int .i64 K, .slice sa set.length scap, .int .i64 num, .string nm, .int .i64 mn, .int .i64 mx, .bool lz, .slice a subs.length cap]) := HK
  have HB2 := Lib.hid hb2
  show Calls Try.prog 32 #[.agg #[.int .i64 K, .slice sa set.length scap, .int .i64 num, .string nm, .int .i64 mn, .int .i64 mx, .bool lz, .slice a subs.length cap]] W _
  clear h hC hb2
  obtain ⟨N, hN⟩ : ∃ N, set.length = N := ⟨_, rfl⟩
  obtain ⟨L, hL⟩ : ∃ L, subs.length = L := ⟨_, rfl⟩
  rw [hN] at hsl HSET
  rw [hL] at hlen
  rw [hN, hL] at HK
  rw [hN, hL]
  subst hK
  have HT : Hid (TV = Td.sameB 1000 (.mk 4 set num nm mn mx lz subs) (Td.zeroN 4)) := Lib.hid (by rw [← hTV]; exact Td.told1 (n := .mk 4 set num nm mn mx lz subs) (by simp [Td.kind]))
  clear hTV hN hL
  go_enter Try.func32, Try.ntmps32
  go_wp2_with fail
  refine (HE.out _ _ _ (HB2.out _ _) (HK.out _ (HB2.out _ _))).mono ?_
  rintro e w5 ⟨rfl, hb5⟩
  go_wp2
  go_ret
  exact ⟨by rw [HT.out]; rfl, hb5⟩
set_option maxRecDepth 100000 in
set_option maxHeartbeats 8000000 in
theorem fits_k3 (W : World) (K num mn mx : Int) (set : List (Int × Int)) (nm : ByteArray) (lz : Bool) (subs : List Nd) (cs : List Value) (h : NdIs W (.mk K set num nm mn mx lz subs) cs) (hK : K = 3) :
    Calls Try.prog 32 #[.agg cs.toArray] W fun e w' => e = .returned (.bool (Td.fitsB (.mk K set num nm mn mx lz subs))) ∧ Below W.heap.size W w' := by
  obtain ⟨TV, hTV⟩ : ∃ TV, Td.fitsB (.mk K set num nm mn mx lz subs) = TV := ⟨_, rfl⟩
  rw [hTV]
  have hb2 : ∀ (o1 o2 : Obj), Below W.heap.size W ((W.alloc o1).alloc o2) := fun o1 o2 => ((Below.refl W.heap.size W).alloc (Nat.le_refl _) o1).alloc (by simp) o2
  obtain ⟨vs, a, cap, C, hC⟩ := h.cells
  obtain ⟨sa, scap, hvs, hsl, _, _⟩ := hC.set
  have hcs := hC.eq
  have hlen := hC.len
  have hnm := hC.name
  have HSET := Lib.hid hC.set
  have HE := Lib.hid (endOk W K hC.bd.1)
  subst hvs
  subst hcs
  replace hsl : set.length ≤ 8796093022208 := hsl
  replace hlen : subs.length ≤ 8796093022208 := hlen
  replace hnm : nm.size ≤ 140737488351232 := hnm
  replace HSET : Hid (RRow W (.slice sa set.length scap) set) := HSET
  have HK := Lib.hid (fun W2 (hb : Below W.heap.size W W2) => h.kept hb)
  replace HK : Hid (∀ W2, Below W.heap.size W W2 → NdIs W2 (.mk K set num nm mn mx lz subs) [.int .i64 K, .slice sa set.length scap, .int .i64 num, .string nm, .int .i64 mn, .int .i64 mx, .bool lz, .slice a subs.length cap]) := HK
  have HB2 := Lib.hid hb2
  have HX := Lib.hid (fun W2 (hb : Below W.heap.size W W2) => (HK.out W2 hb).noSet)
  show Calls Try.prog 32 #[.agg #[.int .i64 K, .slice sa set.length scap, .int .i64 num, .string nm, .int .i64 mn, .int .i64 mx, .bool lz, .slice a subs.length cap]] W _
  clear h hC hb2
  obtain ⟨N, hN⟩ : ∃ N, set.length = N := ⟨_, rfl⟩
  obtain ⟨L, hL⟩ : ∃ L, subs.length = L := ⟨_, rfl⟩
  rw [hN] at hsl HSET
  rw [hL] at hlen
  rw [hN, hL] at HK
  simp only [hN, hL, List.length_nil] at HX
  rw [hN, hL]
  subst hK
  obtain ⟨Z, hZ⟩ : ∃ Z, Td.sameB 1000 (.mk 3 [] num nm mn mx lz subs) (Td.zeroN 3) = Z := ⟨_, rfl⟩
  obtain ⟨CK, hCK⟩ : ∃ CK, Rg.checkF none set = CK := ⟨_, rfl⟩
  have HT : Hid (TV = ((!((N : Int) == 0) && (CK == 0)) && Z)) := Lib.hid (by rw [← hTV, ← hZ, ← hN, ← hCK]; exact Td.told3 (n := .mk 3 set num nm mn mx lz subs) rfl)
  have HZ := Lib.hid hZ
  have HCK := Lib.hid hCK
  clear hTV hZ hN hL hCK
  by_cases s0 : N = 0
  · subst s0
    have HF : Hid (TV = false) := Lib.hid (by rw [HT.out]; rfl)
    go_enter Try.func32, Try.ntmps32
    go_wp2
    go_ret
    exact ⟨by rw [HF.out]; rfl, HB2.out _ _⟩
  have s1 : (0 : Int) < (N : Int) := by omega
  have HN0 : Hid (((N : Int) == 0) = false) := Lib.hid (by rw [beq_eq_false_iff_ne]; omega)
  obtain ⟨W2, hW2⟩ : ∃ W2, (W.alloc (.cells #[.int .i64 3, .slice sa N scap, .int .i64 num, .string nm, .int .i64 mn, .int .i64 mx, .bool lz, .slice a L cap] 25)).alloc (.cells #[.int .i64 3, .slice sa N scap, .int .i64 num, .string nm, .int .i64 mn, .int .i64 mx, .bool lz, .slice a L cap] 25) = W2 := ⟨_, rfl⟩
  have HW2 := Lib.hid hW2
  have HBW : Hid (Below W.heap.size W W2) := Lib.hid (by rw [← hW2]; exact HB2.out _ _)
  have HX1 : Hid (W2.heap[W.heap.size + 1]? = some (.cells #[.int .i64 3, .slice sa N scap, .int .i64 num, .string nm, .int .i64 mn, .int .i64 mx, .bool lz, .slice a L cap] 25 (0, 0))) := Lib.hid (by
    rw [← hW2]
    have h9 := heap_alloc_new (W.alloc (.cells #[.int .i64 3, .slice sa N scap, .int .i64 num, .string nm, .int .i64 mn, .int .i64 mx, .bool lz, .slice a L cap] 25)) (.cells #[.int .i64 3, .slice sa N scap, .int .i64 num, .string nm, .int .i64 mn, .int .i64 mx, .bool lz, .slice a L cap] 25)
    rwa [World.size_alloc] at h9)
  have HX0 : Hid (W2.heap[W.heap.size]? = some (.cells #[.int .i64 3, .slice sa N scap, .int .i64 num, .string nm, .int .i64 mn, .int .i64 mx, .bool lz, .slice a L cap] 25 (0, 0))) := Lib.hid (by
    rw [← hW2]
    exact (Below.heap_alloc _ _ _ (by simp)).trans (heap_alloc_new W _))
  clear hW2
  go_enter Try.func32, Try.ntmps32
  go_wp2_with fail
  rw [HW2.out]
  refine (check_any W2 _ set (HSET.out.below (Nat.le_refl _) HBW.out)).mono ?_
  rintro e w5 ⟨rfl, hb5⟩
  rw [HCK.out]
  have hx1 := (hb5.block _ (Array.getElem?_eq_some_iff.1 HX1.out).1).trans HX1.out
  have hx0 := (hb5.block _ (Array.getElem?_eq_some_iff.1 HX0.out).1).trans HX0.out
  have HB5 := Lib.hid (HBW.out.trans (hb5.mono HBW.out.size))
  have hlt1 : W.heap.size + 1 < w5.heap.size := (Array.getElem?_eq_some_iff.1 hx1).1
  have hlt0 : W.heap.size < w5.heap.size := by omega
  have f1 := blk_frozen hx1 1
  have a0 := blk_cell hx0 0
  have b0 := blk_cell hx1 0
  have b1 := blk_cell hx1 1
  have b2 := blk_cell hx1 2
  have b3 := blk_cell hx1 3
  have b4 := blk_cell hx1 4
  have b5 := blk_cell hx1 5
  have b6 := blk_cell hx1 6
  have b7 := blk_cell hx1 7
  simp only [List.getElem?_toArray, List.getElem?_cons_zero, List.getElem?_cons_succ] at a0 b0 b1 b2 b3 b4 b5 b6 b7
  clear hx0 hx1 hb5
  by_cases c0 : CK = 0
  · subst c0
    have HT2 : Hid (TV = Z) := Lib.hid (by rw [HT.out, HN0.out]; simp)
    go_wp2_with fail
    refine (HE.out _ _ _ (HB5.out.setCell (p := ⟨W.heap.size + 1, 1, none⟩) (by simp) _) (HX.out _ (HB5.out.setCell (p := ⟨W.heap.size + 1, 1, none⟩) (by simp) _))).mono ?_
    rintro e w6 ⟨rfl, hb6⟩
    rw [HZ.out]
    go_wp2
    go_ret
    exact ⟨by rw [HT2.out]; rfl, hb6⟩
  · have HF : Hid (TV = false) := Lib.hid (by rw [HT.out, beq_eq_false_iff_ne.2 c0]; simp)
    go_wp2
    go_ret
    exact ⟨by rw [HF.out]; rfl, HB5.out.setCell (p := ⟨W.heap.size + 1, 1, none⟩) (by simp) _⟩
set_option maxRecDepth 100000 in
set_option maxHeartbeats 8000000 in
theorem fits_k5 (W : World) (K num mn mx : Int) (set : List (Int × Int)) (nm : ByteArray) (lz : Bool) (subs : List Nd) (cs : List Value) (h : NdIs W (.mk K set num nm mn mx lz subs) cs) (hK : K = 5) :
    Calls Try.prog 32 #[.agg cs.toArray] W fun e w' => e = .returned (.bool (Td.fitsB (.mk K set num nm mn mx lz subs))) ∧ Below W.heap.size W w' := by
  obtain ⟨TV, hTV⟩ : ∃ TV, Td.fitsB (.mk K set num nm mn mx lz subs) = TV := ⟨_, rfl⟩
  rw [hTV]
  have hb2 : ∀ (o1 o2 : Obj), Below W.heap.size W ((W.alloc o1).alloc o2) := fun o1 o2 => ((Below.refl W.heap.size W).alloc (Nat.le_refl _) o1).alloc (by simp) o2
  obtain ⟨vs, a, cap, C, hC⟩ := h.cells
  obtain ⟨sa, scap, hvs, hsl, _, _⟩ := hC.set
  have hcs := hC.eq
  have hlen := hC.len
  have hnm := hC.name
  have HSET := Lib.hid hC.set
  have HE := Lib.hid (endOk W K hC.bd.1)
  subst hvs
  subst hcs
  replace hsl : set.length ≤ 8796093022208 := hsl
  replace hlen : subs.length ≤ 8796093022208 := hlen
  replace hnm : nm.size ≤ 140737488351232 := hnm
  replace HSET : Hid (RRow W (.slice sa set.length scap) set) := HSET
  have HK := Lib.hid (fun W2 (hb : Below W.heap.size W W2) => h.kept hb)
  replace HK : Hid (∀ W2, Below W.heap.size W W2 → NdIs W2 (.mk K set num nm mn mx lz subs) [.int .i64 K, .slice sa set.length scap, .int .i64 num, .string nm, .int .i64 mn, .int .i64 mx, .bool lz, .slice a subs.length cap]) := HK
  have HB2 := Lib.hid hb2
  have HX := Lib.hid (fun W2 (hb : Below W.heap.size W W2) => (HK.out W2 hb).noNum)
  show Calls Try.prog 32 #[.agg #[.int .i64 K, .slice sa set.length scap, .int .i64 num, .string nm, .int .i64 mn, .int .i64 mx, .bool lz, .slice a subs.length cap]] W _
  clear h hC hb2
  obtain ⟨N, hN⟩ : ∃ N, set.length = N := ⟨_, rfl⟩
  obtain ⟨L, hL⟩ : ∃ L, subs.length = L := ⟨_, rfl⟩
  rw [hN] at hsl HSET
  rw [hL] at hlen
  rw [hN, hL] at HK
  simp only [hN, hL, List.length_nil] at HX
  rw [hN, hL]
  subst hK
  obtain ⟨Z, hZ⟩ : ∃ Z, Td.sameB 1000 (.mk 5 set 0 nm mn mx lz subs) (Td.zeroN 5) = Z := ⟨_, rfl⟩
  have HT : Hid (TV = ((decide (1 ≤ num) && decide (num ≤ 6)) && Z)) := Lib.hid (by rw [← hTV, ← hZ]; exact Td.told5 (n := .mk 5 set num nm mn mx lz subs) rfl)
  have HZ := Lib.hid hZ
  clear hTV hZ hN hL
  by_cases c1 : 1 ≤ num
  · by_cases c2 : num ≤ 6
    · have d1 := c1
      have HT2 : Hid (TV = Z) := Lib.hid (by rw [HT.out]; simp [c1, c2])
      go_enter Try.func32, Try.ntmps32
      go_wp2_with fail
      refine (HE.out _ _ _ (HB2.out _ _) (HX.out _ (HB2.out _ _))).mono ?_
      rintro e w6 ⟨rfl, hb6⟩
      rw [HZ.out]
      go_wp2
      go_ret
      exact ⟨by rw [HT2.out]; rfl, hb6⟩
    · have d1 := c1
      have HF : Hid (TV = false) := Lib.hid (by rw [HT.out]; simp [c2])
      go_enter Try.func32, Try.ntmps32
      go_wp2
      go_ret
      exact ⟨by rw [HF.out]; rfl, HB2.out _ _⟩
  · have d1 := c1
    have HF : Hid (TV = false) := Lib.hid (by rw [HT.out]; simp [c1])
    go_enter Try.func32, Try.ntmps32
    go_wp2
    go_ret
    exact ⟨by rw [HF.out]; rfl, HB2.out _ _⟩
set_option maxRecDepth 100000 in
set_option maxHeartbeats 8000000 in
theorem fits_k7 (W : World) (K num mn mx : Int) (set : List (Int × Int)) (nm : ByteArray) (lz : Bool) (subs : List Nd) (cs : List Value) (h : NdIs W (.mk K set num nm mn mx lz subs) cs) (hK : K = 7) :
    Calls Try.prog 32 #[.agg cs.toArray] W fun e w' => e = .returned (.bool (Td.fitsB (.mk K set num nm mn mx lz subs))) ∧ Below W.heap.size W w' := by
  obtain ⟨TV, hTV⟩ : ∃ TV, Td.fitsB (.mk K set num nm mn mx lz subs) = TV := ⟨_, rfl⟩
  rw [hTV]
  have hb2 : ∀ (o1 o2 : Obj), Below W.heap.size W ((W.alloc o1).alloc o2) := fun o1 o2 => ((Below.refl W.heap.size W).alloc (Nat.le_refl _) o1).alloc (by simp) o2
  obtain ⟨vs, a, cap, C, hC⟩ := h.cells
  obtain ⟨sa, scap, hvs, hsl, _, _⟩ := hC.set
  have hcs := hC.eq
  have hlen := hC.len
  have hnm := hC.name
  have HSET := Lib.hid hC.set
  have HE := Lib.hid (endOk W K hC.bd.1)
  subst hvs
  subst hcs
  replace hsl : set.length ≤ 8796093022208 := hsl
  replace hlen : subs.length ≤ 8796093022208 := hlen
  replace hnm : nm.size ≤ 140737488351232 := hnm
  replace HSET : Hid (RRow W (.slice sa set.length scap) set) := HSET
  have HK := Lib.hid (fun W2 (hb : Below W.heap.size W W2) => h.kept hb)
  replace HK : Hid (∀ W2, Below W.heap.size W W2 → NdIs W2 (.mk K set num nm mn mx lz subs) [.int .i64 K, .slice sa set.length scap, .int .i64 num, .string nm, .int .i64 mn, .int .i64 mx, .bool lz, .slice a subs.length cap]) := HK
  have HB2 := Lib.hid hb2
  have HX := Lib.hid (fun W2 (hb : Below W.heap.size W W2) => (HK.out W2 hb).noSubs)
  show Calls Try.prog 32 #[.agg #[.int .i64 K, .slice sa set.length scap, .int .i64 num, .string nm, .int .i64 mn, .int .i64 mx, .bool lz, .slice a subs.length cap]] W _
  clear h hC hb2
  obtain ⟨N, hN⟩ : ∃ N, set.length = N := ⟨_, rfl⟩
  obtain ⟨L, hL⟩ : ∃ L, subs.length = L := ⟨_, rfl⟩
  rw [hN] at hsl HSET
  rw [hL] at hlen
  rw [hN, hL] at HK
  simp only [hN, hL, List.length_nil] at HX
  rw [hN, hL]
  subst hK
  obtain ⟨Z, hZ⟩ : ∃ Z, Td.sameB 1000 (.mk 7 set num nm mn mx lz []) (Td.zeroN 7) = Z := ⟨_, rfl⟩
  have HT : Hid (TV = (decide (2 ≤ (L : Int)) && Z)) := Lib.hid (by rw [← hTV, ← hZ, ← hL]; exact Td.told7 (n := .mk 7 set num nm mn mx lz subs) (by simp [Td.kind]))
  have HZ := Lib.hid hZ
  clear hTV hZ hN hL
  by_cases c1 : 2 ≤ (L : Int)
  · have d1 := c1
    have HT2 : Hid (TV = Z) := Lib.hid (by rw [HT.out]; simp [c1])
    go_enter Try.func32, Try.ntmps32
    go_wp2_with fail
    refine (HE.out _ _ _ (HB2.out _ _) (HX.out _ (HB2.out _ _))).mono ?_
    rintro e w6 ⟨rfl, hb6⟩
    rw [HZ.out]
    go_wp2
    go_ret
    exact ⟨by rw [HT2.out]; rfl, hb6⟩
  · have d1 := c1
    have HF : Hid (TV = false) := Lib.hid (by rw [HT.out]; simp [c1])
    go_enter Try.func32, Try.ntmps32
    go_wp2
    go_ret
    exact ⟨by rw [HF.out]; rfl, HB2.out _ _⟩
set_option maxRecDepth 100000 in
set_option maxHeartbeats 8000000 in
theorem fits_k8 (W : World) (K num mn mx : Int) (set : List (Int × Int)) (nm : ByteArray) (lz : Bool) (subs : List Nd) (cs : List Value) (h : NdIs W (.mk K set num nm mn mx lz subs) cs) (hK : K = 8) :
    Calls Try.prog 32 #[.agg cs.toArray] W fun e w' => e = .returned (.bool (Td.fitsB (.mk K set num nm mn mx lz subs))) ∧ Below W.heap.size W w' := by
  obtain ⟨TV, hTV⟩ : ∃ TV, Td.fitsB (.mk K set num nm mn mx lz subs) = TV := ⟨_, rfl⟩
  rw [hTV]
  have hb2 : ∀ (o1 o2 : Obj), Below W.heap.size W ((W.alloc o1).alloc o2) := fun o1 o2 => ((Below.refl W.heap.size W).alloc (Nat.le_refl _) o1).alloc (by simp) o2
  obtain ⟨vs, a, cap, C, hC⟩ := h.cells
  obtain ⟨sa, scap, hvs, hsl, _, _⟩ := hC.set
  have hcs := hC.eq
  have hlen := hC.len
  have hnm := hC.name
  have HSET := Lib.hid hC.set
  have HE := Lib.hid (endOk W K hC.bd.1)
  subst hvs
  subst hcs
  replace hsl : set.length ≤ 8796093022208 := hsl
  replace hlen : subs.length ≤ 8796093022208 := hlen
  replace hnm : nm.size ≤ 140737488351232 := hnm
  replace HSET : Hid (RRow W (.slice sa set.length scap) set) := HSET
  have HK := Lib.hid (fun W2 (hb : Below W.heap.size W W2) => h.kept hb)
  replace HK : Hid (∀ W2, Below W.heap.size W W2 → NdIs W2 (.mk K set num nm mn mx lz subs) [.int .i64 K, .slice sa set.length scap, .int .i64 num, .string nm, .int .i64 mn, .int .i64 mx, .bool lz, .slice a subs.length cap]) := HK
  have HB2 := Lib.hid hb2
  have HX := Lib.hid (fun W2 (hb : Below W.heap.size W W2) => (HK.out W2 hb).noSubs)
  show Calls Try.prog 32 #[.agg #[.int .i64 K, .slice sa set.length scap, .int .i64 num, .string nm, .int .i64 mn, .int .i64 mx, .bool lz, .slice a subs.length cap]] W _
  clear h hC hb2
  obtain ⟨N, hN⟩ : ∃ N, set.length = N := ⟨_, rfl⟩
  obtain ⟨L, hL⟩ : ∃ L, subs.length = L := ⟨_, rfl⟩
  rw [hN] at hsl HSET
  rw [hL] at hlen
  rw [hN, hL] at HK
  simp only [hN, hL, List.length_nil] at HX
  rw [hN, hL]
  subst hK
  obtain ⟨Z, hZ⟩ : ∃ Z, Td.sameB 1000 (.mk 8 set num nm mn mx lz []) (Td.zeroN 8) = Z := ⟨_, rfl⟩
  have HT : Hid (TV = (decide (2 ≤ (L : Int)) && Z)) := Lib.hid (by rw [← hTV, ← hZ, ← hL]; exact Td.told7 (n := .mk 8 set num nm mn mx lz subs) (by simp [Td.kind]))
  have HZ := Lib.hid hZ
  clear hTV hZ hN hL
  by_cases c1 : 2 ≤ (L : Int)
  · have d1 := c1
    have HT2 : Hid (TV = Z) := Lib.hid (by rw [HT.out]; simp [c1])
    go_enter Try.func32, Try.ntmps32
    go_wp2_with fail
    refine (HE.out _ _ _ (HB2.out _ _) (HX.out _ (HB2.out _ _))).mono ?_
    rintro e w6 ⟨rfl, hb6⟩
    rw [HZ.out]
    go_wp2
    go_ret
    exact ⟨by rw [HT2.out]; rfl, hb6⟩
  · have d1 := c1
    have HF : Hid (TV = false) := Lib.hid (by rw [HT.out]; simp [c1])
    go_enter Try.func32, Try.ntmps32
    go_wp2
    go_ret
    exact ⟨by rw [HF.out]; rfl, HB2.out _ _⟩
set_option maxRecDepth 100000 in
set_option maxHeartbeats 8000000 in
theorem fits_k6 (W : World) (K num mn mx : Int) (set : List (Int × Int)) (nm : ByteArray) (lz : Bool) (subs : List Nd) (cs : List Value) (h : NdIs W (.mk K set num nm mn mx lz subs) cs) (hK : K = 6) :
    Calls Try.prog 32 #[.agg cs.toArray] W fun e w' => e = .returned (.bool (Td.fitsB (.mk K set num nm mn mx lz subs))) ∧ Below W.heap.size W w' := by
  obtain ⟨TV, hTV⟩ : ∃ TV, Td.fitsB (.mk K set num nm mn mx lz subs) = TV := ⟨_, rfl⟩
  rw [hTV]
  have hb2 : ∀ (o1 o2 : Obj), Below W.heap.size W ((W.alloc o1).alloc o2) := fun o1 o2 => ((Below.refl W.heap.size W).alloc (Nat.le_refl _) o1).alloc (by simp) o2
  obtain ⟨vs, a, cap, C, hC⟩ := h.cells
  obtain ⟨sa, scap, hvs, hsl, _, _⟩ := hC.set
  have hcs := hC.eq
  have hlen := hC.len
  have hnm := hC.name
  have HSET := Lib.hid hC.set
  have HE := Lib.hid (endOk W K hC.bd.1)
  subst hvs
  subst hcs
  replace hsl : set.length ≤ 8796093022208 := hsl
  replace hlen : subs.length ≤ 8796093022208 := hlen
  replace hnm : nm.size ≤ 140737488351232 := hnm
  replace HSET : Hid (RRow W (.slice sa set.length scap) set) := HSET
  have HK := Lib.hid (fun W2 (hb : Below W.heap.size W W2) => h.kept hb)
  replace HK : Hid (∀ W2, Below W.heap.size W W2 → NdIs W2 (.mk K set num nm mn mx lz subs) [.int .i64 K, .slice sa set.length scap, .int .i64 num, .string nm, .int .i64 mn, .int .i64 mx, .bool lz, .slice a subs.length cap]) := HK
  have HB2 := Lib.hid hb2
  have HX := Lib.hid (fun W2 (hb : Below W.heap.size W W2) => (HK.out W2 hb).noNum.noName.noSubs)
  show Calls Try.prog 32 #[.agg #[.int .i64 K, .slice sa set.length scap, .int .i64 num, .string nm, .int .i64 mn, .int .i64 mx, .bool lz, .slice a subs.length cap]] W _
  clear h hC hb2
  obtain ⟨N, hN⟩ : ∃ N, set.length = N := ⟨_, rfl⟩
  obtain ⟨L, hL⟩ : ∃ L, subs.length = L := ⟨_, rfl⟩
  rw [hN] at hsl HSET
  rw [hL] at hlen
  rw [hN, hL] at HK
  simp only [hN, hL, List.length_nil] at HX
  rw [hN, hL]
  subst hK
  obtain ⟨Z, hZ⟩ : ∃ Z, Td.sameB 1000 (.mk 6 set 0 ⟨#[]⟩ mn mx lz []) (Td.zeroN 6) = Z := ⟨_, rfl⟩
  obtain ⟨NB, hNB⟩ : ∃ NB, Td.nameB nm = NB := ⟨_, rfl⟩
  obtain ⟨M, hM⟩ : ∃ M, nm.toList.isEmpty = M := ⟨_, rfl⟩
  have HT : Hid (TV = ((decide (1 ≤ num) && ((M || NB) && ((L : Int) == 1))) && Z)) := Lib.hid (by rw [← hTV, ← hZ, ← hL, ← hNB, ← hM]; exact Td.told6 (n := .mk 6 set num nm mn mx lz subs) rfl)
  have HZ := Lib.hid hZ
  clear hTV hZ hN hL
  have HNB := Lib.hid hNB
  clear hNB
  by_cases c1 : 1 ≤ num
  · cases M with
    | true =>
      by_cases c2 : (L : Int) = 1
      · have d1 := c1
        have HT2 : Hid (TV = Z) := Lib.hid (by rw [HT.out]; simp [c1, c2])
        go_enter Try.func32, Try.ntmps32
        go_wp2_with fail
        refine (HE.out _ _ _ (HB2.out _ _) (HX.out _ (HB2.out _ _))).mono ?_
        rintro e w6 ⟨rfl, hb6⟩
        rw [HZ.out]
        go_wp2
        go_ret
        exact ⟨by rw [HT2.out]; rfl, hb6⟩
      · have d1 := c1
        have HF : Hid (TV = false) := Lib.hid (by rw [HT.out]; simp [c2])
        go_enter Try.func32, Try.ntmps32
        go_wp2
        go_ret
        exact ⟨by rw [HF.out]; rfl, HB2.out _ _⟩
    | false =>
      cases NB with
      | true =>
        by_cases c2 : (L : Int) = 1
        · have HT2 : Hid (TV = Z) := Lib.hid (by rw [HT.out]; simp [c1, c2])
          go_enter Try.func32, Try.ntmps32
          go_wp2_with fail
          refine (trName_any _ nm hnm).mono ?_
          rintro e w5 ⟨rfl, rfl⟩
          rw [HNB.out]
          go_wp2_with fail
          refine (HE.out _ _ _ (HB2.out _ _) (HX.out _ (HB2.out _ _))).mono ?_
          rintro e w6 ⟨rfl, hb6⟩
          rw [HZ.out]
          go_wp2
          go_ret
          exact ⟨by rw [HT2.out]; rfl, hb6⟩
        · have HF : Hid (TV = false) := Lib.hid (by rw [HT.out]; simp [c2])
          go_enter Try.func32, Try.ntmps32
          go_wp2_with fail
          refine (trName_any _ nm hnm).mono ?_
          rintro e w5 ⟨rfl, rfl⟩
          rw [HNB.out]
          go_wp2
          go_ret
          exact ⟨by rw [HF.out]; rfl, HB2.out _ _⟩
      | false =>
        have HF : Hid (TV = false) := Lib.hid (by rw [HT.out]; simp)
        go_enter Try.func32, Try.ntmps32
        go_wp2_with fail
        refine (trName_any _ nm hnm).mono ?_
        rintro e w5 ⟨rfl, rfl⟩
        rw [HNB.out]
        go_wp2
        go_ret
        exact ⟨by rw [HF.out]; rfl, HB2.out _ _⟩
  · have d1 := c1
    have HF : Hid (TV = false) := Lib.hid (by rw [HT.out]; simp [c1])
    go_enter Try.func32, Try.ntmps32
    go_wp2
    go_ret
    exact ⟨by rw [HF.out]; rfl, HB2.out _ _⟩
set_option maxRecDepth 100000 in
set_option maxHeartbeats 8000000 in
theorem fits_k9 (W : World) (K num mn mx : Int) (set : List (Int × Int)) (nm : ByteArray) (lz : Bool) (subs : List Nd) (cs : List Value) (h : NdIs W (.mk K set num nm mn mx lz subs) cs) (hK : K = 9) :
    Calls Try.prog 32 #[.agg cs.toArray] W fun e w' => e = .returned (.bool (Td.fitsB (.mk K set num nm mn mx lz subs))) ∧ Below W.heap.size W w' := by
  obtain ⟨TV, hTV⟩ : ∃ TV, Td.fitsB (.mk K set num nm mn mx lz subs) = TV := ⟨_, rfl⟩
  rw [hTV]
  have hb2 : ∀ (o1 o2 : Obj), Below W.heap.size W ((W.alloc o1).alloc o2) := fun o1 o2 => ((Below.refl W.heap.size W).alloc (Nat.le_refl _) o1).alloc (by simp) o2
  obtain ⟨vs, a, cap, C, hC⟩ := h.cells
  obtain ⟨sa, scap, hvs, hsl, _, _⟩ := hC.set
  have hcs := hC.eq
  have hlen := hC.len
  have hnm := hC.name
  have HSET := Lib.hid hC.set
  have HE := Lib.hid (endOk W K hC.bd.1)
  subst hvs
  subst hcs
  replace hsl : set.length ≤ 8796093022208 := hsl
  replace hlen : subs.length ≤ 8796093022208 := hlen
  replace hnm : nm.size ≤ 140737488351232 := hnm
  replace HSET : Hid (RRow W (.slice sa set.length scap) set) := HSET
  have HK := Lib.hid (fun W2 (hb : Below W.heap.size W W2) => h.kept hb)
  replace HK : Hid (∀ W2, Below W.heap.size W W2 → NdIs W2 (.mk K set num nm mn mx lz subs) [.int .i64 K, .slice sa set.length scap, .int .i64 num, .string nm, .int .i64 mn, .int .i64 mx, .bool lz, .slice a subs.length cap]) := HK
  have HB2 := Lib.hid hb2
  have HX := Lib.hid (fun W2 (hb : Below W.heap.size W W2) => (HK.out W2 hb).noRep.noSubs)
  show Calls Try.prog 32 #[.agg #[.int .i64 K, .slice sa set.length scap, .int .i64 num, .string nm, .int .i64 mn, .int .i64 mx, .bool lz, .slice a subs.length cap]] W _
  clear h hC hb2
  obtain ⟨N, hN⟩ : ∃ N, set.length = N := ⟨_, rfl⟩
  obtain ⟨L, hL⟩ : ∃ L, subs.length = L := ⟨_, rfl⟩
  rw [hN] at hsl HSET
  rw [hL] at hlen
  rw [hN, hL] at HK
  simp only [hN, hL, List.length_nil] at HX
  rw [hN, hL]
  subst hK
  obtain ⟨Z, hZ⟩ : ∃ Z, Td.sameB 1000 (.mk 9 set num nm 0 0 false []) (Td.zeroN 9) = Z := ⟨_, rfl⟩
  have HT : Hid (TV = ((decide (0 ≤ mn ∧ mn ≤ 1000) && ((mx == -1 || (decide (0 ≤ mx ∧ mx ≤ 1000) && decide (mn ≤ mx))) && ((L : Int) == 1))) && Z)) := Lib.hid (by rw [← hTV, ← hZ, ← hL]; exact Td.told9 (n := .mk 9 set num nm mn mx lz subs) rfl)
  have HZ := Lib.hid hZ
  clear hTV hZ hN hL
  by_cases c1 : 0 ≤ mn ∧ mn ≤ 1000
  · have D1 := Lib.hid (decide_eq_true c1)
    by_cases c2 : mx = -1
    · by_cases c3 : (L : Int) = 1
      · have HT2 : Hid (TV = Z) := Lib.hid (by rw [HT.out, D1.out]; simp [c2, c3])
        clear c1
        go_enter Try.func32, Try.ntmps32
        go_wp2_with fail
        refine (isCount_any _ mn).mono ?_
        rintro e w5 ⟨rfl, rfl⟩
        rw [D1.out]
        go_wp2_with fail
        refine (HE.out _ _ _ (HB2.out _ _) (HX.out _ (HB2.out _ _))).mono ?_
        rintro e w6 ⟨rfl, hb6⟩
        rw [HZ.out]
        go_wp2
        go_ret
        exact ⟨by rw [HT2.out]; rfl, hb6⟩
      · have HF : Hid (TV = false) := Lib.hid (by rw [HT.out]; simp [c3])
        clear c1
        go_enter Try.func32, Try.ntmps32
        go_wp2_with fail
        refine (isCount_any _ mn).mono ?_
        rintro e w5 ⟨rfl, rfl⟩
        rw [D1.out]
        go_wp2
        go_ret
        exact ⟨by rw [HF.out]; rfl, HB2.out _ _⟩
    · by_cases c4 : 0 ≤ mx ∧ mx ≤ 1000
      · have D2 := Lib.hid (decide_eq_true c4)
        by_cases c5 : mn ≤ mx
        · by_cases c3 : (L : Int) = 1
          · have HT2 : Hid (TV = Z) := Lib.hid (by rw [HT.out, D1.out, D2.out]; simp [c5, c3])
            clear c1 c4
            go_enter Try.func32, Try.ntmps32
            go_wp2_with fail
            refine (isCount_any _ mn).mono ?_
            rintro e w5 ⟨rfl, rfl⟩
            rw [D1.out]
            go_wp2_with fail
            refine (isCount_any _ mx).mono ?_
            rintro e w5 ⟨rfl, rfl⟩
            rw [D2.out]
            go_wp2_with fail
            refine (HE.out _ _ _ (HB2.out _ _) (HX.out _ (HB2.out _ _))).mono ?_
            rintro e w6 ⟨rfl, hb6⟩
            rw [HZ.out]
            go_wp2
            go_ret
            exact ⟨by rw [HT2.out]; rfl, hb6⟩
          · have HF : Hid (TV = false) := Lib.hid (by rw [HT.out]; simp [c3])
            clear c1 c4
            go_enter Try.func32, Try.ntmps32
            go_wp2_with fail
            refine (isCount_any _ mn).mono ?_
            rintro e w5 ⟨rfl, rfl⟩
            rw [D1.out]
            go_wp2_with fail
            refine (isCount_any _ mx).mono ?_
            rintro e w5 ⟨rfl, rfl⟩
            rw [D2.out]
            go_wp2
            go_ret
            exact ⟨by rw [HF.out]; rfl, HB2.out _ _⟩
        · have HF : Hid (TV = false) := Lib.hid (by rw [HT.out]; simp [c5, c2])
          clear c1 c4
          go_enter Try.func32, Try.ntmps32
          go_wp2_with fail
          refine (isCount_any _ mn).mono ?_
          rintro e w5 ⟨rfl, rfl⟩
          rw [D1.out]
          go_wp2_with fail
          refine (isCount_any _ mx).mono ?_
          rintro e w5 ⟨rfl, rfl⟩
          rw [D2.out]
          go_wp2
          go_ret
          exact ⟨by rw [HF.out]; rfl, HB2.out _ _⟩
      · have D2 := Lib.hid (decide_eq_false c4)
        have HF : Hid (TV = false) := Lib.hid (by rw [HT.out, D2.out]; simp [c2])
        clear c1 c4
        go_enter Try.func32, Try.ntmps32
        go_wp2_with fail
        refine (isCount_any _ mn).mono ?_
        rintro e w5 ⟨rfl, rfl⟩
        rw [D1.out]
        go_wp2_with fail
        refine (isCount_any _ mx).mono ?_
        rintro e w5 ⟨rfl, rfl⟩
        rw [D2.out]
        go_wp2
        go_ret
        exact ⟨by rw [HF.out]; rfl, HB2.out _ _⟩
  · have D1 := Lib.hid (decide_eq_false c1)
    have HF : Hid (TV = false) := Lib.hid (by rw [HT.out, D1.out]; simp)
    clear c1
    go_enter Try.func32, Try.ntmps32
    go_wp2_with fail
    refine (isCount_any _ mn).mono ?_
    rintro e w5 ⟨rfl, rfl⟩
    rw [D1.out]
    go_wp2
    go_ret
    exact ⟨by rw [HF.out]; rfl, HB2.out _ _⟩
set_option maxRecDepth 100000 in
set_option maxHeartbeats 8000000 in
theorem fits_k0 (W : World) (K num mn mx : Int) (set : List (Int × Int)) (nm : ByteArray) (lz : Bool) (subs : List Nd) (cs : List Value) (h : NdIs W (.mk K set num nm mn mx lz subs) cs) (h1 : ¬ K = 1) (h2 : ¬ K = 2) (h3 : ¬ K = 3) (h4 : ¬ K = 4) (h5 : ¬ K = 5) (h6 : ¬ K = 6) (h7 : ¬ K = 7) (h8 : ¬ K = 8) (h9 : ¬ K = 9) :
    Calls Try.prog 32 #[.agg cs.toArray] W fun e w' => e = .returned (.bool (Td.fitsB (.mk K set num nm mn mx lz subs))) ∧ Below W.heap.size W w' := by
  obtain ⟨TV, hTV⟩ : ∃ TV, Td.fitsB (.mk K set num nm mn mx lz subs) = TV := ⟨_, rfl⟩
  rw [hTV]
  have hb2 : ∀ (o1 o2 : Obj), Below W.heap.size W ((W.alloc o1).alloc o2) := fun o1 o2 => ((Below.refl W.heap.size W).alloc (Nat.le_refl _) o1).alloc (by simp) o2
  obtain ⟨vs, a, cap, C, hC⟩ := h.cells
  obtain ⟨sa, scap, hvs, hsl, _, _⟩ := hC.set
  have hcs := hC.eq
  have hlen := hC.len
  have hnm := hC.name
  have HSET := Lib.hid hC.set
  have HE := Lib.hid (endOk W K hC.bd.1)
  subst hvs
  subst hcs
  replace hsl : set.length ≤ 8796093022208 := hsl
  replace hlen : subs.length ≤ 8796093022208 := hlen
  replace hnm : nm.size ≤ 140737488351232 := hnm
  replace HSET : Hid (RRow W (.slice sa set.length scap) set) := HSET
  have HK := Lib.hid (fun W2 (hb : Below W.heap.size W W2) => h.kept hb)
  replace HK : Hid (∀ W2, Below W.heap.size W W2 → NdIs W2 (.mk K set num nm mn mx lz subs) [.int .i64 K, .slice sa set.length scap, .int .i64 num, .string nm, .int .i64 mn, .int .i64 mx, .bool lz, .slice a subs.length cap]) := HK
  have HB2 := Lib.hid hb2
  show Calls Try.prog 32 #[.agg #[.int .i64 K, .slice sa set.length scap, .int .i64 num, .string nm, .int .i64 mn, .int .i64 mx, .bool lz, .slice a subs.length cap]] W _
  clear h hC hb2
  obtain ⟨N, hN⟩ : ∃ N, set.length = N := ⟨_, rfl⟩
  obtain ⟨L, hL⟩ : ∃ L, subs.length = L := ⟨_, rfl⟩
  rw [hN] at hsl HSET
  rw [hL] at hlen
  rw [hN, hL] at HK
  rw [hN, hL]
  have HF : Hid (TV = false) := Lib.hid (by rw [← hTV]; exact Td.told0 (n := .mk K set num nm mn mx lz subs) (by simp [Td.kind, h1, h2, h4]) h3 h5 h6 (by simp [Td.kind, h7, h8]) h9)
  clear hTV hN hL
  go_enter Try.func32, Try.ntmps32
  go_wp2
  go_ret
  exact ⟨by rw [HF.out]; rfl, HB2.out _ _⟩
theorem trFits_any (W : World) (n : Nd) (cs : List Value) (h : NdIs W n cs) :
    Calls Try.prog 32 #[.agg cs.toArray] W fun e w' => e = .returned (.bool (Td.fitsB n)) ∧ Below W.heap.size W w' := by
  cases n with
  | mk K set num nm mn mx lz subs =>
    by_cases k1 : K = 1
    · exact fits_k1 W K num mn mx set nm lz subs cs h k1
    by_cases k2 : K = 2
    · exact fits_k2 W K num mn mx set nm lz subs cs h k2
    by_cases k3 : K = 3
    · exact fits_k3 W K num mn mx set nm lz subs cs h k3
    by_cases k4 : K = 4
    · exact fits_k4 W K num mn mx set nm lz subs cs h k4
    by_cases k5 : K = 5
    · exact fits_k5 W K num mn mx set nm lz subs cs h k5
    by_cases k6 : K = 6
    · exact fits_k6 W K num mn mx set nm lz subs cs h k6
    by_cases k7 : K = 7
    · exact fits_k7 W K num mn mx set nm lz subs cs h k7
    by_cases k8 : K = 8
    · exact fits_k8 W K num mn mx set nm lz subs cs h k8
    by_cases k9 : K = 9
    · exact fits_k9 W K num mn mx set nm lz subs cs h k9
    exact fits_k0 W K num mn mx set nm lz subs cs h k1 k2 k3 k4 k5 k6 k7 k8 k9
end Go.Proofs.Ythhdlcckboiecaa
