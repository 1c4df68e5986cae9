/- The reference's wire (burinref15): what Decode reads. · The reference's wire (burinref15): Decode. · burinbook.SpoilInsts. · burinlaw15.WireCodes: the walk. -/
import Derived.Test.YtfnimmbmcjgdpaaDoorGp18
import Derived.Test.YtfnimmbmcjgdpaaDoorGp24
import Derived.Test.YtfnimmbmcjgdpaaDoorGp25
import Derived.Test.YtfnimmbmcjgdpaaDoorGp5
import Derived.Test.YtfnimmbmcjgdpaaDoorGp26
namespace Go.Proofs.YtfnimmbmcjgdpaaDoor
open Go.RowKit
set_option linter.unusedVariables false
namespace Pgm
/-- What get hands back, from any place or from none. -/
def GetA (S : List UInt8) (k n p : Int) : Prop :=
  -1 ≤ p ∧ p ≤ (S.length : Int) ∧ 0 ≤ n ∧ n < 2097152 ∧ ∀ (m : Int) (r : List UInt8), 0 ≤ m → m < 16384 → 0 ≤ k → S.drop k.toNat = vL m ++ r → n = m ∧ 0 ≤ p ∧ S.drop p.toNat = r ∧ p = k + ((vL m).length : Int)
theorem get15_all (W : World) (s : ByteArray) (k : Int) (hs : s.size ≤ 1000000) (h0 : -1 ≤ k) (h1 : k ≤ (s.data.toList.length : Int)) : Calls Tryd.prog 61 #[.string s, .int .i64 k] W fun e w' => ∃ n p : Int, e = .returned (.tuple #[.int .i64 n, .int .i64 p]) ∧ GetA s.data.toList k n p ∧ W = w' := by
  have hl := len_list s
  by_cases hk : k = -1
  · subst hk
    refine (get15_neg W s).mono ?_
    rintro e w' ⟨rfl, rfl⟩
    exact ⟨0, -1, rfl, ⟨by omega, by omega, by omega, by omega, fun m r _ _ h => by omega⟩, rfl⟩
  · obtain ⟨q, rfl⟩ : ∃ q : Nat, k = (q : Int) := ⟨k.toNat, by omega⟩
    refine (get15_any W s q hs (by omega)).mono ?_
    rintro e w' ⟨n, p, rfl, ⟨g1, g2, g3, g4, g5⟩, rfl⟩
    refine ⟨n, p, rfl, ⟨g1, g2, g3, g4, fun m r m0 m1 _ hd => ?_⟩, rfl⟩
    rw [Int.toNat_natCast] at hd
    obtain ⟨e1, e2⟩ := g5 m r m0 m1 hd
    refine ⟨e1, by omega, ?_, e2⟩
    have e3 : p.toNat = q + (vL m).length := by omega
    rw [e3, ← List.drop_drop, hd, List.drop_left]
/-- What is so of what has been read, if the text is an encoding. -/
def ExI (S : List UInt8) (a1 a2 many : Int) (k : Nat) (p : Int) (g : List In) : Prop :=
  ∀ (L : List In) (st sl : Int), Ok L st sl → encL L st sl = S → a1 = st ∧ a2 = sl ∧ many = (L.length : Int) ∧ k ≤ L.length ∧ g = L.take k ∧ 0 ≤ p ∧ ∃ x, S.drop p.toNat = (L.drop k).flatMap instW ++ [x]
theorem enc_drop3 (L : List In) (st sl : Int) : (encL L st sl).drop 3 = vL st ++ (vL sl ++ (vL (L.length : Int) ++ (L.flatMap instW ++ [xorL (bodyW L st sl)]))) := by
  unfold encL
  conv => lhs; arg 2; arg 1; unfold bodyW
  simp [magicL]
theorem ex_start {S : List UInt8} {a1 a2 many p1 p2 p3 : Int} (h1 : GetA S 3 a1 p1) (h2 : GetA S p1 a2 p2) (h3 : GetA S p2 many p3) : ExI S a1 a2 many 0 p3 [] := by
  intro L st sl hok he
  have hd := enc_drop3 L st sl
  rw [he] at hd
  obtain ⟨o1, o2, o3, o4, o5, o6, _⟩ := hok
  obtain ⟨b1, b2, b3, _⟩ := h1.2.2.2.2 st _ o3 (by omega) (by omega) hd
  obtain ⟨c1, c2, c3, _⟩ := h2.2.2.2.2 sl _ o5 (by omega) b2 b3
  obtain ⟨d1, d2, d3, _⟩ := h3.2.2.2.2 (L.length : Int) _ (by omega) (by omega) c2 c3
  exact ⟨b1, c1, d1, by omega, rfl, d2, _, d3⟩
/-- An instruction that is read. -/
def InX (S : List UInt8) (p : Int) (i' : In) (p' : Int) : Prop := ∀ (i : In) (r : List UInt8), Fit i → S.drop p.toNat = instW i ++ r → i' = i ∧ 0 ≤ p' ∧ S.drop p'.toNat = r
theorem ex_step {S : List UInt8} {a1 a2 many : Int} {k : Nat} {p p' : Int} {g : List In} {i' : In} (h : ExI S a1 a2 many k p g) (hk : (k : Int) < many) (hi : InX S p i' p') : ExI S a1 a2 many (k + 1) p' (g ++ [i']) := by
  intro L st sl hok he
  obtain ⟨e1, e2, e3, e4, e5, e6, x, e7⟩ := h L st sl hok he
  have hkl : k < L.length := by omega
  have hdr : L.drop k = L[k] :: L.drop (k + 1) := List.drop_eq_getElem_cons hkl
  rw [hdr, List.flatMap_cons, List.append_assoc] at e7
  obtain ⟨f1, f2, f3⟩ := hi L[k] _ (ok_fit hok _ (List.getElem_mem hkl)) e7
  refine ⟨e1, e2, e3, by omega, ?_, f2, x, f3⟩
  rw [List.take_add_one, List.getElem?_eq_getElem hkl, e5, f1]
  rfl
theorem ex_end {S : List UInt8} {a1 a2 many : Int} {k : Nat} {p : Int} {g : List In} (h : ExI S a1 a2 many k p g) (hc : ¬ ((k : Int) < many ∧ 0 ≤ p ∧ p < (S.length : Int) ∧ k ≤ 4000)) : ∀ L st sl, Ok L st sl → encL L st sl = S → L = g ∧ st = a1 ∧ sl = a2 := by
  intro L st sl hok he
  obtain ⟨e1, e2, e3, e4, e5, e6, x, e7⟩ := h L st sl hok he
  have hl := congrArg List.length e7
  rw [List.length_drop, List.length_append] at hl
  simp only [List.length_cons, List.length_nil] at hl
  have ho := hok.2.1
  have hkL : k = L.length := by omega
  refine ⟨?_, e1.symm, e2.symm⟩
  rw [e5, hkL, List.take_length]
/-- The byte at the front of an instruction. -/
theorem front_op {S : List UInt8} {p : Nat} {i : In} {r : List UInt8} (hf : Fit i) (h : S.drop p = instW i ++ r) (hp : p < S.length) : ((S[p]'hp).toNat : Int) = i.op ∧ S.drop (p + 1) = (ownL i).flatMap vL ++ r := by
  have ho := fit_op hf
  rw [List.drop_eq_getElem_cons hp] at h
  unfold instW at h
  rw [List.cons_append] at h
  injection h with h1 h2
  refine ⟨?_, h2⟩
  rw [h1, ofNat_toNat8 (by omega)]
  omega
theorem inx_of {S : List UInt8} {p : Nat} {hp : p < S.length} {i' : In} {p' : Int} (h : ∀ (i : In) (r : List UInt8), Fit i → ((S[p]'hp).toNat : Int) = i.op → S.drop (p + 1) = (ownL i).flatMap vL ++ r → i' = i ∧ 0 ≤ p' ∧ S.drop p'.toNat = r) : InX S (p : Int) i' p' := by
  intro i r hf hd
  rw [Int.toNat_natCast] at hd
  obtain ⟨h1, h2⟩ := front_op hf hd hp
  exact h i r hf h1 h2
theorem inx_1 {S : List UInt8} {p : Nat} {hp : p < S.length} {n1 n2 n3 p1 p2 p3 : Int} (hc : ((S[p]'hp).toNat : Int) = 1) (h1 : GetA S ((p : Int) + 1) n1 p1) (h2 : GetA S p1 n2 p2) (h3 : GetA S p2 n3 p3) : InX S (p : Int) ⟨1, n1, n2, n3, 0⟩ p3 := by
  refine inx_of (hp := hp) (fun i r hf ho hd => ?_)
  rw [hc] at ho
  have hw : ownL i = [i.lo, i.hi, i.x] := by unfold ownL; rw [if_pos ho.symm]
  rw [hw] at hd
  have hd' : S.drop ((p : Int) + 1).toNat = vL i.lo ++ (vL i.hi ++ (vL i.x ++ r)) := by
    rw [show ((p : Int) + 1).toNat = p + 1 by omega, hd]; simp
  have hb := fit_own hf
  rw [hw] at hb
  have b1 := hb i.lo (by simp)
  have b2 := hb i.hi (by simp)
  have b3 := hb i.x (by simp)
  obtain ⟨x1, x2, x3, _⟩ := h1.2.2.2.2 i.lo _ (by omega) (by omega) (by omega) hd'
  obtain ⟨y1, y2, y3, _⟩ := h2.2.2.2.2 i.hi _ (by omega) (by omega) x2 x3
  obtain ⟨z1, z2, z3, _⟩ := h3.2.2.2.2 i.x _ (by omega) (by omega) y2 y3
  refine ⟨In.ext' ho x1 y1 z1 ?_, z2, z3⟩
  unfold Fit at hf
  show 0 = i.y
  omega
theorem inx_2 {S : List UInt8} {p : Nat} {hp : p < S.length} {n1 n2 p1 p2 : Int} (hc : ((S[p]'hp).toNat : Int) = 2) (h1 : GetA S ((p : Int) + 1) n1 p1) (h2 : GetA S p1 n2 p2) : InX S (p : Int) ⟨2, 0, 0, n1, n2⟩ p2 := by
  refine inx_of (hp := hp) (fun i r hf ho hd => ?_)
  rw [hc] at ho
  have hw : ownL i = [i.x, i.y] := by unfold ownL; rw [if_neg (by omega), if_pos ho.symm]
  rw [hw] at hd
  have hd' : S.drop ((p : Int) + 1).toNat = vL i.x ++ (vL i.y ++ r) := by
    rw [show ((p : Int) + 1).toNat = p + 1 by omega, hd]; simp
  have hb := fit_own hf
  rw [hw] at hb
  have b1 := hb i.x (by simp)
  have b2 := hb i.y (by simp)
  obtain ⟨x1, x2, x3, _⟩ := h1.2.2.2.2 i.x _ (by omega) (by omega) (by omega) hd'
  obtain ⟨y1, y2, y3, _⟩ := h2.2.2.2.2 i.y _ (by omega) (by omega) x2 x3
  unfold Fit at hf
  exact ⟨In.ext' ho (by show 0 = i.lo; omega) (by show 0 = i.hi; omega) x1 y1, y2, y3⟩
theorem inx_34 {S : List UInt8} {p : Nat} {hp : p < S.length} {op n1 n2 p1 p2 : Int} (ho34 : op = 3 ∨ op = 4) (hc : ((S[p]'hp).toNat : Int) = op) (h1 : GetA S ((p : Int) + 1) n1 p1) (h2 : GetA S p1 n2 p2) : InX S (p : Int) ⟨op, n1, 0, n2, 0⟩ p2 := by
  refine inx_of (hp := hp) (fun i r hf ho hd => ?_)
  rw [hc] at ho
  have hw : ownL i = [i.lo, i.x] := by unfold ownL; rw [if_neg (by omega), if_neg (by omega), if_pos (by omega)]
  rw [hw] at hd
  have hd' : S.drop ((p : Int) + 1).toNat = vL i.lo ++ (vL i.x ++ r) := by
    rw [show ((p : Int) + 1).toNat = p + 1 by omega, hd]; simp
  have hb := fit_own hf
  rw [hw] at hb
  have b1 := hb i.lo (by simp)
  have b2 := hb i.x (by simp)
  obtain ⟨x1, x2, x3, _⟩ := h1.2.2.2.2 i.lo _ (by omega) (by omega) (by omega) hd'
  obtain ⟨y1, y2, y3, _⟩ := h2.2.2.2.2 i.x _ (by omega) (by omega) x2 x3
  unfold Fit at hf
  exact ⟨In.ext' ho x1 (by show 0 = i.hi; omega) y1 (by show 0 = i.y; omega), y2, y3⟩
theorem inx_no {S : List UInt8} {p : Nat} {hp : p < S.length} {op : Int} (hn : op ≠ 1 ∧ op ≠ 2 ∧ op ≠ 3 ∧ op ≠ 4) (hc : ((S[p]'hp).toNat : Int) = op) : InX S (p : Int) ⟨op, 0, 0, 0, 0⟩ ((p : Int) + 1) := by
  refine inx_of (hp := hp) (fun i r hf ho hd => ?_)
  rw [hc] at ho
  have hw : ownL i = [] := by unfold ownL; rw [if_neg (by omega), if_neg (by omega), if_neg (by omega)]
  rw [hw] at hd
  unfold Fit at hf
  refine ⟨In.ext' ho (by show 0 = i.lo; omega) (by show 0 = i.hi; omega) (by show 0 = i.x; omega) (by show 0 = i.y; omega), by omega, ?_⟩
  rw [show ((p : Int) + 1).toNat = p + 1 by omega, hd]; rfl
theorem ref_no {S : List UInt8} {g : List In} {a1 a2 : Int} (h : ∀ L st sl, Ok L st sl → encL L st sl = S → L = g ∧ st = a1 ∧ sl = a2) (hno : ¬ (Ok g a1 a2 ∧ encL g a1 a2 = S)) : decL S = none := by
  cases hd : decL S with
  | none => rfl
  | some p =>
    obtain ⟨L, st, sl⟩ := p
    obtain ⟨h1, h2⟩ := (dec_iff S L st sl).1 hd
    obtain ⟨rfl, rfl, rfl⟩ := h L st sl h1 h2
    exact absurd ⟨h1, h2⟩ hno
theorem short_no {S : List UInt8} (h : S.length < 4) : decL S = none := by
  cases hd : decL S with
  | none => rfl
  | some p =>
    obtain ⟨L, st, sl⟩ := p
    obtain ⟨h1, h2⟩ := (dec_iff S L st sl).1 hd
    have := (enc_len L st sl).1
    rw [h2] at this
    omega
end Pgm
end Go.Proofs.YtfnimmbmcjgdpaaDoor
namespace Go.Proofs.YtfnimmbmcjgdpaaDoor
open Go.RowKit
set_option linter.unusedVariables false
namespace Pgm
theorem ext3 (s : ByteArray) (h : 3 ≤ s.size) : s.extract 0 3 = txB (s.data.toList.take 3) := by
  apply ByteArray.ext
  rw [ByteArray.data_extract]
  apply Array.ext'
  simp [txB]
theorem bd_in {op lo hi x y : Int} (h0 : 0 ≤ op ∧ op < 2097152) (h1 : 0 ≤ lo ∧ lo < 2097152) (h2 : 0 ≤ hi ∧ hi < 2097152) (h3 : 0 ≤ x ∧ x < 2097152) (h4 : 0 ≤ y ∧ y < 2097152) : (⟨op, lo, hi, x, y⟩ : In).bd := by
  unfold In.bd I64
  dsimp only
  omega
theorem GetA.nat {S : List UInt8} {k n p : Int} (h : GetA S k n p) : 0 ≤ n ∧ n < 2097152 := ⟨h.2.2.1, h.2.2.2.1⟩
set_option maxRecDepth 100000 in
set_option maxHeartbeats 4000000 in
theorem refDec_a (W : World) (s : ByteArray) (h : s.size < 4) : Calls Tryd.prog 29 #[.string s] W (DecPost s.data.toList W) := by
  have HN := Lib.hid (short_no (S := s.data.toList) (by rw [len_list]; exact h))
  have hi : (s.size : Int) < 4 := by omega
  obtain ⟨W1, hW1⟩ : ∃ W1, W.alloc (.cells #[.slice none 0 0, .int .i64 0, .int .i64 0] 46) = W1 := ⟨_, rfl⟩
  have hx : W1.heap[W.heap.size]? = some (.cells #[.slice none 0 0, .int .i64 0, .int .i64 0] 46 (0, 0)) := by rw [← hW1]; exact heap_alloc_new W _
  have HB : Hid (Below W.heap.size W W1) := Lib.hid (by rw [← hW1]; exact (Below.refl _ _).alloc (Nat.le_refl _) _)
  have HX := Lib.hid hx
  have r0 : W1.cell? ⟨W.heap.size, 0, none⟩ = some (.slice none 0 0) := blkp hx 0
  have r1 : W1.cell? ⟨W.heap.size, 1, none⟩ = some (.int .i64 0) := blkp hx 1
  have r2 : W1.cell? ⟨W.heap.size, 2, none⟩ = some (.int .i64 0) := blkp hx 2
  have f0 := frzp hx 0
  have f1 := frzp hx 1
  have f2 := frzp hx 2
  have HWs : Hid (W.heap.size < W1.heap.size) := Lib.hid (Array.getElem?_eq_some_iff.1 hx).1
  clear hx h
  go_enter Tryd.func29, Tryd.ntmps29
  go_wp2
  refine ret_box2 rfl W.heap.size #[.slice none 0 0, .int .i64 0, .int .i64 0] (load_prog (box3_set _ _ _ HX.out).2 rfl) rfl rfl ?_
  obtain ⟨g1, g2⟩ := box3_set (.slice none 0 0) (.int .i64 0) (.int .i64 0) HX.out
  exact ⟨.inr ⟨HN.out, rfl⟩, HB.out.grown g1 (Nat.le_of_lt HWs.out) (fun j hj => by injection hj; omega)⟩
set_option maxRecDepth 100000 in
set_option maxHeartbeats 4000000 in
theorem refDec_b (W : World) (s : ByteArray) (h : 4 ≤ s.size) (hs : s.size ≤ 700000) (hm : ¬ s.data.toList.take 3 = magicL) : Calls Tryd.prog 29 #[.string s] W (DecPost s.data.toList W) := by
  have HN := Lib.hid (dec_no1 hm)
  have hi : ¬ (s.size : Int) < 4 := by omega
  have hi3 : (3 : Int) ≤ (s.size : Int) := by omega
  have hex := ext3 s (by omega)
  have hne : ((txB (s.data.toList.take 3)).toList == [66, 82, 49]) = false := by
    rw [beq_eq_false_iff_ne, toList_txB]
    exact hm
  obtain ⟨T3, hT3⟩ : ∃ T3, txB (s.data.toList.take 3) = T3 := ⟨_, rfl⟩
  rw [hT3] at hex hne
  have hne2 : ¬ T3.toList = [66, 82, 49] := by rw [beq_eq_false_iff_ne] at hne; exact hne
  have hne3 : (T3.toList == (⟨#[66, 82, 49]⟩ : ByteArray).toList) = false := by
    rw [show (⟨#[66, 82, 49]⟩ : ByteArray).toList = [66, 82, 49] from by rw [ByteArray.toList_eq]]; exact hne
  obtain ⟨W1, hW1⟩ : ∃ W1, W.alloc (.cells #[.slice none 0 0, .int .i64 0, .int .i64 0] 46) = W1 := ⟨_, rfl⟩
  have hx : W1.heap[W.heap.size]? = some (.cells #[.slice none 0 0, .int .i64 0, .int .i64 0] 46 (0, 0)) := by rw [← hW1]; exact heap_alloc_new W _
  have HB : Hid (Below W.heap.size W W1) := Lib.hid (by rw [← hW1]; exact (Below.refl _ _).alloc (Nat.le_refl _) _)
  have HX := Lib.hid hx
  have r0 : W1.cell? ⟨W.heap.size, 0, none⟩ = some (.slice none 0 0) := blkp hx 0
  have r1 : W1.cell? ⟨W.heap.size, 1, none⟩ = some (.int .i64 0) := blkp hx 1
  have r2 : W1.cell? ⟨W.heap.size, 2, none⟩ = some (.int .i64 0) := blkp hx 2
  have f0 := frzp hx 0
  have f1 := frzp hx 1
  have f2 := frzp hx 2
  have HWs : Hid (W.heap.size < W1.heap.size) := Lib.hid (Array.getElem?_eq_some_iff.1 hx).1
  clear hx h hm hT3
  go_enter Tryd.func29, Tryd.ntmps29
  go_wp2
  refine ret_box2 rfl W.heap.size #[.slice none 0 0, .int .i64 0, .int .i64 0] (load_prog (box3_set _ _ _ HX.out).2 rfl) rfl rfl ?_
  obtain ⟨g1, g2⟩ := box3_set (.slice none 0 0) (.int .i64 0) (.int .i64 0) HX.out
  exact ⟨.inr ⟨HN.out, rfl⟩, HB.out.grown g1 (Nat.le_of_lt HWs.out) (fun j hj => by injection hj; omega)⟩
set_option maxRecDepth 100000 in
set_option maxHeartbeats 32000000 in
theorem refDec_c (W : World) (s : ByteArray) (h : 4 ≤ s.size) (hs : s.size ≤ 700000) (hm : s.data.toList.take 3 = magicL) : Calls Tryd.prog 29 #[.string s] W (DecPost s.data.toList W) := by
  have hSs := txB_of s
  obtain ⟨S, hS⟩ : ∃ S, s.data.toList = S := ⟨_, rfl⟩
  have hSl : S.length = s.size := by rw [← hS]; simp
  have HG : Hid (∀ (w : World) (k : Int), -1 ≤ k → k ≤ (s.size : Int) → Calls Tryd.prog 61 #[.string s, .int .i64 k] w fun e w' => ∃ n p : Int, e = .returned (.tuple #[.int .i64 n, .int .i64 p]) ∧ GetA S k n p ∧ w = w') := Lib.hid (fun w k h0 h1 => by
    have := get15_all w s k (by omega) h0 (by rw [hS]; omega)
    rw [hS] at this
    exact this)
  have HSI : Hid (∀ (p : Nat) (hp : p < s.size), ∃ hp2 : p < S.length, ((S[p]'hp2).toNat : Int) = ((s[p]'hp).toNat : Int)) := Lib.hid (fun p hp => by
    obtain ⟨q1, q2⟩ := at_list s p hp
    subst hS
    exact ⟨q1, by rw [q2]⟩)
  have hi : ¬ (s.size : Int) < 4 := by omega
  have hi3 : (3 : Int) ≤ (s.size : Int) := by omega
  have hex := ext3 s (by omega)
  rw [hS] at hex hm ⊢
  rw [hm] at hex
  have hex2 : s.extract 0 3 = (⟨#[66, 82, 49]⟩ : ByteArray) := hex
  have HSL := Lib.hid hSl
  have HSS : Hid (txB S = s) := Lib.hid (by rw [← hS]; exact hSs)
  obtain ⟨W1, hW1⟩ : ∃ W1, W.alloc (.cells #[.slice none 0 0, .int .i64 0, .int .i64 0] 46) = W1 := ⟨_, rfl⟩
  have hx1 : W1.heap[W.heap.size]? = some (.cells #[.slice none 0 0, .int .i64 0, .int .i64 0] 46 (0, 0)) := by rw [← hW1]; exact heap_alloc_new W _
  have hb1 : Below W.heap.size W W1 := by rw [← hW1]; exact (Below.refl _ _).alloc (Nat.le_refl _) _
  have hs1 : W1.heap.size = W.heap.size + 1 := by rw [← hW1]; simp
  obtain ⟨W2, hW2⟩ : ∃ W2, W1.alloc (.cells #[.slice none 0 0, .int .i64 0, .int .i64 0] 46) = W2 := ⟨_, rfl⟩
  have hx2 : W2.heap[W.heap.size]? = some (.cells #[.slice none 0 0, .int .i64 0, .int .i64 0] 46 (0, 0)) := by rw [← hW2]; exact (Below.heap_alloc _ _ _ (by omega)).trans hx1
  have hy2 : W2.heap[W.heap.size + 1]? = some (.cells #[.slice none 0 0, .int .i64 0, .int .i64 0] 46 (0, 0)) := by rw [← hW2, ← hs1]; exact heap_alloc_new W1 _
  have hb2 : Below W.heap.size W W2 := by rw [← hW2]; exact hb1.alloc (by omega) _
  have hs2 : W2.heap.size = W.heap.size + 2 := by rw [← hW2]; simp; omega
  obtain ⟨P, hP⟩ : ∃ P, W.heap.size + 1 = P := ⟨_, rfl⟩
  rw [hP] at hy2
  have HP := Lib.hid hP
  have HX2 := Lib.hid hx2
  have HY2 := Lib.hid hy2
  have HB2 := Lib.hid hb2
  have HS2 := Lib.hid hs2
  clear hS hSs hSl hm hex h hx1 hb1 hx2 hy2 hb2 hs2
  have HW1 := Lib.hid hW1
  have HW2 := Lib.hid hW2
  have HS1 := Lib.hid hs1
  clear hs1 hP hW1 hW2
  have p1 : W2.cell? ⟨P, 1, none⟩ = some (.int .i64 0) := blkp HY2.out 1
  have g1 := frzp HY2.out 1
  go_enter Tryd.func29, Tryd.ntmps29
  go_wp2_with fail
  rw [HW1.out, HW2.out, HP.out]
  refine (HG.out W2 3 (by omega) (by have := HSL.out; omega)).mono ?_
  rintro e w' ⟨a1, q1, rfl, ga1, rfl⟩
  obtain ⟨W3, hW3⟩ : ∃ W3, W2.setCell ⟨P, 1, none⟩ (.int .i64 a1) = W3 := ⟨_, rfl⟩
  have hy3 : W3.heap[P]? = some (.cells #[.slice none 0 0, .int .i64 a1, .int .i64 0] 46 (0, 0)) := by rw [← hW3]; have := heap_setCell_same W2 P 1 _ _ (.int .i64 a1) HY2.out; simpa using this
  have p2 : W3.cell? ⟨P, 2, none⟩ = some (.int .i64 0) := blkp hy3 2
  have g2 := frzp hy3 2
  have HY3 := Lib.hid hy3
  have HGA1 := Lib.hid ga1
  obtain ⟨v1, v2, v3, v4, _⟩ := ga1
  have HW3 := Lib.hid hW3
  clear hy3 
  go_wp2_with fail
  refine (HG.out W3 q1 v1 (by have := HSL.out; omega)).mono ?_
  rintro e w' ⟨a2, q2, rfl, ga2, rfl⟩
  obtain ⟨W4, hW4⟩ : ∃ W4, W3.setCell ⟨P, 2, none⟩ (.int .i64 a2) = W4 := ⟨_, rfl⟩
  have hy4 : W4.heap[P]? = some (.cells #[.slice none 0 0, .int .i64 a1, .int .i64 a2] 46 (0, 0)) := by rw [← hW4]; have := heap_setCell_same W3 P 2 _ _ (.int .i64 a2) HY3.out; simpa using this
  have hneP : W.heap.size ≠ P := by have := HP.out; omega
  have hx4 : W4.heap[W.heap.size]? = some (.cells #[.slice none 0 0, .int .i64 0, .int .i64 0] 46 (0, 0)) := by rw [← hW4, ← hW3]; exact (Below.heap_setCell _ _ _ _ hneP).trans ((Below.heap_setCell _ _ _ _ hneP).trans HX2.out)
  have hb4 : Below W.heap.size W W4 := by rw [← hW4, ← hW3]; have := HP.out; exact (HB2.out.trans (below_set _ (by omega))).trans (below_set _ (by omega))
  have hs4 : W4.heap.size = P + 1 := by rw [← hW4, ← hW3, set_size, set_size, HS2.out]; have := HP.out; omega
  have HY4 := Lib.hid hy4
  have HX4 := Lib.hid hx4
  have HB4 := Lib.hid hb4
  have HS4 := Lib.hid hs4
  have HGA2 := Lib.hid ga2
  obtain ⟨u1, u2, u3, u4, _⟩ := ga2
  clear hy4 hx4 hb4 hs4 hneP
  go_wp2_with fail
  refine (HG.out W4 q2 u1 (by have := HSL.out; omega)).mono ?_
  rintro e w' ⟨many, q3, rfl, ga3, rfl⟩
  have HEX := Lib.hid (ex_start HGA1.out HGA2.out ga3)
  obtain ⟨t1, t2, t3, t4, _⟩ := ga3
  have HA1 : Hid (I64 a1) := Lib.hid ⟨by omega, by omega⟩
  have HA2 : Hid (I64 a2) := Lib.hid ⟨by omega, by omega⟩
  clear v1 v2 v3 v4 u1 u2 u3 u4 hW3 hW4 p1 g1 p2 g2
  go_wp2
  go_loopw [6, 7, 8] (fun A K Xp wr => ∃ (k : Nat) (p : Int) (g : List In) (v : Value), A = .int .i64 p ∧ K = .int .i64 (k : Int) ∧ -1 ≤ p ∧ p ≤ (s.size : Int) ∧ k ≤ 4001 ∧ Hid (g.length = k) ∧ Hid (∀ i ∈ g, i.bd) ∧ Hid (ExI S a1 a2 many k p g) ∧ Hid (InOwn wr (P + 1) v g) ∧ Hid (wr.heap[W.heap.size]? = some (.cells #[.slice none 0 0, .int .i64 0, .int .i64 0] 46 (0, 0))) ∧ Hid (wr.heap[P]? = some (.cells #[v, .int .i64 a1, .int .i64 a2] 46 (0, 0))) ∧ Hid (Below W.heap.size W wr)) (fun A K Xp _ => 4001 - (intOf K).toNat)
  case atStart => exact ⟨0, q3, [], .slice none 0 0, rfl, rfl, t1, by have := HSL.out; omega, by omega, Lib.hid rfl, Lib.hid (fun i hi => by cases hi), HEX, Lib.hid (InOwn.nil _ _), HX4, HY4, HB4⟩
  case round =>
    obtain ⟨k, p, g, v, rfl, rfl, hp0, hp1, hk, HGL, HGB, HEXk, HO, HX, HY, HB⟩ := hrel
    have y0 : wr.cell? ⟨P, 0, none⟩ = some v := blkp HY.out 0
    have hlP := (Array.getElem?_eq_some_iff.1 HY.out).1
    have hkw : IntKind.i64.wrap ((k : Int) + 1) = (k : Int) + 1 := by rw [IntKind.wrap_i64]; omega
    by_cases c1 : (k : Int) < many
    · by_cases c2 : 0 ≤ p
      · by_cases c3 : p < (s.size : Int)
        · by_cases c4 : (k : Int) ≤ 4000
          · obtain ⟨q, rfl⟩ : ∃ q : Nat, p = (q : Int) := ⟨p.toNat, by omega⟩
            have hq : q < s.size := by omega
            obtain ⟨hq2, hqc⟩ := HSI.out q hq
            have hqt : ((q : Int)).toNat = q := by omega
            have hqw : IntKind.i64.wrap ((q : Int) + 1) = (q : Int) + 1 := by rw [IntKind.wrap_i64]; omega
            have hcb : (s[q]'hq).toNat < 256 := UInt8.toNat_lt _
            obtain ⟨c, hc⟩ : ∃ c, (s[q]'hq).toNat = c := ⟨_, rfl⟩
            rw [hc] at hqc hcb
            have HQC := Lib.hid hqc
            have hcw : IntKind.i64.wrap (c : Int) = (c : Int) := by rw [IntKind.wrap_i64]; omega
            obtain ⟨X, hX⟩ : ∃ X, wr.heap.size = X := ⟨_, rfl⟩
            have HXX := Lib.hid hX
            have hPX : P < X := by omega
            obtain ⟨V1, hV1⟩ : ∃ V1, wr.alloc (.cells #[.int .i64 (c : Int), .int .i64 0, .int .i64 0, .int .i64 0, .int .i64 0] 81) = V1 := ⟨_, rfl⟩
            have hx1 : V1.heap[X]? = some (.cells #[.int .i64 (c : Int), .int .i64 0, .int .i64 0, .int .i64 0, .int .i64 0] 81 (0, 0)) := by rw [← hV1, ← hX]; exact heap_alloc_new wr _
            have ho1 : ∀ j, j < X → V1.heap[j]? = wr.heap[j]? := fun j hj => by rw [← hV1]; exact Below.heap_alloc _ _ _ (by omega)
            have hb1 : Below W.heap.size W V1 := by rw [← hV1]; exact HB.out.alloc HB.out.size _
            have hs1 : V1.heap.size = X + 1 := by rw [← hV1, ← hX]; simp
            have HV1 := Lib.hid hV1
            have HX1 := Lib.hid hx1
            have HO1 := Lib.hid ho1
            have HB1 := Lib.hid hb1
            have HS1 := Lib.hid hs1
            have HCB := Lib.hid hcb
            have HPX := Lib.hid hPX
            clear hqc hX hV1 hx1 ho1 hb1 hs1 hPX
            rcases (show c = 1 ∨ c = 2 ∨ c = 3 ∨ c = 4 ∨ (c ≠ 1 ∧ c ≠ 2 ∧ c ≠ 3 ∧ c ≠ 4) by omega) with rfl | rfl | rfl | rfl | ⟨d1, d2, d3, d4⟩
            · have HV1 : Hid (wr.alloc (.cells #[.int .i64 1, .int .i64 0, .int .i64 0, .int .i64 0, .int .i64 0] 81) = V1) := HV1
              have HX1 : Hid (V1.heap[X]? = some (.cells #[.int .i64 1, .int .i64 0, .int .i64 0, .int .i64 0, .int .i64 0] 81 (0, 0))) := HX1
              have HQC : Hid (((S[q]'hq2).toNat : Int) = 1) := HQC
              have hc9 : IntKind.i64.wrap 1 = 1 := rfl
              have hxc1 : V1.cell? ⟨X, 1, none⟩ = some (.int .i64 0) := blkp HX1.out 1
              have hxf1 := frzp HX1.out 1
              go_wp2_with fail
              rw [HV1.out, HXX.out]
              refine (HG.out V1 ((q : Int) + 1) (by omega) (by omega)).mono ?_
              rintro e w' ⟨n1, z1, rfl, ga1, rfl⟩
              obtain ⟨V2, hV2⟩ : ∃ V, V1.setCell ⟨X, 1, none⟩ (.int .i64 n1) = V := ⟨_, rfl⟩
              have HX2 : Hid (V2.heap[X]? = some (.cells #[.int .i64 1, .int .i64 n1, .int .i64 0, .int .i64 0, .int .i64 0] 81 (0, 0))) := Lib.hid (by rw [← hV2]; have := heap_setCell_same V1 X 1 _ _ (.int .i64 n1) HX1.out; simpa using this)
              have HO2 : Hid (∀ j, j < X → V2.heap[j]? = wr.heap[j]?) := Lib.hid (fun j hj => by rw [← hV2]; exact (Below.heap_setCell _ _ _ _ (by show j ≠ X; omega)).trans (HO1.out j hj))
              have HB2 : Hid (Below W.heap.size W V2) := Lib.hid (by rw [← hV2]; exact HB1.out.trans (below_set _ (by have := HPX.out; have := HP.out; omega)))
              have HS2 : Hid (V2.heap.size = X + 1) := Lib.hid (by rw [← hV2, set_size]; exact HS1.out)
              have hxc2 : V2.cell? ⟨X, 2, none⟩ = some (.int .i64 0) := blkp HX2.out 2
              have hxf2 := frzp HX2.out 2
              go_wp2_with fail
              refine (HG.out V2 z1 (by have := ga1.1; omega) (by have := ga1.2.1; have := HSL.out; omega)).mono ?_
              rintro e w' ⟨n2, z2, rfl, ga2, rfl⟩
              obtain ⟨V3, hV3⟩ : ∃ V, V2.setCell ⟨X, 2, none⟩ (.int .i64 n2) = V := ⟨_, rfl⟩
              have HX3 : Hid (V3.heap[X]? = some (.cells #[.int .i64 1, .int .i64 n1, .int .i64 n2, .int .i64 0, .int .i64 0] 81 (0, 0))) := Lib.hid (by rw [← hV3]; have := heap_setCell_same V2 X 2 _ _ (.int .i64 n2) HX2.out; simpa using this)
              have HO3 : Hid (∀ j, j < X → V3.heap[j]? = wr.heap[j]?) := Lib.hid (fun j hj => by rw [← hV3]; exact (Below.heap_setCell _ _ _ _ (by show j ≠ X; omega)).trans (HO2.out j hj))
              have HB3 : Hid (Below W.heap.size W V3) := Lib.hid (by rw [← hV3]; exact HB2.out.trans (below_set _ (by have := HPX.out; have := HP.out; omega)))
              have HS3 : Hid (V3.heap.size = X + 1) := Lib.hid (by rw [← hV3, set_size]; exact HS2.out)
              have hxc3 : V3.cell? ⟨X, 3, none⟩ = some (.int .i64 0) := blkp HX3.out 3
              have hxf3 := frzp HX3.out 3
              go_wp2_with fail
              refine (HG.out V3 z2 (by have := ga2.1; omega) (by have := ga2.2.1; have := HSL.out; omega)).mono ?_
              rintro e w' ⟨n3, z3, rfl, ga3, rfl⟩
              obtain ⟨V4, hV4⟩ : ∃ V, V3.setCell ⟨X, 3, none⟩ (.int .i64 n3) = V := ⟨_, rfl⟩
              have HX4 : Hid (V4.heap[X]? = some (.cells #[.int .i64 1, .int .i64 n1, .int .i64 n2, .int .i64 n3, .int .i64 0] 81 (0, 0))) := Lib.hid (by rw [← hV4]; have := heap_setCell_same V3 X 3 _ _ (.int .i64 n3) HX3.out; simpa using this)
              have HO4 : Hid (∀ j, j < X → V4.heap[j]? = wr.heap[j]?) := Lib.hid (fun j hj => by rw [← hV4]; exact (Below.heap_setCell _ _ _ _ (by show j ≠ X; omega)).trans (HO3.out j hj))
              have HB4 : Hid (Below W.heap.size W V4) := Lib.hid (by rw [← hV4]; exact HB3.out.trans (below_set _ (by have := HPX.out; have := HP.out; omega)))
              have HS4 : Hid (V4.heap.size = X + 1) := Lib.hid (by rw [← hV4, set_size]; exact HS3.out)
              have HEXn : Hid (ExI S a1 a2 many (k + 1) z3 (g ++ [(⟨1, n1, n2, n3, 0⟩ : In)])) := Lib.hid (ex_step HEXk.out c1 (inx_1 (hp := hq2) HQC.out ga1 ga2 ga3))
              have HBDn : Hid (∀ i ∈ g ++ [(⟨1, n1, n2, n3, 0⟩ : In)], i.bd) := Lib.hid (fun i hi => by
                rcases List.mem_append.1 hi with hi | hi
                · exact HGB.out i hi
                · rw [List.mem_singleton] at hi; subst hi; exact bd_in ⟨by omega, by omega⟩ ga1.nat ga2.nat ga3.nat ⟨by omega, by omega⟩)
              have HATn : Hid (-1 ≤ z3 ∧ z3 ≤ (s.size : Int)) := Lib.hid ⟨ga3.1, by have := ga3.2.1; have := HSL.out; omega⟩
              obtain ⟨i, hi⟩ : ∃ i : In, i = (⟨1, n1, n2, n3, 0⟩ : In) := ⟨_, rfl⟩
              have hs9 := HS4.out
              have hPX := HPX.out
              have hPw := HP.out
              have hXe := HXX.out
              have ho9 : InOwn V4 (P + 1) v g := InOwn.of HO.out (fun b hb => HO4.out b (by have := (InOwn.lt HO.out b hb).2; omega))
              have hy9 := (HO4.out P hPX).trans HY.out
              have hz9 := (HO4.out W.heap.size (by omega)).trans HX.out
              have hx9 := HX4.out
              obtain ⟨V10, hV10⟩ : ∃ V10, V4.alloc (.cells #[.int .i64 1, .int .i64 n1, .int .i64 n2, .int .i64 n3, .int .i64 0] 81) = V10 := ⟨_, rfl⟩
              obtain ⟨a', L', c', W11, hrun, ho11, hb11⟩ := dec_run (n0 := 0) (a1 := a1) (a2 := a2) (W := W) (x := (⟨1, n1, n2, n3, 0⟩ : In)) ho9 (by omega) (by have := HGL.out; omega) X hx9 V10 hV10
              have d0 : V4.cell? ⟨P, 0, none⟩ = some v := blkp hy9 0
              have x0 : V4.cell? ⟨X, 0, none⟩ = some (.int .i64 1) := blkp hx9 0
              have x1 : V4.cell? ⟨X, 1, none⟩ = some (.int .i64 n1) := blkp hx9 1
              have x2 : V4.cell? ⟨X, 2, none⟩ = some (.int .i64 n2) := blkp hx9 2
              have x3 : V4.cell? ⟨X, 3, none⟩ = some (.int .i64 n3) := blkp hx9 3
              have x4 : V4.cell? ⟨X, 4, none⟩ = some (.int .i64 0) := blkp hx9 4
              have hy11 : W11.heap[P]? = some (.cells #[v, .int .i64 a1, .int .i64 a2] 46 (0, 0)) := (hb11.block _ (by omega)).trans hy9
              have yy0 : W11.cell? ⟨P, 0, none⟩ = some v := blkp hy11 0
              have yf := frzp hy11 0
              obtain ⟨W12, hW12⟩ : ∃ W12, W11.setCell ⟨P, 0, none⟩ (.slice a' L' c') = W12 := ⟨_, rfl⟩
              have hother : ∀ j, j ≠ P → W12.heap[j]? = W11.heap[j]? := fun j hj => by rw [← hW12]; exact Below.heap_setCell _ _ _ _ hj
              have HO12 : Hid (InOwn W12 (P + 1) (.slice a' L' c') (g ++ [(⟨1, n1, n2, n3, 0⟩ : In)])) := Lib.hid (InOwn.of ho11 (fun b hb => hother b (by have := (InOwn.lt ho11 b hb).1; omega)))
              have HX12 : Hid (W12.heap[W.heap.size]? = some (.cells #[.slice none 0 0, .int .i64 0, .int .i64 0] 46 (0, 0))) := Lib.hid ((hother _ (by omega)).trans ((hb11.block _ (by omega)).trans hz9))
              have HY12 : Hid (W12.heap[P]? = some (.cells #[.slice a' L' c', .int .i64 a1, .int .i64 a2] 46 (0, 0))) := Lib.hid (by rw [← hW12]; have := heap_setCell_same W11 P 0 _ _ (.slice a' L' c') hy11; simpa using this)
              have HB12 : Hid (Below W.heap.size W W12) := Lib.hid (by rw [← hW12]; exact (HB4.out.trans (hb11.mono (by omega))).trans (below_set _ (by omega)))
              have HGLn : Hid ((g ++ [(⟨1, n1, n2, n3, 0⟩ : In)]).length = k + 1) := Lib.hid (by rw [List.length_append, HGL.out]; rfl)
              have HRUN := Lib.hid hrun
              have HV10 := Lib.hid hV10
              have hPs : P < V4.heap.size := by omega
              have hXs : X < V4.heap.size := by omega
              clear hi hs9 hPX hPw hXe ho9 hy9 hz9 hx9 hV10 hrun ho11 hb11 hy11 hother
              go_wp2_with (at_builtin; (rw [HV10.out]; refine wpList_append_run rfl _ _ 44 rfl _ _ _ W11 rfl rfl HRUN.out ?_))
              go_wp2
              go_roundw
              case rel => first | exact ⟨k + 1, _, _, _, rfl, by go_num, HATn.out.1, HATn.out.2, by omega, HGLn, HBDn, HEXn, HO12, HX12, HY12, HB12⟩ | ((repeat apply Exists.intro); exact ⟨⟨k + 1, _, _, _, rfl, by go_num, HATn.out.1, HATn.out.2, by omega, HGLn, HBDn, HEXn, HO12, HX12, HY12, HB12⟩, rfl⟩)
              case measure => simp [intOf]; omega
            · have HV1 : Hid (wr.alloc (.cells #[.int .i64 2, .int .i64 0, .int .i64 0, .int .i64 0, .int .i64 0] 81) = V1) := HV1
              have HX1 : Hid (V1.heap[X]? = some (.cells #[.int .i64 2, .int .i64 0, .int .i64 0, .int .i64 0, .int .i64 0] 81 (0, 0))) := HX1
              have HQC : Hid (((S[q]'hq2).toNat : Int) = 2) := HQC
              have hc9 : IntKind.i64.wrap 2 = 2 := rfl
              have hxc1 : V1.cell? ⟨X, 3, none⟩ = some (.int .i64 0) := blkp HX1.out 3
              have hxf1 := frzp HX1.out 3
              go_wp2_with fail
              rw [HV1.out, HXX.out]
              refine (HG.out V1 ((q : Int) + 1) (by omega) (by omega)).mono ?_
              rintro e w' ⟨n1, z1, rfl, ga1, rfl⟩
              obtain ⟨V2, hV2⟩ : ∃ V, V1.setCell ⟨X, 3, none⟩ (.int .i64 n1) = V := ⟨_, rfl⟩
              have HX2 : Hid (V2.heap[X]? = some (.cells #[.int .i64 2, .int .i64 0, .int .i64 0, .int .i64 n1, .int .i64 0] 81 (0, 0))) := Lib.hid (by rw [← hV2]; have := heap_setCell_same V1 X 3 _ _ (.int .i64 n1) HX1.out; simpa using this)
              have HO2 : Hid (∀ j, j < X → V2.heap[j]? = wr.heap[j]?) := Lib.hid (fun j hj => by rw [← hV2]; exact (Below.heap_setCell _ _ _ _ (by show j ≠ X; omega)).trans (HO1.out j hj))
              have HB2 : Hid (Below W.heap.size W V2) := Lib.hid (by rw [← hV2]; exact HB1.out.trans (below_set _ (by have := HPX.out; have := HP.out; omega)))
              have HS2 : Hid (V2.heap.size = X + 1) := Lib.hid (by rw [← hV2, set_size]; exact HS1.out)
              have hxc2 : V2.cell? ⟨X, 4, none⟩ = some (.int .i64 0) := blkp HX2.out 4
              have hxf2 := frzp HX2.out 4
              go_wp2_with fail
              refine (HG.out V2 z1 (by have := ga1.1; omega) (by have := ga1.2.1; have := HSL.out; omega)).mono ?_
              rintro e w' ⟨n2, z2, rfl, ga2, rfl⟩
              obtain ⟨V3, hV3⟩ : ∃ V, V2.setCell ⟨X, 4, none⟩ (.int .i64 n2) = V := ⟨_, rfl⟩
              have HX3 : Hid (V3.heap[X]? = some (.cells #[.int .i64 2, .int .i64 0, .int .i64 0, .int .i64 n1, .int .i64 n2] 81 (0, 0))) := Lib.hid (by rw [← hV3]; have := heap_setCell_same V2 X 4 _ _ (.int .i64 n2) HX2.out; simpa using this)
              have HO3 : Hid (∀ j, j < X → V3.heap[j]? = wr.heap[j]?) := Lib.hid (fun j hj => by rw [← hV3]; exact (Below.heap_setCell _ _ _ _ (by show j ≠ X; omega)).trans (HO2.out j hj))
              have HB3 : Hid (Below W.heap.size W V3) := Lib.hid (by rw [← hV3]; exact HB2.out.trans (below_set _ (by have := HPX.out; have := HP.out; omega)))
              have HS3 : Hid (V3.heap.size = X + 1) := Lib.hid (by rw [← hV3, set_size]; exact HS2.out)
              have HEXn : Hid (ExI S a1 a2 many (k + 1) z2 (g ++ [(⟨2, 0, 0, n1, n2⟩ : In)])) := Lib.hid (ex_step HEXk.out c1 (inx_2 (hp := hq2) HQC.out ga1 ga2))
              have HBDn : Hid (∀ i ∈ g ++ [(⟨2, 0, 0, n1, n2⟩ : In)], i.bd) := Lib.hid (fun i hi => by
                rcases List.mem_append.1 hi with hi | hi
                · exact HGB.out i hi
                · rw [List.mem_singleton] at hi; subst hi; exact bd_in ⟨by omega, by omega⟩ ⟨by omega, by omega⟩ ⟨by omega, by omega⟩ ga1.nat ga2.nat)
              have HATn : Hid (-1 ≤ z2 ∧ z2 ≤ (s.size : Int)) := Lib.hid ⟨ga2.1, by have := ga2.2.1; have := HSL.out; omega⟩
              obtain ⟨i, hi⟩ : ∃ i : In, i = (⟨2, 0, 0, n1, n2⟩ : In) := ⟨_, rfl⟩
              have hs9 := HS3.out
              have hPX := HPX.out
              have hPw := HP.out
              have hXe := HXX.out
              have ho9 : InOwn V3 (P + 1) v g := InOwn.of HO.out (fun b hb => HO3.out b (by have := (InOwn.lt HO.out b hb).2; omega))
              have hy9 := (HO3.out P hPX).trans HY.out
              have hz9 := (HO3.out W.heap.size (by omega)).trans HX.out
              have hx9 := HX3.out
              obtain ⟨V10, hV10⟩ : ∃ V10, V3.alloc (.cells #[.int .i64 2, .int .i64 0, .int .i64 0, .int .i64 n1, .int .i64 n2] 81) = V10 := ⟨_, rfl⟩
              obtain ⟨a', L', c', W11, hrun, ho11, hb11⟩ := dec_run (n0 := 0) (a1 := a1) (a2 := a2) (W := W) (x := (⟨2, 0, 0, n1, n2⟩ : In)) ho9 (by omega) (by have := HGL.out; omega) X hx9 V10 hV10
              have d0 : V3.cell? ⟨P, 0, none⟩ = some v := blkp hy9 0
              have x0 : V3.cell? ⟨X, 0, none⟩ = some (.int .i64 2) := blkp hx9 0
              have x1 : V3.cell? ⟨X, 1, none⟩ = some (.int .i64 0) := blkp hx9 1
              have x2 : V3.cell? ⟨X, 2, none⟩ = some (.int .i64 0) := blkp hx9 2
              have x3 : V3.cell? ⟨X, 3, none⟩ = some (.int .i64 n1) := blkp hx9 3
              have x4 : V3.cell? ⟨X, 4, none⟩ = some (.int .i64 n2) := blkp hx9 4
              have hy11 : W11.heap[P]? = some (.cells #[v, .int .i64 a1, .int .i64 a2] 46 (0, 0)) := (hb11.block _ (by omega)).trans hy9
              have yy0 : W11.cell? ⟨P, 0, none⟩ = some v := blkp hy11 0
              have yf := frzp hy11 0
              obtain ⟨W12, hW12⟩ : ∃ W12, W11.setCell ⟨P, 0, none⟩ (.slice a' L' c') = W12 := ⟨_, rfl⟩
              have hother : ∀ j, j ≠ P → W12.heap[j]? = W11.heap[j]? := fun j hj => by rw [← hW12]; exact Below.heap_setCell _ _ _ _ hj
              have HO12 : Hid (InOwn W12 (P + 1) (.slice a' L' c') (g ++ [(⟨2, 0, 0, n1, n2⟩ : In)])) := Lib.hid (InOwn.of ho11 (fun b hb => hother b (by have := (InOwn.lt ho11 b hb).1; omega)))
              have HX12 : Hid (W12.heap[W.heap.size]? = some (.cells #[.slice none 0 0, .int .i64 0, .int .i64 0] 46 (0, 0))) := Lib.hid ((hother _ (by omega)).trans ((hb11.block _ (by omega)).trans hz9))
              have HY12 : Hid (W12.heap[P]? = some (.cells #[.slice a' L' c', .int .i64 a1, .int .i64 a2] 46 (0, 0))) := Lib.hid (by rw [← hW12]; have := heap_setCell_same W11 P 0 _ _ (.slice a' L' c') hy11; simpa using this)
              have HB12 : Hid (Below W.heap.size W W12) := Lib.hid (by rw [← hW12]; exact (HB3.out.trans (hb11.mono (by omega))).trans (below_set _ (by omega)))
              have HGLn : Hid ((g ++ [(⟨2, 0, 0, n1, n2⟩ : In)]).length = k + 1) := Lib.hid (by rw [List.length_append, HGL.out]; rfl)
              have HRUN := Lib.hid hrun
              have HV10 := Lib.hid hV10
              have hPs : P < V3.heap.size := by omega
              have hXs : X < V3.heap.size := by omega
              clear hi hs9 hPX hPw hXe ho9 hy9 hz9 hx9 hV10 hrun ho11 hb11 hy11 hother
              go_wp2_with (at_builtin; (rw [HV10.out]; refine wpList_append_run rfl _ _ 44 rfl _ _ _ W11 rfl rfl HRUN.out ?_))
              go_wp2
              go_roundw
              case rel => first | exact ⟨k + 1, _, _, _, rfl, by go_num, HATn.out.1, HATn.out.2, by omega, HGLn, HBDn, HEXn, HO12, HX12, HY12, HB12⟩ | ((repeat apply Exists.intro); exact ⟨⟨k + 1, _, _, _, rfl, by go_num, HATn.out.1, HATn.out.2, by omega, HGLn, HBDn, HEXn, HO12, HX12, HY12, HB12⟩, rfl⟩)
              case measure => simp [intOf]; omega
            · have HV1 : Hid (wr.alloc (.cells #[.int .i64 3, .int .i64 0, .int .i64 0, .int .i64 0, .int .i64 0] 81) = V1) := HV1
              have HX1 : Hid (V1.heap[X]? = some (.cells #[.int .i64 3, .int .i64 0, .int .i64 0, .int .i64 0, .int .i64 0] 81 (0, 0))) := HX1
              have HQC : Hid (((S[q]'hq2).toNat : Int) = 3) := HQC
              have hc9 : IntKind.i64.wrap 3 = 3 := rfl
              have hxc1 : V1.cell? ⟨X, 1, none⟩ = some (.int .i64 0) := blkp HX1.out 1
              have hxf1 := frzp HX1.out 1
              go_wp2_with fail
              rw [HV1.out, HXX.out]
              refine (HG.out V1 ((q : Int) + 1) (by omega) (by omega)).mono ?_
              rintro e w' ⟨n1, z1, rfl, ga1, rfl⟩
              obtain ⟨V2, hV2⟩ : ∃ V, V1.setCell ⟨X, 1, none⟩ (.int .i64 n1) = V := ⟨_, rfl⟩
              have HX2 : Hid (V2.heap[X]? = some (.cells #[.int .i64 3, .int .i64 n1, .int .i64 0, .int .i64 0, .int .i64 0] 81 (0, 0))) := Lib.hid (by rw [← hV2]; have := heap_setCell_same V1 X 1 _ _ (.int .i64 n1) HX1.out; simpa using this)
              have HO2 : Hid (∀ j, j < X → V2.heap[j]? = wr.heap[j]?) := Lib.hid (fun j hj => by rw [← hV2]; exact (Below.heap_setCell _ _ _ _ (by show j ≠ X; omega)).trans (HO1.out j hj))
              have HB2 : Hid (Below W.heap.size W V2) := Lib.hid (by rw [← hV2]; exact HB1.out.trans (below_set _ (by have := HPX.out; have := HP.out; omega)))
              have HS2 : Hid (V2.heap.size = X + 1) := Lib.hid (by rw [← hV2, set_size]; exact HS1.out)
              have hxc2 : V2.cell? ⟨X, 3, none⟩ = some (.int .i64 0) := blkp HX2.out 3
              have hxf2 := frzp HX2.out 3
              go_wp2_with fail
              refine (HG.out V2 z1 (by have := ga1.1; omega) (by have := ga1.2.1; have := HSL.out; omega)).mono ?_
              rintro e w' ⟨n2, z2, rfl, ga2, rfl⟩
              obtain ⟨V3, hV3⟩ : ∃ V, V2.setCell ⟨X, 3, none⟩ (.int .i64 n2) = V := ⟨_, rfl⟩
              have HX3 : Hid (V3.heap[X]? = some (.cells #[.int .i64 3, .int .i64 n1, .int .i64 0, .int .i64 n2, .int .i64 0] 81 (0, 0))) := Lib.hid (by rw [← hV3]; have := heap_setCell_same V2 X 3 _ _ (.int .i64 n2) HX2.out; simpa using this)
              have HO3 : Hid (∀ j, j < X → V3.heap[j]? = wr.heap[j]?) := Lib.hid (fun j hj => by rw [← hV3]; exact (Below.heap_setCell _ _ _ _ (by show j ≠ X; omega)).trans (HO2.out j hj))
              have HB3 : Hid (Below W.heap.size W V3) := Lib.hid (by rw [← hV3]; exact HB2.out.trans (below_set _ (by have := HPX.out; have := HP.out; omega)))
              have HS3 : Hid (V3.heap.size = X + 1) := Lib.hid (by rw [← hV3, set_size]; exact HS2.out)
              have HEXn : Hid (ExI S a1 a2 many (k + 1) z2 (g ++ [(⟨3, n1, 0, n2, 0⟩ : In)])) := Lib.hid (ex_step HEXk.out c1 (inx_34 (hp := hq2) (by omega) HQC.out ga1 ga2))
              have HBDn : Hid (∀ i ∈ g ++ [(⟨3, n1, 0, n2, 0⟩ : In)], i.bd) := Lib.hid (fun i hi => by
                rcases List.mem_append.1 hi with hi | hi
                · exact HGB.out i hi
                · rw [List.mem_singleton] at hi; subst hi; exact bd_in ⟨by omega, by omega⟩ ga1.nat ⟨by omega, by omega⟩ ga2.nat ⟨by omega, by omega⟩)
              have HATn : Hid (-1 ≤ z2 ∧ z2 ≤ (s.size : Int)) := Lib.hid ⟨ga2.1, by have := ga2.2.1; have := HSL.out; omega⟩
              obtain ⟨i, hi⟩ : ∃ i : In, i = (⟨3, n1, 0, n2, 0⟩ : In) := ⟨_, rfl⟩
              have hs9 := HS3.out
              have hPX := HPX.out
              have hPw := HP.out
              have hXe := HXX.out
              have ho9 : InOwn V3 (P + 1) v g := InOwn.of HO.out (fun b hb => HO3.out b (by have := (InOwn.lt HO.out b hb).2; omega))
              have hy9 := (HO3.out P hPX).trans HY.out
              have hz9 := (HO3.out W.heap.size (by omega)).trans HX.out
              have hx9 := HX3.out
              obtain ⟨V10, hV10⟩ : ∃ V10, V3.alloc (.cells #[.int .i64 3, .int .i64 n1, .int .i64 0, .int .i64 n2, .int .i64 0] 81) = V10 := ⟨_, rfl⟩
              obtain ⟨a', L', c', W11, hrun, ho11, hb11⟩ := dec_run (n0 := 0) (a1 := a1) (a2 := a2) (W := W) (x := (⟨3, n1, 0, n2, 0⟩ : In)) ho9 (by omega) (by have := HGL.out; omega) X hx9 V10 hV10
              have d0 : V3.cell? ⟨P, 0, none⟩ = some v := blkp hy9 0
              have x0 : V3.cell? ⟨X, 0, none⟩ = some (.int .i64 3) := blkp hx9 0
              have x1 : V3.cell? ⟨X, 1, none⟩ = some (.int .i64 n1) := blkp hx9 1
              have x2 : V3.cell? ⟨X, 2, none⟩ = some (.int .i64 0) := blkp hx9 2
              have x3 : V3.cell? ⟨X, 3, none⟩ = some (.int .i64 n2) := blkp hx9 3
              have x4 : V3.cell? ⟨X, 4, none⟩ = some (.int .i64 0) := blkp hx9 4
              have hy11 : W11.heap[P]? = some (.cells #[v, .int .i64 a1, .int .i64 a2] 46 (0, 0)) := (hb11.block _ (by omega)).trans hy9
              have yy0 : W11.cell? ⟨P, 0, none⟩ = some v := blkp hy11 0
              have yf := frzp hy11 0
              obtain ⟨W12, hW12⟩ : ∃ W12, W11.setCell ⟨P, 0, none⟩ (.slice a' L' c') = W12 := ⟨_, rfl⟩
              have hother : ∀ j, j ≠ P → W12.heap[j]? = W11.heap[j]? := fun j hj => by rw [← hW12]; exact Below.heap_setCell _ _ _ _ hj
              have HO12 : Hid (InOwn W12 (P + 1) (.slice a' L' c') (g ++ [(⟨3, n1, 0, n2, 0⟩ : In)])) := Lib.hid (InOwn.of ho11 (fun b hb => hother b (by have := (InOwn.lt ho11 b hb).1; omega)))
              have HX12 : Hid (W12.heap[W.heap.size]? = some (.cells #[.slice none 0 0, .int .i64 0, .int .i64 0] 46 (0, 0))) := Lib.hid ((hother _ (by omega)).trans ((hb11.block _ (by omega)).trans hz9))
              have HY12 : Hid (W12.heap[P]? = some (.cells #[.slice a' L' c', .int .i64 a1, .int .i64 a2] 46 (0, 0))) := Lib.hid (by rw [← hW12]; have := heap_setCell_same W11 P 0 _ _ (.slice a' L' c') hy11; simpa using this)
              have HB12 : Hid (Below W.heap.size W W12) := Lib.hid (by rw [← hW12]; exact (HB3.out.trans (hb11.mono (by omega))).trans (below_set _ (by omega)))
              have HGLn : Hid ((g ++ [(⟨3, n1, 0, n2, 0⟩ : In)]).length = k + 1) := Lib.hid (by rw [List.length_append, HGL.out]; rfl)
              have HRUN := Lib.hid hrun
              have HV10 := Lib.hid hV10
              have hPs : P < V3.heap.size := by omega
              have hXs : X < V3.heap.size := by omega
              clear hi hs9 hPX hPw hXe ho9 hy9 hz9 hx9 hV10 hrun ho11 hb11 hy11 hother
              go_wp2_with (at_builtin; (rw [HV10.out]; refine wpList_append_run rfl _ _ 44 rfl _ _ _ W11 rfl rfl HRUN.out ?_))
              go_wp2
              go_roundw
              case rel => first | exact ⟨k + 1, _, _, _, rfl, by go_num, HATn.out.1, HATn.out.2, by omega, HGLn, HBDn, HEXn, HO12, HX12, HY12, HB12⟩ | ((repeat apply Exists.intro); exact ⟨⟨k + 1, _, _, _, rfl, by go_num, HATn.out.1, HATn.out.2, by omega, HGLn, HBDn, HEXn, HO12, HX12, HY12, HB12⟩, rfl⟩)
              case measure => simp [intOf]; omega
            · have HV1 : Hid (wr.alloc (.cells #[.int .i64 4, .int .i64 0, .int .i64 0, .int .i64 0, .int .i64 0] 81) = V1) := HV1
              have HX1 : Hid (V1.heap[X]? = some (.cells #[.int .i64 4, .int .i64 0, .int .i64 0, .int .i64 0, .int .i64 0] 81 (0, 0))) := HX1
              have HQC : Hid (((S[q]'hq2).toNat : Int) = 4) := HQC
              have hc9 : IntKind.i64.wrap 4 = 4 := rfl
              have hxc1 : V1.cell? ⟨X, 1, none⟩ = some (.int .i64 0) := blkp HX1.out 1
              have hxf1 := frzp HX1.out 1
              go_wp2_with fail
              rw [HV1.out, HXX.out]
              refine (HG.out V1 ((q : Int) + 1) (by omega) (by omega)).mono ?_
              rintro e w' ⟨n1, z1, rfl, ga1, rfl⟩
              obtain ⟨V2, hV2⟩ : ∃ V, V1.setCell ⟨X, 1, none⟩ (.int .i64 n1) = V := ⟨_, rfl⟩
              have HX2 : Hid (V2.heap[X]? = some (.cells #[.int .i64 4, .int .i64 n1, .int .i64 0, .int .i64 0, .int .i64 0] 81 (0, 0))) := Lib.hid (by rw [← hV2]; have := heap_setCell_same V1 X 1 _ _ (.int .i64 n1) HX1.out; simpa using this)
              have HO2 : Hid (∀ j, j < X → V2.heap[j]? = wr.heap[j]?) := Lib.hid (fun j hj => by rw [← hV2]; exact (Below.heap_setCell _ _ _ _ (by show j ≠ X; omega)).trans (HO1.out j hj))
              have HB2 : Hid (Below W.heap.size W V2) := Lib.hid (by rw [← hV2]; exact HB1.out.trans (below_set _ (by have := HPX.out; have := HP.out; omega)))
              have HS2 : Hid (V2.heap.size = X + 1) := Lib.hid (by rw [← hV2, set_size]; exact HS1.out)
              have hxc2 : V2.cell? ⟨X, 3, none⟩ = some (.int .i64 0) := blkp HX2.out 3
              have hxf2 := frzp HX2.out 3
              go_wp2_with fail
              refine (HG.out V2 z1 (by have := ga1.1; omega) (by have := ga1.2.1; have := HSL.out; omega)).mono ?_
              rintro e w' ⟨n2, z2, rfl, ga2, rfl⟩
              obtain ⟨V3, hV3⟩ : ∃ V, V2.setCell ⟨X, 3, none⟩ (.int .i64 n2) = V := ⟨_, rfl⟩
              have HX3 : Hid (V3.heap[X]? = some (.cells #[.int .i64 4, .int .i64 n1, .int .i64 0, .int .i64 n2, .int .i64 0] 81 (0, 0))) := Lib.hid (by rw [← hV3]; have := heap_setCell_same V2 X 3 _ _ (.int .i64 n2) HX2.out; simpa using this)
              have HO3 : Hid (∀ j, j < X → V3.heap[j]? = wr.heap[j]?) := Lib.hid (fun j hj => by rw [← hV3]; exact (Below.heap_setCell _ _ _ _ (by show j ≠ X; omega)).trans (HO2.out j hj))
              have HB3 : Hid (Below W.heap.size W V3) := Lib.hid (by rw [← hV3]; exact HB2.out.trans (below_set _ (by have := HPX.out; have := HP.out; omega)))
              have HS3 : Hid (V3.heap.size = X + 1) := Lib.hid (by rw [← hV3, set_size]; exact HS2.out)
              have HEXn : Hid (ExI S a1 a2 many (k + 1) z2 (g ++ [(⟨4, n1, 0, n2, 0⟩ : In)])) := Lib.hid (ex_step HEXk.out c1 (inx_34 (hp := hq2) (by omega) HQC.out ga1 ga2))
              have HBDn : Hid (∀ i ∈ g ++ [(⟨4, n1, 0, n2, 0⟩ : In)], i.bd) := Lib.hid (fun i hi => by
                rcases List.mem_append.1 hi with hi | hi
                · exact HGB.out i hi
                · rw [List.mem_singleton] at hi; subst hi; exact bd_in ⟨by omega, by omega⟩ ga1.nat ⟨by omega, by omega⟩ ga2.nat ⟨by omega, by omega⟩)
              have HATn : Hid (-1 ≤ z2 ∧ z2 ≤ (s.size : Int)) := Lib.hid ⟨ga2.1, by have := ga2.2.1; have := HSL.out; omega⟩
              obtain ⟨i, hi⟩ : ∃ i : In, i = (⟨4, n1, 0, n2, 0⟩ : In) := ⟨_, rfl⟩
              have hs9 := HS3.out
              have hPX := HPX.out
              have hPw := HP.out
              have hXe := HXX.out
              have ho9 : InOwn V3 (P + 1) v g := InOwn.of HO.out (fun b hb => HO3.out b (by have := (InOwn.lt HO.out b hb).2; omega))
              have hy9 := (HO3.out P hPX).trans HY.out
              have hz9 := (HO3.out W.heap.size (by omega)).trans HX.out
              have hx9 := HX3.out
              obtain ⟨V10, hV10⟩ : ∃ V10, V3.alloc (.cells #[.int .i64 4, .int .i64 n1, .int .i64 0, .int .i64 n2, .int .i64 0] 81) = V10 := ⟨_, rfl⟩
              obtain ⟨a', L', c', W11, hrun, ho11, hb11⟩ := dec_run (n0 := 0) (a1 := a1) (a2 := a2) (W := W) (x := (⟨4, n1, 0, n2, 0⟩ : In)) ho9 (by omega) (by have := HGL.out; omega) X hx9 V10 hV10
              have d0 : V3.cell? ⟨P, 0, none⟩ = some v := blkp hy9 0
              have x0 : V3.cell? ⟨X, 0, none⟩ = some (.int .i64 4) := blkp hx9 0
              have x1 : V3.cell? ⟨X, 1, none⟩ = some (.int .i64 n1) := blkp hx9 1
              have x2 : V3.cell? ⟨X, 2, none⟩ = some (.int .i64 0) := blkp hx9 2
              have x3 : V3.cell? ⟨X, 3, none⟩ = some (.int .i64 n2) := blkp hx9 3
              have x4 : V3.cell? ⟨X, 4, none⟩ = some (.int .i64 0) := blkp hx9 4
              have hy11 : W11.heap[P]? = some (.cells #[v, .int .i64 a1, .int .i64 a2] 46 (0, 0)) := (hb11.block _ (by omega)).trans hy9
              have yy0 : W11.cell? ⟨P, 0, none⟩ = some v := blkp hy11 0
              have yf := frzp hy11 0
              obtain ⟨W12, hW12⟩ : ∃ W12, W11.setCell ⟨P, 0, none⟩ (.slice a' L' c') = W12 := ⟨_, rfl⟩
              have hother : ∀ j, j ≠ P → W12.heap[j]? = W11.heap[j]? := fun j hj => by rw [← hW12]; exact Below.heap_setCell _ _ _ _ hj
              have HO12 : Hid (InOwn W12 (P + 1) (.slice a' L' c') (g ++ [(⟨4, n1, 0, n2, 0⟩ : In)])) := Lib.hid (InOwn.of ho11 (fun b hb => hother b (by have := (InOwn.lt ho11 b hb).1; omega)))
              have HX12 : Hid (W12.heap[W.heap.size]? = some (.cells #[.slice none 0 0, .int .i64 0, .int .i64 0] 46 (0, 0))) := Lib.hid ((hother _ (by omega)).trans ((hb11.block _ (by omega)).trans hz9))
              have HY12 : Hid (W12.heap[P]? = some (.cells #[.slice a' L' c', .int .i64 a1, .int .i64 a2] 46 (0, 0))) := Lib.hid (by rw [← hW12]; have := heap_setCell_same W11 P 0 _ _ (.slice a' L' c') hy11; simpa using this)
              have HB12 : Hid (Below W.heap.size W W12) := Lib.hid (by rw [← hW12]; exact (HB3.out.trans (hb11.mono (by omega))).trans (below_set _ (by omega)))
              have HGLn : Hid ((g ++ [(⟨4, n1, 0, n2, 0⟩ : In)]).length = k + 1) := Lib.hid (by rw [List.length_append, HGL.out]; rfl)
              have HRUN := Lib.hid hrun
              have HV10 := Lib.hid hV10
              have hPs : P < V3.heap.size := by omega
              have hXs : X < V3.heap.size := by omega
              clear hi hs9 hPX hPw hXe ho9 hy9 hz9 hx9 hV10 hrun ho11 hb11 hy11 hother
              go_wp2_with (at_builtin; (rw [HV10.out]; refine wpList_append_run rfl _ _ 44 rfl _ _ _ W11 rfl rfl HRUN.out ?_))
              go_wp2
              go_roundw
              case rel => first | exact ⟨k + 1, _, _, _, rfl, by go_num, HATn.out.1, HATn.out.2, by omega, HGLn, HBDn, HEXn, HO12, HX12, HY12, HB12⟩ | ((repeat apply Exists.intro); exact ⟨⟨k + 1, _, _, _, rfl, by go_num, HATn.out.1, HATn.out.2, by omega, HGLn, HBDn, HEXn, HO12, HX12, HY12, HB12⟩, rfl⟩)
              case measure => simp [intOf]; omega
            · have e1 : ((c : Int) == 1) = false := by rw [beq_eq_false_iff_ne]; omega
              have e2 : ((c : Int) == 2) = false := by rw [beq_eq_false_iff_ne]; omega
              have e3 : ((c : Int) == 3) = false := by rw [beq_eq_false_iff_ne]; omega
              have e4 : ((c : Int) == 4) = false := by rw [beq_eq_false_iff_ne]; omega
              have e5 : (c == 1) = false := by rw [beq_eq_false_iff_ne]; omega
              have e6 : (c == 2) = false := by rw [beq_eq_false_iff_ne]; omega
              have e7 : (c == 3) = false := by rw [beq_eq_false_iff_ne]; omega
              have e8 : (c == 4) = false := by rw [beq_eq_false_iff_ne]; omega
              have d5 : ¬ (c : Int) = 1 := by omega
              have d6 : ¬ (c : Int) = 2 := by omega
              have d7 : ¬ (c : Int) = 3 := by omega
              have d8 : ¬ (c : Int) = 4 := by omega
              have HEXn : Hid (ExI S a1 a2 many (k + 1) ((q : Int) + 1) (g ++ [(⟨(c : Int), 0, 0, 0, 0⟩ : In)])) := Lib.hid (ex_step HEXk.out c1 (inx_no (hp := hq2) ⟨by omega, by omega, by omega, by omega⟩ HQC.out))
              have HBDn : Hid (∀ i ∈ g ++ [(⟨(c : Int), 0, 0, 0, 0⟩ : In)], i.bd) := Lib.hid (fun i hi => by
                rcases List.mem_append.1 hi with hi | hi
                · exact HGB.out i hi
                · rw [List.mem_singleton] at hi; subst hi; exact bd_in ⟨by omega, by have := HCB.out; omega⟩ ⟨by omega, by omega⟩ ⟨by omega, by omega⟩ ⟨by omega, by omega⟩ ⟨by omega, by omega⟩)
              have HATn : Hid (-1 ≤ ((q : Int) + 1) ∧ ((q : Int) + 1) ≤ (s.size : Int)) := Lib.hid ⟨by omega, by omega⟩
              obtain ⟨i, hi⟩ : ∃ i : In, i = (⟨(c : Int), 0, 0, 0, 0⟩ : In) := ⟨_, rfl⟩
              have hs9 := HS1.out
              have hPX := HPX.out
              have hPw := HP.out
              have hXe := HXX.out
              have ho9 : InOwn V1 (P + 1) v g := InOwn.of HO.out (fun b hb => HO1.out b (by have := (InOwn.lt HO.out b hb).2; omega))
              have hy9 := (HO1.out P hPX).trans HY.out
              have hz9 := (HO1.out W.heap.size (by omega)).trans HX.out
              have hx9 := HX1.out
              obtain ⟨V10, hV10⟩ : ∃ V10, V1.alloc (.cells #[.int .i64 (c : Int), .int .i64 0, .int .i64 0, .int .i64 0, .int .i64 0] 81) = V10 := ⟨_, rfl⟩
              obtain ⟨a', L', c', W11, hrun, ho11, hb11⟩ := dec_run (n0 := 0) (a1 := a1) (a2 := a2) (W := W) (x := (⟨(c : Int), 0, 0, 0, 0⟩ : In)) ho9 (by omega) (by have := HGL.out; omega) X hx9 V10 hV10
              have d0 : V1.cell? ⟨P, 0, none⟩ = some v := blkp hy9 0
              have x0 : V1.cell? ⟨X, 0, none⟩ = some (.int .i64 (c : Int)) := blkp hx9 0
              have x1 : V1.cell? ⟨X, 1, none⟩ = some (.int .i64 0) := blkp hx9 1
              have x2 : V1.cell? ⟨X, 2, none⟩ = some (.int .i64 0) := blkp hx9 2
              have x3 : V1.cell? ⟨X, 3, none⟩ = some (.int .i64 0) := blkp hx9 3
              have x4 : V1.cell? ⟨X, 4, none⟩ = some (.int .i64 0) := blkp hx9 4
              have hy11 : W11.heap[P]? = some (.cells #[v, .int .i64 a1, .int .i64 a2] 46 (0, 0)) := (hb11.block _ (by omega)).trans hy9
              have yy0 : W11.cell? ⟨P, 0, none⟩ = some v := blkp hy11 0
              have yf := frzp hy11 0
              obtain ⟨W12, hW12⟩ : ∃ W12, W11.setCell ⟨P, 0, none⟩ (.slice a' L' c') = W12 := ⟨_, rfl⟩
              have hother : ∀ j, j ≠ P → W12.heap[j]? = W11.heap[j]? := fun j hj => by rw [← hW12]; exact Below.heap_setCell _ _ _ _ hj
              have HO12 : Hid (InOwn W12 (P + 1) (.slice a' L' c') (g ++ [(⟨(c : Int), 0, 0, 0, 0⟩ : In)])) := Lib.hid (InOwn.of ho11 (fun b hb => hother b (by have := (InOwn.lt ho11 b hb).1; omega)))
              have HX12 : Hid (W12.heap[W.heap.size]? = some (.cells #[.slice none 0 0, .int .i64 0, .int .i64 0] 46 (0, 0))) := Lib.hid ((hother _ (by omega)).trans ((hb11.block _ (by omega)).trans hz9))
              have HY12 : Hid (W12.heap[P]? = some (.cells #[.slice a' L' c', .int .i64 a1, .int .i64 a2] 46 (0, 0))) := Lib.hid (by rw [← hW12]; have := heap_setCell_same W11 P 0 _ _ (.slice a' L' c') hy11; simpa using this)
              have HB12 : Hid (Below W.heap.size W W12) := Lib.hid (by rw [← hW12]; exact (HB1.out.trans (hb11.mono (by omega))).trans (below_set _ (by omega)))
              have HGLn : Hid ((g ++ [(⟨(c : Int), 0, 0, 0, 0⟩ : In)]).length = k + 1) := Lib.hid (by rw [List.length_append, HGL.out]; rfl)
              have hsv : V1.heap.size = wr.heap.size + 1 := by omega
              rw [hsv] at hrun
              clear hsv
              have HRUN := Lib.hid hrun
              have HV10 := Lib.hid hV10
              have hPs : P < V1.heap.size := by omega
              have hXs : X < V1.heap.size := by omega
              clear hi hs9 hPX hPw hXe ho9 hy9 hz9 hx9 hV10 hrun ho11 hb11 hy11 hother
              go_wp2_with (at_builtin; (try rw [HV1.out]); (try rw [HV10.out]); refine wpList_append_run rfl _ _ 44 rfl _ _ _ W11 rfl rfl HRUN.out ?_)
              go_wp2
              go_roundw
              case rel => first | exact ⟨k + 1, _, _, _, rfl, by go_num, HATn.out.1, HATn.out.2, by omega, HGLn, HBDn, HEXn, HO12, HX12, HY12, HB12⟩ | ((repeat apply Exists.intro); exact ⟨⟨k + 1, _, _, _, rfl, by go_num, HATn.out.1, HATn.out.2, by omega, HGLn, HBDn, HEXn, HO12, HX12, HY12, HB12⟩, rfl⟩)
              case measure => simp [intOf]; omega
          · -- the count is reached
            have HFIN := Lib.hid (ex_end HEXk.out (by have := HSL.out; omega))
            have HCK := Lib.hid (refChk14_any g a1 a2 v wr (HO.out.row (by have := HGL.out; omega) HGB.out))
            have p0 : wr.cell? ⟨P, 0, none⟩ = some v := blkp HY.out 0
            have p1 : wr.cell? ⟨P, 1, none⟩ = some (.int .i64 a1) := blkp HY.out 1
            have p2 : wr.cell? ⟨P, 2, none⟩ = some (.int .i64 a2) := blkp HY.out 2
            by_cases hok : Ok g a1 a2
            · rw [chk_ok hok] at HCK
              have HOK := Lib.hid hok
              clear hok
              go_wp2_with fail
              refine HCK.out.mono ?_
              rintro e wz ⟨rfl, hbz⟩
              have hyz := (hbz.block _ (Array.getElem?_eq_some_iff.1 HY.out).1).trans HY.out
              have z0 : wz.cell? ⟨P, 0, none⟩ = some v := blkp hyz 0
              have z1 : wz.cell? ⟨P, 1, none⟩ = some (.int .i64 a1) := blkp hyz 1
              have z2 : wz.cell? ⟨P, 2, none⟩ = some (.int .i64 a2) := blkp hyz 2
              have hoz := HO.out.below hbz (Nat.le_refl _)
              have HWR := Lib.hid (written_any g a1 a2 v wz (hoz.row (by have := HGL.out; omega) HGB.out) HOK.out)
              have HYZ := Lib.hid hyz
              have HXZ := Lib.hid ((hbz.block _ (Array.getElem?_eq_some_iff.1 HX.out).1).trans HX.out)
              have HOZ := Lib.hid hoz
              have HBZ := Lib.hid (HB.out.trans (hbz.mono HB.out.size))
              clear hbz hyz hoz p0 p1 p2
              go_wp2_with fail
              refine HWR.out.mono ?_
              rintro e wy ⟨rfl, hby⟩
              have hyy := (hby.block _ (Array.getElem?_eq_some_iff.1 HYZ.out).1).trans HYZ.out
              have hxy := (hby.block _ (Array.getElem?_eq_some_iff.1 HXZ.out).1).trans HXZ.out
              have hoy := HOZ.out.below hby (Nat.le_refl _)
              have HXY := Lib.hid hxy
              have HBY := Lib.hid (HBZ.out.trans (hby.mono HBZ.out.size))
              have r0 : wy.cell? ⟨W.heap.size, 0, none⟩ = some (.slice none 0 0) := blkp hxy 0
              have r1 : wy.cell? ⟨W.heap.size, 1, none⟩ = some (.int .i64 0) := blkp hxy 1
              have r2 : wy.cell? ⟨W.heap.size, 2, none⟩ = some (.int .i64 0) := blkp hxy 2
              have f0 := frzp hxy 0
              have f1 := frzp hxy 1
              have f2 := frzp hxy 2
              obtain ⟨a9, c9, e9⟩ := hoy.slice
              obtain ⟨L9, hL9⟩ : ∃ L9, g.length = L9 := ⟨_, rfl⟩
              rw [hL9] at e9
              subst e9
              have HOY := Lib.hid hoy
              have s0 : wy.cell? ⟨P, 0, none⟩ = some (.slice a9 L9 c9) := blkp hyy 0
              have s1 : wy.cell? ⟨P, 1, none⟩ = some (.int .i64 a1) := blkp hyy 1
              have s2 : wy.cell? ⟨P, 2, none⟩ = some (.int .i64 a2) := blkp hyy 2
              clear hby hyy hxy hoy hL9 z0 z1 z2
              by_cases heq : encL g a1 a2 = S
              · have HD : Hid (decL S = some (g, a1, a2)) := Lib.hid ((dec_iff _ _ _ _).2 ⟨HOK.out, heq⟩)
                rw [heq, HSS.out]
                clear heq
                go_wp2
                refine ret_box2 rfl W.heap.size #[.slice a9 L9 c9, .int .i64 a1, .int .i64 a2] (load_prog (box3_set _ _ _ HXY.out).2 rfl) rfl rfl ?_
                obtain ⟨g1, g2⟩ := box3_set (.slice a9 L9 c9) (.int .i64 a1) (.int .i64 a2) HXY.out
                refine ⟨.inl ⟨_, g, a1, a2, HD.out, rfl, ?_⟩, HBY.out.grown g1 HBY.out.size (fun j hj => by injection hj; omega)⟩
                have hPw := HP.out
                exact InOwn.mono (InOwn.of HOY.out (fun b hb => by
                  have h1 := (InOwn.lt HOY.out b hb).1
                  have h2 := (InOwn.lt HOY.out b hb).2
                  exact g1.block b h2 (fun e => by injection e; omega))) (by omega)
              · have HD : Hid (decL S = none) := Lib.hid (ref_no HFIN.out (fun h => heq h.2))
                have hbq : ((txB (encL g a1 a2)).toList == s.toList) = false := by
                  rw [beq_eq_false_iff_ne, toList_txB, ← HSS.out, toList_txB]
                  exact heq
                have hbq2 : ¬ (txB (encL g a1 a2)).toList = s.toList := by rw [beq_eq_false_iff_ne] at hbq; exact hbq
                obtain ⟨E, hE⟩ : ∃ E, txB (encL g a1 a2) = E := ⟨_, rfl⟩
                rw [hE] at hbq hbq2 ⊢
                clear heq hE
                go_wp2
                refine ret_box2 rfl W.heap.size #[.slice none 0 0, .int .i64 0, .int .i64 0] (load_prog (box3_set _ _ _ HXY.out).2 rfl) rfl rfl ?_
                obtain ⟨g1, g2⟩ := box3_set (.slice none 0 0) (.int .i64 0) (.int .i64 0) HXY.out
                exact ⟨.inr ⟨HD.out, rfl⟩, HBY.out.grown g1 HBY.out.size (fun j hj => by injection hj; omega)⟩
            · rw [chk_not hok] at HCK
              have HD : Hid (decL S = none) := Lib.hid (ref_no HFIN.out (fun h => hok h.1))
              clear hok
              go_wp2_with fail
              refine HCK.out.mono ?_
              rintro e wz ⟨rfl, hbz⟩
              have hxz := (hbz.block _ (Array.getElem?_eq_some_iff.1 HX.out).1).trans HX.out
              have HXZ := Lib.hid hxz
              have HBZ := Lib.hid (HB.out.trans (hbz.mono HB.out.size))
              have r0 : wz.cell? ⟨W.heap.size, 0, none⟩ = some (.slice none 0 0) := blkp hxz 0
              have r1 : wz.cell? ⟨W.heap.size, 1, none⟩ = some (.int .i64 0) := blkp hxz 1
              have r2 : wz.cell? ⟨W.heap.size, 2, none⟩ = some (.int .i64 0) := blkp hxz 2
              have f0 := frzp hxz 0
              have f1 := frzp hxz 1
              have f2 := frzp hxz 2
              clear hbz hxz p0 p1 p2
              go_wp2
              refine ret_box2 rfl W.heap.size #[.slice none 0 0, .int .i64 0, .int .i64 0] (load_prog (box3_set _ _ _ HXZ.out).2 rfl) rfl rfl ?_
              obtain ⟨g1, g2⟩ := box3_set (.slice none 0 0) (.int .i64 0) (.int .i64 0) HXZ.out
              exact ⟨.inr ⟨HD.out, rfl⟩, HBZ.out.grown g1 HBZ.out.size (fun j hj => by injection hj; omega)⟩
        · -- the text is over
          have HFIN := Lib.hid (ex_end HEXk.out (by have := HSL.out; omega))
          have HCK := Lib.hid (refChk14_any g a1 a2 v wr (HO.out.row (by have := HGL.out; omega) HGB.out))
          have p0 : wr.cell? ⟨P, 0, none⟩ = some v := blkp HY.out 0
          have p1 : wr.cell? ⟨P, 1, none⟩ = some (.int .i64 a1) := blkp HY.out 1
          have p2 : wr.cell? ⟨P, 2, none⟩ = some (.int .i64 a2) := blkp HY.out 2
          by_cases hok : Ok g a1 a2
          · rw [chk_ok hok] at HCK
            have HOK := Lib.hid hok
            clear hok
            go_wp2_with fail
            refine HCK.out.mono ?_
            rintro e wz ⟨rfl, hbz⟩
            have hyz := (hbz.block _ (Array.getElem?_eq_some_iff.1 HY.out).1).trans HY.out
            have z0 : wz.cell? ⟨P, 0, none⟩ = some v := blkp hyz 0
            have z1 : wz.cell? ⟨P, 1, none⟩ = some (.int .i64 a1) := blkp hyz 1
            have z2 : wz.cell? ⟨P, 2, none⟩ = some (.int .i64 a2) := blkp hyz 2
            have hoz := HO.out.below hbz (Nat.le_refl _)
            have HWR := Lib.hid (written_any g a1 a2 v wz (hoz.row (by have := HGL.out; omega) HGB.out) HOK.out)
            have HYZ := Lib.hid hyz
            have HXZ := Lib.hid ((hbz.block _ (Array.getElem?_eq_some_iff.1 HX.out).1).trans HX.out)
            have HOZ := Lib.hid hoz
            have HBZ := Lib.hid (HB.out.trans (hbz.mono HB.out.size))
            clear hbz hyz hoz p0 p1 p2
            go_wp2_with fail
            refine HWR.out.mono ?_
            rintro e wy ⟨rfl, hby⟩
            have hyy := (hby.block _ (Array.getElem?_eq_some_iff.1 HYZ.out).1).trans HYZ.out
            have hxy := (hby.block _ (Array.getElem?_eq_some_iff.1 HXZ.out).1).trans HXZ.out
            have hoy := HOZ.out.below hby (Nat.le_refl _)
            have HXY := Lib.hid hxy
            have HBY := Lib.hid (HBZ.out.trans (hby.mono HBZ.out.size))
            have r0 : wy.cell? ⟨W.heap.size, 0, none⟩ = some (.slice none 0 0) := blkp hxy 0
            have r1 : wy.cell? ⟨W.heap.size, 1, none⟩ = some (.int .i64 0) := blkp hxy 1
            have r2 : wy.cell? ⟨W.heap.size, 2, none⟩ = some (.int .i64 0) := blkp hxy 2
            have f0 := frzp hxy 0
            have f1 := frzp hxy 1
            have f2 := frzp hxy 2
            obtain ⟨a9, c9, e9⟩ := hoy.slice
            obtain ⟨L9, hL9⟩ : ∃ L9, g.length = L9 := ⟨_, rfl⟩
            rw [hL9] at e9
            subst e9
            have HOY := Lib.hid hoy
            have s0 : wy.cell? ⟨P, 0, none⟩ = some (.slice a9 L9 c9) := blkp hyy 0
            have s1 : wy.cell? ⟨P, 1, none⟩ = some (.int .i64 a1) := blkp hyy 1
            have s2 : wy.cell? ⟨P, 2, none⟩ = some (.int .i64 a2) := blkp hyy 2
            clear hby hyy hxy hoy hL9 z0 z1 z2
            by_cases heq : encL g a1 a2 = S
            · have HD : Hid (decL S = some (g, a1, a2)) := Lib.hid ((dec_iff _ _ _ _).2 ⟨HOK.out, heq⟩)
              rw [heq, HSS.out]
              clear heq
              go_wp2
              refine ret_box2 rfl W.heap.size #[.slice a9 L9 c9, .int .i64 a1, .int .i64 a2] (load_prog (box3_set _ _ _ HXY.out).2 rfl) rfl rfl ?_
              obtain ⟨g1, g2⟩ := box3_set (.slice a9 L9 c9) (.int .i64 a1) (.int .i64 a2) HXY.out
              refine ⟨.inl ⟨_, g, a1, a2, HD.out, rfl, ?_⟩, HBY.out.grown g1 HBY.out.size (fun j hj => by injection hj; omega)⟩
              have hPw := HP.out
              exact InOwn.mono (InOwn.of HOY.out (fun b hb => by
                have h1 := (InOwn.lt HOY.out b hb).1
                have h2 := (InOwn.lt HOY.out b hb).2
                exact g1.block b h2 (fun e => by injection e; omega))) (by omega)
            · have HD : Hid (decL S = none) := Lib.hid (ref_no HFIN.out (fun h => heq h.2))
              have hbq : ((txB (encL g a1 a2)).toList == s.toList) = false := by
                rw [beq_eq_false_iff_ne, toList_txB, ← HSS.out, toList_txB]
                exact heq
              have hbq2 : ¬ (txB (encL g a1 a2)).toList = s.toList := by rw [beq_eq_false_iff_ne] at hbq; exact hbq
              obtain ⟨E, hE⟩ : ∃ E, txB (encL g a1 a2) = E := ⟨_, rfl⟩
              rw [hE] at hbq hbq2 ⊢
              clear heq hE
              go_wp2
              refine ret_box2 rfl W.heap.size #[.slice none 0 0, .int .i64 0, .int .i64 0] (load_prog (box3_set _ _ _ HXY.out).2 rfl) rfl rfl ?_
              obtain ⟨g1, g2⟩ := box3_set (.slice none 0 0) (.int .i64 0) (.int .i64 0) HXY.out
              exact ⟨.inr ⟨HD.out, rfl⟩, HBY.out.grown g1 HBY.out.size (fun j hj => by injection hj; omega)⟩
          · rw [chk_not hok] at HCK
            have HD : Hid (decL S = none) := Lib.hid (ref_no HFIN.out (fun h => hok h.1))
            clear hok
            go_wp2_with fail
            refine HCK.out.mono ?_
            rintro e wz ⟨rfl, hbz⟩
            have hxz := (hbz.block _ (Array.getElem?_eq_some_iff.1 HX.out).1).trans HX.out
            have HXZ := Lib.hid hxz
            have HBZ := Lib.hid (HB.out.trans (hbz.mono HB.out.size))
            have r0 : wz.cell? ⟨W.heap.size, 0, none⟩ = some (.slice none 0 0) := blkp hxz 0
            have r1 : wz.cell? ⟨W.heap.size, 1, none⟩ = some (.int .i64 0) := blkp hxz 1
            have r2 : wz.cell? ⟨W.heap.size, 2, none⟩ = some (.int .i64 0) := blkp hxz 2
            have f0 := frzp hxz 0
            have f1 := frzp hxz 1
            have f2 := frzp hxz 2
            clear hbz hxz p0 p1 p2
            go_wp2
            refine ret_box2 rfl W.heap.size #[.slice none 0 0, .int .i64 0, .int .i64 0] (load_prog (box3_set _ _ _ HXZ.out).2 rfl) rfl rfl ?_
            obtain ⟨g1, g2⟩ := box3_set (.slice none 0 0) (.int .i64 0) (.int .i64 0) HXZ.out
            exact ⟨.inr ⟨HD.out, rfl⟩, HBZ.out.grown g1 HBZ.out.size (fun j hj => by injection hj; omega)⟩
      · -- there was no number
        have HFIN := Lib.hid (ex_end HEXk.out (by have := HSL.out; omega))
        have HCK := Lib.hid (refChk14_any g a1 a2 v wr (HO.out.row (by have := HGL.out; omega) HGB.out))
        have p0 : wr.cell? ⟨P, 0, none⟩ = some v := blkp HY.out 0
        have p1 : wr.cell? ⟨P, 1, none⟩ = some (.int .i64 a1) := blkp HY.out 1
        have p2 : wr.cell? ⟨P, 2, none⟩ = some (.int .i64 a2) := blkp HY.out 2
        by_cases hok : Ok g a1 a2
        · rw [chk_ok hok] at HCK
          have HOK := Lib.hid hok
          clear hok
          go_wp2_with fail
          refine HCK.out.mono ?_
          rintro e wz ⟨rfl, hbz⟩
          have hyz := (hbz.block _ (Array.getElem?_eq_some_iff.1 HY.out).1).trans HY.out
          have z0 : wz.cell? ⟨P, 0, none⟩ = some v := blkp hyz 0
          have z1 : wz.cell? ⟨P, 1, none⟩ = some (.int .i64 a1) := blkp hyz 1
          have z2 : wz.cell? ⟨P, 2, none⟩ = some (.int .i64 a2) := blkp hyz 2
          have hoz := HO.out.below hbz (Nat.le_refl _)
          have HWR := Lib.hid (written_any g a1 a2 v wz (hoz.row (by have := HGL.out; omega) HGB.out) HOK.out)
          have HYZ := Lib.hid hyz
          have HXZ := Lib.hid ((hbz.block _ (Array.getElem?_eq_some_iff.1 HX.out).1).trans HX.out)
          have HOZ := Lib.hid hoz
          have HBZ := Lib.hid (HB.out.trans (hbz.mono HB.out.size))
          clear hbz hyz hoz p0 p1 p2
          go_wp2_with fail
          refine HWR.out.mono ?_
          rintro e wy ⟨rfl, hby⟩
          have hyy := (hby.block _ (Array.getElem?_eq_some_iff.1 HYZ.out).1).trans HYZ.out
          have hxy := (hby.block _ (Array.getElem?_eq_some_iff.1 HXZ.out).1).trans HXZ.out
          have hoy := HOZ.out.below hby (Nat.le_refl _)
          have HXY := Lib.hid hxy
          have HBY := Lib.hid (HBZ.out.trans (hby.mono HBZ.out.size))
          have r0 : wy.cell? ⟨W.heap.size, 0, none⟩ = some (.slice none 0 0) := blkp hxy 0
          have r1 : wy.cell? ⟨W.heap.size, 1, none⟩ = some (.int .i64 0) := blkp hxy 1
          have r2 : wy.cell? ⟨W.heap.size, 2, none⟩ = some (.int .i64 0) := blkp hxy 2
          have f0 := frzp hxy 0
          have f1 := frzp hxy 1
          have f2 := frzp hxy 2
          obtain ⟨a9, c9, e9⟩ := hoy.slice
          obtain ⟨L9, hL9⟩ : ∃ L9, g.length = L9 := ⟨_, rfl⟩
          rw [hL9] at e9
          subst e9
          have HOY := Lib.hid hoy
          have s0 : wy.cell? ⟨P, 0, none⟩ = some (.slice a9 L9 c9) := blkp hyy 0
          have s1 : wy.cell? ⟨P, 1, none⟩ = some (.int .i64 a1) := blkp hyy 1
          have s2 : wy.cell? ⟨P, 2, none⟩ = some (.int .i64 a2) := blkp hyy 2
          clear hby hyy hxy hoy hL9 z0 z1 z2
          by_cases heq : encL g a1 a2 = S
          · have HD : Hid (decL S = some (g, a1, a2)) := Lib.hid ((dec_iff _ _ _ _).2 ⟨HOK.out, heq⟩)
            rw [heq, HSS.out]
            clear heq
            go_wp2
            refine ret_box2 rfl W.heap.size #[.slice a9 L9 c9, .int .i64 a1, .int .i64 a2] (load_prog (box3_set _ _ _ HXY.out).2 rfl) rfl rfl ?_
            obtain ⟨g1, g2⟩ := box3_set (.slice a9 L9 c9) (.int .i64 a1) (.int .i64 a2) HXY.out
            refine ⟨.inl ⟨_, g, a1, a2, HD.out, rfl, ?_⟩, HBY.out.grown g1 HBY.out.size (fun j hj => by injection hj; omega)⟩
            have hPw := HP.out
            exact InOwn.mono (InOwn.of HOY.out (fun b hb => by
              have h1 := (InOwn.lt HOY.out b hb).1
              have h2 := (InOwn.lt HOY.out b hb).2
              exact g1.block b h2 (fun e => by injection e; omega))) (by omega)
          · have HD : Hid (decL S = none) := Lib.hid (ref_no HFIN.out (fun h => heq h.2))
            have hbq : ((txB (encL g a1 a2)).toList == s.toList) = false := by
              rw [beq_eq_false_iff_ne, toList_txB, ← HSS.out, toList_txB]
              exact heq
            have hbq2 : ¬ (txB (encL g a1 a2)).toList = s.toList := by rw [beq_eq_false_iff_ne] at hbq; exact hbq
            obtain ⟨E, hE⟩ : ∃ E, txB (encL g a1 a2) = E := ⟨_, rfl⟩
            rw [hE] at hbq hbq2 ⊢
            clear heq hE
            go_wp2
            refine ret_box2 rfl W.heap.size #[.slice none 0 0, .int .i64 0, .int .i64 0] (load_prog (box3_set _ _ _ HXY.out).2 rfl) rfl rfl ?_
            obtain ⟨g1, g2⟩ := box3_set (.slice none 0 0) (.int .i64 0) (.int .i64 0) HXY.out
            exact ⟨.inr ⟨HD.out, rfl⟩, HBY.out.grown g1 HBY.out.size (fun j hj => by injection hj; omega)⟩
        · rw [chk_not hok] at HCK
          have HD : Hid (decL S = none) := Lib.hid (ref_no HFIN.out (fun h => hok h.1))
          clear hok
          go_wp2_with fail
          refine HCK.out.mono ?_
          rintro e wz ⟨rfl, hbz⟩
          have hxz := (hbz.block _ (Array.getElem?_eq_some_iff.1 HX.out).1).trans HX.out
          have HXZ := Lib.hid hxz
          have HBZ := Lib.hid (HB.out.trans (hbz.mono HB.out.size))
          have r0 : wz.cell? ⟨W.heap.size, 0, none⟩ = some (.slice none 0 0) := blkp hxz 0
          have r1 : wz.cell? ⟨W.heap.size, 1, none⟩ = some (.int .i64 0) := blkp hxz 1
          have r2 : wz.cell? ⟨W.heap.size, 2, none⟩ = some (.int .i64 0) := blkp hxz 2
          have f0 := frzp hxz 0
          have f1 := frzp hxz 1
          have f2 := frzp hxz 2
          clear hbz hxz p0 p1 p2
          go_wp2
          refine ret_box2 rfl W.heap.size #[.slice none 0 0, .int .i64 0, .int .i64 0] (load_prog (box3_set _ _ _ HXZ.out).2 rfl) rfl rfl ?_
          obtain ⟨g1, g2⟩ := box3_set (.slice none 0 0) (.int .i64 0) (.int .i64 0) HXZ.out
          exact ⟨.inr ⟨HD.out, rfl⟩, HBZ.out.grown g1 HBZ.out.size (fun j hj => by injection hj; omega)⟩
    · -- all that there are
      have HFIN := Lib.hid (ex_end HEXk.out (by have := HSL.out; omega))
      have HCK := Lib.hid (refChk14_any g a1 a2 v wr (HO.out.row (by have := HGL.out; omega) HGB.out))
      have p0 : wr.cell? ⟨P, 0, none⟩ = some v := blkp HY.out 0
      have p1 : wr.cell? ⟨P, 1, none⟩ = some (.int .i64 a1) := blkp HY.out 1
      have p2 : wr.cell? ⟨P, 2, none⟩ = some (.int .i64 a2) := blkp HY.out 2
      by_cases hok : Ok g a1 a2
      · rw [chk_ok hok] at HCK
        have HOK := Lib.hid hok
        clear hok
        go_wp2_with fail
        refine HCK.out.mono ?_
        rintro e wz ⟨rfl, hbz⟩
        have hyz := (hbz.block _ (Array.getElem?_eq_some_iff.1 HY.out).1).trans HY.out
        have z0 : wz.cell? ⟨P, 0, none⟩ = some v := blkp hyz 0
        have z1 : wz.cell? ⟨P, 1, none⟩ = some (.int .i64 a1) := blkp hyz 1
        have z2 : wz.cell? ⟨P, 2, none⟩ = some (.int .i64 a2) := blkp hyz 2
        have hoz := HO.out.below hbz (Nat.le_refl _)
        have HWR := Lib.hid (written_any g a1 a2 v wz (hoz.row (by have := HGL.out; omega) HGB.out) HOK.out)
        have HYZ := Lib.hid hyz
        have HXZ := Lib.hid ((hbz.block _ (Array.getElem?_eq_some_iff.1 HX.out).1).trans HX.out)
        have HOZ := Lib.hid hoz
        have HBZ := Lib.hid (HB.out.trans (hbz.mono HB.out.size))
        clear hbz hyz hoz p0 p1 p2
        go_wp2_with fail
        refine HWR.out.mono ?_
        rintro e wy ⟨rfl, hby⟩
        have hyy := (hby.block _ (Array.getElem?_eq_some_iff.1 HYZ.out).1).trans HYZ.out
        have hxy := (hby.block _ (Array.getElem?_eq_some_iff.1 HXZ.out).1).trans HXZ.out
        have hoy := HOZ.out.below hby (Nat.le_refl _)
        have HXY := Lib.hid hxy
        have HBY := Lib.hid (HBZ.out.trans (hby.mono HBZ.out.size))
        have r0 : wy.cell? ⟨W.heap.size, 0, none⟩ = some (.slice none 0 0) := blkp hxy 0
        have r1 : wy.cell? ⟨W.heap.size, 1, none⟩ = some (.int .i64 0) := blkp hxy 1
        have r2 : wy.cell? ⟨W.heap.size, 2, none⟩ = some (.int .i64 0) := blkp hxy 2
        have f0 := frzp hxy 0
        have f1 := frzp hxy 1
        have f2 := frzp hxy 2
        obtain ⟨a9, c9, e9⟩ := hoy.slice
        obtain ⟨L9, hL9⟩ : ∃ L9, g.length = L9 := ⟨_, rfl⟩
        rw [hL9] at e9
        subst e9
        have HOY := Lib.hid hoy
        have s0 : wy.cell? ⟨P, 0, none⟩ = some (.slice a9 L9 c9) := blkp hyy 0
        have s1 : wy.cell? ⟨P, 1, none⟩ = some (.int .i64 a1) := blkp hyy 1
        have s2 : wy.cell? ⟨P, 2, none⟩ = some (.int .i64 a2) := blkp hyy 2
        clear hby hyy hxy hoy hL9 z0 z1 z2
        by_cases heq : encL g a1 a2 = S
        · have HD : Hid (decL S = some (g, a1, a2)) := Lib.hid ((dec_iff _ _ _ _).2 ⟨HOK.out, heq⟩)
          rw [heq, HSS.out]
          clear heq
          go_wp2
          refine ret_box2 rfl W.heap.size #[.slice a9 L9 c9, .int .i64 a1, .int .i64 a2] (load_prog (box3_set _ _ _ HXY.out).2 rfl) rfl rfl ?_
          obtain ⟨g1, g2⟩ := box3_set (.slice a9 L9 c9) (.int .i64 a1) (.int .i64 a2) HXY.out
          refine ⟨.inl ⟨_, g, a1, a2, HD.out, rfl, ?_⟩, HBY.out.grown g1 HBY.out.size (fun j hj => by injection hj; omega)⟩
          have hPw := HP.out
          exact InOwn.mono (InOwn.of HOY.out (fun b hb => by
            have h1 := (InOwn.lt HOY.out b hb).1
            have h2 := (InOwn.lt HOY.out b hb).2
            exact g1.block b h2 (fun e => by injection e; omega))) (by omega)
        · have HD : Hid (decL S = none) := Lib.hid (ref_no HFIN.out (fun h => heq h.2))
          have hbq : ((txB (encL g a1 a2)).toList == s.toList) = false := by
            rw [beq_eq_false_iff_ne, toList_txB, ← HSS.out, toList_txB]
            exact heq
          have hbq2 : ¬ (txB (encL g a1 a2)).toList = s.toList := by rw [beq_eq_false_iff_ne] at hbq; exact hbq
          obtain ⟨E, hE⟩ : ∃ E, txB (encL g a1 a2) = E := ⟨_, rfl⟩
          rw [hE] at hbq hbq2 ⊢
          clear heq hE
          go_wp2
          refine ret_box2 rfl W.heap.size #[.slice none 0 0, .int .i64 0, .int .i64 0] (load_prog (box3_set _ _ _ HXY.out).2 rfl) rfl rfl ?_
          obtain ⟨g1, g2⟩ := box3_set (.slice none 0 0) (.int .i64 0) (.int .i64 0) HXY.out
          exact ⟨.inr ⟨HD.out, rfl⟩, HBY.out.grown g1 HBY.out.size (fun j hj => by injection hj; omega)⟩
      · rw [chk_not hok] at HCK
        have HD : Hid (decL S = none) := Lib.hid (ref_no HFIN.out (fun h => hok h.1))
        clear hok
        go_wp2_with fail
        refine HCK.out.mono ?_
        rintro e wz ⟨rfl, hbz⟩
        have hxz := (hbz.block _ (Array.getElem?_eq_some_iff.1 HX.out).1).trans HX.out
        have HXZ := Lib.hid hxz
        have HBZ := Lib.hid (HB.out.trans (hbz.mono HB.out.size))
        have r0 : wz.cell? ⟨W.heap.size, 0, none⟩ = some (.slice none 0 0) := blkp hxz 0
        have r1 : wz.cell? ⟨W.heap.size, 1, none⟩ = some (.int .i64 0) := blkp hxz 1
        have r2 : wz.cell? ⟨W.heap.size, 2, none⟩ = some (.int .i64 0) := blkp hxz 2
        have f0 := frzp hxz 0
        have f1 := frzp hxz 1
        have f2 := frzp hxz 2
        clear hbz hxz p0 p1 p2
        go_wp2
        refine ret_box2 rfl W.heap.size #[.slice none 0 0, .int .i64 0, .int .i64 0] (load_prog (box3_set _ _ _ HXZ.out).2 rfl) rfl rfl ?_
        obtain ⟨g1, g2⟩ := box3_set (.slice none 0 0) (.int .i64 0) (.int .i64 0) HXZ.out
        exact ⟨.inr ⟨HD.out, rfl⟩, HBZ.out.grown g1 HBZ.out.size (fun j hj => by injection hj; omega)⟩
end Pgm
end Go.Proofs.YtfnimmbmcjgdpaaDoor
namespace Go.Proofs.YtfnimmbmcjgdpaaDoor
open Go.RowKit
set_option linter.unusedVariables false
namespace Pgm
set_option maxRecDepth 100000 in
set_option maxHeartbeats 1000000 in
theorem spoili_nil (W : World) :
    Calls Tryd.prog 24 #[.slice none 0 0] W fun e w' => e = .returned (.tuple #[]) ∧ Below W.heap.size W w' := by
  go_enter Tryd.func24, Tryd.ntmps24
  go_wp2
  refine wp_loop_rounds 1 ?_
  rw [rounds_succ]
  go_wp2
  exact ⟨rfl, .tuple #[], by simp [results, Tryd.func24, go_sem], And.intro rfl (Below.refl _ _)⟩
theorem cell_in_rowi {w : World} {g i : Nat} {cs : Array Value} {t : TypeId} (hg : w.heap[g]? = some (.cells cs t (0, 0))) (hi : i < cs.size) : ∃ v, w.cell? ⟨g, i, none⟩ = some v := by
  simp [World.cell?, hg, hi]
set_option maxRecDepth 100000 in
set_option maxHeartbeats 1000000 in
theorem spoili_walk (W : World) (g n cap B : Nat) (cs : Array Value) (hB : B ≤ g) (hg : W.heap[g]? = some (.cells cs 81 (0, 0))) (hcs : cs.size = cap * 5) (hnc : n ≤ cap) (hcap : cap ≤ 9223372036854775807) :
    Calls Tryd.prog 24 #[.slice (some ⟨g, 0, none⟩) n cap] W fun e w' => e = .returned (.tuple #[]) ∧ Below B W w' := by
  have HG := Lib.hid hg
  have HCS := Lib.hid hcs
  clear hg hcs
  go_enter Tryd.func24, Tryd.ntmps24
  go_wp2
  go_loopw [2, 9] (fun V R wr => ∃ (k : Nat) (cs' : Array Value), k ≤ cap ∧ R = .int .i64 k ∧ Hid (wr.heap[g]? = some (.cells cs' 81 (0, 0))) ∧ Hid (cs'.size = cap * 5) ∧ Hid (Below B W wr)) (fun V R _ => cap - (intOf R).toNat)
  case atStart => exact ⟨0, cs, Nat.zero_le _, rfl, HG, HCS, Lib.hid (Below.refl _ _)⟩
  case round =>
    obtain ⟨k, cs', hk, rfl, HG', HCS', HB⟩ := hrel
    clear HG HCS
    by_cases hlt : k < cap
    · obtain ⟨v0, hv0⟩ := cell_in_rowi (i := k * 5) HG'.out (by rw [HCS'.out]; omega)
      obtain ⟨v1, hv1⟩ := cell_in_rowi (i := k * 5 + 1) HG'.out (by rw [HCS'.out]; omega)
      obtain ⟨v2, hv2⟩ := cell_in_rowi (i := k * 5 + 2) HG'.out (by rw [HCS'.out]; omega)
      obtain ⟨v3, hv3⟩ := cell_in_rowi (i := k * 5 + 3) HG'.out (by rw [HCS'.out]; omega)
      obtain ⟨v4, hv4⟩ := cell_in_rowi (i := k * 5 + 4) HG'.out (by rw [HCS'.out]; omega)
      have hf0 := frozen_of_row _ g (k * 5) _ _ HG'.out
      have hf1 := frozen_of_row _ g (k * 5 + 1) _ _ HG'.out
      have hf2 := frozen_of_row _ g (k * 5 + 2) _ _ HG'.out
      have hf3 := frozen_of_row _ g (k * 5 + 3) _ _ HG'.out
      have hf4 := frozen_of_row _ g (k * 5 + 4) _ _ HG'.out
      go_wp2
      go_roundw
      case rel => first | exact ⟨k + 1, _, by omega, by go_num, Lib.hid (heap_setCell_same _ g _ _ _ _ (heap_setCell_same _ g _ _ _ _ (heap_setCell_same _ g _ _ _ _ (heap_setCell_same _ g _ _ _ _ (heap_setCell_same _ g _ _ _ _ HG'.out))))), Lib.hid (by simp [HCS'.out]), Lib.hid (((((HB.out.setCell (p := ⟨g, k * 5, none⟩) hB _).setCell (p := ⟨g, k * 5 + 1, none⟩) hB _).setCell (p := ⟨g, k * 5 + 2, none⟩) hB _).setCell (p := ⟨g, k * 5 + 3, none⟩) hB _).setCell (p := ⟨g, k * 5 + 4, none⟩) hB _)⟩ | ((repeat apply Exists.intro); exact ⟨⟨k + 1, _, by omega, by go_num, Lib.hid (heap_setCell_same _ g _ _ _ _ (heap_setCell_same _ g _ _ _ _ (heap_setCell_same _ g _ _ _ _ (heap_setCell_same _ g _ _ _ _ (heap_setCell_same _ g _ _ _ _ HG'.out))))), Lib.hid (by simp [HCS'.out]), Lib.hid (((((HB.out.setCell (p := ⟨g, k * 5, none⟩) hB _).setCell (p := ⟨g, k * 5 + 1, none⟩) hB _).setCell (p := ⟨g, k * 5 + 2, none⟩) hB _).setCell (p := ⟨g, k * 5 + 3, none⟩) hB _).setCell (p := ⟨g, k * 5 + 4, none⟩) hB _)⟩, rfl⟩)
      case measure => simp [intOf]; omega
    · obtain rfl : k = cap := by omega
      go_wp2
      exact ⟨rfl, .tuple #[], by simp [results, Tryd.func24, go_sem], And.intro rfl (HB.out)⟩
/-- What a call owns is spoilt. -/
theorem spoili_own (W : World) (base : Nat) (v : Value) (l : List In) (h : InOwn W base v l) (hb : base ≤ W.heap.size) :
    Calls Tryd.prog 24 #[v] W fun e w' => e = .returned (.tuple #[]) ∧ Below base W w' := by
  rcases h.2 with ⟨rfl, _⟩ | ⟨g, cap, cur, rfl, hbg, hg, hnc, hcm, hcs, _⟩
  · exact (spoili_nil W).mono fun e w' h => ⟨h.1, h.2.mono hb⟩
  · exact spoili_walk W g _ cap base cur hbg hg hcs hnc (by simpa [maxLen] using hcm)
end Pgm
end Go.Proofs.YtfnimmbmcjgdpaaDoor
namespace Go.Proofs.YtfnimmbmcjgdpaaDoor
open Go.RowKit
set_option linter.unusedVariables false
namespace Pgm
/-- What both Decodes hand back, spelled alike. -/
structure DecAs (S : List UInt8) (l : List In) (a1 a2 c : Int) : Prop where
  yes : ∀ W e w', DecPost S W e w' → ∃ v, e = .returned (.tuple #[.agg #[v, .int .i64 a1, .int .i64 a2], .int .i64 c]) ∧ InOwn w' W.heap.size v l ∧ Below W.heap.size W w'
  bd : ∀ i ∈ l, i.bd
  len : l.length ≤ 4000
theorem dec_as (S : List UInt8) : ∃ l a1 a2 c, DecAs S l a1 a2 c := by
  cases hd : decL S with
  | none =>
    refine ⟨[], 0, 0, 140, ⟨fun W e w' ⟨h, hb⟩ => ?_, fun i hi => (by cases hi), by simp⟩⟩
    rw [hd] at h
    rcases h with ⟨v, l3, st3, sl3, h1, h2, h3⟩ | ⟨_, h2⟩
    · cases h1
    · exact ⟨_, h2, InOwn.nil _ _, hb⟩
  | some p =>
    obtain ⟨l, st, sl⟩ := p
    have hok := ((dec_iff _ _ _ _).1 hd).1
    refine ⟨l, st, sl, 0, ⟨fun W e w' ⟨h, hb⟩ => ?_, fun i hi => ?_, hok.2.1⟩⟩
    · rw [hd] at h
      rcases h with ⟨v, l3, st3, sl3, h1, h2, h3⟩ | ⟨h1, _⟩
      · injection h1 with h1; injection h1 with h1 h4; injection h4 with h4 h5
        subst h1; subst h4; subst h5
        exact ⟨v, h2, h3, hb⟩
      · cases h1
    · have hf := ok_fit hok i hi
      unfold Fit at hf
      exact ⟨⟨by omega, by omega⟩, ⟨by omega, by omega⟩, ⟨by omega, by omega⟩, ⟨by omega, by omega⟩, ⟨by omega, by omega⟩⟩
theorem refDec15 (W : World) (s : ByteArray) (hs : s.size ≤ 700000) : Calls Tryd.prog 29 #[.string s] W (DecPost s.data.toList W) := by
  by_cases h : s.size < 4
  · exact refDec_a W s h
  · by_cases hm : s.data.toList.take 3 = magicL
    · exact refDec_c W s (by omega) hs hm
    · exact refDec_b W s (by omega) hs hm
set_option maxRecDepth 100000 in
set_option maxHeartbeats 16000000 in
theorem walkWireCodes (W : World) (u : Value) (l : List In) (st sl : Int) (s : ByteArray) (hr : InRow W u l) (hst : I64 st) (hsl : I64 sl) (hs : s.size ≤ 140737488351232) (hE : EvO W) :
    Calls Tryd.prog 6 #[.agg #[u, .int .i64 st, .int .i64 sl], .string s] W fun e w' => e = .returned (.bool true) ∧ Below W.heap.size W w' := by
  obtain ⟨A1, k1, e1, hl⟩ := (show ∃ A k, u = .slice A l.length k ∧ l.length ≤ 3518437208883 from by obtain ⟨A, k, e, hl, _⟩ := hr; exact ⟨A, k, e, hl⟩)
  obtain ⟨n, hn⟩ : ∃ n, l.length = n := ⟨_, rfl⟩
  rw [hn] at e1 hl
  subst e1
  obtain ⟨w0, hw0⟩ : ∃ w0, W.alloc (.cells #[.slice A1 n k1, .int .i64 st, .int .i64 sl] 46) = w0 := ⟨_, rfl⟩
  have hb0 : Below W.heap.size W w0 := by rw [← hw0]; exact (Below.refl _ _).alloc (Nat.le_refl _) _
  have hx0 : w0.heap[W.heap.size]? = some (.cells #[.slice A1 n k1, .int .i64 st, .int .i64 sl] 46 (0, 0)) := by rw [← hw0]; exact heap_alloc_new W _
  have HW0 := Lib.hid hw0
  have HB0 := Lib.hid hb0
  have HX0 := Lib.hid hx0
  have HE := Lib.hid hE
  have HWK := Lib.hid (fun w he => works15_any w he)
  have HEP : Hid (∀ w, Below W.heap.size W w → Calls Tryd.prog 26 #[.agg #[.slice A1 n k1, .int .i64 st, .int .i64 sl]] w fun e w' => e = .returned (.tuple #[.string (encS l st sl), .int .i64 (chk l st sl)]) ∧ Below w.heap.size w w') := Lib.hid (fun w h => encode15 l st sl _ w (hr.below (Nat.le_refl _) h) (hE.below (Nat.le_refl _) h))
  have HER : Hid (∀ w, Below W.heap.size W w → Calls Tryd.prog 27 #[.agg #[.slice A1 n k1, .int .i64 st, .int .i64 sl]] w fun e w' => e = .returned (.tuple #[.string (encS l st sl), .int .i64 (chk l st sl)]) ∧ Below w.heap.size w w') := Lib.hid (fun w h => refEnc15_any l st sl _ w (hr.below (Nat.le_refl _) h))
  obtain ⟨T, hT⟩ : ∃ T, encS l st sl = T := ⟨_, rfl⟩
  obtain ⟨ck, hck⟩ : ∃ ck, chk l st sl = ck := ⟨_, rfl⟩
  rw [hT, hck] at HEP HER
  have htt : (T.toList == T.toList) = true := by simp
  have hkk : (ck == ck) = true := by simp
  have c0 : w0.cell? ⟨W.heap.size, 0, none⟩ = some (.slice A1 n k1) := blkp hx0 0
  have c1 : w0.cell? ⟨W.heap.size, 1, none⟩ = some (.int .i64 st) := blkp hx0 1
  have c2 : w0.cell? ⟨W.heap.size, 2, none⟩ = some (.int .i64 sl) := blkp hx0 2
  clear hb0 hx0 hw0 hE hr hst hsl hn hT hck
  have n0 : (0 : Int) ≤ (n : Int) := by omega
  by_cases hn100 : (100 : Int) < (n : Int)
  · clear hs
    go_enter Tryd.func6, Tryd.ntmps6
    go_wp2_with (rw [HW0.out])
    refine (HWK.out w0 (HE.out.below (Nat.le_refl _) HB0.out)).mono ?_
    rintro e w1 ⟨rfl, hb1⟩
    have HB1 := Lib.hid (HB0.out.trans (hb1.mono HB0.out.size))
    clear hb1
    go_wp2
    go_ret
    exact ⟨rfl, HB1.out⟩
  by_cases hs3 : (1000 : Int) < (s.size : Int)
  · clear hs
    go_enter Tryd.func6, Tryd.ntmps6
    go_wp2_with (rw [HW0.out])
    refine (HWK.out w0 (HE.out.below (Nat.le_refl _) HB0.out)).mono ?_
    rintro e w1 ⟨rfl, hb1⟩
    have HB1 := Lib.hid (HB0.out.trans (hb1.mono HB0.out.size))
    clear hb1
    go_wp2
    go_ret
    exact ⟨rfl, HB1.out⟩
  have hs1000 : s.size ≤ 700000 := by omega
  have HD1 := Lib.hid (fun w he => decode15 w s hs1000 he)
  have HD2 := Lib.hid (fun w => refDec15 w s hs1000)
  obtain ⟨l2, b1, b2, c, hda⟩ := dec_as s.data.toList
  have HDA := Lib.hid hda
  have hcc : (c == c) = true := by simp
  clear hs hda hs1000
  go_enter Tryd.func6, Tryd.ntmps6
  go_wp2_with (rw [HW0.out])
  refine (HEP.out w0 HB0.out).mono ?_
  rintro e w1 ⟨rfl, hb1⟩
  have HB1 := Lib.hid (HB0.out.trans (hb1.mono HB0.out.size))
  have hx1 := (hb1.block _ (Array.getElem?_eq_some_iff.1 HX0.out).1).trans HX0.out
  have p0 : w1.cell? ⟨W.heap.size, 0, none⟩ = some (.slice A1 n k1) := blkp hx1 0
  have p1 : w1.cell? ⟨W.heap.size, 1, none⟩ = some (.int .i64 st) := blkp hx1 1
  have p2 : w1.cell? ⟨W.heap.size, 2, none⟩ = some (.int .i64 sl) := blkp hx1 2
  clear hb1 hx1 c0 c1 c2
  go_wp2_with fail
  refine (HER.out w1 HB1.out).mono ?_
  rintro e w2 ⟨rfl, hb2⟩
  have HB2 := Lib.hid (HB1.out.trans (hb2.mono HB1.out.size))
  clear hb2 p0 p1 p2
  go_wp2_with fail
  refine (HD1.out w2 (HE.out.below (Nat.le_refl _) HB2.out)).mono ?_
  intro e w3 hpost
  obtain ⟨v3, rfl, ho3, hb3⟩ := HDA.out.yes _ _ _ hpost
  obtain ⟨a3, c3, e3⟩ := ho3.slice
  obtain ⟨L3, hL3⟩ : ∃ L3, l2.length = L3 := ⟨_, rfl⟩
  rw [hL3] at e3
  subst e3
  have HB3 := Lib.hid (HB2.out.trans (hb3.mono HB2.out.size))
  obtain ⟨w4, hw4⟩ : ∃ w4, w3.alloc (.cells #[.slice a3 L3 c3, .int .i64 b1, .int .i64 b2] 46) = w4 := ⟨_, rfl⟩
  have hb4 : Below w3.heap.size w3 w4 := by rw [← hw4]; exact (Below.refl _ _).alloc (Nat.le_refl _) _
  have hy4 : w4.heap[w3.heap.size]? = some (.cells #[.slice a3 L3 c3, .int .i64 b1, .int .i64 b2] 46 (0, 0)) := by rw [← hw4]; exact heap_alloc_new w3 _
  have HO4 := Lib.hid (ho3.below hb4 (Nat.le_refl _))
  have HB4 := Lib.hid (HB3.out.trans (hb4.mono HB3.out.size))
  have HY4 := Lib.hid hy4
  have HW4 := Lib.hid hw4
  clear hpost ho3 hb3 hb4 hy4 hw4
  go_wp2_with fail
  rw [HW4.out]
  refine (HD2.out w4).mono ?_
  intro e w5 hpost
  obtain ⟨v5, rfl, ho5, hb5⟩ := HDA.out.yes _ _ _ hpost
  obtain ⟨a5, c5, e5⟩ := ho5.slice
  rw [hL3] at e5
  subst e5
  have HB5 := Lib.hid (HB4.out.trans (hb5.mono HB4.out.size))
  have HO5 := Lib.hid (HO4.out.below hb5 (Nat.le_refl _))
  have hy5 := (hb5.block _ (Array.getElem?_eq_some_iff.1 HY4.out).1).trans HY4.out
  have q0 : w5.cell? ⟨w3.heap.size, 0, none⟩ = some (.slice a3 L3 c3) := blkp hy5 0
  have q1 : w5.cell? ⟨w3.heap.size, 1, none⟩ = some (.int .i64 b1) := blkp hy5 1
  have q2 : w5.cell? ⟨w3.heap.size, 2, none⟩ = some (.int .i64 b2) := blkp hy5 2
  have hly := (Array.getElem?_eq_some_iff.1 hy5).1
  obtain ⟨w6, hw6⟩ : ∃ w6, w5.alloc (.cells #[.slice a5 L3 c5, .int .i64 b1, .int .i64 b2] 46) = w6 := ⟨_, rfl⟩
  have hb6 : Below w5.heap.size w5 w6 := by rw [← hw6]; exact (Below.refl _ _).alloc (Nat.le_refl _) _
  have HB6 := Lib.hid (HB5.out.trans (hb6.mono HB5.out.size))
  have HO6 := Lib.hid (HO5.out.below hb6 (Nat.le_refl _))
  have hz6 := ho5.below hb6 (Nat.le_refl _)
  have HSP := Lib.hid (sameProg_any w6 _ _ l2 l2 b1 b2 b1 b2 (HO6.out.row (by have := HDA.out.len; omega) HDA.out.bd) (hz6.row (by have := HDA.out.len; omega) HDA.out.bd))
  rw [decide_eq_true (show b1 = b1 ∧ b2 = b2 ∧ l2 = l2 from ⟨rfl, rfl, rfl⟩)] at HSP
  have HY6 := Lib.hid ((hb6.block _ hly).trans hy5)
  have HW6 := Lib.hid hw6
  clear hpost ho5 hb5 hb6 hw6 hz6 hL3 hy5
  go_wp2_with fail
  rw [HW6.out]
  refine HSP.out.mono ?_
  rintro e w7 ⟨rfl, hb7⟩
  have HB7 := Lib.hid (HB6.out.trans (hb7.mono HB6.out.size))
  have HO7 := Lib.hid (HO6.out.below hb7 (Nat.le_refl _))
  have hy7 := (hb7.block _ (Array.getElem?_eq_some_iff.1 HY6.out).1).trans HY6.out
  have r0 : w7.cell? ⟨w3.heap.size, 0, none⟩ = some (.slice a3 L3 c3) := blkp hy7 0
  clear hb7 hy7 q0 q1 q2 hly
  go_wp2_with fail
  refine (spoili_own w7 W.heap.size _ l2 (HO7.out.mono HB2.out.size) HB7.out.size).mono ?_
  rintro e w8 ⟨rfl, hb8⟩
  have HB8 := Lib.hid (HB7.out.trans hb8)
  clear hb8 r0
  go_wp2_with fail
  refine (HWK.out w8 (HE.out.below (Nat.le_refl _) HB8.out)).mono ?_
  rintro e w9 ⟨rfl, hb9⟩
  have HB9 := Lib.hid (HB8.out.trans (hb9.mono HB8.out.size))
  clear hb9
  go_wp2
  go_ret
  exact ⟨rfl, HB9.out⟩
end Pgm
end Go.Proofs.YtfnimmbmcjgdpaaDoor
