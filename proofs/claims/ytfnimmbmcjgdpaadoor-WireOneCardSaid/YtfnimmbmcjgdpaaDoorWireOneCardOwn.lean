/- The plain mathematics of trees: depth, all nodes, weight, nullable, the same; a node's cells. · Rows of texts that come from without; the book's Few and Below. · burinlaw15.WireOne: the walk. -/
import Derived.Test.YtfnimmbmcjgdpaaDoorGp3
import Derived.IntWalk
import Derived.Test.YtfnimmbmcjgdpaaDoorGp26
import Derived.Lib.ConvBytes
namespace Go.Proofs.YtfnimmbmcjgdpaaDoor
open Go.RowKit
set_option linter.unusedVariables false
namespace Td
def subs : Nd → List Nd | .mk _ _ _ _ _ _ _ s => s
def kind : Nd → Int | .mk k _ _ _ _ _ _ _ => k
def num : Nd → Int | .mk _ _ n _ _ _ _ _ => n
def name : Nd → ByteArray | .mk _ _ _ n _ _ _ _ => n
def set : Nd → List (Int × Int) | .mk _ s _ _ _ _ _ _ => s
def mn : Nd → Int | .mk _ _ _ _ m _ _ _ => m
def mx : Nd → Int | .mk _ _ _ _ _ m _ _ => m
def lazy : Nd → Bool | .mk _ _ _ _ _ _ l _ => l
/-- All nodes that are not too deep, with their depths. -/
def all : Nat → Nat → Nd → List (Nat × Nd)
  | 0, _, _ => []
  | k + 1, d, n => (d, n) :: (subs n).flatMap (all k (d + 1))
end Td
/-- A node's cells, laid open. -/
structure NdCells (W : World) (cs : List Value) (n : Nd) (vs : Value) (a : Option Addr) (cap : Nat) (C : Nat → List Value) : Prop where
  eq : cs = [.int .i64 (Td.kind n), vs, .int .i64 (Td.num n), .string (Td.name n), .int .i64 (Td.mn n), .int .i64 (Td.mx n), .bool (Td.lazy n), .slice a (Td.subs n).length cap]
  bd : I64 (Td.kind n) ∧ I64 (Td.num n) ∧ I64 (Td.mn n) ∧ I64 (Td.mx n)
  set : RRow W vs (Td.set n)
  name : (Td.name n).size ≤ 140737488351232
  len : (Td.subs n).length ≤ 8796093022208
  sub : ∀ j, j < (Td.subs n).length → ∃ b off m u0 u1 u2 u3 u4 u5 u6 u7, a = some ⟨b, off, none⟩ ∧ b < W.heap.size ∧ (Td.subs n)[j]? = some m ∧ NdIs W m [u0, u1, u2, u3, u4, u5, u6, u7] ∧
    W.cell? ⟨b, off + j * 8, none⟩ = some u0 ∧ W.cell? ⟨b, off + j * 8 + 1, none⟩ = some u1 ∧ W.cell? ⟨b, off + j * 8 + 2, none⟩ = some u2 ∧ W.cell? ⟨b, off + j * 8 + 3, none⟩ = some u3 ∧
    W.cell? ⟨b, off + j * 8 + 4, none⟩ = some u4 ∧ W.cell? ⟨b, off + j * 8 + 5, none⟩ = some u5 ∧ W.cell? ⟨b, off + j * 8 + 6, none⟩ = some u6 ∧ W.cell? ⟨b, off + j * 8 + 7, none⟩ = some u7
theorem NdIs.cells {W : World} {n : Nd} {cs : List Value} (h : NdIs W n cs) : ∃ vs a cap C, NdCells W cs n vs a cap C := by
  cases h with
  | mk C hk hset hname hlen hrow hsub =>
    refine ⟨_, _, _, C, rfl, hk, hset, hname, hlen, fun j hj => ?_⟩
    obtain ⟨b, off, ha, hb, hl, hc⟩ := hrow j hj
    have hs := hsub j hj
    match hC : C j, hl with
    | [u0, u1, u2, u3, u4, u5, u6, u7], _ =>
      rw [hC] at hs hc
      exact ⟨b, off, _, u0, u1, u2, u3, u4, u5, u6, u7, ha, hb, List.getElem?_eq_getElem hj, hs, hc 0 (by omega), hc 1 (by omega), hc 2 (by omega), hc 3 (by omega), hc 4 (by omega), hc 5 (by omega), hc 6 (by omega), hc 7 (by omega)⟩
end Go.Proofs.YtfnimmbmcjgdpaaDoor
namespace Go.Proofs.YtfnimmbmcjgdpaaDoor
open Go.RowKit
set_option linter.unusedVariables false
/-- A value that reads as a list of texts, wherever it begins. -/
def SRow (W : World) (v : Value) (L : List ByteArray) : Prop :=
  ∃ a cap, v = .slice a L.length cap ∧ L.length ≤ 8796093022208 ∧ ∀ j (hj : j < L.length), ∃ b off, a = some ⟨b, off, none⟩ ∧ b < W.heap.size ∧ W.cell? ⟨b, off + j, none⟩ = some (.string L[j]) ∧ L[j].size ≤ 140737488351232
theorem SRow.below {W W' : World} {v : Value} {L : List ByteArray} (h : SRow W v L) {B : Nat} (hB : W.heap.size ≤ B) (hb : Below B W W') : SRow W' v L := by
  obtain ⟨a, cap, hv, h1, hc⟩ := h
  refine ⟨a, cap, hv, h1, fun j hj => ?_⟩
  obtain ⟨b, off, ha, hlt, hcell, hs⟩ := hc j hj
  exact ⟨b, off, ha, Nat.lt_of_lt_of_le hlt hb.size, (hb.cell (p := ⟨b, off + j, none⟩) (by show b < B; omega)).trans hcell, hs⟩
set_option maxRecDepth 100000 in
set_option maxHeartbeats 2000000 in
theorem below_any (W : World) (n most : Int) (h0 : 1 ≤ most) (h1 : most ≤ 1000000000) (hn : I64 n) :
    Calls Tryd.prog 32 #[.int .i64 n, .int .i64 most] W fun e w' => ∃ k : Nat, e = .returned (.int .i64 (k : Int)) ∧ (k : Int) < most ∧ W = w' := by
  obtain ⟨hn0, hn1⟩ := hn
  have hm0 : ¬ most < 1 := by omega
  have hmz : ¬ most = 0 := by omega
  obtain ⟨r, hr⟩ : ∃ r, n.tmod most = r := ⟨_, rfl⟩
  have hr1 : r < most ∧ -most < r := by
    rw [← hr]
    have a1 := Int.tmod_lt_of_pos n (show 0 < most by omega)
    have a2 : -most < n.tmod most := by
      have a3 := Int.tmod_lt_of_pos (-n) (show 0 < most by omega)
      rw [Int.neg_tmod] at a3
      omega
    omega
  by_cases hneg : r < 0
  · obtain ⟨k, hk⟩ : ∃ k : Nat, r + most = (k : Int) := ⟨(r + most).toNat, by omega⟩
    have HK := Lib.hid hk
    go_enter Tryd.func32, Tryd.ntmps32
    go_wp2
    go_ret
    exact ⟨k, rfl, by have := HK.out; omega, rfl⟩
  · obtain ⟨k, hk⟩ : ∃ k : Nat, r = (k : Int) := ⟨r.toNat, by omega⟩
    have HK := Lib.hid hk
    go_enter Tryd.func32, Tryd.ntmps32
    go_wp2
    go_ret
    exact ⟨k, by rw [← HK.out]; rfl, by have := HK.out; omega, rfl⟩
end Go.Proofs.YtfnimmbmcjgdpaaDoor
namespace Go.Proofs.YtfnimmbmcjgdpaaDoor
open Go.RowKit
set_option linter.unusedVariables false
namespace Pgm
theorem bw_below (w : World) (e : TypeId) (s : ByteArray) : Below w.heap.size w (Lib.bytesWorld w e s) :=
  ⟨by simp [Lib.bytesWorld, World.freeze, World.alloc, World.drew, -World.alloc_eq, -World.drew_eq], by simp [Lib.bytesWorld, World.freeze, World.alloc, World.drew, -World.alloc_eq, -World.drew_eq], by simp [Lib.bytesWorld, World.freeze, World.alloc, World.drew, -World.alloc_eq, -World.drew_eq], by rw [Lib.bytesWorld_size]; omega, fun k hk => Lib.bytesWorld_at_old w e s k hk⟩
/-- A text turned into bytes, one of them turned, and back. -/
theorem one_turn (w : World) (l : List UInt8) (k : Nat) (hk : k < l.length) (x : UInt8) (cap : Nat) :
    (Lib.bytesWorld w 5 (txB l)).cell? ⟨w.heap.size, k, none⟩ = some (.int .u8 (l[k].toNat : Int)) ∧ (Lib.bytesWorld w 5 (txB l)).frozen? ⟨w.heap.size, k, none⟩ = false ∧
    (convert 55 9 (.slice (some ⟨w.heap.size, 0, none⟩) l.length cap)).run Tryd.prog ((Lib.bytesWorld w 5 (txB l)).setCell ⟨w.heap.size, k, none⟩ (.int .u8 (x.toNat : Int))) = .ok (.string (txB (l.set k x))) ((Lib.bytesWorld w 5 (txB l)).setCell ⟨w.heap.size, k, none⟩ (.int .u8 (x.toNat : Int))) := by
  have hsz : (txB l).size = l.length := txB_size l
  have hcell : ∀ j, (hj : j < l.length) → (Lib.bytesWorld w 5 (txB l)).cell? ⟨w.heap.size, j, none⟩ = some (.int .u8 (l[j].toNat : Int)) := fun j hj => by
    rw [Lib.bytesWorld_cell w _ _ j (by rw [hsz]; exact hj), txB_list]
    simp [List.getD, List.getElem?_eq_getElem hj]
  have hnew := Lib.bytesWorld_at_new w 5 (txB l)
  have hcs : l.length ≤ (Lib.bytesCells w 5 (txB l)).size := by
    simp [Lib.bytesCells, txB]
  refine ⟨hcell k hk, ?_, ?_⟩
  · simp [World.frozen?, hnew]
    intro h; omega
  · have h9 := run_convert_bytes_back (P := Tryd.prog) ((Lib.bytesWorld w 5 (txB l)).setCell ⟨w.heap.size, k, none⟩ (.int .u8 (x.toNat : Int))) 55 9 5 ⟨w.heap.size, 0, none⟩ cap (l.set k x) (by kernel_rfl) (by kernel_rfl) (by kernel_rfl) (fun j hj => by
      rw [Addr.add_lit, Nat.zero_add]
      have hj' : j < l.length := by simpa using hj
      by_cases e : k = j
      · subst e
        rw [List.getElem_set_self]
        have h1 : ((Lib.bytesWorld w 5 (txB l)).setCell ⟨w.heap.size, k, none⟩ (.int .u8 (x.toNat : Int))).heap[w.heap.size]? = some (.cells ((Lib.bytesCells w 5 (txB l)).setIfInBounds k (.int .u8 (x.toNat : Int))) 5 ((Lib.bytesCells w 5 (txB l)).size, (Lib.bytesCells w 5 (txB l)).size + 1)) := by
          simp only [World.setCell, Array.getElem?_modify, hnew, if_true, Option.map_some]
          rfl
        simp only [World.cell?, h1]
        rw [if_neg (by decide), Array.getElem?_setIfInBounds, if_pos rfl, if_pos (by omega)]
      · rw [List.getElem_set_ne e]
        rw [World.cell?_setCell_other _ _ _ _ (fun h => e (congrArg Addr.off h))]
        exact hcell j hj')
    rw [List.length_set] at h9
    exact h9
set_option maxRecDepth 100000 in
set_option maxHeartbeats 8000000 in
theorem walkWireOne (W : World) (u : Value) (l : List In) (st sl : Int) (at_ : Int) (z : Int) (hr : InRow W u l) (hst : I64 st) (hsl : I64 sl) (hat : (Lit.int .i64 at_).wf = true) (hz : (Lit.int .u8 z).wf = true) (hE : EvO W) :
    Calls Tryd.prog 8 #[.agg #[u, .int .i64 st, .int .i64 sl], .int .i64 at_, .int .u8 z] W fun e w' => e = .returned (.bool true) ∧ Below W.heap.size W w' := by
  have HAT := Lib.hid (i64_of_wf hat)
  have hz2 : 0 ≤ z ∧ z < 256 := by
    have q1 : IntKind.u8.min = 0 := rfl
    have q2 : IntKind.u8.max = 255 := rfl
    simp [Lit.wf, q1, q2] at hz
    omega
  obtain ⟨A1, k1, e1, hl⟩ := (show ∃ A k, u = .slice A l.length k ∧ l.length ≤ 3518437208883 from by obtain ⟨A, k, e, hl, _⟩ := hr; exact ⟨A, k, e, hl⟩)
  obtain ⟨n, hn⟩ : ∃ n, l.length = n := ⟨_, rfl⟩
  rw [hn] at e1 hl
  subst e1
  obtain ⟨w0, hw0⟩ : ∃ w0, W.alloc (.cells #[.slice A1 n k1, .int .i64 st, .int .i64 sl] 46) = w0 := ⟨_, rfl⟩
  have hb0 : Below W.heap.size W w0 := by rw [← hw0]; exact (Below.refl _ _).alloc (Nat.le_refl _) _
  have hx0 : w0.heap[W.heap.size]? = some (.cells #[.slice A1 n k1, .int .i64 st, .int .i64 sl] 46 (0, 0)) := by rw [← hw0]; exact heap_alloc_new W _
  have HW0 := Lib.hid hw0
  have HB0 := Lib.hid hb0
  have HX0 := Lib.hid hx0
  have HE := Lib.hid hE
  have HWK := Lib.hid (works15_any w0 (hE.below (Nat.le_refl _) hb0))
  have HEP : Hid (∀ w, Below W.heap.size W w → Calls Tryd.prog 26 #[.agg #[.slice A1 n k1, .int .i64 st, .int .i64 sl]] w fun e w' => e = .returned (.tuple #[.string (encS l st sl), .int .i64 (chk l st sl)]) ∧ Below w.heap.size w w') := Lib.hid (fun w h => encode15 l st sl _ w (hr.below (Nat.le_refl _) h) (hE.below (Nat.le_refl _) h))
  have HLN := Lib.hid hn
  clear hb0 hx0 hw0 hE hr hst hsl hat hz hn
  have n0 : (0 : Int) ≤ (n : Int) := by omega
  by_cases hn5 : (100 : Int) < (n : Int)
  · go_enter Tryd.func8, Tryd.ntmps8
    go_wp2_with (rw [HW0.out])
    refine HWK.out.mono ?_
    rintro e w1 ⟨rfl, hb1⟩
    have HB1 := Lib.hid (HB0.out.trans (hb1.mono HB0.out.size))
    have c0 : w1.cell? ⟨W.heap.size, 0, none⟩ = some (.slice A1 n k1) := blkp ((hb1.block _ (Array.getElem?_eq_some_iff.1 HX0.out).1).trans HX0.out) 0
    clear hb1
    go_wp2
    go_ret
    exact ⟨rfl, HB1.out⟩
  by_cases hz0 : z = 0
  · have hz1 : (z == 0) = true := by rw [hz0]; rfl
    subst hz0
    go_enter Tryd.func8, Tryd.ntmps8
    go_wp2_with (rw [HW0.out])
    refine HWK.out.mono ?_
    rintro e w1 ⟨rfl, hb1⟩
    have HB1 := Lib.hid (HB0.out.trans (hb1.mono HB0.out.size))
    have c0 : w1.cell? ⟨W.heap.size, 0, none⟩ = some (.slice A1 n k1) := blkp ((hb1.block _ (Array.getElem?_eq_some_iff.1 HX0.out).1).trans HX0.out) 0
    clear hb1
    go_wp2
    go_ret
    exact ⟨rfl, HB1.out⟩
  have hz1 : (z == 0) = false := by rw [beq_eq_false_iff_ne]; exact hz0
  have HZZ := Lib.hid hz2
  have HZ0 := Lib.hid hz0
  clear hz2
  go_enter Tryd.func8, Tryd.ntmps8
  go_wp2_with (rw [HW0.out])
  refine HWK.out.mono ?_
  rintro e w1 ⟨rfl, hb1⟩
  have HB1 := Lib.hid (HB0.out.trans (hb1.mono HB0.out.size))
  have hx1 := (hb1.block _ (Array.getElem?_eq_some_iff.1 HX0.out).1).trans HX0.out
  have HX1 := Lib.hid hx1
  have c0 : w1.cell? ⟨W.heap.size, 0, none⟩ = some (.slice A1 n k1) := blkp hx1 0
  have c1 : w1.cell? ⟨W.heap.size, 1, none⟩ = some (.int .i64 st) := blkp hx1 1
  have c2 : w1.cell? ⟨W.heap.size, 2, none⟩ = some (.int .i64 sl) := blkp hx1 2
  clear hb1 hx1
  go_wp2_with fail
  by_cases hok : Ok l st sl
  · have HE1 := Lib.hid (HEP.out w1 HB1.out)
    rw [enc_ok hok, chk_ok hok] at HE1
    have hlen := enc_len l st sl
    rw [HLN.out] at hlen
    have HDT : Hid (∀ (k : Nat) (hk : k < (encL l st sl).length) (v : UInt8), v ≠ 0 → decL ((encL l st sl).set k ((encL l st sl)[k] ^^^ v)) = none) := Lib.hid (fun k hk v hv => dec_turned hk hv)
    obtain ⟨L, hL⟩ : ∃ L, encL l st sl = L := ⟨_, rfl⟩
    rw [hL] at HE1 hlen HDT
    have hTs := txB_size L
    obtain ⟨T, hT⟩ : ∃ T, txB L = T := ⟨_, rfl⟩
    rw [hT] at HE1 hTs
    have HTT := Lib.hid hT
    have HTS := Lib.hid hTs
    clear hok hL hT
    refine HE1.out.mono ?_
    rintro e w2 ⟨rfl, hb2⟩
    have HB2 := Lib.hid (HB1.out.trans (hb2.mono HB1.out.size))
    have hcv := Lib.run_convert_string_bytes (P := Tryd.prog) (u := .string) w2 9 55 5 T (by kernel_rfl) (by kernel_rfl) (by kernel_rfl)
    have hbw := bw_below w2 5 T
    have hws := Lib.bytesWorld_size w2 5 T
    obtain ⟨cap, hcap⟩ : ∃ cap, grownCap w2 T.size 0 5 = cap := ⟨_, rfl⟩
    rw [hcap] at hcv
    have H1T := Lib.hid (fun k hk x => one_turn w2 L k hk x cap)
    rw [HTT.out] at H1T
    obtain ⟨W3, hW3⟩ : ∃ W3, Lib.bytesWorld w2 5 T = W3 := ⟨_, rfl⟩
    rw [hW3] at hcv hbw hws H1T
    obtain ⟨m, hm⟩ : ∃ m, L.length = m := ⟨_, rfl⟩
    rw [hm] at hTs hlen
    have HM := Lib.hid hm
    rw [hTs] at hcv
    have HBW := Lib.hid (HB2.out.trans (hbw.mono HB2.out.size))
    have HWS := Lib.hid hws
    have hm0 : (0 : Int) < (m : Int) := by omega
    have HBE := Lib.hid (below_any W3 at_ (m : Int) (by omega) (by omega) HAT.out)
    clear hb2 hbw hws hcap hW3 hm c0 c1 c2 hTs
    go_wp2_with fail
    refine HBE.out.mono ?_
    rintro e w4 ⟨k, rfl, hkm, rfl⟩
    have hkL : k < L.length := by rw [HM.out]; omega
    obtain ⟨v, hv⟩ : ∃ v : UInt8, v = UInt8.ofNat z.toNat := ⟨_, rfl⟩
    have hvz : (v.toNat : Int) = z := by rw [hv, ofNat_toNat8 (by have := HZZ.out; omega)]; have := HZZ.out; omega
    have hv0 : v ≠ 0 := fun e => HZ0.out (by rw [← hvz, e]; rfl)
    obtain ⟨h1, h2, h3⟩ := H1T.out k hkL (L[k] ^^^ v)
    rw [HM.out] at h3
    have hdn := HDT.out k hkL v hv0
    have hxo : bits .xor .u8 (L[k].toNat : Int) z = ((L[k] ^^^ v).toNat : Int) := by
      rw [← hvz, u8_xor_nat _ _ (L[k].toNat_lt) (v.toNat_lt), UInt8.toNat_xor]
    obtain ⟨W4, hW4⟩ : ∃ W4, W3.setCell ⟨w2.heap.size, k, none⟩ (.int .u8 ((L[k] ^^^ v).toNat : Int)) = W4 := ⟨_, rfl⟩
    rw [hW4] at h3
    have hb4 : Below W.heap.size W W4 := by rw [← hW4]; exact HBW.out.trans (below_set _ HB2.out.size)
    have hxs : (txB (L.set k (L[k] ^^^ v))).size = m := by rw [txB_size, List.length_set, HM.out]
    have HDN := Lib.hid (dec_nay W4 (txB (L.set k (L[k] ^^^ v))) (by rw [hxs]; omega) (HE.out.below (Nat.le_refl _) hb4) (by rw [txB_list]; exact hdn))
    obtain ⟨Y, hY⟩ : ∃ Y, txB (L.set k (L[k] ^^^ v)) = Y := ⟨_, rfl⟩
    rw [hY] at h3 HDN
    obtain ⟨b1, hb1⟩ : ∃ b : Int, (L[k].toNat : Int) = b := ⟨_, rfl⟩
    obtain ⟨b2, hb2⟩ : ∃ b : Int, ((L[k] ^^^ v).toNat : Int) = b := ⟨_, rfl⟩
    rw [hb1] at h1 hxo
    rw [hb2] at hxo hW4
    have HB4 := Lib.hid hb4
    have hlw : w2.heap.size < W3.heap.size := by rw [HWS.out]; omega
    have k0 : (0 : Int) ≤ (k : Int) := by omega
    have k1 : ((k : Int)).toNat = k := by omega
    have k2 : k < m := by omega
    clear hkL hv hvz hv0 hdn hb4 hxs hY hb1 hb2 hcv
    go_wp2_with fail
    refine HDN.out.mono ?_
    rintro e w5 ⟨rfl, hb5⟩
    have HB5 := Lib.hid (HB4.out.trans (hb5.mono HB4.out.size))
    clear hb5 h1 h2 h3
    go_wp2
    go_ret
    exact ⟨rfl, HB5.out.alloc HB5.out.size _⟩
  · have HE1 := Lib.hid (HEP.out w1 HB1.out)
    obtain ⟨T, h1⟩ : ∃ T, encS l st sl = T := ⟨_, rfl⟩
    rw [h1, chk_not hok] at HE1
    clear h1 hok
    refine HE1.out.mono ?_
    rintro e w2 ⟨rfl, hb2⟩
    have HB2 := Lib.hid (HB1.out.trans (hb2.mono HB1.out.size))
    clear hb2 c0 c1 c2
    go_wp2
    go_ret
    exact ⟨rfl, HB2.out⟩
end Pgm
end Go.Proofs.YtfnimmbmcjgdpaaDoor
