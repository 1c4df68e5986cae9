/- strconv.FormatInt at base 16. · Functions of the library: the library's contracts, laid over this translation. -/
import Derived.Test.YtdcielcniboloaaDoorGp6
import Derived.Test.YtdcielcniboloaaDoorGp3
import Derived.Laws.IdiomStrings
import Derived.Laws.Bits64b
import Derived.Shelf.Strconv.Itoa3
import Derived.Test.YtdcielcniboloaaDoorProg
namespace Go.Proofs.YtdcielcniboloaaDoor
open Go.RowKit
open Br (hexL hexL_small hexL_big)
set_option linter.unusedVariables false
/-- The one cell of a table that is read to find out that 16 is 2 to the 4th. -/
def TzAt (W : World) : Prop := W.cell? ⟨2, (16 * 285870213051353865 % 18446744073709551616 / 288230376151711744 : Nat), none⟩ = some (.int .u8 4)
theorem TzAt.below {W W' : World} {B : Nat} (h : TzAt W) (hB : W.heap.size ≤ B) (hb : Below B W W') : TzAt W' := by
  unfold TzAt at h ⊢
  have hlt : 2 < W.heap.size := by
    rcases Nat.lt_or_ge 2 W.heap.size with g | g
    · exact g
    · rw [World.cell?] at h
      dsimp only at h
      rw [Array.getElem?_eq_none g] at h
      cases h
  exact (hb.cell (p := ⟨2, _, none⟩) (Nat.lt_of_lt_of_le hlt hB)).trans h
set_option maxRecDepth 100000 in
set_option maxHeartbeats 4000000 in
theorem tz16_any (W : World) (h : TzAt W) : Calls Tryd.prog 71 #[.int .u64 16] W fun e w' => e = .returned (.int .i64 4) ∧ W = w' := by
  unfold TzAt at h
  have key : IntKind.u64.wrap (bits BinOp.and IntKind.u64 16 (IntKind.u64.wrap (-16)) * 285870213051353865) / 288230376151711744 = ((16 * 285870213051353865 % 18446744073709551616 / 288230376151711744 : Nat) : Int) := by decide +kernel
  go_enter Tryd.func71, Tryd.ntmps71
  go_wp2
  go_ret
  exact ⟨rfl, rfl⟩
def digB : ByteArray := ⟨#[48, 49, 50, 51, 52, 53, 54, 55, 56, 57, 97, 98, 99, 100, 101, 102, 103, 104, 105, 106, 107, 108, 109, 110, 111, 112, 113, 114, 115, 116, 117, 118, 119, 120, 121, 122]⟩
theorem pow16_any (W : World) : Calls Tryd.prog 70 #[.int .i64 16] W fun e w' => e = .returned (.bool true) ∧ W = w' := by
  have p0 : bits .and .i64 16 15 = 0 := by decide +kernel
  go_enter Tryd.func70, Tryd.ntmps70
  go_wp2
  go_ret
  exact ⟨rfl, rfl⟩
/-- The row of digits: T at its end. -/
structure RowEnd (W : World) (ab : Nat) (T : List Int) : Prop where
  blk : ∃ cur : Array Value, W.heap[ab]? = some (.cells cur 92 (0, 0)) ∧ cur.size = 65 ∧ ∀ j x, T[j]? = some x → cur[65 - T.length + j]? = some (.int .u8 x)
  len : T.length ≤ 6
theorem digB_at (d : Nat) (hd : d < 16) (h : d < digB.size) : ((digB[d]'h).toNat : Int) = Br.hd d := by
  have hk : ∀ k : Fin 16, ((digB[k.1]'(Nat.lt_of_lt_of_le k.2 (by decide))).toNat : Int) = Br.hd k.1 := by decide
  exact hk ⟨d, hd⟩
theorem RowEnd.step {W : World} {ab : Nat} {T : List Int} (h : RowEnd W ab T) (hT : T.length ≤ 5) {i : Nat} (hi : 65 - T.length = i + 1) (x : Int) : RowEnd (W.setCell ⟨ab, i, none⟩ (.int .u8 x)) ab (x :: T) := by
  obtain ⟨⟨cur, hblk, hsz, hcur⟩, hl6⟩ := h
  refine ⟨⟨_, heap_setCell_same W ab i _ _ (.int .u8 x) hblk, by rw [Array.size_setIfInBounds]; exact hsz, fun j y hj => ?_⟩, by rw [List.length_cons]; omega⟩
  have e : 65 - (x :: T).length = i := by rw [List.length_cons]; omega
  rw [e]
  cases j with
  | zero =>
    obtain rfl : x = y := by simpa using hj
    rw [Nat.add_zero, Array.getElem?_setIfInBounds, if_pos rfl, if_pos (by omega)]
  | succ j =>
    have hj' : T[j]? = some y := by simpa using hj
    have := hcur j y hj'
    rw [hi] at this
    rw [show i + (j + 1) = i + 1 + j by omega]
    rw [← this]
    rw [Array.getElem?_setIfInBounds, if_neg (by omega)]
theorem below_set {W W' : World} {B ab i : Nat} (h : Below B W W') (hab : B ≤ ab) (v : Value) : Below B W (W'.setCell ⟨ab, i, none⟩ v) := h.setCell (p := ⟨ab, i, none⟩) hab v
def hexS (n : Nat) : List UInt8 := (hexL n).map fun x => UInt8.ofNat x.toNat
theorem hexS_nums (n : Nat) : Utf.nums (⟨(hexS n).toArray⟩ : ByteArray) = hexL n := by
  unfold Utf.nums hexS
  simp only [List.map_map]
  refine (List.map_congr_left (fun x hx => ?_)).trans (List.map_id _)
  have := Br.hexL_all n x hx
  show ((UInt8.ofNat x.toNat).toNat : Int) = x
  rw [UInt8.toNat_ofNat']
  omega
/-- The digits, turned into a text. -/
theorem RowEnd.text {W : World} {ab n i : Nat} {T : List Int} (h : RowEnd W ab T) (hT : T = hexL n) (hi : 65 - T.length = i) (cap : Nat) :
    (convert 37 9 (.slice (some ⟨ab, i, none⟩) T.length cap)).run Tryd.prog W = .ok (.string ⟨(hexS n).toArray⟩) W := by
  obtain ⟨⟨cur, hblk, hsz, hcur⟩, hl6⟩ := h
  have hl : (hexS n).length = T.length := by unfold hexS; rw [List.length_map, hT]
  have h9 := run_convert_bytes_back (P := Tryd.prog) W 37 9 5 ⟨ab, i, none⟩ cap (hexS n) (by kernel_rfl) (by kernel_rfl) (by kernel_rfl) (fun j hj => by
    have hjT : j < T.length := by omega
    have h1 := hcur j T[j] (List.getElem?_eq_getElem hjT)
    rw [hi] at h1
    have h2 : ((hexS n)[j].toNat : Int) = T[j] := by
      have h3 := hexS_nums n
      have h4 : (Utf.nums (⟨(hexS n).toArray⟩ : ByteArray))[j]? = T[j]? := by rw [h3, hT]
      unfold Utf.nums at h4
      rw [List.getElem?_map, List.getElem?_eq_getElem hjT] at h4
      have h5 : ((hexS n)[j]?).map (fun b => (b.toNat : Int)) = some T[j] := h4
      rw [List.getElem?_eq_getElem hj] at h5
      exact Option.some.inj h5
    rw [h2]
    rw [Addr.add_lit]
    simp [World.cell?, hblk, h1])
  rw [hl] at h9
  exact h9
theorem slice65 (W : World) (ab i m : Nat) (hi : i + m = 65) (hm : 1 ≤ m) : (Instr.sliceAt 92 (.pointer (some ⟨ab, 0, none⟩)) (some (.int .i64 (i : Int))) none none).run Tryd.prog W = .ok (.slice (some ⟨ab, i, none⟩) m m) W := by
  have hu : Tryd.prog.underlying 92 = some (.array 65 5) := by kernel_rfl
  have hal : Tryd.prog.arrayLen 92 = 65 := by simp [Program.arrayLen, hu]
  rw [run_sliceAt_array_l W 92 ⟨ab, 0, none⟩ (by simp [Program.arrayLen, Program.elem, hu]) .i64 (i : Int) (by omega) (by rw [hal]; omega)]
  have e1 : 65 - i = m := by omega
  simp only [hal]
  go_simp
  omega
set_option maxRecDepth 100000 in
set_option maxHeartbeats 4000000 in
theorem fbits_any (W : World) (n : Nat) (hn : n ≤ 1114111) (h : TzAt W) : Calls Tryd.prog 65 #[.slice none 0 0, .int .u64 (n : Int), .int .i64 16, .bool false, .bool false] W fun e w' =>
    ∃ T : ByteArray, e = .returned (.tuple #[.slice none 0 0, .string T]) ∧ Utf.nums T = hexL n ∧ Below W.heap.size W w' := by
  have p0 : bits .and .i64 16 15 = 0 := by decide +kernel
  have HZ := Lib.hid h
  clear h
  go_enter Tryd.func65, Tryd.ntmps65
  go_wp2_with fail
  obtain ⟨w1, hw1⟩ : ∃ w1, W.alloc (.cells Tryd.zeroCells92 92) = w1 := ⟨_, rfl⟩
  obtain ⟨ab, hab⟩ : ∃ ab, W.heap.size = ab := ⟨_, rfl⟩
  have hb1 : Below W.heap.size W w1 := by rw [← hw1]; exact (Below.refl _ _).alloc (Nat.le_refl _) _
  have HR1 : Hid (RowEnd w1 ab []) := Lib.hid ⟨⟨_, by rw [← hw1, ← hab]; exact heap_alloc_new _ _, by kernel_rfl, fun j x h => by simp at h⟩, by simp⟩
  have HB1 := Lib.hid hb1
  have HZ1 := Lib.hid (HZ.out.below (Nat.le_refl _) hb1)
  rw [hw1, hab]
  have HAB := Lib.hid hab
  clear hw1 hab hb1 p0
  refine (pow16_any _).mono ?_
  rintro e w' ⟨rfl, rfl⟩
  go_wp2_with fail
  refine (tz16_any _ HZ1.out).mono ?_
  rintro e w' ⟨rfl, rfl⟩
  go_wp2
  go_loopw [1, 13] (fun uv iv wr => ∃ (u : Nat) (T : List Int), uv = .int .u64 (u : Int) ∧ iv = .int .i64 ((65 - T.length : Nat) : Int) ∧ T.length ≤ 5 ∧ u < 16 ^ (6 - T.length) ∧ Hid (hexL n = hexL u ++ T) ∧ Hid (RowEnd wr ab T) ∧ Hid (Below W.heap.size W wr)) (fun uv _ _ => (intOf uv).toNat)
  case atStart => exact ⟨n, [], rfl, rfl, by simp, by simp; omega, Lib.hid (by simp), HR1, HB1⟩
  case round =>
    obtain ⟨u, T, rfl, rfl, hT5, hu6, HH, HR, HB⟩ := hrel
    obtain ⟨⟨cur, hblk, hsz, hcur⟩, hl6⟩ := HR.out
    obtain ⟨k, hk⟩ : ∃ k, T.length = k := ⟨_, rfl⟩
    rw [hk] at hT5 hu6 hcur hl6 ⊢
    obtain ⟨i, hi⟩ : ∃ i, 64 - k = i := ⟨_, rfl⟩
    have hi1 : 65 - k = i + 1 := by omega
    rw [hi1] at hcur ⊢
    have hcell : ∀ j, j < 65 → wr.cell? ⟨ab, j, none⟩ = cur[j]? := fun j hj => by simp [World.cell?, hblk]
    have hfr : wr.frozen? ⟨ab, i, none⟩ = false := by simp [World.frozen?, hblk]
    have hci : wr.cell? ⟨ab, i, none⟩ = some (cur[i]'(by omega)) := by rw [hcell i (by omega), Array.getElem?_eq_getElem (by omega)]
    have hw1 : IntKind.i64.wrap (((i + 1 : Nat) : Int) - 1) = (i : Int) := by rw [IntKind.wrap_i64]; omega
    have hi65 : (i : Int) < 65 := by omega
    have hi0 : (0 : Int) ≤ (i : Int) := by omega
    have hi65n : i < 65 := by omega
    obtain ⟨d, hd⟩ : ∃ d, u % 16 = d := ⟨_, rfl⟩
    obtain ⟨q, hq⟩ : ∃ q, u / 16 = q := ⟨_, rfl⟩
    have hd16 : d < 16 := by omega
    have hu64 : u < 18446744073709551616 := by
      have : 16 ^ (6 - k) ≤ 16 ^ 6 := Nat.pow_le_pow_right (by decide) (by omega)
      omega
    by_cases hge : 16 ≤ u
    · have hgi : (16 : Int) ≤ (u : Int) := by omega
      have hand : bits .and .u64 (u : Int) 15 = (d : Int) := by
        rw [show (15 : Int) = ((15 : Nat) : Int) from rfl, bits_and_u64_nat u 15 hu64 (by decide), ← hd]
        congr 1
        exact Nat.and_two_pow_sub_one_eq_mod u 4
      have hdi : (d : Int) < 36 := by omega
      have hdn : d < 36 := by omega
      have hd0 : (0 : Int) ≤ (d : Int) := by omega
      clear hblk hcur hcell
      have HST := Lib.hid (HR.out.step (by omega) (i := i) (by omega) (Br.hd d))
      have HBS := Lib.hid (below_set (i := i) HB.out (by rw [HAB.out]; exact Nat.le_refl _) (.int .u8 (Br.hd d)))
      have hdg := digB_at d hd16 (by show d < 36; omega)
      have HDG := Lib.hid hdg
      have HQ : Hid ((u : Int) / 16 = (q : Int)) := Lib.hid (by omega)
      have HLX : Hid (hexL n = hexL q ++ (Br.hd d :: T)) := Lib.hid (by rw [HH.out, hexL_big (n := u) (by omega), hq, hd, List.append_assoc]; rfl)
      have hq6 : q < 16 ^ (6 - (k + 1)) := by
        have e : 16 ^ (6 - k) = 16 ^ (6 - (k + 1)) * 16 := by rw [← Nat.pow_succ]; congr 1; omega
        omega
      have hk4 : k + 1 ≤ 5 := by
        rcases Nat.lt_or_ge k 5 with g | g
        · omega
        · exfalso
          have : k = 5 := by omega
          subst this
          simp at hu6
          omega
      clear hdg
      go_wp2
      refine ⟨⟨q, Br.hd d :: T, by rw [HQ.out], by rw [List.length_cons, hk, show 65 - (k + 1) = i by omega], by rw [List.length_cons, hk]; exact hk4, by rw [List.length_cons, hk]; exact hq6, HLX, ?_, ?_⟩, ?_⟩
      · exact Lib.hid (by have e := HDG.out; unfold digB at e; rw [e]; exact HST.out)
      · exact Lib.hid (by have e := HDG.out; unfold digB at e; rw [e]; exact HBS.out)
      · simp [intOf]; omega
    · have hgi : ¬ (16 : Int) ≤ (u : Int) := by omega
      obtain rfl : u = d := by omega
      have hdi : (u : Int) < 36 := by omega
      have hdn : u < 36 := by omega
      have hd0 : (0 : Int) ≤ (u : Int) := by omega
      clear hblk hcur hcell hd hq
      have HST := Lib.hid (HR.out.step (by omega) (i := i) (by omega) (Br.hd u))
      have HBS := Lib.hid (below_set (i := i) HB.out (by rw [HAB.out]; exact Nat.le_refl _) (.int .u8 (Br.hd u)))
      have hdg := digB_at u hd16 (by show u < 36; omega)
      have HDG := Lib.hid hdg
      have HLX : Hid (Br.hd u :: T = hexL n) := Lib.hid (by rw [HH.out, hexL_small (n := u) (by omega)]; rfl)
      have hsl := fun w => slice65 w ab i (k + 1) (by omega) (by omega)
      have HTX := Lib.hid (fun cap => HST.out.text (n := n) (i := i) HLX.out (by rw [List.length_cons]; omega) cap)
      rw [List.length_cons, hk] at HTX
      have hcv := HTX.out (k + 1)
      have e9 := HDG.out
      unfold digB at e9
      rw [← e9] at hcv
      clear hdg e9
      have HCL := Lib.hid (hexS_nums n)
      go_wp2
      go_ret2
      exact ⟨_, rfl, HCL.out, by have e := HDG.out; unfold digB at e; rw [e]; exact HBS.out⟩
set_option maxRecDepth 100000 in
set_option maxHeartbeats 4000000 in
theorem fint_any (W : World) (n : Nat) (hn : n ≤ 1114111) (h : TzAt W) : Calls Tryd.prog 59 #[.int .i64 (n : Int), .int .i64 16] W fun e w' =>
    ∃ T : ByteArray, e = .returned (.string T) ∧ Utf.nums T = hexL n ∧ Below W.heap.size W w' := by
  have HZ := Lib.hid h
  have h0 : ¬ (n : Int) < 0 := by omega
  have hd : decide ((n : Int) < 0) = false := decide_eq_false h0
  have hw : IntKind.u64.wrap (n : Int) = (n : Int) := by rw [IntKind.wrap_u64]; omega
  clear h
  go_enter Tryd.func59, Tryd.ntmps59
  go_wp2_with fail
  refine (fbits_any W n hn HZ.out).mono ?_
  rintro e w' ⟨T, rfl, hT, hb⟩
  have HT := Lib.hid hT
  have HB := Lib.hid hb
  clear hT hb
  go_wp2
  go_ret
  exact ⟨T, rfl, HT.out, HB.out⟩
theorem fmt16_any (W : World) (n : Nat) (hn : n ≤ 1114111) (h : TzAt W) : Calls Tryd.prog 51 #[.int .i64 (n : Int), .int .i64 16] W fun e w' =>
    ∃ T : ByteArray, e = .returned (.string T) ∧ Utf.nums T = hexL n ∧ Below W.heap.size W w' := by
  have HZ := Lib.hid h
  clear h
  go_enter Tryd.func51, Tryd.ntmps51
  go_wp2_with fail
  refine (fint_any W n hn HZ.out).mono ?_
  rintro e w' ⟨T, rfl, hT, hb⟩
  have HT := Lib.hid hT
  have HB := Lib.hid hb
  clear hT hb
  go_wp2
  go_ret
  exact ⟨T, rfl, HT.out, HB.out⟩
/-- show.escape: a number in the form of braces. -/
theorem escape_show (W : World) (n : Nat) (hn : n ≤ 1114111) (h : TzAt W) : Calls Tryd.prog 35 #[.int .i64 (n : Int)] W fun e w' =>
    ∃ T : ByteArray, e = .returned (.string T) ∧ Utf.nums T = Br.esc n ∧ Below W.heap.size W w' := by
  have HZ := Lib.hid h
  clear h
  go_enter Tryd.func35, Tryd.ntmps35
  go_wp2_with fail
  refine (fmt16_any W n hn HZ.out).mono ?_
  rintro e w' ⟨T, rfl, hT, hb⟩
  have hz : T.size ≤ 6 := by rw [← Utf.nums_length, hT]; exact (Br.hexL6 hn).2
  have HT := Lib.hid hT
  have HB := Lib.hid hb
  have n1 : ¬ 9223372036854775807 < 3 + T.size := by omega
  have n2 : ¬ 9223372036854775807 < 3 + T.size + 1 := by omega
  have hP : ((⟨#[92, 120, 123]⟩ : ByteArray) ++ T).size = 3 + T.size := ByteArray.size_append ..
  have n3 : ¬ 9223372036854775807 < ((⟨#[92, 120, 123]⟩ : ByteArray) ++ T).size + 1 := by omega
  have HN : Hid (Utf.nums (((⟨#[92, 120, 123]⟩ : ByteArray) ++ T) ++ (⟨#[125]⟩ : ByteArray)) = Br.esc n) := Lib.hid (by
    rw [Br.nums_append', Br.nums_append', hT]
    unfold Br.esc
    show (92 :: 120 :: 123 :: hexL n) ++ [125] = _
    rfl)
  clear hT hb hP
  go_wp2
  go_ret
  exact ⟨_, rfl, HN.out, HB.out⟩
end Go.Proofs.YtdcielcniboloaaDoor
namespace Go.Proofs
open Go.Shelf
def Tryd.layItoa_ren : Go.Shelf.Ren := ⟨fun | 171 => 61 | 243 => 66 | 246 => 59 | 283 => 62 | 284 => 63 | 285 => 64 | 286 => 65 | 129 => 68 | 317 => 67 | 318 => 69 | 319 => 70 | 320 => 71 | 337 => 72 | 338 => 73 | n => n, fun | 3 => 3 | 9 => 9 | 2 => 2 | 4 => 4 | 171 => 82 | 0 => 0 | 53 => 83 | 37 => 37 | 5 => 5 | 173 => 86 | 212 => 90 | 51 => 91 | 20 => 20 | 213 => 92 | 46 => 93 | 232 => 96 | 233 => 97 | n => n, fun | 17 => 0 | 18 => 1 | 19 => 2 | n => n⟩
theorem Tryd.layItoa : Go.Proofs.LaysM.n171 Tryd.prog Tryd.layItoa_ren := {
  mixed := by kernel_rfl
  f129 := Tryd.func68.trans (congrArg some (by kernel_rfl))
  f171 := Tryd.func61.trans (congrArg some (by kernel_rfl))
  f243 := Tryd.func66.trans (congrArg some (by kernel_rfl))
  f246 := Tryd.func59.trans (congrArg some (by kernel_rfl))
  f283 := Tryd.func62.trans (congrArg some (by kernel_rfl))
  f284 := Tryd.func63.trans (congrArg some (by kernel_rfl))
  f285 := Tryd.func64.trans (congrArg some (by kernel_rfl))
  f286 := Tryd.func65.trans (congrArg some (by kernel_rfl))
  f317 := Tryd.func67.trans (congrArg some (by kernel_rfl))
  f318 := Tryd.func69.trans (congrArg some (by kernel_rfl))
  f319 := Tryd.func70.trans (congrArg some (by kernel_rfl))
  f320 := Tryd.func71.trans (congrArg some (by kernel_rfl))
  f337 := Tryd.func72.trans (congrArg some (by kernel_rfl))
  f338 := Tryd.func73.trans (congrArg some (by kernel_rfl))
  t0 := Tryd.underlying0
  a0 := Tryd.isAgg0
  z0 := Tryd.sizeOf0
  v0 := Tryd.zeroValue0
  t2 := Tryd.underlying2
  a2 := Tryd.isAgg2
  z2 := Tryd.sizeOf2
  v2 := Tryd.zeroValue2
  t3 := Tryd.underlying3
  a3 := Tryd.isAgg3
  z3 := Tryd.sizeOf3
  v3 := Tryd.zeroValue3
  t4 := Tryd.underlying4
  a4 := Tryd.isAgg4
  z4 := Tryd.sizeOf4
  v4 := Tryd.zeroValue4
  t5 := Tryd.underlying5
  a5 := Tryd.isAgg5
  z5 := Tryd.sizeOf5
  v5 := Tryd.zeroValue5
  t9 := Tryd.underlying9
  a9 := Tryd.isAgg9
  z9 := Tryd.sizeOf9
  v9 := Tryd.zeroValue9
  t20 := Tryd.underlying20
  a20 := Tryd.isAgg20
  z20 := Tryd.sizeOf20
  v20 := Tryd.zeroValue20
  t37 := Tryd.underlying37
  a37 := Tryd.isAgg37
  z37 := Tryd.sizeOf37
  v37 := Tryd.zeroValue37
  t46 := Tryd.underlying93
  a46 := Tryd.isAgg93
  z46 := Tryd.sizeOf93
  v46 := Tryd.zeroValue93
  t51 := Tryd.underlying91
  a51 := Tryd.isAgg91
  z51 := Tryd.sizeOf91
  v51 := Tryd.zeroValue91
  t53 := Tryd.underlying83
  a53 := Tryd.isAgg83
  z53 := Tryd.sizeOf83
  v53 := Tryd.zeroValue83
  t171 := Tryd.underlying82
  a171 := Tryd.isAgg82
  z171 := Tryd.sizeOf82
  v171 := Tryd.zeroValue82
  t173 := Tryd.underlying86
  a173 := Tryd.isAgg86
  z173 := Tryd.sizeOf86
  v173 := Tryd.zeroValue86
  t212 := Tryd.underlying90
  a212 := Tryd.isAgg90
  z212 := Tryd.sizeOf90
  v212 := Tryd.zeroValue90
  t213 := Tryd.underlying92
  a213 := Tryd.isAgg92
  z213 := Tryd.sizeOf92
  t232 := Tryd.underlying96
  a232 := Tryd.isAgg96
  z232 := Tryd.sizeOf96
  v232 := Tryd.zeroValue96
  t233 := Tryd.underlying97
  a233 := Tryd.isAgg97
  z233 := Tryd.sizeOf97
  v233 := Tryd.zeroValue97
  g17 := by kernel_rfl
  g18 := by kernel_rfl
  g19 := by kernel_rfl
  i0 := by kernel_rfl
  i2 := by kernel_rfl
  i3 := by kernel_rfl
  i4 := by kernel_rfl
  i5 := by kernel_rfl
  i9 := by kernel_rfl
  i20 := by kernel_rfl
  i37 := by kernel_rfl
  i46 := by kernel_rfl
  i51 := by kernel_rfl
  i53 := by kernel_rfl
  i171 := by kernel_rfl
  i173 := by kernel_rfl
  i212 := by kernel_rfl
  i232 := by kernel_rfl
  i233 := by kernel_rfl
  m17 := by kernel_rfl
  m18 := by kernel_rfl
  m19 := by kernel_rfl }
end Go.Proofs
