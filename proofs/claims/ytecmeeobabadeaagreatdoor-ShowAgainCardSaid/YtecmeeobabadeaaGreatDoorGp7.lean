/- A number in decimal digits. · Mathematics of show: a tree as a pattern. · strconv.FormatInt at base 16. · Functions of the library: the library's contracts, laid over this translation. -/
import Derived.Test.YtecmeeobabadeaaGreatDoorGp6
import Derived.Test.YtecmeeobabadeaaGreatDoorGp2
import Derived.Test.YtecmeeobabadeaaGreatDoorGp5
import Derived.Test.YtecmeeobabadeaaGreatDoorGp3
import Derived.Laws.IdiomStrings
import Derived.Laws.Bits64b
import Derived.Shelf.Strconv.Itoa4
import Derived.Test.YtecmeeobabadeaaGreatDoorProg
namespace Go.Proofs.YtecmeeobabadeaaGreatDoor
set_option linter.unusedVariables false
namespace Lx
def decF : Nat → Nat → List Int
  | 0, _ => []
  | f + 1, n => if n < 10 then [48 + (n : Int)] else decF f (n / 10) ++ [48 + ((n % 10 : Nat) : Int)]
/-- A number below a million in its decimal digits. -/
def decL (n : Nat) : List Int := decF 6 n
theorem decF_dec : ∀ (f n : Nat), (decF f n).all decB = true
  | 0, _ => rfl
  | f + 1, n => by
    unfold decF
    split
    · simp [decB]; omega
    · rw [List.all_append, decF_dec f (n / 10)]
      simp [decB]; omega
theorem decF_val : ∀ (f n : Nat) , n < 10 ^ f → 0 < f → dval (decF f n) = n
  | 0, _, _, h => by omega
  | f + 1, n, h, _ => by
    unfold decF
    by_cases h1 : n < 10
    · rw [if_pos h1]; unfold dval; simp; omega
    · rw [if_neg h1]
      have e1 : n / 10 < 10 ^ f := by rw [Nat.pow_succ] at h; omega
      have f0 : 0 < f := by
        rcases Nat.eq_zero_or_pos f with e | e
        · subst e; simp at h; omega
        · exact e
      have ih := decF_val f (n / 10) e1 f0
      unfold dval at ih ⊢
      rw [List.foldl_append, ih]
      simp
      omega
theorem decL_val (n : Nat) (h : n < 1000000) : dval (decL n) = n := decF_val 6 n (by omega) (by omega)
theorem decL_dec (n : Nat) : (decL n).all decB = true := decF_dec 6 n
theorem decF_len : ∀ (f n : Nat), 0 < f → n < 10 ^ f → 1 ≤ (decF f n).length ∧ (decF f n).length ≤ f ∧ (∀ g, 0 < g → n < 10 ^ g → (decF f n).length ≤ g) ∧ (∀ g, 10 ^ g ≤ n → g < (decF f n).length)
  | 0, _, h, _ => by omega
  | f + 1, n, _, h => by
    unfold decF
    by_cases h1 : n < 10
    · rw [if_pos h1]
      refine ⟨by simp, by simp, fun g hg _ => by simp; omega, fun g hg => ?_⟩
      rcases Nat.eq_zero_or_pos g with e | e
      · subst e; simp
      · have : 10 ^ 1 ≤ 10 ^ g := Nat.pow_le_pow_right (by omega) e
        omega
    · rw [if_neg h1]
      have e1 : n / 10 < 10 ^ f := by rw [Nat.pow_succ] at h; omega
      have f0 : 0 < f := by
        rcases Nat.eq_zero_or_pos f with e | e
        · subst e; simp at h; omega
        · exact e
      obtain ⟨a, b, c, d⟩ := decF_len f (n / 10) f0 e1
      rw [List.length_append]
      simp only [List.length_cons, List.length_nil]
      refine ⟨by omega, by omega, fun g hg hn => ?_, fun g hg => ?_⟩
      · cases g with
        | zero => omega
        | succ g =>
          rcases Nat.eq_zero_or_pos g with e | e
          · subst e; simp at hn; omega
          · have := c g e (by rw [Nat.pow_succ] at hn; omega)
            omega
      · cases g with
        | zero => omega
        | succ g =>
          have := d g (by rw [Nat.pow_succ] at hg; omega)
          omega
end Lx
end Go.Proofs.YtecmeeobabadeaaGreatDoor
namespace Go.Proofs.YtecmeeobabadeaaGreatDoor.Sh
open Go.Proofs.YtecmeeobabadeaaGreatDoor.Br (esc hexL)
open Go.Proofs.YtecmeeobabadeaaGreatDoor.Lx (decL)
set_option linter.unusedVariables false
/-- A number outside of brackets. -/
def charL (r : Int) : List Int := if (48 ≤ r ∧ r ≤ 57) ∨ (65 ≤ r ∧ r ≤ 90) ∨ (97 ≤ r ∧ r ≤ 122) then [r] else esc r.toNat
def aboutL (n : Int) : List Int := if n = 1 then [92, 65] else if n = 2 then [92, 122] else if n = 3 then [40, 63, 109, 58, 94, 41] else if n = 4 then [40, 63, 109, 58, 36, 41] else if n = 5 then [92, 98] else [92, 66]
def openL (nm : ByteArray) : List Int := if nm = ⟨#[]⟩ then [40] else [40, 63, 80, 60] ++ Utf.nums nm ++ [62]
def countL (lo hi : Int) : List Int :=
  if lo = 0 ∧ hi = -1 then [42] else if lo = 1 ∧ hi = -1 then [43] else if lo = 0 ∧ hi = 1 then [63] else if hi = lo then 123 :: (decL lo.toNat ++ [125]) else
  if hi = -1 then 123 :: (decL lo.toNat ++ [44, 125]) else 123 :: (decL lo.toNat ++ 44 :: (decL hi.toNat ++ [125]))
def timesL (lo hi : Int) (lz : Bool) : List Int := countL lo hi ++ (if lz then [63] else [])
/-- A range between brackets. -/
def rgL (p : Int × Int) : List Int := esc p.1.toNat ++ (if p.1 < p.2 then 45 :: esc p.2.toNat else [])
def setL (l : List (Int × Int)) : List Int :=
  if l.length = 1 ∧ (l[0]?.getD (0, 0)).1 = (l[0]?.getD (0, 0)).2 then charL (l[0]?.getD (0, 0)).1 else 91 :: (l.flatMap rgL ++ [93])
def noneL : List Int := 91 :: 94 :: (esc 0 ++ 45 :: (esc 1114111 ++ [93]))
/-- Is a part wrapped? -/
def wrapB (K j : Int) : Bool := decide (j = 8) || (decide (j = 7) && !decide (K = 8)) || (decide (j = 9) && decide (K = 9))
def wrapL (b : Bool) (x : List Int) : List Int := if b then [40, 63, 58] ++ x ++ [41] else x
/-- Alternatives, one behind another. -/
def altL : List (List Int) → List Int
  | [] => []
  | [x] => x
  | x :: y :: l => x ++ 124 :: altL (y :: l)
theorem altL_snoc (a : List Int) : ∀ (l : List (List Int)), l ≠ [] → altL (l ++ [a]) = altL l ++ 124 :: a
  | [], h => absurd rfl h
  | [x], _ => rfl
  | x :: y :: l, _ => by
    show x ++ 124 :: altL (y :: l ++ [a]) = (x ++ 124 :: altL (y :: l)) ++ 124 :: a
    rw [altL_snoc a (y :: l) (by simp)]
    simp
/-- A tree as a pattern, down to a depth. -/
def shL : Nat → Nd → List Int
  | 0, _ => []
  | k + 1, n =>
    if Td.kind n = 1 then [40, 63, 58, 41] else
    if Td.kind n = 2 then noneL else
    if Td.kind n = 3 then setL (Td.set n) else
    if Td.kind n = 4 then [92, 67] else
    if Td.kind n = 5 then aboutL (Td.num n) else
    if Td.kind n = 6 then openL (Td.name n) ++ (Td.subs n).flatMap (shL k) ++ [41] else
    if Td.kind n = 7 then (Td.subs n).flatMap (fun m => wrapL (wrapB 7 (Td.kind m)) (shL k m)) else
    if Td.kind n = 8 then altL ((Td.subs n).map fun m => wrapL (wrapB 8 (Td.kind m)) (shL k m)) else
    (Td.subs n).flatMap (fun m => wrapL (wrapB 9 (Td.kind m)) (shL k m)) ++ timesL (Td.mn n) (Td.mx n) (Td.lazy n)
def partL (k : Nat) (K : Int) (m : Nd) : List Int := wrapL (wrapB K (Td.kind m)) (shL k m)
end Go.Proofs.YtecmeeobabadeaaGreatDoor.Sh
namespace Go.Proofs.YtecmeeobabadeaaGreatDoor
open Go.RowKit
open Br (hexL hexL_small hexL_big)
set_option linter.unusedVariables false
/-- The one cell of a table that is read to find out that 16 is 2 to the 4th. -/
def TzAt (W : World) : Prop := W.cell? ⟨8, (16 * 285870213051353865 % 18446744073709551616 / 288230376151711744 : Nat), none⟩ = some (.int .u8 4)
theorem TzAt.below {W W' : World} {B : Nat} (h : TzAt W) (hB : W.heap.size ≤ B) (hb : Below B W W') : TzAt W' := by
  unfold TzAt at h ⊢
  have hlt : 8 < W.heap.size := by
    rcases Nat.lt_or_ge 8 W.heap.size with g | g
    · exact g
    · rw [World.cell?] at h
      dsimp only at h
      rw [Array.getElem?_eq_none g] at h
      cases h
  exact (hb.cell (p := ⟨8, _, none⟩) (Nat.lt_of_lt_of_le hlt hB)).trans h
set_option maxRecDepth 100000 in
set_option maxHeartbeats 4000000 in
theorem tz16_any (W : World) (h : TzAt W) : Calls Tryz.prog 241 #[.int .u64 16] W fun e w' => e = .returned (.int .i64 4) ∧ W = w' := by
  unfold TzAt at h
  have key : IntKind.u64.wrap (bits BinOp.and IntKind.u64 16 (IntKind.u64.wrap (-16)) * 285870213051353865) / 288230376151711744 = ((16 * 285870213051353865 % 18446744073709551616 / 288230376151711744 : Nat) : Int) := by decide +kernel
  go_enter Tryz.func241, Tryz.ntmps241
  go_wp2
  go_ret
  exact ⟨rfl, rfl⟩
def digB : ByteArray := ⟨#[48, 49, 50, 51, 52, 53, 54, 55, 56, 57, 97, 98, 99, 100, 101, 102, 103, 104, 105, 106, 107, 108, 109, 110, 111, 112, 113, 114, 115, 116, 117, 118, 119, 120, 121, 122]⟩
theorem pow16_any (W : World) : Calls Tryz.prog 240 #[.int .i64 16] W fun e w' => e = .returned (.bool true) ∧ W = w' := by
  have p0 : bits .and .i64 16 15 = 0 := by decide +kernel
  go_enter Tryz.func240, Tryz.ntmps240
  go_wp2
  go_ret
  exact ⟨rfl, rfl⟩
/-- The row of digits: T at its end. -/
structure RowEnd (W : World) (ab : Nat) (T : List Int) : Prop where
  blk : ∃ cur : Array Value, W.heap[ab]? = some (.cells cur 225 (0, 0)) ∧ cur.size = 65 ∧ ∀ j x, T[j]? = some x → cur[65 - T.length + j]? = some (.int .u8 x)
  len : T.length ≤ 6
theorem digB_at (d : Nat) (hd : d < 16) (h : d < digB.size) : ((digB[d]'h).toNat : Int) = Br.hd d := by
  have hk : ∀ k : Fin 16, ((digB[k.1]'(Nat.lt_of_lt_of_le k.2 (by decide))).toNat : Int) = Br.hd k.1 := by decide
  exact hk ⟨d, hd⟩
theorem RowEnd.step {W : World} {ab : Nat} {T : List Int} (h : RowEnd W ab T) (hT : T.length ≤ 5) {i : Nat} (hi : 65 - T.length = i + 1) (x : Int) : RowEnd (W.setCell ⟨ab, i, none⟩ (.int .u8 x)) ab (x :: T) := by
  obtain ⟨⟨cur, hblk, hsz, hcur⟩, hl6⟩ := h
  refine ⟨⟨_, heap_setCell_same W ab i _ _ (.int .u8 x) hblk, by rw [Array.size_setIfInBounds]; exact hsz, fun j y hj => ?_⟩, by rw [List.length_cons]; omega⟩
  have e : 65 - (x :: T).length = i := by rw [List.length_cons]; omega
  rw [e]
  cases j with
  | zero =>
    obtain rfl : x = y := by simpa using hj
    rw [Nat.add_zero, Array.getElem?_setIfInBounds, if_pos rfl, if_pos (by omega)]
  | succ j =>
    have hj' : T[j]? = some y := by simpa using hj
    have := hcur j y hj'
    rw [hi] at this
    rw [show i + (j + 1) = i + 1 + j by omega]
    rw [← this]
    rw [Array.getElem?_setIfInBounds, if_neg (by omega)]
theorem below_set {W W' : World} {B ab i : Nat} (h : Below B W W') (hab : B ≤ ab) (v : Value) : Below B W (W'.setCell ⟨ab, i, none⟩ v) := h.setCell (p := ⟨ab, i, none⟩) hab v
def hexS (n : Nat) : List UInt8 := (hexL n).map fun x => UInt8.ofNat x.toNat
theorem hexS_nums (n : Nat) : Utf.nums (⟨(hexS n).toArray⟩ : ByteArray) = hexL n := by
  unfold Utf.nums hexS
  simp only [List.map_map]
  refine (List.map_congr_left (fun x hx => ?_)).trans (List.map_id _)
  have := Br.hexL_all n x hx
  show ((UInt8.ofNat x.toNat).toNat : Int) = x
  rw [UInt8.toNat_ofNat']
  omega
/-- The digits, turned into a text. -/
theorem RowEnd.text {W : World} {ab n i : Nat} {T : List Int} (h : RowEnd W ab T) (hT : T = hexL n) (hi : 65 - T.length = i) (cap : Nat) :
    (convert 54 9 (.slice (some ⟨ab, i, none⟩) T.length cap)).run Tryz.prog W = .ok (.string ⟨(hexS n).toArray⟩) W := by
  obtain ⟨⟨cur, hblk, hsz, hcur⟩, hl6⟩ := h
  have hl : (hexS n).length = T.length := by unfold hexS; rw [List.length_map, hT]
  have h9 := run_convert_bytes_back (P := Tryz.prog) W 54 9 5 ⟨ab, i, none⟩ cap (hexS n) (by kernel_rfl) (by kernel_rfl) (by kernel_rfl) (fun j hj => by
    have hjT : j < T.length := by omega
    have h1 := hcur j T[j] (List.getElem?_eq_getElem hjT)
    rw [hi] at h1
    have h2 : ((hexS n)[j].toNat : Int) = T[j] := by
      have h3 := hexS_nums n
      have h4 : (Utf.nums (⟨(hexS n).toArray⟩ : ByteArray))[j]? = T[j]? := by rw [h3, hT]
      unfold Utf.nums at h4
      rw [List.getElem?_map, List.getElem?_eq_getElem hjT] at h4
      have h5 : ((hexS n)[j]?).map (fun b => (b.toNat : Int)) = some T[j] := h4
      rw [List.getElem?_eq_getElem hj] at h5
      exact Option.some.inj h5
    rw [h2]
    rw [Addr.add_lit]
    simp [World.cell?, hblk, h1])
  rw [hl] at h9
  exact h9
theorem slice65 (W : World) (ab i m : Nat) (hi : i + m = 65) (hm : 1 ≤ m) : (Instr.sliceAt 225 (.pointer (some ⟨ab, 0, none⟩)) (some (.int .i64 (i : Int))) none none).run Tryz.prog W = .ok (.slice (some ⟨ab, i, none⟩) m m) W := by
  have hu : Tryz.prog.underlying 225 = some (.array 65 5) := by kernel_rfl
  have hal : Tryz.prog.arrayLen 225 = 65 := by simp [Program.arrayLen, hu]
  rw [run_sliceAt_array_l W 225 ⟨ab, 0, none⟩ (by simp [Program.arrayLen, Program.elem, hu]) .i64 (i : Int) (by omega) (by rw [hal]; omega)]
  have e1 : 65 - i = m := by omega
  simp only [hal]
  go_simp
  omega
set_option maxRecDepth 100000 in
set_option maxHeartbeats 4000000 in
theorem fbits_any (W : World) (n : Nat) (hn : n ≤ 1114111) (h : TzAt W) : Calls Tryz.prog 199 #[.slice none 0 0, .int .u64 (n : Int), .int .i64 16, .bool false, .bool false] W fun e w' =>
    ∃ T : ByteArray, e = .returned (.tuple #[.slice none 0 0, .string T]) ∧ Utf.nums T = hexL n ∧ Below W.heap.size W w' := by
  have p0 : bits .and .i64 16 15 = 0 := by decide +kernel
  have HZ := Lib.hid h
  clear h
  go_enter Tryz.func199, Tryz.ntmps199
  go_wp2_with fail
  obtain ⟨w1, hw1⟩ : ∃ w1, W.alloc (.cells Tryz.zeroCells225 225) = w1 := ⟨_, rfl⟩
  obtain ⟨ab, hab⟩ : ∃ ab, W.heap.size = ab := ⟨_, rfl⟩
  have hb1 : Below W.heap.size W w1 := by rw [← hw1]; exact (Below.refl _ _).alloc (Nat.le_refl _) _
  have HR1 : Hid (RowEnd w1 ab []) := Lib.hid ⟨⟨_, by rw [← hw1, ← hab]; exact heap_alloc_new _ _, by kernel_rfl, fun j x h => by simp at h⟩, by simp⟩
  have HB1 := Lib.hid hb1
  have HZ1 := Lib.hid (HZ.out.below (Nat.le_refl _) hb1)
  rw [hw1, hab]
  have HAB := Lib.hid hab
  clear hw1 hab hb1 p0
  refine (pow16_any _).mono ?_
  rintro e w' ⟨rfl, rfl⟩
  go_wp2_with fail
  refine (tz16_any _ HZ1.out).mono ?_
  rintro e w' ⟨rfl, rfl⟩
  go_wp2
  go_loopw [1, 13] (fun uv iv wr => ∃ (u : Nat) (T : List Int), uv = .int .u64 (u : Int) ∧ iv = .int .i64 ((65 - T.length : Nat) : Int) ∧ T.length ≤ 5 ∧ u < 16 ^ (6 - T.length) ∧ Hid (hexL n = hexL u ++ T) ∧ Hid (RowEnd wr ab T) ∧ Hid (Below W.heap.size W wr)) (fun uv _ _ => (intOf uv).toNat)
  case atStart => exact ⟨n, [], rfl, rfl, by simp, by simp; omega, Lib.hid (by simp), HR1, HB1⟩
  case round =>
    obtain ⟨u, T, rfl, rfl, hT5, hu6, HH, HR, HB⟩ := hrel
    obtain ⟨⟨cur, hblk, hsz, hcur⟩, hl6⟩ := HR.out
    obtain ⟨k, hk⟩ : ∃ k, T.length = k := ⟨_, rfl⟩
    rw [hk] at hT5 hu6 hcur hl6 ⊢
    obtain ⟨i, hi⟩ : ∃ i, 64 - k = i := ⟨_, rfl⟩
    have hi1 : 65 - k = i + 1 := by omega
    rw [hi1] at hcur ⊢
    have hcell : ∀ j, j < 65 → wr.cell? ⟨ab, j, none⟩ = cur[j]? := fun j hj => by simp [World.cell?, hblk]
    have hfr : wr.frozen? ⟨ab, i, none⟩ = false := by simp [World.frozen?, hblk]
    have hci : wr.cell? ⟨ab, i, none⟩ = some (cur[i]'(by omega)) := by rw [hcell i (by omega), Array.getElem?_eq_getElem (by omega)]
    have hw1 : IntKind.i64.wrap (((i + 1 : Nat) : Int) - 1) = (i : Int) := by rw [IntKind.wrap_i64]; omega
    have hi65 : (i : Int) < 65 := by omega
    have hi0 : (0 : Int) ≤ (i : Int) := by omega
    have hi65n : i < 65 := by omega
    obtain ⟨d, hd⟩ : ∃ d, u % 16 = d := ⟨_, rfl⟩
    obtain ⟨q, hq⟩ : ∃ q, u / 16 = q := ⟨_, rfl⟩
    have hd16 : d < 16 := by omega
    have hu64 : u < 18446744073709551616 := by
      have : 16 ^ (6 - k) ≤ 16 ^ 6 := Nat.pow_le_pow_right (by decide) (by omega)
      omega
    by_cases hge : 16 ≤ u
    · have hgi : (16 : Int) ≤ (u : Int) := by omega
      have hand : bits .and .u64 (u : Int) 15 = (d : Int) := by
        rw [show (15 : Int) = ((15 : Nat) : Int) from rfl, bits_and_u64_nat u 15 hu64 (by decide), ← hd]
        congr 1
        exact Nat.and_two_pow_sub_one_eq_mod u 4
      have hdi : (d : Int) < 36 := by omega
      have hdn : d < 36 := by omega
      have hd0 : (0 : Int) ≤ (d : Int) := by omega
      clear hblk hcur hcell
      have HST := Lib.hid (HR.out.step (by omega) (i := i) (by omega) (Br.hd d))
      have HBS := Lib.hid (below_set (i := i) HB.out (by rw [HAB.out]; exact Nat.le_refl _) (.int .u8 (Br.hd d)))
      have hdg := digB_at d hd16 (by show d < 36; omega)
      have HDG := Lib.hid hdg
      have HQ : Hid ((u : Int) / 16 = (q : Int)) := Lib.hid (by omega)
      have HLX : Hid (hexL n = hexL q ++ (Br.hd d :: T)) := Lib.hid (by rw [HH.out, hexL_big (n := u) (by omega), hq, hd, List.append_assoc]; rfl)
      have hq6 : q < 16 ^ (6 - (k + 1)) := by
        have e : 16 ^ (6 - k) = 16 ^ (6 - (k + 1)) * 16 := by rw [← Nat.pow_succ]; congr 1; omega
        omega
      have hk4 : k + 1 ≤ 5 := by
        rcases Nat.lt_or_ge k 5 with g | g
        · omega
        · exfalso
          have : k = 5 := by omega
          subst this
          simp at hu6
          omega
      clear hdg
      go_wp2
      refine ⟨⟨q, Br.hd d :: T, by rw [HQ.out], by rw [List.length_cons, hk, show 65 - (k + 1) = i by omega], by rw [List.length_cons, hk]; exact hk4, by rw [List.length_cons, hk]; exact hq6, HLX, ?_, ?_⟩, ?_⟩
      · exact Lib.hid (by have e := HDG.out; unfold digB at e; rw [e]; exact HST.out)
      · exact Lib.hid (by have e := HDG.out; unfold digB at e; rw [e]; exact HBS.out)
      · simp [intOf]; omega
    · have hgi : ¬ (16 : Int) ≤ (u : Int) := by omega
      obtain rfl : u = d := by omega
      have hdi : (u : Int) < 36 := by omega
      have hdn : u < 36 := by omega
      have hd0 : (0 : Int) ≤ (u : Int) := by omega
      clear hblk hcur hcell hd hq
      have HST := Lib.hid (HR.out.step (by omega) (i := i) (by omega) (Br.hd u))
      have HBS := Lib.hid (below_set (i := i) HB.out (by rw [HAB.out]; exact Nat.le_refl _) (.int .u8 (Br.hd u)))
      have hdg := digB_at u hd16 (by show u < 36; omega)
      have HDG := Lib.hid hdg
      have HLX : Hid (Br.hd u :: T = hexL n) := Lib.hid (by rw [HH.out, hexL_small (n := u) (by omega)]; rfl)
      have hsl := fun w => slice65 w ab i (k + 1) (by omega) (by omega)
      have HTX := Lib.hid (fun cap => HST.out.text (n := n) (i := i) HLX.out (by rw [List.length_cons]; omega) cap)
      rw [List.length_cons, hk] at HTX
      have hcv := HTX.out (k + 1)
      have e9 := HDG.out
      unfold digB at e9
      rw [← e9] at hcv
      clear hdg e9
      have HCL := Lib.hid (hexS_nums n)
      go_wp2
      go_ret2
      exact ⟨_, rfl, HCL.out, by have e := HDG.out; unfold digB at e; rw [e]; exact HBS.out⟩
set_option maxRecDepth 100000 in
set_option maxHeartbeats 4000000 in
theorem fint_any (W : World) (n : Nat) (hn : n ≤ 1114111) (h : TzAt W) : Calls Tryz.prog 161 #[.int .i64 (n : Int), .int .i64 16] W fun e w' =>
    ∃ T : ByteArray, e = .returned (.string T) ∧ Utf.nums T = hexL n ∧ Below W.heap.size W w' := by
  have HZ := Lib.hid h
  have h0 : ¬ (n : Int) < 0 := by omega
  have hd : decide ((n : Int) < 0) = false := decide_eq_false h0
  have hw : IntKind.u64.wrap (n : Int) = (n : Int) := by rw [IntKind.wrap_u64]; omega
  clear h
  go_enter Tryz.func161, Tryz.ntmps161
  go_wp2_with fail
  refine (fbits_any W n hn HZ.out).mono ?_
  rintro e w' ⟨T, rfl, hT, hb⟩
  have HT := Lib.hid hT
  have HB := Lib.hid hb
  clear hT hb
  go_wp2
  go_ret
  exact ⟨T, rfl, HT.out, HB.out⟩
theorem fmt16_any (W : World) (n : Nat) (hn : n ≤ 1114111) (h : TzAt W) : Calls Tryz.prog 121 #[.int .i64 (n : Int), .int .i64 16] W fun e w' =>
    ∃ T : ByteArray, e = .returned (.string T) ∧ Utf.nums T = hexL n ∧ Below W.heap.size W w' := by
  have HZ := Lib.hid h
  clear h
  go_enter Tryz.func121, Tryz.ntmps121
  go_wp2_with fail
  refine (fint_any W n hn HZ.out).mono ?_
  rintro e w' ⟨T, rfl, hT, hb⟩
  have HT := Lib.hid hT
  have HB := Lib.hid hb
  clear hT hb
  go_wp2
  go_ret
  exact ⟨T, rfl, HT.out, HB.out⟩
/-- show.escape: a number in the form of braces. -/
theorem escape_show (W : World) (n : Nat) (hn : n ≤ 1114111) (h : TzAt W) : Calls Tryz.prog 81 #[.int .i64 (n : Int)] W fun e w' =>
    ∃ T : ByteArray, e = .returned (.string T) ∧ Utf.nums T = Br.esc n ∧ Below W.heap.size W w' := by
  have HZ := Lib.hid h
  clear h
  go_enter Tryz.func81, Tryz.ntmps81
  go_wp2_with fail
  refine (fmt16_any W n hn HZ.out).mono ?_
  rintro e w' ⟨T, rfl, hT, hb⟩
  have hz : T.size ≤ 6 := by rw [← Utf.nums_length, hT]; exact (Br.hexL6 hn).2
  have HT := Lib.hid hT
  have HB := Lib.hid hb
  have n1 : ¬ 9223372036854775807 < 3 + T.size := by omega
  have n2 : ¬ 9223372036854775807 < 3 + T.size + 1 := by omega
  have hP : ((⟨#[92, 120, 123]⟩ : ByteArray) ++ T).size = 3 + T.size := ByteArray.size_append ..
  have n3 : ¬ 9223372036854775807 < ((⟨#[92, 120, 123]⟩ : ByteArray) ++ T).size + 1 := by omega
  have HN : Hid (Utf.nums (((⟨#[92, 120, 123]⟩ : ByteArray) ++ T) ++ (⟨#[125]⟩ : ByteArray)) = Br.esc n) := Lib.hid (by
    rw [Br.nums_append', Br.nums_append', hT]
    unfold Br.esc
    show (92 :: 120 :: 123 :: hexL n) ++ [125] = _
    rfl)
  clear hT hb hP
  go_wp2
  go_ret
  exact ⟨_, rfl, HN.out, HB.out⟩
end Go.Proofs.YtecmeeobabadeaaGreatDoor
namespace Go.Proofs
open Go.Shelf
def Tryz.layItoa_ren : Go.Shelf.Ren := ⟨fun | 171 => 163 | 243 => 200 | 246 => 161 | 283 => 196 | 284 => 197 | 285 => 198 | 286 => 199 | 129 => 238 | 317 => 237 | 318 => 239 | 319 => 240 | 320 => 241 | 337 => 260 | 338 => 261 | n => n, fun | 3 => 3 | 9 => 9 | 2 => 2 | 4 => 4 | 171 => 190 | 0 => 0 | 53 => 191 | 37 => 54 | 5 => 5 | 173 => 194 | 212 => 223 | 51 => 224 | 20 => 20 | 213 => 225 | 46 => 129 | 232 => 267 | 233 => 268 | n => n, fun | 17 => 1 | 18 => 7 | 19 => 8 | n => n⟩
theorem Tryz.layItoa : Go.Proofs.LaysM.n171 Tryz.prog Tryz.layItoa_ren := {
  mixed := by kernel_rfl
  f129 := Tryz.func238.trans (congrArg some (by kernel_rfl))
  f171 := Tryz.func163.trans (congrArg some (by kernel_rfl))
  f243 := Tryz.func200.trans (congrArg some (by kernel_rfl))
  f246 := Tryz.func161.trans (congrArg some (by kernel_rfl))
  f283 := Tryz.func196.trans (congrArg some (by kernel_rfl))
  f284 := Tryz.func197.trans (congrArg some (by kernel_rfl))
  f285 := Tryz.func198.trans (congrArg some (by kernel_rfl))
  f286 := Tryz.func199.trans (congrArg some (by kernel_rfl))
  f317 := Tryz.func237.trans (congrArg some (by kernel_rfl))
  f318 := Tryz.func239.trans (congrArg some (by kernel_rfl))
  f319 := Tryz.func240.trans (congrArg some (by kernel_rfl))
  f320 := Tryz.func241.trans (congrArg some (by kernel_rfl))
  f337 := Tryz.func260.trans (congrArg some (by kernel_rfl))
  f338 := Tryz.func261.trans (congrArg some (by kernel_rfl))
  t0 := Tryz.underlying0
  a0 := Tryz.isAgg0
  z0 := Tryz.sizeOf0
  v0 := Tryz.zeroValue0
  t2 := Tryz.underlying2
  a2 := Tryz.isAgg2
  z2 := Tryz.sizeOf2
  v2 := Tryz.zeroValue2
  t3 := Tryz.underlying3
  a3 := Tryz.isAgg3
  z3 := Tryz.sizeOf3
  v3 := Tryz.zeroValue3
  t4 := Tryz.underlying4
  a4 := Tryz.isAgg4
  z4 := Tryz.sizeOf4
  v4 := Tryz.zeroValue4
  t5 := Tryz.underlying5
  a5 := Tryz.isAgg5
  z5 := Tryz.sizeOf5
  v5 := Tryz.zeroValue5
  t9 := Tryz.underlying9
  a9 := Tryz.isAgg9
  z9 := Tryz.sizeOf9
  v9 := Tryz.zeroValue9
  t20 := Tryz.underlying20
  a20 := Tryz.isAgg20
  z20 := Tryz.sizeOf20
  v20 := Tryz.zeroValue20
  t37 := Tryz.underlying54
  a37 := Tryz.isAgg54
  z37 := Tryz.sizeOf54
  v37 := Tryz.zeroValue54
  t46 := Tryz.underlying129
  a46 := Tryz.isAgg129
  z46 := Tryz.sizeOf129
  v46 := Tryz.zeroValue129
  t51 := Tryz.underlying224
  a51 := Tryz.isAgg224
  z51 := Tryz.sizeOf224
  v51 := Tryz.zeroValue224
  t53 := Tryz.underlying191
  a53 := Tryz.isAgg191
  z53 := Tryz.sizeOf191
  v53 := Tryz.zeroValue191
  t171 := Tryz.underlying190
  a171 := Tryz.isAgg190
  z171 := Tryz.sizeOf190
  v171 := Tryz.zeroValue190
  t173 := Tryz.underlying194
  a173 := Tryz.isAgg194
  z173 := Tryz.sizeOf194
  v173 := Tryz.zeroValue194
  t212 := Tryz.underlying223
  a212 := Tryz.isAgg223
  z212 := Tryz.sizeOf223
  v212 := Tryz.zeroValue223
  t213 := Tryz.underlying225
  a213 := Tryz.isAgg225
  z213 := Tryz.sizeOf225
  t232 := Tryz.underlying267
  a232 := Tryz.isAgg267
  z232 := Tryz.sizeOf267
  v232 := Tryz.zeroValue267
  t233 := Tryz.underlying268
  a233 := Tryz.isAgg268
  z233 := Tryz.sizeOf268
  v233 := Tryz.zeroValue268
  g17 := by kernel_rfl
  g18 := by kernel_rfl
  g19 := by kernel_rfl
  i0 := by kernel_rfl
  i2 := by kernel_rfl
  i3 := by kernel_rfl
  i4 := by kernel_rfl
  i5 := by kernel_rfl
  i9 := by kernel_rfl
  i20 := by kernel_rfl
  i37 := by kernel_rfl
  i46 := by kernel_rfl
  i51 := by kernel_rfl
  i53 := by kernel_rfl
  i171 := by kernel_rfl
  i173 := by kernel_rfl
  i212 := by kernel_rfl
  i232 := by kernel_rfl
  i233 := by kernel_rfl
  m17 := by kernel_rfl
  m18 := by kernel_rfl
  m19 := by kernel_rfl }
end Go.Proofs
