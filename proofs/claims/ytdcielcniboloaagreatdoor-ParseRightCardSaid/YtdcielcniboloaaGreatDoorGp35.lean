/- strings.IndexAny at a colon and a closing bracket, at any text. · Mathematics of lex: how long tokens are, what they are. -/
import Derived.Test.YtdcielcniboloaaGreatDoorGp32
import Derived.Laws.RangeAny
import Derived.Laws.Runes
import Derived.Lib.OthersKept
import Derived.Test.YtdcielcniboloaaGreatDoorGp5
import Derived.Shelf.Strings.Runes
import Derived.Test.YtdcielcniboloaaGreatDoorGp34
namespace Go.Proofs.YtdcielcniboloaaGreatDoor
open Go.RowKit
set_option linter.unusedVariables false
theorem decode_conts (s : ByteArray) (pos : Nat) (h : pos < s.size) (ha : 128 ≤ (s[pos]'h).toNat) (k : Nat) (hk : k < (Utf8.decode s pos).2) : pos + k < s.size ∧ 128 ≤ (s.get! (pos + k)).toNat := by
  have hn : ¬ (s[pos]'h).toNat < 128 := by omega
  have h0 : pos + 0 < s.size ∧ 128 ≤ (s.get! (pos + 0)).toNat := ⟨by omega, by rw [get_at s pos h]; exact ha⟩
  have key : (Utf8.decode s pos).2 = 1 ∨ ((Utf8.decode s pos).2 = 2 ∧ pos + 1 < s.size ∧ 128 ≤ (s.get! (pos + 1)).toNat) ∨
      ((Utf8.decode s pos).2 = 3 ∧ pos + 1 < s.size ∧ 128 ≤ (s.get! (pos + 1)).toNat ∧ pos + 2 < s.size ∧ 128 ≤ (s.get! (pos + 2)).toNat) ∨
      ((Utf8.decode s pos).2 = 4 ∧ pos + 1 < s.size ∧ 128 ≤ (s.get! (pos + 1)).toNat ∧ pos + 2 < s.size ∧ 128 ≤ (s.get! (pos + 2)).toNat ∧ pos + 3 < s.size ∧ 128 ≤ (s.get! (pos + 3)).toNat) := by
    simp only [Utf8.decode, get_at s pos h, hn, if_false]
    repeat' split
    all_goals simp_all
    all_goals omega
  rcases key with e | ⟨e, a1, b1⟩ | ⟨e, a1, b1, a2, b2⟩ | ⟨e, a1, b1, a2, b2, a3, b3⟩ <;> rw [e] at hk
  · obtain rfl : k = 0 := by omega
    exact h0
  · rcases (show k = 0 ∨ k = 1 by omega) with rfl | rfl
    · exact h0
    · exact ⟨a1, b1⟩
  · rcases (show k = 0 ∨ k = 1 ∨ k = 2 by omega) with rfl | rfl | rfl
    · exact h0
    · exact ⟨a1, b1⟩
    · exact ⟨a2, b2⟩
  · rcases (show k = 0 ∨ k = 1 ∨ k = 2 ∨ k = 3 by omega) with rfl | rfl | rfl | rfl
    · exact h0
    · exact ⟨a1, b1⟩
    · exact ⟨a2, b2⟩
    · exact ⟨a3, b3⟩
set_option maxRecDepth 100000 in
set_option maxHeartbeats 4000000 in
theorem idxRune_err (w : World) : Calls Tryz.prog 196 #[.string ⟨#[58, 41]⟩, .int .i32 65533] w fun e w' => e = .returned (.int .i64 (-1)) ∧ Below w.heap.size w w' := by
  go_enter Tryz.func196, Tryz.ntmps196
  go_wp2
  go_loopg [] 2 (fun g wx => ∃ i : Nat, i + g = 2 ∧ wx = w.iter ⟨#[58, 41]⟩ i)
  case atStart => exact ⟨0, rfl, rfl⟩
  case round =>
    obtain ⟨i, hi, rfl⟩ := hrel
    cases gk with
    | zero =>
      obtain rfl : i = 2 := by omega
      have hnx := run_next_end (P := Tryz.prog) w ⟨#[58, 41]⟩ 2
      go_wp2
      go_ret
      exact ⟨rfl, (Below.refl _ _).alloc (Nat.le_refl _) _⟩
    | succ g =>
      have hlt : i < (ByteArray.mk #[58, 41]).size := by show i < 2; omega
      obtain ⟨x, hx⟩ : ∃ x : UInt8, (ByteArray.mk #[58, 41])[i]'hlt = x := ⟨_, rfl⟩
      have hx128 : x.toNat < 128 := by
        rw [← hx]
        rcases (show i = 0 ∨ i = 1 by omega) with rfl | rfl
        · show (58 : UInt8).toNat < 128; decide
        · show (41 : UInt8).toNat < 128; decide
      have hnx := fun ty => run_next_ascii (P := Tryz.prog) w ⟨#[58, 41]⟩ i ty hlt (by rw [hx]; exact hx128)
      rw [hx] at hnx
      have hne : ((x.toNat : Int) == 65533) = false := beq_eq_false_iff_ne.2 (by omega)
      go_wp2
      go_roundg g
      case measure => omega
      case rel => exact ⟨i + 1, by omega, rfl⟩
theorem idxByte_nil (w : World) (s : ByteArray) (b : Int) (h : s.data.toList = []) : Calls Tryz.prog 233 #[.string s, .int .u8 b] w fun e w' => e = .returned (.int .i64 (-1)) ∧ w' = w := by
  have h9 := Any.strings_IndexByte (P := Tryz.prog) Tryz.layIdxByte s b w
  change Calls Tryz.prog 233 _ _ _ at h9
  rw [h] at h9
  exact h9
set_option maxRecDepth 100000 in
set_option maxHeartbeats 4000000 in
theorem idxRune_high' (w : World) (c : ByteArray) (hc2 : c.size = 2) (hcb : ∀ h : 1 < c.size, ((c[1]'h).toNat : Int) = 41) (r : Int) (h0 : 128 ≤ r) (h1 : r ≤ 2147483647) (h2 : r ≠ 65533) : Calls Tryz.prog 196 #[.string c, .int .i32 r] w fun e w' => e = .returned (.int .i64 (-1)) ∧ Below w.heap.size w w' := by
  have a0 : (0 : Int) ≤ r := by omega
  have a1 : ¬ r < 128 := by omega
  have a2 : (r == 65533) = false := by simpa using h2
  have hcv := fun w => run_convert_int_string (P := Tryz.prog) w 21 9 .i32 r (by kernel_rfl) (by kernel_rfl)
  have hinv : r < 55296 ∨ (¬ r < 55296 ∧ 57343 < r ∧ r ≤ 1114111) ∨ (¬ r < 55296 ∧ ¬ 57343 < r) ∨ (¬ r < 55296 ∧ 57343 < r ∧ ¬ r ≤ 1114111) := by omega
  have hval : r < 55296 ∨ (57343 < r ∧ r ≤ 1114111) → Utf8.valid r = true := fun h => by unfold Utf8.valid; simp; omega
  have hsz : r < 55296 ∨ (57343 < r ∧ r ≤ 1114111) → 2 ≤ (Utf8.encode r).size ∧ (Utf8.encode r).size ≤ 4 ∧ ∀ h : (Utf8.encode r).size - 1 < (Utf8.encode r).size, 128 ≤ ((Utf8.encode r)[(Utf8.encode r).size - 1]'h).toNat := fun h => encode_facts r (hval h) h0
  obtain ⟨q, hq⟩ : ∃ q, Utf8.encode r = q := ⟨_, rfl⟩
  rw [hq] at hcv hsz
  clear hval hq h0 h2
  rcases hinv with b1 | ⟨b1, b2, b3⟩ | ⟨b1, b2⟩ | ⟨b1, b2, b3⟩
  · obtain ⟨e1, e2, e3⟩ := hsz (by omega)
    by_cases hz : q.size = 2
    · have hy := e3 (by omega)
      have hq1 : 1 < q.size := by omega
      have hc1 : 1 < c.size := by omega
      have hyl : 128 ≤ (q[1]'hq1).toNat := by
        have h9 : q.size - 1 = 1 := by omega
        simpa [h9] using hy
      have hne : (((c[1]'hc1).toNat : Int) != ((q[1]'hq1).toNat : Int)) = true := by rw [hcb hc1]; simp; omega
      have HB := Lib.hid (fun (w : World) (b : Int) => idxByte_nil w ByteArray.empty b rfl)
      have HBQ := Lib.hid (fun (d k : Nat) (b : Int) => calls_quiet_add (P := Tryz.prog) (W := w) (d := d) (n := k) (v := .int .i64 (-1)) ((HB.out (w.drewN (d + k)) b).mono fun e w' h => ⟨h.1, 0, h.2⟩))
      clear hsz e1 e2 e3 hy hyl hcb
      go_enter Tryz.func196, Tryz.ntmps196
      go_wp2
      go_step3
      go_wp2
      go_loop [9] (fun A => A = .int .i64 1) (fun _ => 1)
      case atStart => rfl
      case round =>
        obtain rfl := hrel
        go_wp2
        go_step3
        go_wp2
        go_quiet (fail)
        go_wp2
        go_quiet ((go_at_call 233; exact HBQ.out _ _ _))
        go_wp2
        repeat (first | rw [Exit.noGoto_ret] | simp only [Exit.inBlock, Exit.then] | change Exit.noGoto _ Exit.ret _ _ | change Exit.inBlock _ _ Exit.ret _ _ | change Exit.then _ _ Exit.ret _ _)
        go_ret
        exact ⟨rfl, below_drewNr (Below.refl _ _) _⟩
    · obtain ⟨m, hm⟩ : ∃ m, q.size = m + 1 := ⟨q.size - 1, by omega⟩
      have hw : IntKind.i64.wrap ((q.size : Int) - 1) = (m : Int) := by rw [IntKind.wrap_i64]; omega
      have hlt : ¬ (m : Int) < 2 := by omega
      clear hsz hz e1 e2 e3 hm
      go_enter Tryz.func196, Tryz.ntmps196
      go_wp2
      go_step3
      go_wp2
      go_loop [9] (fun A => A = .int .i64 (m : Int)) (fun _ => 1)
      case atStart => rfl
      case round =>
        obtain rfl := hrel
        go_wp2
        go_ret
        exact ⟨rfl, Below.refl _ _⟩
  · obtain ⟨e1, e2, e3⟩ := hsz (by omega)
    by_cases hz : q.size = 2
    · have hy := e3 (by omega)
      have hq1 : 1 < q.size := by omega
      have hc1 : 1 < c.size := by omega
      have hyl : 128 ≤ (q[1]'hq1).toNat := by
        have h9 : q.size - 1 = 1 := by omega
        simpa [h9] using hy
      have hne : (((c[1]'hc1).toNat : Int) != ((q[1]'hq1).toNat : Int)) = true := by rw [hcb hc1]; simp; omega
      have HB := Lib.hid (fun (w : World) (b : Int) => idxByte_nil w ByteArray.empty b rfl)
      have HBQ := Lib.hid (fun (d k : Nat) (b : Int) => calls_quiet_add (P := Tryz.prog) (W := w) (d := d) (n := k) (v := .int .i64 (-1)) ((HB.out (w.drewN (d + k)) b).mono fun e w' h => ⟨h.1, 0, h.2⟩))
      clear hsz e1 e2 e3 hy hyl hcb
      go_enter Tryz.func196, Tryz.ntmps196
      go_wp2
      go_step3
      go_wp2
      go_loop [9] (fun A => A = .int .i64 1) (fun _ => 1)
      case atStart => rfl
      case round =>
        obtain rfl := hrel
        go_wp2
        go_step3
        go_wp2
        go_quiet (fail)
        go_wp2
        go_quiet ((go_at_call 233; exact HBQ.out _ _ _))
        go_wp2
        repeat (first | rw [Exit.noGoto_ret] | simp only [Exit.inBlock, Exit.then] | change Exit.noGoto _ Exit.ret _ _ | change Exit.inBlock _ _ Exit.ret _ _ | change Exit.then _ _ Exit.ret _ _)
        go_ret
        exact ⟨rfl, below_drewNr (Below.refl _ _) _⟩
    · obtain ⟨m, hm⟩ : ∃ m, q.size = m + 1 := ⟨q.size - 1, by omega⟩
      have hw : IntKind.i64.wrap ((q.size : Int) - 1) = (m : Int) := by rw [IntKind.wrap_i64]; omega
      have hlt : ¬ (m : Int) < 2 := by omega
      clear hsz hz e1 e2 e3 hm
      go_enter Tryz.func196, Tryz.ntmps196
      go_wp2
      go_step3
      go_wp2
      go_loop [9] (fun A => A = .int .i64 (m : Int)) (fun _ => 1)
      case atStart => rfl
      case round =>
        obtain rfl := hrel
        go_wp2
        go_ret
        exact ⟨rfl, Below.refl _ _⟩
  · clear hsz
    go_enter Tryz.func196, Tryz.ntmps196
    go_wp2
    go_ret
    exact ⟨rfl, Below.refl _ _⟩
  · clear hsz
    go_enter Tryz.func196, Tryz.ntmps196
    go_wp2
    go_ret
    exact ⟨rfl, Below.refl _ _⟩
theorem idxAny_eq : ∀ l : List UInt8, Lib.indexAny l [58, 41] = if Lx.upToC (l.map (fun b => (b.toNat : Int))) = l.length then -1 else (Lx.upToC (l.map (fun b => (b.toNat : Int))) : Int)
  | [] => rfl
  | b :: l => by
    have ih := idxAny_eq l
    have hle : Lx.upToC (l.map (fun b => (b.toNat : Int))) ≤ l.length := by
      clear ih
      induction l with
      | nil => simp [Lx.upToC]
      | cons a l ih => simp only [List.map_cons, Lx.upToC]; split <;> simp <;> omega
    unfold Lib.indexAny
    simp only [List.map_cons, Lx.upToC]
    by_cases h : (b.toNat : Int) = 58 ∨ (b.toNat : Int) = 41
    · have hc : ([58, 41] : List UInt8).contains b = true := by
        rcases h with h | h
        · rw [show b = 58 from UInt8.toNat_inj.1 (by have h9 : (58 : UInt8).toNat = 58 := rfl; omega)]; rfl
        · rw [show b = 41 from UInt8.toNat_inj.1 (by have h9 : (41 : UInt8).toNat = 41 := rfl; omega)]; rfl
      rw [if_pos hc, if_pos h, if_neg (by simp)]; rfl
    · have hc : ([58, 41] : List UInt8).contains b = false := by
        rw [Bool.eq_false_iff]
        intro e
        simp at e
        exact h (by rcases e with e | e <;> rw [e] <;> decide)
      rw [if_neg (by rw [hc]; decide), if_neg h, ih]
      by_cases e : Lx.upToC (l.map (fun b => (b.toNat : Int))) = l.length
      · rw [if_pos e]; simp [e]
      · have h8 : ¬ Lx.upToC (l.map (fun b => (b.toNat : Int))) + 1 = (b :: l).length := by simp only [List.length_cons]; omega
        rw [if_neg e, if_neg h8, if_neg (by simp only [beq_iff_eq]; omega)]
        omega
theorem upToC_le : ∀ l : List Int, Lx.upToC l ≤ l.length
  | [] => Nat.le_refl _
  | c :: l => by unfold Lx.upToC; have := upToC_le l; split <;> simp <;> omega
theorem upToC_at : ∀ l : List Int, Lx.upToC l < l.length → l[Lx.upToC l]?.getD 0 = 58 ∨ l[Lx.upToC l]?.getD 0 = 41
  | [], h => by simp [Lx.upToC] at h
  | c :: l, h => by
    unfold Lx.upToC at h ⊢
    split
    · rename_i hc; simpa using hc
    · rename_i hc
      rw [if_neg hc] at h
      simpa using upToC_at l (by simpa using h)
theorem upToC_no : ∀ (l : List Int) (k : Nat), k < Lx.upToC l → ¬ (l[k]?.getD 0 = 58 ∨ l[k]?.getD 0 = 41)
  | [], k, h => by simp
  | c :: l, k, h => by
    unfold Lx.upToC at h
    split at h
    · omega
    · rename_i hc
      cases k with
      | zero => simpa using hc
      | succ k => simpa using upToC_no l k (by omega)
theorem upToC_is (l : List Int) (k : Nat) (hk : k < l.length) (h1 : l[k]?.getD 0 = 58 ∨ l[k]?.getD 0 = 41) (h2 : ∀ j, j < k → ¬ (l[j]?.getD 0 = 58 ∨ l[j]?.getD 0 = 41)) : Lx.upToC l = k := by
  have h3 := upToC_le l
  rcases Nat.lt_trichotomy (Lx.upToC l) k with h | h | h
  · exact absurd (upToC_at l (by omega)) (h2 _ h)
  · exact h
  · exact absurd h1 (upToC_no l k h)
theorem upToC_none (l : List Int) (h2 : ∀ j, j < l.length → ¬ (l[j]?.getD 0 = 58 ∨ l[j]?.getD 0 = 41)) : Lx.upToC l = l.length := by
  have h3 := upToC_le l
  rcases Nat.lt_or_ge (Lx.upToC l) l.length with h | h
  · exact absurd (upToC_at l h) (h2 _ h)
  · omega
theorem idxRune_hi (w : World) (r : Nat) (h0 : 128 ≤ r) (h1 : r ≤ 2147483647) : Calls Tryz.prog 196 #[.string ⟨#[58, 41]⟩, .int .i32 (r : Int)] w fun e w' => e = .returned (.int .i64 (-1)) ∧ Below w.heap.size w w' := by
  by_cases h : r = 65533
  · subst h; exact idxRune_err w
  · exact idxRune_high' w ⟨#[58, 41]⟩ rfl (fun _ => rfl) (r : Int) (by omega) (by omega) (by omega)
def idxV (s : ByteArray) : Int := if Lx.upToC (Utf.nums s) = (Utf.nums s).length then -1 else (Lx.upToC (Utf.nums s) : Int)
theorem idxRune_low (w : World) (x : UInt8) (hx : x.toNat < 128) : Calls Tryz.prog 196 #[.string ⟨#[58, 41]⟩, .int .i32 (x.toNat : Int)] w fun e w' => e = .returned (.int .i64 (if (x.toNat : Int) = 58 then 0 else if (x.toNat : Int) = 41 then 1 else -1)) ∧ w' = w := by
  have h9 := Any.strings_IndexRune_ascii (P := Tryz.prog) { Tryz.layIndexAny with } ⟨#[58, 41]⟩ (x.toNat : Int) w (by omega) (by omega)
  change Calls Tryz.prog 196 _ _ _ at h9
  refine h9.mono ?_
  rintro e w' ⟨rfl, hw⟩
  refine ⟨?_, hw⟩
  have e1 : ((x.toNat : Int)).toNat.toUInt8 = x := by simp
  rw [e1]
  have e2 : Lib.indexByte [58, 41] x = if (x.toNat : Int) = 58 then 0 else if (x.toNat : Int) = 41 then 1 else -1 := by
    have h : ∀ n : Fin 256, Lib.indexByte [58, 41] (UInt8.ofNat n.val) = if ((UInt8.ofNat n.val).toNat : Int) = 58 then 0 else if ((UInt8.ofNat n.val).toNat : Int) = 41 then 1 else -1 := by decide +kernel
    have := h ⟨x.toNat, UInt8.toNat_lt x⟩
    simpa using this
  rw [← e2]
theorem shouldSet_any (w : World) (s : ByteArray) : Calls Tryz.prog 197 #[.int .i64 (s.size : Int)] w fun e w' => e = .returned (.bool (decide ((8 : Int) < (s.size : Int)))) ∧ w' = w := by
  have h9 := Any.strings_shouldUseASCIISet (P := Tryz.prog) { Tryz.layIndexAny with } (s.size : Int) w
  exact h9
theorem below_iterAt (w : World) (k : Nat) (s : ByteArray) (p : Nat) : Below k w (w.iterAt k s p) :=
  ⟨rfl, rfl, rfl, by simp [World.iterAt], fun j hj => by simp [World.iterAt, Array.getElem?_setIfInBounds, Nat.ne_of_gt hj]⟩
set_option maxRecDepth 100000 in
set_option maxHeartbeats 8000000 in
theorem idxAny_any (w : World) (s : ByteArray) (hs : s.size ≤ 4096) : Calls Tryz.prog 151 #[.string s, .string ⟨#[58, 41]⟩] w fun e w' => e = .returned (.int .i64 (idxV s)) ∧ Below w.heap.size w w' := by
  by_cases h8 : 8 < s.size
  · have h116 : (Tryz.prog.info? (Tryz.layIndexAny_ren.t 116)).map (fun i => (i.zero, i.size)) = some (some (.agg (Array.replicate 256 (.bool false))), 256) := by kernel_rfl
    have h9 := Any.strings_IndexAny_long (P := Tryz.prog) Tryz.layIndexAny (zero_of_info h116).1 (zero_of_info h116).2 s ⟨#[58, 41]⟩ w (by decide) h8 (by omega) (by decide) (ascii_of_all (by decide +kernel))
    change Calls Tryz.prog 151 _ _ _ at h9
    refine h9.mono ?_
    rintro e w' ⟨rfl, rfl⟩
    refine ⟨?_, ((Below.refl _ _).alloc (Nat.le_refl _) _).alloc (by simp) _⟩
    unfold idxV
    rw [show (ByteArray.mk #[58, 41]).data.toList = [58, 41] from rfl, idxAny_eq, Utf.nums_length]
    rfl
  have h8z : decide ((8 : Int) < (s.size : Int)) = false := decide_eq_false (by omega)
  have HSS := Lib.hid (fun w => shouldSet_any w s)
  rw [h8z] at HSS
  have HV : Hid (Lx.upToC (Utf.nums s) = Lx.upToC (Utf.nums s)) := Lib.hid rfl
  clear h8z h8
  go_enter Tryz.func151, Tryz.ntmps151
  go_wp2_with fail
  refine (HSS.out _).mono ?_
  rintro e w' ⟨rfl, rfl⟩
  go_wp2
  go_loopg [9, 10] s.size (fun g _ _ wx => ∃ i : Nat, i + g = s.size ∧ Below w'.heap.size w' wx ∧ wx.heap[w'.heap.size]? = some (.stringIter s i) ∧ ∀ j, j < i → ¬ ((Utf.nums s)[j]?.getD 0 = 58 ∨ (Utf.nums s)[j]?.getD 0 = 41))
  case atStart => exact ⟨0, by omega, (Below.refl _ _).alloc (Nat.le_refl _) _, heap_alloc_new _ _, fun j hj => absurd hj (by omega)⟩
  case round =>
    obtain ⟨i, hig, hb, hit, hno⟩ := hrel
    have HB := Lib.hid hb
    have HIT := Lib.hid hit
    have HNO := Lib.hid hno
    clear hb hno
    by_cases hlt : i < s.size
    · have hnx := fun ty => Lib.run_next_any_at (P := Tryz.prog) wr w'.heap.size s i ty hit hlt
      have hst : ∀ p, (wr.iterAt w'.heap.size s p).heap[w'.heap.size]? = some (.stringIter s p) := fun p => Lib.iterAt_heap wr w'.heap.size s i p hit
      have hbb : ∀ p, Below w'.heap.size w' (wr.iterAt w'.heap.size s p) := fun p => HB.out.trans (below_iterAt _ _ _ _)
      by_cases hlow : (s[i]'hlt).toNat < 128
      · obtain ⟨x, hx⟩ : ∃ x : UInt8, s[i]'hlt = x := ⟨_, rfl⟩
        rw [decode_ascii s i hlt hlow] at hnx
        have hxx : (Utf.nums s)[i]?.getD 0 = (x.toNat : Int) := by rw [← hx]; exact Utf.nums_at s i hlt
        rw [hx] at hnx hlow
        have HL := Lib.hid (fun w => idxRune_low w x hlow)
        by_cases hc : (x.toNat : Int) = 58 ∨ (x.toNat : Int) = 41
        · have hv : idxV s = (i : Int) := by
            unfold idxV
            have := upToC_is (Utf.nums s) i (by rw [Utf.nums_length]; exact hlt) (by rw [hxx]; exact hc) HNO.out
            rw [this, if_neg (by rw [Utf.nums_length]; omega)]
          have HVV := Lib.hid hv
          have hge : (0 : Int) ≤ (if (x.toNat : Int) = 58 then 0 else if (x.toNat : Int) = 41 then 1 else -1) := by
            rcases hc with h | h
            · rw [if_pos h]; decide
            · rw [if_neg (by omega), if_pos h]; decide
          obtain ⟨V, hV⟩ : ∃ V : Int, (if (x.toNat : Int) = 58 then 0 else if (x.toNat : Int) = 41 then 1 else -1) = V := ⟨_, rfl⟩
          rw [hV] at HL hge
          have HBB := Lib.hid (hbb (i + 1))
          clear hit hst hbb hV hc hv hxx hx
          go_wp2_with fail
          refine (HL.out _).mono ?_
          rintro e w2 ⟨rfl, rfl⟩
          go_wp2
          go_ret
          exact ⟨by rw [HVV.out]; rfl, HBB.out⟩
        · have hge : ¬ (0 : Int) ≤ -1 := by decide
          rw [show (if (x.toNat : Int) = 58 then (0 : Int) else if (x.toNat : Int) = 41 then 1 else -1) = -1 from by rw [if_neg (fun h => hc (.inl h)), if_neg (fun h => hc (.inr h))]] at HL
          have HBB := Lib.hid (hbb (i + 1))
          have HST := Lib.hid (hst (i + 1))
          have HN2 : Hid (∀ j, j < i + 1 → ¬ ((Utf.nums s)[j]?.getD 0 = 58 ∨ (Utf.nums s)[j]?.getD 0 = 41)) := Lib.hid (fun j hj => by
            rcases Nat.lt_or_ge j i with h | h
            · exact HNO.out j h
            · obtain rfl : j = i := by omega
              rw [hxx]; exact hc)
          obtain ⟨g, rfl⟩ : ∃ g, gk = g + 1 := ⟨gk - 1, by omega⟩
          clear hit hst hbb hxx hc hx
          go_wp2_with fail
          refine (HL.out _).mono ?_
          rintro e w2 ⟨rfl, rfl⟩
          go_wp2
          go_roundg g
          case measure => omega
          case rel => exact ⟨i + 1, by omega, HBB.out, HST.out, HN2.out⟩
      · have hdh := decode_high s i hlt (by omega)
        have hdl := decode_le s i
        have hdc := decode_conts s i hlt (by omega)
        obtain ⟨⟨r, n⟩, hD⟩ : ∃ p, Utf8.decode s i = p := ⟨_, rfl⟩
        rw [hD] at hnx hdh hdl hdc
        dsimp only at hnx hdh hdl hdc
        have hin : i + n ≤ s.size := by have := (hdc (n - 1) (by omega)).1; omega
        have HL := Lib.hid (fun w => idxRune_hi w r hdh.1 hdl)
        have hge : ¬ (0 : Int) ≤ -1 := by decide
        have HBB := Lib.hid (hbb (i + n))
        have HST := Lib.hid (hst (i + n))
        have HN2 : Hid (∀ j, j < i + n → ¬ ((Utf.nums s)[j]?.getD 0 = 58 ∨ (Utf.nums s)[j]?.getD 0 = 41)) := Lib.hid (fun j hj => by
          rcases Nat.lt_or_ge j i with h | h
          · exact HNO.out j h
          · have h2 := hdc (j - i) (by omega)
            have h3 : j < s.size := by omega
            rw [show i + (j - i) = j by omega] at h2
            have h4 := Utf.nums_at s j h3
            have h5 : s.get! j = s[j]'h3 := by have := get_at s j h3; simpa using this
            rw [h5] at h2
            omega)
        obtain ⟨g, hg⟩ : ∃ g, i + n + g = s.size := ⟨s.size - (i + n), by omega⟩
        have hsz := HIT.out
        have hsz2 : w'.heap.size < wr.heap.size := (Array.getElem?_eq_some_iff.1 hsz).1
        have hgk : g < gk := by omega
        clear hit hst hbb hdh hdl hdc hlow hD hsz
        go_wp2_with fail
        refine (HL.out _).mono ?_
        rintro e w2 ⟨rfl, hb2⟩
        have hb3 : Below w'.heap.size w' w2 := HBB.out.trans (hb2.mono (by simp [World.iterAt]; omega))
        have hh3 : w2.heap[w'.heap.size]? = some (.stringIter s (i + n)) := (hb2.block _ (by simp [World.iterAt]; omega)).trans HST.out
        have HB3 := Lib.hid hb3
        have HH3 := Lib.hid hh3
        clear hb2 hb3 hh3
        go_wp2
        go_roundg g
        case measure => omega
        case rel => exact ⟨i + n, hg, HB3.out, HH3.out, HN2.out⟩
    · have hnx := fun ty => Lib.run_next_end_at (P := Tryz.prog) wr w'.heap.size s i ty hit hlt
      have hv : idxV s = -1 := by
        unfold idxV
        rw [if_pos]
        exact upToC_none (Utf.nums s) (fun j hj => HNO.out j (by rw [Utf.nums_length] at hj; omega))
      have HVV := Lib.hid hv
      clear hv hit hlt
      go_wp2
      go_ret
      exact ⟨by rw [HVV.out]; rfl, HB.out⟩
end Go.Proofs.YtdcielcniboloaaGreatDoor
namespace Go.Proofs.YtdcielcniboloaaGreatDoor.Lx
set_option linter.unusedVariables false
/-- What a token, or an error, is within: a text of m bytes. -/
def TRok (m : Nat) : TR → Prop
  | .bad o c => 0 ≤ o ∧ o ≤ m ∧ c ≠ 0
  | .ok t n => 1 ≤ n ∧ n ≤ m ∧ 1 ≤ t.kind ∧ t.kind ≤ 13
theorem char_ok (s : ByteArray) (h0 : 0 < s.size) : TRok s.size (charX (Utf.nums s)) := by
  unfold charX
  have h1 := Utf.dec_len (Utf.nums s) (Utf.nums_bytes s)
  have hl := Utf.nums_length s
  have hne : Utf.nums s ≠ [] := by intro e; rw [e] at hl; simp at hl; omega
  have h2 := h1.2.2.1 hne
  rw [hl] at h1
  split
  · exact ⟨by omega, by omega, by omega⟩
  · exact ⟨by omega, by omega, by show (1 : Int) ≤ 1; omega, by show (1 : Int) ≤ 13; omega⟩
theorem esc_ok (s : ByteArray) (h0 : 0 < s.size) (h92 : (Utf.nums s)[0]?.getD 0 = 92) : TRok s.size (escX s) := by
  unfold escX
  have hl := Utf.nums_length s
  cases hs : shortX ((Utf.nums s)[1]?.getD 0) with
  | some t =>
    have h2 : 2 ≤ s.size := by
      rcases Nat.lt_or_ge 1 s.size with h | h
      · omega
      · rw [List.getElem?_eq_none (by omega)] at hs
        cases hs
    have hk : 1 ≤ t.kind ∧ t.kind ≤ 13 := by
      unfold shortX at hs
      repeat' split at hs
      all_goals first | (injection hs with hs; subst hs; exact ⟨by decide, by decide⟩) | cases hs
    exact ⟨by omega, h2, hk.1, hk.2⟩
  | none =>
    dsimp only
    unfold setX
    have hc := Br.set_cases s
    split
    · rename_i e0
      rcases hc with ⟨_, _, h⟩ | ⟨x, _, _, h1, h2⟩
      · omega
      · exact ⟨by omega, by omega, by show (1 : Int) ≤ 2; omega, by show (2 : Int) ≤ 13; omega⟩
    · split
      · unfold numX
        have hn := Br.num_cases (Utf.nums s)
        split
        · rcases hn with ⟨_, _, h⟩ | ⟨_, _, h1, h2, _⟩
          · omega
          · exact ⟨by omega, by omega, by show (1 : Int) ≤ 1; omega, by show (1 : Int) ≤ 13; omega⟩
        · rcases hn with ⟨_, _, h⟩ | ⟨_, _, h1, h2, h3⟩
          · exact ⟨by omega, by omega, by omega⟩
          · omega
      · rcases hc with ⟨_, _, h⟩ | ⟨x, _, h, h1, h2⟩
        · exact ⟨by omega, by omega, by omega⟩
        · omega
theorem brackX_ok (s : ByteArray) (h0 : 0 < s.size) : TRok s.size (brackX s) := by
  unfold brackX
  cases h : Br.brack s with
  | bad o c =>
    have h1 := Br.brack_bad h
    exact ⟨by omega, by omega, h1.2.2⟩
  | ok Ys e =>
    have h1 := Br.brack_close h
    exact ⟨by omega, by omega, by show (1 : Int) ≤ 13; omega, by show (13 : Int) ≤ 13; omega⟩
theorem rep_ok (l : List Int) (h1 : 1 ≤ l.length) (hn : 1 ≤ (boundsX l).2.2) : TRok l.length (repX l) := by
  have hb := bounds_bd l h1
  unfold repX repOf
  split
  · exact ⟨by omega, by omega, by omega⟩
  · split
    · rename_i h
      have := Br.getD_lt h (by decide)
      exact ⟨by omega, by omega, by show (1 : Int) ≤ 8; omega, by show (8 : Int) ≤ 13; omega⟩
    · exact ⟨by omega, by omega, by show (1 : Int) ≤ 8; omega, by show (8 : Int) ≤ 13; omega⟩
theorem flag_ok (l : List Int) : TRok l.length (flagX l) := by
  have hu := upToC_le l
  unfold flagX
  split
  · exact ⟨by omega, by omega, by omega⟩
  · split
    · exact ⟨by omega, by omega, by show (1 : Int) ≤ 9; omega, by show (9 : Int) ≤ 13; omega⟩
    · split
      · exact ⟨by omega, by omega, by omega⟩
      · split
        · exact ⟨by omega, by omega, by show (1 : Int) ≤ 9; omega, by show (9 : Int) ≤ 13; omega⟩
        · exact ⟨by omega, by omega, by show (1 : Int) ≤ 10; omega, by show (10 : Int) ≤ 13; omega⟩
theorem name_bd {s nm : ByteArray} {n : Nat} (h : nameX s = some (nm, n)) : 1 ≤ n ∧ n ≤ s.size := by
  unfold nameX at h
  dsimp only at h
  split at h
  · cases h
  · split at h
    · cases h
    · rename_i hp hne
      have hle := Br.upTo_le 62 ((Utf.nums s).drop (nameAt (Utf.nums s)))
      rw [List.length_drop, Utf.nums_length] at hle hne
      split at h
      · injection h with h; injection h with h1 h2; omega
      · cases h
theorem open_ok (s : ByteArray) (h0 : 0 < s.size) : TRok s.size (openX s) := by
  unfold openX
  split
  · exact ⟨by omega, by omega, by show (1 : Int) ≤ 9; omega, by show (9 : Int) ≤ 13; omega⟩
  · cases h : nameX s with
    | some p =>
      obtain ⟨nm, n⟩ := p
      have := name_bd h
      exact ⟨this.1, this.2, by show (1 : Int) ≤ 9; omega, by show (9 : Int) ≤ 13; omega⟩
    | none =>
      have := flag_ok (Utf.nums s)
      rw [Utf.nums_length] at this
      exact this
theorem tok_ok (s : ByteArray) (h0 : 0 < s.size) : TRok s.size (tokX s) := by
  have hl := Utf.nums_length s
  have hb : ∀ c : Int, (c = 42 ∨ c = 43 ∨ c = 63) → (Utf.nums s)[0]?.getD 0 = c → TRok s.size (repX (Utf.nums s)) := fun c hc h => by
    have := rep_ok (Utf.nums s) (by omega) (by
      unfold boundsX
      rw [h]
      rcases hc with rfl | rfl | rfl <;> exact Nat.le_refl 1)
    rw [hl] at this; exact this
  unfold tokX
  dsimp only
  split; · exact ⟨by omega, by omega, by show (1 : Int) ≤ 3; omega, by show (3 : Int) ≤ 13; omega⟩
  split; · exact ⟨by omega, by omega, by show (1 : Int) ≤ 6; omega, by show (6 : Int) ≤ 13; omega⟩
  split; · exact ⟨by omega, by omega, by show (1 : Int) ≤ 7; omega, by show (7 : Int) ≤ 13; omega⟩
  split; · exact ⟨by omega, by omega, by show (1 : Int) ≤ 11; omega, by show (11 : Int) ≤ 13; omega⟩
  split; · exact ⟨by omega, by omega, by show (1 : Int) ≤ 12; omega, by show (12 : Int) ≤ 13; omega⟩
  split; · rename_i h; exact esc_ok s h0 h
  split; · exact brackX_ok s h0
  split; · exact open_ok s h0
  split
  · rename_i h
    split
    · exact char_ok s h0
    · rename_i hn
      have := rep_ok (Utf.nums s) (by omega) (by
        unfold boundsX
        rw [if_neg (by omega), if_neg (by omega), if_neg (by omega)]
        omega)
      rw [hl] at this; exact this
  split
  · rename_i h; exact hb _ h rfl
  · exact char_ok s h0
/-- The token, or the rune, at the front. -/
def oneX (q : Bool) (s : ByteArray) : TR := if q then charX (Utf.nums s) else tokX s
theorem one_ok (q : Bool) (s : ByteArray) (h0 : 0 < s.size) : TRok s.size (oneX q s) := by
  unfold oneX
  cases q
  · exact tok_ok s h0
  · exact char_ok s h0
theorem lexF_eq (s : ByteArray) (f at_ : Nat) (q : Bool) (T : List (Int × Tk)) : lexF s (f + 1) at_ q T = if s.size ≤ at_ then .ok T else
    if turnB q ((Utf.nums s).drop at_) = true then lexF s f (at_ + 2) (!q) T else
    match oneX q (s.extract at_ s.size) with
    | .bad n c => .bad (at_ + n) c
    | .ok t n => lexF s f (at_ + n) q (T ++ [((at_ : Int), t)]) := by
  unfold oneX
  rw [Br.nums_tail]
  rfl
theorem lexF_fuel (s : ByteArray) : ∀ (f g at_ : Nat) (q : Bool) (T : List (Int × Tk)), s.size - at_ < f → s.size - at_ < g → lexF s f at_ q T = lexF s g at_ q T
  | 0, _, _, _, _, hf, _ => by omega
  | _ + 1, 0, _, _, _, _, hg => by omega
  | f + 1, g + 1, at_, q, T, hf, hg => by
    rw [lexF_eq, lexF_eq]
    by_cases h1 : s.size ≤ at_
    · rw [if_pos h1, if_pos h1]
    · rw [if_neg h1, if_neg h1]
      by_cases h2 : turnB q ((Utf.nums s).drop at_) = true
      · rw [if_pos h2, if_pos h2]
        exact lexF_fuel s f g (at_ + 2) _ T (by omega) (by omega)
      · rw [if_neg h2, if_neg h2]
        have hz : (s.extract at_ s.size).size = s.size - at_ := by rw [ByteArray.size_extract]; omega
        have ho := one_ok q (s.extract at_ s.size) (by omega)
        cases hx : oneX q (s.extract at_ s.size) with
        | bad n c => rfl
        | ok t n =>
          rw [hx] at ho
          have := ho.1
          exact lexF_fuel s f g (at_ + n) _ _ (by omega) (by omega)
/-- The tokens of a text from a place on. -/
def lexR (s : ByteArray) (at_ : Nat) (q : Bool) (T : List (Int × Tk)) : LR := lexF s (s.size + 2) at_ q T
theorem lexR_end {s : ByteArray} {at_ : Nat} {q : Bool} {T : List (Int × Tk)} (h : s.size ≤ at_) : lexR s at_ q T = .ok T := by
  unfold lexR
  rw [lexF_eq, if_pos h]
theorem lexR_turn {s : ByteArray} {at_ : Nat} {q : Bool} {T : List (Int × Tk)} (h : at_ < s.size) (h2 : turnB q ((Utf.nums s).drop at_) = true) : lexR s at_ q T = lexR s (at_ + 2) (!q) T := by
  unfold lexR
  rw [lexF_eq, if_neg (by omega), if_pos h2]
  exact lexF_fuel s _ _ _ _ _ (by omega) (by omega)
theorem lexR_bad {s : ByteArray} {at_ : Nat} {q : Bool} {T : List (Int × Tk)} {n c : Int} (h : at_ < s.size) (h2 : turnB q ((Utf.nums s).drop at_) = false) (hx : oneX q (s.extract at_ s.size) = .bad n c) : lexR s at_ q T = .bad (at_ + n) c := by
  unfold lexR
  rw [lexF_eq, if_neg (by omega), if_neg (by rw [h2]; decide), hx]
theorem lexR_tok {s : ByteArray} {at_ : Nat} {q : Bool} {T : List (Int × Tk)} {t : Tk} {n : Nat} (h : at_ < s.size) (h2 : turnB q ((Utf.nums s).drop at_) = false) (hx : oneX q (s.extract at_ s.size) = .ok t n) : lexR s at_ q T = lexR s (at_ + n) q (T ++ [((at_ : Int), t)]) := by
  have hz : (s.extract at_ s.size).size = s.size - at_ := by rw [ByteArray.size_extract]; omega
  have ho := one_ok q (s.extract at_ s.size) (by omega)
  rw [hx] at ho
  have := ho.1
  unfold lexR
  rw [lexF_eq, if_neg (by omega), if_neg (by rw [h2]; decide), hx]
  exact lexF_fuel s _ _ _ _ _ (by omega) (by omega)
end Go.Proofs.YtdcielcniboloaaGreatDoor.Lx
