/- The reference's wire (burinref15): Num, get. -/
import Derived.Test.YtfnimmbmcjgdpaaDoorGp11
import Derived.Test.YtfnimmbmcjgdpaaDoorGp12
import Derived.Test.YtfnimmbmcjgdpaaDoorGp13
namespace Go.Proofs.YtfnimmbmcjgdpaaDoor
open Go.RowKit
set_option linter.unusedVariables false
namespace Pgm
theorem one_txt (w : World) (g cap : Nat) (c : UInt8) (z : Int) (hz : (c.toNat : Int) = z) (hc : w.cell? ⟨g, 0, none⟩ = some (.int .u8 z)) : (convert 55 9 (.slice (some ⟨g, 0, none⟩) 1 cap)).run Tryd.prog w = .ok (.string (txB [c])) w := by
  subst hz
  have h9 := run_convert_bytes_back (P := Tryd.prog) w 55 9 5 ⟨g, 0, none⟩ cap [c] (by kernel_rfl) (by kernel_rfl) (by kernel_rfl) (fun j hj => by
    have e : j = 0 := by simpa using hj
    subst e
    rw [Addr.add_lit]
    exact hc)
  exact h9
theorem txB_app (a b : List UInt8) : txB a ++ txB b = txB (a ++ b) := by
  apply ByteArray.ext
  show (txB a ++ txB b).data = (txB (a ++ b)).data
  rw [ByteArray.data_append]
  simp [txB]
set_option maxRecDepth 100000 in
set_option maxHeartbeats 4000000 in
theorem num15_small (W : World) (n : Int) (h0 : 0 ≤ n) (h1 : n < 128) : Calls Tryd.prog 86 #[.int .i64 n] W fun e w' => e = .returned (.string (txB (vL n))) ∧ Below W.heap.size W w' := by
  have hv : vL n = [UInt8.ofNat n.toNat] := by unfold vL; rw [if_pos h1]
  rw [hv]
  have e1 : IntKind.u8.wrap n = n := by rw [IntKind.wrap_u8]; omega
  have hz : (((UInt8.ofNat n.toNat).toNat : Nat) : Int) = n := by rw [ofNat_toNat8 (by omega)]; omega
  have hcv : ∀ w : World, (convert 55 9 (.slice (some ⟨w.heap.size, 0, none⟩) 1 1)).run Tryd.prog (w.alloc (.cells #[.int .u8 n] 5)) = .ok (.string (txB [UInt8.ofNat n.toNat])) (w.alloc (.cells #[.int .u8 n] 5)) := fun w => one_txt _ w.heap.size 1 _ _ hz (by simp)
  obtain ⟨T, hT⟩ : ∃ T, txB [UInt8.ofNat n.toNat] = T := ⟨_, rfl⟩
  rw [hT] at hcv ⊢
  clear hT hv hz
  go_enter Tryd.func86, Tryd.ntmps86
  go_wp2
  go_ret
  exact ⟨rfl, (Below.refl _ _).alloc (Nat.le_refl _) _⟩
set_option maxRecDepth 100000 in
set_option maxHeartbeats 4000000 in
theorem num15_big (W : World) (n : Int) (h0 : 128 ≤ n) (h1 : n < 16384) : Calls Tryd.prog 86 #[.int .i64 n] W fun e w' => e = .returned (.string (txB (vL n))) ∧ Below W.heap.size W w' := by
  obtain ⟨m, hm⟩ : ∃ m : Int, n / 128 = m := ⟨_, rfl⟩
  obtain ⟨d, hd⟩ : ∃ d : Int, n % 128 = d := ⟨_, rfl⟩
  have hm0 : 0 ≤ m := by omega
  have hm1 : m < 128 := by omega
  have hd0 : 0 ≤ d := by omega
  have hd1 : d < 128 := by omega
  have hv : vL n = [UInt8.ofNat (128 + d).toNat] ++ vL m := by
    unfold vL
    rw [if_neg (by omega), if_pos hm1]
    have q1 : 128 + n.toNat % 128 = (128 + d).toNat := by omega
    have q2 : n.toNat / 128 = m.toNat := by omega
    rw [q1, q2]; rfl
  have hrem : n.tmod 128 = d := by rw [Int.tmod_eq_emod_of_nonneg (by omega)]; exact hd
  have hquo : n.tdiv 128 = m := by rw [Int.tdiv_eq_ediv_of_nonneg (by omega)]; exact hm
  have hq2 : IntKind.i64.wrap (n.tdiv 128) = m := by rw [hquo, IntKind.wrap_i64]; omega
  have e0 : IntKind.i64.wrap (128 + d) = 128 + d := by rw [IntKind.wrap_i64]; omega
  have e1 : IntKind.u8.wrap (128 + d) = 128 + d := by rw [IntKind.wrap_u8]; omega
  have hz : (((UInt8.ofNat (128 + d).toNat).toNat : Nat) : Int) = 128 + d := by rw [ofNat_toNat8 (by omega)]; omega
  have HN := Lib.hid (fun w => num15_small w m hm0 hm1)
  have HT2 : Hid (txB (vL n) = txB [UInt8.ofNat (128 + d).toNat] ++ txB (vL m)) := Lib.hid (by rw [hv, txB_app])
  have hl := vL_len m
  have hs2 : (txB (vL m)).size ≤ 2 := by rw [txB_size]; omega
  have hs1 : (txB [UInt8.ofNat (128 + d).toNat]).size = 1 := by rw [txB_size]; rfl
  obtain ⟨Tc, hTc⟩ : ∃ Tc, txB [UInt8.ofNat (128 + d).toNat] = Tc := ⟨_, rfl⟩
  have hcv : ∀ w : World, (convert 55 9 (.slice (some ⟨w.heap.size, 0, none⟩) 1 1)).run Tryd.prog (w.alloc (.cells #[.int .u8 (128 + d)] 5)) = .ok (.string Tc) (w.alloc (.cells #[.int .u8 (128 + d)] 5)) := fun w => by rw [← hTc]; exact one_txt _ w.heap.size 1 _ _ hz (by simp)
  have hcv2 : ∀ w : World, (convert 55 9 (.slice (some ⟨w.heap.size, 0, none⟩) 1 1)).run Tryd.prog (w.alloc (.cells #[.int .u8 (128 + d)] 5)).drew = .ok (.string Tc) (w.alloc (.cells #[.int .u8 (128 + d)] 5)).drew := fun w => by rw [← hTc]; exact one_txt _ w.heap.size 1 _ _ hz (by show (w.alloc (.cells #[.int .u8 (128 + d)] 5)).cell? ⟨w.heap.size, 0, none⟩ = _; simp)
  have HOA : Hid (∀ w' : World, Below (W.alloc (.cells #[.int .u8 (128 + d)] 5)).drew.heap.size (W.alloc (.cells #[.int .u8 (128 + d)] 5)).drew w' → (convert 55 9 (.slice (some ⟨W.heap.size, 0, none⟩) 1 1)).run Tryd.prog w' = .ok (.string Tc) w') := Lib.hid (fun w' hb => by
    rw [← hTc]
    refine one_txt w' W.heap.size 1 _ _ hz ((hb.cell (p := ⟨W.heap.size, 0, none⟩) (by simp [World.drew])).trans (by show (W.alloc (.cells #[.int .u8 (128 + d)] 5)).cell? ⟨W.heap.size, 0, none⟩ = _; simp)))
  rw [hTc] at HT2 hs1
  obtain ⟨Tm, hTm⟩ : ∃ Tm, txB (vL m) = Tm := ⟨_, rfl⟩
  rw [hTm] at HT2 HN hs2
  have n2 : ¬ 9223372036854775807 < Tc.size + Tm.size := by omega
  have n1 : ¬ 9223372036854775807 < 1 + Tm.size := by omega
  rw [HT2.out]
  clear hTc hTm hl hv hz hm hd hquo HT2
  go_enter Tryd.func86, Tryd.ntmps86
  go_wp2
  go_region_with (go_at_call 86; refine (HN.out _).mono ?_; rintro e w' ⟨rfl, hb9⟩; try (have hcv9 := HOA.out _ hb9))
  all_goals
    go_wp2
    go_ret
    refine ⟨rfl, ?_⟩
    first
      | exact (((Below.refl W.heap.size W).drew).trans hb9).alloc (by have := hb9.size; simp at this; omega) _
      | exact (((Below.refl W.heap.size W).drew).alloc (by simp) _).trans (hb9.mono (by simp))
theorem num15_any (W : World) (n : Int) (h0 : 0 ≤ n) (h1 : n < 16384) : Calls Tryd.prog 86 #[.int .i64 n] W fun e w' => e = .returned (.string (txB (vL n))) ∧ Below W.heap.size W w' := by
  by_cases h : n < 128
  · exact num15_small W n h0 h
  · exact num15_big W n (by omega) h1
/-- What get hands back: a number and the place behind it, or none. -/
def GetQ (s : List UInt8) (k : Nat) (n p : Int) : Prop :=
  -1 ≤ p ∧ p ≤ (s.length : Int) ∧ 0 ≤ n ∧ n < 2097152 ∧ ∀ (m : Int) (r : List UInt8), 0 ≤ m → m < 16384 → s.drop k = vL m ++ r → n = m ∧ p = (k : Int) + ((vL m).length : Int)
theorem get_front {s : List UInt8} {k : Nat} {m : Int} {r : List UInt8} (h0 : 0 ≤ m) (h1 : m < 16384) (h : s.drop k = vL m ++ r) :
    (m < 128 ∧ (vL m).length = 1 ∧ ∃ hk : k < s.length, (s[k].toNat : Int) = m) ∨ (128 ≤ m ∧ (vL m).length = 2 ∧ ∃ hk : k + 1 < s.length, (s[k].toNat : Int) = 128 + m % 128 ∧ (s[k + 1].toNat : Int) = m / 128) := by
  have hl := congrArg List.length h
  rw [List.length_drop, List.length_append] at hl
  have hg : ∀ j, (hj : j < (vL m).length) → ∃ hk : k + j < s.length, s[k + j] = (vL m)[j] := fun j hj => by
    have hk : k + j < s.length := by omega
    refine ⟨hk, ?_⟩
    have h2 := congrArg (fun l => l[j]?) h
    simp only [List.getElem?_drop] at h2
    rw [List.getElem?_append_left hj, List.getElem?_eq_getElem hk, List.getElem?_eq_getElem hj] at h2
    exact Option.some.inj h2
  by_cases hm : m < 128
  · have e : vL m = [UInt8.ofNat m.toNat] := by unfold vL; rw [if_pos hm]
    refine .inl ⟨hm, by rw [e]; rfl, ?_⟩
    obtain ⟨hk, h3⟩ := hg 0 (by rw [e]; simp)
    refine ⟨by omega, ?_⟩
    have h4 : s[k]'(by omega) = UInt8.ofNat m.toNat := by
      have : (vL m)[0]'(by rw [e]; simp) = UInt8.ofNat m.toNat := by simp [e]
      rw [← this, ← h3]; simp
    rw [h4, ofNat_toNat8 (by omega)]; omega
  · have e : vL m = [UInt8.ofNat (128 + m.toNat % 128), UInt8.ofNat (m.toNat / 128)] := by unfold vL; rw [if_neg hm]
    refine .inr ⟨by omega, by rw [e]; rfl, ?_⟩
    obtain ⟨hk, h3⟩ := hg 0 (by rw [e]; simp)
    obtain ⟨hk1, h5⟩ := hg 1 (by rw [e]; simp)
    refine ⟨hk1, ?_, ?_⟩
    · have h4 : s[k]'(by omega) = UInt8.ofNat (128 + m.toNat % 128) := by
        have : (vL m)[0]'(by rw [e]; simp) = UInt8.ofNat (128 + m.toNat % 128) := by simp [e]
        rw [← this, ← h3]; simp
      rw [h4, ofNat_toNat8 (by omega)]; omega
    · have h4 : s[k + 1] = UInt8.ofNat (m.toNat / 128) := by
        have : (vL m)[1]'(by rw [e]; simp) = UInt8.ofNat (m.toNat / 128) := by simp [e]
        rw [← this, ← h5]
      rw [h4, ofNat_toNat8 (by omega)]; omega
/-- A byte of a text, and of its list. -/
theorem at_list (s : ByteArray) (k : Nat) (h : k < s.size) : ∃ hk : k < s.data.toList.length, s.data.toList[k] = s[k] := by
  refine ⟨by simpa using h, ?_⟩
  simp
  rfl
def GetPost (s : List UInt8) (k : Nat) (W : World) (e : Ending) (w' : World) : Prop := ∃ n p : Int, e = .returned (.tuple #[.int .i64 n, .int .i64 p]) ∧ GetQ s k n p ∧ W = w'
set_option maxRecDepth 100000 in
set_option maxHeartbeats 4000000 in
theorem get15_neg (W : World) (s : ByteArray) : Calls Tryd.prog 61 #[.string s, .int .i64 (-1)] W fun e w' => e = .returned (.tuple #[.int .i64 0, .int .i64 (-1)]) ∧ W = w' := by
  go_enter Tryd.func61, Tryd.ntmps61
  go_wp2
  refine wp_loop_rounds 1 ?_
  rw [rounds_succ]
  go_wp2
  go_ret2
  exact ⟨rfl, rfl⟩
theorem getq_eq {s : List UInt8} {k : Nat} {n p n' p' : Int} (h : GetQ s k n p) (h1 : n = n') (h2 : p = p') : GetQ s k n' p' := by subst h1; subst h2; exact h
theorem len_list (s : ByteArray) : s.data.toList.length = s.size := by simp
set_option maxRecDepth 100000 in
set_option maxHeartbeats 4000000 in
theorem get15_a (W : World) (s : ByteArray) (k : Nat) (hs : s.size ≤ 1000000) (hz : s.size ≤ k + 0) (hk : k ≤ s.size) : Calls Tryd.prog 61 #[.string s, .int .i64 (k : Int)] W (GetPost s.data.toList k W) := by
  have hlen := len_list s
  have i2 : ¬ (k : Int) < 0 := by omega
  have ak : IntKind.i64.wrap (k : Int) = (k : Int) := by rw [IntKind.wrap_i64]; omega
  have HQ : Hid (GetQ s.data.toList k 0 (-1)) := Lib.hid ⟨by omega, by omega, by omega, by omega, fun m r z0 z1 z2 => by
    have h3 := get_front z0 z1 z2
    rcases h3 with ⟨v1, v2, v, v3⟩ | ⟨v1, v2, v, v3, v4⟩
    · omega
    · omega⟩
  have ze : (s.size : Int) ≤ (k : Int) := by omega
  clear hlen
  go_enter Tryd.func61, Tryd.ntmps61
  go_wp2
  refine wp_loop_rounds 1 ?_
  rw [rounds_succ]
  go_wp2
  go_ret2
  exact ⟨_, _, rfl, getq_eq HQ.out (by omega) (by omega), rfl⟩
set_option maxRecDepth 100000 in
set_option maxHeartbeats 4000000 in
theorem get15_1 (W : World) (s : ByteArray) (k : Nat) (hs : s.size ≤ 1000000) (h0 : k < s.size) (g0 :  (s[k]'h0).toNat < 128) : Calls Tryd.prog 61 #[.string s, .int .i64 (k : Int)] W (GetPost s.data.toList k W) := by
  have hlen := len_list s
  have i2 : ¬ (k : Int) < 0 := by omega
  have ak : IntKind.i64.wrap (k : Int) = (k : Int) := by rw [IntKind.wrap_i64]; omega
  obtain ⟨m0, q0⟩ := at_list s (k) h0
  have b0 : (s[k]'h0).toNat < 256 := UInt8.toNat_lt _
  obtain ⟨c0, e0⟩ : ∃ c, (s[k]'h0).toNat = c := ⟨_, rfl⟩
  rw [e0] at g0 b0
  have p0 : ((s.data.toList[k]'m0).toNat : Int) = c0 := by rw [q0, e0]
  have HQ : Hid (GetQ s.data.toList k (c0 : Int) ((k : Int) + 1)) := Lib.hid ⟨by omega, by omega, by omega, by omega, fun m r z0 z1 z2 => by
    have h3 := get_front z0 z1 z2
    rcases h3 with ⟨v1, v2, v, v3⟩ | ⟨v1, v2, v, v3, v4⟩
    · rw [p0] at v3
      exact ⟨by omega, by omega⟩
    · rw [p0] at v3
      omega⟩
  clear p0 q0 m0
  have s0 : (c0 : Int).tmod 128 = ((c0 % 128 : Nat) : Int) := by rw [Int.tmod_eq_emod_of_nonneg (by omega)]; omega
  have t0 :  (c0 : Int) < 128 := by omega
  have w0 : IntKind.i64.wrap (c0 : Int) = (c0 : Int) := by rw [IntKind.wrap_i64]; omega
  have i0a : (k : Int) < (s.size : Int) := by omega
  have i0b : ¬ (s.size : Int) ≤ (k : Int) := by omega
  have i0c : (0 : Int) ≤ (k : Int) := by omega
  have i0d : ((k : Int)).toNat = k := by omega
  have aa : IntKind.i64.wrap ((k : Int) + 1) = (k : Int) + 1 := by rw [IntKind.wrap_i64]; omega
  clear hlen
  go_enter Tryd.func61, Tryd.ntmps61
  go_wp2
  refine wp_loop_rounds 1 ?_
  rw [rounds_succ]
  go_wp2
  go_ret2
  exact ⟨_, _, rfl, getq_eq HQ.out (by omega) (by omega), rfl⟩
set_option maxRecDepth 100000 in
set_option maxHeartbeats 4000000 in
theorem get15_b (W : World) (s : ByteArray) (k : Nat) (hs : s.size ≤ 1000000) (h0 : k < s.size) (g0 : ¬ (s[k]'h0).toNat < 128) (hz : s.size ≤ k + 1) (hk : k ≤ s.size) : Calls Tryd.prog 61 #[.string s, .int .i64 (k : Int)] W (GetPost s.data.toList k W) := by
  have hlen := len_list s
  have i2 : ¬ (k : Int) < 0 := by omega
  have ak : IntKind.i64.wrap (k : Int) = (k : Int) := by rw [IntKind.wrap_i64]; omega
  obtain ⟨m0, q0⟩ := at_list s (k) h0
  have b0 : (s[k]'h0).toNat < 256 := UInt8.toNat_lt _
  obtain ⟨c0, e0⟩ : ∃ c, (s[k]'h0).toNat = c := ⟨_, rfl⟩
  rw [e0] at g0 b0
  have p0 : ((s.data.toList[k]'m0).toNat : Int) = c0 := by rw [q0, e0]
  have HQ : Hid (GetQ s.data.toList k 0 (-1)) := Lib.hid ⟨by omega, by omega, by omega, by omega, fun m r z0 z1 z2 => by
    have h3 := get_front z0 z1 z2
    rcases h3 with ⟨v1, v2, v, v3⟩ | ⟨v1, v2, v, v3, v4⟩
    · rw [p0] at v3
      omega
    · omega⟩
  clear p0 q0 m0
  have s0 : (c0 : Int).tmod 128 = ((c0 % 128 : Nat) : Int) := by rw [Int.tmod_eq_emod_of_nonneg (by omega)]; omega
  have t0 : ¬ (c0 : Int) < 128 := by omega
  have w0 : IntKind.i64.wrap (c0 : Int) = (c0 : Int) := by rw [IntKind.wrap_i64]; omega
  have i0a : (k : Int) < (s.size : Int) := by omega
  have i0b : ¬ (s.size : Int) ≤ (k : Int) := by omega
  have i0c : (0 : Int) ≤ (k : Int) := by omega
  have i0d : ((k : Int)).toNat = k := by omega
  have ze : (s.size : Int) ≤ (k : Int) + 1 := by omega
  have aa : IntKind.i64.wrap ((k : Int) + 1) = (k : Int) + 1 := by rw [IntKind.wrap_i64]; omega
  clear hlen
  go_enter Tryd.func61, Tryd.ntmps61
  go_wp2
  refine wp_loop_rounds 2 ?_
  rw [rounds_succ]
  go_wp2
  rw [rounds_succ]
  go_wp2
  go_ret2
  exact ⟨_, _, rfl, getq_eq HQ.out (by omega) (by omega), rfl⟩
set_option maxRecDepth 100000 in
set_option maxHeartbeats 4000000 in
theorem get15_2 (W : World) (s : ByteArray) (k : Nat) (hs : s.size ≤ 1000000) (h0 : k < s.size) (g0 : ¬ (s[k]'h0).toNat < 128) (h1 : k + 1 < s.size) (g1 :  (s[k + 1]'h1).toNat < 128) : Calls Tryd.prog 61 #[.string s, .int .i64 (k : Int)] W (GetPost s.data.toList k W) := by
  have hlen := len_list s
  have i2 : ¬ (k : Int) < 0 := by omega
  have ak : IntKind.i64.wrap (k : Int) = (k : Int) := by rw [IntKind.wrap_i64]; omega
  obtain ⟨m0, q0⟩ := at_list s (k) h0
  have b0 : (s[k]'h0).toNat < 256 := UInt8.toNat_lt _
  obtain ⟨m1, q1⟩ := at_list s (k + 1) h1
  have b1 : (s[k + 1]'h1).toNat < 256 := UInt8.toNat_lt _
  obtain ⟨c0, e0⟩ : ∃ c, (s[k]'h0).toNat = c := ⟨_, rfl⟩
  rw [e0] at g0 b0
  have p0 : ((s.data.toList[k]'m0).toNat : Int) = c0 := by rw [q0, e0]
  obtain ⟨c1, e1⟩ : ∃ c, (s[k + 1]'h1).toNat = c := ⟨_, rfl⟩
  rw [e1] at g1 b1
  have p1 : ((s.data.toList[k + 1]'m1).toNat : Int) = c1 := by rw [q1, e1]
  have HQ : Hid (GetQ s.data.toList k ((c0 % 128 + c1 * 128 : Nat) : Int) ((k : Int) + 2)) := Lib.hid ⟨by omega, by omega, by omega, by omega, fun m r z0 z1 z2 => by
    have h3 := get_front z0 z1 z2
    rcases h3 with ⟨v1, v2, v, v3⟩ | ⟨v1, v2, v, v3, v4⟩
    · rw [p0] at v3
      omega
    · rw [p0] at v3
      rw [p1] at v4
      exact ⟨by omega, by omega⟩⟩
  clear p0 q0 m0
  clear p1 q1 m1
  have s0 : (c0 : Int).tmod 128 = ((c0 % 128 : Nat) : Int) := by rw [Int.tmod_eq_emod_of_nonneg (by omega)]; omega
  have t0 : ¬ (c0 : Int) < 128 := by omega
  have w0 : IntKind.i64.wrap (c0 : Int) = (c0 : Int) := by rw [IntKind.wrap_i64]; omega
  have i0a : (k : Int) < (s.size : Int) := by omega
  have i0b : ¬ (s.size : Int) ≤ (k : Int) := by omega
  have i0c : (0 : Int) ≤ (k : Int) := by omega
  have i0d : ((k : Int)).toNat = k := by omega
  have s1 : (c1 : Int).tmod 128 = ((c1 % 128 : Nat) : Int) := by rw [Int.tmod_eq_emod_of_nonneg (by omega)]; omega
  have t1 :  (c1 : Int) < 128 := by omega
  have w1 : IntKind.i64.wrap (c1 : Int) = (c1 : Int) := by rw [IntKind.wrap_i64]; omega
  have a1 : IntKind.i64.wrap ((k : Int) + 1) = (k : Int) + 1 := by rw [IntKind.wrap_i64]; omega
  have i1a : (k : Int) + 1 < (s.size : Int) := by omega
  have i1b : ¬ (s.size : Int) ≤ (k : Int) + 1 := by omega
  have i1c : (0 : Int) ≤ (k : Int) + 1 := by omega
  have i1d : ((k : Int) + 1).toNat = k + 1 := by omega
  have aa : IntKind.i64.wrap ((k : Int) + 2) = (k : Int) + 2 := by rw [IntKind.wrap_i64]; omega
  clear hlen
  go_enter Tryd.func61, Tryd.ntmps61
  go_wp2
  refine wp_loop_rounds 2 ?_
  rw [rounds_succ]
  go_wp2
  rw [rounds_succ]
  go_wp2
  go_ret2
  exact ⟨_, _, rfl, getq_eq HQ.out (by omega) (by omega), rfl⟩
set_option maxRecDepth 100000 in
set_option maxHeartbeats 4000000 in
theorem get15_c (W : World) (s : ByteArray) (k : Nat) (hs : s.size ≤ 1000000) (h0 : k < s.size) (g0 : ¬ (s[k]'h0).toNat < 128) (h1 : k + 1 < s.size) (g1 : ¬ (s[k + 1]'h1).toNat < 128) (hz : s.size ≤ k + 2) (hk : k ≤ s.size) : Calls Tryd.prog 61 #[.string s, .int .i64 (k : Int)] W (GetPost s.data.toList k W) := by
  have hlen := len_list s
  have i2 : ¬ (k : Int) < 0 := by omega
  have ak : IntKind.i64.wrap (k : Int) = (k : Int) := by rw [IntKind.wrap_i64]; omega
  obtain ⟨m0, q0⟩ := at_list s (k) h0
  have b0 : (s[k]'h0).toNat < 256 := UInt8.toNat_lt _
  obtain ⟨m1, q1⟩ := at_list s (k + 1) h1
  have b1 : (s[k + 1]'h1).toNat < 256 := UInt8.toNat_lt _
  obtain ⟨c0, e0⟩ : ∃ c, (s[k]'h0).toNat = c := ⟨_, rfl⟩
  rw [e0] at g0 b0
  have p0 : ((s.data.toList[k]'m0).toNat : Int) = c0 := by rw [q0, e0]
  obtain ⟨c1, e1⟩ : ∃ c, (s[k + 1]'h1).toNat = c := ⟨_, rfl⟩
  rw [e1] at g1 b1
  have p1 : ((s.data.toList[k + 1]'m1).toNat : Int) = c1 := by rw [q1, e1]
  have HQ : Hid (GetQ s.data.toList k 0 (-1)) := Lib.hid ⟨by omega, by omega, by omega, by omega, fun m r z0 z1 z2 => by
    have h3 := get_front z0 z1 z2
    rcases h3 with ⟨v1, v2, v, v3⟩ | ⟨v1, v2, v, v3, v4⟩
    · rw [p0] at v3
      omega
    · rw [p0] at v3
      rw [p1] at v4
      omega⟩
  clear p0 q0 m0
  clear p1 q1 m1
  have s0 : (c0 : Int).tmod 128 = ((c0 % 128 : Nat) : Int) := by rw [Int.tmod_eq_emod_of_nonneg (by omega)]; omega
  have t0 : ¬ (c0 : Int) < 128 := by omega
  have w0 : IntKind.i64.wrap (c0 : Int) = (c0 : Int) := by rw [IntKind.wrap_i64]; omega
  have i0a : (k : Int) < (s.size : Int) := by omega
  have i0b : ¬ (s.size : Int) ≤ (k : Int) := by omega
  have i0c : (0 : Int) ≤ (k : Int) := by omega
  have i0d : ((k : Int)).toNat = k := by omega
  have s1 : (c1 : Int).tmod 128 = ((c1 % 128 : Nat) : Int) := by rw [Int.tmod_eq_emod_of_nonneg (by omega)]; omega
  have t1 : ¬ (c1 : Int) < 128 := by omega
  have w1 : IntKind.i64.wrap (c1 : Int) = (c1 : Int) := by rw [IntKind.wrap_i64]; omega
  have a1 : IntKind.i64.wrap ((k : Int) + 1) = (k : Int) + 1 := by rw [IntKind.wrap_i64]; omega
  have i1a : (k : Int) + 1 < (s.size : Int) := by omega
  have i1b : ¬ (s.size : Int) ≤ (k : Int) + 1 := by omega
  have i1c : (0 : Int) ≤ (k : Int) + 1 := by omega
  have i1d : ((k : Int) + 1).toNat = k + 1 := by omega
  have ze : (s.size : Int) ≤ (k : Int) + 2 := by omega
  have aa : IntKind.i64.wrap ((k : Int) + 2) = (k : Int) + 2 := by rw [IntKind.wrap_i64]; omega
  clear hlen
  go_enter Tryd.func61, Tryd.ntmps61
  go_wp2
  refine wp_loop_rounds 3 ?_
  rw [rounds_succ]
  go_wp2
  rw [rounds_succ]
  go_wp2
  rw [rounds_succ]
  go_wp2
  go_ret2
  exact ⟨_, _, rfl, getq_eq HQ.out (by omega) (by omega), rfl⟩
set_option maxRecDepth 100000 in
set_option maxHeartbeats 4000000 in
theorem get15_3 (W : World) (s : ByteArray) (k : Nat) (hs : s.size ≤ 1000000) (h0 : k < s.size) (g0 : ¬ (s[k]'h0).toNat < 128) (h1 : k + 1 < s.size) (g1 : ¬ (s[k + 1]'h1).toNat < 128) (h2 : k + 2 < s.size) (g2 :  (s[k + 2]'h2).toNat < 128) : Calls Tryd.prog 61 #[.string s, .int .i64 (k : Int)] W (GetPost s.data.toList k W) := by
  have hlen := len_list s
  have i2 : ¬ (k : Int) < 0 := by omega
  have ak : IntKind.i64.wrap (k : Int) = (k : Int) := by rw [IntKind.wrap_i64]; omega
  obtain ⟨m0, q0⟩ := at_list s (k) h0
  have b0 : (s[k]'h0).toNat < 256 := UInt8.toNat_lt _
  obtain ⟨m1, q1⟩ := at_list s (k + 1) h1
  have b1 : (s[k + 1]'h1).toNat < 256 := UInt8.toNat_lt _
  obtain ⟨m2, q2⟩ := at_list s (k + 2) h2
  have b2 : (s[k + 2]'h2).toNat < 256 := UInt8.toNat_lt _
  obtain ⟨c0, e0⟩ : ∃ c, (s[k]'h0).toNat = c := ⟨_, rfl⟩
  rw [e0] at g0 b0
  have p0 : ((s.data.toList[k]'m0).toNat : Int) = c0 := by rw [q0, e0]
  obtain ⟨c1, e1⟩ : ∃ c, (s[k + 1]'h1).toNat = c := ⟨_, rfl⟩
  rw [e1] at g1 b1
  have p1 : ((s.data.toList[k + 1]'m1).toNat : Int) = c1 := by rw [q1, e1]
  obtain ⟨c2, e2⟩ : ∃ c, (s[k + 2]'h2).toNat = c := ⟨_, rfl⟩
  rw [e2] at g2 b2
  have p2 : ((s.data.toList[k + 2]'m2).toNat : Int) = c2 := by rw [q2, e2]
  have HQ : Hid (GetQ s.data.toList k ((c0 % 128 + c1 % 128 * 128 + c2 * 16384 : Nat) : Int) ((k : Int) + 3)) := Lib.hid ⟨by omega, by omega, by omega, by omega, fun m r z0 z1 z2 => by
    have h3 := get_front z0 z1 z2
    rcases h3 with ⟨v1, v2, v, v3⟩ | ⟨v1, v2, v, v3, v4⟩
    · rw [p0] at v3
      omega
    · rw [p0] at v3
      rw [p1] at v4
      omega⟩
  clear p0 q0 m0
  clear p1 q1 m1
  clear p2 q2 m2
  have s0 : (c0 : Int).tmod 128 = ((c0 % 128 : Nat) : Int) := by rw [Int.tmod_eq_emod_of_nonneg (by omega)]; omega
  have t0 : ¬ (c0 : Int) < 128 := by omega
  have w0 : IntKind.i64.wrap (c0 : Int) = (c0 : Int) := by rw [IntKind.wrap_i64]; omega
  have i0a : (k : Int) < (s.size : Int) := by omega
  have i0b : ¬ (s.size : Int) ≤ (k : Int) := by omega
  have i0c : (0 : Int) ≤ (k : Int) := by omega
  have i0d : ((k : Int)).toNat = k := by omega
  have s1 : (c1 : Int).tmod 128 = ((c1 % 128 : Nat) : Int) := by rw [Int.tmod_eq_emod_of_nonneg (by omega)]; omega
  have t1 : ¬ (c1 : Int) < 128 := by omega
  have w1 : IntKind.i64.wrap (c1 : Int) = (c1 : Int) := by rw [IntKind.wrap_i64]; omega
  have a1 : IntKind.i64.wrap ((k : Int) + 1) = (k : Int) + 1 := by rw [IntKind.wrap_i64]; omega
  have i1a : (k : Int) + 1 < (s.size : Int) := by omega
  have i1b : ¬ (s.size : Int) ≤ (k : Int) + 1 := by omega
  have i1c : (0 : Int) ≤ (k : Int) + 1 := by omega
  have i1d : ((k : Int) + 1).toNat = k + 1 := by omega
  have s2 : (c2 : Int).tmod 128 = ((c2 % 128 : Nat) : Int) := by rw [Int.tmod_eq_emod_of_nonneg (by omega)]; omega
  have t2 :  (c2 : Int) < 128 := by omega
  have w2 : IntKind.i64.wrap (c2 : Int) = (c2 : Int) := by rw [IntKind.wrap_i64]; omega
  have a2 : IntKind.i64.wrap ((k : Int) + 2) = (k : Int) + 2 := by rw [IntKind.wrap_i64]; omega
  have i2a : (k : Int) + 2 < (s.size : Int) := by omega
  have i2b : ¬ (s.size : Int) ≤ (k : Int) + 2 := by omega
  have i2c : (0 : Int) ≤ (k : Int) + 2 := by omega
  have i2d : ((k : Int) + 2).toNat = k + 2 := by omega
  have aa : IntKind.i64.wrap ((k : Int) + 3) = (k : Int) + 3 := by rw [IntKind.wrap_i64]; omega
  clear hlen
  go_enter Tryd.func61, Tryd.ntmps61
  go_wp2
  refine wp_loop_rounds 3 ?_
  rw [rounds_succ]
  go_wp2
  rw [rounds_succ]
  go_wp2
  rw [rounds_succ]
  go_wp2
  go_ret2
  exact ⟨_, _, rfl, getq_eq HQ.out (by omega) (by omega), rfl⟩
set_option maxRecDepth 100000 in
set_option maxHeartbeats 4000000 in
theorem get15_d (W : World) (s : ByteArray) (k : Nat) (hs : s.size ≤ 1000000) (h0 : k < s.size) (g0 : ¬ (s[k]'h0).toNat < 128) (h1 : k + 1 < s.size) (g1 : ¬ (s[k + 1]'h1).toNat < 128) (h2 : k + 2 < s.size) (g2 : ¬ (s[k + 2]'h2).toNat < 128) : Calls Tryd.prog 61 #[.string s, .int .i64 (k : Int)] W (GetPost s.data.toList k W) := by
  have hlen := len_list s
  have i2 : ¬ (k : Int) < 0 := by omega
  have ak : IntKind.i64.wrap (k : Int) = (k : Int) := by rw [IntKind.wrap_i64]; omega
  obtain ⟨m0, q0⟩ := at_list s (k) h0
  have b0 : (s[k]'h0).toNat < 256 := UInt8.toNat_lt _
  obtain ⟨m1, q1⟩ := at_list s (k + 1) h1
  have b1 : (s[k + 1]'h1).toNat < 256 := UInt8.toNat_lt _
  obtain ⟨m2, q2⟩ := at_list s (k + 2) h2
  have b2 : (s[k + 2]'h2).toNat < 256 := UInt8.toNat_lt _
  obtain ⟨c0, e0⟩ : ∃ c, (s[k]'h0).toNat = c := ⟨_, rfl⟩
  rw [e0] at g0 b0
  have p0 : ((s.data.toList[k]'m0).toNat : Int) = c0 := by rw [q0, e0]
  obtain ⟨c1, e1⟩ : ∃ c, (s[k + 1]'h1).toNat = c := ⟨_, rfl⟩
  rw [e1] at g1 b1
  have p1 : ((s.data.toList[k + 1]'m1).toNat : Int) = c1 := by rw [q1, e1]
  obtain ⟨c2, e2⟩ : ∃ c, (s[k + 2]'h2).toNat = c := ⟨_, rfl⟩
  rw [e2] at g2 b2
  have p2 : ((s.data.toList[k + 2]'m2).toNat : Int) = c2 := by rw [q2, e2]
  have HQ : Hid (GetQ s.data.toList k 0 (-1)) := Lib.hid ⟨by omega, by omega, by omega, by omega, fun m r z0 z1 z2 => by
    have h3 := get_front z0 z1 z2
    rcases h3 with ⟨v1, v2, v, v3⟩ | ⟨v1, v2, v, v3, v4⟩
    · rw [p0] at v3
      omega
    · rw [p0] at v3
      rw [p1] at v4
      omega⟩
  clear p0 q0 m0
  clear p1 q1 m1
  clear p2 q2 m2
  have s0 : (c0 : Int).tmod 128 = ((c0 % 128 : Nat) : Int) := by rw [Int.tmod_eq_emod_of_nonneg (by omega)]; omega
  have t0 : ¬ (c0 : Int) < 128 := by omega
  have w0 : IntKind.i64.wrap (c0 : Int) = (c0 : Int) := by rw [IntKind.wrap_i64]; omega
  have i0a : (k : Int) < (s.size : Int) := by omega
  have i0b : ¬ (s.size : Int) ≤ (k : Int) := by omega
  have i0c : (0 : Int) ≤ (k : Int) := by omega
  have i0d : ((k : Int)).toNat = k := by omega
  have s1 : (c1 : Int).tmod 128 = ((c1 % 128 : Nat) : Int) := by rw [Int.tmod_eq_emod_of_nonneg (by omega)]; omega
  have t1 : ¬ (c1 : Int) < 128 := by omega
  have w1 : IntKind.i64.wrap (c1 : Int) = (c1 : Int) := by rw [IntKind.wrap_i64]; omega
  have a1 : IntKind.i64.wrap ((k : Int) + 1) = (k : Int) + 1 := by rw [IntKind.wrap_i64]; omega
  have i1a : (k : Int) + 1 < (s.size : Int) := by omega
  have i1b : ¬ (s.size : Int) ≤ (k : Int) + 1 := by omega
  have i1c : (0 : Int) ≤ (k : Int) + 1 := by omega
  have i1d : ((k : Int) + 1).toNat = k + 1 := by omega
  have s2 : (c2 : Int).tmod 128 = ((c2 % 128 : Nat) : Int) := by rw [Int.tmod_eq_emod_of_nonneg (by omega)]; omega
  have t2 : ¬ (c2 : Int) < 128 := by omega
  have w2 : IntKind.i64.wrap (c2 : Int) = (c2 : Int) := by rw [IntKind.wrap_i64]; omega
  have a2 : IntKind.i64.wrap ((k : Int) + 2) = (k : Int) + 2 := by rw [IntKind.wrap_i64]; omega
  have i2a : (k : Int) + 2 < (s.size : Int) := by omega
  have i2b : ¬ (s.size : Int) ≤ (k : Int) + 2 := by omega
  have i2c : (0 : Int) ≤ (k : Int) + 2 := by omega
  have i2d : ((k : Int) + 2).toNat = k + 2 := by omega
  clear hlen
  go_enter Tryd.func61, Tryd.ntmps61
  go_wp2
  refine wp_loop_rounds 4 ?_
  rw [rounds_succ]
  go_wp2
  rw [rounds_succ]
  go_wp2
  rw [rounds_succ]
  go_wp2
  rw [rounds_succ]
  go_wp2
  go_ret2
  exact ⟨_, _, rfl, getq_eq HQ.out (by omega) (by omega), rfl⟩
theorem get15_any (W : World) (s : ByteArray) (k : Nat) (hs : s.size ≤ 1000000) (hk : k ≤ s.size) : Calls Tryd.prog 61 #[.string s, .int .i64 (k : Int)] W (GetPost s.data.toList k W) := by
  by_cases h0 : k < s.size
  · by_cases g0 : (s[k]'h0).toNat < 128
    · exact get15_1 W s k hs h0 g0
    · by_cases h1 : k + 1 < s.size
      · by_cases g1 : (s[k + 1]'h1).toNat < 128
        · exact get15_2 W s k hs h0 g0 h1 g1
        · by_cases h2 : k + 2 < s.size
          · by_cases g2 : (s[k + 2]'h2).toNat < 128
            · exact get15_3 W s k hs h0 g0 h1 g1 h2 g2
            · exact get15_d W s k hs h0 g0 h1 g1 h2 g2
          · exact get15_c W s k hs h0 g0 h1 g1 (by omega) hk
      · exact get15_b W s k hs h0 g0 (by omega) hk
  · exact get15_a W s k hs (by omega) hk
end Pgm
end Go.Proofs.YtfnimmbmcjgdpaaDoor
