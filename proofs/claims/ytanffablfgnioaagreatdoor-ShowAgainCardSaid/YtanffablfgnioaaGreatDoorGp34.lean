/- The landed lex: bracket expressions; a number of one to four digits. -/
import Derived.Test.YtanffablfgnioaaGreatDoorGp29
import Derived.Test.YtanffablfgnioaaGreatDoorGp33
import Derived.Lib.AtoiErrMem
namespace Go.Proofs.YtanffablfgnioaaGreatDoor
open Go.RowKit
open Lx (Tk TR)
set_option linter.unusedVariables false
set_option maxRecDepth 100000 in
set_option maxHeartbeats 4000000 in
theorem brackets_any (W : World) (s : ByteArray) (hs : s.size ≤ 4096) (hE : Ev W) : Calls Tryz.prog 31 #[.string s] W (TokPost (Lx.brackX s) W) := by
  have HE := Lib.hid hE
  clear hE
  go_enter Tryz.func31, Tryz.ntmps31
  go_wp2_with fail
  refine (brk_any _ s hs 0 false rfl (HE.out.below (Nat.le_refl _) ((Below.refl _ W).alloc (Nat.le_refl _) _))).mono ?_
  intro e w1 hp
  rcases hp with ⟨hb1, ⟨o, c, hx, rfl⟩ | ⟨Xs, at_, v, out, hx, rfl, hi, ho⟩⟩
  · have HX : Hid (Lx.brackX s = .bad o c) := Lib.hid (by unfold Lx.brackX; rw [hx])
    have hc0 : (c != 0) = true := by simpa using (Br.brack_bad hx).2.2
    have HBX := Lib.hid (box_kept hb1)
    have HB1 := Lib.hid (below_of_alloc hb1)
    obtain ⟨d0, d1, d2, d3, d4, d5, d6, d7, g0, g1, g2, g3, g4, g5, g6, g7⟩ := box_facts HBX.out
    clear hx hb1
    go_wp2
    (try simp only [Exit.inBlock, Exit.then])
    refine ret_tk rfl W.heap.size _ rfl (set8_blk _ _ _ _ _ _ _ _ _ _ HBX.out) rfl rfl ?_
    exact ⟨set8_below HB1.out _ (Nat.le_refl _) _ _ _ _ _ _ _ _, .inl ⟨0, _, _, HX.out, rfl⟩⟩
  · have HX : Hid (Lx.brackX s = .ok { kind := 13, name := s.extract 0 (at_ + 1) } (at_ + 1)) := Lib.hid (by unfold Lx.brackX; rw [hx])
    have hcl := Br.brack_close hx
    have HBX := Lib.hid (box_kept hb1)
    have HB1 := Lib.hid (below_of_alloc hb1)
    obtain ⟨d0, d1, d2, d3, d4, d5, d6, d7, g0, g1, g2, g3, g4, g5, g6, g7⟩ := box_facts HBX.out
    obtain ⟨n, hn⟩ : ∃ n, at_ + 1 = n := ⟨_, rfl⟩
    rw [hn] at HX ⊢
    have hni : (n : Int) ≤ (s.size : Int) := by omega
    have hn0 : (0 : Int) ≤ (n : Int) := by omega
    clear hx hb1 hi ho hcl hn
    go_wp2
    (try simp only [Exit.inBlock, Exit.then])
    refine ret_tk rfl W.heap.size _ rfl (set8_blk _ _ _ _ _ _ _ _ _ _ HBX.out) rfl rfl ?_
    exact tokPost_plain (set8_below HB1.out _ (Nat.le_refl _) _ _ _ _ _ _ _ _) HX.out rfl rfl
def digs10 : ByteArray := ⟨#[48, 49, 50, 51, 52, 53, 54, 55, 56, 57]⟩
theorem digs10_is (b : UInt8) : digs10.data.toList.contains b = Lx.decB (b.toNat : Int) := by
  have h : ∀ n : Fin 256, digs10.data.toList.contains (UInt8.ofNat n.val) = Lx.decB ((UInt8.ofNat n.val).toNat : Int) := by decide +kernel
  have := h ⟨b.toNat, UInt8.toNat_lt b⟩
  simpa using this
theorem all10 (l : List UInt8) : (l.map (fun b => (b.toNat : Int))).all Lx.decB = true ↔ ∀ x ∈ l, digs10.data.toList.contains x = true := by
  simp only [List.all_eq_true, List.mem_map, forall_exists_index, and_imp, forall_apply_eq_imp_iff₂, digs10_is]
theorem dropW_nil (p : UInt8 → Bool) : ∀ l : List UInt8, l.dropWhile p = [] ↔ ∀ x ∈ l, p x = true
  | [] => by simp
  | a :: l => by
    rw [List.dropWhile_cons]
    by_cases h : p a = true
    · rw [if_pos h, dropW_nil p l]; simp [h]
    · rw [if_neg h]; simp [h]
theorem trim10 (l : List UInt8) : (Lib.trimS l digs10.data.toList = []) ↔ (l.map (fun b => (b.toNat : Int))).all Lx.decB = true := by
  rw [all10]
  unfold Lib.trimS Lib.trimLeftS Lib.trimRightS
  rw [dropW_nil]
  constructor
  · intro h
    cases hd : List.dropWhile (fun x => digs10.data.toList.contains x) l.reverse with
    | nil =>
      rw [dropW_nil] at hd
      exact fun x hx => hd x (List.mem_reverse.2 hx)
    | cons y r =>
      rw [hd] at h
      have h1 := h y (by simp)
      have h2 := List.head_dropWhile_not (p := fun x => digs10.data.toList.contains x) (l := l.reverse) (by rw [hd]; simp)
      simp only [hd, List.head_cons] at h2
      rw [h1] at h2; cases h2
  · intro h x hx
    have hd : List.dropWhile (fun x => digs10.data.toList.contains x) l.reverse = [] := by
      rw [dropW_nil]
      exact fun y hy => h y (List.mem_reverse.1 hy)
    rw [hd] at hx
    simp at hx
theorem dec10 : ∀ (l : List UInt8) (a : Nat), (l.map (fun b => (b.toNat : Int))).all Lx.decB = true → ∃ n : Nat, Lib.decFrom a l = some n ∧ (n : Int) = (l.map (fun b => (b.toNat : Int))).foldl (fun a c => a * 10 + (c - 48)) (a : Int)
  | [], a, _ => ⟨a, rfl, rfl⟩
  | b :: r, a, h => by
    rw [List.map_cons, List.all_cons, Bool.and_eq_true] at h
    have hb : 48 ≤ b.toNat ∧ b.toNat ≤ 57 := by
      have := h.1
      unfold Lx.decB at this
      simp at this
      omega
    obtain ⟨n, h1, h2⟩ := dec10 r (a * 10 + (b.toNat - 48)) h.2
    refine ⟨n, ?_, ?_⟩
    · unfold Lib.decFrom Lib.digitVal
      rw [if_pos hb]
      exact h1
    · rw [h2, List.map_cons, List.foldl_cons]
      congr 1
      omega
theorem atoi10 (s : ByteArray) (h0 : 0 < s.size) (h : (Utf.nums s).all Lx.decB = true) : Lib.atoi s.data.toList = some (Lx.dval (Utf.nums s)) := by
  unfold Lx.dval
  unfold Utf.nums at h ⊢
  have hl : s.data.toList.length = s.size := Array.length_toList
  cases hs : s.data.toList with
  | nil => rw [hs] at hl; simp at hl; omega
  | cons b r =>
    rw [hs] at h
    have hb : 48 ≤ b.toNat ∧ b.toNat ≤ 57 := by
      rw [List.map_cons, List.all_cons, Bool.and_eq_true] at h
      have := h.1
      unfold Lx.decB at this
      simp at this
      omega
    have n1 : (b == 45) = false := by
      rw [beq_eq_false_iff_ne]; intro e; rw [e] at hb; revert hb; decide
    have n2 : (b == 43) = false := by
      rw [beq_eq_false_iff_ne]; intro e; rw [e] at hb; revert hb; decide
    obtain ⟨n, h1, h2⟩ := dec10 (b :: r) 0 h
    unfold Lib.atoi Lib.decNat
    simp only [n1, n2, h1, List.isEmpty_cons, Bool.false_eq_true, if_false, Option.map_some]
    rw [h2]; rfl
theorem dval_bd : ∀ (l : List Int) (a : Int), 0 ≤ a → l.all Lx.decB = true → 0 ≤ l.foldl (fun a c => a * 10 + (c - 48)) a ∧ l.foldl (fun a c => a * 10 + (c - 48)) a < (a + 1) * 10 ^ l.length
  | [], a, h0, _ => by simp; omega
  | c :: r, a, h0, h => by
    rw [List.all_cons, Bool.and_eq_true] at h
    have hc : 48 ≤ c ∧ c ≤ 57 := by
      have := h.1
      unfold Lx.decB at this
      simpa using this
    obtain ⟨h1, h2⟩ := dval_bd r (a * 10 + (c - 48)) (by omega) h.2
    refine ⟨by rw [List.foldl_cons]; exact h1, ?_⟩
    rw [List.foldl_cons, List.length_cons, Int.pow_succ]
    have h3 : (a * 10 + (c - 48) + 1) * 10 ^ r.length ≤ (a + 1) * 10 * 10 ^ r.length := Int.mul_le_mul_of_nonneg_right (by omega) (Int.le_of_lt (Int.pow_pos (by decide)))
    rw [Int.mul_comm (10 ^ r.length) 10, ← Int.mul_assoc]
    omega
theorem cnt_bd {l : List Int} {n : Int} (h : Lx.cntX l = some n) : 0 ≤ n ∧ n < 10000 := by
  unfold Lx.cntX at h
  split at h
  · rename_i hc
    have h1 : Lx.dval l = n := by injection h
    have h2 := dval_bd l 0 (Int.le_refl _) hc.2.2
    rw [← h1]
    unfold Lx.dval
    refine ⟨h2.1, Int.lt_of_lt_of_le h2.2 ?_⟩
    have : l.length = 1 ∨ l.length = 2 ∨ l.length = 3 ∨ l.length = 4 := by omega
    rcases this with e | e | e | e <;> rw [e] <;> decide
  · cases h
set_option maxRecDepth 100000 in
set_option maxHeartbeats 4000000 in
theorem count_any (W : World) (s : ByteArray) (hs : s.size ≤ 4096) : Calls Tryz.prog 61 #[.string s] W fun e w' =>
    e = .returned (.tuple #[.int .i64 ((Lx.cntX (Utf.nums s)).getD 0), .bool (Lx.cntX (Utf.nums s)).isSome]) ∧ Below W.heap.size W w' := by
  have hl := Utf.nums_length s
  by_cases c1 : s.size < 1
  · have HX : Hid (Lx.cntX (Utf.nums s) = none) := Lib.hid (by unfold Lx.cntX; rw [if_neg (by omega)])
    have c1i : (s.size : Int) < 1 := by omega
    clear c1 hl
    go_enter Tryz.func61, Tryz.ntmps61
    go_wp2
    go_ret2
    exact ⟨by rw [HX.out]; rfl, Below.refl _ _⟩
  by_cases c4 : 4 < s.size
  · have HX : Hid (Lx.cntX (Utf.nums s) = none) := Lib.hid (by unfold Lx.cntX; rw [if_neg (by omega)])
    have c1i : ¬ (s.size : Int) < 1 := by omega
    have c4i : (4 : Int) < (s.size : Int) := by omega
    clear c1 c4 hl
    go_enter Tryz.func61, Tryz.ntmps61
    go_wp2
    go_ret2
    exact ⟨by rw [HX.out]; rfl, Below.refl _ _⟩
  have c1i : ¬ (s.size : Int) < 1 := by omega
  have c4i : ¬ (4 : Int) < (s.size : Int) := by omega
  have HT := Lib.hid (fun w => Any.strings_Trim_laid (P := Tryz.prog) Tryz.layTrim (by kernel_rfl) s digs10 w (by omega) (by decide) (ascii_of_all (by decide +kernel)))
  have hT := trim10 s.data.toList
  by_cases ha : (Utf.nums s).all Lx.decB = true
  · have hT2 : Lib.trimS s.data.toList digs10.data.toList = [] := hT.2 ha
    rw [hT2] at HT
    have HX : Hid (Lx.cntX (Utf.nums s) = some (Lx.dval (Utf.nums s))) := Lib.hid (by unfold Lx.cntX; rw [if_pos ⟨by omega, by omega, ha⟩])
    have HA := Lib.hid (fun w => Any.strconv_Atoi (P := Tryz.prog) Tryz.layAtoi s (Lx.dval (Utf.nums s)) (by omega) (atoi10 s (by omega) ha) w)
    clear c1 c4 hT hT2 ha hl
    go_enter Tryz.func61, Tryz.ntmps61
    go_wp2_with fail
    refine (HT.out _).mono ?_
    rintro e w1 ⟨rfl, hb1⟩
    have HB1 := Lib.hid hb1
    clear hb1
    go_wp2_with fail
    refine (HA.out _).mono ?_
    rintro e w2 ⟨rfl, tt, rfl⟩
    go_wp2
    go_ret2
    exact ⟨by rw [HX.out]; rfl, HB1.out.trans ((Lib.bytesWorld_below _ _ _).mono HB1.out.size)⟩
  · have hT2 : ¬ Lib.trimS s.data.toList digs10.data.toList = [] := fun h => ha (hT.1 h)
    have HX : Hid (Lx.cntX (Utf.nums s) = none) := Lib.hid (by unfold Lx.cntX; rw [if_neg (fun h => ha h.2.2)])
    obtain ⟨t, ht⟩ : ∃ t : ByteArray, (⟨(Lib.trimS s.data.toList digs10.data.toList).toArray⟩ : ByteArray) = t := ⟨_, rfl⟩
    have h0 : 0 < t.size := by
      rw [← ht]
      show 0 < (Lib.trimS s.data.toList digs10.data.toList).toArray.size
      rw [List.size_toArray]
      exact List.length_pos_iff.2 hT2
    rw [ht] at HT
    obtain ⟨hne, hne2⟩ := toList_ne h0
    clear c1 c4 hT hT2 ha hl ht h0
    go_enter Tryz.func61, Tryz.ntmps61
    go_wp2_with fail
    refine (HT.out _).mono ?_
    rintro e w1 ⟨rfl, hb1⟩
    have HB1 := Lib.hid hb1
    clear hb1
    go_wp2
    go_ret2
    exact ⟨by rw [HX.out]; rfl, HB1.out⟩
end Go.Proofs.YtanffablfgnioaaGreatDoor
