/- The reference's prog (burinref14): Cursor.num. -/
import Derived.Test.YtfnimmbmcjgdpaaDoorGp19
namespace Go.Proofs.YtfnimmbmcjgdpaaDoor
open Go.RowKit
set_option linter.unusedVariables false
namespace Pgm
theorem digits_len4 (n : Nat) (h : n < 10000) : 1 ≤ (Lib.decDigits n).length ∧ (Lib.decDigits n).length ≤ 4 := by
  rw [Lib.decDigits_length]
  by_cases h1 : n < 10
  · rw [Lib.nDigits_small h1]; omega
  by_cases h2 : n < 100
  · rw [Lib.nDigits_unique 1 n (by omega) (by omega)]; omega
  by_cases h3 : n < 1000
  · rw [Lib.nDigits_unique 2 n (by omega) (by omega)]; omega
  · rw [Lib.nDigits_unique 3 n (by omega) (by omega)]; omega
theorem dec_bad {b : UInt8} (hb : Lib.digitVal b = none) (r : List UInt8) : ∀ (l : List UInt8) (acc : Nat), Lib.decFrom acc (l ++ b :: r) = none
  | [], acc => by
    show Lib.decFrom acc (b :: r) = none
    simp only [Lib.decFrom, hb]
  | a :: l, acc => by
    show Lib.decFrom acc (a :: (l ++ b :: r)) = none
    simp only [Lib.decFrom]
    cases Lib.digitVal a with
    | none => rfl
    | some d => exact dec_bad hb r l _
theorem digit_of {b : UInt8} (h : 48 ≤ b.toNat ∧ b.toNat ≤ 57) : Lib.digitVal b = some (b.toNat - 48) := by
  unfold Lib.digitVal
  rw [if_pos (by omega)]
theorem digit_no {b : UInt8} (h : ¬ (48 ≤ b.toNat ∧ b.toNat ≤ 57)) : Lib.digitVal b = none := by
  unfold Lib.digitVal
  rw [if_neg (by omega)]
theorem num_exact {S : List UInt8} {p k nn : Nat} (hk5 : k ≤ 5) (hks : p + 1 + k ≤ S.length) (hd : Lib.decFrom 0 ((S.drop (p + 1)).take k) = some nn)
    (hex : k = 5 ∨ S.length ≤ p + 1 + k ∨ ∃ h : p + 1 + k < S.length, Lib.digitVal (S[p + 1 + k]'h) = none) {m : Int} {z : List UInt8} (h0 : 0 ≤ m) (h1 : m < 10000) (hs : S.drop p = 32 :: (Lib.itoa m ++ z)) (hz : ∀ b0 r, z = b0 :: r → Lib.digitVal b0 = none) :
    (nn : Int) = m ∧ 1 ≤ k ∧ k ≤ 4 ∧ S.drop (p + 1 + k) = z := by
  have hD : S.drop (p + 1) = Lib.itoa m ++ z := by
    have := congrArg (List.drop 1) hs
    rw [List.drop_drop] at this
    simpa using this
  rw [itoa_nat h0] at hD
  have hL := digits_len4 m.toNat (by omega)
  have hmem := fun b (hb : b ∈ Lib.decDigits m.toNat) => digit_mem hb
  have hval := decFrom_digits m.toNat
  obtain ⟨I, hI⟩ : ∃ I, Lib.decDigits m.toNat = I := ⟨_, rfl⟩
  rw [hI] at hD hL hmem hval
  have hlen := congrArg List.length hD
  rw [List.length_drop, List.length_append] at hlen
  have hkL : k = I.length := by
    rcases Nat.lt_trichotomy k I.length with hlt | heq | hgt
    · exfalso
      rcases hex with h5 | hsz | ⟨hb, hn⟩
      · omega
      · omega
      · have e1 : S[p + 1 + k]'hb = I[k] := by
          have h3 := congrArg (fun l => l[k]?) hD
          simp only [List.getElem?_drop] at h3
          rw [List.getElem?_append_left hlt, List.getElem?_eq_getElem hb, List.getElem?_eq_getElem hlt] at h3
          exact Option.some.inj h3
        rw [e1, digit_of (hmem _ (List.getElem_mem hlt))] at hn
        cases hn
    · exact heq
    · exfalso
      have hzl : 0 < z.length := by omega
      cases z with
      | nil => simp at hzl
      | cons b0 r =>
        have hb0 := hz b0 r rfl
        have e2 : (S.drop (p + 1)).take k = I ++ b0 :: r.take (k - I.length - 1) := by
          rw [hD, List.take_append, List.take_of_length_le (by omega)]
          have : k - I.length = (k - I.length - 1) + 1 := by omega
          rw [this, List.take_succ_cons]
          simp
        rw [e2, dec_bad hb0] at hd
        cases hd
  have e3 : (S.drop (p + 1)).take k = I := by rw [hD, hkL, List.take_left]
  rw [e3, hval] at hd
  have e4 := Option.some.inj hd
  refine ⟨by omega, by omega, by omega, ?_⟩
  rw [← List.drop_drop, hD, hkL, List.drop_left]
theorem dec_step {S : List UInt8} {p k nn : Nat} (hd : Lib.decFrom 0 ((S.drop (p + 1)).take k) = some nn) (hb : p + 1 + k < S.length) (hg : 48 ≤ (S[p + 1 + k]'hb).toNat ∧ (S[p + 1 + k]'hb).toNat ≤ 57) :
    Lib.decFrom 0 ((S.drop (p + 1)).take (k + 1)) = some (nn * 10 + ((S[p + 1 + k]'hb).toNat - 48)) := by
  have hk : k < (S.drop (p + 1)).length := by rw [List.length_drop]; omega
  have e : (S.drop (p + 1))[k]'hk = S[p + 1 + k]'hb := by rw [List.getElem_drop]
  rw [List.take_add_one, List.getElem?_eq_getElem hk]
  show Lib.decFrom 0 ((S.drop (p + 1)).take k ++ [(S.drop (p + 1))[k]'hk]) = _
  rw [decFrom_snoc, hd, e, digit_of hg]
  rfl
/-- What num does. -/
def NumPost (W : World) (C : Nat) (s : ByteArray) (p : Nat) (bad : Bool) (e : Ending) (w' : World) : Prop :=
  ∃ (n : Int) (q : Nat) (b : Bool), e = .returned (.int .i64 n) ∧ CurAt w' C s (q : Int) b ∧ W.grownBy w' (some C) ∧ p ≤ q ∧ q ≤ s.size ∧ 0 ≤ n ∧ n ≤ 100000 ∧
    ∀ (m : Int) (z : List UInt8), 0 ≤ m → m < 10000 → s.data.toList.drop p = 32 :: (Lib.itoa m ++ z) → (∀ b0 r, z = b0 :: r → Lib.digitVal b0 = none) → n = m ∧ b = bad ∧ s.data.toList.drop q = z
theorem pow_bd {k n : Nat} (h : n < 10 ^ k) (hk : k ≤ 5) : n < 100000 := Nat.lt_of_lt_of_le h (show 10 ^ k ≤ 10 ^ 5 from Nat.pow_le_pow_right (by decide) hk)
theorem at_l (s : ByteArray) (k : Nat) (h : k < s.size) : ∃ hk : k < s.data.toList.length, s.data.toList[k] = s[k] := by
  refine ⟨by simpa using h, ?_⟩
  simp
  rfl
theorem word_32 {S : List UInt8} {p : Nat} {z : List UInt8} (h : S.drop p = 32 :: z) : atW S p [32] = true := by
  unfold atW
  rw [h]
  rfl
set_option maxRecDepth 100000 in
set_option maxHeartbeats 16000000 in
theorem numc_any (W : World) (C : Nat) (s : ByteArray) (p : Nat) (bad : Bool) (hs : s.size ≤ 1000000) (hp : p ≤ s.size) (hc : CurAt W C s (p : Int) bad) :
    Calls Tryd.prog 51 #[.pointer (some ⟨C, 0, none⟩)] W (NumPost W C s p bad) := by
  have HWD := Lib.hid (word_any W C s p bad [32] hs hp (by decide) hc)
  have e32 : txB [32] = (⟨#[32]⟩ : ByteArray) := rfl
  rw [e32] at HWD
  have hsl := size_list s
  have HC := Lib.hid hc
  clear hc e32
  go_enter Tryd.func51, Tryd.ntmps51
  go_wp2_with fail
  refine HWD.out.mono ?_
  rintro e w1 (⟨hw, rfl, hc1, hg1, hle⟩ | ⟨hw, rfl, hc1, hg1⟩)
  · have hle1 : p + 1 ≤ s.size := hle
    have hc1' : CurAt w1 C s ((p + 1 + 0 : Nat) : Int) bad := hc1
    have HC1 := Lib.hid hc1'
    have HG1 := Lib.hid hg1
    clear hw hc1 hg1 hle hc1'
    go_wp2
    go_loopw [3, 4] (fun N K wr => ∃ (k nn : Nat), N = .int .i64 (nn : Int) ∧ K = .int .i64 (k : Int) ∧ k ≤ 5 ∧ nn < 10 ^ k ∧ p + 1 + k ≤ s.size ∧ Hid (Lib.decFrom 0 ((s.data.toList.drop (p + 1)).take k) = some nn) ∧ Hid (CurAt wr C s ((p + 1 + k : Nat) : Int) bad) ∧ Hid (W.grownBy wr (some C))) (fun N K _ => 5 - (intOf K).toNat)
    case atStart => exact ⟨0, 0, rfl, rfl, by omega, by decide, by omega, Lib.hid rfl, HC1, HG1⟩
    case round =>
      obtain ⟨k, nn, rfl, rfl, hk, hnn, hks, HD, HCk, HGk⟩ := hrel
      have hn6 := pow_bd hnn hk
      obtain ⟨q, hq⟩ : ∃ q, p + 1 + k = q := ⟨_, rfl⟩
      have HQ := Lib.hid hq
      have hqp : p ≤ q := by omega
      have HCq : Hid (CurAt wr C s (q : Int) bad) := Lib.hid (by rw [← hq]; exact HCk.out)
      have c0 : wr.cell? ⟨C, 0, none⟩ = some (.string s) := blkp HCq.out 0
      have c1 : wr.cell? ⟨C, 1, none⟩ = some (.int .i64 (q : Int)) := blkp HCq.out 1
      have hCl := HCq.out.lt
      rw [hq] at hks
      clear hq HCk
      have hq0 : (0 : Int) ≤ (q : Int) := by omega
      have hqt : ((q : Int)).toNat = q := by omega
      by_cases a1 : q < s.size
      · have a1i : (q : Int) < (s.size : Int) := by omega
        by_cases a2 : k < 5
        · have a2i : (k : Int) < 5 := by omega
          obtain ⟨hq2, hqc⟩ := at_l s q a1
          have HQC : Hid (∃ h : q < s.data.toList.length, (s.data.toList[q]'h) = (s[q]'a1)) := Lib.hid ⟨hq2, hqc⟩
          have hcb : (s[q]'a1).toNat < 256 := UInt8.toNat_lt _
          obtain ⟨c, hcc⟩ : ∃ c, (s[q]'a1).toNat = c := ⟨_, rfl⟩
          rw [hcc] at hcb
          have HCC := Lib.hid hcc
          clear hq2 hqc
          by_cases a3 : 48 ≤ c
          · have a3i : (48 : Int) ≤ (c : Int) := by omega
            by_cases a4 : c ≤ 57
            · have a4i : (c : Int) ≤ 57 := by omega
              have cw : IntKind.i64.wrap (c : Int) = (c : Int) := by rw [IntKind.wrap_i64]; omega
              have w1 : IntKind.i64.wrap ((nn : Int) * 10) = (nn : Int) * 10 := by rw [IntKind.wrap_i64]; omega
              have w2 : IntKind.i64.wrap ((nn : Int) * 10 + (c : Int)) = (nn : Int) * 10 + (c : Int) := by rw [IntKind.wrap_i64]; omega
              have w3 : IntKind.i64.wrap ((nn : Int) * 10 + (c : Int) - 48) = (nn : Int) * 10 + (c : Int) - 48 := by rw [IntKind.wrap_i64]; omega
              have w4 : IntKind.i64.wrap ((k : Int) + 1) = (k : Int) + 1 := by rw [IntKind.wrap_i64]; omega
              have w5 : IntKind.i64.wrap ((q : Int) + 1) = (q : Int) + 1 := by rw [IntKind.wrap_i64]; omega
              have HDn : Hid (Lib.decFrom 0 ((s.data.toList.drop (p + 1)).take (k + 1)) = some (nn * 10 + (c - 48))) := Lib.hid (by
                obtain ⟨h1, h2⟩ := HQC.out
                have hqe := HQ.out
                subst hqe
                have hc9 : ((s.data.toList[p + 1 + k]'h1).toNat) = c := by rw [h2, HCC.out]
                have := dec_step HD.out h1 (by rw [hc9]; omega)
                rw [hc9] at this
                exact this)
              have HNB : Hid (nn * 10 + (c - 48) < 10 ^ (k + 1)) := Lib.hid (by rw [Nat.pow_succ]; omega)
              have HNE : Hid (((nn * 10 + (c - 48) : Nat) : Int) = (nn : Int) * 10 + (c : Int) - 48) := Lib.hid (by omega)
              have HCn : Hid (∀ d, CurAt ((wr.drewN d).setCell ⟨C, 1, none⟩ (.int .i64 ((q : Int) + 1))) C s ((p + 1 + (k + 1) : Nat) : Int) bad) := Lib.hid (fun d => by
                have := CurAt.at_ (show CurAt (wr.drewN d) C s (q : Int) bad from HCq.out) ((q : Int) + 1)
                have hqe := HQ.out
                rw [show ((p + 1 + (k + 1) : Nat) : Int) = (q : Int) + 1 by omega]
                exact this)
              have HGn : Hid (∀ d, W.grownBy ((wr.drewN d).setCell ⟨C, 1, none⟩ (.int .i64 ((q : Int) + 1))) (some C)) := Lib.hid (fun d => grown_set14 (grown_drew HGk.out d) _ _)
              have hf1 : wr.frozen? ⟨C, 1, none⟩ = false := by simp [World.frozen?, show wr.heap[C]? = _ from HCq.out]
              clear hnn
              go_wp2
              go_quiet (fail)
              go_wp2
              go_quiet (fail)
              go_wp2
              go_roundw
              case rel => first | exact ⟨k + 1, _, by rw [HNE.out], by go_num, by omega, HNB.out, by have := HQ.out; omega, HDn, HCn.out _, HGn.out _⟩ | ((repeat apply Exists.intro); exact ⟨⟨k + 1, _, by rw [HNE.out], by go_num, by omega, HNB.out, by have := HQ.out; omega, HDn, Lib.hid (HCn.out _), Lib.hid (HGn.out _)⟩, rfl⟩)
              case measure => simp [intOf]; omega
            · have a4i : ¬ (c : Int) ≤ 57 := by omega
              have HEX : Hid (k = 5 ∨ s.data.toList.length ≤ p + 1 + k ∨ ∃ h : p + 1 + k < s.data.toList.length, Lib.digitVal (s.data.toList[p + 1 + k]'h) = none) := Lib.hid (by
                obtain ⟨h1, h2⟩ := HQC.out
                have hqe := HQ.out
                subst hqe
                exact .inr (.inr ⟨h1, digit_no (by rw [h2, HCC.out]; omega)⟩))
              have HNX : Hid (∀ (m : Int) (z : List UInt8), 0 ≤ m → m < 10000 → s.data.toList.drop p = 32 :: (Lib.itoa m ++ z) → (∀ b0 r, z = b0 :: r → Lib.digitVal b0 = none) → (nn : Int) = m ∧ 1 ≤ k ∧ k ≤ 4 ∧ s.data.toList.drop q = z) := Lib.hid (fun m z h0 h1 hd hz => by
                have hqe := HQ.out
                have := num_exact hk (by omega) HD.out HEX.out h0 h1 hd hz
                rw [hqe] at this
                exact this)
              have HBAD : Hid (∀ d, CurAt ((wr.drewN d).setCell ⟨C, 2, none⟩ (.bool true)) C s (q : Int) true) := Lib.hid (fun d => CurAt.bad_ (show CurAt (wr.drewN d) C s (q : Int) bad from HCq.out) true)
              have HGB : Hid (∀ d, W.grownBy ((wr.drewN d).setCell ⟨C, 2, none⟩ (.bool true)) (some C)) := Lib.hid (fun d => grown_set14 (grown_drew HGk.out d) _ _)
              have hf2 : wr.frozen? ⟨C, 2, none⟩ = false := by simp [World.frozen?, show wr.heap[C]? = _ from HCq.out]
              have c2 : wr.cell? ⟨C, 2, none⟩ = some (.bool bad) := blkp HCq.out 2
              clear hnn
              by_cases b1 : (k : Int) < 1
              · go_wp2
                have a4d : decide (((s[q]'a1).toNat : Int) ≤ 57) = false := decide_eq_false (by rw [HCC.out]; omega)
                have a3d : decide ((48 : Int) ≤ ((s[q]'a1).toNat : Int)) = true := decide_eq_true (by rw [HCC.out]; omega)
                go_quiet (fail)
                go_wp2
                go_ret
                exact ⟨(nn : Int), q, true, rfl, HBAD.out _, HGB.out _, hqp, hks, by omega, by omega, fun m z h0 h1 hd hz => by
                  have := HNX.out m z h0 h1 hd hz
                  omega⟩
              · have b2 : ¬ (4 : Int) < (k : Int) := by omega
                go_wp2
                have a4d : decide (((s[q]'a1).toNat : Int) ≤ 57) = false := decide_eq_false (by rw [HCC.out]; omega)
                have a3d : decide ((48 : Int) ≤ ((s[q]'a1).toNat : Int)) = true := decide_eq_true (by rw [HCC.out]; omega)
                go_quiet (fail)
                go_wp2
                go_ret
                exact ⟨(nn : Int), q, bad, rfl, HCq.out, grown_drew HGk.out _, hqp, hks, by omega, by omega, fun m z h0 h1 hd hz => by
                  obtain ⟨x1, x2, x3, x4⟩ := HNX.out m z h0 h1 hd hz
                  exact ⟨x1, rfl, x4⟩⟩
          · have a3i : ¬ (48 : Int) ≤ (c : Int) := by omega
            have HEX : Hid (k = 5 ∨ s.data.toList.length ≤ p + 1 + k ∨ ∃ h : p + 1 + k < s.data.toList.length, Lib.digitVal (s.data.toList[p + 1 + k]'h) = none) := Lib.hid (by
              obtain ⟨h1, h2⟩ := HQC.out
              have hqe := HQ.out
              subst hqe
              exact .inr (.inr ⟨h1, digit_no (by rw [h2, HCC.out]; omega)⟩))
            have HNX : Hid (∀ (m : Int) (z : List UInt8), 0 ≤ m → m < 10000 → s.data.toList.drop p = 32 :: (Lib.itoa m ++ z) → (∀ b0 r, z = b0 :: r → Lib.digitVal b0 = none) → (nn : Int) = m ∧ 1 ≤ k ∧ k ≤ 4 ∧ s.data.toList.drop q = z) := Lib.hid (fun m z h0 h1 hd hz => by
              have hqe := HQ.out
              have := num_exact hk (by omega) HD.out HEX.out h0 h1 hd hz
              rw [hqe] at this
              exact this)
            have HBAD : Hid (∀ d, CurAt ((wr.drewN d).setCell ⟨C, 2, none⟩ (.bool true)) C s (q : Int) true) := Lib.hid (fun d => CurAt.bad_ (show CurAt (wr.drewN d) C s (q : Int) bad from HCq.out) true)
            have HGB : Hid (∀ d, W.grownBy ((wr.drewN d).setCell ⟨C, 2, none⟩ (.bool true)) (some C)) := Lib.hid (fun d => grown_set14 (grown_drew HGk.out d) _ _)
            have hf2 : wr.frozen? ⟨C, 2, none⟩ = false := by simp [World.frozen?, show wr.heap[C]? = _ from HCq.out]
            have c2 : wr.cell? ⟨C, 2, none⟩ = some (.bool bad) := blkp HCq.out 2
            clear hnn
            by_cases b1 : (k : Int) < 1
            · go_wp2
              have a3d : decide ((48 : Int) ≤ (c : Int)) = false := decide_eq_false (by omega)
              go_quiet (fail)
              go_wp2
              go_ret
              exact ⟨(nn : Int), q, true, rfl, HBAD.out _, HGB.out _, hqp, hks, by omega, by omega, fun m z h0 h1 hd hz => by
                have := HNX.out m z h0 h1 hd hz
                omega⟩
            · have b2 : ¬ (4 : Int) < (k : Int) := by omega
              go_wp2
              have a3d : decide ((48 : Int) ≤ (c : Int)) = false := decide_eq_false (by omega)
              go_quiet (fail)
              go_wp2
              go_ret
              exact ⟨(nn : Int), q, bad, rfl, HCq.out, grown_drew HGk.out _, hqp, hks, by omega, by omega, fun m z h0 h1 hd hz => by
                obtain ⟨x1, x2, x3, x4⟩ := HNX.out m z h0 h1 hd hz
                exact ⟨x1, rfl, x4⟩⟩
        · have a2i : ¬ (k : Int) < 5 := by omega
          have HEX : Hid (k = 5 ∨ s.data.toList.length ≤ p + 1 + k ∨ ∃ h : p + 1 + k < s.data.toList.length, Lib.digitVal (s.data.toList[p + 1 + k]'h) = none) := Lib.hid (.inl (by omega))
          have HNX : Hid (∀ (m : Int) (z : List UInt8), 0 ≤ m → m < 10000 → s.data.toList.drop p = 32 :: (Lib.itoa m ++ z) → (∀ b0 r, z = b0 :: r → Lib.digitVal b0 = none) → (nn : Int) = m ∧ 1 ≤ k ∧ k ≤ 4 ∧ s.data.toList.drop q = z) := Lib.hid (fun m z h0 h1 hd hz => by
            have hqe := HQ.out
            have := num_exact hk (by omega) HD.out HEX.out h0 h1 hd hz
            rw [hqe] at this
            exact this)
          have HBAD : Hid (∀ d, CurAt ((wr.drewN d).setCell ⟨C, 2, none⟩ (.bool true)) C s (q : Int) true) := Lib.hid (fun d => CurAt.bad_ (show CurAt (wr.drewN d) C s (q : Int) bad from HCq.out) true)
          have HGB : Hid (∀ d, W.grownBy ((wr.drewN d).setCell ⟨C, 2, none⟩ (.bool true)) (some C)) := Lib.hid (fun d => grown_set14 (grown_drew HGk.out d) _ _)
          have hf2 : wr.frozen? ⟨C, 2, none⟩ = false := by simp [World.frozen?, show wr.heap[C]? = _ from HCq.out]
          have c2 : wr.cell? ⟨C, 2, none⟩ = some (.bool bad) := blkp HCq.out 2
          clear hnn
          have b1 : ¬ (k : Int) < 1 := by omega
          have b2 : (4 : Int) < (k : Int) := by omega
          go_wp2
          have a2d : decide ((k : Int) < 5) = false := decide_eq_false (by omega)
          go_quiet (fail)
          go_wp2
          go_ret
          exact ⟨(nn : Int), q, true, rfl, HBAD.out _, HGB.out _, hqp, hks, by omega, by omega, fun m z h0 h1 hd hz => by
            have := HNX.out m z h0 h1 hd hz
            omega⟩
      · have a1i : ¬ (q : Int) < (s.size : Int) := by omega
        have HEX : Hid (k = 5 ∨ s.data.toList.length ≤ p + 1 + k ∨ ∃ h : p + 1 + k < s.data.toList.length, Lib.digitVal (s.data.toList[p + 1 + k]'h) = none) := Lib.hid (.inr (.inl (by have := HQ.out; omega)))
        have HNX : Hid (∀ (m : Int) (z : List UInt8), 0 ≤ m → m < 10000 → s.data.toList.drop p = 32 :: (Lib.itoa m ++ z) → (∀ b0 r, z = b0 :: r → Lib.digitVal b0 = none) → (nn : Int) = m ∧ 1 ≤ k ∧ k ≤ 4 ∧ s.data.toList.drop q = z) := Lib.hid (fun m z h0 h1 hd hz => by
          have hqe := HQ.out
          have := num_exact hk (by omega) HD.out HEX.out h0 h1 hd hz
          rw [hqe] at this
          exact this)
        have HBAD : Hid (∀ d, CurAt ((wr.drewN d).setCell ⟨C, 2, none⟩ (.bool true)) C s (q : Int) true) := Lib.hid (fun d => CurAt.bad_ (show CurAt (wr.drewN d) C s (q : Int) bad from HCq.out) true)
        have HGB : Hid (∀ d, W.grownBy ((wr.drewN d).setCell ⟨C, 2, none⟩ (.bool true)) (some C)) := Lib.hid (fun d => grown_set14 (grown_drew HGk.out d) _ _)
        have hf2 : wr.frozen? ⟨C, 2, none⟩ = false := by simp [World.frozen?, show wr.heap[C]? = _ from HCq.out]
        have c2 : wr.cell? ⟨C, 2, none⟩ = some (.bool bad) := blkp HCq.out 2
        clear hnn
        by_cases b1 : (k : Int) < 1
        · go_wp2
          have a1i : ¬ (q : Int) < (s.size : Int) := by omega
          go_quiet (fail)
          go_wp2
          go_ret
          exact ⟨(nn : Int), q, true, rfl, HBAD.out _, HGB.out _, hqp, hks, by omega, by omega, fun m z h0 h1 hd hz => by
            have := HNX.out m z h0 h1 hd hz
            omega⟩
        · by_cases b2 : (4 : Int) < (k : Int)
          · go_wp2
            have a1i : ¬ (q : Int) < (s.size : Int) := by omega
            go_quiet (fail)
            go_wp2
            go_ret
            exact ⟨(nn : Int), q, true, rfl, HBAD.out _, HGB.out _, hqp, hks, by omega, by omega, fun m z h0 h1 hd hz => by
              have := HNX.out m z h0 h1 hd hz
              omega⟩
          · go_wp2
            have a1i : ¬ (q : Int) < (s.size : Int) := by omega
            go_quiet (fail)
            go_wp2
            go_ret
            exact ⟨(nn : Int), q, bad, rfl, HCq.out, grown_drew HGk.out _, hqp, hks, by omega, by omega, fun m z h0 h1 hd hz => by
              obtain ⟨x1, x2, x3, x4⟩ := HNX.out m z h0 h1 hd hz
              exact ⟨x1, rfl, x4⟩⟩
  · have HC1 := Lib.hid hc1
    have HG1 := Lib.hid hg1
    have hf2 : w1.frozen? ⟨C, 2, none⟩ = false := by simp [World.frozen?, show w1.heap[C]? = _ from hc1]
    have c2 : w1.cell? ⟨C, 2, none⟩ = some (.bool bad) := blkp hc1 2
    have HW := Lib.hid hw
    clear hw hc1 hg1
    go_wp2
    go_ret
    exact ⟨0, p, true, rfl, CurAt.bad_ HC1.out true, grown_set14 HG1.out _ _, by omega, hp, by omega, by omega, fun m z h0 h1 hd _ => by
      have := word_32 hd
      rw [HW.out] at this
      cases this⟩
end Pgm
end Go.Proofs.YtfnimmbmcjgdpaaDoor
