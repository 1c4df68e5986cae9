/- The order of texts, in numbers: no program. · The plain mathematics of BandsOnce: how many sequences take a text, and the order of their first bytes; no program. · The law BandsOnce, walked. -/
import Derived.Test.YtfopcgbfbedcjaaGp7
import Derived.Test.YtfopcgbfbedcjaaGp30
import Derived.Test.YtfopcgbfbedcjaaGp13
import Derived.WalkLawsBesides
namespace Go.Proofs.Ytfopcgbfbedcjaa
open Go.RowKit
set_option linter.unusedVariables false
namespace Utf
def lexI : List Int → List Int → Bool
  | _, [] => false
  | [], _ :: _ => true
  | a :: x, b :: y => decide (a < b) || (decide (a = b) && lexI x y)
theorem lexI_asymm : ∀ (x y : List Int), lexI x y = true → lexI y x = false
  | _, [], h => by simp [lexI] at h
  | [], _ :: _, _ => rfl
  | a :: x, b :: y, h => by
    have ih := lexI_asymm x y
    simp only [lexI, Bool.or_eq_true, Bool.and_eq_true, decide_eq_true_eq] at h
    simp only [lexI, Bool.or_eq_false_iff, Bool.and_eq_false_iff, decide_eq_false_iff_not]
    rcases h with h | ⟨rfl, h⟩
    · exact ⟨by omega, .inl (by omega)⟩
    · exact ⟨by omega, .inr (ih h)⟩
theorem lex_lt (a b : Int) (ha : width a ≠ 0) (hb : width b ≠ 0) (h : a < b) : lexI (encN a) (encN b) = true := by
  rcases width_cases a with p | p | p | p | p <;> rcases width_cases b with q | q | q | q | q <;>
    first
    | exact absurd p.1 ha
    | exact absurd q.1 hb
    | (exfalso; omega)
    | (simp [encN, p.1, q.1, lexI]; omega)
theorem take_ne (a b : Int) (ha : width a ≠ 0) (hb : width b ≠ 0) (h : a ≠ b) (n : Nat) (hn : n = (encN a).length ∨ n = (encN b).length) (h1 : n ≤ (encN a).length) (h2 : n ≤ (encN b).length) : (encN a).take n ≠ (encN b).take n := by
  intro e
  apply h
  rcases hn with hn | hn
  · have e1 : encN b = encN a ++ (encN b).drop n := by rw [hn, List.take_length] at e; rw [hn]; conv => lhs; rw [← List.take_append_drop (encN a).length (encN b)]; rw [← e]
    have d1 := dec_enc a ha ((encN b).drop n)
    have d2 := dec_enc b hb []
    rw [List.append_nil] at d2
    rw [← e1, d2] at d1
    exact (congrArg Prod.fst d1).symm
  · have e1 : encN a = encN b ++ (encN a).drop n := by rw [hn, List.take_length] at e; rw [hn]; conv => lhs; rw [← List.take_append_drop (encN b).length (encN a)]; rw [e]
    have d1 := dec_enc b hb ((encN a).drop n)
    have d2 := dec_enc a ha []
    rw [List.append_nil] at d2
    rw [← e1, d2] at d1
    exact congrArg Prod.fst d1
end Utf
theorem bytesLess_of : ∀ (x y : List Int), Utf.Bytes x → Utf.Bytes y → Op.bytesLess (x.map fun n => UInt8.ofNat n.toNat) (y.map fun n => UInt8.ofNat n.toNat) = Utf.lexI x y
  | _, [], _, _ => by simp [Op.bytesLess, Utf.lexI]
  | [], _ :: _, _, _ => rfl
  | a :: x, b :: y, hx, hy => by
    have ih := bytesLess_of x y (fun z hz => hx z (by simp [hz])) (fun z hz => hy z (by simp [hz]))
    have ha := hx a (by simp)
    have hb := hy b (by simp)
    simp only [List.map_cons, Op.bytesLess, Utf.lexI, ih]
    have e1 : (decide (UInt8.ofNat a.toNat < UInt8.ofNat b.toNat)) = decide (a < b) := by
      rw [decide_eq_decide, UInt8.lt_iff_toNat_lt, UInt8.toNat_ofNat', UInt8.toNat_ofNat']; omega
    have e2 : (UInt8.ofNat a.toNat == UInt8.ofNat b.toNat) = decide (a = b) := by
      rw [Bool.eq_iff_iff, beq_iff_eq, decide_eq_true_eq, ← UInt8.toNat_inj, UInt8.toNat_ofNat', UInt8.toNat_ofNat']; omega
    rw [e1, e2]
theorem toList_strOf (xs : List Int) : (strOfNums xs).toList = xs.map fun n => UInt8.ofNat n.toNat := by
  rw [ByteArray.toList_eq]; unfold strOfNums; simp
end Go.Proofs.Ytfopcgbfbedcjaa
namespace Go.Proofs.Ytfopcgbfbedcjaa
set_option linter.unusedVariables false
namespace Bd
open Go.Proofs.Ytfopcgbfbedcjaa.Rg
def cntI (I : List (Int × Int)) (s : ByteArray) (i : Nat) : Nat := ((I.take i).filter fun p => fitB (zp p) s).length
theorem cnt_succ {I : List (Int × Int)} {s : ByteArray} {i : Nat} {p : Int × Int} (hi : i < I.length) (hp : I[i]?.getD (0, 0) = p) (b : Bool) (hb : fitB (zp p) s = b) : cntI I s (i + 1) = cntI I s i + (if b = true then 1 else 0) := by
  unfold cntI
  rw [List.getElem?_eq_getElem hi] at hp
  rw [List.take_succ_eq_append_getElem hi, List.filter_append, List.length_append]
  congr 1
  rw [show I[i] = p from hp, List.filter_cons, hb]
  cases b <;> rfl
theorem cnt_le {I : List (Int × Int)} {lo : Int} (s : ByteArray) (h : AscI lo I) (i : Nat) : cntI I s i ≤ 1 := by
  have h1 := once_asc I lo s h
  have h2 := ((List.take_sublist i I).filter fun p => fitB (zp p) s).length_le
  unfold cntI
  omega
/-- One interval's sequence: what the law asks of it. -/
structure OneI (q : List R) (a : Int) (m : Nat) : Prop where
  len : q.length = m
  enc : (Utf.encN a).length = m
  width : Utf.width a = m
  pos : 0 < m
  small : m ≤ 4
  ok : ∀ k, k < m → 0 ≤ (q[k]?.getD (0, 0)).1 ∧ (q[k]?.getD (0, 0)).1 ≤ (q[k]?.getD (0, 0)).2 ∧ (q[k]?.getD (0, 0)).2 ≤ 255 ∧ (Utf.encN a)[k]?.getD 0 = (q[k]?.getD (0, 0)).1
theorem oneI {I : List (Int × Int)} {lo : Int} (h : AscI lo I) {i : Nat} (hi : i < I.length) {p : Int × Int} (hp : I[i]?.getD (0, 0) = p) : ∃ m, OneI (zp p) p.1 m := by
  rw [List.getElem?_eq_getElem hi] at hp
  have hm : p ∈ I := by rw [← hp]; exact List.getElem_mem _
  obtain ⟨_, ⟨w, hc⟩, hn⟩ := ascI_mem I lo h p hm
  have hz := zipE_ok hc hn
  have hb := hc.bd
  refine ⟨w, hz.2.2.1, ?_, hz.2.2.2.1, by omega, by omega, fun k hk => ?_⟩
  · have := Utf.encN_length p.1
    have := hz.2.2.2.1
    omega
  · have hkl : k < (zp p).length := by unfold zp; rw [hz.2.2.1]; exact hk
    rw [List.getElem?_eq_getElem hkl]
    have h1 := hz.1 _ (List.getElem_mem hkl)
    have h2 := hz.2.1
    refine ⟨h1.2.1, h1.1, h1.2.2.2, ?_⟩
    rw [← h2, List.getElem?_map]
    unfold zp at hkl ⊢
    rw [List.getElem?_eq_getElem hkl]
    rfl
theorem asc_next : ∀ (I : List (Int × Int)) (lo : Int) (j : Nat), AscI lo I → j + 1 < I.length → (I[j]?.getD (0, 0)).1 < (I[j + 1]?.getD (0, 0)).1
  | [], _, _, _, h => absurd h (by simp)
  | [p], _, j, _, h => absurd h (by simp)
  | p :: q :: I, lo, 0, ⟨h1, ⟨w, h2⟩, h3, h4⟩, _ => by
    have := h2.le
    have := h4.1
    simp
    omega
  | p :: q :: I, lo, j + 1, ⟨h1, h2, h3, h4⟩, h => by
    have := asc_next (q :: I) _ j h4 (by simpa using h)
    simpa using this
/-- The first bytes of the interval ahead. -/
def LastIs (I : List (Int × Int)) (i : Nat) (ls : ByteArray) : Prop := (i = 0 ∧ ls = ⟨#[]⟩) ∨ ∃ j, i = j + 1 ∧ ls = strOfNums (Utf.encN (I[j]?.getD (0, 0)).1)
theorem last_cmp {I : List (Int × Int)} {lo : Int} (h : AscI lo I) {i : Nat} (hi : i < I.length) {p : Int × Int} (hp : I[i]?.getD (0, 0) = p) {ls : ByteArray} (hl : LastIs I i ls) :
    ls = ⟨#[]⟩ ∨ (0 < ls.size ∧ Op.bytesLess (strOfNums (Utf.encN p.1)).toList ls.toList = false ∧ ((strOfNums (Utf.encN p.1)).toList == ls.toList) = false) := by
  rcases hl with ⟨_, h1⟩ | ⟨j, rfl, rfl⟩
  · exact .inl h1
  · right
    obtain ⟨m0, o0⟩ := oneI h (i := j) (by omega) rfl
    obtain ⟨m1, o1⟩ := oneI h hi hp
    have hlt := asc_next I lo j h hi
    rw [hp] at hlt
    have w0 : Utf.width (I[j]?.getD (0, 0)).1 ≠ 0 := by rw [o0.width]; have := o0.pos; omega
    have w1 : Utf.width p.1 ≠ 0 := by rw [o1.width]; have := o1.pos; omega
    have hlex := Utf.lex_lt _ _ w0 w1 hlt
    refine ⟨by rw [size_strOf, o0.enc]; exact o0.pos, ?_, ?_⟩
    · rw [toList_strOf, toList_strOf, bytesLess_of _ _ (Utf.encN_bytes _) (Utf.encN_bytes _)]
      exact Utf.lexI_asymm _ _ hlex
    · rw [beq_eq_false_iff_ne]
      intro e
      have e2 : strOfNums (Utf.encN p.1) = strOfNums (Utf.encN (I[j]?.getD (0, 0)).1) := by
        apply ByteArray.ext; apply Array.toList_inj.1
        rw [← ByteArray.toList_eq, ← ByteArray.toList_eq]; exact e
      have e3 := congrArg Utf.nums e2
      rw [nums_strOf _ (Utf.encN_bytes _), nums_strOf _ (Utf.encN_bytes _)] at e3
      have := enc_inj w1 w0 e3
      omega
end Bd
end Go.Proofs.Ytfopcgbfbedcjaa
namespace Go.Proofs.Ytfopcgbfbedcjaa
open Go.RowKit
set_option linter.unusedVariables false
theorem qrow_one (W : World) (u : Value) (q : List (Int × Int)) (h : RRow W u q) : QRow (W.alloc (.cells #[u] 22)) (.slice (some ⟨W.heap.size, 0, none⟩) 1 1) [q] :=
  ⟨_, 1, rfl, by simp, fun j hj => by
    obtain rfl : j = 0 := by simpa using hj
    exact ⟨W.heap.size, 0, u, rfl, by simp, by simp, h.below (Nat.le_refl _) ((Below.refl W.heap.size W).alloc (Nat.le_refl _) _)⟩⟩
theorem longN_one (q : List (Int × Int)) (s : ByteArray) (b : Bool) (h : Bd.fitB q s = b) : Bd.longN [q] s = if b = true then (q.length : Int) else 0 := by
  unfold Bd.longN Bd.longN
  rw [h]
theorem low_step (lw : ByteArray) (xs : List Int) (k : Nat) (x : Int) (hk : k < xs.length) (hx : xs[k]?.getD 0 = x) (hb : 0 ≤ x ∧ x < 256) (hl : Utf.nums lw = xs.take k) : Utf.nums (lw ++ strOfNums [x]) = xs.take (k + 1) := by
  rw [nums_append, hl, nums_strOf _ (by intro z hz; rw [List.mem_singleton.1 hz]; exact hb), List.take_succ_eq_append_getElem hk]
  rw [List.getElem?_eq_getElem hk] at hx
  rw [← hx]; rfl
set_option maxRecDepth 100000 in
set_option maxHeartbeats 8000000 in
theorem walkBandsOnce (W : World) (v : Value) (l : List (Int × Int)) (s : ByteArray) (hr : RRow W v l) (hs : s.size ≤ 140737488351232) :
    Calls Try.prog 6 #[v, .string s] W fun e w' => e = .returned (.bool true) ∧ Below W.heap.size W w' := by
  have HR := Lib.hid hr
  obtain ⟨a, cap, rfl, hl, _⟩ := hr
  obtain ⟨n0, hn⟩ : ∃ n0, l.length = n0 := ⟨_, rfl⟩
  rw [hn] at HR hl ⊢
  clear hn
  go_enter Try.func6, Try.ntmps6
  go_wp2_with fail
  refine (works5_any _).mono ?_
  rintro e w1 ⟨rfl, hb⟩
  have D1 := Lib.hid hb
  clear hb
  by_cases h20 : 20 < n0
  · go_wp2
    go_ret
    exact ⟨rfl, D1.out⟩
  have hne : ¬ (20 : Int) < (n0 : Int) := by omega
  go_wp2_with fail
  refine (of_any _ _ l (HR.out.below (Nat.le_refl _) D1.out)).mono ?_
  rintro e w2 ⟨C, hC, v2, us2, rfl, hq, hb⟩
  obtain ⟨I, hI⟩ := Bd.setI hC
  have HQ := hq.row2 (Bd.ofL_ok hC.norm)
  have HI := Lib.hid hI
  have D2 := Lib.hid (D1.out.trans (hb.mono D1.out.size))
  obtain ⟨L, hL⟩ : ∃ L, Bd.ofL C = L := ⟨_, rfl⟩
  rw [hL] at HQ HI
  obtain ⟨b2, c2, rfl, hln, hcc⟩ := HQ
  have HCC := Lib.hid hcc
  have hil : I.length = L.length := by rw [HI.out.eq, List.length_map]
  have HLI : Hid (∀ i, i < L.length → L[i]?.getD [] = Bd.zp (I[i]?.getD (0, 0))) := Lib.hid (fun i hi => by
    rw [HI.out.eq, List.getElem?_map, List.getElem?_eq_getElem (by omega)]; rfl)
  obtain ⟨n, hn⟩ : ∃ n, L.length = n := ⟨_, rfl⟩
  rw [hn] at hln HCC HLI hil ⊢
  have HIL := Lib.hid hil
  clear hq hb hC hI hL hcc hil hn
  go_wp2
  go_loopw [6, 7, 24] (fun N LS K wr => ∃ (i c : Nat) (ls : ByteArray), i ≤ n ∧ K = .int .i64 i ∧ N = .int .i64 c ∧ LS = .string ls ∧ Hid (c = Bd.cntI I s i) ∧ Hid (Bd.LastIs I i ls) ∧ Hid (Below w2.heap.size w2 wr)) (fun _ _ K _ => n - (intOf K).toNat)
  case atStart => exact ⟨0, 0, ⟨#[]⟩, Nat.zero_le _, rfl, rfl, rfl, Lib.hid (by simp [Bd.cntI]), Lib.hid (.inl ⟨rfl, rfl⟩), Lib.hid (Below.refl _ _)⟩
  case round =>
    obtain ⟨i, c, ls, hi, rfl, rfl, rfl, HC, HLS, HB⟩ := hrel
    obtain ⟨wo, rfl⟩ : ∃ wo : World, wo = wr := ⟨_, rfl⟩
    have hsz := HB.out.size
    by_cases hlt : i < n
    · obtain ⟨g, off, u, rfl, hg, hc1, hu⟩ := HCC.out i hlt
      obtain ⟨p, hp⟩ : ∃ p, I[i]?.getD (0, 0) = p := ⟨_, rfl⟩
      have hiI : i < I.length := by rw [HIL.out]; exact hlt
      obtain ⟨m, hone⟩ := Bd.oneI HI.out.asc hiI hp
      have hcmp := Bd.last_cmp HI.out.asc hiI hp HLS.out
      obtain ⟨F, hF⟩ : ∃ F, Bd.fitB (Bd.zp p) s = F := ⟨_, rfl⟩
      have hcs := Bd.cnt_succ hiI hp F hF
      have hlst : Bd.LastIs I (i + 1) (strOfNums (Utf.encN p.1)) := .inr ⟨i, rfl, by rw [hp]⟩
      have hlq := longN_one (Bd.zp p) s F hF
      rw [HLI.out i hlt, hp] at hu
      rw [← HB.out.cell (p := ⟨g, off + i, none⟩) hg] at hc1
      have hub := hu.below (Nat.le_refl _) HB.out
      obtain ⟨q, hqq⟩ : ∃ q, Bd.zp p = q := ⟨_, rfl⟩
      obtain ⟨x, hx⟩ : ∃ x, p.1 = x := ⟨_, rfl⟩
      rw [hqq] at hone hub hlq
      rw [hx] at hone hcmp hlst
      have HONE := Lib.hid hone
      have HLST := Lib.hid hlst
      have HCMP := Lib.hid hcmp
      have HCS := Lib.hid hcs
      rw [hone.len] at hlq
      have hm0 := hone.pos
      have hm4 := hone.small
      have HUB := Lib.hid hub
      obtain ⟨ua, uc, rfl, hul, _, hucell⟩ := hub
      have HUC := Lib.hid hucell
      rw [hone.len] at HUB HUC hul hc1
      have k0 : (0 : Int) ≤ (i : Int) := by omega
      have k1 : (i : Int) < (n : Int) := by omega
      have hcle := Bd.cnt_le s HI.out.asc i
      rw [← HC.out] at hcle
      have HQ1 := Lib.hid (qrow_one wo _ q HUB.out)
      have HLQ := Lib.hid hlq
      have HCV := Lib.hid (fun x T w1 => convRow [x] 1 #[.int .u8 x] T rfl (by intro i hi; rcases (by omega : i = 0) with rfl <;> rfl) w1)
      clear hu hucell hone hcs hlst hlq hcmp hF hqq hx hp hiI
      have hmp : (0 : Int) < (m : Int) := by omega
      cases F with
      | true =>
        have hL2 : Bd.longN [q] s = (m : Int) := by have := HLQ.out; simpa using this
        have HL2 := Lib.hid hL2
        have HCS2 : Hid (Bd.cntI I s (i + 1) = c + 1) := Lib.hid (by have := HCS.out; rw [← HC.out] at this; simpa using this)
        clear hL2 HLQ HCS
        go_wp2_with fail
        refine (long_any _ _ [q] s (by omega) HQ1.out).mono ?_
        rintro e w4 ⟨rfl, hb4⟩
        rw [HL2.out]
        have HB4 := Lib.hid (((Below.refl wo.heap.size wo).alloc (Nat.le_refl _) _).trans (hb4.mono (by simp)))
        clear hb4
        go_wp2
        go_loopw [10, 37] (fun LW K wr => ∃ (k : Nat) (lw : ByteArray), k ≤ m ∧ K = .int .i64 k ∧ LW = .string lw ∧ lw.size = k ∧ Hid (Utf.nums lw = (Utf.encN x).take k) ∧ Hid (Below wo.heap.size wo wr)) (fun _ K _ => m - (intOf K).toNat)
        case atStart => exact ⟨0, ⟨#[]⟩, Nat.zero_le _, rfl, rfl, rfl, Lib.hid (by rw [List.take_zero]; rfl), HB4⟩
        case round =>
          obtain ⟨k, lw, hk, rfl, rfl, hls, HNL, HBK⟩ := hrel
          have hsk := HBK.out.size
          by_cases hkm : k < m
          · obtain ⟨b, o2, rfl, hbw, hx1, hx2⟩ := HUC.out k hkm
            rw [← HBK.out.cell (p := ⟨b, o2 + k * 2, none⟩) hbw] at hx1
            rw [← HBK.out.cell (p := ⟨b, o2 + k * 2 + 1, none⟩) hbw] at hx2
            have hok := HONE.out.ok k hkm
            obtain ⟨pp, hpp⟩ : ∃ pp, q[k]?.getD (0, 0) = pp := ⟨_, rfl⟩
            rw [hpp] at hx1 hx2 hok
            obtain ⟨p1, p2⟩ := pp
            dsimp only at hx1 hx2 hok
            have HST := Lib.hid (low_step lw (Utf.encN x) k p1 (by rw [HONE.out.enc]; exact hkm) hok.2.2.2 (by omega) HNL.out)
            have hs1 : (strOfNums [p1]).size = 1 := by rw [size_strOf]; rfl
            have HSZ : Hid ((lw ++ strOfNums [p1]).size = k + 1) := Lib.hid (by rw [ByteArray.size_append, hs1, hls])
            have g1 : decide (p2 < p1) = false := decide_eq_false (by omega)
            have g2 : decide (p1 < 0) = false := decide_eq_false (by omega)
            have g3 : decide (255 < p2) = false := decide_eq_false (by omega)
            have hwr : IntKind.u8.wrap p1 = p1 := by rw [IntKind.wrap_u8]; omega
            have hcv := HCV.out p1 5 (wr.alloc (.cells #[.int .i64 p1, .int .i64 p2] 44))
            rw [World.size_alloc] at hcv
            have q0 : (0 : Int) ≤ (k : Int) := by omega
            have q1 : (k : Int) < (m : Int) := by omega
            have HBL := Lib.hid ((HBK.out.alloc hsk (.cells #[.int .i64 p1, .int .i64 p2] 44)).alloc (by simp; omega) (.cells #[.int .u8 p1] 5))
            clear hpp hok
            go_wp2
            go_roundw
            case rel => exact ⟨k + 1, _, by omega, by go_num, rfl, HSZ.out, HST, HBL⟩
            case measure => simp [intOf]; omega
          · obtain rfl : k = m := by omega
            have hnl := HNL.out
            rw [List.take_of_length_le (by rw [HONE.out.enc]; exact Nat.le_refl _)] at hnl
            have hlw : lw = strOfNums (Utf.encN x) := nums_inj (by rw [hnl, nums_strOf _ (Utf.encN_bytes _)])
            have hdec : Utf.dec (Utf.nums lw) = (x, (k : Int)) := by
              have := Utf.dec_enc x (by rw [HONE.out.width]; omega) []
              rw [List.append_nil, HONE.out.width] at this
              rw [hnl, this]
            have hx0 : 0 ≤ x := (Bd.width_pos (by rw [HONE.out.width]; omega)).1
            have hxd : decide (x < 0) = false := decide_eq_false (by omega)
            have HD := Lib.hid hdec
            have HLW := Lib.hid hlw
            have kk : ¬ (k : Int) < (k : Int) := by omega
            clear hnl hdec hlw
            go_wp2_with fail
            refine (decode_any lw (by unfold maxLen; omega) _).mono ?_
            rintro e w5 ⟨rfl, d5, rfl⟩
            rw [HD.out]
            have HB5 := Lib.hid (below_drewN (HB.out.trans (HBK.out.mono hsz)) d5)
            rcases HCMP.out with rfl | ⟨hl0, hc1, hc2⟩
            · go_wp2
              go_roundw
              case rel => exact ⟨i + 1, c + 1, lw, by omega, by go_num, by go_num, rfl, Lib.hid HCS2.out.symm, by rw [HLW.out]; exact HLST, HB5⟩
              case measure => simp [intOf]; omega
            · rw [← HLW.out] at hc1 hc2
              have hl1 := toList_ne hl0
              have hl2 := hl1.1
              have hl3 := hl1.2
              clear hl1
              go_wp2
              go_roundw
              case rel => exact ⟨i + 1, c + 1, lw, by omega, by go_num, by go_num, rfl, Lib.hid HCS2.out.symm, by rw [HLW.out]; exact HLST, HB5⟩
              case measure => simp [intOf]; omega
      | false =>
        have hL2 : Bd.longN [q] s = (0 : Int) := by have := HLQ.out; simpa using this
        have HL2 := Lib.hid hL2
        have HCS2 : Hid (Bd.cntI I s (i + 1) = c + 0) := Lib.hid (by have := HCS.out; rw [← HC.out] at this; simpa using this)
        clear hL2 HLQ HCS
        go_wp2_with fail
        refine (long_any _ _ [q] s (by omega) HQ1.out).mono ?_
        rintro e w4 ⟨rfl, hb4⟩
        rw [HL2.out]
        have HB4 := Lib.hid (((Below.refl wo.heap.size wo).alloc (Nat.le_refl _) _).trans (hb4.mono (by simp)))
        clear hb4
        go_wp2
        go_loopw [10, 37] (fun LW K wr => ∃ (k : Nat) (lw : ByteArray), k ≤ m ∧ K = .int .i64 k ∧ LW = .string lw ∧ lw.size = k ∧ Hid (Utf.nums lw = (Utf.encN x).take k) ∧ Hid (Below wo.heap.size wo wr)) (fun _ K _ => m - (intOf K).toNat)
        case atStart => exact ⟨0, ⟨#[]⟩, Nat.zero_le _, rfl, rfl, rfl, Lib.hid (by rw [List.take_zero]; rfl), HB4⟩
        case round =>
          obtain ⟨k, lw, hk, rfl, rfl, hls, HNL, HBK⟩ := hrel
          have hsk := HBK.out.size
          by_cases hkm : k < m
          · obtain ⟨b, o2, rfl, hbw, hx1, hx2⟩ := HUC.out k hkm
            rw [← HBK.out.cell (p := ⟨b, o2 + k * 2, none⟩) hbw] at hx1
            rw [← HBK.out.cell (p := ⟨b, o2 + k * 2 + 1, none⟩) hbw] at hx2
            have hok := HONE.out.ok k hkm
            obtain ⟨pp, hpp⟩ : ∃ pp, q[k]?.getD (0, 0) = pp := ⟨_, rfl⟩
            rw [hpp] at hx1 hx2 hok
            obtain ⟨p1, p2⟩ := pp
            dsimp only at hx1 hx2 hok
            have HST := Lib.hid (low_step lw (Utf.encN x) k p1 (by rw [HONE.out.enc]; exact hkm) hok.2.2.2 (by omega) HNL.out)
            have hs1 : (strOfNums [p1]).size = 1 := by rw [size_strOf]; rfl
            have HSZ : Hid ((lw ++ strOfNums [p1]).size = k + 1) := Lib.hid (by rw [ByteArray.size_append, hs1, hls])
            have g1 : decide (p2 < p1) = false := decide_eq_false (by omega)
            have g2 : decide (p1 < 0) = false := decide_eq_false (by omega)
            have g3 : decide (255 < p2) = false := decide_eq_false (by omega)
            have hwr : IntKind.u8.wrap p1 = p1 := by rw [IntKind.wrap_u8]; omega
            have hcv := HCV.out p1 5 (wr.alloc (.cells #[.int .i64 p1, .int .i64 p2] 44))
            rw [World.size_alloc] at hcv
            have q0 : (0 : Int) ≤ (k : Int) := by omega
            have q1 : (k : Int) < (m : Int) := by omega
            have HBL := Lib.hid ((HBK.out.alloc hsk (.cells #[.int .i64 p1, .int .i64 p2] 44)).alloc (by simp; omega) (.cells #[.int .u8 p1] 5))
            clear hpp hok
            go_wp2
            go_roundw
            case rel => exact ⟨k + 1, _, by omega, by go_num, rfl, HSZ.out, HST, HBL⟩
            case measure => simp [intOf]; omega
          · obtain rfl : k = m := by omega
            have hnl := HNL.out
            rw [List.take_of_length_le (by rw [HONE.out.enc]; exact Nat.le_refl _)] at hnl
            have hlw : lw = strOfNums (Utf.encN x) := nums_inj (by rw [hnl, nums_strOf _ (Utf.encN_bytes _)])
            have hdec : Utf.dec (Utf.nums lw) = (x, (k : Int)) := by
              have := Utf.dec_enc x (by rw [HONE.out.width]; omega) []
              rw [List.append_nil, HONE.out.width] at this
              rw [hnl, this]
            have hx0 : 0 ≤ x := (Bd.width_pos (by rw [HONE.out.width]; omega)).1
            have hxd : decide (x < 0) = false := decide_eq_false (by omega)
            have HD := Lib.hid hdec
            have HLW := Lib.hid hlw
            have kk : ¬ (k : Int) < (k : Int) := by omega
            clear hnl hdec hlw
            go_wp2_with fail
            refine (decode_any lw (by unfold maxLen; omega) _).mono ?_
            rintro e w5 ⟨rfl, d5, rfl⟩
            rw [HD.out]
            have HB5 := Lib.hid (below_drewN (HB.out.trans (HBK.out.mono hsz)) d5)
            rcases HCMP.out with rfl | ⟨hl0, hc1, hc2⟩
            · go_wp2
              go_roundw
              case rel => exact ⟨i + 1, c + 0, lw, by omega, by go_num, by go_num, rfl, Lib.hid HCS2.out.symm, by rw [HLW.out]; exact HLST, HB5⟩
              case measure => simp [intOf]; omega
            · rw [← HLW.out] at hc1 hc2
              have hl1 := toList_ne hl0
              have hl2 := hl1.1
              have hl3 := hl1.2
              clear hl1
              go_wp2
              go_roundw
              case rel => exact ⟨i + 1, c + 0, lw, by omega, by go_num, by go_num, rfl, Lib.hid HCS2.out.symm, by rw [HLW.out]; exact HLST, HB5⟩
              case measure => simp [intOf]; omega
    · obtain rfl : i = n := by omega
      have hcle := Bd.cnt_le s HI.out.asc i
      rw [← HC.out] at hcle
      have hcd : decide ((c : Int) ≤ 1) = true := decide_eq_true (by omega)
      go_wp2
      go_ret
      exact ⟨rfl, D2.out.trans (HB.out.mono D2.out.size)⟩
end Go.Proofs.Ytfopcgbfbedcjaa
