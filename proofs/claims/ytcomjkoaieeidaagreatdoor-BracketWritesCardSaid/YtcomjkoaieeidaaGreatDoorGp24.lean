/- The landed bracket: colon. · The landed bracket: span. · The landed bracket: item. -/
import Derived.Test.YtcomjkoaieeidaaGreatDoorGp23
import Derived.Test.YtcomjkoaieeidaaGreatDoorGp17
namespace Go.Proofs.YtcomjkoaieeidaaGreatDoor
open Go.RowKit
set_option linter.unusedVariables false
/-- The union so far. -/
def St (n0 B : Nat) (L : List (Int × Int)) (W : World) : Prop := ∃ v, Boxed W B 26 v ∧ RgOwn W n0 v L
theorem St.below {n0 B : Nat} {L : List (Int × Int)} {W W' : World} (h : St n0 B L W) (hb : Below W.heap.size W W') : St n0 B L W' := by
  obtain ⟨v, h1, h2⟩ := h
  exact ⟨v, (hb.block B h1.lt).trans h1, h2.below hb⟩
abbrev addV (B : Nat) : Value := .func (.func 34) #[] #[.pointer (some ⟨B, 0, none⟩)]
/-- What the parts that read an item hand back. -/
def ItPost (n0 B : Nat) (L : List (Int × Int)) (W : World) (X : Br.Res Br.It) (e : Ending) (w' : World) : Prop :=
  Below n0 W w' ∧ ((∃ o c, X = .bad o c ∧ e = .returned (.tuple #[.int .i64 o, .int .i64 c])) ∨ (∃ x nx l, X = .ok x nx ∧ e = .returned (.tuple #[.int .i64 (nx : Nat), .int .i64 0]) ∧ Br.ItIs x l ∧ St n0 B (L ++ l) w'))
theorem add_st (W : World) (n0 B : Nat) (L l : List (Int × Int)) (vl : Value) (hb0 : n0 ≤ W.heap.size) (hB : n0 ≤ B) (hst : St n0 B L W) (hl : RRow W vl l) (hlen : L.length + l.length ≤ 1000000000) :
    Calls Tryz.prog 34 #[vl, .pointer (some ⟨B, 0, none⟩)] W fun e w' => e = .returned (.tuple #[]) ∧ St n0 B (L ++ l) w' ∧ Below n0 W w' := by
  obtain ⟨v, h1, h2⟩ := hst
  refine (addC_any W n0 B v vl L l hb0 hB h1 h2 hl hlen).mono ?_
  rintro e w' ⟨he, v', h3, h4, h5⟩
  exact ⟨he, ⟨v', h3, h4⟩, h5⟩
set_option maxRecDepth 100000 in
set_option maxHeartbeats 4000000 in
theorem bColon_any (W : World) (s : ByteArray) (hs : s.size ≤ 100000) (a n0 B : Nat) (L : List (Int × Int)) (ha : a + 2 ≤ s.size) (hE : Ev W) (hb0 : n0 ≤ W.heap.size) (hB : n0 ≤ B) (hst : St n0 B L W) (hlen : L.length ≤ 500000000) :
    Calls Tryz.prog 61 #[.string s, .int .i64 (a : Int), addV B] W (ItPost n0 B L W (Br.colonX s a)) := by
  obtain ⟨X, hX⟩ : ∃ X, Br.colonX s a = X := ⟨_, rfl⟩
  rw [hX]
  obtain ⟨q, hq⟩ : ∃ q, a + 2 = q := ⟨_, rfl⟩
  have hw1 : IntKind.i64.wrap ((a : Int) + 2) = (q : Int) := by rw [IntKind.wrap_i64]; omega
  have hqi : (q : Int) ≤ (s.size : Int) := by omega
  have hsz : (s.extract q s.size).size = s.size - q := by rw [ByteArray.size_extract]; omega
  have hcut := cut_2 W (s.extract q s.size) (by omega) 58 93 hE
  unfold CutPost at hcut
  rw [show (((58 : UInt8).toNat : Nat) : Int) = 58 from rfl, show (((93 : UInt8).toNat : Nat) : Int) = 93 from rfl, tail_drop, hsz] at hcut
  have hk := Br.upTo2_le 58 93 ((Utf.nums s).drop q)
  rw [List.length_drop, Utf.nums_length] at hk
  have hx : X = (if Br.upTo2 58 93 ((Utf.nums s).drop q) = s.size - q then .bad a 82 else match Cl.lookC Cl.colonT (s.extract q (q + Br.upTo2 58 93 ((Utf.nums s).drop q))).data.toList with | none => .bad a 70 | some x => .ok (.cls x) (a + 4 + Br.upTo2 58 93 ((Utf.nums s).drop q))) := by
    rw [← hX, ← hq]
    unfold Br.colonX
    dsimp only
    rw [List.length_drop, Utf.nums_length]
    rfl
  obtain ⟨K, hK⟩ : ∃ K, Br.upTo2 58 93 ((Utf.nums s).drop q) = K := ⟨_, rfl⟩
  rw [hK] at hcut hk hx
  have HE := Lib.hid hE
  have HST := Lib.hid hst
  have HQ := Lib.hid hq
  clear hX hK hE hst hq
  by_cases c1 : K = s.size - q
  · have HR : Hid (X = .bad a 82) := Lib.hid (by rw [hx, if_pos c1])
    rw [decide_eq_false (by simpa using c1)] at hcut
    have HC := Lib.hid hcut
    clear hcut hx c1 hk hsz
    go_enter Tryz.func61, Tryz.ntmps61
    go_wp2_with fail
    refine HC.out.mono ?_
    rintro e w' ⟨b, rfl, dd, rfl⟩
    go_wp2
    go_ret2
    exact ⟨(below_drawn dd).mono hb0, .inl ⟨_, _, HR.out, rfl⟩⟩
  · rw [if_neg c1] at hx
    rw [decide_eq_true (by simpa using c1), Br.ext_tail] at hcut
    obtain ⟨nm, hnm⟩ : ∃ nm, s.extract q (q + K) = nm := ⟨_, rfl⟩
    rw [hnm] at hcut hx
    have hnz : nm.size = K := by rw [← hnm, ByteArray.size_extract]; omega
    have HC := Lib.hid hcut
    have HX := Lib.hid hx
    have HNZ := Lib.hid hnz
    obtain ⟨e1, he1⟩ : ∃ e1, q + K = e1 := ⟨_, rfl⟩
    obtain ⟨nx, hnx⟩ : ∃ nx, a + 4 + K = nx := ⟨_, rfl⟩
    rw [hnx] at HX
    have hw2 : IntKind.i64.wrap ((q : Int) + (nm.size : Int)) = (e1 : Int) := by rw [IntKind.wrap_i64, hnz]; omega
    have hw3 : IntKind.i64.wrap ((e1 : Int) + 2) = (nx : Int) := by rw [IntKind.wrap_i64]; have := HQ.out; omega
    clear hcut hx hnm hnz hk hsz c1 he1 hnx
    go_enter Tryz.func61, Tryz.ntmps61
    go_wp2_with fail
    refine HC.out.mono ?_
    rintro e w' ⟨b, rfl, dd, rfl⟩
    go_wp2_with fail
    refine (cColon_any _ nm (HE.out.drewN dd).spaces).mono ?_
    rintro e w2 ⟨v, out, c2, rfl, hc2, ho, hb⟩
    have HB : Hid (Below W.heap.size W w2) := Lib.hid ((below_drawn (W := W) dd).trans hb)
    have HO : Hid (RgOwn w2 W.heap.size v out) := Lib.hid ho
    cases hl : Cl.lookC Cl.colonT nm.data.toList with
    | none =>
      rw [hl] at hc2
      obtain ⟨rfl, rfl⟩ := hc2
      have HR : Hid (X = .bad a 70) := Lib.hid (by rw [HX.out, hl])
      clear ho hb hl
      go_wp2
      go_ret2
      exact ⟨HB.out.mono hb0, .inl ⟨_, _, HR.out, rfl⟩⟩
    | some x =>
      rw [hl] at hc2
      have hr := class_row hc2 HO.out
      have hn := hc2.2.1
      have hnl := Rg.norm_len out 0 hn (by omega)
      have HR : Hid (X = .ok (.cls x) nx) := Lib.hid (by rw [HX.out, hl])
      have HI : Hid (Br.ItIs (.cls x) out) := Lib.hid (Br.setIs_of hc2)
      obtain rfl : c2 = 0 := hc2.1
      have HA := Lib.hid (add_st w2 n0 B L out v (Nat.le_trans hb0 HB.out.size) hB (HST.out.below HB.out) hr (by omega))
      clear ho hb hl hc2 hr hn hnl
      go_wp2_with fail
      refine HA.out.mono ?_
      rintro e w3 ⟨rfl, hs3, hb3⟩
      have H3 := Lib.hid (And.intro hs3 ((HB.out.mono hb0).trans hb3))
      clear hs3 hb3
      go_wp2
      go_ret2
      exact ⟨H3.out.2, .inr ⟨_, _, _, HR.out, rfl, HI.out, H3.out.1⟩⟩
end Go.Proofs.YtcomjkoaieeidaaGreatDoor
namespace Go.Proofs.YtcomjkoaieeidaaGreatDoor
open Go.RowKit
set_option linter.unusedVariables false
theorem two_runes {lo hi : Int} (h1 : 0 ≤ lo) (h2 : lo ≤ 1114111) (h3 : 0 ≤ hi) (h4 : hi ≤ 1114111) : (-9223372036854775808 ≤ lo ∧ lo ≤ 9223372036854775807) ∧ (-9223372036854775808 ≤ hi ∧ hi ≤ 9223372036854775807) := by omega
set_option maxRecDepth 100000 in
set_option maxHeartbeats 8000000 in
theorem bSpan_any (W : World) (s : ByteArray) (hs : s.size ≤ 100000) (a n0 B : Nat) (L : List (Int × Int)) (ha : a ≤ s.size) (hE : Ev W) (hb0 : n0 ≤ W.heap.size) (hB : n0 ≤ B) (hst : St n0 B L W) (hlen : L.length ≤ 500000000) :
    Calls Tryz.prog 63 #[.string s, .int .i64 (a : Int), addV B] W (ItPost n0 B L W (Br.span s a)) := by
  obtain ⟨X, hX⟩ : ∃ X, Br.span s a = X := ⟨_, rfl⟩
  rw [hX]
  unfold Br.span at hX
  dsimp only at hX
  have hai : (a : Int) ≤ (s.size : Int) := by omega
  have hbn := Utf.bytes_drop (Utf.nums_bytes s)
  have HC1 := Lib.hid (bChar_any W (s.extract a s.size) (by rw [ByteArray.size_extract]; omega))
  rw [tail_drop] at HC1
  have o1 := Br.one_cases ((Utf.nums s).drop a) (hbn a)
  rw [List.length_drop, Utf.nums_length] at o1
  obtain ⟨⟨lo, n, c⟩, hp⟩ : ∃ p, Br.one ((Utf.nums s).drop a) = p := ⟨_, rfl⟩
  rw [hp] at HC1 hX o1
  dsimp only at HC1 hX o1
  have HE := Lib.hid hE
  have HST := Lib.hid hst
  clear hE hst hp
  by_cases c0 : c ≠ 0
  · have HR : Hid (X = .bad a c) := Lib.hid (by rw [← hX, if_pos c0])
    have m0 : (c != 0) = true := by simpa using c0
    clear hX c0 o1
    go_enter Tryz.func63, Tryz.ntmps63
    go_wp2_with fail
    refine HC1.out.mono ?_
    rintro e w' ⟨rfl, dd, rfl⟩
    go_wp2
    go_ret2
    exact ⟨(below_drawn dd).mono hb0, .inl ⟨_, _, HR.out, rfl⟩⟩
  obtain rfl : c = 0 := by omega
  rw [if_neg c0] at hX
  have o1' : 0 ≤ lo ∧ lo ≤ 1114111 ∧ 1 ≤ n ∧ n ≤ (s.size - a : Nat) := by omega
  obtain ⟨b, hb⟩ : ∃ b, a + n.toNat = b := ⟨_, rfl⟩
  rw [hb] at hX
  have hbs : b ≤ s.size := by omega
  have hbi : (b : Int) ≤ (s.size : Int) := by omega
  have hw1 : IntKind.i64.wrap ((a : Int) + n) = (b : Int) := by rw [IntKind.wrap_i64]; omega
  have hlo := two_runes o1'.1 o1'.2.1 o1'.1 o1'.2.1
  have HLO : Hid (0 ≤ lo ∧ lo ≤ 1114111) := Lib.hid ⟨o1'.1, o1'.2.1⟩
  clear o1 o1' c0 hb
  have HG := Lib.hid (fun d => bGoes_any (W.drewN d) (s.extract b s.size) (by rw [ByteArray.size_extract]; omega))
  rw [tail_drop] at HG
  obtain ⟨G, hG⟩ : ∃ G, Br.goesOn ((Utf.nums s).drop b) = G := ⟨_, rfl⟩
  rw [hG] at HG hX
  cases G with
  | false =>
    rw [if_pos rfl] at hX
    have HR := Lib.hid hX.symm
    clear hX hG
    go_enter Tryz.func63, Tryz.ntmps63
    go_wp2_with fail
    refine HC1.out.mono ?_
    rintro e w' ⟨rfl, dd, rfl⟩
    go_wp2_with fail
    refine (HG.out dd).mono ?_
    rintro e w' ⟨rfl, rfl⟩
    have HB1 : Hid (Below W.heap.size W ((W.drewN dd).alloc (.cells #[.int .i64 lo, .int .i64 lo] 36))) := Lib.hid ((below_drawn dd).alloc (Nat.le_refl _) _)
    have HA := Lib.hid (add_st _ n0 B L [(lo, lo)] _ (Nat.le_trans hb0 HB1.out.size) hB (HST.out.below HB1.out) (rrow_one (W.drewN dd) lo lo hlo.1 hlo.1 36) (by simp; omega))
    go_wp2_with fail
    refine HA.out.mono ?_
    rintro e w3 ⟨rfl, hs3, hb3⟩
    have H3 := Lib.hid (And.intro hs3 ((HB1.out.mono hb0).trans hb3))
    clear hs3 hb3
    go_wp2
    go_ret2
    exact ⟨H3.out.2, .inr ⟨_, _, _, HR.out, rfl, rfl, H3.out.1⟩⟩
  | true =>
    rw [if_neg (by decide)] at hX
    have hg1 : b + 1 ≤ s.size := by
      unfold Br.goesOn at hG
      rw [List.length_drop, Utf.nums_length] at hG
      simp at hG
      omega
    obtain ⟨q, hq⟩ : ∃ q, b + 1 = q := ⟨_, rfl⟩
    rw [hq] at hX
    have HQ : Hid ((b : Int) + 1 = (q : Int)) := Lib.hid (by omega)
    have hqs : q ≤ s.size := by omega
    have hqi : (q : Int) ≤ (s.size : Int) := by omega
    have hw2 : IntKind.i64.wrap ((b : Int) + 1) = (q : Int) := by rw [IntKind.wrap_i64]; omega
    have hzq : (s.extract q s.size).size ≤ 100000 := by rw [ByteArray.size_extract]; omega
    have HS2 := Lib.hid (fun w hw => bSet_any w (s.extract q s.size) hzq hw)
    have HC2 := Lib.hid (fun w => bChar_any w (s.extract q s.size) hzq)
    rw [tail_drop] at HC2
    have o2 := Br.one_cases ((Utf.nums s).drop q) (hbn q)
    rw [List.length_drop, Utf.nums_length] at o2
    obtain ⟨⟨sx, sn, sc⟩, hsx⟩ : ∃ p, Br.set (s.extract q s.size) = p := ⟨_, rfl⟩
    obtain ⟨⟨hi, m, c2⟩, hp2⟩ : ∃ p, Br.one ((Utf.nums s).drop q) = p := ⟨_, rfl⟩
    rw [hsx] at HS2 hX
    rw [hp2] at HC2 hX o2
    dsimp only at HC2 hX o2
    clear hsx hp2 hG hg1 hq hzq
    by_cases k1 : sc ≠ 3 ∧ sc ≠ 5
    · have HR : Hid (X = .bad q 70) := Lib.hid (by rw [← hX, if_pos k1]; first | rfl | rw [HQ.out])
      have HCE := Lib.hid (fun w => bClsEsc_any w sc)
      rw [decide_eq_true k1] at HCE
      clear hX k1 o2
      go_enter Tryz.func63, Tryz.ntmps63
      go_wp2_with fail
      refine HC1.out.mono ?_
      rintro e w' ⟨rfl, dd, rfl⟩
      go_wp2_with fail
      refine (HG.out dd).mono ?_
      rintro e w' ⟨rfl, rfl⟩
      go_wp2_with fail
      refine (HS2.out _ (HE.out.drewN dd)).mono ?_
      rintro e w2 ⟨v, out, rfl, _, _, hb2⟩
      have HB2 : Hid (Below W.heap.size W w2) := Lib.hid ((below_drawn (W := W) dd).trans hb2)
      clear hb2
      go_wp2_with fail
      refine (HCE.out _).mono ?_
      rintro e w' ⟨rfl, rfl⟩
      go_wp2
      go_ret2
      exact ⟨HB2.out.mono hb0, .inl ⟨_, _, HR.out, rfl⟩⟩
    rw [if_neg k1] at hX
    have HCE := Lib.hid (fun w => bClsEsc_any w sc)
    rw [decide_eq_false k1] at HCE
    by_cases k2 : c2 ≠ 0
    · have HR : Hid (X = .bad q c2) := Lib.hid (by rw [← hX, if_pos k2]; first | rfl | rw [HQ.out])
      have m2 : (c2 != 0) = true := by simpa using k2
      clear hX k1 k2 o2
      go_enter Tryz.func63, Tryz.ntmps63
      go_wp2_with fail
      refine HC1.out.mono ?_
      rintro e w' ⟨rfl, dd, rfl⟩
      go_wp2_with fail
      refine (HG.out dd).mono ?_
      rintro e w' ⟨rfl, rfl⟩
      go_wp2_with fail
      refine (HS2.out _ (HE.out.drewN dd)).mono ?_
      rintro e w2 ⟨v, out, rfl, _, _, hb2⟩
      have HB2 : Hid (Below W.heap.size W w2) := Lib.hid ((below_drawn (W := W) dd).trans hb2)
      clear hb2
      go_wp2_with fail
      refine (HCE.out _).mono ?_
      rintro e w' ⟨rfl, rfl⟩
      go_wp2_with fail
      refine (HC2.out _).mono ?_
      rintro e w' ⟨rfl, d3, rfl⟩
      have HB3 : Hid (Below n0 W (w2.drewN d3)) := Lib.hid (below_drewN (HB2.out.mono hb0) d3)
      go_wp2
      go_ret2
      exact ⟨HB3.out, .inl ⟨_, _, HR.out, rfl⟩⟩
    obtain rfl : c2 = 0 := by omega
    rw [if_neg k2] at hX
    have o2' : 0 ≤ hi ∧ hi ≤ 1114111 ∧ 1 ≤ m ∧ m ≤ (s.size - q : Nat) := by omega
    by_cases k3 : hi < lo
    · have HR : Hid (X = .bad a 70) := Lib.hid (by rw [← hX, if_pos k3])
      clear hX k1 k2 o2 o2'
      go_enter Tryz.func63, Tryz.ntmps63
      go_wp2_with fail
      refine HC1.out.mono ?_
      rintro e w' ⟨rfl, dd, rfl⟩
      go_wp2_with fail
      refine (HG.out dd).mono ?_
      rintro e w' ⟨rfl, rfl⟩
      go_wp2_with fail
      refine (HS2.out _ (HE.out.drewN dd)).mono ?_
      rintro e w2 ⟨v, out, rfl, _, _, hb2⟩
      have HB2 : Hid (Below W.heap.size W w2) := Lib.hid ((below_drawn (W := W) dd).trans hb2)
      clear hb2
      go_wp2_with fail
      refine (HCE.out _).mono ?_
      rintro e w' ⟨rfl, rfl⟩
      go_wp2_with fail
      refine (HC2.out _).mono ?_
      rintro e w' ⟨rfl, d3, rfl⟩
      have HB3 : Hid (Below n0 W (w2.drewN d3)) := Lib.hid (below_drewN (HB2.out.mono hb0) d3)
      go_wp2
      go_ret2
      exact ⟨HB3.out, .inl ⟨_, _, HR.out, rfl⟩⟩
    · rw [if_neg k3] at hX
      have hr2 := two_runes (lo := lo) (hi := hi) HLO.out.1 HLO.out.2 o2'.1 o2'.2.1
      obtain ⟨nx, hnx⟩ : ∃ nx, q + m.toNat = nx := ⟨_, rfl⟩
      rw [hnx] at hX
      have hw3 : IntKind.i64.wrap ((q : Int) + m) = (nx : Int) := by rw [IntKind.wrap_i64]; omega
      have HR := Lib.hid hX.symm
      clear hX k1 k2 o2 o2' hnx
      go_enter Tryz.func63, Tryz.ntmps63
      go_wp2_with fail
      refine HC1.out.mono ?_
      rintro e w' ⟨rfl, dd, rfl⟩
      go_wp2_with fail
      refine (HG.out dd).mono ?_
      rintro e w' ⟨rfl, rfl⟩
      go_wp2_with fail
      refine (HS2.out _ (HE.out.drewN dd)).mono ?_
      rintro e w2 ⟨v, out, rfl, _, _, hb2⟩
      have HB2 : Hid (Below W.heap.size W w2) := Lib.hid ((below_drawn (W := W) dd).trans hb2)
      clear hb2
      go_wp2_with fail
      refine (HCE.out _).mono ?_
      rintro e w' ⟨rfl, rfl⟩
      go_wp2_with fail
      refine (HC2.out _).mono ?_
      rintro e w' ⟨rfl, d3, rfl⟩
      have HB3 : Hid (Below W.heap.size W ((w2.drewN d3).alloc (.cells #[.int .i64 lo, .int .i64 hi] 36))) := Lib.hid ((below_drewN HB2.out d3).alloc HB2.out.size _)
      have HA := Lib.hid (add_st _ n0 B L [(lo, hi)] _ (Nat.le_trans hb0 HB3.out.size) hB (HST.out.below HB3.out) (rrow_one (w2.drewN d3) lo hi hr2.1 hr2.2 36) (by simp; omega))
      go_wp2_with fail
      refine HA.out.mono ?_
      rintro e w3 ⟨rfl, hs3, hb3⟩
      have H3 := Lib.hid (And.intro hs3 ((HB3.out.mono hb0).trans hb3))
      clear hs3 hb3
      go_wp2
      go_ret2
      exact ⟨H3.out.2, .inr ⟨_, _, _, HR.out, rfl, rfl, H3.out.1⟩⟩
end Go.Proofs.YtcomjkoaieeidaaGreatDoor
namespace Go.Proofs.YtcomjkoaieeidaaGreatDoor
open Go.RowKit
set_option linter.unusedVariables false
set_option maxRecDepth 100000 in
set_option maxHeartbeats 8000000 in
theorem bItem_any (W : World) (s : ByteArray) (hs : s.size ≤ 100000) (a n0 B : Nat) (L : List (Int × Int)) (ha : a ≤ s.size) (hE : Ev W) (hb0 : n0 ≤ W.heap.size) (hB : n0 ≤ B) (hst : St n0 B L W) (hlen : L.length ≤ 500000000) :
    Calls Tryz.prog 35 #[.string s, .int .i64 (a : Int), addV B] W (ItPost n0 B L W (Br.item s a)) := by
  obtain ⟨X, hX⟩ : ∃ X, Br.item s a = X := ⟨_, rfl⟩
  rw [hX]
  unfold Br.item at hX
  dsimp only at hX
  have hai : (a : Int) ≤ (s.size : Int) := by omega
  have hza : (s.extract a s.size).size ≤ 100000 := by rw [ByteArray.size_extract]; omega
  have hp := hasPre2 W (s.extract a s.size) 91 58
  rw [show (((91 : UInt8).toNat : Nat) : Int) = 91 from rfl, show (((58 : UInt8).toNat : Nat) : Int) = 58 from rfl, tail_drop] at hp
  have HE := Lib.hid hE
  have HST := Lib.hid hst
  by_cases c0 : ((Utf.nums s).drop a)[0]? = some 91 ∧ ((Utf.nums s).drop a)[1]? = some 58
  · rw [if_pos c0] at hX
    have h2 : a + 2 ≤ s.size := by
      have := (List.getElem?_eq_some_iff.1 c0.2).1
      rw [List.length_drop, Utf.nums_length] at this
      omega
    have HC := Lib.hid (bColon_any W s hs a n0 B L h2 hE hb0 hB hst hlen)
    rw [hX] at HC
    rw [decide_eq_true c0] at hp
    have HP := Lib.hid hp
    clear hX hp c0 hE hst hza
    go_enter Tryz.func35, Tryz.ntmps35
    go_wp2_with fail
    refine HP.out.mono ?_
    rintro e w' ⟨rfl, rfl⟩
    go_wp2_with fail
    refine HC.out.mono ?_
    intro e w' hpost
    rcases hpost with ⟨hb, ⟨o, c, hx, rfl⟩ | ⟨x, nx, l, hx, rfl, h3, h4⟩⟩
    · have H := Lib.hid (And.intro hb hx)
      clear hb hx
      go_wp2
      go_ret2
      exact ⟨H.out.1, .inl ⟨o, c, H.out.2, rfl⟩⟩
    · have H := Lib.hid (And.intro hb (And.intro hx (And.intro h3 h4)))
      clear hb hx h3 h4
      go_wp2
      go_ret2
      exact ⟨H.out.1, .inr ⟨x, nx, l, H.out.2.1, rfl, H.out.2.2⟩⟩
  rw [if_neg c0] at hX
  rw [decide_eq_false c0] at hp
  have HP := Lib.hid hp
  have HS := Lib.hid (bSet_any W (s.extract a s.size) hza hE)
  have hsc := Br.set_cases (s.extract a s.size)
  obtain ⟨⟨sx, sn, sc⟩, hsx⟩ : ∃ p, Br.set (s.extract a s.size) = p := ⟨_, rfl⟩
  rw [hsx] at HS hX hsc
  dsimp only at hX hsc
  have hzs : (s.extract a s.size).size = s.size - a := by rw [ByteArray.size_extract]; omega
  rw [hzs] at hsc
  clear hsx hp c0 hza hzs
  by_cases c1 : sc = 0
  · subst c1
    obtain ⟨y, rfl, _, hn2, hn3⟩ := hsc.resolve_left (by rintro ⟨_, _, h | h | h | h⟩ <;> omega)
    rw [if_pos rfl] at hX
    dsimp only at hX
    obtain ⟨nx, hnx⟩ : ∃ nx, a + sn.toNat = nx := ⟨_, rfl⟩
    rw [hnx] at hX
    have hw : IntKind.i64.wrap ((a : Int) + sn) = (nx : Int) := by rw [IntKind.wrap_i64]; omega
    have HR := Lib.hid hX.symm
    clear hX hE hst hsc hnx
    go_enter Tryz.func35, Tryz.ntmps35
    go_wp2_with fail
    refine HP.out.mono ?_
    rintro e w' ⟨rfl, rfl⟩
    go_wp2_with fail
    refine HS.out.mono ?_
    rintro e w2 ⟨v, out, rfl, hi, ho, hb2⟩
    have HB2 := Lib.hid hb2
    have hnl := Rg.norm_len out 0 (show Rg.NormFrom 0 out from hi.1) (by omega)
    have HI : Hid (Br.ItIs (.cls y) out) := Lib.hid hi
    have HA := Lib.hid (add_st w2 n0 B L out v (Nat.le_trans hb0 hb2.size) hB (HST.out.below hb2) (setIs_row hi ho) (by omega))
    clear hi ho hb2 hnl
    go_wp2_with fail
    refine HA.out.mono ?_
    rintro e w3 ⟨rfl, hs3, hb3⟩
    have H3 := Lib.hid (And.intro hs3 ((HB2.out.mono hb0).trans hb3))
    clear hs3 hb3
    go_wp2
    go_ret2
    exact ⟨H3.out.2, .inr ⟨_, _, _, HR.out, rfl, HI.out, H3.out.1⟩⟩
  rw [if_neg c1] at hX
  have m1 : (sc == 0) = false := by simpa using c1
  have HCE := Lib.hid (fun w => bClsEsc_any w sc)
  by_cases c2 : sc ≠ 3 ∧ sc ≠ 5
  · rw [if_pos c2] at hX
    rw [decide_eq_true c2] at HCE
    have HR := Lib.hid hX.symm
    clear hX hE hst hsc c1 c2
    go_enter Tryz.func35, Tryz.ntmps35
    go_wp2_with fail
    refine HP.out.mono ?_
    rintro e w' ⟨rfl, rfl⟩
    go_wp2_with fail
    refine HS.out.mono ?_
    rintro e w2 ⟨v, out, rfl, hi, ho, hb2⟩
    have HB2 := Lib.hid hb2
    clear hi ho hb2
    go_wp2_with fail
    refine (HCE.out _).mono ?_
    rintro e w' ⟨rfl, rfl⟩
    go_wp2
    go_ret2
    exact ⟨HB2.out.mono hb0, .inl ⟨_, _, HR.out, rfl⟩⟩
  rw [if_neg c2] at hX
  rw [decide_eq_false c2] at HCE
  have HR := Lib.hid hX
  clear hX hE hst hsc c1 c2
  go_enter Tryz.func35, Tryz.ntmps35
  go_wp2_with fail
  refine HP.out.mono ?_
  rintro e w' ⟨rfl, rfl⟩
  go_wp2_with fail
  refine HS.out.mono ?_
  rintro e w2 ⟨v, out, rfl, hi, ho, hb2⟩
  have HB2 := Lib.hid hb2
  clear hi ho hb2
  go_wp2_with fail
  refine (HCE.out _).mono ?_
  rintro e w' ⟨rfl, rfl⟩
  have HSP := Lib.hid (bSpan_any w2 s hs a n0 B L ha (HE.out.below (Nat.le_refl _) HB2.out) (Nat.le_trans hb0 HB2.out.size) hB (HST.out.below HB2.out) hlen)
  rw [HR.out] at HSP
  go_wp2_with fail
  refine HSP.out.mono ?_
  intro e w' hpost
  rcases hpost with ⟨hb, ⟨o, c, hx, rfl⟩ | ⟨x, nx, l, hx, rfl, h3, h4⟩⟩
  · have H := Lib.hid (And.intro ((HB2.out.mono hb0).trans hb) hx)
    clear hb hx
    go_wp2
    go_ret2
    exact ⟨H.out.1, .inl ⟨o, c, H.out.2, rfl⟩⟩
  · have H := Lib.hid (And.intro ((HB2.out.mono hb0).trans hb) (And.intro hx (And.intro h3 h4)))
    clear hb hx h3 h4
    go_wp2
    go_ret2
    exact ⟨H.out.1, .inr ⟨x, nx, l, H.out.2.1, rfl, H.out.2.2⟩⟩
end Go.Proofs.YtcomjkoaieeidaaGreatDoor
