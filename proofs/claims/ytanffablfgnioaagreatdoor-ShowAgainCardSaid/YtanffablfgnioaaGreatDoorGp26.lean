/- The landed bracket: the closure that adds a set to the union. · The landed bracket: colon. · The landed bracket: span. · The landed bracket: item. · The landed fold: the table of blocks, and a number's partner in a block. -/
import Derived.Test.YtanffablfgnioaaGreatDoorGp25
import Derived.Test.YtanffablfgnioaaGreatDoorGp1
import Derived.Deep.AppendLies
import Derived.RangeFuncBox
import Derived.Test.YtanffablfgnioaaGreatDoorGp23
import Derived.Test.YtanffablfgnioaaGreatDoorGp17
import Derived.Shelf.SlSortCmp.QuietGrown
namespace Go.Proofs.YtanffablfgnioaaGreatDoor
open Go.RowKit
set_option linter.unusedVariables false
/-- What stands behind an append to a boxed list and its store. -/
theorem boxed_added {W w1 : World} {n₀ B : Nat} {t e : TypeId} {size : Nat} {v v' : Value} {k m : Nat} {xs ys : List Value}
    (hv : Boxed W B t v) (hte : t ≠ e) (hrow : W.ownsRow n₀ e size v k xs) (hn₀ : n₀ ≤ W.heap.size) (hB : n₀ ≤ B)
    (hown' : w1.ownsRow n₀ e size v' m ys) (hgrow : W.grownBy w1 v.ownBlock) :
    Boxed w1 B t v ∧ Boxed (w1.setCell ⟨B, 0, none⟩ v') B t v' ∧ (w1.setCell ⟨B, 0, none⟩ v').ownsRow n₀ e size v' m ys ∧ Below n₀ W (w1.setCell ⟨B, 0, none⟩ v') := by
  have hv1 : Boxed w1 B t v := hv.kept hgrow (hv.not_row hte hrow)
  refine ⟨hv1, hv1.set v', hown'.kept (grownBy_setCell' w1 B v') (.inr (hv1.not_row hte hown').symm), ?_⟩
  refine ((Below.refl n₀ W).grown hgrow hn₀ fun j ej => ?_).setCell (p := ⟨B, 0, none⟩) hB v'
  rcases hrow.2 with ⟨rfl, _⟩ | ⟨g, cap, cur, rfl, hb, _, _⟩
  · simp [Value.ownBlock] at ej
  · obtain rfl : g = j := by simpa [Value.ownBlock] using ej
    exact hb
set_option maxRecDepth 100000 in
set_option maxHeartbeats 2000000 in
theorem addC_any (W : World) (n0 B : Nat) (vu vl : Value) (L l : List (Int × Int)) (hb0 : n0 ≤ W.heap.size) (hB : n0 ≤ B) (hbx : Boxed W B 23 vu) (hu : RgOwn W n0 vu L) (hl : RRow W vl l) (hlen : L.length + l.length ≤ 10000000000) :
    Calls Tryz.prog 82 #[vl, .pointer (some ⟨B, 0, none⟩)] W fun e w' => e = .returned (.tuple #[]) ∧ ∃ v', Boxed w' B 23 v' ∧ RgOwn w' n0 v' (L ++ l) ∧ Below n0 W w' := by
  obtain ⟨i0, hi, hz0, hz1, hz2⟩ := info_parts Tryz.infoRange
  have hbc := hbx.cell
  have hbf := hbx.frozen
  obtain ⟨a, cap, rfl, hl1, hl2, hl3⟩ := hl
  obtain ⟨n, hn⟩ : ∃ n, l.length = n := ⟨_, rfl⟩
  rw [hn] at hl1 hl3 hlen ⊢
  have hu' := hu
  unfold RgOwn at hu'
  obtain ⟨au, cu, hvu⟩ : ∃ au cu, vu = .slice au L.length cu := by
    rcases hu'.2 with ⟨e, e0⟩ | ⟨g, c, cur, e, _⟩
    · exact ⟨none, 0, by rw [e, e0]⟩
    · exact ⟨_, _, e⟩
  subst hvu
  by_cases hn0 : n = 0
  · subst hn0
    obtain rfl : l = [] := List.length_eq_zero_iff.1 hn
    have hrun := run_append_nothing (P := Tryz.prog) n0 23 23 49 i0 2 Tryz.underlying23 hi _ L.length (flat2 L) hu' a cap
    obtain ⟨k1, k2, k3, k4⟩ := boxed_added (w1 := W) hbx (by decide) hu' hb0 hB hu' ⟨rfl, rfl, rfl, Nat.le_refl _, fun _ _ _ => rfl⟩
    have HR := Lib.hid hrun
    have HK := Lib.hid (And.intro k2 (And.intro k3 k4))
    clear hbx hu hu' hrun k1 k2 k3 k4 hl3
    go_enter Tryz.func82, Tryz.ntmps82
    go_wp2_with (at_builtin; (refine wpList_append_run rfl _ _ 23 rfl _ _ _ W rfl rfl HR.out ?_))
    exact ⟨rfl, .tuple #[], by simp [results, Tryz.func82, go_sem], And.intro rfl ⟨_, HK.out.1, by rw [List.append_nil]; exact HK.out.2.1, HK.out.2.2⟩⟩
  · have hpos : 0 < n := by omega
    obtain ⟨b, off, rfl, hbs, _⟩ := hl3 0 hpos
    have hcells : ∀ j, j < l.length → W.cell? ⟨b, off + j * 2, none⟩ = some (.int .i64 (l[j]?.getD (0, 0)).1) ∧ W.cell? ⟨b, off + j * 2 + 1, none⟩ = some (.int .i64 (l[j]?.getD (0, 0)).2) := fun j hj => by
      obtain ⟨b', off', e, _, c1, c2⟩ := hl3 j (by omega)
      cases e
      exact ⟨c1, c2⟩
    obtain ⟨gg, cap2, W2, hrun, hown, hgrow, hat, hlt2⟩ := run_append_lies (P := Tryz.prog) W 23 23 n0 49 i0 (.agg #[.int .i64 0, .int .i64 0]) 2 16 Tryz.underlying23 hi hz0 hz1 hz2 rfl (by omega) _ L.length (flat2 L) hu'
      ⟨b, off, none⟩ n cap (flat2 l) (by rw [flat2_len, hn]) (rg_news hcells) (flat2_one l) hpos (by unfold maxLen; omega) (by omega) hb0 _ rfl
    obtain ⟨k1, k2, k3, k4⟩ := boxed_added hbx (by decide) hu' hb0 hB hown hgrow
    have hbc2 := k1.cell
    have hbf2 := k1.frozen
    have hfl : flat2 L ++ flat2 l = flat2 (L ++ l) := by unfold flat2; rw [List.flatMap_append]
    rw [hfl] at k3
    have HR := Lib.hid hrun
    have HK := Lib.hid (And.intro k2 (And.intro k3 k4))
    have HN := Lib.hid hn
    clear hbx hu hu' hrun k1 k2 k3 k4 hl3 hcells hown hgrow hfl
    go_enter Tryz.func82, Tryz.ntmps82
    go_wp2_with (at_builtin; (refine wpList_append_run rfl _ _ 23 rfl _ _ _ W2 rfl rfl HR.out ?_))
    refine ⟨rfl, .tuple #[], by simp [results, Tryz.func82, go_sem], And.intro rfl ⟨_, HK.out.1, ?_, HK.out.2.2⟩⟩
    unfold RgOwn
    rw [List.length_append, HN.out]
    exact HK.out.2.1
end Go.Proofs.YtanffablfgnioaaGreatDoor
namespace Go.Proofs.YtanffablfgnioaaGreatDoor
open Go.RowKit
set_option linter.unusedVariables false
/-- The union so far. -/
def St (n0 B : Nat) (L : List (Int × Int)) (W : World) : Prop := ∃ v, Boxed W B 23 v ∧ RgOwn W n0 v L
theorem St.below {n0 B : Nat} {L : List (Int × Int)} {W W' : World} (h : St n0 B L W) (hb : Below W.heap.size W W') : St n0 B L W' := by
  obtain ⟨v, h1, h2⟩ := h
  exact ⟨v, (hb.block B h1.lt).trans h1, h2.below hb⟩
abbrev addV (B : Nat) : Value := .func (.func 82) #[] #[.pointer (some ⟨B, 0, none⟩)]
/-- What the parts that read an item hand back. -/
def ItPost (n0 B : Nat) (L : List (Int × Int)) (W : World) (X : Br.Res Br.It) (e : Ending) (w' : World) : Prop :=
  Below n0 W w' ∧ ((∃ o c, X = .bad o c ∧ e = .returned (.tuple #[.int .i64 o, .int .i64 c])) ∨ (∃ x nx l, X = .ok x nx ∧ e = .returned (.tuple #[.int .i64 (nx : Nat), .int .i64 0]) ∧ Br.ItIs x l ∧ St n0 B (L ++ l) w'))
theorem add_st (W : World) (n0 B : Nat) (L l : List (Int × Int)) (vl : Value) (hb0 : n0 ≤ W.heap.size) (hB : n0 ≤ B) (hst : St n0 B L W) (hl : RRow W vl l) (hlen : L.length + l.length ≤ 10000000000) :
    Calls Tryz.prog 82 #[vl, .pointer (some ⟨B, 0, none⟩)] W fun e w' => e = .returned (.tuple #[]) ∧ St n0 B (L ++ l) w' ∧ Below n0 W w' := by
  obtain ⟨v, h1, h2⟩ := hst
  refine (addC_any W n0 B v vl L l hb0 hB h1 h2 hl hlen).mono ?_
  rintro e w' ⟨he, v', h3, h4, h5⟩
  exact ⟨he, ⟨v', h3, h4⟩, h5⟩
set_option maxRecDepth 100000 in
set_option maxHeartbeats 4000000 in
theorem bColon_any (W : World) (s : ByteArray) (hs : s.size ≤ 100000) (a n0 B : Nat) (L : List (Int × Int)) (ha : a + 2 ≤ s.size) (hE : Ev W) (hb0 : n0 ≤ W.heap.size) (hB : n0 ≤ B) (hst : St n0 B L W) (hlen : L.length ≤ 5000000000) :
    Calls Tryz.prog 108 #[.string s, .int .i64 (a : Int), addV B] W (ItPost n0 B L W (Br.colonX s a)) := by
  obtain ⟨X, hX⟩ : ∃ X, Br.colonX s a = X := ⟨_, rfl⟩
  rw [hX]
  obtain ⟨q, hq⟩ : ∃ q, a + 2 = q := ⟨_, rfl⟩
  have hw1 : IntKind.i64.wrap ((a : Int) + 2) = (q : Int) := by rw [IntKind.wrap_i64]; omega
  have hqi : (q : Int) ≤ (s.size : Int) := by omega
  have hsz : (s.extract q s.size).size = s.size - q := by rw [ByteArray.size_extract]; omega
  have hcut := cut_2 W (s.extract q s.size) (by omega) 58 93 hE
  unfold CutPost at hcut
  rw [show (((58 : UInt8).toNat : Nat) : Int) = 58 from rfl, show (((93 : UInt8).toNat : Nat) : Int) = 93 from rfl, tail_drop, hsz] at hcut
  have hk := Br.upTo2_le 58 93 ((Utf.nums s).drop q)
  rw [List.length_drop, Utf.nums_length] at hk
  have hx : X = (if Br.upTo2 58 93 ((Utf.nums s).drop q) = s.size - q then .bad a 82 else match Cl.lookC Cl.colonT (s.extract q (q + Br.upTo2 58 93 ((Utf.nums s).drop q))).data.toList with | none => .bad a 70 | some x => .ok (.cls x) (a + 4 + Br.upTo2 58 93 ((Utf.nums s).drop q))) := by
    rw [← hX, ← hq]
    unfold Br.colonX
    dsimp only
    rw [List.length_drop, Utf.nums_length]
    rfl
  obtain ⟨K, hK⟩ : ∃ K, Br.upTo2 58 93 ((Utf.nums s).drop q) = K := ⟨_, rfl⟩
  rw [hK] at hcut hk hx
  have HE := Lib.hid hE
  have HST := Lib.hid hst
  have HQ := Lib.hid hq
  clear hX hK hE hst hq
  by_cases c1 : K = s.size - q
  · have HR : Hid (X = .bad a 82) := Lib.hid (by rw [hx, if_pos c1])
    rw [decide_eq_false (by simpa using c1)] at hcut
    have HC := Lib.hid hcut
    clear hcut hx c1 hk hsz
    go_enter Tryz.func108, Tryz.ntmps108
    go_wp2_with fail
    refine HC.out.mono ?_
    rintro e w' ⟨b, rfl, dd, rfl⟩
    go_wp2
    go_ret2
    exact ⟨(below_drawn dd).mono hb0, .inl ⟨_, _, HR.out, rfl⟩⟩
  · rw [if_neg c1] at hx
    rw [decide_eq_true (by simpa using c1), Br.ext_tail] at hcut
    obtain ⟨nm, hnm⟩ : ∃ nm, s.extract q (q + K) = nm := ⟨_, rfl⟩
    rw [hnm] at hcut hx
    have hnz : nm.size = K := by rw [← hnm, ByteArray.size_extract]; omega
    have HC := Lib.hid hcut
    have HX := Lib.hid hx
    have HNZ := Lib.hid hnz
    obtain ⟨e1, he1⟩ : ∃ e1, q + K = e1 := ⟨_, rfl⟩
    obtain ⟨nx, hnx⟩ : ∃ nx, a + 4 + K = nx := ⟨_, rfl⟩
    rw [hnx] at HX
    have hw2 : IntKind.i64.wrap ((q : Int) + (nm.size : Int)) = (e1 : Int) := by rw [IntKind.wrap_i64, hnz]; omega
    have hw3 : IntKind.i64.wrap ((e1 : Int) + 2) = (nx : Int) := by rw [IntKind.wrap_i64]; have := HQ.out; omega
    clear hcut hx hnm hnz hk hsz c1 he1 hnx
    go_enter Tryz.func108, Tryz.ntmps108
    go_wp2_with fail
    refine HC.out.mono ?_
    rintro e w' ⟨b, rfl, dd, rfl⟩
    go_wp2_with fail
    refine (cColon_any _ nm (HE.out.drewN dd).spaces).mono ?_
    rintro e w2 ⟨v, out, c2, rfl, hc2, ho, hb⟩
    have HB : Hid (Below W.heap.size W w2) := Lib.hid ((below_drawn (W := W) dd).trans hb)
    have HO : Hid (RgOwn w2 W.heap.size v out) := Lib.hid ho
    cases hl : Cl.lookC Cl.colonT nm.data.toList with
    | none =>
      rw [hl] at hc2
      obtain ⟨rfl, rfl⟩ := hc2
      have HR : Hid (X = .bad a 70) := Lib.hid (by rw [HX.out, hl])
      clear ho hb hl
      go_wp2
      go_ret2
      exact ⟨HB.out.mono hb0, .inl ⟨_, _, HR.out, rfl⟩⟩
    | some x =>
      rw [hl] at hc2
      have hr := class_row hc2 HO.out
      have hn := hc2.2.1
      have hnl := Rg.norm_len out 0 hn (by omega)
      have HR : Hid (X = .ok (.cls x) nx) := Lib.hid (by rw [HX.out, hl])
      have HI : Hid (Br.ItIs (.cls x) out) := Lib.hid (Br.setIs_of hc2)
      obtain rfl : c2 = 0 := hc2.1
      have HA := Lib.hid (add_st w2 n0 B L out v (Nat.le_trans hb0 HB.out.size) hB (HST.out.below HB.out) hr (by omega))
      clear ho hb hl hc2 hr hn hnl
      go_wp2_with fail
      refine HA.out.mono ?_
      rintro e w3 ⟨rfl, hs3, hb3⟩
      have H3 := Lib.hid (And.intro hs3 ((HB.out.mono hb0).trans hb3))
      clear hs3 hb3
      go_wp2
      go_ret2
      exact ⟨H3.out.2, .inr ⟨_, _, _, HR.out, rfl, HI.out, H3.out.1⟩⟩
end Go.Proofs.YtanffablfgnioaaGreatDoor
namespace Go.Proofs.YtanffablfgnioaaGreatDoor
open Go.RowKit
set_option linter.unusedVariables false
theorem two_runes {lo hi : Int} (h1 : 0 ≤ lo) (h2 : lo ≤ 1114111) (h3 : 0 ≤ hi) (h4 : hi ≤ 1114111) : (-9223372036854775808 ≤ lo ∧ lo ≤ 9223372036854775807) ∧ (-9223372036854775808 ≤ hi ∧ hi ≤ 9223372036854775807) := by omega
set_option maxRecDepth 100000 in
set_option maxHeartbeats 8000000 in
theorem bSpan_any (W : World) (s : ByteArray) (hs : s.size ≤ 100000) (a n0 B : Nat) (L : List (Int × Int)) (ha : a ≤ s.size) (hE : Ev W) (hb0 : n0 ≤ W.heap.size) (hB : n0 ≤ B) (hst : St n0 B L W) (hlen : L.length ≤ 5000000000) :
    Calls Tryz.prog 110 #[.string s, .int .i64 (a : Int), addV B] W (ItPost n0 B L W (Br.span s a)) := by
  obtain ⟨X, hX⟩ : ∃ X, Br.span s a = X := ⟨_, rfl⟩
  rw [hX]
  unfold Br.span at hX
  dsimp only at hX
  have hai : (a : Int) ≤ (s.size : Int) := by omega
  have hbn := Utf.bytes_drop (Utf.nums_bytes s)
  have HC1 := Lib.hid (bChar_any W (s.extract a s.size) (by rw [ByteArray.size_extract]; omega))
  rw [tail_drop] at HC1
  have o1 := Br.one_cases ((Utf.nums s).drop a) (hbn a)
  rw [List.length_drop, Utf.nums_length] at o1
  obtain ⟨⟨lo, n, c⟩, hp⟩ : ∃ p, Br.one ((Utf.nums s).drop a) = p := ⟨_, rfl⟩
  rw [hp] at HC1 hX o1
  dsimp only at HC1 hX o1
  have HE := Lib.hid hE
  have HST := Lib.hid hst
  clear hE hst hp
  by_cases c0 : c ≠ 0
  · have HR : Hid (X = .bad a c) := Lib.hid (by rw [← hX, if_pos c0])
    have m0 : (c != 0) = true := by simpa using c0
    clear hX c0 o1
    go_enter Tryz.func110, Tryz.ntmps110
    go_wp2_with fail
    refine HC1.out.mono ?_
    rintro e w' ⟨rfl, dd, rfl⟩
    go_wp2
    go_ret2
    exact ⟨(below_drawn dd).mono hb0, .inl ⟨_, _, HR.out, rfl⟩⟩
  obtain rfl : c = 0 := by omega
  rw [if_neg c0] at hX
  have o1' : 0 ≤ lo ∧ lo ≤ 1114111 ∧ 1 ≤ n ∧ n ≤ (s.size - a : Nat) := by omega
  obtain ⟨b, hb⟩ : ∃ b, a + n.toNat = b := ⟨_, rfl⟩
  rw [hb] at hX
  have hbs : b ≤ s.size := by omega
  have hbi : (b : Int) ≤ (s.size : Int) := by omega
  have hw1 : IntKind.i64.wrap ((a : Int) + n) = (b : Int) := by rw [IntKind.wrap_i64]; omega
  have hlo := two_runes o1'.1 o1'.2.1 o1'.1 o1'.2.1
  have HLO : Hid (0 ≤ lo ∧ lo ≤ 1114111) := Lib.hid ⟨o1'.1, o1'.2.1⟩
  clear o1 o1' c0 hb
  have HG := Lib.hid (fun d => bGoes_any (W.drewN d) (s.extract b s.size) (by rw [ByteArray.size_extract]; omega))
  rw [tail_drop] at HG
  obtain ⟨G, hG⟩ : ∃ G, Br.goesOn ((Utf.nums s).drop b) = G := ⟨_, rfl⟩
  rw [hG] at HG hX
  cases G with
  | false =>
    rw [if_pos rfl] at hX
    have HR := Lib.hid hX.symm
    clear hX hG
    go_enter Tryz.func110, Tryz.ntmps110
    go_wp2_with fail
    refine HC1.out.mono ?_
    rintro e w' ⟨rfl, dd, rfl⟩
    go_wp2_with fail
    refine (HG.out dd).mono ?_
    rintro e w' ⟨rfl, rfl⟩
    have HB1 : Hid (Below W.heap.size W ((W.drewN dd).alloc (.cells #[.int .i64 lo, .int .i64 lo] 49))) := Lib.hid ((below_drawn dd).alloc (Nat.le_refl _) _)
    have HA := Lib.hid (add_st _ n0 B L [(lo, lo)] _ (Nat.le_trans hb0 HB1.out.size) hB (HST.out.below HB1.out) (rrow_one (W.drewN dd) lo lo hlo.1 hlo.1 49) (by simp; omega))
    go_wp2_with fail
    refine HA.out.mono ?_
    rintro e w3 ⟨rfl, hs3, hb3⟩
    have H3 := Lib.hid (And.intro hs3 ((HB1.out.mono hb0).trans hb3))
    clear hs3 hb3
    go_wp2
    go_ret2
    exact ⟨H3.out.2, .inr ⟨_, _, _, HR.out, rfl, rfl, H3.out.1⟩⟩
  | true =>
    rw [if_neg (by decide)] at hX
    have hg1 : b + 1 ≤ s.size := by
      unfold Br.goesOn at hG
      rw [List.length_drop, Utf.nums_length] at hG
      simp at hG
      omega
    obtain ⟨q, hq⟩ : ∃ q, b + 1 = q := ⟨_, rfl⟩
    rw [hq] at hX
    have HQ : Hid ((b : Int) + 1 = (q : Int)) := Lib.hid (by omega)
    have hqs : q ≤ s.size := by omega
    have hqi : (q : Int) ≤ (s.size : Int) := by omega
    have hw2 : IntKind.i64.wrap ((b : Int) + 1) = (q : Int) := by rw [IntKind.wrap_i64]; omega
    have hzq : (s.extract q s.size).size ≤ 100000 := by rw [ByteArray.size_extract]; omega
    have HS2 := Lib.hid (fun w hw => bSet_any w (s.extract q s.size) hzq hw)
    have HC2 := Lib.hid (fun w => bChar_any w (s.extract q s.size) hzq)
    rw [tail_drop] at HC2
    have o2 := Br.one_cases ((Utf.nums s).drop q) (hbn q)
    rw [List.length_drop, Utf.nums_length] at o2
    obtain ⟨⟨sx, sn, sc⟩, hsx⟩ : ∃ p, Br.set (s.extract q s.size) = p := ⟨_, rfl⟩
    obtain ⟨⟨hi, m, c2⟩, hp2⟩ : ∃ p, Br.one ((Utf.nums s).drop q) = p := ⟨_, rfl⟩
    rw [hsx] at HS2 hX
    rw [hp2] at HC2 hX o2
    dsimp only at HC2 hX o2
    clear hsx hp2 hG hg1 hq hzq
    by_cases k1 : sc ≠ 3 ∧ sc ≠ 5
    · have HR : Hid (X = .bad q 70) := Lib.hid (by rw [← hX, if_pos k1]; first | rfl | rw [HQ.out])
      have HCE := Lib.hid (fun w => bClsEsc_any w sc)
      rw [decide_eq_true k1] at HCE
      clear hX k1 o2
      go_enter Tryz.func110, Tryz.ntmps110
      go_wp2_with fail
      refine HC1.out.mono ?_
      rintro e w' ⟨rfl, dd, rfl⟩
      go_wp2_with fail
      refine (HG.out dd).mono ?_
      rintro e w' ⟨rfl, rfl⟩
      go_wp2_with fail
      refine (HS2.out _ (HE.out.drewN dd)).mono ?_
      rintro e w2 ⟨v, out, rfl, _, _, hb2⟩
      have HB2 : Hid (Below W.heap.size W w2) := Lib.hid ((below_drawn (W := W) dd).trans hb2)
      clear hb2
      go_wp2_with fail
      refine (HCE.out _).mono ?_
      rintro e w' ⟨rfl, rfl⟩
      go_wp2
      go_ret2
      exact ⟨HB2.out.mono hb0, .inl ⟨_, _, HR.out, rfl⟩⟩
    rw [if_neg k1] at hX
    have HCE := Lib.hid (fun w => bClsEsc_any w sc)
    rw [decide_eq_false k1] at HCE
    by_cases k2 : c2 ≠ 0
    · have HR : Hid (X = .bad q c2) := Lib.hid (by rw [← hX, if_pos k2]; first | rfl | rw [HQ.out])
      have m2 : (c2 != 0) = true := by simpa using k2
      clear hX k1 k2 o2
      go_enter Tryz.func110, Tryz.ntmps110
      go_wp2_with fail
      refine HC1.out.mono ?_
      rintro e w' ⟨rfl, dd, rfl⟩
      go_wp2_with fail
      refine (HG.out dd).mono ?_
      rintro e w' ⟨rfl, rfl⟩
      go_wp2_with fail
      refine (HS2.out _ (HE.out.drewN dd)).mono ?_
      rintro e w2 ⟨v, out, rfl, _, _, hb2⟩
      have HB2 : Hid (Below W.heap.size W w2) := Lib.hid ((below_drawn (W := W) dd).trans hb2)
      clear hb2
      go_wp2_with fail
      refine (HCE.out _).mono ?_
      rintro e w' ⟨rfl, rfl⟩
      go_wp2_with fail
      refine (HC2.out _).mono ?_
      rintro e w' ⟨rfl, d3, rfl⟩
      have HB3 : Hid (Below n0 W (w2.drewN d3)) := Lib.hid (below_drewNr (HB2.out.mono hb0) d3)
      go_wp2
      go_ret2
      exact ⟨HB3.out, .inl ⟨_, _, HR.out, rfl⟩⟩
    obtain rfl : c2 = 0 := by omega
    rw [if_neg k2] at hX
    have o2' : 0 ≤ hi ∧ hi ≤ 1114111 ∧ 1 ≤ m ∧ m ≤ (s.size - q : Nat) := by omega
    by_cases k3 : hi < lo
    · have HR : Hid (X = .bad a 70) := Lib.hid (by rw [← hX, if_pos k3])
      clear hX k1 k2 o2 o2'
      go_enter Tryz.func110, Tryz.ntmps110
      go_wp2_with fail
      refine HC1.out.mono ?_
      rintro e w' ⟨rfl, dd, rfl⟩
      go_wp2_with fail
      refine (HG.out dd).mono ?_
      rintro e w' ⟨rfl, rfl⟩
      go_wp2_with fail
      refine (HS2.out _ (HE.out.drewN dd)).mono ?_
      rintro e w2 ⟨v, out, rfl, _, _, hb2⟩
      have HB2 : Hid (Below W.heap.size W w2) := Lib.hid ((below_drawn (W := W) dd).trans hb2)
      clear hb2
      go_wp2_with fail
      refine (HCE.out _).mono ?_
      rintro e w' ⟨rfl, rfl⟩
      go_wp2_with fail
      refine (HC2.out _).mono ?_
      rintro e w' ⟨rfl, d3, rfl⟩
      have HB3 : Hid (Below n0 W (w2.drewN d3)) := Lib.hid (below_drewNr (HB2.out.mono hb0) d3)
      go_wp2
      go_ret2
      exact ⟨HB3.out, .inl ⟨_, _, HR.out, rfl⟩⟩
    · rw [if_neg k3] at hX
      have hr2 := two_runes (lo := lo) (hi := hi) HLO.out.1 HLO.out.2 o2'.1 o2'.2.1
      obtain ⟨nx, hnx⟩ : ∃ nx, q + m.toNat = nx := ⟨_, rfl⟩
      rw [hnx] at hX
      have hw3 : IntKind.i64.wrap ((q : Int) + m) = (nx : Int) := by rw [IntKind.wrap_i64]; omega
      have HR := Lib.hid hX.symm
      clear hX k1 k2 o2 o2' hnx
      go_enter Tryz.func110, Tryz.ntmps110
      go_wp2_with fail
      refine HC1.out.mono ?_
      rintro e w' ⟨rfl, dd, rfl⟩
      go_wp2_with fail
      refine (HG.out dd).mono ?_
      rintro e w' ⟨rfl, rfl⟩
      go_wp2_with fail
      refine (HS2.out _ (HE.out.drewN dd)).mono ?_
      rintro e w2 ⟨v, out, rfl, _, _, hb2⟩
      have HB2 : Hid (Below W.heap.size W w2) := Lib.hid ((below_drawn (W := W) dd).trans hb2)
      clear hb2
      go_wp2_with fail
      refine (HCE.out _).mono ?_
      rintro e w' ⟨rfl, rfl⟩
      go_wp2_with fail
      refine (HC2.out _).mono ?_
      rintro e w' ⟨rfl, d3, rfl⟩
      have HB3 : Hid (Below W.heap.size W ((w2.drewN d3).alloc (.cells #[.int .i64 lo, .int .i64 hi] 49))) := Lib.hid ((below_drewNr HB2.out d3).alloc HB2.out.size _)
      have HA := Lib.hid (add_st _ n0 B L [(lo, hi)] _ (Nat.le_trans hb0 HB3.out.size) hB (HST.out.below HB3.out) (rrow_one (w2.drewN d3) lo hi hr2.1 hr2.2 49) (by simp; omega))
      go_wp2_with fail
      refine HA.out.mono ?_
      rintro e w3 ⟨rfl, hs3, hb3⟩
      have H3 := Lib.hid (And.intro hs3 ((HB3.out.mono hb0).trans hb3))
      clear hs3 hb3
      go_wp2
      go_ret2
      exact ⟨H3.out.2, .inr ⟨_, _, _, HR.out, rfl, rfl, H3.out.1⟩⟩
end Go.Proofs.YtanffablfgnioaaGreatDoor
namespace Go.Proofs.YtanffablfgnioaaGreatDoor
open Go.RowKit
set_option linter.unusedVariables false
set_option maxRecDepth 100000 in
set_option maxHeartbeats 8000000 in
theorem bItem_any (W : World) (s : ByteArray) (hs : s.size ≤ 100000) (a n0 B : Nat) (L : List (Int × Int)) (ha : a ≤ s.size) (hE : Ev W) (hb0 : n0 ≤ W.heap.size) (hB : n0 ≤ B) (hst : St n0 B L W) (hlen : L.length ≤ 5000000000) :
    Calls Tryz.prog 83 #[.string s, .int .i64 (a : Int), addV B] W (ItPost n0 B L W (Br.item s a)) := by
  obtain ⟨X, hX⟩ : ∃ X, Br.item s a = X := ⟨_, rfl⟩
  rw [hX]
  unfold Br.item at hX
  dsimp only at hX
  have hai : (a : Int) ≤ (s.size : Int) := by omega
  have hza : (s.extract a s.size).size ≤ 100000 := by rw [ByteArray.size_extract]; omega
  have hp := hasPre2 W (s.extract a s.size) 91 58
  rw [show (((91 : UInt8).toNat : Nat) : Int) = 91 from rfl, show (((58 : UInt8).toNat : Nat) : Int) = 58 from rfl, tail_drop] at hp
  have HE := Lib.hid hE
  have HST := Lib.hid hst
  by_cases c0 : ((Utf.nums s).drop a)[0]? = some 91 ∧ ((Utf.nums s).drop a)[1]? = some 58
  · rw [if_pos c0] at hX
    have h2 : a + 2 ≤ s.size := by
      have := (List.getElem?_eq_some_iff.1 c0.2).1
      rw [List.length_drop, Utf.nums_length] at this
      omega
    have HC := Lib.hid (bColon_any W s hs a n0 B L h2 hE hb0 hB hst hlen)
    rw [hX] at HC
    rw [decide_eq_true c0] at hp
    have HP := Lib.hid hp
    clear hX hp c0 hE hst hza
    go_enter Tryz.func83, Tryz.ntmps83
    go_wp2_with fail
    refine HP.out.mono ?_
    rintro e w' ⟨rfl, rfl⟩
    go_wp2_with fail
    refine HC.out.mono ?_
    intro e w' hpost
    rcases hpost with ⟨hb, ⟨o, c, hx, rfl⟩ | ⟨x, nx, l, hx, rfl, h3, h4⟩⟩
    · have H := Lib.hid (And.intro hb hx)
      clear hb hx
      go_wp2
      go_ret2
      exact ⟨H.out.1, .inl ⟨o, c, H.out.2, rfl⟩⟩
    · have H := Lib.hid (And.intro hb (And.intro hx (And.intro h3 h4)))
      clear hb hx h3 h4
      go_wp2
      go_ret2
      exact ⟨H.out.1, .inr ⟨x, nx, l, H.out.2.1, rfl, H.out.2.2⟩⟩
  rw [if_neg c0] at hX
  rw [decide_eq_false c0] at hp
  have HP := Lib.hid hp
  have HS := Lib.hid (bSet_any W (s.extract a s.size) hza hE)
  have hsc := Br.set_cases (s.extract a s.size)
  obtain ⟨⟨sx, sn, sc⟩, hsx⟩ : ∃ p, Br.set (s.extract a s.size) = p := ⟨_, rfl⟩
  rw [hsx] at HS hX hsc
  dsimp only at hX hsc
  have hzs : (s.extract a s.size).size = s.size - a := by rw [ByteArray.size_extract]; omega
  rw [hzs] at hsc
  clear hsx hp c0 hza hzs
  by_cases c1 : sc = 0
  · subst c1
    obtain ⟨y, rfl, _, hn2, hn3⟩ := hsc.resolve_left (by rintro ⟨_, _, h | h | h | h⟩ <;> omega)
    rw [if_pos rfl] at hX
    dsimp only at hX
    obtain ⟨nx, hnx⟩ : ∃ nx, a + sn.toNat = nx := ⟨_, rfl⟩
    rw [hnx] at hX
    have hw : IntKind.i64.wrap ((a : Int) + sn) = (nx : Int) := by rw [IntKind.wrap_i64]; omega
    have HR := Lib.hid hX.symm
    clear hX hE hst hsc hnx
    go_enter Tryz.func83, Tryz.ntmps83
    go_wp2_with fail
    refine HP.out.mono ?_
    rintro e w' ⟨rfl, rfl⟩
    go_wp2_with fail
    refine HS.out.mono ?_
    rintro e w2 ⟨v, out, rfl, hi, ho, hb2⟩
    have HB2 := Lib.hid hb2
    have hnl := Rg.norm_len out 0 (show Rg.NormFrom 0 out from hi.1) (by omega)
    have HI : Hid (Br.ItIs (.cls y) out) := Lib.hid hi
    have HA := Lib.hid (add_st w2 n0 B L out v (Nat.le_trans hb0 hb2.size) hB (HST.out.below hb2) (setIs_row hi ho) (by omega))
    clear hi ho hb2 hnl
    go_wp2_with fail
    refine HA.out.mono ?_
    rintro e w3 ⟨rfl, hs3, hb3⟩
    have H3 := Lib.hid (And.intro hs3 ((HB2.out.mono hb0).trans hb3))
    clear hs3 hb3
    go_wp2
    go_ret2
    exact ⟨H3.out.2, .inr ⟨_, _, _, HR.out, rfl, HI.out, H3.out.1⟩⟩
  rw [if_neg c1] at hX
  have m1 : (sc == 0) = false := by simpa using c1
  have HCE := Lib.hid (fun w => bClsEsc_any w sc)
  by_cases c2 : sc ≠ 3 ∧ sc ≠ 5
  · rw [if_pos c2] at hX
    rw [decide_eq_true c2] at HCE
    have HR := Lib.hid hX.symm
    clear hX hE hst hsc c1 c2
    go_enter Tryz.func83, Tryz.ntmps83
    go_wp2_with fail
    refine HP.out.mono ?_
    rintro e w' ⟨rfl, rfl⟩
    go_wp2_with fail
    refine HS.out.mono ?_
    rintro e w2 ⟨v, out, rfl, hi, ho, hb2⟩
    have HB2 := Lib.hid hb2
    clear hi ho hb2
    go_wp2_with fail
    refine (HCE.out _).mono ?_
    rintro e w' ⟨rfl, rfl⟩
    go_wp2
    go_ret2
    exact ⟨HB2.out.mono hb0, .inl ⟨_, _, HR.out, rfl⟩⟩
  rw [if_neg c2] at hX
  rw [decide_eq_false c2] at HCE
  have HR := Lib.hid hX
  clear hX hE hst hsc c1 c2
  go_enter Tryz.func83, Tryz.ntmps83
  go_wp2_with fail
  refine HP.out.mono ?_
  rintro e w' ⟨rfl, rfl⟩
  go_wp2_with fail
  refine HS.out.mono ?_
  rintro e w2 ⟨v, out, rfl, hi, ho, hb2⟩
  have HB2 := Lib.hid hb2
  clear hi ho hb2
  go_wp2_with fail
  refine (HCE.out _).mono ?_
  rintro e w' ⟨rfl, rfl⟩
  have HSP := Lib.hid (bSpan_any w2 s hs a n0 B L ha (HE.out.below (Nat.le_refl _) HB2.out) (Nat.le_trans hb0 HB2.out.size) hB (HST.out.below HB2.out) hlen)
  rw [HR.out] at HSP
  go_wp2_with fail
  refine HSP.out.mono ?_
  intro e w' hpost
  rcases hpost with ⟨hb, ⟨o, c, hx, rfl⟩ | ⟨x, nx, l, hx, rfl, h3, h4⟩⟩
  · have H := Lib.hid (And.intro ((HB2.out.mono hb0).trans hb) hx)
    clear hb hx
    go_wp2
    go_ret2
    exact ⟨H.out.1, .inl ⟨o, c, H.out.2, rfl⟩⟩
  · have H := Lib.hid (And.intro ((HB2.out.mono hb0).trans hb) (And.intro hx (And.intro h3 h4)))
    clear hb hx h3 h4
    go_wp2
    go_ret2
    exact ⟨H.out.1, .inr ⟨x, nx, l, H.out.2.1, rfl, H.out.2.2⟩⟩
end Go.Proofs.YtanffablfgnioaaGreatDoor
namespace Go.Proofs.YtanffablfgnioaaGreatDoor
open Go.RowKit
set_option linter.unusedVariables false
def blkV (b : Fd.Blk) : Value := .agg #[.int .i64 b.1, .int .i64 b.2.1, .int .i64 b.2.2]
def blksA : Array Value := #[.int .i64 65, .int .i64 90, .int .i64 32, .int .i64 192, .int .i64 214, .int .i64 32, .int .i64 216, .int .i64 222, .int .i64 32, .int .i64 913, .int .i64 929, .int .i64 32, .int .i64 931, .int .i64 939, .int .i64 32, .int .i64 1040, .int .i64 1071, .int .i64 32, .int .i64 1024, .int .i64 1039, .int .i64 80, .int .i64 255, .int .i64 255, .int .i64 121, .int .i64 181, .int .i64 181, .int .i64 743, .int .i64 931, .int .i64 931, .int .i64 31, .int .i64 75, .int .i64 75, .int .i64 8415, .int .i64 197, .int .i64 197, .int .i64 8294, .int .i64 83, .int .i64 83, .int .i64 300, .int .i64 937, .int .i64 937, .int .i64 7549]
def blksV : Value := .agg blksA
theorem below_setRow {w w' : World} {B g : Nat} {cs : Array Value} (h : Below B w w') (hg : B ≤ g) : Below B w (w'.setRow g cs) :=
  ⟨h.os, h.tape, h.output, by have := h.size; simp [World.setRow]; omega, fun k hk => by rw [setRow_other _ _ _ _ (by omega)]; exact h.block k hk⟩
theorem wpList_buildTo {P : Program} {ops : Array Oper} {rest : List Oper} {o : Oper} {a : Act} {w : World} {Q : Exit → Act → World → Prop} (hg : o.guard = none) (t : TypeId) (parts : Array (Nat × Operand)) (ho : o.op = .build t parts) (cells : Array Value)
    (hf : P.built t (parts.map fun (i, x) => (i, a.eval x)).toList = some cells)
    (h : wpList P ops Q rest (a.put o.dst (.agg cells)) w) : wpList P ops Q (o :: rest) a w :=
  wpList_build hg t parts ho (by rw [hf]; rfl) (by rw [hf]; exact h)
set_option maxRecDepth 100000 in
set_option maxHeartbeats 2000000 in
theorem blocks_any (W : World) :
    Calls Tryz.prog 149 #[] W fun e w' => e = .returned blksV ∧ Below W.heap.size W w' := by
  go_enter Tryz.func149, Tryz.ntmps149
  iterate 11 go_step
  refine wpList_buildTo rfl 174 _ rfl #[.int .i64 65, .int .i64 90, .int .i64 32] (by kernel_rfl) ?_
  refine wpList_buildTo rfl 174 _ rfl #[.int .i64 192, .int .i64 214, .int .i64 32] (by kernel_rfl) ?_
  refine wpList_buildTo rfl 174 _ rfl #[.int .i64 216, .int .i64 222, .int .i64 32] (by kernel_rfl) ?_
  refine wpList_buildTo rfl 174 _ rfl #[.int .i64 913, .int .i64 929, .int .i64 32] (by kernel_rfl) ?_
  refine wpList_buildTo rfl 174 _ rfl #[.int .i64 931, .int .i64 939, .int .i64 32] (by kernel_rfl) ?_
  refine wpList_buildTo rfl 174 _ rfl #[.int .i64 1040, .int .i64 1071, .int .i64 32] (by kernel_rfl) ?_
  refine wpList_buildTo rfl 174 _ rfl #[.int .i64 1024, .int .i64 1039, .int .i64 80] (by kernel_rfl) ?_
  refine wpList_buildTo rfl 174 _ rfl #[.int .i64 255, .int .i64 255, .int .i64 121] (by kernel_rfl) ?_
  refine wpList_buildTo rfl 174 _ rfl #[.int .i64 181, .int .i64 181, .int .i64 743] (by kernel_rfl) ?_
  refine wpList_buildTo rfl 174 _ rfl #[.int .i64 931, .int .i64 931, .int .i64 31] (by kernel_rfl) ?_
  refine wpList_buildTo rfl 174 _ rfl #[.int .i64 75, .int .i64 75, .int .i64 8415] (by kernel_rfl) ?_
  refine wpList_buildTo rfl 174 _ rfl #[.int .i64 197, .int .i64 197, .int .i64 8294] (by kernel_rfl) ?_
  refine wpList_buildTo rfl 174 _ rfl #[.int .i64 83, .int .i64 83, .int .i64 300] (by kernel_rfl) ?_
  refine wpList_buildTo rfl 174 _ rfl #[.int .i64 937, .int .i64 937, .int .i64 7549] (by kernel_rfl) ?_
  refine wpList_buildTo rfl 175 _ rfl blksA (by kernel_rfl) ?_
  refine wpList_store_row rfl 175 _ _ rfl W.heap.size blksA (by kernel_rfl) (by kernel_rfl) 175 _ (heap_alloc_new _ _) (by kernel_rfl) (by kernel_rfl) (by kernel_rfl) ?_
  refine wpList_nil ?_
  iterate 2 go_step
  go_step
  refine bodyPost_ret (results_cell_row rfl _ _ W.heap.size 175 blksA _ _ (by kernel_rfl) (setRow_heap _ _ _ _ _ _ (heap_alloc_new _ _)) Tryz.underlying175 rfl (by kernel_rfl)) rfl ?_
  exact ⟨rfl, below_setRow ((Below.refl W.heap.size W).alloc (Nat.le_refl _) _) (Nat.le_refl _)⟩
theorem blk_idx (i : Nat) (h : i < 14) : (Fd.blocksL[i]?.getD (0, 0, 0)) ∈ Fd.blocksL := by
  rw [List.getElem?_eq_getElem (by rw [Fd.blocks_len]; exact h)]; exact List.getElem_mem _
theorem blk_bd : ∀ b ∈ Fd.blocksL, 0 ≤ b.1 ∧ b.1 ≤ 10000 ∧ 0 ≤ b.2.1 ∧ b.2.1 ≤ 10000 ∧ 0 ≤ b.2.2 ∧ b.2.2 ≤ 10000 := by decide +kernel
set_option maxRecDepth 100000 in
set_option maxHeartbeats 2000000 in
theorem partner_any (W : World) (b : Fd.Blk) (x : Int) (hb : b ∈ Fd.blocksL) :
    Calls Tryz.prog 150 #[blkV b, .int .i64 x] W fun e w' => e = .returned (.int .i64 (Fd.partner b x)) ∧ ∃ q os', w' = Go.Sort.grow (W.drewN q) os' := by
  have hbd := blk_bd b hb
  have HP : Hid (∀ r, Fd.partner b x = r → Fd.partner b x = r) := Lib.hid (fun _ h => h)
  have H1 : Hid (b.1 ≤ x → x ≤ b.2.1 → Fd.partner b x = x + b.2.2) := Lib.hid (fun h1 h2 => by unfold Fd.partner; rw [if_pos ⟨h1, h2⟩])
  have H2 : Hid (¬ (b.1 ≤ x ∧ x ≤ b.2.1) → b.1 + b.2.2 ≤ x → x ≤ b.2.1 + b.2.2 → Fd.partner b x = x - b.2.2) := Lib.hid (fun h0 h1 h2 => by unfold Fd.partner; rw [if_neg h0, if_pos ⟨h1, h2⟩])
  have H3 : Hid (¬ (b.1 ≤ x ∧ x ≤ b.2.1) → ¬ (b.1 + b.2.2 ≤ x ∧ x ≤ b.2.1 + b.2.2) → Fd.partner b x = x) := Lib.hid (fun h0 h1 => by unfold Fd.partner; rw [if_neg h0, if_neg h1])
  have HG : Hid (∀ o : Obj, W.alloc o = Go.Sort.grow (W.drewN 0) #[o]) := Lib.hid (fun o => by rw [Go.Sort.alloc_eq_grow]; rfl)
  obtain ⟨p, q, s⟩ := b
  unfold blkV
  generalize Fd.partner (p, q, s) x = r at *
  dsimp only at hbd H1 H2 H3 ⊢
  obtain ⟨a1, a2, a3, a4, a5, a6⟩ := hbd
  clear hb HP
  have q1 : (p + s + 9223372036854775808) % 18446744073709551616 - 9223372036854775808 = p + s := by omega
  have q2 : (q + s + 9223372036854775808) % 18446744073709551616 - 9223372036854775808 = q + s := by omega
  by_cases c1 : p ≤ x
  · by_cases c2 : x ≤ q
    · have HE := Lib.hid (H1.out c1 c2)
      go_enter Tryz.func150, Tryz.ntmps150
      go_wp2
      go_ret
      exact ⟨rg_ret_int (by rw [HE.out]), 0, _, HG.out _⟩
    · by_cases c3 : p + s ≤ x
      · by_cases c4 : x ≤ q + s
        · have HE := Lib.hid (H2.out (fun h => c2 h.2) c3 c4)
          go_enter Tryz.func150, Tryz.ntmps150
          go_wp2
          go_ret
          exact ⟨rg_ret_int (by rw [HE.out]), 0, _, HG.out _⟩
        · have HE := Lib.hid (H3.out (fun h => c2 h.2) (fun h => c4 h.2))
          go_enter Tryz.func150, Tryz.ntmps150
          go_wp2
          go_ret
          exact ⟨rg_ret_int (by rw [HE.out]), 0, _, HG.out _⟩
      · have HE := Lib.hid (H3.out (fun h => c2 h.2) (fun h => c3 h.1))
        go_enter Tryz.func150, Tryz.ntmps150
        go_wp2
        go_ret
        exact ⟨rg_ret_int (by rw [HE.out]), 0, _, HG.out _⟩
  · have HE := Lib.hid (H3.out (fun h => c1 h.1) (fun h => c1 (by omega)))
    have c3 : ¬ p + s ≤ x := by omega
    go_enter Tryz.func150, Tryz.ntmps150
    go_wp2
    go_ret
    exact ⟨rg_ret_int (by rw [HE.out]), 0, _, HG.out _⟩
end Go.Proofs.YtanffablfgnioaaGreatDoor
