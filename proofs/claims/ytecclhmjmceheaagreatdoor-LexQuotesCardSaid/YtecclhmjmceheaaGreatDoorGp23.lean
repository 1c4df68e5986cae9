/- The landed bracket: character, goesOn, isClassEscape. · The landed bracket: the closure that adds a set to the union. · The landed bracket: colon. -/
import Derived.Test.YtecclhmjmceheaaGreatDoorGp21
import Derived.Test.YtecclhmjmceheaaGreatDoorGp9
import Derived.Deep.AppendLies
import Derived.RangeFuncBox
import Derived.Test.YtecclhmjmceheaaGreatDoorGp19
namespace Go.Proofs.YtecclhmjmceheaaGreatDoor
open Go.RowKit
set_option linter.unusedVariables false
set_option maxRecDepth 100000 in
set_option maxHeartbeats 1000000 in
theorem bClsEsc_any (W : World) (e : Int) : Calls Tryz.prog 154 #[.int .i64 e] W fun x w' => x = .returned (.bool (decide (e ≠ 3 ∧ e ≠ 5))) ∧ W = w' := by
  by_cases a : e = 3
  · subst a
    go_enter Tryz.func154, Tryz.ntmps154
    go_wp2
    go_ret
    exact ⟨rfl, rfl⟩
  · by_cases b : e = 5
    · subst b
      go_enter Tryz.func154, Tryz.ntmps154
      go_wp2
      go_ret
      exact ⟨rfl, rfl⟩
    · rw [decide_eq_true (show e ≠ 3 ∧ e ≠ 5 from ⟨a, b⟩)]
      have h1 : (e != 3) = true := by simpa using a
      have h2 : (e != 5) = true := by simpa using b
      clear a b
      go_enter Tryz.func154, Tryz.ntmps154
      go_wp2
      go_ret
      exact ⟨rfl, rfl⟩
set_option maxRecDepth 100000 in
set_option maxHeartbeats 1000000 in
theorem bGoes_any (W : World) (s : ByteArray) (hs : s.size ≤ 100000) : Calls Tryz.prog 203 #[.string s] W fun x w' => x = .returned (.bool (Br.goesOn (Utf.nums s))) ∧ W = w' := by
  obtain ⟨G, hG⟩ : ∃ G, Br.goesOn (Utf.nums s) = G := ⟨_, rfl⟩
  rw [hG]
  unfold Br.goesOn at hG
  rw [Utf.nums_length] at hG
  by_cases h2 : s.size < 2
  · have HE : Hid (G = false) := Lib.hid (by rw [← hG, decide_eq_false (show ¬ 2 ≤ s.size by omega)]; simp)
    have h2i : ¬ (2 : Int) ≤ (s.size : Int) := by omega
    clear hG h2
    go_enter Tryz.func203, Tryz.ntmps203
    go_wp2
    go_ret
    exact ⟨by rw [HE.out]; rfl, rfl⟩
  have h2i : (2 : Int) ≤ (s.size : Int) := by omega
  have h0 : 0 < s.size := by omega
  have h1 : 1 < s.size := by omega
  have h0i : (0 : Int) < (s.size : Int) := by omega
  have h1i : (1 : Int) < (s.size : Int) := by omega
  have hsome : ∀ k (h : k < s.size) (c : Int), (Utf.nums s)[k]? = some c ↔ (s[k].toNat : Int) = c := fun k h c => by
    have := Utf.nums_at s k h
    rw [List.getElem?_eq_getElem (by rw [Utf.nums_length]; exact h)] at this ⊢
    rw [← this]; simp
  rw [decide_eq_true (show 2 ≤ s.size by omega)] at hG
  have hb0 : s[0].toNat < 256 := UInt8.toNat_lt _
  have hb1 : s[1].toNat < 256 := UInt8.toNat_lt _
  by_cases c0 : (s[0].toNat : Int) = 45
  · by_cases c1 : (s[1].toNat : Int) = 93
    · have HE : Hid (G = false) := Lib.hid (by rw [← hG, decide_eq_true ((hsome 1 h1 93).2 c1)]; simp)
      have m0 : ((s[0].toNat : Int) == 45) = true := by simp [c0]
      have m1 : ((s[1].toNat : Int) != 93) = false := by simp [c1]
      clear hG h2 hsome c0 c1
      go_enter Tryz.func203, Tryz.ntmps203
      go_wp2
      go_ret
      exact ⟨by rw [HE.out]; rfl, rfl⟩
    · have HE : Hid (G = true) := Lib.hid (by rw [← hG, decide_eq_true ((hsome 0 h0 45).2 c0), decide_eq_false (fun h => c1 ((hsome 1 h1 93).1 h))]; rfl)
      have m0 : ((s[0].toNat : Int) == 45) = true := by simp [c0]
      have m1 : ((s[1].toNat : Int) != 93) = true := by simpa using c1
      clear hG h2 hsome c0 c1
      go_enter Tryz.func203, Tryz.ntmps203
      go_wp2
      go_ret
      exact ⟨by rw [HE.out]; rfl, rfl⟩
  · have HE : Hid (G = false) := Lib.hid (by rw [← hG, decide_eq_false (fun h => c0 ((hsome 0 h0 45).1 h))]; rfl)
    have m0 : ((s[0].toNat : Int) == 45) = false := by simpa using c0
    clear hG h2 hsome c0
    go_enter Tryz.func203, Tryz.ntmps203
    go_wp2
    go_ret
    exact ⟨by rw [HE.out]; rfl, rfl⟩
set_option maxRecDepth 100000 in
set_option maxHeartbeats 2000000 in
theorem bChar_any (W : World) (s : ByteArray) (hs : s.size ≤ 100000) : Calls Tryz.prog 202 #[.string s] W fun x w' =>
    x = .returned (.tuple #[.int .i64 (Br.one (Utf.nums s)).1, .int .i64 (Br.one (Utf.nums s)).2.1, .int .i64 (Br.one (Utf.nums s)).2.2]) ∧ ∃ d, w' = W.drewN d := by
  have HN := Lib.hid (bNumber_any W s (by omega))
  obtain ⟨R, hR⟩ : ∃ R, Br.one (Utf.nums s) = R := ⟨_, rfl⟩
  have hone : R = if (Utf.nums s)[0]?.getD 0 = 92 then Br.num (Utf.nums s) else if (Utf.dec (Utf.nums s)).1 < 0 then (0, 0, 3) else ((Utf.dec (Utf.nums s)).1, (Utf.dec (Utf.nums s)).2, 0) := by rw [← hR]; rfl
  rw [hR]
  clear hR
  by_cases c : (Utf.nums s)[0]?.getD 0 = 92
  · have hf := Br.num_form c
    rw [if_pos c] at hone
    rw [← hone] at HN hf
    have m : (R.2.2 != 3) = true := by simpa using hf
    clear hone hf c
    go_enter Tryz.func202, Tryz.ntmps202
    go_wp2_with fail
    refine HN.out.mono ?_
    rintro e w' ⟨rfl, rfl⟩
    go_wp2
    go_ret3
    exact ⟨rfl, 0, rfl⟩
  · rw [if_neg c] at hone
    rw [Br.num_no c] at HN
    have HD := Lib.hid (decode_any s (by unfold maxLen; omega) W)
    unfold DecPost at HD
    obtain ⟨⟨r, n⟩, hp⟩ : ∃ p, Utf.dec (Utf.nums s) = p := ⟨_, rfl⟩
    rw [hp] at HD hone
    dsimp only at HD hone
    clear c hp
    by_cases hr : r < 0
    · have HE : Hid (R = (0, 0, 3)) := Lib.hid (by rw [hone, if_pos hr])
      clear hone
      go_enter Tryz.func202, Tryz.ntmps202
      go_wp2_with fail
      refine HN.out.mono ?_
      rintro e w' ⟨rfl, rfl⟩
      go_wp2_with fail
      refine HD.out.mono ?_
      rintro e w' ⟨rfl, d, rfl⟩
      go_wp2
      go_ret3
      exact ⟨by rw [HE.out]; rfl, d, rfl⟩
    · have HE : Hid (R = (r, n, 0)) := Lib.hid (by rw [hone, if_neg hr])
      clear hone
      go_enter Tryz.func202, Tryz.ntmps202
      go_wp2_with fail
      refine HN.out.mono ?_
      rintro e w' ⟨rfl, rfl⟩
      go_wp2_with fail
      refine HD.out.mono ?_
      rintro e w' ⟨rfl, d, rfl⟩
      go_wp2
      go_ret3
      exact ⟨by rw [HE.out]; rfl, d, rfl⟩
end Go.Proofs.YtecclhmjmceheaaGreatDoor
namespace Go.Proofs.YtecclhmjmceheaaGreatDoor
open Go.RowKit
set_option linter.unusedVariables false
/-- What stands behind an append to a boxed list and its store. -/
theorem boxed_added {W w1 : World} {n₀ B : Nat} {t e : TypeId} {size : Nat} {v v' : Value} {k m : Nat} {xs ys : List Value}
    (hv : Boxed W B t v) (hte : t ≠ e) (hrow : W.ownsRow n₀ e size v k xs) (hn₀ : n₀ ≤ W.heap.size) (hB : n₀ ≤ B)
    (hown' : w1.ownsRow n₀ e size v' m ys) (hgrow : W.grownBy w1 v.ownBlock) :
    Boxed w1 B t v ∧ Boxed (w1.setCell ⟨B, 0, none⟩ v') B t v' ∧ (w1.setCell ⟨B, 0, none⟩ v').ownsRow n₀ e size v' m ys ∧ Below n₀ W (w1.setCell ⟨B, 0, none⟩ v') := by
  have hv1 : Boxed w1 B t v := hv.kept hgrow (hv.not_row hte hrow)
  refine ⟨hv1, hv1.set v', hown'.kept (grownBy_setCell' w1 B v') (.inr (hv1.not_row hte hown').symm), ?_⟩
  refine ((Below.refl n₀ W).grown hgrow hn₀ fun j ej => ?_).setCell (p := ⟨B, 0, none⟩) hB v'
  rcases hrow.2 with ⟨rfl, _⟩ | ⟨g, cap, cur, rfl, hb, _, _⟩
  · simp [Value.ownBlock] at ej
  · obtain rfl : g = j := by simpa [Value.ownBlock] using ej
    exact hb
set_option maxRecDepth 100000 in
set_option maxHeartbeats 2000000 in
theorem addC_any (W : World) (n0 B : Nat) (vu vl : Value) (L l : List (Int × Int)) (hb0 : n0 ≤ W.heap.size) (hB : n0 ≤ B) (hbx : Boxed W B 33 vu) (hu : RgOwn W n0 vu L) (hl : RRow W vl l) (hlen : L.length + l.length ≤ 1000000000) :
    Calls Tryz.prog 121 #[vl, .pointer (some ⟨B, 0, none⟩)] W fun e w' => e = .returned (.tuple #[]) ∧ ∃ v', Boxed w' B 33 v' ∧ RgOwn w' n0 v' (L ++ l) ∧ Below n0 W w' := by
  obtain ⟨i0, hi, hz0, hz1, hz2⟩ := info_parts Tryz.infoRange
  have hbc := hbx.cell
  have hbf := hbx.frozen
  obtain ⟨a, cap, rfl, hl1, hl2, hl3⟩ := hl
  obtain ⟨n, hn⟩ : ∃ n, l.length = n := ⟨_, rfl⟩
  rw [hn] at hl1 hl3 hlen ⊢
  have hu' := hu
  unfold RgOwn at hu'
  obtain ⟨au, cu, hvu⟩ : ∃ au cu, vu = .slice au L.length cu := by
    rcases hu'.2 with ⟨e, e0⟩ | ⟨g, c, cur, e, _⟩
    · exact ⟨none, 0, by rw [e, e0]⟩
    · exact ⟨_, _, e⟩
  subst hvu
  by_cases hn0 : n = 0
  · subst hn0
    obtain rfl : l = [] := List.length_eq_zero_iff.1 hn
    have hrun := run_append_nothing (P := Tryz.prog) n0 33 33 103 i0 2 Tryz.underlying33 hi _ L.length (flat2 L) hu' a cap
    obtain ⟨k1, k2, k3, k4⟩ := boxed_added (w1 := W) hbx (by decide) hu' hb0 hB hu' ⟨rfl, rfl, rfl, Nat.le_refl _, fun _ _ _ => rfl⟩
    have HR := Lib.hid hrun
    have HK := Lib.hid (And.intro k2 (And.intro k3 k4))
    clear hbx hu hu' hrun k1 k2 k3 k4 hl3
    go_enter Tryz.func121, Tryz.ntmps121
    go_wp2_with (at_builtin; (refine wpList_append_run rfl _ _ 33 rfl _ _ _ W rfl rfl HR.out ?_))
    exact ⟨rfl, .tuple #[], by simp [results, Tryz.func121, go_sem], And.intro rfl ⟨_, HK.out.1, by rw [List.append_nil]; exact HK.out.2.1, HK.out.2.2⟩⟩
  · have hpos : 0 < n := by omega
    obtain ⟨b, off, rfl, hbs, _⟩ := hl3 0 hpos
    have hcells : ∀ j, j < l.length → W.cell? ⟨b, off + j * 2, none⟩ = some (.int .i64 (l[j]?.getD (0, 0)).1) ∧ W.cell? ⟨b, off + j * 2 + 1, none⟩ = some (.int .i64 (l[j]?.getD (0, 0)).2) := fun j hj => by
      obtain ⟨b', off', e, _, c1, c2⟩ := hl3 j (by omega)
      cases e
      exact ⟨c1, c2⟩
    obtain ⟨gg, cap2, W2, hrun, hown, hgrow, hat, hlt2⟩ := run_append_lies (P := Tryz.prog) W 33 33 n0 103 i0 (.agg #[.int .i64 0, .int .i64 0]) 2 16 Tryz.underlying33 hi hz0 hz1 hz2 rfl (by omega) _ L.length (flat2 L) hu'
      ⟨b, off, none⟩ n cap (flat2 l) (by rw [flat2_len, hn]) (rg_news hcells) (flat2_one l) hpos (by unfold maxLen; omega) (by omega) hb0 _ rfl
    obtain ⟨k1, k2, k3, k4⟩ := boxed_added hbx (by decide) hu' hb0 hB hown hgrow
    have hbc2 := k1.cell
    have hbf2 := k1.frozen
    have hfl : flat2 L ++ flat2 l = flat2 (L ++ l) := by unfold flat2; rw [List.flatMap_append]
    rw [hfl] at k3
    have HR := Lib.hid hrun
    have HK := Lib.hid (And.intro k2 (And.intro k3 k4))
    have HN := Lib.hid hn
    clear hbx hu hu' hrun k1 k2 k3 k4 hl3 hcells hown hgrow hfl
    go_enter Tryz.func121, Tryz.ntmps121
    go_wp2_with (at_builtin; (refine wpList_append_run rfl _ _ 33 rfl _ _ _ W2 rfl rfl HR.out ?_))
    refine ⟨rfl, .tuple #[], by simp [results, Tryz.func121, go_sem], And.intro rfl ⟨_, HK.out.1, ?_, HK.out.2.2⟩⟩
    unfold RgOwn
    rw [List.length_append, HN.out]
    exact HK.out.2.1
end Go.Proofs.YtecclhmjmceheaaGreatDoor
namespace Go.Proofs.YtecclhmjmceheaaGreatDoor
open Go.RowKit
set_option linter.unusedVariables false
/-- The union so far. -/
def St (n0 B : Nat) (L : List (Int × Int)) (W : World) : Prop := ∃ v, Boxed W B 33 v ∧ RgOwn W n0 v L
theorem St.below {n0 B : Nat} {L : List (Int × Int)} {W W' : World} (h : St n0 B L W) (hb : Below W.heap.size W W') : St n0 B L W' := by
  obtain ⟨v, h1, h2⟩ := h
  exact ⟨v, (hb.block B h1.lt).trans h1, h2.below hb⟩
abbrev addV (B : Nat) : Value := .func (.func 121) #[] #[.pointer (some ⟨B, 0, none⟩)]
/-- What the parts that read an item hand back. -/
def ItPost (n0 B : Nat) (L : List (Int × Int)) (W : World) (X : Br.Res Br.It) (e : Ending) (w' : World) : Prop :=
  Below n0 W w' ∧ ((∃ o c, X = .bad o c ∧ e = .returned (.tuple #[.int .i64 o, .int .i64 c])) ∨ (∃ x nx l, X = .ok x nx ∧ e = .returned (.tuple #[.int .i64 (nx : Nat), .int .i64 0]) ∧ Br.ItIs x l ∧ St n0 B (L ++ l) w'))
theorem add_st (W : World) (n0 B : Nat) (L l : List (Int × Int)) (vl : Value) (hb0 : n0 ≤ W.heap.size) (hB : n0 ≤ B) (hst : St n0 B L W) (hl : RRow W vl l) (hlen : L.length + l.length ≤ 1000000000) :
    Calls Tryz.prog 121 #[vl, .pointer (some ⟨B, 0, none⟩)] W fun e w' => e = .returned (.tuple #[]) ∧ St n0 B (L ++ l) w' ∧ Below n0 W w' := by
  obtain ⟨v, h1, h2⟩ := hst
  refine (addC_any W n0 B v vl L l hb0 hB h1 h2 hl hlen).mono ?_
  rintro e w' ⟨he, v', h3, h4, h5⟩
  exact ⟨he, ⟨v', h3, h4⟩, h5⟩
set_option maxRecDepth 100000 in
set_option maxHeartbeats 4000000 in
theorem bColon_any (W : World) (s : ByteArray) (hs : s.size ≤ 100000) (a n0 B : Nat) (L : List (Int × Int)) (ha : a + 2 ≤ s.size) (hE : Ev W) (hb0 : n0 ≤ W.heap.size) (hB : n0 ≤ B) (hst : St n0 B L W) (hlen : L.length ≤ 500000000) :
    Calls Tryz.prog 153 #[.string s, .int .i64 (a : Int), addV B] W (ItPost n0 B L W (Br.colonX s a)) := by
  obtain ⟨X, hX⟩ : ∃ X, Br.colonX s a = X := ⟨_, rfl⟩
  rw [hX]
  obtain ⟨q, hq⟩ : ∃ q, a + 2 = q := ⟨_, rfl⟩
  have hw1 : IntKind.i64.wrap ((a : Int) + 2) = (q : Int) := by rw [IntKind.wrap_i64]; omega
  have hqi : (q : Int) ≤ (s.size : Int) := by omega
  have hsz : (s.extract q s.size).size = s.size - q := by rw [ByteArray.size_extract]; omega
  have hcut := cut_2 W (s.extract q s.size) (by omega) 58 93 hE
  unfold CutPost at hcut
  rw [show (((58 : UInt8).toNat : Nat) : Int) = 58 from rfl, show (((93 : UInt8).toNat : Nat) : Int) = 93 from rfl, tail_drop, hsz] at hcut
  have hk := Br.upTo2_le 58 93 ((Utf.nums s).drop q)
  rw [List.length_drop, Utf.nums_length] at hk
  have hx : X = (if Br.upTo2 58 93 ((Utf.nums s).drop q) = s.size - q then .bad a 82 else match Cl.lookC Cl.colonT (s.extract q (q + Br.upTo2 58 93 ((Utf.nums s).drop q))).data.toList with | none => .bad a 70 | some x => .ok (.cls x) (a + 4 + Br.upTo2 58 93 ((Utf.nums s).drop q))) := by
    rw [← hX, ← hq]
    unfold Br.colonX
    dsimp only
    rw [List.length_drop, Utf.nums_length]
    rfl
  obtain ⟨K, hK⟩ : ∃ K, Br.upTo2 58 93 ((Utf.nums s).drop q) = K := ⟨_, rfl⟩
  rw [hK] at hcut hk hx
  have HE := Lib.hid hE
  have HST := Lib.hid hst
  have HQ := Lib.hid hq
  clear hX hK hE hst hq
  by_cases c1 : K = s.size - q
  · have HR : Hid (X = .bad a 82) := Lib.hid (by rw [hx, if_pos c1])
    rw [decide_eq_false (by simpa using c1)] at hcut
    have HC := Lib.hid hcut
    clear hcut hx c1 hk hsz
    go_enter Tryz.func153, Tryz.ntmps153
    go_wp2_with fail
    refine HC.out.mono ?_
    rintro e w' ⟨b, rfl, dd, rfl⟩
    go_wp2
    go_ret2
    exact ⟨(below_drawn dd).mono hb0, .inl ⟨_, _, HR.out, rfl⟩⟩
  · rw [if_neg c1] at hx
    rw [decide_eq_true (by simpa using c1), Br.ext_tail] at hcut
    obtain ⟨nm, hnm⟩ : ∃ nm, s.extract q (q + K) = nm := ⟨_, rfl⟩
    rw [hnm] at hcut hx
    have hnz : nm.size = K := by rw [← hnm, ByteArray.size_extract]; omega
    have HC := Lib.hid hcut
    have HX := Lib.hid hx
    have HNZ := Lib.hid hnz
    obtain ⟨e1, he1⟩ : ∃ e1, q + K = e1 := ⟨_, rfl⟩
    obtain ⟨nx, hnx⟩ : ∃ nx, a + 4 + K = nx := ⟨_, rfl⟩
    rw [hnx] at HX
    have hw2 : IntKind.i64.wrap ((q : Int) + (nm.size : Int)) = (e1 : Int) := by rw [IntKind.wrap_i64, hnz]; omega
    have hw3 : IntKind.i64.wrap ((e1 : Int) + 2) = (nx : Int) := by rw [IntKind.wrap_i64]; have := HQ.out; omega
    clear hcut hx hnm hnz hk hsz c1 he1 hnx
    go_enter Tryz.func153, Tryz.ntmps153
    go_wp2_with fail
    refine HC.out.mono ?_
    rintro e w' ⟨b, rfl, dd, rfl⟩
    go_wp2_with fail
    refine (cColon_any _ nm (HE.out.drewN dd).spaces).mono ?_
    rintro e w2 ⟨v, out, c2, rfl, hc2, ho, hb⟩
    have HB : Hid (Below W.heap.size W w2) := Lib.hid ((below_drawn (W := W) dd).trans hb)
    have HO : Hid (RgOwn w2 W.heap.size v out) := Lib.hid ho
    cases hl : Cl.lookC Cl.colonT nm.data.toList with
    | none =>
      rw [hl] at hc2
      obtain ⟨rfl, rfl⟩ := hc2
      have HR : Hid (X = .bad a 70) := Lib.hid (by rw [HX.out, hl])
      clear ho hb hl
      go_wp2
      go_ret2
      exact ⟨HB.out.mono hb0, .inl ⟨_, _, HR.out, rfl⟩⟩
    | some x =>
      rw [hl] at hc2
      have hr := class_row hc2 HO.out
      have hn := hc2.2.1
      have hnl := Rg.norm_len out 0 hn (by omega)
      have HR : Hid (X = .ok (.cls x) nx) := Lib.hid (by rw [HX.out, hl])
      have HI : Hid (Br.ItIs (.cls x) out) := Lib.hid (Br.setIs_of hc2)
      obtain rfl : c2 = 0 := hc2.1
      have HA := Lib.hid (add_st w2 n0 B L out v (Nat.le_trans hb0 HB.out.size) hB (HST.out.below HB.out) hr (by omega))
      clear ho hb hl hc2 hr hn hnl
      go_wp2_with fail
      refine HA.out.mono ?_
      rintro e w3 ⟨rfl, hs3, hb3⟩
      have H3 := Lib.hid (And.intro hs3 ((HB.out.mono hb0).trans hb3))
      clear hs3 hb3
      go_wp2
      go_ret2
      exact ⟨H3.out.2, .inr ⟨_, _, _, HR.out, rfl, HI.out, H3.out.1⟩⟩
end Go.Proofs.YtecclhmjmceheaaGreatDoor
