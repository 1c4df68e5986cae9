/- burinlaw08.LexJoins, walked. -/
import Derived.Test.YtecclhmjmceheaaGreatDoorGp43
namespace Go.Proofs.YtecclhmjmceheaaGreatDoor
open Go.RowKit
open Lx (Tk TR LR)
set_option linter.unusedVariables false
theorem TkOwn.capd {W : World} {base : Nat} {v : Value} {T : List (Int × Tk)} (h : TkOwn W base v T) (h0 : 0 < T.length) : ∃ g cap, v = .slice (some ⟨g, 0, none⟩) T.length cap ∧ T.length ≤ cap ∧ cap ≤ maxLen := by
  obtain ⟨X, _, h2, _⟩ := h
  rcases h2.2 with ⟨_, e⟩ | ⟨g, cap, cur, e, _, _, h3, h4, _⟩
  · omega
  · exact ⟨g, cap, e, h3, h4⟩
set_option maxRecDepth 100000 in
set_option maxHeartbeats 8000000 in
theorem walkLexJoins (W : World) (s t : ByteArray) (hs : s.size ≤ 140737488351232) (ht : t.size ≤ 140737488351232) (hE : Ev W) : Calls Tryz.prog 4 #[.string s, .string t] W fun e w' => e = .returned (.bool true) ∧ Below W.heap.size W w' := by
  have HE := Lib.hid hE
  clear hE
  by_cases hs1 : 100 < s.size
  · have h3i : (100 : Int) < (s.size : Int) := by omega
    go_enter Tryz.func4, Tryz.ntmps4
    go_wp2_with fail
    refine (works8_any _ HE.out).mono ?_
    rintro e w1 ⟨rfl, hb⟩
    have HB := Lib.hid hb
    clear hb
    go_wp2
    go_ret
    exact ⟨rfl, HB.out⟩
  by_cases ht1 : 100 < t.size
  · have h3i : ¬ (100 : Int) < (s.size : Int) := by omega
    have h3j : (100 : Int) < (t.size : Int) := by omega
    go_enter Tryz.func4, Tryz.ntmps4
    go_wp2_with fail
    refine (works8_any _ HE.out).mono ?_
    rintro e w1 ⟨rfl, hb⟩
    have HB := Lib.hid hb
    clear hb
    go_wp2
    go_ret
    exact ⟨rfl, HB.out⟩
  have h3i : ¬ (100 : Int) < (s.size : Int) := by omega
  have h3j : ¬ (100 : Int) < (t.size : Int) := by omega
  obtain ⟨u, hu⟩ : ∃ u, s ++ (⟨#[41]⟩ : ByteArray) = u := ⟨_, rfl⟩
  have hus : u.size = s.size + 1 := by rw [← hu, ByteArray.size_append]; rfl
  have hz : (Utf.nums u)[u.size - 1]? = some 41 := by
    rw [hus, ← hu, Br.nums_append', List.getElem?_append_right (by rw [Utf.nums_length]; omega), Utf.nums_length]
    rw [show s.size + 1 - 1 - s.size = 0 by omega]; rfl
  have hut : (u ++ t).size = u.size + t.size := ByteArray.size_append ..
  have hl1 := fun w (hw : Ev w) => lex_any w u (by omega) hw
  have hl2 := fun w (hw : Ev w) => lex_any w t (by omega) hw
  have hl3 := fun w (hw : Ev w) => lex_any w (u ++ t) (by omega) hw
  have hr1 := fun T => Lx.lex_rises (s := u) (T := T)
  have hr2 := fun T => Lx.lex_rises (s := t) (T := T)
  have hb1 := fun o c => Lx.lexF_bad u (u.size + 2) 0 false [] o c (by omega)
  have hb2 := fun o c => Lx.lexF_bad t (t.size + 2) 0 false [] o c (by omega)
  have hj := fun A => Lx.lex_joined u t hz (by omega) (A := A)
  obtain ⟨R1, hR1⟩ : ∃ R, Lx.lexR u 0 false [] = R := ⟨_, rfl⟩
  obtain ⟨R2, hR2⟩ : ∃ R, Lx.lexR t 0 false [] = R := ⟨_, rfl⟩
  obtain ⟨R3, hR3⟩ : ∃ R, Lx.lexR (u ++ t) 0 false [] = R := ⟨_, rfl⟩
  rw [show Lx.lexF u (u.size + 2) 0 false [] = R1 from hR1] at hb1
  rw [show Lx.lexF t (t.size + 2) 0 false [] = R2 from hR2] at hb2
  rw [hR1] at hl1 hr1 hj
  rw [hR2] at hl2 hr2 hj
  rw [hR3] at hl3 hj
  have HL1 := Lib.hid hl1
  have HL2 := Lib.hid hl2
  have HL3 := Lib.hid hl3
  have HR1 := Lib.hid hr1
  have HR2 := Lib.hid hr2
  have HB1 := Lib.hid hb1
  have HB2 := Lib.hid hb2
  have HJ := Lib.hid hj
  have HU := Lib.hid hu
  have HUS := Lib.hid hus
  clear hl1 hl2 hl3 hr1 hr2 hb1 hb2 hj hu hz hut hus hR1 hR2 hR3 hs1 ht1 hs ht
  have hu101 : u.size ≤ 101 := by have := HUS.out; omega
  have hu1 : 1 ≤ u.size := by have := HUS.out; omega
  go_enter Tryz.func4, Tryz.ntmps4
  go_wp2_with fail
  refine (works8_any _ HE.out).mono ?_
  rintro e w1 ⟨rfl, hb⟩
  have D1 := Lib.hid hb
  clear hb
  have ov : ¬ 9223372036854775807 < s.size + 1 := by omega
  go_wp2_with fail
  rw [HU.out]
  refine (HL1.out _ (HE.out.below (Nat.le_refl _) D1.out)).mono ?_
  rintro e w2 ⟨hb, h⟩
  have D2 := Lib.hid (D1.out.trans (hb.mono D1.out.size))
  clear hb
  rcases h with ⟨o, c, h, rfl⟩ | ⟨T, v, h, rfl, ht, hTl⟩
  · have hc : (c != 0) = true := by simpa using (HB1.out o c h).2.2
    clear h
    go_wp2_with fail
    refine (HL2.out _ (HE.out.below (Nat.le_refl _) D2.out)).mono ?_
    rintro e w3 ⟨hb, h⟩
    have D3 := Lib.hid (D2.out.trans (hb.mono D2.out.size))
    clear hb
    rcases h with ⟨o2, c2, h, rfl⟩ | ⟨T2, v2, h, rfl, ht, hTl⟩
    · clear h
      go_wp2
      go_ret
      exact ⟨rfl, D3.out⟩
    · obtain ⟨a2, cap2, rfl⟩ := ht.slice
      clear h ht
      go_wp2
      go_ret
      exact ⟨rfl, D3.out⟩
  · obtain ⟨hris, _⟩ := HR1.out T h
    have HRIS := Lib.hid hris
    have HT := Lib.hid ht.row
    have HTeq := Lib.hid h
    obtain ⟨a, cap, rfl, hat⟩ := ht.row
    have HAT := Lib.hid hat
    clear ht h hris hat
    go_wp2_with fail
    refine (HL2.out _ (HE.out.below (Nat.le_refl _) D2.out)).mono ?_
    rintro e w3 ⟨hb, h⟩
    have D3 := Lib.hid (D2.out.trans (hb.mono D2.out.size))
    have HT3 := Lib.hid (HT.out.kept hb)
    have HAT3 : Hid (∀ j (hj : j < T.length), ∃ b o0 va vn vc, a = some ⟨b, o0, none⟩ ∧ b < w3.heap.size ∧ ∀ q, q < 8 → w3.cell? ⟨b, o0 + j * 8 + q, none⟩ = (TkCells T[j].1 T[j].2 (.slice va vn vc))[q]?) := Lib.hid (fun j hj => by
      obtain ⟨b, o0, vs, e1, e2, ⟨out, _, va, vc, e3, _⟩, e4⟩ := HAT.out j hj
      subst e3
      exact ⟨b, o0, va, _, vc, e1, Nat.lt_of_lt_of_le e2 hb.size, fun q hq => (hb.cell (p := ⟨b, o0 + j * 8 + q, none⟩) e2).trans (e4 q hq)⟩)
    obtain ⟨N, hN⟩ : ∃ N, T.length = N := ⟨_, rfl⟩
    have HN := Lib.hid hN
    rw [hN] at hTl ⊢
    clear hb HT HAT hN
    have hv2 : ∃ a2 n2 cap2 o2 c2, e = .returned (.tuple #[.slice a2 n2 cap2, .int .i64 o2, .int .i64 c2]) := by
      rcases h with ⟨o2, c2, _, rfl⟩ | ⟨T2, v2, _, rfl, ht, _⟩
      · exact ⟨_, _, _, _, _, rfl⟩
      · obtain ⟨a2, cap2, rfl⟩ := ht.slice
        exact ⟨_, _, _, _, _, rfl⟩
    have HH := Lib.hid h
    clear h
    obtain ⟨a2, n2, cap2, o2, c2, rfl⟩ := hv2
    by_cases h0 : N = 0
    · subst h0
      go_wp2
      go_ret
      exact ⟨rfl, D3.out⟩
    obtain ⟨M, rfl⟩ : ∃ M, N = M + 1 := ⟨N - 1, by omega⟩
    obtain ⟨b, o0, va, vn, vc, rfl, hbs, hc⟩ := HAT3.out M (by rw [HN.out]; omega)
    obtain ⟨⟨pa, pt⟩, hp⟩ : ∃ p, T[M]'(by rw [HN.out]; omega) = p := ⟨_, rfl⟩
    rw [hp] at hc
    dsimp only at hc
    have q0 : w3.cell? ⟨b, o0 + M * 8, none⟩ = some (.int .i64 pt.kind) := hc 0 (by omega)
    have q1 : w3.cell? ⟨b, o0 + M * 8 + 1, none⟩ = some (.int .i64 pa) := hc 1 (by omega)
    have HP := Lib.hid hp
    clear hp hc
    have n0 : (((M + 1 : Nat) : Int) == 0) = false := by (simp; omega)
    have m1 : IntKind.i64.wrap (((M + 1 : Nat) : Int) - 1) = (M : Int) := by rw [IntKind.wrap_i64]; omega
    have m2 : (M : Int) < ((M + 1 : Nat) : Int) := by omega
    have m3 : IntKind.i64.wrap ((u.size : Int) - 1) = (u.size : Int) - 1 := by rw [IntKind.wrap_i64]; omega
    by_cases hk : pt.kind = 11
    · by_cases hpa : pa = (u.size : Int) - 1
      · have kb : (pt.kind != 11) = false := by simpa using hk
        have pb : (pa != (u.size : Int) - 1) = false := by simpa using hpa
        clear h0
        have hR3 : R3 = Lx.behind u.size T R2 := HJ.out T HTeq.out ⟨pt, by rw [List.getLast?_eq_getElem?, HN.out, show M + 1 - 1 = M by omega, List.getElem?_eq_getElem (by rw [HN.out]; omega), HP.out, hpa], hk⟩
        have HR3 := Lib.hid hR3
        clear hR3
        go_wp2_with fail
        refine (HL3.out _ (HE.out.below (Nat.le_refl _) D3.out)).mono ?_
        rintro e w4 ⟨hb, h⟩
        have D4 := Lib.hid (D3.out.trans (hb.mono D3.out.size))
        rcases HH.out with ⟨o, c, h2, he⟩ | ⟨T2, v2, h2, he, ht, hTl2⟩
        · injection he with he
          injection he with he
          simp only [Array.mk.injEq, List.cons.injEq, Value.slice.injEq, Value.int.injEq, and_true, true_and] at he
          obtain ⟨⟨rfl, rfl, rfl⟩, rfl, rfl⟩ := he
          obtain ⟨b1, b2, b3⟩ := HB2.out _ _ h2
          have h3 : R3 = .bad (o2 + u.size) c2 := by rw [HR3.out, h2]; rfl
          rcases h with ⟨o, c, h, rfl⟩ | ⟨T3, v3, h, _⟩
          · rw [h3] at h
            injection h with e1 e2
            subst e1
            subst e2
            have hc2 : (c2 != 0) = true := by simpa using b3
            have hw : IntKind.i64.wrap (o2 + (u.size : Int)) = o2 + (u.size : Int) := by rw [IntKind.wrap_i64]; omega
            clear h3 h2 hb b3
            go_wp2
            go_ret
            exact ⟨rfl, D4.out⟩
          · rw [h3] at h; cases h
        · injection he with he
          injection he with he
          simp only [Array.mk.injEq, List.cons.injEq, Value.int.injEq, and_true] at he
          obtain ⟨rfl, ⟨_, rfl⟩, _, rfl⟩ := he
          have h3 : R3 = .ok (T ++ shift u.size T2) := by rw [HR3.out, h2]; rfl
          rcases h with ⟨o, c, h, _⟩ | ⟨T3, v3, h, rfl, ht3, hTl3⟩
          · rw [h3] at h; cases h
          rw [h3] at h
          injection h with e1
          subst e1
          obtain ⟨hris2, _⟩ := HR2.out _ h2
          have hra := HT3.out.kept hb
          rw [HN.out] at hra
          have HRA := Lib.hid hra
          clear hra
          have HRB := Lib.hid (ht.row.kept hb)
          have hrc := ht3.row
          obtain ⟨g3, cap3, rfl, hcap, hcapm⟩ := ht3.capd (by rw [List.length_append, HN.out]; omega)
          have HRC := Lib.hid hrc
          have hn2 : n2 = T2.length := by
            obtain ⟨_, _, e2, _⟩ := ht.row
            injection e2
          obtain ⟨K, hK⟩ : ∃ K, (T ++ shift u.size T2).length = K := ⟨_, rfl⟩
          have hK2 : K = M + 1 + n2 := by rw [← hK, List.length_append, HN.out, Lx.shift_len, ← hn2]
          have HK := Lib.hid hK
          have HN2 := Lib.hid hn2
          have HRIS2 := Lib.hid hris2
          rw [hK] at hcap ⊢
          unfold maxLen at hcapm
          clear h3 h2 hb ht hrc hK hn2 hris2 ht3
          have hw1 : IntKind.i64.wrap (((M + 1 : Nat) : Int) + (n2 : Int)) = (K : Int) := by rw [IntKind.wrap_i64]; omega
          have hw2 : IntKind.i64.wrap ((M : Int) + 1 + (n2 : Int)) = (K : Int) := by rw [IntKind.wrap_i64]; omega
          have HP1 : Hid (∀ p ∈ T, 0 ≤ p.1 ∧ p.1 ≤ 1000000) := Lib.hid (fun p hp => by have := HRIS.out.all p hp; omega)
          have HP2 : Hid (∀ p ∈ T2, 0 ≤ p.1 ∧ p.1 ≤ 1000000) := Lib.hid (fun p hp => by have := HRIS2.out.all p hp; omega)
          have HF : Hid (TkRow w4 (.slice (some ⟨g3, 0, none⟩) (M + 1) cap3) (shift 0 T)) := Lib.hid (by
            have := TkRow.front (c2 := cap3) HRC.out
            rw [HN.out] at this
            rw [Lx.shift_zero]; exact this)
          have hTM : T.length ≤ 100000 := by rw [HN.out]; exact hTl
          have HTM := Lib.hid hTM
          clear hTM
          go_wp2_with fail
          refine (alike_any w4 _ _ T 0 HF.out HRA.out HTM.out ⟨by omega, by omega⟩ HP1.out).mono ?_
          rintro e w5 ⟨rfl, hb5⟩
          have HRC5 := Lib.hid (HRC.out.kept hb5)
          have HRB5 := Lib.hid (HRB.out.kept hb5)
          have D5 := Lib.hid (D4.out.trans (hb5.mono D4.out.size))
          clear hb5
          have HTL : Hid (∀ (a2 : Option Addr) (c2 : Nat), (0 < n2 → a2 = some ⟨g3, (M + 1) * 8, none⟩) → TkRow w5 (.slice a2 n2 c2) (shift u.size T2)) := Lib.hid (fun a2 c2 h => by
            have h7 := TkRow.tail (g := g3) (o := 0) (c2 := c2) HRC5.out (fun _ => rfl) (a2 := a2) (fun h0 => by
              rw [Lx.shift_len, ← HN2.out] at h0
              rw [h h0, HN.out, Nat.zero_add])
            rw [Lx.shift_len, ← HN2.out] at h7
            exact h7)
          have hT2l : T2.length ≤ 100000 := hTl2
          have HT2L := Lib.hid hT2l
          clear hT2l
          have hs1 : (M : Int) + 1 ≤ (M : Int) + 1 + (n2 : Int) := by omega
          have hs2 : ((M + 1 : Nat) : Int) ≤ ((M + 1 + n2 : Nat) : Int) := by omega
          go_wp2_with fail
          all_goals
            refine (alike_any w5 _ _ T2 u.size (HTL.out _ _ ?_) HRB5.out HT2L.out ⟨by omega, by omega⟩ HP2.out).mono ?_
            first | exact fun _ => rfl | (intro h0; omega)
            rintro e w6 ⟨rfl, hb6⟩
            have D6 := Lib.hid (D5.out.trans (hb6.mono D5.out.size))
            clear hb6
            go_wp2
            go_ret
            exact ⟨rfl, D6.out⟩
      · have kb : (pt.kind != 11) = false := by simpa using hk
        have pb : (pa != (u.size : Int) - 1) = true := by simpa using hpa
        clear h0
        go_wp2
        go_ret
        exact ⟨rfl, D3.out⟩
    · have kb : (pt.kind != 11) = true := by simpa using hk
      clear h0
      go_wp2
      go_ret
      exact ⟨rfl, D3.out⟩
end Go.Proofs.YtecclhmjmceheaaGreatDoor
