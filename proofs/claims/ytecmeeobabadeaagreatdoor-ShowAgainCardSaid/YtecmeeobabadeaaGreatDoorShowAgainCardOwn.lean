/- burinlaw10.ShowAgain, walked. -/
import Derived.Test.YtecmeeobabadeaaGreatDoorGp43
namespace Go.Proofs.YtecmeeobabadeaaGreatDoor
open Go.RowKit
set_option linter.unusedVariables false
theorem show_unique {n : Nd} {T U : ByteArray} {c d : Int} (h : ShowIs n T c) (k : ShowIs n U d) : T = U ∧ c = d := by
  rcases h with ⟨h1, h2, h3⟩ | ⟨h1, h2⟩
  · rcases k with ⟨k1, k2, k3⟩ | ⟨k1, k2⟩
    · exact ⟨by rw [h2, k2], by rw [h3, k3]⟩
    · exact absurd k1 h1
  · rcases k with ⟨k1, k2, k3⟩ | ⟨k1, k2⟩
    · exact absurd h1 k1
    · rcases h2 with ⟨a1, a2, a3⟩ | ⟨a1, a2, a3⟩
      · rcases k2 with ⟨b1, b2, b3⟩ | ⟨b1, b2, b3⟩
        · exact ⟨Br.nums_inj' (a2.trans b2.symm), by rw [a3, b3]⟩
        · omega
      · rcases k2 with ⟨b1, b2, b3⟩ | ⟨b1, b2, b3⟩
        · omega
        · exact ⟨by rw [a2, b2], by rw [a3, b3]⟩
theorem show_code {n : Nd} {T : ByteArray} {c : Int} (h : ShowIs n T c) (hk : Td.checkN n = 0) : c = 0 ∨ c = 2 := by
  rcases h with ⟨h1, _, _⟩ | ⟨_, h2⟩
  · exact absurd hk h1
  · rcases h2 with ⟨_, _, a3⟩ | ⟨_, _, a3⟩
    · exact .inl a3
    · exact .inr a3
set_option maxRecDepth 100000 in
set_option maxHeartbeats 8000000 in
theorem walkShowAgain (W : World) (s : ByteArray) (f : Int) (hs : s.size ≤ 140737488351232) (hfw : (Lit.int .i64 f).wf = true) (hE : Ev W) (hS : EvS W) : Calls Tryz.prog 5 #[.string s, .int .i64 f] W fun e w' => e = .returned (.bool true) ∧ Below W.heap.size W w' := by
  have HE := Lib.hid hE
  have HS := Lib.hid hS
  clear hE hS
  by_cases h3 : 200 < s.size
  · have h3i : (200 : Int) < (s.size : Int) := by omega
    go_enter Tryz.func5, Tryz.ntmps5
    go_wp2_with fail
    refine (works10_any _ HS.out).mono ?_
    rintro e w1 ⟨rfl, hb⟩
    have HB := Lib.hid hb
    clear hb
    go_wp2
    go_ret
    exact ⟨rfl, HB.out⟩
  have h3i : ¬ (200 : Int) < (s.size : Int) := by omega
  obtain ⟨X, a, c, hX⟩ : ∃ X a c, parseF s f = (X, a, c) := ⟨_, _, _, rfl⟩
  have hR := parse_right s f (by omega)
  have hno : X = none → c ≠ 0 := fun h => (hR.no a c (by rw [hX, h])).1
  have hyes : ∀ x, X = some x → c = 0 ∧ Td.checkN x = 0 ∧ (Td.all 1000 1 x).length ≤ 1000000 := fun x h => by
    obtain ⟨_, e2, _, _, _, e3, _, e4⟩ := hR.yes x a c (by rw [hX, h])
    exact ⟨e2, e3, e4⟩
  have HP := Lib.hid (fun w (hw : Ev w) => parse_any w s (by omega) f hw)
  rw [hX] at HP
  have HNO := Lib.hid hno
  have HYES := Lib.hid hyes
  clear hX hR hno hyes h3
  go_enter Tryz.func5, Tryz.ntmps5
  go_wp2_with fail
  refine (works10_any _ HS.out).mono ?_
  rintro e w1 ⟨rfl, hb⟩
  have HB := Lib.hid hb
  clear hb
  go_wp2_with fail
  refine (HP.out _ (HE.out.below (Nat.le_refl _) HB.out)).mono ?_
  rintro e w2 ⟨cs, rfl, hnd, hb2⟩
  have HB2 := Lib.hid (HB.out.trans (hb2.mono HB.out.size))
  have HND := Lib.hid hnd
  obtain ⟨u0, u1, u2, u3, u4, u5, u6, u7, sa, sc, aa, ac, rfl, F⟩ := hnd.form_of
  obtain ⟨rfl, rfl, rfl, rfl, rfl, rfl, rfl, rfl⟩ := F
  obtain ⟨x, hx⟩ : ∃ x, (X, a, c).1.getD (Ps.leafN 0 0) = x := ⟨_, rfl⟩
  rw [hx] at HND
  rw [hx]
  have HXX := Lib.hid hx
  obtain ⟨nb, hnb⟩ : ∃ nb, w2.heap.size = nb := ⟨_, rfl⟩
  obtain ⟨wn, hwn⟩ : ∃ wn, w2.alloc (.cells #[.int .i64 (Td.kind x), .slice sa (Td.set x).length sc, .int .i64 (Td.num x), .string (Td.name x), .int .i64 (Td.mn x), .int .i64 (Td.mx x), .bool (Td.lazy x), .slice aa (Td.subs x).length ac] 26) = wn := ⟨_, rfl⟩
  have hn2 : wn.heap[nb]? = some (.cells #[.int .i64 (Td.kind x), .slice sa (Td.set x).length sc, .int .i64 (Td.num x), .string (Td.name x), .int .i64 (Td.mn x), .int .i64 (Td.mx x), .bool (Td.lazy x), .slice aa (Td.subs x).length ac] 26 (0, 0)) := by rw [← hwn, ← hnb]; exact heap_alloc_new _ _
  have hbn : Below w2.heap.size w2 wn := by rw [← hwn]; exact (Below.refl _ _).alloc (Nat.le_refl _) _
  have HBN := Lib.hid (HB2.out.trans (hbn.mono HB2.out.size))
  have HNDN := Lib.hid (HND.out.kept hbn)
  have HN2 := Lib.hid hn2
  have HWN := Lib.hid hwn
  have HNB := Lib.hid hnb
  obtain ⟨d0, d1, d2, d3, d4, d5, d6, d7⟩ := box_cells hn2
  clear hnd hn2 hbn hwn hnb hx HND hb2
  cases X with
  | none =>
    have hc : (c != 0) = true := by simpa using HNO.out rfl
    have hcn : ¬ c = 0 := HNO.out rfl
    have hcb : (c == 0) = false := by rw [beq_eq_false_iff_ne]; exact hcn
    clear d0 d1 d2 d3 d4 d5 d6 d7
    go_wp2
    go_ret
    rw [HWN.out]
    exact ⟨rfl, HBN.out⟩
  | some x' =>
    obtain ⟨rfl, hck, hlen⟩ := HYES.out x' rfl
    obtain rfl : x' = x := HXX.out
    have HCK := Lib.hid hck
    have hdep : Td.dep 1001 x' ≤ 1000 := by
      unfold Td.checkN at hck
      split at hck
      · cases hck
      · omega
    have HSM := Lib.hid (Td.same_ok hdep)
    have HSH := Lib.hid (fun w (h : Below wn.heap.size wn w) => show_any w x' _ (HNDN.out.kept h) (HS.out.below (Nat.le_refl _) (HBN.out.trans (h.mono HBN.out.size))) hlen)
    have HLEN := Lib.hid hlen
    clear hck hdep hlen HYES HNO HP
    go_wp2_with fail
    rw [HWN.out, HNB.out]
    refine (HSH.out wn (Below.refl _ _)).mono ?_
    rintro e w3 ⟨T, t, rfl, hT, hb3⟩
    have hcode := show_code hT HCK.out
    have HB3 := Lib.hid (HBN.out.trans (hb3.mono HBN.out.size))
    have HBN3 := Lib.hid hb3
    have HT := Lib.hid hT
    clear hb3 hT d0 d1 d2 d3 d4 d5 d6 d7
    rcases hcode with rfl | rfl
    · obtain ⟨hp, hz, _⟩ := show_parse HT.out
      have HP2 := Lib.hid (parse_any w3 T hz 0 (HE.out.below (Nat.le_refl _) HB3.out))
      rw [hp] at HP2
      clear hp hz
      go_wp2_with fail
      refine HP2.out.mono ?_
      rintro e w4 ⟨ds, rfl, hnd4, hb4⟩
      have hnd4 : NdIs w4 x' ds := hnd4
      have HB4 := Lib.hid (HB3.out.trans (hb4.mono HB3.out.size))
      have HBN4 := Lib.hid (HBN3.out.trans (hb4.mono HBN3.out.size))
      have HND4 := Lib.hid hnd4
      obtain ⟨y0, y1, y2, y3, y4, y5, y6, y7, za, zc, ia, ic, rfl, F⟩ := hnd4.form_of
      obtain ⟨rfl, rfl, rfl, rfl, rfl, rfl, rfl, rfl⟩ := F
      obtain ⟨mb, hmb⟩ : ∃ mb, w4.heap.size = mb := ⟨_, rfl⟩
      obtain ⟨w5, hw5⟩ : ∃ w5, w4.alloc (.cells #[.int .i64 (Td.kind x'), .slice za (Td.set x').length zc, .int .i64 (Td.num x'), .string (Td.name x'), .int .i64 (Td.mn x'), .int .i64 (Td.mx x'), .bool (Td.lazy x'), .slice ia (Td.subs x').length ic] 26) = w5 := ⟨_, rfl⟩
      have hm5 : w5.heap[mb]? = some (.cells #[.int .i64 (Td.kind x'), .slice za (Td.set x').length zc, .int .i64 (Td.num x'), .string (Td.name x'), .int .i64 (Td.mn x'), .int .i64 (Td.mx x'), .bool (Td.lazy x'), .slice ia (Td.subs x').length ic] 26 (0, 0)) := by rw [← hw5, ← hmb]; exact heap_alloc_new _ _
      have hb5 : Below w4.heap.size w4 w5 := by rw [← hw5]; exact (Below.refl _ _).alloc (Nat.le_refl _) _
      have HB5 := Lib.hid (HB4.out.trans (hb5.mono HB4.out.size))
      have HBN5 := Lib.hid (HBN4.out.trans (hb5.mono HBN4.out.size))
      have HND5 := Lib.hid (HND4.out.kept hb5)
      have HM5 := Lib.hid hm5
      have HW5 := Lib.hid hw5
      have HMB := Lib.hid hmb
      have HSH5 := Lib.hid (show_any w5 x' _ HND5.out (HS.out.below (Nat.le_refl _) HB5.out) HLEN.out)
      clear hb4 hb5 hnd4 hm5 hw5 hmb
      go_wp2_with fail
      rw [HW5.out, HMB.out]
      refine HSH5.out.mono ?_
      rintro e w6 ⟨U, u, rfl, hU, hb6⟩
      obtain ⟨hu1, rfl⟩ := show_unique hU HT.out
      subst hu1
      have hbn6 := HBN5.out.trans (hb6.mono HBN5.out.size)
      have hx6 := (hbn6.block _ (Array.getElem?_eq_some_iff.1 HN2.out).1).trans HN2.out
      have hm6 := (hb6.block _ (Array.getElem?_eq_some_iff.1 HM5.out).1).trans HM5.out
      have HFN := Lib.hid (trSame_any w6 x' x' _ _ (HNDN.out.kept hbn6) (HND5.out.kept hb6))
      rw [HSM.out] at HFN
      have HB6 := Lib.hid (HB5.out.trans (hb6.mono HB5.out.size))
      obtain ⟨d0, d1, d2, d3, d4, d5, d6, d7⟩ := box_cells hx6
      obtain ⟨e0, e1, e2, e3, e4, e5, e6, e7⟩ := box_cells hm6
      have g1 := (Array.getElem?_eq_some_iff.1 hx6).1
      have g2 := (Array.getElem?_eq_some_iff.1 hm6).1
      clear hb6 hU hbn6 hx6 hm6
      go_wp2_with fail
      refine HFN.out.mono ?_
      rintro e w7 ⟨rfl, hb7⟩
      have HB7 := Lib.hid (HB6.out.trans (hb7.mono HB6.out.size))
      have huu : (U.toList == U.toList) = true := by simp
      clear hb7 d0 d1 d2 d3 d4 d5 d6 d7 e0 e1 e2 e3 e4 e5 e6 e7
      go_wp2
      go_ret
      exact ⟨rfl, HB7.out⟩
    · go_wp2
      go_ret
      exact ⟨rfl, HB3.out⟩
end Go.Proofs.YtecmeeobabadeaaGreatDoor
