/- The reference's bracket (burinref07): Number. · The reference's Make (burinref02) for operation 3: the list of the set made of two. · The contracts of the reference's All and Not (burinref02). · The reference's class (burinref04): list, and rows of written numbers. -/
import Derived.Test.YtmdpchiiamgnnaaGreatDoorGp23
import Derived.Test.YtmdpchiiamgnnaaGreatDoorGp4
import Derived.Test.YtmdpchiiamgnnaaGreatDoorGp8
import Derived.Test.YtmdpchiiamgnnaaGreatDoorGp2
import Derived.IntWalk
import Derived.Deep.RegionHeld3
import Derived.Deep.AppendLies
namespace Go.Proofs.YtmdpchiiamgnnaaGreatDoor
open Go.RowKit
set_option linter.unusedVariables false
set_option maxRecDepth 100000 in
set_option maxHeartbeats 4000000 in
theorem rNumber_any (W : World) (s : ByteArray) (hs : s.size ≤ 140737488351232) : Calls Tryz.prog 86 #[.string s] W fun e w' =>
    e = .returned (.tuple #[.int .i64 (Br.num (Utf.nums s)).1, .int .i64 (Br.num (Utf.nums s)).2.1, .int .i64 (Br.num (Utf.nums s)).2.2]) ∧ W = w' := by
  have hnum : Br.num (Utf.nums s) = (if (Utf.nums s)[0]?.getD 0 ≠ 92 then (0, 0, 3) else if s.size = 1 then (0, 0, 82) else if (Utf.nums s)[1]?.getD 0 ≠ 120 then Br.plain ((Utf.nums s)[1]?.getD 0) else if (Utf.nums s)[2]?.getD 0 = 123 then Br.braced (Utf.nums s) else Br.two (Utf.nums s)) := by
    unfold Br.num
    rw [Utf.nums_length]
  obtain ⟨R, hR⟩ : ∃ R, Br.num (Utf.nums s) = R := ⟨_, rfl⟩
  rw [hR] at hnum ⊢
  clear hR
  by_cases h0 : s.size = 0
  · have HE : Hid (R = (0, 0, 3)) := Lib.hid (by rw [hnum, if_pos (by rw [List.getElem?_eq_none (by rw [Utf.nums_length]; omega)]; decide)])
    clear hnum
    go_enter Tryz.func86, Tryz.ntmps86
    go_wp2
    go_ret3
    exact ⟨by rw [HE.out]; rfl, rfl⟩
  have hz0 : 0 < s.size := by omega
  have hz0i : (0 : Int) < (s.size : Int) := by omega
  have hz9 : ((s.size : Int) == 0) = false := by rw [beq_eq_false_iff_ne]; omega
  have hb0 : s[0].toNat < 256 := UInt8.toNat_lt _
  rw [Utf.nums_at s 0 hz0] at hnum
  by_cases c0 : ¬ (s[0].toNat : Int) = 92
  · have HE : Hid (R = (0, 0, 3)) := Lib.hid (by rw [hnum, if_pos c0])
    have h4 : ((s[0].toNat : Int) != 92) = true := by simpa using c0
    clear hnum c0 h0
    go_enter Tryz.func86, Tryz.ntmps86
    go_wp2
    go_ret3
    exact ⟨by rw [HE.out]; rfl, rfl⟩
  have h4 : ((s[0].toNat : Int) != 92) = false := by
    have e : (s[0].toNat : Int) = 92 := by omega
    rw [e]; rfl
  rw [if_neg (by omega)] at hnum
  by_cases c1 : s.size = 1
  · have HE : Hid (R = (0, 0, 82)) := Lib.hid (by rw [hnum, if_pos c1])
    have h1 : ((s.size : Int) == 1) = true := by simp [c1]
    clear hnum c0 c1 h0
    go_enter Tryz.func86, Tryz.ntmps86
    go_wp2
    go_ret3
    exact ⟨by rw [HE.out]; rfl, rfl⟩
  have h1 : ((s.size : Int) == 1) = false := by simp; omega
  have h2 : 1 < s.size := by omega
  have h2i : (1 : Int) < (s.size : Int) := by omega
  have hb : s[1].toNat < 256 := UInt8.toNat_lt _
  have hat : (Utf.nums s)[1]?.getD 0 = (s[1].toNat : Int) := Utf.nums_at s 1 h2
  rw [if_neg c1, hat] at hnum
  clear c0 c1 h0 hat
  by_cases c2 : (s[1].toNat : Int) = 120
  · rw [if_neg (by omega)] at hnum
    have h120 : ((s[1].toNat : Int) == 120) = true := by simp [c2]
    have n97 : ((s[1].toNat : Int) == 97) = false := by simp; omega
    have n102 : ((s[1].toNat : Int) == 102) = false := by simp; omega
    have n116 : ((s[1].toNat : Int) == 116) = false := by simp; omega
    have n110 : ((s[1].toNat : Int) == 110) = false := by simp; omega
    have n114 : ((s[1].toNat : Int) == 114) = false := by simp; omega
    have n118 : ((s[1].toNat : Int) == 118) = false := by simp; omega
    clear c2
    by_cases c3 : (Utf.nums s)[2]?.getD 0 = 123
    · rw [if_pos c3] at hnum
      have h5 : 3 ≤ s.size := by
        rcases Nat.lt_or_ge 2 s.size with h | h
        · exact h
        · rw [List.getElem?_eq_none (by rw [Utf.nums_length]; omega)] at c3; cases c3
      have HX := Lib.hid (rHex_brace W s hs h5 c3)
      rw [← hnum] at HX
      clear hnum c3 h5
      go_enter Tryz.func86, Tryz.ntmps86
      go_wp2_with fail
      refine HX.out.mono ?_
      rintro e w' ⟨rfl, rfl⟩
      go_wp2
      go_ret3
      exact ⟨rfl, rfl⟩
    · rw [if_neg c3] at hnum
      have HX := Lib.hid (rHex_two W s hs (by omega) c3)
      rw [← hnum] at HX
      clear hnum c3
      go_enter Tryz.func86, Tryz.ntmps86
      go_wp2_with fail
      refine HX.out.mono ?_
      rintro e w' ⟨rfl, rfl⟩
      go_wp2
      go_ret3
      exact ⟨rfl, rfl⟩
  rw [if_pos c2] at hnum
  have n120 : ((s[1].toNat : Int) == 120) = false := by simpa using c2
  clear c2
  by_cases e97 : (s[1].toNat : Int) = 97
  · have HE : Hid (R = (7, 2, 0)) := Lib.hid (by rw [hnum, e97]; decide)
    have h97 : ((s[1].toNat : Int) == 97) = true := by simp [e97]
    have m102 : ((s[1].toNat : Int) == 102) = false := by simp; omega
    have m116 : ((s[1].toNat : Int) == 116) = false := by simp; omega
    have m110 : ((s[1].toNat : Int) == 110) = false := by simp; omega
    have m114 : ((s[1].toNat : Int) == 114) = false := by simp; omega
    have m118 : ((s[1].toNat : Int) == 118) = false := by simp; omega
    clear hnum e97  
    go_enter Tryz.func86, Tryz.ntmps86
    go_wp2
    go_ret3
    exact ⟨by rw [HE.out]; rfl, rfl⟩
  have n97 : ((s[1].toNat : Int) == 97) = false := by simpa using e97
  by_cases e102 : (s[1].toNat : Int) = 102
  · have HE : Hid (R = (12, 2, 0)) := Lib.hid (by rw [hnum, e102]; decide)
    have h102 : ((s[1].toNat : Int) == 102) = true := by simp [e102]
    have m97 : ((s[1].toNat : Int) == 97) = false := by simp; omega
    have m116 : ((s[1].toNat : Int) == 116) = false := by simp; omega
    have m110 : ((s[1].toNat : Int) == 110) = false := by simp; omega
    have m114 : ((s[1].toNat : Int) == 114) = false := by simp; omega
    have m118 : ((s[1].toNat : Int) == 118) = false := by simp; omega
    clear hnum e102 e97 n97
    go_enter Tryz.func86, Tryz.ntmps86
    go_wp2
    go_ret3
    exact ⟨by rw [HE.out]; rfl, rfl⟩
  have n102 : ((s[1].toNat : Int) == 102) = false := by simpa using e102
  by_cases e116 : (s[1].toNat : Int) = 116
  · have HE : Hid (R = (9, 2, 0)) := Lib.hid (by rw [hnum, e116]; decide)
    have h116 : ((s[1].toNat : Int) == 116) = true := by simp [e116]
    have m97 : ((s[1].toNat : Int) == 97) = false := by simp; omega
    have m102 : ((s[1].toNat : Int) == 102) = false := by simp; omega
    have m110 : ((s[1].toNat : Int) == 110) = false := by simp; omega
    have m114 : ((s[1].toNat : Int) == 114) = false := by simp; omega
    have m118 : ((s[1].toNat : Int) == 118) = false := by simp; omega
    clear hnum e116 e97 e102 n97 n102
    go_enter Tryz.func86, Tryz.ntmps86
    go_wp2
    go_ret3
    exact ⟨by rw [HE.out]; rfl, rfl⟩
  have n116 : ((s[1].toNat : Int) == 116) = false := by simpa using e116
  by_cases e110 : (s[1].toNat : Int) = 110
  · have HE : Hid (R = (10, 2, 0)) := Lib.hid (by rw [hnum, e110]; decide)
    have h110 : ((s[1].toNat : Int) == 110) = true := by simp [e110]
    have m97 : ((s[1].toNat : Int) == 97) = false := by simp; omega
    have m102 : ((s[1].toNat : Int) == 102) = false := by simp; omega
    have m116 : ((s[1].toNat : Int) == 116) = false := by simp; omega
    have m114 : ((s[1].toNat : Int) == 114) = false := by simp; omega
    have m118 : ((s[1].toNat : Int) == 118) = false := by simp; omega
    clear hnum e110 e97 e102 e116 n97 n102 n116
    go_enter Tryz.func86, Tryz.ntmps86
    go_wp2
    go_ret3
    exact ⟨by rw [HE.out]; rfl, rfl⟩
  have n110 : ((s[1].toNat : Int) == 110) = false := by simpa using e110
  by_cases e114 : (s[1].toNat : Int) = 114
  · have HE : Hid (R = (13, 2, 0)) := Lib.hid (by rw [hnum, e114]; decide)
    have h114 : ((s[1].toNat : Int) == 114) = true := by simp [e114]
    have m97 : ((s[1].toNat : Int) == 97) = false := by simp; omega
    have m102 : ((s[1].toNat : Int) == 102) = false := by simp; omega
    have m116 : ((s[1].toNat : Int) == 116) = false := by simp; omega
    have m110 : ((s[1].toNat : Int) == 110) = false := by simp; omega
    have m118 : ((s[1].toNat : Int) == 118) = false := by simp; omega
    clear hnum e114 e97 e102 e116 e110 n97 n102 n116 n110
    go_enter Tryz.func86, Tryz.ntmps86
    go_wp2
    go_ret3
    exact ⟨by rw [HE.out]; rfl, rfl⟩
  have n114 : ((s[1].toNat : Int) == 114) = false := by simpa using e114
  by_cases e118 : (s[1].toNat : Int) = 118
  · have HE : Hid (R = (11, 2, 0)) := Lib.hid (by rw [hnum, e118]; decide)
    have h118 : ((s[1].toNat : Int) == 118) = true := by simp [e118]
    have m97 : ((s[1].toNat : Int) == 97) = false := by simp; omega
    have m102 : ((s[1].toNat : Int) == 102) = false := by simp; omega
    have m116 : ((s[1].toNat : Int) == 116) = false := by simp; omega
    have m110 : ((s[1].toNat : Int) == 110) = false := by simp; omega
    have m114 : ((s[1].toNat : Int) == 114) = false := by simp; omega
    clear hnum e118 e97 e102 e116 e110 e114 n97 n102 n116 n110 n114
    go_enter Tryz.func86, Tryz.ntmps86
    go_wp2
    go_ret3
    exact ⟨by rw [HE.out]; rfl, rfl⟩
  have n118 : ((s[1].toNat : Int) == 118) = false := by simpa using e118
  have hpl : R = if Br.signB (s[1].toNat : Int) = true then ((s[1].toNat : Int), 2, 0) else (0, 0, 80) := by
    rw [hnum]
    unfold Br.plain
    rw [if_neg e97, if_neg e116, if_neg e110, if_neg e118, if_neg e102, if_neg e114]
  clear hnum e97 e102 e116 e110 e114 e118
  by_cases a : (s[1].toNat : Int) < 33
  · have HE : Hid (R = (0, 0, 80)) := Lib.hid (by rw [hpl, bSign_no (.inl (by omega)), if_neg (by decide)])
    clear hpl
    go_enter Tryz.func86, Tryz.ntmps86
    go_wp2
    go_ret3
    exact ⟨by rw [HE.out]; rfl, rfl⟩
  by_cases b : 126 < (s[1].toNat : Int)
  · have HE : Hid (R = (0, 0, 80)) := Lib.hid (by rw [hpl, bSign_no (.inl (by omega)), if_neg (by decide)])
    clear hpl
    go_enter Tryz.func86, Tryz.ntmps86
    go_wp2
    go_ret3
    exact ⟨by rw [HE.out]; rfl, rfl⟩
  have HL := Lib.hid (rLetter_any W (s[1].toNat : Int) (by omega) (by omega))
  cases hl : Br.letB (s[1].toNat : Int) with
  | true =>
    have HE : Hid (R = (0, 0, 80)) := Lib.hid (by rw [hpl, bSign_no (.inr (.inl hl)), if_neg (by decide)])
    rw [hl] at HL
    clear hpl hl
    go_enter Tryz.func86, Tryz.ntmps86
    go_wp2_with fail
    refine HL.out.mono ?_
    rintro e w' ⟨rfl, rfl⟩
    go_wp2
    go_ret3
    exact ⟨by rw [HE.out]; rfl, rfl⟩
  | false =>
    rw [hl] at HL
    by_cases d : 48 ≤ (s[1].toNat : Int)
    · by_cases f : (s[1].toNat : Int) ≤ 57
      · have HE : Hid (R = (0, 0, 80)) := Lib.hid (by rw [hpl, bSign_no (.inr (.inr ⟨d, f⟩)), if_neg (by decide)])
        clear hpl hl
        go_enter Tryz.func86, Tryz.ntmps86
        go_wp2_with fail
        refine HL.out.mono ?_
        rintro e w' ⟨rfl, rfl⟩
        go_wp2
        go_ret3
        exact ⟨by rw [HE.out]; rfl, rfl⟩
      · have HE : Hid (R = ((s[1].toNat : Int), 2, 0)) := Lib.hid (by rw [hpl, bSign_yes (by omega) (by omega) hl (by omega), if_pos rfl])
        clear hpl hl
        go_enter Tryz.func86, Tryz.ntmps86
        go_wp2_with fail
        refine HL.out.mono ?_
        rintro e w' ⟨rfl, rfl⟩
        go_wp2
        go_ret3
        exact ⟨by rw [HE.out]; rfl, rfl⟩
    · have HE : Hid (R = ((s[1].toNat : Int), 2, 0)) := Lib.hid (by rw [hpl, bSign_yes (by omega) (by omega) hl (by omega), if_pos rfl])
      clear hpl hl
      go_enter Tryz.func86, Tryz.ntmps86
      go_wp2_with fail
      refine HL.out.mono ?_
      rintro e w' ⟨rfl, rfl⟩
      go_wp2
      go_ret3
      exact ⟨by rw [HE.out]; rfl, rfl⟩
end Go.Proofs.YtmdpchiiamgnnaaGreatDoor
namespace Go.Proofs.YtmdpchiiamgnnaaGreatDoor
open Go.RowKit
set_option linter.unusedVariables false
set_option maxRecDepth 100000 in
set_option maxHeartbeats 8000000 in
theorem refMake3 (W : World) (va vb : Value) (a b : List (Int × Int)) (ha : RRow W va a) (hb : RRow W vb b) :
    Calls Tryz.prog 50 #[.int .i64 3, va, vb] W (MakePost 3 a b W) := by
  obtain ⟨i0, hi, hz0, hz1, hz2⟩ := info_parts Tryz.infoRange
  have HA := Lib.hid ha
  have HB := Lib.hid hb
  clear ha hb
  go_enter Tryz.func50, Tryz.ntmps50
  go_wp2
  go_loopw [7, 8, 9, 10, 11, 12, 13] (fun V A r1 r2 r3 r4 r5 wr => ∃ (t : Int) (out : List (Int × Int)), 0 ≤ t ∧ t ≤ 1114112 ∧ A = .int .i64 t ∧ (out.length : Int) ≤ t ∧ Hid (Rg.MInv (fun q => Rg.opB 3 (Rg.hasB a q) (Rg.hasB b q)) t out) ∧ RgOwn wr W.heap.size V out ∧ Below W.heap.size W wr) (fun _ A _ _ _ _ _ _ => (1114112 - intOf A).toNat)
  case atStart => exact ⟨0, [], by omega, by omega, rfl, by simp, Lib.hid (Rg.MInv.start _), RgOwn.nil, Below.refl _ _⟩
  case round =>
    obtain ⟨t, out, ht0, ht1, rfl, hlen, HM, hO, hBl⟩ := hrel
    by_cases hlt : t ≤ 1114111
    · have HOwn := Lib.hid hO
      have HAw := Lib.hid (HA.out.below (Nat.le_refl _) hBl)
      have HBw := Lib.hid (HB.out.below (Nat.le_refl _) hBl)
      have hsz := hBl.size
      have he1 := Rg.edgeN_bd a t hlt
      have he2 := Rg.edgeN_bd b t hlt
      have hca := fun q => Rg.has_const a t q ht0
      have hcb := fun q => Rg.has_const b t q ht0
      obtain ⟨E1, hE1⟩ : ∃ E, Rg.edgeN a t = E := ⟨_, rfl⟩
      obtain ⟨E2, hE2⟩ : ∃ E, Rg.edgeN b t = E := ⟨_, rfl⟩
      obtain ⟨X, hX⟩ : ∃ X, Rg.hasB a t = X := ⟨_, rfl⟩
      obtain ⟨Y, hY⟩ : ∃ Y, Rg.hasB b t = Y := ⟨_, rfl⟩
      rw [hE1, hX] at hca
      rw [hE2, hY] at hcb
      rw [hE1] at he1
      rw [hE2] at he2
      have HC : Hid (∀ q, t ≤ q → q < E1 → q < E2 → (fun q => Rg.opB 3 (Rg.hasB a q) (Rg.hasB b q)) q = Rg.opB 3 X Y) := Lib.hid (fun q h1 h2 h3 => by show Rg.opB 3 (Rg.hasB a q) (Rg.hasB b q) = _; rw [hca q h1 h2 (by omega), hcb q h1 h3 (by omega)])
      have HF : Hid ((fun q => Rg.opB 3 (Rg.hasB a q) (Rg.hasB b q)) t = Rg.opB 3 X Y) := Lib.hid (HC.out t (Int.le_refl _) (by omega) (by omega))
      have HE1 := Lib.hid hE1
      have HE2 := Lib.hid hE2
      have HX := Lib.hid hX
      have HY := Lib.hid hY
      have HBl := Lib.hid hBl
      clear hO hca hcb hE1 hE2 hX hY hBl
      obtain ⟨N, hN1, hN2, hN3, hNE⟩ : ∃ N, N ≤ E1 ∧ N ≤ E2 ∧ t < N ∧ ((E2 < E1 ∧ N = E2) ∨ (¬ E2 < E1 ∧ N = E1)) := by
        by_cases h : E2 < E1
        · exact ⟨E2, by omega, by omega, by omega, .inl ⟨h, rfl⟩⟩
        · exact ⟨E1, by omega, by omega, by omega, .inr ⟨h, rfl⟩⟩
      rcases hNE with ⟨hEE, rfl⟩ | ⟨hEE, rfl⟩
      all_goals
        go_wp2_with fail
        refine (refEdge_at HAw.out ht0 hlt HE1.out).mono ?_
        rintro e w' ⟨rfl, rfl⟩
        go_wp2_with fail
        refine (refEdge_at HBw.out ht0 hlt HE2.out).mono ?_
        rintro e w' ⟨rfl, rfl⟩
        go_wp2_with fail
        refine (refHas_at HAw.out HX.out).mono ?_
        rintro e w' ⟨rfl, rfl⟩
        go_wp2_with fail
        refine (refHas_at HBw.out HY.out).mono ?_
        rintro e w' ⟨rfl, rfl⟩
        cases X <;> cases Y
        all_goals
          first
          | (have hf := HF.out.trans (show _ = false by decide)
             have HM' := Lib.hid (HM.out.skip hN3 (fun q h1 h2 => (HC.out q h1 (by omega) (by omega)).trans HF.out.symm) hf)
             clear hf
             go_wp2
             go_roundw
             case rel => exact ⟨_, out, by omega, by omega, rfl, by omega, HM', HOwn.out, HBl.out⟩
             case measure => simp [intOf]; omega)
          | (have hf := HF.out.trans (show _ = true by decide)
             have HK := Lib.hid (fun q (h1 : t ≤ q) (h2 : q < N) => (HC.out q h1 (by omega) (by omega)).trans HF.out.symm)
             have HT := Lib.hid hf
             clear hf
             rcases nil_or_snoc out with rfl | ⟨ini, p, rfl⟩
             · obtain ⟨a', cap', rfl⟩ := HOwn.out.empty
               have HM' := Lib.hid (HM.out.add ht0 hN3 (by omega) HK.out HT.out (fun p hp => by cases hp))
               have hown := HOwn.out
               unfold RgOwn at hown
               go_wp2_with (at_builtin; (refine wpList_append_lies _ (by rfl) _ _ 23 (by rfl) W.heap.size 47 i0 (.agg #[.int .i64 0, .int .i64 0]) 2 16 Tryz.underlying23 hi hz0 hz1 hz2 rfl (by decide) _ 0 [] (by rfl) (hown.alloc _) ⟨wr.heap.size, 0, none⟩ 1 1 [.int .i64 t, .int .i64 (N - 1)] (by rfl) rfl (World.news_of_block (cs := #[.int .i64 t, .int .i64 (N - 1)]) (heap_alloc_new wr _)) (by simp [Value.oneCell']) (by omega) (by unfold maxLen; omega) (by omega) (by simp; omega) (wr.heap.size + 1) (by simp) ?_))
               intro g1 cap1 w1 hown' hgrow _ _
               have hO2 : RgOwn w1 W.heap.size (.slice (some ⟨g1, 0, none⟩) (0 + 1) cap1) ([] ++ [(t, N - 1)]) := by unfold RgOwn; rw [List.length_append, flat2_snoc]; exact hown'
               have hB2 := (HBl.out.alloc hsz _).grown hgrow (by simp; omega) (fun q hq => (hown.lt q hq).1)
               have HO2 := Lib.hid hO2
               clear hO2 hown' hgrow hown
               go_wp2
               go_roundw
               case rel => exact ⟨_, _, by omega, by omega, rfl, by simp; omega, HM', HO2.out, hB2⟩
               case measure => simp [intOf]; omega
             · obtain ⟨g, cap', rfl, hgb, hgs⟩ := HOwn.out.form
               have hnn := Rg.norm_unsnoc ini 0 p HM.out.norm
               obtain ⟨_, _, hp1, hp2, hp3⟩ := hnn
               have hcell := HOwn.out.hi
               obtain ⟨hc1, hc2⟩ := hcell
               obtain ⟨m, hm⟩ : ∃ m, ini.length = m := ⟨_, rfl⟩
               have hlen' : (m : Int) + 1 ≤ t := by rw [List.length_append] at hlen; simp at hlen; omega
               rw [hm] at hc1 hc2
               have HMM := Lib.hid hm
               by_cases hpt : p.2 + 1 = t
               · have HM' := Lib.hid (HM.out.join ht0 hN3 (by omega) HK.out HT.out hpt)
                 have hO2 := HOwn.out.setHi (N - 1)
                 rw [hm] at hO2
                 have HO2 := Lib.hid hO2
                 have hbq : (p.2 + 1 == t) = true := by rw [hpt]; simp
                 have HPT := Lib.hid hpt
                 clear hO2 hpt hlen
                 rw [hm]
                 clear hm
                 go_wp2
                 go_roundw
                 case rel => exact ⟨_, _, by omega, by omega, rfl, by rw [List.length_append, HMM.out]; simp; omega, HM', HO2.out, HBl.out.setCell (p := ⟨g, m * 2 + 1, none⟩) hgb _⟩
                 case measure => simp [intOf]; omega
               · have HM' := Lib.hid (HM.out.add ht0 hN3 (by omega) HK.out HT.out (HM.out.last hpt))
                 have hbq : (p.2 + 1 == t) = false := by rw [beq_eq_false_iff_ne]; exact hpt
                 have hown := HOwn.out
                 unfold RgOwn at hown
                 rw [List.length_append, hm] at hown
                 clear hpt hlen
                 rw [hm]
                 clear hm
                 go_wp2_with (at_builtin; (refine wpList_append_lies _ (by rfl) _ _ 23 (by rfl) W.heap.size 47 i0 (.agg #[.int .i64 0, .int .i64 0]) 2 16 Tryz.underlying23 hi hz0 hz1 hz2 rfl (by decide) _ (m + 1) (flat2 (ini ++ [p])) (by rfl) (hown.alloc _) ⟨wr.heap.size, 0, none⟩ 1 1 [.int .i64 t, .int .i64 (N - 1)] (by rfl) rfl (World.news_of_block (cs := #[.int .i64 t, .int .i64 (N - 1)]) (heap_alloc_new wr _)) (by simp [Value.oneCell']) (by omega) (by unfold maxLen; omega) (by omega) (by simp; omega) (wr.heap.size + 1) (by simp) ?_))
                 intro g1 cap1 w1 hown' hgrow _ _
                 have hO2 : RgOwn w1 W.heap.size (.slice (some ⟨g1, 0, none⟩) (m + 1 + 1) cap1) ((ini ++ [p]) ++ [(t, N - 1)]) := by unfold RgOwn; rw [List.length_append, List.length_append, flat2_snoc, HMM.out]; simpa [flat2] using hown'
                 have hB2 := (HBl.out.alloc hsz _).grown hgrow (by simp; omega) (fun q hq => (hown.lt q hq).1)
                 have HO2 := Lib.hid hO2
                 clear hO2 hown' hgrow hown
                 go_wp2
                 go_roundw
                 case rel => exact ⟨_, _, by omega, by omega, rfl, by rw [List.length_append, List.length_append, HMM.out]; simp; omega, HM', HO2.out, hB2⟩
                 case measure => simp [intOf]; omega)
    · have HMd := Lib.hid (Rg.made_of HM.out (by omega))
      have HOwn := Lib.hid hO
      clear hO
      go_wp2
      go_ret
      exact ⟨_, out, rfl, HMd.out, HOwn.out, hBl⟩
end Go.Proofs.YtmdpchiiamgnnaaGreatDoor
namespace Go.Proofs.YtmdpchiiamgnnaaGreatDoor
open Go.RowKit
set_option linter.unusedVariables false
set_option maxRecDepth 100000 in
set_option maxHeartbeats 2000000 in
theorem refAll (W : World) :
    Calls Tryz.prog 54 #[] W fun e w' => ∃ v, e = .returned v ∧ RgOwn w' W.heap.size v [(0, 1114111)] ∧ Below W.heap.size W w' := by
  go_enter Tryz.func54, Tryz.ntmps54
  go_wp2
  go_ret
  refine ⟨_, rfl, ⟨rfl, Or.inr ⟨W.heap.size, 1, _, rfl, Nat.le_refl _, World.alloc_heap_new _ _, by decide, by decide, rfl, rfl⟩⟩, (Below.refl _ _).alloc (Nat.le_refl _) _⟩
set_option maxRecDepth 100000 in
set_option maxHeartbeats 2000000 in
theorem refNot (W : World) (va : Value) (a : List (Int × Int)) (ha : RRow W va a) :
    Calls Tryz.prog 30 #[va] W (MakePost 3 [(0, 1114111)] a W) := by
  have HA := Lib.hid ha
  clear ha
  go_enter Tryz.func30, Tryz.ntmps30
  go_wp2_with fail
  refine (refAll _).mono ?_
  rintro e wa ⟨va', rfl, hoa, hba⟩
  have HRA := Lib.hid (hoa.row (by decide) (by intro p hp; simp at hp; subst hp; decide))
  have HA' := Lib.hid (HA.out.below (Nat.le_refl _) hba)
  have HB := Lib.hid hba
  clear hoa hba HA
  go_wp2_with fail
  refine (refMake3 _ _ _ [(0, 1114111)] a HRA.out HA'.out).mono ?_
  rintro e wb ⟨v, out, rfl, hm, ho, hb⟩
  go_wp2
  go_ret
  exact ⟨v, out, rfl, hm, ⟨ho.1, ho.2.imp id (fun ⟨g, cap, cur, h1, h2, h3⟩ => ⟨g, cap, cur, h1, Nat.le_trans HB.out.size h2, h3⟩)⟩, HB.out.trans (hb.mono HB.out.size)⟩
end Go.Proofs.YtmdpchiiamgnnaaGreatDoor
namespace Go.Proofs.YtmdpchiiamgnnaaGreatDoor
open Go.RowKit
set_option linter.unusedVariables false
/-- A block of written numbers reads as their list. -/
theorem irow_lits (W : World) (T : List Int) (n : Nat) (cs : Array Value) (t : TypeId) (hT : T.length = n) (hc : cs = (T.map (Value.int .i64)).toArray) (hn : n ≤ 1000) : IRow (W.alloc (.cells cs t)) (.slice (some ⟨W.heap.size, 0, none⟩) n n) T := by
  subst hc; subst hT
  refine ⟨_, T.length, rfl, Nat.le_refl _, by omega, fun j hj => ⟨W.heap.size, rfl, by simp, ?_⟩⟩
  simp [hj]
set_option maxRecDepth 100000 in
set_option maxHeartbeats 4000000 in
theorem list_any (W : World) (v : Value) (T : List Int) (h : IRow W v T) (hT : ∀ t ∈ T, 0 ≤ t ∧ t ≤ 1114112) (hl : T.length ≤ 1000) :
    Calls Tryz.prog 82 #[v] W fun e w' => ∃ v' out, e = .returned v' ∧ Rg.Made 1 (Cl.pairsOf T) [] out ∧ RgOwn w' W.heap.size v' out ∧ Below W.heap.size W w' := by
  have mixed : Tryz.prog.follows .mixedOrders = true := by kernel_rfl
  obtain ⟨i0, hi, hz0, hz1, hz2⟩ := info_parts Tryz.infoRange
  obtain ⟨a, cap, rfl, hnc, hcm, hc⟩ := h
  have HC := Lib.hid hc
  have HTT := Lib.hid hT
  obtain ⟨n, hn⟩ : ∃ n, T.length = n := ⟨_, rfl⟩
  have HN := Lib.hid hn
  rw [hn] at hl HC hnc ⊢
  obtain ⟨h2, hh⟩ : ∃ h2, n = h2 * 2 ∨ n = h2 * 2 + 1 := ⟨n / 2, by omega⟩
  clear hc hn hT
  go_enter Tryz.func82, Tryz.ntmps82
  go_wp2
  go_loopw [3, 4] (fun V i wr => ∃ k : Nat, k ≤ h2 ∧ i = .int .i64 ((k * 2 : Nat) : Int) ∧ Hid (RgOwn wr W.heap.size V (Cl.pairsOf (T.take (k * 2)))) ∧ Hid (Below W.heap.size W wr)) (fun _ i _ => n + 2 - (intOf i).toNat)
  case atStart => exact ⟨0, Nat.zero_le _, rfl, Lib.hid RgOwn.nil, Lib.hid (Below.refl _ _)⟩
  case round =>
    obtain ⟨k, hk, rfl, HO, HB⟩ := hrel
    by_cases hlt : k < h2
    · obtain ⟨g, rfl, hg, hc1⟩ := HC.out (k * 2) (by omega)
      obtain ⟨g', hgg, _, hc2⟩ := HC.out (k * 2 + 1) (by omega)
      injection hgg with hgg; injection hgg with hgg; subst hgg
      rw [← HB.out.cell (p := ⟨g, k * 2, none⟩) hg] at hc1
      rw [← HB.out.cell (p := ⟨g, k * 2 + 1, none⟩) hg] at hc2
      have hsz := HB.out.size
      have hts := Cl.pairsOf_take T k (by rw [HN.out]; omega)
      have hml : (Cl.pairsOf (T.take (k * 2))).length = k := by
        rw [Cl.pairsOf_len, List.length_take, HN.out]; omega
      obtain ⟨x, ex⟩ : ∃ x, T[k * 2]?.getD 0 = x := ⟨_, rfl⟩
      obtain ⟨y, ey⟩ : ∃ y, T[k * 2 + 1]?.getD 0 = y := ⟨_, rfl⟩
      rw [ex] at hc1 hts
      rw [ey] at hc2 hts
      have HT := Lib.hid hts
      have hown := HO.out
      unfold RgOwn at hown
      rw [hml] at hown
      have HML := Lib.hid hml
      have hgs : g < wr.heap.size := by omega
      clear ex ey hts hml
      have b1 : (0 : Int) ≤ (k : Int) * 2 := by omega
      have b2 : (k : Int) * 2 < (n : Int) := by omega
      have b3 : (0 : Int) ≤ (k : Int) * 2 + 1 := by omega
      have b4 : (k : Int) * 2 + 1 < (n : Int) := by omega
      have b5 : k * 2 < n := by omega
      have b6 : k * 2 + 1 < n := by omega
      have hag : u3.ownBlock ≠ some g := fun e => by have := (hown.lt g e).1; omega
      have HAG := Lib.hid hag
      clear hag hh
      go_wp2
      have w1 : IntKind.i64.wrap ((k : Int) * 2 + 1) = (k : Int) * 2 + 1 := IntWalk.i64_in _ (by omega)
      have w3 : ((k : Int) * 2).toNat = k * 2 := by omega
      have w4 : ((k : Int) * 2 + 1).toNat = k * 2 + 1 := by omega
      go_region_held3 (fun w' => w'.cell? ⟨g, k * 2, none⟩ = some (.int .i64 x) ∧ w'.cell? ⟨g, k * 2 + 1, none⟩ = some (.int .i64 y))
        (first
          | go_keep
          | (go_split_ands
             refine ⟨?_, ?_⟩
             · (rw [hgrow.cell_far _ (by simp; omega) (Ne.symm HAG.out)]; assumption)
             · (rw [hgrow.cell_far _ (by simp; omega) (Ne.symm HAG.out)]; assumption)))
        ((refine step_append_lies _ (by rfl) _ _ 23 (by rfl) W.heap.size 47 i0 (.agg #[.int .i64 0, .int .i64 0]) 2 16 Tryz.underlying23 hi hz0 hz1 hz2 rfl (by omega) _ k (flat2 (Cl.pairsOf (T.take (k * 2)))) (by rfl) ((hown.alloc _).drew)
            ⟨wr.heap.size, 0, none⟩ 1 1 [.int .i64 x, .int .i64 y] (by rfl) (by rfl) (World.news_of_block (cs := #[.int .i64 x, .int .i64 y]) (t := 47) (fr := (0, 0)) (heap_alloc_new wr _)) (by simp [Value.oneCell'])
            (by omega) (by unfold maxLen; omega) (by omega) (by simp; omega) (wr.heap.size + 1) (by simp) ?_; intro gg cap1 wz hown1 hgrow hat hlt1))
      have hO2 : RgOwn wz W.heap.size (.slice (some ⟨gg, 0, none⟩) (k + 1) cap1) (Cl.pairsOf (T.take (k * 2 + 2))) := by
        rw [HT.out]; unfold RgOwn; rw [List.length_append, flat2_snoc, HML.out]; exact hown1
      have hB2 := (below_drewN (HB.out.alloc hsz _) 1).grown hgrow (by simp; omega) (fun q hq => (hown.lt q hq).1)
      have HO2 := Lib.hid hO2
      have HB2 := Lib.hid hB2
      clear hO2 hown1 hgrow hown hB2 hat hlt1 w1 w3 w4
      go_wp2
      go_roundw
      case rel => exact ⟨k + 1, by omega, by go_num, by rw [show (k + 1) * 2 = k * 2 + 2 by omega]; exact HO2, HB2⟩
      case measure => simp [intOf]; omega
    · obtain rfl : k = h2 := by omega
      have hO := HO.out
      rw [Cl.pairsOf_all T k (by rw [HN.out]; exact hh)] at hO
      have hpl := Cl.pairsOf_len T
      rw [HN.out] at hpl
      have HR := Lib.hid (hO.row (by omega) (fun p hp => by
        have hm := Cl.pairsOf_mem T p hp
        have h1 := HTT.out _ hm.1
        have h2 := HTT.out _ hm.2
        omega))
      have c1 : ¬ (k : Int) * 2 + 1 < (n : Int) := by omega
      have c2 : k ≤ 500 := by omega
      clear hO hh
      go_wp2_with fail
      refine (refNorm _ _ _ HR.out).mono ?_
      rintro e w5 ⟨v5, out, rfl, hm5, ho5, hb5⟩
      have HM5 := Lib.hid hm5
      have HO5 := Lib.hid (ho5.lower HB.out.size)
      have HE5 := Lib.hid (HB.out.trans (hb5.mono HB.out.size))
      clear hm5 ho5 hb5
      go_wp2
      go_ret
      exact ⟨v5, out, rfl, HM5.out, HO5.out, HE5.out⟩
end Go.Proofs.YtmdpchiiamgnnaaGreatDoor
