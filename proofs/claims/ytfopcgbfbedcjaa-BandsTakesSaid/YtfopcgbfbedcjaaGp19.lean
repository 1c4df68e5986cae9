/- The landed bands: the translation of a range that contains only runes. -/
import Derived.Test.YtfopcgbfbedcjaaGp6
import Derived.Test.YtfopcgbfbedcjaaGp7
import Derived.Test.YtfopcgbfbedcjaaGp10
import Derived.Test.YtfopcgbfbedcjaaGp12
import Derived.Test.YtfopcgbfbedcjaaGp18
import Derived.Deep.LoopGhost
import Derived.Scope
import Derived.Laws.StructEq
namespace Go.Proofs.Ytfopcgbfbedcjaa
open Go.RowKit
set_option linter.unusedVariables false
theorem RgOwn.news2 {W : World} {base : Nat} {v : Value} {a b c d : Int} (h : RgOwn W base v [(a, b), (c, d)]) : ∃ g cap, v = .slice (some ⟨g, 0, none⟩) 2 cap ∧ ∀ j u, [Value.int .i64 a, .int .i64 b, .int .i64 c, .int .i64 d][j]? = some u → W.cell? ((⟨g, 0, none⟩ : Addr).add j) = some u := by
  obtain ⟨g, cap, rfl, _, _⟩ := RgOwn.form (l := [(a, b)]) (p := (c, d)) h
  exact ⟨g, cap, rfl, World.ownsRow.cells h rfl⟩
theorem flat2_two (P : List (Int × Int)) (a b c d : Int) : flat2 (P ++ [(a, b), (c, d)]) = flat2 P ++ [Value.int .i64 a, .int .i64 b, .int .i64 c, .int .i64 d] := by simp [flat2]
theorem eq2 (a b c d : Int) (w : World) : (Op.equalIn 10000 67 (.agg #[.int .i64 a, .int .i64 b]) (.agg #[.int .i64 c, .int .i64 d])).run Try.prog w = .ok ((a == c) && (b == d)) w := by
  have ht : Try.prog.underlying 67 = some (.array 2 3) := by kernel_rfl
  have h1 : (sizeOf 3).run Try.prog w = .ok 1 w := by kernel_rfl
  have h3 : ∀ x y, (Op.equalIn 9999 3 (.int .i64 x) (.int .i64 y)).run Try.prog w = .ok (x == y) w := fun x y => run_equalIn_int w 9998 3 .i64 .i64 x y (by kernel_rfl)
  have p0 : ∀ x y, (part 3 #[.int .i64 x, .int .i64 y] 0).run Try.prog w = .ok (.int .i64 x) w := fun x y => by kernel_rfl
  have p1 : ∀ x y, (part 3 #[.int .i64 x, .int .i64 y] 1).run Try.prog w = .ok (.int .i64 y) w := fun x y => by kernel_rfl
  show (Op.equalIn (9999 + 1) 67 _ _).run _ _ = _
  rw [Op.equalIn]
  simp only [Sem.run_bind, run_underlying ht, Result.andThen_ok, h1]
  by_cases e1 : a = c <;> by_cases e2 : b = d <;> simp [Sem.run_bind, h3, p0, p1, Result.andThen_ok, Sem.run_pure, e1, e2, List.range']
set_option maxRecDepth 100000 in
set_option maxHeartbeats 8000000 in
theorem translate_any (W : World) (lo hi : Int) (h : Bd.Runes lo hi) : Calls Try.prog 29 #[.agg #[.int .i64 lo, .int .i64 hi]] W (SeqPost (Bd.splitL lo hi) W) := by
  have mixed : Try.prog.follows .mixedOrders = true := by kernel_rfl
  obtain ⟨i0, hi0, hz0, hz1, hz2⟩ := info_parts Try.infoRange
  obtain ⟨i1, hi1, hy0, hy1, hy2⟩ := info_parts Try.infoSeq
  have HR := Lib.hid h
  clear h
  go_enter Try.func29, Try.ntmps29
  go_wp2
  go_step3
  go_wp2
  go_step3
  go_wp2
  go_loopg [3, 4] (Bd.toil [(lo, hi)]) (fun k V PV wr => ∃ (P : List (Int × Int)) (us : List Value) (O : List (List (Int × Int))), k = Bd.toil P ∧ Hid (PileAt wr W.heap.size lo hi PV V P us O) ∧ Hid (Below W.heap.size W wr))
  case atStart =>
    refine ⟨[(lo, hi)], [], [], rfl, Lib.hid ⟨?_, QOwnU.nil, fun b e => ⟨by simp [nilV, Value.ownBlock], fun j hj => absurd hj (Nat.not_lt_zero _)⟩, by simp [Bd.pileL], ⟨fun p hp => ?_, ?_⟩⟩, Lib.hid (((Below.refl W.heap.size W).alloc (Nat.le_refl _) _).alloc (by simp) _)⟩
    · exact ⟨rfl, .inr ⟨W.heap.size + 1, 1, #[.int .i64 lo, .int .i64 hi], rfl, by omega, by rw [show W.heap.size + 1 = (W.alloc (.cells #[.int .i64 lo, .int .i64 hi] 44)).heap.size from by simp]; exact heap_alloc_new _ _, Nat.le_refl _, by decide, rfl, rfl⟩⟩
    · rw [List.mem_singleton.1 hp]; exact HR.out
    · simp [Bd.many]; have := HR.out.lo0; have := HR.out.top; omega
  case round =>
    obtain ⟨P, us, O, rfl, HP, HB⟩ := hrel
    obtain ⟨wo, rfl⟩ : ∃ wo : World, wo = wr := ⟨_, rfl⟩
    have hsz := HB.out.size
    rcases nil_or_snoc P with rfl | ⟨ini, p, rfl⟩
    · obtain ⟨pa, pc, rfl⟩ := HP.out.own.empty
      have hout : QOwnU wo W.heap.size u3 us (Bd.splitL lo hi) := by
        have := HP.out.sum
        rw [show Bd.pileL [] = [] from rfl, List.append_nil] at this
        rw [← this]; exact HP.out.out
      have HO := Lib.hid hout
      clear hout
      go_wp2
      rw [Exit.noGoto_ret]
      go_ret
      exact ⟨u3, us, rfl, HO.out, HB.out⟩
    · obtain ⟨g, cap, rfl, hbg, hgl⟩ := HP.out.own.form
      obtain ⟨a, b⟩ := p
      have hcap := HP.out.own.cap
      have hx1 := HP.out.own.lo
      have hx2 := HP.out.own.hi.1
      obtain ⟨hpi, hrn, hlen⟩ := HP.out.pile.init
      dsimp only at hx1 hx2 hrn
      obtain ⟨n, hn⟩ : ∃ n, ini.length = n := ⟨_, rfl⟩
      have HN := Lib.hid hn
      rw [hn] at hx1 hx2 hcap hlen ⊢
      have hwr := Bd.runes_width hrn
      have HRN := Lib.hid hrn
      obtain ⟨z, hz⟩ : ∃ z, Utf.width a = z := ⟨_, rfl⟩
      have HZ := Lib.hid hz
      rw [hz] at hwr
      clear hn hpi hrn hz
      have e1 : ((n : Int) + 1) - 1 = (n : Int) := by omega
      have k0 : (0 : Int) ≤ (n : Int) := by omega
      have k1 : (n : Int) < (n : Int) + 1 := by omega
      have k2 : (n : Int) ≤ (cap : Int) := by omega
      have HBA := Lib.hid (HB.out.alloc hsz (.cells #[.int .i64 a, .int .i64 b] 44))
      go_wp2_with fail
      refine (width_any _ _).mono ?_
      rintro e w' ⟨rfl, hw'⟩
      subst hw'
      rw [HZ.out]
      have heq := eq2
      obtain ⟨y, hy⟩ : ∃ y, Utf.width b = y := ⟨_, rfl⟩
      have HY := Lib.hid hy
      rw [hy] at hwr
      clear hy
      by_cases hyz : y = z
      · subst hyz
        obtain ⟨zn, rfl⟩ : ∃ zn : Nat, y = (zn : Int) := ⟨y.toNat, by omega⟩
        have hcl := Bd.runes_cls HRN.out (by rw [HZ.out, HY.out])
        rw [HZ.out, Int.toNat_natCast] at hcl
        have HCL := Lib.hid hcl
        have HSP := Lib.hid (Bd.splitL_cls hcl)
        clear hcl
        go_wp2_with fail
        refine (widths_any _ _ _).mono ?_
        rintro e w1 ⟨rfl, hb1⟩
        rw [HZ.out, HY.out]
        have hbw : Below wo.heap.size wo w1 := ((Below.refl wo.heap.size wo).alloc (Nat.le_refl _) _).trans (hb1.mono (by simp))
        have HPA := Lib.hid (HP.out.below hbw)
        have HB1 := Lib.hid (HB.out.trans (hbw.mono hsz))
        have hs1 := hb1.size
        rw [World.size_alloc] at hs1
        have hc1 : w1.cell? ⟨wo.heap.size, 0, none⟩ = some (.int .i64 a) := (hb1.cell (p := ⟨wo.heap.size, 0, none⟩) (by simp)).trans (by simp)
        have hc2 : w1.cell? ⟨wo.heap.size, 1, none⟩ = some (.int .i64 b) := (hb1.cell (p := ⟨wo.heap.size, 1, none⟩) (by simp)).trans (by simp)
        have HCC := Lib.hid (And.intro hc1 hc2)
        have HLT : Hid (∀ x, (Value.slice (some ⟨g, 0, none⟩) n cap).ownBlock = some x ∨ u3.ownBlock = some x → x < wo.heap.size) := Lib.hid (fun x hx => by
          rcases hx with hx | hx
          · have e' : g = x := by simpa [Value.ownBlock] using hx
            omega
          · exact (HP.out.out.2.1.lt x hx).2)
        have HLU : Hid (∀ j, j < us.length → ∀ x, (us[j]?.getD nilV).ownBlock = some x → x < wo.heap.size) := Lib.hid (fun j hj x hx => ((HP.out.out.2.2.1 j hj).lt hx).2)
        clear hb1 hbw hc1 hc2
        go_wp2
        go_loopw [4, 7] (fun PV I wq => ∃ i g2 : Nat, 1 ≤ i ∧ i ≤ zn ∧ i + g2 = 4 ∧ PV = .slice (some ⟨g, 0, none⟩) n cap ∧ I = .int .i64 i ∧ Hid (Bd.cutAll a b = Bd.cutFrom a b zn i g2) ∧ Hid (Below w1.heap.size w1 wq)) (fun _ I _ => zn - (intOf I).toNat)
        case atStart => exact ⟨1, 3, Nat.le_refl _, by omega, rfl, rfl, rfl, Lib.hid (by unfold Bd.cutAll; rw [HZ.out, Int.toNat_natCast]), Lib.hid (Below.refl _ _)⟩
        case round =>
          obtain ⟨i, g2, hj1, hj2, hg2, rfl, rfl, HC, HBQ⟩ := hrel
          have hsq := HBQ.out.size
          have hq1 := HCC.out.1
          have hq2 := HCC.out.2
          rw [← HBQ.out.cell (p := ⟨wo.heap.size, 0, none⟩) (by show wo.heap.size < _; omega)] at hq1
          rw [← HBQ.out.cell (p := ⟨wo.heap.size, 1, none⟩) (by show wo.heap.size < _; omega)] at hq2
          by_cases hiz : i < zn
          · obtain ⟨f, rfl⟩ : ∃ f, g2 = f + 1 := ⟨g2 - 1, by omega⟩
            have k5 : (i : Int) < (zn : Int) := by omega
            have hbd := Lib.hid (fun w' => border_any w' a b i hj1 (by omega) HRN.out.lo0 (by have := HRN.out.le; have := HRN.out.top; omega) (by have := HRN.out.lo0; have := HRN.out.le; omega) HRN.out.top)
            unfold BordPost Bd.bordN at hbd
            cases hcut : Bd.cut a b i with
            | none =>
              rw [hcut] at hbd
              have HC2 := Lib.hid (HC.out.trans (Bd.cutFrom_none hiz hcut))
              clear hcut
              go_wp2_with fail
              refine (hbd.out _).mono ?_
              rintro e w3 ⟨rfl, hb3⟩
              have HB3 := Lib.hid (HBQ.out.trans (hb3.mono hsq))
              clear hb3
              go_wp2
              go_roundw
              case rel => exact ⟨i + 1, f, by omega, by omega, by omega, rfl, by go_num, HC2, HB3⟩
              case measure => simp [intOf]; omega
            | some m =>
              rw [hcut] at hbd
              have hca := HC.out.trans (Bd.cutFrom_some hiz hcut)
              have hin := Bd.cutAll_in HRN.out.le hca
              have hsb := Bd.runes_sub HRN.out hin.1 hin.2
              have hsp : Bd.splitL a b = Bd.splitL a m ++ Bd.splitL (m + 1) b := by
                rw [HSP.out, Bd.oneL_some HRN.out.le hca, Bd.splitL_cls (HCL.out.sub (Int.le_refl _) (by omega) hin.1), Bd.splitL_cls (HCL.out.sub (by omega) (Int.le_refl _) (by omega))]
              have hmb : -9223372036854775808 ≤ m ∧ m < 9223372036854775807 := by have := HRN.out.lo0; have := HRN.out.top; omega
              have HIN := Lib.hid hin
              have HSB := Lib.hid hsb
              have HSM := Lib.hid hsp
              have HMB := Lib.hid hmb
              clear hcut hca hin hsb hsp hmb
              go_wp2_with fail
              refine (hbd.out _).mono ?_
              rintro e w3 ⟨rfl, hb3⟩
              have hB3 := HBQ.out.trans (hb3.mono hsq)
              have hq3 := (hb3.cell (p := ⟨wo.heap.size, 0, none⟩) (by show wo.heap.size < _; omega)).trans hq1
              have hq4 := (hb3.cell (p := ⟨wo.heap.size, 1, none⟩) (by show wo.heap.size < _; omega)).trans hq2
              have hs3 := hB3.size
              have HB3 := Lib.hid hB3
              clear hb3 hB3
              go_wp2_with fail
              refine (cut_any _ _ _ _ HMB.out).mono ?_
              rintro e w4 ⟨v4, rfl, ho4, hb4⟩
              obtain ⟨gn, cn, rfl, hnews⟩ := ho4.news2
              have hb14 := HB3.out.trans (hb4.mono hs3)
              have hpa := HPA.out.below hb14
              have hB4 := HB1.out.trans (hb14.mono HB1.out.size)
              have hpo := hpa.own
              have hown := hpo.pop
              unfold RgOwn at hown
              rw [HN.out] at hown
              have hs4 : W.heap.size ≤ w4.heap.size := hB4.size
              have HPA4 := Lib.hid hpa
              have HB4 := Lib.hid hB4
              clear hpa hpo hB4 hb14 hb4 ho4 hq1 hq2 hq3 hq4
              go_wp2_with (at_builtin; (refine wpList_append_lies _ (by rfl) _ _ 22 (by rfl) W.heap.size 44 i0 (.agg #[.int .i64 0, .int .i64 0]) 2 16 Try.underlying22 hi0 hz0 hz1 hz2 rfl (by decide) (.slice (some ⟨g, 0, none⟩) n cap) n (flat2 ini) (by rfl) hown ⟨gn, 0, none⟩ 2 cn [.int .i64 (m + 1), .int .i64 b, .int .i64 a, .int .i64 m] (by rfl) (by rfl) hnews (by simp [Value.oneCell']) (by omega) (by unfold maxLen; omega) (by omega) hs4 w4.heap.size rfl ?_))
              intro gg cap1 wz hown1 hgrow hat hlt1
              rw [← flat2_two] at hown1
              have hpush := PileAt.push (wz := wz) (gg := gg) (cap1 := cap1) HPA4.out HSM.out HIN.out.1 HIN.out.2 HSB.out.1 HSB.out.2 (by unfold RgOwn; rw [List.length_append, HN.out]; exact hown1) hgrow (hat.imp (fun e => by injection e) (fun e => by omega))
              have HTL := Lib.hid (HPA4.out.pile.two HIN.out.1 HIN.out.2 HSB.out.1 HSB.out.2).2
              rw [HN.out] at hpush
              have HPU := Lib.hid hpush
              have HBZ := Lib.hid (HB4.out.grown hgrow (by omega) (fun q hq => (hown.lt q hq).1))
              clear hpush hown1 hgrow hat hlt1 hown hnews
              go_wp2
              go_roundg (Bd.toil (ini ++ [(m + 1, b), (a, m)]))
              case rel => exact ⟨_, us, O, rfl, HPU, HBZ⟩
              case measure => exact HTL.out
          · have hiz2 : i = zn := by omega
            subst hiz2
            have hnone := HC.out.trans (Bd.cutFrom_end (by omega))
            have hsp : Bd.splitL a b = [Bd.zipE a b] := by rw [HSP.out, Bd.oneL_none hnone]
            have HSM := Lib.hid hsp
            have kk : ¬ (i : Int) < (i : Int) := by omega
            have hlu := HPA.out.outLen HR.out
            clear hnone hsp
            go_wp2_with fail
            refine (sequence_any _ i a b HCL.out).mono ?_
            rintro e w3 ⟨v3, rfl, ho3, hb3⟩
            obtain ⟨sa, sc, rfl⟩ := ho3.slice
            have hb13 := HBQ.out.trans (hb3.mono hsq)
            have hpa := HPA.out.below hb13
            have hB3 := HB1.out.trans (hb13.mono HB1.out.size)
            have hs3 : W.heap.size ≤ w3.heap.size := hB3.size
            obtain ⟨ql, hql⟩ : ∃ ql, (Bd.zipE a b).length = ql := ⟨_, rfl⟩
            rw [hql] at ho3 ⊢
            have hpb := hpa.below ((Below.refl _ _).alloc (Nat.le_refl _) (.cells #[.slice sa ql sc] 22))
            have hou := hpb.out.2.1
            have HO3 := Lib.hid (RgOwn.alloc ho3 (.cells #[.slice sa ql sc] 22))
            have HPB := Lib.hid hpb
            have HB3 := Lib.hid (hB3.alloc hs3 (.cells #[.slice sa ql sc] 22))
            have HQ3 : Hid (wo.heap.size ≤ wr.heap.size) := Lib.hid (by omega)
            clear hpa hpb hB3 hb13 hb3 ho3 hq1 hq2 hql
            go_wp2_with (at_builtin; (refine wpList_append_lies _ (by rfl) _ _ 26 (by rfl) W.heap.size 22 i1 nilV 1 24 Try.underlying26 hi1 hy0 hy1 hy2 rfl (by decide) u3 us.length us (by rfl) hou ⟨w3.heap.size, 0, none⟩ 1 1 [.slice sa ql sc] (by rfl) rfl (World.news_of_block (cs := #[.slice sa ql sc]) (heap_alloc_new w3 _)) (by simp [Value.oneCell']) (by omega) (by unfold maxLen; omega) (by omega) (by simp; omega) (w3.heap.size + 1) (by simp) ?_))
            intro gg cap1 wz hown1 hgrow hat hlt1
            have hdone := PileAt.done (wz := wz) (gg := gg) (cap1 := cap1) (base2 := wr.heap.size) HPB.out HSM.out (by have := HB1.out.size; omega) HO3.out (by have := HQ3.out; omega) (fun x hx => by have := HLT.out x (.inr hx); have := HQ3.out; omega) (fun j hj x hx => by have := HLU.out j hj x hx; have := HQ3.out; omega) hown1 hgrow (hat.imp id (fun e => by rw [e]; simp))
            have HTL : Hid (Bd.toil ini < Bd.toil (ini ++ [(a, b)])) := Lib.hid (by rw [Bd.toil_append]; simp [Bd.toil]; have := HRN.out.le; omega)
            rw [HN.out] at hdone
            have HPU := Lib.hid hdone
            have HBZ := Lib.hid (HB3.out.grown hgrow (by simp; omega) (fun q hq => (hou.lt q hq).1))
            clear hdone hown1 hgrow hat hlt1 hou
            go_wp2
            go_roundg (Bd.toil ini)
            case rel => exact ⟨ini, _, _, rfl, HPU, HBZ⟩
            case measure => exact HTL.out
      · have hyz2 : (y == z) = false := by rw [beq_eq_false_iff_ne]; exact hyz
        obtain ⟨m, hm⟩ : ∃ m, widestN z = m := ⟨_, rfl⟩
        have hrc := Bd.runes_cut HRN.out (m := m) (by rw [HZ.out, HY.out]; exact hyz) (by rw [HZ.out, ← hm]; rfl)
        have HWD := Lib.hid (fun w' => by have := widest_any w' z; rw [hm] at this; exact this)
        have HRC := Lib.hid hrc
        have HMB : Hid (-9223372036854775808 ≤ m ∧ m < 9223372036854775807) := Lib.hid (by have := HRN.out.lo0; have := HRN.out.top; omega)
        clear hrc hm hyz
        go_wp2_with fail
        refine (widths_any _ _ _).mono ?_
        rintro e w1 ⟨rfl, hb1⟩
        rw [HZ.out, HY.out]
        have hbw : Below wo.heap.size wo w1 := ((Below.refl wo.heap.size wo).alloc (Nat.le_refl _) _).trans (hb1.mono (by simp))
        have hbd : Below w1.heap.size w1 w1.drew := below_drewN (Below.refl _ _) 1
        have HPA := Lib.hid ((HP.out.below hbw).below hbd)
        have HB1 := Lib.hid ((HB.out.trans (hbw.mono hsz)).trans (hbd.mono (Nat.le_trans hsz hbw.size)))
        have hs1 := hb1.size
        rw [World.size_alloc] at hs1
        have hs0 : w1.drew.cell? ⟨wo.heap.size, 0, none⟩ = some (.int .i64 a) ∧ w1.drew.cell? ⟨wo.heap.size, 1, none⟩ = some (.int .i64 b) :=
          ⟨(hb1.cell (p := ⟨wo.heap.size, 0, none⟩) (by simp)).trans (by simp), (hb1.cell (p := ⟨wo.heap.size, 1, none⟩) (by simp)).trans (by simp)⟩
        have HS0 := Lib.hid hs0
        have hlw : wo.heap.size < w1.heap.size := by omega
        have HELD := Lib.hid (fun w4 (hb : Below w1.drew.heap.size w1.drew w4) => held_two (wr := w1) (A := ⟨wo.heap.size, 0, none⟩) (B := ⟨wo.heap.size, 1, none⟩) hb rfl hlw hlw hs0)
        have hgne : (Value.slice (some ⟨g, 0, none⟩) n cap).ownBlock ≠ some wo.heap.size := fun e => by
          have e' : g = wo.heap.size := by simpa [Value.ownBlock] using e
          omega
        clear hb1 hbw hbd hs0 hlw
        go_wp2
        have hs0 := HS0.out
        go_region_held3 (fun w' => w'.cell? ⟨wo.heap.size, 0, none⟩ = some (.int .i64 a) ∧ w'.cell? ⟨wo.heap.size, 1, none⟩ = some (.int .i64 b))
          (first | assumption | exact ⟨hgrow.cell (a := ⟨wo.heap.size, 0, none⟩) hs6.1 (Ne.symm hgne), hgrow.cell (a := ⟨wo.heap.size, 1, none⟩) hs6.2 (Ne.symm hgne)⟩)
          (first
            | (go_at_call 47; refine (HWD.out _).mono ?_; rintro e w ⟨rfl, rfl⟩)
            | (go_at_call 46; refine (cut_any _ _ _ _ HMB.out).mono ?_; rintro e w4 ⟨v4, rfl, ho4, hb4⟩; have hs6 := HELD.out _ hb4; obtain ⟨gn, cn, rfl, hnews⟩ := ho4.news2; have hpa := HPA.out.below hb4; have hpo := hpa.own; have hown := hpo.pop; unfold RgOwn at hown; rw [HN.out] at hown; have hz6 : W.heap.size ≤ w4.heap.size := Nat.le_trans HB1.out.size hb4.size;)
            | (refine step_append_lies _ (by rfl) _ _ 22 (by rfl) W.heap.size 44 i0 (.agg #[.int .i64 0, .int .i64 0]) 2 16 Try.underlying22 hi0 hz0 hz1 hz2 rfl (by decide) (.slice (some ⟨g, 0, none⟩) n cap) n (flat2 ini) (by rfl) hown ⟨gn, 0, none⟩ 2 cn [.int .i64 (m + 1), .int .i64 b, .int .i64 a, .int .i64 m] (by rfl) (by rfl) hnews (by simp [Value.oneCell']) (by omega) (by unfold maxLen; omega) (by omega) hz6 w4.heap.size rfl ?_; intro gg cap1 wz hown1 hgrow hat hlt1)
            | fail)
        rw [← flat2_two] at hown1
        have hpush := PileAt.push (wz := wz) (gg := gg) (cap1 := cap1) hpa (Bd.splitL_at HRC.out.1 HRC.out.2.1 HRC.out.2.2.1) HRC.out.1 HRC.out.2.1 HRC.out.2.2.2.1 HRC.out.2.2.2.2 (by unfold RgOwn; rw [List.length_append, HN.out]; exact hown1) hgrow (hat.imp (fun e => by injection e) (fun e => by omega))
        have HTL := Lib.hid (hpa.pile.two HRC.out.1 HRC.out.2.1 HRC.out.2.2.2.1 HRC.out.2.2.2.2).2
        rw [HN.out] at hpush
        have HPU := Lib.hid hpush
        have HBZ := Lib.hid ((HB1.out.trans (hb4.mono HB1.out.size)).grown hgrow hz6 (fun q hq => (hown.lt q hq).1))
        clear hpush hown1 hgrow hat hlt1 hown hnews hpa hpo hb4 ho4 hs6
        go_wp2
        go_roundg (Bd.toil (ini ++ [(m + 1, b), (a, m)]))
        case rel => exact ⟨_, us, O, rfl, HPU, HBZ⟩
        case measure => exact HTL.out
end Go.Proofs.Ytfopcgbfbedcjaa
