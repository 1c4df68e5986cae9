/- The reference's tree (burinref06): Check. -/
import Derived.Test.YtecmeeobabadeaaDoorGp13
import Derived.Test.YtecmeeobabadeaaDoorGp14
import Derived.Test.YtecmeeobabadeaaDoorGp15
import Derived.BigQuiet
namespace Go.Proofs.YtecmeeobabadeaaDoor
open Go.RowKit
set_option linter.unusedVariables false
namespace Td
/-- Is a name, not empty, among these? -/
def hit (T : List ByteArray) (nm : ByteArray) : Bool := T.any (fun t => t.toList == nm.toList) && !nm.toList.isEmpty
def chkF (T : List ByteArray) : List (Nat × Nd) → Int
  | [] => 0
  | x :: l => if fitsB x.2 = false then 60 else if kind x.2 ≠ 6 then chkF T l else if num x.2 ≠ (T.length : Int) + 1 then 60 else if 31 < num x.2 then 2
    else if hit T (name x.2) = true then 6 else chkF (T ++ [name x.2]) l
def checkN (n : Nd) : Int := if 1000 < dep 1001 n then 61 else chkF [] (all 1000 1 n)
structure ChkSt (T : List ByteArray) (l l' : List (Nat × Nd)) (m : Nd) : Prop where
  bad : fitsB m = false → chkF T l = 60
  other : fitsB m = true → kind m ≠ 6 → chkF T l = chkF T l'
  odd : fitsB m = true → kind m = 6 → num m ≠ (T.length : Int) + 1 → chkF T l = 60
  long : fitsB m = true → kind m = 6 → num m = (T.length : Int) + 1 → 31 < num m → chkF T l = 2
  there : fitsB m = true → kind m = 6 → num m = (T.length : Int) + 1 → ¬ 31 < num m → hit T (name m) = true → chkF T l = 6
  next : fitsB m = true → kind m = 6 → num m = (T.length : Int) + 1 → ¬ 31 < num m → hit T (name m) = false → chkF T l = chkF (T ++ [name m]) l'
theorem chkSt (T : List ByteArray) (L : List (Nat × Nd)) (i : Nat) (hi : i < L.length) (m : Nd) (hm : L[i].2 = m) : ChkSt T (L.drop i) (L.drop (i + 1)) m := by
  have e : L.drop i = L[i] :: L.drop (i + 1) := List.drop_eq_getElem_cons hi
  subst hm
  rw [e]
  refine ⟨fun h => ?_, fun h h1 => ?_, fun h h1 h2 => ?_, fun h h1 h2 h3 => ?_, fun h h1 h2 h3 h4 => ?_, fun h h1 h2 h3 h4 => ?_⟩
  · rw [chkF, if_pos h]
  · rw [chkF, if_neg (by rw [h]; decide), if_pos h1]
  · rw [chkF, if_neg (by rw [h]; decide), if_neg (by omega), if_pos h2]
  · rw [chkF, if_neg (by rw [h]; decide), if_neg (by omega), if_neg (by omega), if_pos h3]
  · rw [chkF, if_neg (by rw [h]; decide), if_neg (by omega), if_neg (by omega), if_neg h3, if_pos h4]
  · rw [chkF, if_neg (by rw [h]; decide), if_neg (by omega), if_neg (by omega), if_neg h3, if_neg (by rw [h4]; decide)]
theorem hit_step {T : List ByteArray} {nm t : ByteArray} {k : Nat} (hk : k < T.length) (ht : T[k] = t) (h : hit (T.take k) nm = false) : hit (T.take (k + 1)) nm = ((t.toList == nm.toList) && !nm.toList.isEmpty) := by
  unfold hit at h ⊢
  rw [List.take_succ_eq_append_getElem hk, List.any_append, ht]
  simp only [List.any_cons, List.any_nil, Bool.or_false]
  cases h1 : (T.take k).any (fun t => t.toList == nm.toList)
  · rfl
  · rw [h1] at h
    simp only [Bool.true_and, Bool.not_eq_false'] at h
    rw [h]; simp
theorem hit_some {T : List ByteArray} {nm t : ByteArray} {k : Nat} (hk : k < T.length) (ht : T[k] = t) (h : ((t.toList == nm.toList) && !nm.toList.isEmpty) = true) : hit T nm = true := by
  rw [Bool.and_eq_true] at h
  unfold hit
  rw [Bool.and_eq_true]
  refine ⟨?_, h.2⟩
  rw [List.any_eq_true]
  exact ⟨t, by rw [← ht]; exact List.getElem_mem hk, h.1⟩
end Td
theorem TxOwn.slice {W : World} {base : Nat} {v : Value} {T : List ByteArray} (h : TxOwn W base v T) : ∃ a c, v = .slice a T.length c := by
  rcases h.2 with ⟨e, e0⟩ | ⟨g, cap, cur, e, _⟩
  · exact ⟨none, 0, by rw [e, e0]⟩
  · exact ⟨_, _, e⟩
theorem TxOwn.below {W W' : World} {base : Nat} {v : Value} {T : List ByteArray} (h : TxOwn W base v T) (hb : Below W.heap.size W W') : TxOwn W' base v T :=
  World.ownsRow.kept h ⟨hb.os, hb.tape, hb.output, hb.size, fun k hk _ => hb.block k hk⟩ (row := none) (by cases hv : v.ownBlock <;> simp)
theorem TxOwn.at {W : World} {base : Nat} {v : Value} {T : List ByteArray} (h : TxOwn W base v T) (k : Nat) (hk : k < T.length) : ∃ g c, v = .slice (some ⟨g, 0, none⟩) T.length c ∧ g < W.heap.size ∧ W.cell? ⟨g, k, none⟩ = some (.string T[k]) := by
  obtain ⟨g, cap, rfl, hb, hg⟩ := World.ownsRow.form h (by omega)
  refine ⟨g, cap, rfl, hg, ?_⟩
  rw [World.ownsRow.cellAt h k (by omega)]
  simp [hk]
set_option maxRecDepth 100000 in
set_option maxHeartbeats 8000000 in
theorem refCheck6_any (W : World) (n : Nd) (cs : List Value) (h : NdIs W n cs) (hlen : (Td.all 1000 1 n).length ≤ 1000000) :
    Calls Tryd.prog 12 #[.agg cs.toArray] W fun e w' => e = .returned (.int .i64 (Td.checkN n)) ∧ Below W.heap.size W w' := by
  obtain ⟨i0, hi0, hz0, hz1, hz2⟩ := info_parts Tryd.infoText
  have HB := Lib.hid ((Below.refl W.heap.size W).alloc (Nat.le_refl _) (.cells cs.toArray 25))
  have HZ := Lib.hid (show (W.alloc (.cells cs.toArray 25)).heap.size = W.heap.size + 1 from by simp)
  have HN0 := Lib.hid (h.kept HB.out)
  have HDP := Lib.hid (refDepth_any 1001 (by omega) _ n cs HN0.out)
  obtain ⟨vs, a, cap, C, hC⟩ := h.cells
  have hcs := hC.eq
  subst hcs
  obtain ⟨R, hR⟩ : ∃ R, Td.checkN n = R := ⟨_, rfl⟩
  have HR := Lib.hid hR
  rw [hR]
  unfold Td.checkN at HR
  obtain ⟨d, hd⟩ : ∃ d, Td.dep 1001 n = d := ⟨_, rfl⟩
  rw [hd] at HDP HR
  obtain ⟨L, hL⟩ : ∃ L, Td.all 1000 1 n = L := ⟨_, rfl⟩
  have HL := Lib.hid hL
  rw [hL] at hlen HR
  obtain ⟨N, hN⟩ : ∃ N, L.length = N := ⟨_, rfl⟩
  have HN := Lib.hid hN
  rw [hN] at hlen
  clear hC h hL hN hR hd
  by_cases hdd : 1000 < d
  · have HE : Hid (R = 61) := Lib.hid (by have := HR.out; rw [if_pos hdd] at this; exact this.symm)
    have hdi : decide ((1000 : Int) < (d : Int)) = true := decide_eq_true (by omega)
    go_enter Tryd.func12, Tryd.ntmps12
    go_wp2_with fail
    refine HDP.out.mono ?_
    rintro e w1 ⟨rfl, hb1⟩
    have HB1 := Lib.hid (HB.out.trans (hb1.mono (by rw [HZ.out]; omega)))
    clear hb1
    go_wp2
    go_ret
    exact ⟨by rw [HE.out]; rfl, HB1.out⟩
  have HE : Hid (R = Td.chkF [] L) := Lib.hid (by have := HR.out; rw [if_neg hdd] at this; exact this.symm)
  have hdi : decide ((1000 : Int) < (d : Int)) = false := decide_eq_false (by omega)
  have hdn : ¬ (1000 : Int) < (d : Int) := by omega
  clear HR hdd
  go_enter Tryd.func12, Tryd.ntmps12
  go_wp2_with fail
  refine HDP.out.mono ?_
  rintro e w0 ⟨rfl, hb0⟩
  have hs0 := hb0.size
  have HN1 := Lib.hid (HN0.out.kept hb0)
  have HB0 := Lib.hid (HB.out.trans (hb0.mono (by rw [HZ.out]; omega)))
  have HKC := Lib.hid (fun o v (h : (W.alloc (.cells #[.int .i64 (Td.kind n), vs, .int .i64 (Td.num n), .string (Td.name n), .int .i64 (Td.mn n), .int .i64 (Td.mx n), .bool (Td.lazy n), .slice a (Td.subs n).length cap] 25)).cell? ⟨W.heap.size, o, none⟩ = some v) => (hb0.cell (p := ⟨W.heap.size, o, none⟩) (by simp)).trans h)
  have x0 := HKC.out 0 _ (by simp; rfl)
  have x1 := HKC.out 1 _ (by simp; rfl)
  have x2 := HKC.out 2 _ (by simp; rfl)
  have x3 := HKC.out 3 _ (by simp; rfl)
  have x4 := HKC.out 4 _ (by simp; rfl)
  have x5 := HKC.out 5 _ (by simp; rfl)
  have x6 := HKC.out 6 _ (by simp; rfl)
  have x7 := HKC.out 7 _ (by simp; rfl)
  clear hb0
  go_wp2_with fail
  refine (refAll_any 1000 1 w0 w0 _ [] n _ rfl (Below.refl _ _) (StOwn.nil _) HN1.out (by rw [HL.out, HN.out]; simpa using hlen)).mono ?_
  rintro e w1 ⟨v1, rfl, hs, hg, ha⟩
  rw [List.nil_append, HL.out] at hs
  obtain ⟨a1, cap1, hv⟩ := hs.slice
  rw [HN.out] at hv
  subst hv
  have HS := Lib.hid hs
  have hB1 : Below W.heap.size W w1 := HB0.out.grown hg (by rw [World.size_alloc] at hs0; omega) (fun k hk => by simp [Value.ownBlock] at hk)
  have HB1 := Lib.hid hB1
  have hsw : w0.heap.size ≤ w1.heap.size := hg.size
  have HSW := Lib.hid hsw
  have HW01 : Hid (Below w0.heap.size w0 w1) := Lib.hid ((Below.refl w0.heap.size w0).grown hg (Nat.le_refl _) (fun k hk => by simp [Value.ownBlock] at hk))
  clear hs hg ha hB1 x0 x1 x2 x3 x4 x5 x6 x7 HKC
  go_wp2
  go_loopw [4, 5] (fun TV iv wr => ∃ (i : Nat) (T : List ByteArray), i ≤ N ∧ iv = .int .i64 (i : Int) ∧ T.length ≤ i ∧ Hid (TxOwn wr w1.heap.size TV T) ∧ Hid (R = Td.chkF T (L.drop i)) ∧ Hid (Below w1.heap.size w1 wr)) (fun _ iv _ => N - (intOf iv).toNat)
  case atStart => exact ⟨0, [], Nat.zero_le _, rfl, Nat.le_refl _, Lib.hid (World.ownsRow_nil _ _ _ _), Lib.hid (by rw [List.drop_zero]; exact HE.out), Lib.hid (Below.refl _ _)⟩
  case round =>
    obtain ⟨i, T, hi, rfl, hti, HT, HRR, HBr⟩ := hrel
    obtain ⟨wo, rfl⟩ : ∃ wo : World, wo = wr := ⟨_, rfl⟩
    have hsz := HBr.out.size
    by_cases hlt : i < N
    · obtain ⟨g, cap2, cs, hv, hb, hg, _, hn, hc⟩ := HS.out.at i (by rw [HN.out]; exact hlt)
      simp only [Value.slice.injEq] at hv
      obtain ⟨rfl, hx1, hx2⟩ := hv
      clear hx1 hx2
      obtain ⟨m, hm⟩ : ∃ m, (L[i]'(by rw [HN.out]; exact hlt)).2 = m := ⟨_, rfl⟩
      have hst := Td.chkSt T L i (by rw [HN.out]; exact hlt) m hm
      rw [hm] at hn
      have hbw : Below w0.heap.size w0 wo := HW01.out.trans (HBr.out.mono HSW.out)
      have hnd := (hn.kept hbw).kept ((Below.refl wo.heap.size wo).alloc (Nat.le_refl _) (.cells cs.toArray 25))
      obtain ⟨vs', a', cap', C', hC'⟩ := hn.cells
      have hcs' := hC'.eq
      obtain ⟨sa', sc', hvs', _⟩ := hC'.set
      subst hvs'
      obtain ⟨kd, hkd⟩ : ∃ kd, Td.kind m = kd := ⟨_, rfl⟩
      obtain ⟨nu, hnu⟩ : ∃ nu, Td.num m = nu := ⟨_, rfl⟩
      obtain ⟨nm, hnm⟩ : ∃ nm, Td.name m = nm := ⟨_, rfl⟩
      have kc : ∀ q v, q < 8 → cs[q]? = some v → wo.cell? ⟨g, i * 9 + 1 + q, none⟩ = some v := fun q v hq e => (HBr.out.cell (p := ⟨g, i * 9 + 1 + q, none⟩) hg).trans ((hc q hq).trans e)
      rw [hkd, hnu, hnm] at hcs'
      subst hcs'
      have c0 := kc 0 _ (by omega) rfl
      have c1 := kc 1 _ (by omega) rfl
      have c2 := kc 2 _ (by omega) rfl
      have c3 := kc 3 _ (by omega) rfl
      have c4 := kc 4 _ (by omega) rfl
      have c5 := kc 5 _ (by omega) rfl
      have c6 := kc 6 _ (by omega) rfl
      have c7 := kc 7 _ (by omega) rfl
      have hgr : g < wo.heap.size := Nat.lt_of_lt_of_le hg hsz
      obtain ⟨F, hF⟩ : ∃ F, Td.fitsB m = F := ⟨_, rfl⟩
      have HFT := Lib.hid (refFits_any _ m _ hnd)
      rw [hF] at HFT
      obtain ⟨q, hq⟩ : ∃ q, T.length = q := ⟨_, rfl⟩
      have HQ := Lib.hid hq
      rw [hq] at hti
      obtain ⟨ta, tc, htv⟩ := HT.out.slice
      rw [hq] at htv
      subst htv
      have H1 : Hid (F = false → R = 60) := Lib.hid (fun e => HRR.out.trans <| hst.bad (hF.trans e))
      have H2 : Hid (F = true → kd ≠ 6 → R = Td.chkF T (L.drop (i + 1))) := Lib.hid (fun e e1 => HRR.out.trans <| hst.other (hF.trans e) (by rw [hkd]; exact e1))
      have H3 : Hid (F = true → kd = 6 → nu ≠ (q : Int) + 1 → R = 60) := Lib.hid (fun e e1 e2 => HRR.out.trans <| hst.odd (hF.trans e) (by rw [hkd]; exact e1) (by rw [hnu, hq]; exact e2))
      have H4 : Hid (F = true → kd = 6 → nu = (q : Int) + 1 → 31 < nu → R = 2) := Lib.hid (fun e e1 e2 e3 => HRR.out.trans <| hst.long (hF.trans e) (by rw [hkd]; exact e1) (by rw [hnu, hq]; exact e2) (by rw [hnu]; exact e3))
      have H5 : Hid (F = true → kd = 6 → nu = (q : Int) + 1 → ¬ 31 < nu → Td.hit T nm = true → R = 6) := Lib.hid (fun e e1 e2 e3 e4 => HRR.out.trans <| hst.there (hF.trans e) (by rw [hkd]; exact e1) (by rw [hnu, hq]; exact e2) (by rw [hnu]; exact e3) (by rw [hnm]; exact e4))
      have H6 : Hid (F = true → kd = 6 → nu = (q : Int) + 1 → ¬ 31 < nu → Td.hit T nm = false → R = Td.chkF (T ++ [nm]) (L.drop (i + 1))) := Lib.hid (fun e e1 e2 e3 e4 => by
        have := hst.next (hF.trans e) (by rw [hkd]; exact e1) (by rw [hnu, hq]; exact e2) (by rw [hnu]; exact e3) (by rw [hnm]; exact e4)
        rw [hnm] at this; exact HRR.out.trans this)
      have k0 : (0 : Int) ≤ (i : Int) := by omega
      have k1 : (i : Int) < (N : Int) := by omega
      clear kc hn hnd hC' hc hm hst hF hq hkd hnu hnm hb hbw HRR
      go_wp2_with fail
      refine HFT.out.mono ?_
      rintro e w5 ⟨rfl, hb5⟩
      have hs5 := hb5.size
      rw [World.size_alloc] at hs5
      have hbo : Below wo.heap.size wo w5 := ((Below.refl wo.heap.size wo).alloc (Nat.le_refl _) _).trans (hb5.mono (by simp))
      have HB5 := Lib.hid (HBr.out.trans (hbo.mono hsz))
      have HT5 := Lib.hid (HT.out.below hbo)
      have b0 : w5.cell? ⟨wo.heap.size, 0, none⟩ = some (.int .i64 kd) := (hb5.cell (p := ⟨wo.heap.size, 0, none⟩) (by simp)).trans (by simp)
      have b2 : w5.cell? ⟨wo.heap.size, 2, none⟩ = some (.int .i64 nu) := (hb5.cell (p := ⟨wo.heap.size, 2, none⟩) (by simp)).trans (by simp)
      have b3 : w5.cell? ⟨wo.heap.size, 3, none⟩ = some (.string nm) := (hb5.cell (p := ⟨wo.heap.size, 3, none⟩) (by simp)).trans (by simp)
      have hbx : wo.heap.size < w5.heap.size := by omega
      have HTOT : Hid (Below W.heap.size W w5) := Lib.hid (HB1.out.trans (HB5.out.mono HB1.out.size))
      clear hb5 hbo c0 c1 c2 c3 c4 c5 c6 c7 HFT HT
      cases F with
      | false =>
        have HX := Lib.hid (H1.out rfl)
        go_wp2
        go_ret
        exact ⟨by rw [HX.out]; rfl, HTOT.out⟩
      | true =>
        by_cases k6 : kd = 6
        · subst k6
          by_cases hnq : nu = (q : Int) + 1
          · subst hnq
            by_cases h31 : (31 : Int) < (q : Int) + 1
            · have HX := Lib.hid (H4.out rfl rfl rfl h31)
              have d1 : decide ((31 : Int) < (q : Int) + 1) = true := decide_eq_true h31
              go_wp2
              go_ret
              exact ⟨by rw [HX.out]; rfl, HTOT.out⟩
            · have d1 : decide ((31 : Int) < (q : Int) + 1) = false := decide_eq_false h31
              have H5' := Lib.hid (H5.out rfl rfl rfl (by omega))
              have H6' := Lib.hid (H6.out rfl rfl rfl (by omega))
              clear H1 H2 H3 H4 H5 H6
              go_wp2
              go_loopw [7] (fun kv wr => ∃ k : Nat, k ≤ q ∧ kv = .int .i64 (k : Int) ∧ Hid (Td.hit (T.take k) nm = false) ∧ ∃ dd, wr = w5.drewN dd) (fun kv _ => q - (intOf kv).toNat)
              case atStart => exact ⟨0, Nat.zero_le _, rfl, Lib.hid (by simp [Td.hit]), 0, rfl⟩
              case round =>
                obtain ⟨k, hk, rfl, HH, dd, rfl⟩ := hrel
                by_cases hkq : k < q
                · obtain ⟨g4, c4, hv4, hg4, hcell⟩ := HT5.out.at k (by rw [HQ.out]; exact hkq)
                  rw [HQ.out] at hv4
                  simp only [Value.slice.injEq] at hv4
                  obtain ⟨rfl, _, rfl⟩ := hv4
                  obtain ⟨t, ht⟩ : ∃ t, T[k]'(by rw [HQ.out]; exact hkq) = t := ⟨_, rfl⟩
                  rw [ht] at hcell
                  have hstep := Td.hit_step (nm := nm) (by rw [HQ.out]; exact hkq) ht HH.out
                  have hsome := Td.hit_some (nm := nm) (by rw [HQ.out]; exact hkq) ht
                  have HSTEP := Lib.hid hstep
                  have HSOME := Lib.hid hsome
                  have j0 : (0 : Int) ≤ (k : Int) := by omega
                  have j1 : (k : Int) < (q : Int) := by omega
                  clear hstep hsome ht
                  cases hE : (t.toList == nm.toList) with
                  | false =>
                    have HN2 : Hid (Td.hit (T.take (k + 1)) nm = false) := Lib.hid (by rw [HSTEP.out, hE]; rfl)
                    go_wp2
                    go_quiet (fail)
                    go_wp2
                    go_roundw
                    case rel => exact ⟨k + 1, by omega, by go_num, HN2, _, rfl⟩
                    case measure => simp [intOf]; omega
                  | true =>
                    cases hM : nm.toList.isEmpty with
                    | true =>
                      have HN2 : Hid (Td.hit (T.take (k + 1)) nm = false) := Lib.hid (by rw [HSTEP.out, hE, hM]; rfl)
                      have e1 : nm = ⟨#[]⟩ := by
                        apply ByteArray.ext; apply Array.toList_inj.1
                        rw [← ByteArray.toList_eq]; exact List.isEmpty_iff.1 hM
                      have e2 : t = ⟨#[]⟩ := by
                        apply ByteArray.ext; apply Array.toList_inj.1
                        rw [← ByteArray.toList_eq, beq_iff_eq.1 hE]; exact List.isEmpty_iff.1 hM
                      subst e1
                      subst e2
                      clear hE hM
                      go_wp2
                      go_quiet (fail)
                      go_wp2
                      go_roundw
                      case rel => exact ⟨k + 1, by omega, by go_num, HN2, _, rfl⟩
                      case measure => simp [intOf]; omega
                    | false =>
                      have HX := Lib.hid (H5'.out (HSOME.out (by rw [hE, hM]; rfl)))
                      have hM2 : ¬ nm.toList = [] := fun e => by rw [e] at hM; cases hM
                      go_wp2
                      go_quiet (fail)
                      go_wp2
                      go_ret
                      exact ⟨by rw [HX.out]; rfl, below_drewNr (below_drewNr HTOT.out _) _⟩
                · obtain rfl : k = q := by omega
                  have hh := HH.out
                  rw [List.take_of_length_le (by rw [HQ.out]; exact Nat.le_refl _)] at hh
                  have HX := Lib.hid (H6'.out hh)
                  have HT6 : Hid (TxOwn (w5.drewN dd) w1.heap.size (.slice ta k tc) T) := Lib.hid (HT5.out.below (below_drewNr (Below.refl _ _) dd))
                  have hown := HT6.out
                  unfold TxOwn at hown
                  rw [HQ.out] at hown
                  have HOWN := Lib.hid hown
                  have hs15 : w1.heap.size ≤ w5.heap.size := HB5.out.size
                  clear hh hown
                  go_wp2_with (at_builtin; (refine wpList_append_lies _ (by rfl) _ _ 54 (by rfl) w1.heap.size 9 i0 (.string ⟨#[]⟩) 1 16 Tryd.underText hi0 hz0 hz1 hz2 rfl (by decide) _ k (T.map Value.string) (by rfl) (HOWN.out.alloc _) ⟨w5.heap.size, 0, none⟩ 1 1 [.string nm] (by rfl) rfl (World.news_of_block (cs := #[.string nm]) (heap_alloc_new (w5.drewN dd) _)) (by simp [Value.oneCell']) (by omega) (by unfold maxLen; omega) (by omega) (by simp; omega) (w5.heap.size + 1) (by simp) ?_))
                  intro g1 capz wz hown' hgrow hat1 hat2
                  have HT7 : Hid (TxOwn wz w1.heap.size (.slice (some ⟨g1, 0, none⟩) (k + 1) capz) (T ++ [nm])) := Lib.hid (by
                    unfold TxOwn; rw [List.length_append, HQ.out, List.map_append]; exact hown')
                  have HB7 : Hid (Below w1.heap.size w1 wz) := Lib.hid (((below_drewNr HB5.out dd).alloc hs15 _).grown hgrow (by simp; omega) (fun k hk => (HOWN.out.lt k hk).1))
                  clear hown' hgrow hat1 hat2
                  go_wp2
                  go_roundw
                  case rel => exact ⟨i + 1, T ++ [nm], by omega, by go_num, by rw [List.length_append, HQ.out]; simp; omega, HT7, HX, HB7⟩
                  case measure => simp [intOf]; omega
          · have HX := Lib.hid (H3.out rfl rfl hnq)
            have n1 : (nu == (q : Int) + 1) = false := beq_eq_false_iff_ne.2 hnq
            go_wp2
            go_ret
            exact ⟨by rw [HX.out]; rfl, HTOT.out⟩
        · have HX := Lib.hid (H2.out rfl k6)
          have n1 : (kd == 6) = false := beq_eq_false_iff_ne.2 k6
          go_wp2
          go_roundw
          case rel => exact ⟨i + 1, T, by omega, by go_num, by rw [HQ.out]; omega, HT5, HX, HB5⟩
          case measure => simp [intOf]; omega
    · obtain rfl : i = N := by omega
      have hE := HRR.out
      rw [List.drop_eq_nil_of_le (by rw [HN.out]; exact Nat.le_refl _)] at hE
      have HX : Hid (R = 0) := Lib.hid hE
      have HTOT : Hid (Below W.heap.size W wo) := Lib.hid (HB1.out.trans (HBr.out.mono HB1.out.size))
      clear hE
      go_wp2
      go_ret
      exact ⟨by rw [HX.out]; rfl, HTOT.out⟩
end Go.Proofs.YtecmeeobabadeaaDoor
