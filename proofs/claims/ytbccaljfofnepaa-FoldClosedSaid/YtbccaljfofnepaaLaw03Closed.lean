/- burinlaw03.FoldClosed: the walk. -/
import Derived.Test.YtbccaljfofnepaaLaw03W
import Derived.Test.YtbccaljfofnepaaFnF
import Derived.Test.YtbccaljfofnepaaRgG
import Derived.Test.YtbccaljfofnepaaRgSets
import Derived.Test.YtbccaljfofnepaaRnB
import Derived.Test.YtbccaljfofnepaaRnC
import Derived.Test.YtbccaljfofnepaaRnU3
namespace Go.Proofs.Ytbccaljfofnepaa
open Go.RowKit
set_option linter.unusedVariables false
namespace Fd
open Rg
theorem clB_iff (l : List R) (q : Int) : clB l q = true ↔ (0 ≤ q ∧ q ≤ 1114111) ∧ ∃ y ∈ fam q, hasB l y = true := by
  unfold clB
  rw [Bool.and_eq_true, decide_eq_true_eq, List.any_eq_true]
theorem has_rng {l : List R} {q : Int} (h : hasB l q = true) : 0 ≤ q ∧ q ≤ 1114111 := ((hasB_iff l q).1 h).1
/-- What is closed is closed. -/
theorem clB_idem {a c : List R} (hc : ∀ q, hasB c q = clB a q) (q : Int) : clB c q = clB a q := by
  rw [Bool.eq_iff_iff, clB_iff, clB_iff]
  constructor
  · rintro ⟨hq, y, hy, h⟩
    rw [hc, clB_iff] at h
    obtain ⟨_, z, hz, hzl⟩ := h
    exact ⟨hq, z, by rw [← fam_same hy]; exact hz, hzl⟩
  · rintro ⟨hq, y, hy, h⟩
    exact ⟨hq, q, fam_self q, by rw [hc, clB_iff]; exact ⟨hq, y, hy, h⟩⟩
theorem clB_union {a b u : List R} (hu : ∀ q, 0 ≤ q → q ≤ 1114111 → hasB u q = opB 1 (hasB a q) (hasB b q)) (q : Int) : clB u q = (clB a q || clB b q) := by
  have hb : ∀ y, hasB u y = true ↔ hasB a y = true ∨ hasB b y = true := by
    intro y
    constructor
    · intro h
      have hr := has_rng h
      rw [hu y hr.1 hr.2] at h
      simpa [opB] using h
    · intro h
      have hr : 0 ≤ y ∧ y ≤ 1114111 := h.elim has_rng has_rng
      rw [hu y hr.1 hr.2]
      simpa [opB] using h
  rw [Bool.eq_iff_iff, Bool.or_eq_true, clB_iff, clB_iff, clB_iff]
  constructor
  · rintro ⟨hq, y, hy, h⟩
    rcases (hb y).1 h with h | h
    · exact .inl ⟨hq, y, hy, h⟩
    · exact .inr ⟨hq, y, hy, h⟩
  · rintro (⟨hq, y, hy, h⟩ | ⟨hq, y, hy, h⟩)
    · exact ⟨hq, y, hy, (hb y).2 (.inl h)⟩
    · exact ⟨hq, y, hy, (hb y).2 (.inr h)⟩
theorem minus_nil {a c out : List R} (hc : ∀ q, hasB c q = clB a q) (hm : Made 3 a c out) : out = [] := by
  refine norm_ext hm.norm trivial (fun q h0 h1 => ?_)
  rw [hm.has q h0 h1, hc]
  cases ha : hasB a q with
  | false => simp [opB, hasB]
  | true =>
    rw [(clB_iff a q).2 ⟨⟨h0, h1⟩, q, fam_self q, ha⟩]
    simp [opB, hasB]
theorem twice_eq {a c d : List R} (nc : NormL c) (nd : NormL d) (hc : ∀ q, hasB c q = clB a q) (hd : ∀ q, hasB d q = clB c q) : d = c :=
  norm_ext nd nc (fun q _ _ => by rw [hd, hc, clB_idem hc])
theorem both_eq {a b u x c d y : List R} (hu : Made 1 a b u) (nx : NormL x) (hx : ∀ q, hasB x q = clB u q) (hc : ∀ q, hasB c q = clB a q) (hd : ∀ q, hasB d q = clB b q) (hy : Made 1 c d y) : x = y :=
  norm_ext nx hy.norm (fun q h0 h1 => by rw [hx, hy.has q h0 h1, hc, hd, clB_union hu.has]; simp [opB])
end Fd
theorem any_take_int3 (F : List Int) (k : Nat) (hk : k < F.length) (p : Int → Bool) : (F.take (k + 1)).any p = ((F.take k).any p || p (F[k]?.getD 0)) := by
  rw [List.take_succ_eq_append_getElem hk, List.any_append]
  simp [hk]
set_option maxRecDepth 100000 in
set_option maxHeartbeats 8000000 in
theorem closed_core (W : World) (l l' : List (Int × Int)) (a b : Option Addr) (n m ca cb : Nat) (r : Int) (h1 : n ≤ 6) (h2 : m ≤ 6)
    (hr : RRow W (.slice a n ca) l) (hr' : RRow W (.slice b m cb) l') :
    Calls Try.prog 7 #[.slice a n ca, .slice b m cb, .int .i64 r] W fun e w' => e = .returned (.bool true) ∧ Below W.heap.size W w' := by
  have HA := Lib.hid hr
  have HB := Lib.hid hr'
  clear hr hr'
  have i1 : ¬ (6 : Int) < (n : Int) := by omega
  have i2 : ¬ (6 : Int) < (m : Int) := by omega
  go_enter Try.func7, Try.ntmps7
  go_wp2_with fail
  refine (works_any _).mono ?_
  rintro e w1 ⟨rfl, hb⟩
  have D1 := Lib.hid hb
  clear hb
  go_wp2_with fail
  refine (close_any _ _ l (HA.out.below (Nat.le_refl _) D1.out)).mono ?_
  rintro e w2 ⟨vl, cl, rfl, hn, hq, ho, hb⟩
  have NC := Lib.hid hn
  have QC := Lib.hid hq
  have RC2 := Lib.hid (ho.normRow hn)
  have D2 := Lib.hid (D1.out.trans (hb.mono D1.out.size))
  clear hn hq ho hb
  have hfa := fam_any w2 r
  have hfl := Fd.fam_len r
  obtain ⟨I, hI⟩ : ∃ I, Fd.clB l r = I := ⟨_, rfl⟩
  have hIin : 0 ≤ r → r ≤ 1114111 → I = (Fd.fam r).any (Rg.hasB l) := fun h0 h1 => by rw [← hI]; unfold Fd.clB; rw [decide_eq_true ⟨h0, h1⟩, Bool.true_and]
  have hIout : ¬ (0 ≤ r ∧ r ≤ 1114111) → I = false := fun h => by rw [← hI]; unfold Fd.clB; rw [decide_eq_false h, Bool.false_and]
  have HI := Lib.hid hI
  obtain ⟨F, hF⟩ : ∃ F, Fd.fam r = F := ⟨_, rfl⟩
  rw [hF] at hfa hfl hIin
  have HIN := Lib.hid hIin
  have HOUT := Lib.hid hIout
  have HFA := Lib.hid hfa
  clear hI hIin hIout hfa hF
  go_wp2_with fail
  refine HFA.out.mono ?_
  rintro e w3 ⟨vf, rfl, hof, hb⟩
  obtain ⟨fa, fc, rfl, hf1, hf2, hfc⟩ := hof.row
  obtain ⟨nf, hnf⟩ : ∃ nf, F.length = nf := ⟨_, rfl⟩
  rw [hnf] at hfl hf1 hfc ⊢
  have HNF := Lib.hid hnf
  have HFC := Lib.hid hfc
  have D3 := Lib.hid (D2.out.trans (hb.mono D2.out.size))
  have RC3 := Lib.hid (RC2.out.below (Nat.le_refl _) hb)
  obtain ⟨f1, f3⟩ := hfl
  clear hof hfc hb hnf
  go_wp2
  go_loopw [8, 26] (fun X K wr => ∃ (k : Nat) (S : Bool), k ≤ nf ∧ K = .int .i64 k ∧ X = .bool S ∧ Hid (S = (F.take k).any (Rg.hasB l)) ∧ Hid (Below w3.heap.size w3 wr)) (fun _ K _ => nf - (intOf K).toNat)
  case atStart => exact ⟨0, false, Nat.zero_le _, rfl, rfl, Lib.hid rfl, Lib.hid (Below.refl _ _)⟩
  case round =>
    obtain ⟨k, S, hk, rfl, rfl, HS, HE⟩ := hrel
    by_cases hlt : k < nf
    · obtain ⟨fb, rfl, hfb, hcell⟩ := HFC.out k hlt
      rw [← HE.out.cell (p := ⟨fb, k, none⟩) hfb] at hcell
      have HT := Lib.hid (any_take_int3 F k (by rw [HNF.out]; exact hlt) (Rg.hasB l))
      obtain ⟨x, ex⟩ : ∃ x, F[k]?.getD 0 = x := ⟨_, rfl⟩
      rw [ex] at hcell HT
      clear ex
      cases S with
      | true =>
        have HS2 : Hid (true = (F.take (k + 1)).any (Rg.hasB l)) := Lib.hid (by rw [HT.out, ← HS.out]; rfl)
        go_wp2
        go_roundw
        case rel => exact ⟨k + 1, true, by omega, by go_num, rfl, HS2, HE⟩
        case measure => simp [intOf]; omega
      | false =>
        have hh := fun w' hb' => has_any w' (.slice a n ca) l x (HA.out.below (Nat.le_refl _) hb')
        obtain ⟨T, hT⟩ : ∃ T, Rg.hasB l x = T := ⟨_, rfl⟩
        rw [hT] at hh
        have HH := Lib.hid hh
        have HS2 : Hid (T = (F.take (k + 1)).any (Rg.hasB l)) := Lib.hid (by rw [HT.out, ← HS.out, hT]; rfl)
        clear hh hT
        go_wp2_with fail
        refine (HH.out _ (D3.out.trans (HE.out.mono D3.out.size))).mono ?_
        rintro e w4 ⟨rfl, hb⟩
        have HE4 := Lib.hid (HE.out.trans (hb.mono HE.out.size))
        clear hb
        go_wp2
        go_roundw
        case rel => exact ⟨k + 1, T, by omega, by go_num, rfl, HS2, HE4⟩
        case measure => simp [intOf]; omega
    · obtain rfl : k = nf := by omega
      have hS := HS.out
      rw [List.take_of_length_le (by rw [HNF.out]; exact Nat.le_refl _)] at hS
      have HX := Lib.hid hS
      have D4 := Lib.hid (D3.out.trans (HE.out.mono D3.out.size))
      have RC4 := Lib.hid (RC3.out.below (Nat.le_refl _) HE.out)
      clear hS
      obtain ⟨w4, rfl⟩ : ∃ w4 : World, w4 = wr := ⟨_, rfl⟩
      have HCK := Lib.hid (fun W' hW => check_any W' vl cl hW)
      have HCZ : Hid (Rg.checkF none cl = 0) := Lib.hid ((Rg.check_norm cl).2 NC.out)
      by_cases c1 : r < 0
      · obtain rfl := HOUT.out (by omega)
        go_wp2_with fail
        refine (HCK.out _ RC4.out).mono ?_
        rintro e w5 ⟨rfl, hb⟩
        rw [HCZ.out]
        have D5 := Lib.hid (D4.out.trans (hb.mono D4.out.size))
        have RC5 := Lib.hid (RC4.out.below (Nat.le_refl _) hb)
        clear hb
        go_wp2_with fail
        refine (minus_any _ _ _ _ _ (HA.out.below (Nat.le_refl _) D5.out) RC5.out).mono ?_
        rintro e w6 ⟨vm, om, rfl, hm, ho, hb⟩
        obtain rfl := Fd.minus_nil QC.out hm
        obtain ⟨ma, mc, rfl⟩ := ho.empty
        have D6 := Lib.hid (D5.out.trans (hb.mono D5.out.size))
        have RC6 := Lib.hid (RC5.out.below (Nat.le_refl _) hb)
        clear hb hm ho
        have hh := has_any w6 vl cl r RC6.out
        rw [QC.out r, HI.out] at hh
        have HH := Lib.hid hh
        clear hh
        go_wp2_with fail
        refine HH.out.mono ?_
        rintro e w7 ⟨rfl, hb⟩
        have D7 := Lib.hid (D6.out.trans (hb.mono D6.out.size))
        have RC7 := Lib.hid (RC6.out.below (Nat.le_refl _) hb)
        clear hb HH
        go_wp2_with fail
        refine (close_any _ _ cl RC7.out).mono ?_
        rintro e w8 ⟨vd, od, rfl, hn, hq, ho, hb⟩
        have EQ := Lib.hid (Fd.twice_eq NC.out hn QC.out hq)
        have RD8 := Lib.hid (ho.normRow hn)
        have D8 := Lib.hid (D7.out.trans (hb.mono D7.out.size))
        have RC8 := Lib.hid (RC7.out.below (Nat.le_refl _) hb)
        clear hn hq ho hb
        go_wp2_with fail
        refine (same_refl_row _ _ _ _ _ RD8.out RC8.out EQ.out).mono ?_
        rintro e w9 ⟨rfl, hb⟩
        have D9 := Lib.hid (D8.out.trans (hb.mono D8.out.size))
        have RC9 := Lib.hid (RC8.out.below (Nat.le_refl _) hb)
        clear hb EQ RD8
        go_wp2_with fail
        refine (union_any _ _ _ _ _ (HA.out.below (Nat.le_refl _) D9.out) (HB.out.below (Nat.le_refl _) D9.out)).mono ?_
        rintro e w10 ⟨vu, ou, rfl, hm, ho, hb⟩
        have MU := Lib.hid hm
        have RU := Lib.hid (ho.normRow hm.norm)
        have D10 := Lib.hid (D9.out.trans (hb.mono D9.out.size))
        have RC10 := Lib.hid (RC9.out.below (Nat.le_refl _) hb)
        clear hm ho hb
        go_wp2_with fail
        refine (close_any _ _ ou RU.out).mono ?_
        rintro e w11 ⟨vx, ox, rfl, hn, hq, ho, hb⟩
        have NX := Lib.hid hn
        have QX := Lib.hid hq
        have RX11 := Lib.hid (ho.normRow hn)
        have D11 := Lib.hid (D10.out.trans (hb.mono D10.out.size))
        have RC11 := Lib.hid (RC10.out.below (Nat.le_refl _) hb)
        clear hn hq ho hb RU
        go_wp2_with fail
        refine (close_any _ _ l' (HB.out.below (Nat.le_refl _) D11.out)).mono ?_
        rintro e w12 ⟨vb, ob, rfl, hn, hq, ho, hb⟩
        have NB := Lib.hid hn
        have QB := Lib.hid hq
        have RB12 := Lib.hid (ho.normRow hn)
        have D12 := Lib.hid (D11.out.trans (hb.mono D11.out.size))
        have RC12 := Lib.hid (RC11.out.below (Nat.le_refl _) hb)
        have RX12 := Lib.hid (RX11.out.below (Nat.le_refl _) hb)
        clear hn hq ho hb RX11
        go_wp2_with fail
        refine (union_any _ _ _ _ _ RC12.out RB12.out).mono ?_
        rintro e w13 ⟨vy, oy, rfl, hm, ho, hb⟩
        have EQ := Lib.hid (Fd.both_eq MU.out NX.out QX.out QC.out QB.out hm)
        have RY13 := Lib.hid (ho.normRow hm.norm)
        have D13 := Lib.hid (D12.out.trans (hb.mono D12.out.size))
        have RX13 := Lib.hid (RX12.out.below (Nat.le_refl _) hb)
        clear hm ho hb
        go_wp2_with fail
        refine (same_refl_row _ _ _ _ _ RX13.out RY13.out EQ.out).mono ?_
        rintro e w14 ⟨rfl, hb⟩
        have D14 := Lib.hid (D13.out.trans (hb.mono D13.out.size))
        clear hb
        go_wp2
        go_ret
        exact ⟨rfl, D14.out⟩
      · by_cases c2 : 1114111 < r
        · obtain rfl := HOUT.out (by omega)
          go_wp2_with fail
          refine (HCK.out _ RC4.out).mono ?_
          rintro e w5 ⟨rfl, hb⟩
          rw [HCZ.out]
          have D5 := Lib.hid (D4.out.trans (hb.mono D4.out.size))
          have RC5 := Lib.hid (RC4.out.below (Nat.le_refl _) hb)
          clear hb
          go_wp2_with fail
          refine (minus_any _ _ _ _ _ (HA.out.below (Nat.le_refl _) D5.out) RC5.out).mono ?_
          rintro e w6 ⟨vm, om, rfl, hm, ho, hb⟩
          obtain rfl := Fd.minus_nil QC.out hm
          obtain ⟨ma, mc, rfl⟩ := ho.empty
          have D6 := Lib.hid (D5.out.trans (hb.mono D5.out.size))
          have RC6 := Lib.hid (RC5.out.below (Nat.le_refl _) hb)
          clear hb hm ho
          have hh := has_any w6 vl cl r RC6.out
          rw [QC.out r, HI.out] at hh
          have HH := Lib.hid hh
          clear hh
          go_wp2_with fail
          refine HH.out.mono ?_
          rintro e w7 ⟨rfl, hb⟩
          have D7 := Lib.hid (D6.out.trans (hb.mono D6.out.size))
          have RC7 := Lib.hid (RC6.out.below (Nat.le_refl _) hb)
          clear hb HH
          go_wp2_with fail
          refine (close_any _ _ cl RC7.out).mono ?_
          rintro e w8 ⟨vd, od, rfl, hn, hq, ho, hb⟩
          have EQ := Lib.hid (Fd.twice_eq NC.out hn QC.out hq)
          have RD8 := Lib.hid (ho.normRow hn)
          have D8 := Lib.hid (D7.out.trans (hb.mono D7.out.size))
          have RC8 := Lib.hid (RC7.out.below (Nat.le_refl _) hb)
          clear hn hq ho hb
          go_wp2_with fail
          refine (same_refl_row _ _ _ _ _ RD8.out RC8.out EQ.out).mono ?_
          rintro e w9 ⟨rfl, hb⟩
          have D9 := Lib.hid (D8.out.trans (hb.mono D8.out.size))
          have RC9 := Lib.hid (RC8.out.below (Nat.le_refl _) hb)
          clear hb EQ RD8
          go_wp2_with fail
          refine (union_any _ _ _ _ _ (HA.out.below (Nat.le_refl _) D9.out) (HB.out.below (Nat.le_refl _) D9.out)).mono ?_
          rintro e w10 ⟨vu, ou, rfl, hm, ho, hb⟩
          have MU := Lib.hid hm
          have RU := Lib.hid (ho.normRow hm.norm)
          have D10 := Lib.hid (D9.out.trans (hb.mono D9.out.size))
          have RC10 := Lib.hid (RC9.out.below (Nat.le_refl _) hb)
          clear hm ho hb
          go_wp2_with fail
          refine (close_any _ _ ou RU.out).mono ?_
          rintro e w11 ⟨vx, ox, rfl, hn, hq, ho, hb⟩
          have NX := Lib.hid hn
          have QX := Lib.hid hq
          have RX11 := Lib.hid (ho.normRow hn)
          have D11 := Lib.hid (D10.out.trans (hb.mono D10.out.size))
          have RC11 := Lib.hid (RC10.out.below (Nat.le_refl _) hb)
          clear hn hq ho hb RU
          go_wp2_with fail
          refine (close_any _ _ l' (HB.out.below (Nat.le_refl _) D11.out)).mono ?_
          rintro e w12 ⟨vb, ob, rfl, hn, hq, ho, hb⟩
          have NB := Lib.hid hn
          have QB := Lib.hid hq
          have RB12 := Lib.hid (ho.normRow hn)
          have D12 := Lib.hid (D11.out.trans (hb.mono D11.out.size))
          have RC12 := Lib.hid (RC11.out.below (Nat.le_refl _) hb)
          have RX12 := Lib.hid (RX11.out.below (Nat.le_refl _) hb)
          clear hn hq ho hb RX11
          go_wp2_with fail
          refine (union_any _ _ _ _ _ RC12.out RB12.out).mono ?_
          rintro e w13 ⟨vy, oy, rfl, hm, ho, hb⟩
          have EQ := Lib.hid (Fd.both_eq MU.out NX.out QX.out QC.out QB.out hm)
          have RY13 := Lib.hid (ho.normRow hm.norm)
          have D13 := Lib.hid (D12.out.trans (hb.mono D12.out.size))
          have RX13 := Lib.hid (RX12.out.below (Nat.le_refl _) hb)
          clear hm ho hb
          go_wp2_with fail
          refine (same_refl_row _ _ _ _ _ RX13.out RY13.out EQ.out).mono ?_
          rintro e w14 ⟨rfl, hb⟩
          have D14 := Lib.hid (D13.out.trans (hb.mono D13.out.size))
          clear hb
          go_wp2
          go_ret
          exact ⟨rfl, D14.out⟩
        · obtain rfl : I = S := by rw [HIN.out (by omega) (by omega), HX.out]
          have c3 : ¬ (1114111 : Int) < r := c2
          go_wp2_with fail
          refine (HCK.out _ RC4.out).mono ?_
          rintro e w5 ⟨rfl, hb⟩
          rw [HCZ.out]
          have D5 := Lib.hid (D4.out.trans (hb.mono D4.out.size))
          have RC5 := Lib.hid (RC4.out.below (Nat.le_refl _) hb)
          clear hb
          go_wp2_with fail
          refine (minus_any _ _ _ _ _ (HA.out.below (Nat.le_refl _) D5.out) RC5.out).mono ?_
          rintro e w6 ⟨vm, om, rfl, hm, ho, hb⟩
          obtain rfl := Fd.minus_nil QC.out hm
          obtain ⟨ma, mc, rfl⟩ := ho.empty
          have D6 := Lib.hid (D5.out.trans (hb.mono D5.out.size))
          have RC6 := Lib.hid (RC5.out.below (Nat.le_refl _) hb)
          clear hb hm ho
          have hh := has_any w6 vl cl r RC6.out
          rw [QC.out r, HI.out] at hh
          have HH := Lib.hid hh
          clear hh
          go_wp2_with fail
          refine HH.out.mono ?_
          rintro e w7 ⟨rfl, hb⟩
          have D7 := Lib.hid (D6.out.trans (hb.mono D6.out.size))
          have RC7 := Lib.hid (RC6.out.below (Nat.le_refl _) hb)
          clear hb HH
          go_wp2_with fail
          refine (close_any _ _ cl RC7.out).mono ?_
          rintro e w8 ⟨vd, od, rfl, hn, hq, ho, hb⟩
          have EQ := Lib.hid (Fd.twice_eq NC.out hn QC.out hq)
          have RD8 := Lib.hid (ho.normRow hn)
          have D8 := Lib.hid (D7.out.trans (hb.mono D7.out.size))
          have RC8 := Lib.hid (RC7.out.below (Nat.le_refl _) hb)
          clear hn hq ho hb
          go_wp2_with fail
          refine (same_refl_row _ _ _ _ _ RD8.out RC8.out EQ.out).mono ?_
          rintro e w9 ⟨rfl, hb⟩
          have D9 := Lib.hid (D8.out.trans (hb.mono D8.out.size))
          have RC9 := Lib.hid (RC8.out.below (Nat.le_refl _) hb)
          clear hb EQ RD8
          go_wp2_with fail
          refine (union_any _ _ _ _ _ (HA.out.below (Nat.le_refl _) D9.out) (HB.out.below (Nat.le_refl _) D9.out)).mono ?_
          rintro e w10 ⟨vu, ou, rfl, hm, ho, hb⟩
          have MU := Lib.hid hm
          have RU := Lib.hid (ho.normRow hm.norm)
          have D10 := Lib.hid (D9.out.trans (hb.mono D9.out.size))
          have RC10 := Lib.hid (RC9.out.below (Nat.le_refl _) hb)
          clear hm ho hb
          go_wp2_with fail
          refine (close_any _ _ ou RU.out).mono ?_
          rintro e w11 ⟨vx, ox, rfl, hn, hq, ho, hb⟩
          have NX := Lib.hid hn
          have QX := Lib.hid hq
          have RX11 := Lib.hid (ho.normRow hn)
          have D11 := Lib.hid (D10.out.trans (hb.mono D10.out.size))
          have RC11 := Lib.hid (RC10.out.below (Nat.le_refl _) hb)
          clear hn hq ho hb RU
          go_wp2_with fail
          refine (close_any _ _ l' (HB.out.below (Nat.le_refl _) D11.out)).mono ?_
          rintro e w12 ⟨vb, ob, rfl, hn, hq, ho, hb⟩
          have NB := Lib.hid hn
          have QB := Lib.hid hq
          have RB12 := Lib.hid (ho.normRow hn)
          have D12 := Lib.hid (D11.out.trans (hb.mono D11.out.size))
          have RC12 := Lib.hid (RC11.out.below (Nat.le_refl _) hb)
          have RX12 := Lib.hid (RX11.out.below (Nat.le_refl _) hb)
          clear hn hq ho hb RX11
          go_wp2_with fail
          refine (union_any _ _ _ _ _ RC12.out RB12.out).mono ?_
          rintro e w13 ⟨vy, oy, rfl, hm, ho, hb⟩
          have EQ := Lib.hid (Fd.both_eq MU.out NX.out QX.out QC.out QB.out hm)
          have RY13 := Lib.hid (ho.normRow hm.norm)
          have D13 := Lib.hid (D12.out.trans (hb.mono D12.out.size))
          have RX13 := Lib.hid (RX12.out.below (Nat.le_refl _) hb)
          clear hm ho hb
          go_wp2_with fail
          refine (same_refl_row _ _ _ _ _ RX13.out RY13.out EQ.out).mono ?_
          rintro e w14 ⟨rfl, hb⟩
          have D14 := Lib.hid (D13.out.trans (hb.mono D13.out.size))
          clear hb
          go_wp2
          go_ret
          exact ⟨rfl, D14.out⟩
set_option maxRecDepth 100000 in
set_option maxHeartbeats 2000000 in
theorem walkFoldClosed (W : World) (v : Value) (l : List (Int × Int)) (v' : Value) (l' : List (Int × Int)) (r : Int) (hr : RRow W v l) (hr' : RRow W v' l') (h3 : (Lit.int .i64 r).wf = true) :
    Calls Try.prog 7 #[v, v', .int .i64 r] W fun e w' => e = .returned (.bool true) ∧ Below W.heap.size W w' := by
  have HR := Lib.hid hr
  have HR' := Lib.hid hr'
  obtain ⟨a, ca, rfl, hl, _⟩ := hr
  obtain ⟨b, cb, rfl, hl', _⟩ := hr'
  obtain ⟨n, hn⟩ : ∃ n, l.length = n := ⟨_, rfl⟩
  obtain ⟨m, hm⟩ : ∃ m, l'.length = m := ⟨_, rfl⟩
  rw [hn] at HR hl ⊢
  rw [hm] at HR' hl' ⊢
  clear hn hm
  by_cases h1 : 6 < n
  · go_enter Try.func7, Try.ntmps7
    go_wp2_with fail
    refine (works_any _).mono ?_
    rintro e w1 ⟨rfl, hb⟩
    have D1 := Lib.hid hb
    clear hb
    go_wp2
    go_ret
    exact ⟨rfl, D1.out⟩
  · by_cases h2 : 6 < m
    · go_enter Try.func7, Try.ntmps7
      go_wp2_with fail
      refine (works_any _).mono ?_
      rintro e w1 ⟨rfl, hb⟩
      have D1 := Lib.hid hb
      clear hb
      go_wp2
      go_ret
      exact ⟨rfl, D1.out⟩
    · exact closed_core W l l' a b n m ca cb r (by omega) (by omega) HR.out HR'.out
end Go.Proofs.Ytbccaljfofnepaa
