/- The reference's bands (burinref05): the contract of one, which calls itself. -/
import Derived.Test.YtfopcgbfbedcjaaGp15
import Derived.Test.YtfopcgbfbedcjaaGp9
import Derived.Deep.RegionHeld3
import Derived.IntWalk
namespace Go.Proofs.Ytfopcgbfbedcjaa
open Go.RowKit
set_option linter.unusedVariables false
/-- What one hands back: the sequences of a range of runes. -/
def SeqPost (L : List (List (Int × Int))) (W : World) (e : Ending) (w' : World) : Prop := ∃ v us, e = .returned v ∧ QOwnU w' W.heap.size v us L ∧ Below W.heap.size W w'
def OneOk (N : Nat) : Prop := ∀ (W : World) (w : Nat) (lo hi : Int), (hi - lo).toNat ≤ N → Bd.Cls w lo hi → Calls Try.prog 26 #[.int .i64 lo, .int .i64 hi] W (SeqPost (Bd.oneL lo hi) W)
theorem one_sub {N : Nat} (ih : ∀ k, k < N → OneOk k) (W : World) {w : Nat} {lo hi a b : Int} (h : Bd.Cls w lo hi) (hN : (hi - lo).toNat ≤ N) (h1 : lo ≤ a) (h2 : b ≤ hi) (h3 : a ≤ b) (h4 : b - a < hi - lo) :
    Calls Try.prog 26 #[.int .i64 a, .int .i64 b] W (SeqPost (Bd.oneL a b) W) :=
  ih (b - a).toNat (by omega) W w a b (Nat.le_refl _) (h.sub h1 h2 h3)
set_option maxRecDepth 100000 in
set_option maxHeartbeats 4000000 in
theorem one_step (N : Nat) (ih : ∀ k, k < N → OneOk k) : OneOk N := by
  intro W w lo hi hN hcl
  obtain ⟨i1, hi1, hy0, hy1, hy2⟩ := info_parts Try.infoSeq
  obtain ⟨i0, hi0, hz0, hz1, hz2⟩ := info_parts Try.infoRange
  have mixed : Try.prog.follows .mixedOrders = true := by kernel_rfl
  have hle := hcl.le
  have hbd : w ≤ 4 ∧ 1 ≤ w ∧ 0 ≤ lo ∧ hi ≤ 1114111 := by have := hcl.bd; omega
  obtain ⟨w4, w1, lo0, hi0'⟩ := hbd
  have hwl := hcl.width (Int.le_refl lo) hle
  have hwh := hcl.width hle (Int.le_refl hi)
  have HEA := Lib.hid (refEncode_yes lo (by rw [hwl]; omega) W)
  have HEB := Lib.hid (fun w' => refEncode_yes hi (by rw [hwh]; omega) w')
  have ea := Bd.encIs hwl
  have eb := Bd.encIs hwh
  obtain ⟨A, hA⟩ : ∃ A, strOfNums (Utf.encN lo) = A := ⟨_, rfl⟩
  obtain ⟨B, hB⟩ : ∃ B, strOfNums (Utf.encN hi) = B := ⟨_, rfl⟩
  rw [hA] at HEA ea
  rw [hB] at HEB eb
  have EA := Lib.hid ea
  have EB := Lib.hid eb
  have sA := ea.size
  have sB := eb.size
  have hall : Bd.cutAll lo hi = Bd.cutFrom lo hi w 1 3 := by unfold Bd.cutAll; rw [hwl]; rfl
  have HALL := Lib.hid hall
  have HCL := Lib.hid hcl
  have HIH := Lib.hid ih
  have hlen := Bd.oneL_len hle
  obtain ⟨L, hL⟩ : ∃ L, Bd.oneL lo hi = L := ⟨_, rfl⟩
  rw [hL]
  have HL := Lib.hid hL
  clear hA hB ea eb hall hcl ih hwl hwh hL hlen
  go_enter Try.func26, Try.ntmps26
  go_wp2_with fail
  refine HEA.out.mono ?_
  rintro e wa ⟨rfl, hb⟩
  have D1 := Lib.hid hb
  clear hb
  go_wp2_with fail
  refine (HEB.out _).mono ?_
  rintro e wb ⟨rfl, hb⟩
  have D2 := Lib.hid (D1.out.trans (hb.mono D1.out.size))
  clear hb
  go_wp2
  go_loopw [9] (fun I wr => ∃ i f : Nat, 1 ≤ i ∧ i ≤ w ∧ I = .int .i64 i ∧ Hid (Bd.cutAll lo hi = Bd.cutFrom lo hi w i f) ∧ (i < w → i + f = 4) ∧ Hid (Below W.heap.size W wr)) (fun I _ => 5 - (intOf I).toNat)
  case atStart => exact ⟨1, 3, Nat.le_refl _, by omega, rfl, HALL, by omega, D2⟩
  case round =>
    obtain ⟨i, f, h1, hiw, rfl, HC, hf, HE⟩ := hrel
    obtain ⟨wo, rfl⟩ : ∃ wo : World, wo = wr := ⟨_, rfl⟩
    by_cases hlt : i < w
    · have hf4 := hf hlt
      obtain ⟨g, rfl⟩ : ∃ g, f = g + 1 := ⟨f - 1, by omega⟩
      have hpre := EA.out.pre EB.out h1 hlt
      have s1 : (w : Int) - (i : Int) = ((w - i : Nat) : Int) := by omega
      have s2 : w - i ≤ w := by omega
      by_cases c1 : lo / Bd.pw i = hi / Bd.pw i
      · rw [decide_eq_true c1] at hpre
        have HC2 := Lib.hid (HC.out.trans (Bd.cutFrom_none hlt (Bd.cut_same c1)))
        clear c1 hf
        go_wp2
        go_quiet (fail)
        go_wp2
        go_roundw
        case rel => exact ⟨i + 1, g, by omega, by omega, by go_num, HC2, by omega, Lib.hid (below_drewN HE.out _)⟩
        case measure => simp [intOf]; omega
      · rw [decide_eq_false c1] at hpre
        have HAL := Lib.hid (fun w' => all_any A (by rw [sA]; omega) i (by rw [sA]; omega) 128 w')
        have HBL := Lib.hid (fun w' => all_any B (by rw [sB]; omega) i (by rw [sB]; omega) 191 w')
        have HAF := Lib.hid (fun w' => filled_any A (by rw [sA]; omega) i (by rw [sA]; omega) 191 (by decide) (by decide) w')
        have HBF := Lib.hid (fun w' => filled_any B (by rw [sB]; omega) i (by rw [sB]; omega) 128 (by decide) (by decide) w')
        rw [EA.out.low h1 hlt] at HAL
        rw [EB.out.high h1 hlt] at HBL
        by_cases c2 : lo % Bd.pw i = 0
        · rw [decide_eq_true c2] at HAL
          by_cases c3 : hi % Bd.pw i = Bd.pw i - 1
          · rw [decide_eq_true c3] at HBL
            have HC2 := Lib.hid (HC.out.trans (Bd.cutFrom_none hlt (Bd.cut_no c1 c2 c3)))
            clear c1 c2 c3 hf HAF HBF
            go_wp2
            go_quiet (fail)
            go_wp2_with fail
            refine (HAL.out _).mono ?_
            rintro e w3 ⟨rfl, hw3⟩
            subst hw3
            go_wp2_with fail
            refine (HBL.out _).mono ?_
            rintro e w3 ⟨rfl, hw3⟩
            subst hw3
            go_wp2
            go_roundw
            case rel => exact ⟨i + 1, g, by omega, by omega, by go_num, HC2, by omega, Lib.hid (below_drewN HE.out _)⟩
            case measure => simp [intOf]; omega
          · rw [decide_eq_false c3] at HBL
            have hcut0 := HC.out.trans (Bd.cutFrom_some hlt (Bd.cut_high c1 c2 c3))
            have hin := Bd.cutAll_in hle hcut0
            have hwm : Utf.width (hi / Bd.pw i * Bd.pw i) = w := HCL.out.width (by omega) (by rcases Bd.pw_cases i with e | e | e | e <;> rw [e] <;> omega)
            rw [EB.out.fillLow (by omega) h1 hlt hwm] at HBF
            obtain ⟨m, hm⟩ : ∃ m, hi / Bd.pw i * Bd.pw i - 1 = m := ⟨_, rfl⟩
            rw [hm] at hcut0
            have hm' : hi / Bd.pw i * Bd.pw i = m + 1 := by omega
            rw [hm'] at HBF
            have hcut := hcut0
            clear c1 c2 c3 hf HAF hcut0 hin hwm hm hm'
            go_wp2
            go_quiet (fail)
            go_wp2_with fail
            refine (HAL.out _).mono ?_
            rintro e w3 ⟨rfl, hw3⟩
            subst hw3
            go_wp2_with fail
            refine (HBL.out _).mono ?_
            rintro e w3 ⟨rfl, hw3⟩
            subst hw3
            go_wp2_with fail
            refine (HBF.out _).mono ?_
            rintro e w4 ⟨rfl, hb4⟩
            have DF := Lib.hid ((below_drewN HE.out nq).trans (hb4.mono (below_drewN HE.out nq).size))
            clear hb4
            obtain ⟨hm1, hm2⟩ := Bd.cutAll_in hle hcut
            have hjo := Bd.oneL_some hle hcut
            rw [HL.out] at hjo
            have hla := Bd.oneL_len (lo := lo) (hi := m) (by omega)
            have hlb := Bd.oneL_len (lo := m + 1) (hi := hi) (by omega)
            have HS1 := Lib.hid (fun w' => one_sub HIH.out w' HCL.out hN (Int.le_refl lo) (b := m) (by omega) (by omega) (by omega))
            have HS2 := Lib.hid (fun w' => one_sub HIH.out w' HCL.out hN (a := m + 1) (by omega) (Int.le_refl hi) (by omega) (by omega))
            obtain ⟨La, hLa⟩ : ∃ La, Bd.oneL lo m = La := ⟨_, rfl⟩
            obtain ⟨Lb, hLb⟩ : ∃ Lb, Bd.oneL (m + 1) hi = Lb := ⟨_, rfl⟩
            rw [hLa] at hjo hla HS1
            rw [hLb] at hjo hlb HS2
            have HJO := Lib.hid hjo
            clear hLa hLb hjo hcut
            go_wp2_with fail
            refine (HS1.out _).mono ?_
            rintro e w5 ⟨v1, us1, rfl, q1, hb1⟩
            have Q1 := Lib.hid q1
            have D5 := Lib.hid (DF.out.trans (hb1.mono DF.out.size))
            clear q1 hb1
            go_wp2_with fail
            refine (HS2.out _).mono ?_
            rintro e w6 ⟨v2, us2, rfl, q2, hb2⟩
            have q1 := Q1.out.lower DF.out.size
            have n1 := q1.1
            have n2 := q2.1
            have hold : ∀ b, v1.ownBlock = some b → b < w5.heap.size := fun b e => (q1.2.1.lt b e).2
            have holdi : ∀ j, j < us1.length → ∀ b, (us1[j]?.getD nilV).ownBlock = some b → b < w5.heap.size := fun j hj b e => ((q1.2.2.1 j hj).lt e).2
            have q16 := q1.below hb2
            have hown := q16.2.1
            obtain ⟨b, c, rfl, hnews, hcells⟩ := q2.news (by omega)
            have hs5 := D5.out.size
            have hd6 := D5.out.trans (hb2.mono hs5)
            have hs6 := hd6.size
            have u1 : us1.length ≤ 1114112 := by omega
            have u2 : us2.length ≤ 1114112 := by omega
            have u3 : 0 < us2.length := by omega
            obtain ⟨k1, hk1⟩ : ∃ k1, us1.length = k1 := ⟨_, rfl⟩
            obtain ⟨k2, hk2⟩ : ∃ k2, us2.length = k2 := ⟨_, rfl⟩
            have HQ16 := Lib.hid q16
            have HQ2 := Lib.hid q2
            have HH1 := Lib.hid hold
            have HH2 := Lib.hid holdi
            have HD6 := Lib.hid hd6
            have HK1 := Lib.hid hk1
            have HK2 := Lib.hid hk2
            rw [hk1] at hown u1
            rw [hk2] at u2 u3 ⊢
            clear hold holdi q16 q2 q1 hd6 n1 n2 hk1 hb2 hla hlb
            go_wp2_with (at_builtin; (refine wpList_append_lies _ (by rfl) _ _ 26 (by rfl) W.heap.size 22 i1 nilV 1 24 Try.underlying26 hi1 hy0 hy1 hy2 rfl (by decide) v1 k1 us1 (by rfl) hown ⟨b, 0, none⟩ k2 c us2 (by rfl) (by rw [hk2]; omega) hnews hcells (by omega) (by unfold maxLen; omega) (by omega) hs6 w6.heap.size rfl ?_))
            intro gg cap1 wz hown1 hgrow hat hlt1
            rw [← HK1.out, ← HK2.out] at hown1
            have hjn := QOwnU.join HQ16.out HQ2.out hs5 HH1.out HH2.out hown1 hgrow (hat.imp id (fun h => by omega))
            rw [HK1.out, HK2.out, ← HJO.out] at hjn
            have HJN := Lib.hid hjn
            have HDZ := Lib.hid (HD6.out.grown hgrow hs6 (fun q hq => (hown.lt q hq).1))
            clear hjn hown1 hgrow hat hlt1 hown hnews hcells hk2
            go_wp2
            go_ret
            exact ⟨_, _, rfl, HJN.out, HDZ.out⟩
        · rw [decide_eq_false c2] at HAL
          have hcut0 := HC.out.trans (Bd.cutFrom_some hlt (Bd.cut_low c1 c2))
          have hin := Bd.cutAll_in hle hcut0
          have hwm : Utf.width (lo / Bd.pw i * Bd.pw i + Bd.pw i - 1) = w := HCL.out.width hin.1 (by omega)
          rw [EA.out.fillHigh (by omega) h1 hlt hwm] at HAF
          obtain ⟨m, hm⟩ : ∃ m, lo / Bd.pw i * Bd.pw i + Bd.pw i - 1 = m := ⟨_, rfl⟩
          rw [hm] at hcut0 HAF
          have hcut := hcut0
          clear c1 c2 hf HBF HBL hcut0 hin hwm hm
          go_wp2
          go_quiet (fail)
          go_wp2_with fail
          refine (HAL.out _).mono ?_
          rintro e w3 ⟨rfl, hw3⟩
          subst hw3
          go_wp2_with fail
          refine (HAF.out _).mono ?_
          rintro e w4 ⟨rfl, hb4⟩
          have DF := Lib.hid ((below_drewN HE.out nq).trans (hb4.mono (below_drewN HE.out nq).size))
          clear hb4
          obtain ⟨hm1, hm2⟩ := Bd.cutAll_in hle hcut
          have hjo := Bd.oneL_some hle hcut
          rw [HL.out] at hjo
          have hla := Bd.oneL_len (lo := lo) (hi := m) (by omega)
          have hlb := Bd.oneL_len (lo := m + 1) (hi := hi) (by omega)
          have HS1 := Lib.hid (fun w' => one_sub HIH.out w' HCL.out hN (Int.le_refl lo) (b := m) (by omega) (by omega) (by omega))
          have HS2 := Lib.hid (fun w' => one_sub HIH.out w' HCL.out hN (a := m + 1) (by omega) (Int.le_refl hi) (by omega) (by omega))
          obtain ⟨La, hLa⟩ : ∃ La, Bd.oneL lo m = La := ⟨_, rfl⟩
          obtain ⟨Lb, hLb⟩ : ∃ Lb, Bd.oneL (m + 1) hi = Lb := ⟨_, rfl⟩
          rw [hLa] at hjo hla HS1
          rw [hLb] at hjo hlb HS2
          have HJO := Lib.hid hjo
          clear hLa hLb hjo hcut
          go_wp2_with fail
          refine (HS1.out _).mono ?_
          rintro e w5 ⟨v1, us1, rfl, q1, hb1⟩
          have Q1 := Lib.hid q1
          have D5 := Lib.hid (DF.out.trans (hb1.mono DF.out.size))
          clear q1 hb1
          go_wp2_with fail
          refine (HS2.out _).mono ?_
          rintro e w6 ⟨v2, us2, rfl, q2, hb2⟩
          have q1 := Q1.out.lower DF.out.size
          have n1 := q1.1
          have n2 := q2.1
          have hold : ∀ b, v1.ownBlock = some b → b < w5.heap.size := fun b e => (q1.2.1.lt b e).2
          have holdi : ∀ j, j < us1.length → ∀ b, (us1[j]?.getD nilV).ownBlock = some b → b < w5.heap.size := fun j hj b e => ((q1.2.2.1 j hj).lt e).2
          have q16 := q1.below hb2
          have hown := q16.2.1
          obtain ⟨b, c, rfl, hnews, hcells⟩ := q2.news (by omega)
          have hs5 := D5.out.size
          have hd6 := D5.out.trans (hb2.mono hs5)
          have hs6 := hd6.size
          have u1 : us1.length ≤ 1114112 := by omega
          have u2 : us2.length ≤ 1114112 := by omega
          have u3 : 0 < us2.length := by omega
          obtain ⟨k1, hk1⟩ : ∃ k1, us1.length = k1 := ⟨_, rfl⟩
          obtain ⟨k2, hk2⟩ : ∃ k2, us2.length = k2 := ⟨_, rfl⟩
          have HQ16 := Lib.hid q16
          have HQ2 := Lib.hid q2
          have HH1 := Lib.hid hold
          have HH2 := Lib.hid holdi
          have HD6 := Lib.hid hd6
          have HK1 := Lib.hid hk1
          have HK2 := Lib.hid hk2
          rw [hk1] at hown u1
          rw [hk2] at u2 u3 ⊢
          clear hold holdi q16 q2 q1 hd6 n1 n2 hk1 hb2 hla hlb
          go_wp2_with (at_builtin; (refine wpList_append_lies _ (by rfl) _ _ 26 (by rfl) W.heap.size 22 i1 nilV 1 24 Try.underlying26 hi1 hy0 hy1 hy2 rfl (by decide) v1 k1 us1 (by rfl) hown ⟨b, 0, none⟩ k2 c us2 (by rfl) (by rw [hk2]; omega) hnews hcells (by omega) (by unfold maxLen; omega) (by omega) hs6 w6.heap.size rfl ?_))
          intro gg cap1 wz hown1 hgrow hat hlt1
          rw [← HK1.out, ← HK2.out] at hown1
          have hjn := QOwnU.join HQ16.out HQ2.out hs5 HH1.out HH2.out hown1 hgrow (hat.imp id (fun h => by omega))
          rw [HK1.out, HK2.out, ← HJO.out] at hjn
          have HJN := Lib.hid hjn
          have HDZ := Lib.hid (HD6.out.grown hgrow hs6 (fun q hq => (hown.lt q hq).1))
          clear hjn hown1 hgrow hat hlt1 hown hnews hcells hk2
          go_wp2
          go_ret
          exact ⟨_, _, rfl, HJN.out, HDZ.out⟩
    · have hiw2 : i = w := by omega
      have hnone := HC.out.trans (Bd.cutFrom_end (by omega))
      have hz := Bd.oneL_none hnone
      rw [HL.out] at hz
      have HZ := Lib.hid hz
      have lA := EA.out.nums
      have lB := EB.out.nums
      have hzl : (Bd.zipE lo hi).length = w := by
        unfold Bd.zipE
        rw [List.length_zip, ← lA, ← lB, Utf.nums_length, Utf.nums_length, sA, sB]; omega
      have hzk : ∀ k, (ha : k < A.size) → (hb : k < B.size) → (Bd.zipE lo hi)[k]?.getD (0, 0) = ((A[k].toNat : Int), (B[k].toNat : Int)) := fun k ha hb => by
        unfold Bd.zipE
        rw [← lA, ← lB]
        have h1 := Utf.nums_at A k ha
        have h2 := Utf.nums_at B k hb
        have g1 : k < (Utf.nums A).length := by rw [Utf.nums_length]; exact ha
        have g2 : k < (Utf.nums B).length := by rw [Utf.nums_length]; exact hb
        rw [List.getElem?_eq_getElem g1] at h1
        rw [List.getElem?_eq_getElem g2] at h2
        rw [List.getElem?_eq_getElem (by rw [List.length_zip]; omega), List.getElem_zip]
        simp only [Option.getD_some] at h1 h2 ⊢
        rw [h1, h2]
      obtain ⟨Q, hQ⟩ : ∃ Q, Bd.zipE lo hi = Q := ⟨_, rfl⟩
      rw [hQ] at hzl hzk HZ
      have HZL := Lib.hid hzl
      have HZK := Lib.hid hzk
      clear hnone hz lA lB hzl hzk hQ hf
      subst hiw2
      go_wp2
      go_loopw [12, 13] (fun V K wr => ∃ k : Nat, k ≤ i ∧ K = .int .i64 k ∧ Hid (RgOwn wr W.heap.size V (Q.take k)) ∧ Hid (Below W.heap.size W wr)) (fun _ K _ => i - (intOf K).toNat)
      case atStart => exact ⟨0, Nat.zero_le _, rfl, Lib.hid (by rw [List.take_zero]; exact RgOwn.nil), HE⟩
      case round =>
        obtain ⟨k, hk, rfl, HO, HB⟩ := hrel
        have hsz := HB.out.size
        by_cases hkl : k < i
        · have kA : k < A.size := by omega
          have kB : k < B.size := by omega
          have kk0 : (0 : Int) ≤ (k : Int) := by omega
          have kk1 : (k : Int) < (i : Int) := by omega
          have hp := HZK.out k kA kB
          have hts : Q.take (k + 1) = Q.take k ++ [((A[k].toNat : Int), (B[k].toNat : Int))] := by
            rw [List.take_succ_eq_append_getElem (by rw [HZL.out]; exact hkl)]
            rw [List.getElem?_eq_getElem (by rw [HZL.out]; exact hkl)] at hp
            rw [← hp]; rfl
          have hml : (Q.take k).length = k := by rw [List.length_take, HZL.out]; omega
          have b1 := A[k].toNat_lt
          have b2 := B[k].toNat_lt
          have hown := HO.out
          unfold RgOwn at hown
          rw [hml] at hown
          have HT := Lib.hid hts
          have HML := Lib.hid hml
          clear hp hts hml
          go_wp2
          have ww1 : IntKind.i64.wrap (A[k].toNat : Int) = (A[k].toNat : Int) := IntWalk.i64_in _ (by omega)
          have ww2 : IntKind.i64.wrap (B[k].toNat : Int) = (B[k].toNat : Int) := IntWalk.i64_in _ (by omega)
          go_region_held3 (fun _ => True)
            (trivial)
            ((refine step_append_lies _ (by rfl) _ _ 22 (by rfl) W.heap.size 44 i0 (.agg #[.int .i64 0, .int .i64 0]) 2 16 Try.underlying22 hi0 hz0 hz1 hz2 rfl (by omega) _ k (flat2 (Q.take k)) (by rfl) ((hown.alloc _).drew)
                ⟨wr.heap.size, 0, none⟩ 1 1 [.int .i64 (A[k].toNat : Int), .int .i64 (B[k].toNat : Int)] (by rfl) (by rfl) (World.news_of_block (cs := #[.int .i64 (A[k].toNat : Int), .int .i64 (B[k].toNat : Int)]) (t := 44) (fr := (0, 0)) (heap_alloc_new wr _)) (by simp [Value.oneCell'])
                (by omega) (by unfold maxLen; omega) (by omega) (by simp; omega) (wr.heap.size + 1) (by simp) ?_; intro gg cap1 wz hown1 hgrow hat hlt1))
          all_goals
            have hO2 : RgOwn wz W.heap.size (.slice (some ⟨gg, 0, none⟩) (k + 1) cap1) (Q.take (k + 1)) := by
              rw [HT.out]; unfold RgOwn; rw [List.length_append, flat2_snoc, HML.out]; exact hown1
            have hB2 := (below_drewN (HB.out.alloc hsz _) 1).grown hgrow (by simp; omega) (fun q hq => (hown.lt q hq).1)
            have HO2 := Lib.hid hO2
            have HB2 := Lib.hid hB2
            clear hO2 hown1 hgrow hown hB2 hat hlt1 ww1 ww2
            go_wp2
            go_roundw
            case rel => exact ⟨k + 1, by omega, by go_num, HO2, HB2⟩
            case measure => simp [intOf]; omega
        · obtain rfl : k = i := by omega
          have hO := HO.out
          rw [List.take_of_length_le (by rw [HZL.out]; exact Nat.le_refl _)] at hO
          obtain ⟨sa, sc, rfl⟩ := hO.slice
          have hone := QOwnU.one hO hsz
          rw [← HZ.out] at hone
          rw [HZL.out] at hone ⊢
          have HO1 := Lib.hid hone
          have HBZ := Lib.hid (HB.out.alloc hsz (.cells #[.slice sa k sc] 22))
          have kk1 : ¬ (k : Int) < (k : Int) := by omega
          clear hO hone
          go_wp2
          go_ret
          exact ⟨_, _, rfl, HO1.out, HBZ.out⟩
theorem one_all : ∀ N, OneOk N := by
  intro N
  induction N using Nat.strongRecOn with
  | _ N ih => exact one_step N ih
end Go.Proofs.Ytfopcgbfbedcjaa
