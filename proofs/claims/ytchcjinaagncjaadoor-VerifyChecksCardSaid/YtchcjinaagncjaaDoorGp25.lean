/- burinref16: led, Order. -/
import Derived.Test.YtchcjinaagncjaaDoorGp24
import Derived.Test.YtchcjinaagncjaaDoorGp13
import Derived.Deep.LoopGhost
namespace Go.Proofs.YtchcjinaagncjaaDoor
open Go.RowKit
set_option linter.unusedVariables false
set_option linter.unusedSimpArgs false
namespace Pgm
/-- One that is left leads to t. -/
def ledB (l : List In) (out : List Nat) (k t : Nat) : Bool := (List.range k).any fun j => !decide (j ∈ out) && decide (t ∈ inst l j)
theorem ledB_succ (l : List In) (out : List Nat) (k t : Nat) : ledB l out (k + 1) t = (ledB l out k t || (!decide (k ∈ out) && decide (t ∈ inst l k))) := by
  unfold ledB; rw [List.range_succ, List.any_append]; simp
theorem ledB_at {l : List In} {out : List Nat} {k t : Nat} (hk : k < l.length) (h : (!decide (k ∈ out) && decide (t ∈ inst l k)) = true) : ledB l out l.length t = true := by
  unfold ledB
  exact List.any_eq_true.2 ⟨k, List.mem_range.2 hk, h⟩
theorem rdy_led (l : List In) (out : List Nat) (i : Nat) : rdy l out i = (!decide (i ∈ out) && !ledB l out l.length i) := by
  unfold rdy ledB
  congr 1
  · simp
  · rw [List.not_any_eq_all_not]
    congr 1
    funext j
    cases decide (j ∈ out) <;> cases decide (i ∈ inst l j) <;> rfl
theorem nat_mem (O : List Nat) (t : Nat) : decide ((t : Int) ∈ O.map Int.ofNat) = decide (t ∈ O) := by
  apply decide_eq_decide.2
  rw [List.mem_map]
  constructor
  · rintro ⟨a, h1, h2⟩
    have e : a = t := Int.ofNat.inj h2
    exact e ▸ h1
  · exact fun h => ⟨t, h, rfl⟩
theorem ld_mem {l : List In} (hT : Tg l) {k : Nat} (hk : k < l.length) (t : Nat) : decide (t ∈ inst l k) = (!decide (l[k].op = 1) && decide ((t : Int) ∈ ldL l[k])) := by
  rw [inst_at hk]
  apply Bool.eq_iff_iff.2
  simp only [Bool.and_eq_true, Bool.not_eq_true', decide_eq_true_iff, decide_eq_false_iff_not, ldL_mem]
  unfold etN etL
  constructor
  · intro h
    obtain ⟨z, h1, h2⟩ := List.mem_map.1 h
    by_cases e : l[k].op = 1
    · rw [if_pos e] at h1; cases h1
    · rw [if_neg e] at h1
      have := hT _ (List.getElem_mem hk) z h1
      refine ⟨e, ?_⟩
      have : z = (t : Int) := by omega
      exact this ▸ h1
  · rintro ⟨h1, h2⟩
    rw [if_neg h1]
    exact List.mem_map.2 ⟨_, h2, by simp⟩
set_option maxRecDepth 100000 in
set_option maxHeartbeats 8000000 in
theorem led_any (l : List In) (st sl : Int) (vs : Value) (W : World) (hr : InRow W vs l) (hT : Tg l) (hl4 : l.length ≤ 4000) (ao : Option Addr) (co : Nat) (O : List Nat) (lo : Nat) (hO : Nrd W ao (O.map Int.ofNat) lo) (ho4 : O.length ≤ 4000) (t : Nat) :
    Calls Tryd.prog 56 #[.agg #[vs, .int .i64 st, .int .i64 sl], .slice ao O.length co, .int .i64 (t : Int)] W fun e w' => e = .returned (.bool (ledB l O l.length t)) ∧ Below W.heap.size W w' := by
  obtain ⟨a, cap, rfl, hlm, hbd, hcc⟩ := hr
  obtain ⟨n, hn⟩ : ∃ n, l.length = n := ⟨_, rfl⟩
  obtain ⟨B, hB⟩ : ∃ B, W.heap.size = B := ⟨_, rfl⟩
  obtain ⟨W1, hW1⟩ : ∃ W1, W.alloc (.cells #[.slice a n cap, .int .i64 st, .int .i64 sl] 46) = W1 := ⟨_, rfl⟩
  have hx1 : W1.heap[B]? = some (.cells #[.slice a n cap, .int .i64 st, .int .i64 sl] 46 (0, 0)) := by rw [← hW1, ← hB]; exact heap_alloc_new W _
  have hb1 : Below B W W1 := by rw [← hW1, ← hB]; exact (Below.refl _ _).alloc (Nat.le_refl _) _
  have HX1 := Lib.hid hx1
  have HB1 := Lib.hid hb1
  have HW1 := Lib.hid hW1
  have HN := Lib.hid hn
  have HBS := Lib.hid hB
  have HC := Lib.hid hcc
  have HT := Lib.hid hT
  have HHO := Lib.hid (fun w (h : Below B W w) (k : Nat) => has16_any w ao co _ lo (hO.below h (by rw [hB]; exact Nat.le_refl _)) (by rw [List.length_map]; omega) (k : Int))
  obtain ⟨m, hm⟩ : ∃ m, O.length = m := ⟨_, rfl⟩
  simp only [List.length_map, hm, nat_mem] at HHO
  rw [hm]
  have HLA : Hid (∀ k, k < n → (!decide (k ∈ O) && decide (t ∈ inst l k)) = true → ledB l O n t = true) := Lib.hid (fun k hk h => by rw [← hn] at hk ⊢; exact ledB_at hk h)
  have HLM : Hid (∀ (k : Nat) (hk : k < l.length), decide (t ∈ inst l k) = (!decide (l[k].op = 1) && decide ((t : Int) ∈ ldL l[k]))) := Lib.hid (fun k hk => ld_mem hT hk t)
  have n0 : (0 : Int) ≤ (n : Int) := by omega
  rw [hn] at hl4 ⊢
  rw [hB]
  obtain ⟨R, hR⟩ : ∃ R, ledB l O n t = R := ⟨_, rfl⟩
  have HR := Lib.hid hR
  rw [hR] at HLA ⊢
  clear hn hW1 hx1 hb1 hB hcc hbd hO hm hT hR hlm ho4
  go_enter Tryd.func56, Tryd.ntmps56
  go_wp2
  rw [HW1.out, HBS.out]
  go_loopw [7] (fun K wr => ∃ k : Nat, k ≤ n ∧ K = .int .i64 (k : Int) ∧ Hid (ledB l O k t = false) ∧ Hid (wr.heap[B]? = some (.cells #[.slice a n cap, .int .i64 st, .int .i64 sl] 46 (0, 0))) ∧ Hid (Below B W wr)) (fun K _ => n - (intOf K).toNat)
  case atStart => exact ⟨0, by omega, rfl, Lib.hid rfl, HX1, HB1⟩
  case round =>
    obtain ⟨k, hk, rfl, HA, HX, HB⟩ := hrel
    have c0 := blkp HX.out 0
    simp only [List.getElem?_toArray, List.getElem?_cons_zero] at c0
    by_cases hlt : k < n
    · have hkl : k < l.length := by rw [HN.out]; exact hlt
      obtain ⟨b, off, rfl, hbl, hcc⟩ := HC.out k hkl
      have HLK := Lib.hid (HLM.out k hkl)
      have HS := Lib.hid (ledB_succ l O k t)
      obtain ⟨y, hy⟩ : ∃ y, l[k] = y := ⟨_, rfl⟩
      rw [hy] at hcc HLK
      have kc : ∀ q, q < 5 → wr.cell? ⟨b, off + k * 5 + q, none⟩ = y.cs[q]? := fun q hq => (HB.out.cell (p := ⟨b, off + k * 5 + q, none⟩) (by show b < B; rw [← HBS.out]; exact hbl)).trans (hcc q hq)
      have q0 := kc 0 (by omega)
      have q1 := kc 1 (by omega)
      have q2 := kc 2 (by omega)
      have q3 := kc 3 (by omega)
      have q4 := kc 4 (by omega)
      simp only [In.cs, List.getElem?_cons_zero, List.getElem?_cons_succ, Nat.add_zero] at q0 q1 q2 q3 q4
      have HH := Lib.hid (HHO.out wr HB.out k)
      have HLD := Lib.hid (leads_any y wr)
      have k0 : (0 : Int) ≤ (k : Int) := by omega
      have k1 : (k : Int) < (n : Int) := by omega
      have hBl : B < wr.heap.size := (Array.getElem?_eq_some_iff.1 HX.out).1
      have HKN := Lib.hid (HLA.out k hlt)
      rw [HLK.out] at HS HKN
      clear kc hcc hy hkl
      by_cases ho : y.op = 1
      · have HA2 : Hid (ledB l O (k + 1) t = false) := Lib.hid (by rw [HS.out, HA.out, decide_eq_true ho]; simp)
        rw [ho] at q0
        clear ho
        go_wp2
        go_roundw
        case rel => exact ⟨k + 1, by omega, by go_num, HA2, HX, HB⟩
        case measure => simp [intOf]; omega
      have ho' : ¬ y.op = 1 := ho
      obtain ⟨z, hz⟩ : ∃ z, decide (k ∈ O) = z := ⟨_, rfl⟩
      rw [hz] at HH HS HKN
      clear hz
      cases z with
      | true =>
        have HA2 : Hid (ledB l O (k + 1) t = false) := Lib.hid (by rw [HS.out, HA.out]; simp)
        clear ho
        go_wp2_with fail
        refine HH.out.mono ?_
        rintro e w ⟨rfl, hw⟩
        subst hw
        go_wp2
        go_roundw
        case rel => exact ⟨k + 1, by omega, by go_num, HA2, HX, HB⟩
        case measure => simp [intOf]; omega
      | false =>
        rw [decide_eq_false ho] at HS HKN
        clear ho
        go_wp2_with fail
        refine HH.out.mono ?_
        rintro e w ⟨rfl, hw⟩
        subst hw
        go_wp2_with fail
        refine HLD.out.mono ?_
        rintro e w5 ⟨v5, rfl, ho5, hb5⟩
        obtain ⟨a5, c5, rfl, hrd⟩ := io_rd ho5
        have HH2 := Lib.hid (has16_any w5 a5 c5 (ldL y) _ hrd (by have := ldL_len y; omega) (t : Int))
        have HX5 := Lib.hid ((hb5.block B hBl).trans HX.out)
        have HB5 := Lib.hid (HB.out.trans (hb5.mono (Nat.le_of_lt hBl)))
        obtain ⟨mm, hmm⟩ : ∃ mm, (ldL y).length = mm := ⟨_, rfl⟩
        rw [hmm] at HH2 ⊢
        obtain ⟨z, hz⟩ : ∃ z, decide ((t : Int) ∈ ldL y) = z := ⟨_, rfl⟩
        rw [hz] at HH2 HS HKN
        clear ho5 hrd hb5 hmm hz q0 q1 q2 q3 q4 c0
        cases z with
        | true =>
          have HF : Hid (R = true) := Lib.hid (HKN.out (by simp))
          go_wp2_with fail
          refine HH2.out.mono ?_
          rintro e w ⟨rfl, hw⟩
          subst hw
          go_wp2
          go_ret
          exact ⟨retv_bool HF.out.symm, HB5.out⟩
        | false =>
          have HA2 : Hid (ledB l O (k + 1) t = false) := Lib.hid (by rw [HS.out, HA.out]; simp)
          go_wp2_with fail
          refine HH2.out.mono ?_
          rintro e w ⟨rfl, hw⟩
          subst hw
          go_wp2
          go_roundw
          case rel => exact ⟨k + 1, by omega, by go_num, HA2, HX5, HB5⟩
          case measure => simp [intOf]; omega
    · obtain rfl : k = n := by omega
      have HF : Hid (R = false) := Lib.hid (by rw [← HR.out]; exact HA.out)
      go_wp2
      go_ret
      exact ⟨retv_bool HF.out.symm, HB.out⟩
set_option maxRecDepth 100000 in
set_option maxHeartbeats 8000000 in
theorem rorder_any (l : List In) (st sl : Int) (vs : Value) (W : World) (hr : InRow W vs l) (hT : Tg l) (hl4 : l.length ≤ 4000) :
    Calls Tryd.prog 30 #[.agg #[vs, .int .i64 st, .int .i64 sl]] W fun e w' => ∃ v, e = .returned v ∧ IOwn w' W.heap.size v ((ordF l).map Int.ofNat) ∧ Below W.heap.size W w' := by
  have HRW : Hid (∀ w, Below W.heap.size W w → InRow w vs l) := Lib.hid (fun w h => hr.below (Nat.le_refl _) h)
  obtain ⟨a, cap, rfl, hlm, hbd, hcc⟩ := hr
  obtain ⟨n, hn⟩ : ∃ n, l.length = n := ⟨_, rfl⟩
  obtain ⟨B, hB⟩ : ∃ B, W.heap.size = B := ⟨_, rfl⟩
  obtain ⟨W1, hW1⟩ : ∃ W1, W.alloc (.cells #[.slice a n cap, .int .i64 st, .int .i64 sl] 46) = W1 := ⟨_, rfl⟩
  have hx1 : W1.heap[B]? = some (.cells #[.slice a n cap, .int .i64 st, .int .i64 sl] 46 (0, 0)) := by rw [← hW1, ← hB]; exact heap_alloc_new W _
  have hb1 : Below B W W1 := by rw [← hW1, ← hB]; exact (Below.refl _ _).alloc (Nat.le_refl _) _
  rw [hB, hn] at HRW
  have HX1 := Lib.hid hx1
  have HB1 := Lib.hid hb1
  have HW1 := Lib.hid hW1
  have HN := Lib.hid hn
  have HBS := Lib.hid hB
  have HT := Lib.hid hT
  have HI0 := Lib.hid (Inv.nil l)
  have HD0 : Hid (ordN l (n - 0) [] = ordF l) := Lib.hid (by unfold ordF; rw [hn]; rfl)
  have n0 : (0 : Int) ≤ (n : Int) := by omega
  rw [hn] at hl4 ⊢
  rw [hB]
  clear hW1 hx1 hb1 hcc hbd hT hlm hn hB
  go_enter Tryd.func30, Tryd.ntmps30
  go_wp2
  rw [HW1.out, HBS.out]
  go_loopg [3] n (fun N V wr => ∃ (o : List Nat) (m : Nat), Hid (o.length = m) ∧ m ≤ n ∧ N = n - m ∧ Hid (Inv l o) ∧ Hid (ordN l (n - m) o = ordF l) ∧ (∃ a c, V = .slice a m c) ∧ Hid (IOwn wr B V (o.map Int.ofNat)) ∧ Hid (wr.heap[B]? = some (.cells #[.slice a n cap, .int .i64 st, .int .i64 sl] 46 (0, 0))) ∧ Hid (Below B W wr))
  case atStart => exact ⟨[], 0, Lib.hid rfl, by omega, rfl, HI0, HD0, ⟨_, _, rfl⟩, Lib.hid IOwn.nil, HX1, HB1⟩
  case round =>
    obtain ⟨o, m, HM, hm, rfl, HI, HD, ⟨av, cv, rfl⟩, HO, HX, HB⟩ := hrel
    obtain ⟨wo, rfl⟩ : ∃ wo : World, wo = wr := ⟨_, rfl⟩
    have c0 := blkp HX.out 0
    simp only [List.getElem?_toArray, List.getElem?_cons_zero] at c0
    by_cases hlt : m < n
    · go_wp2
      clear c0
      go_loopw [4, 5] (fun V K wq => ∃ i : Nat, K = .int .i64 (i : Int) ∧ ((V = .int .i64 (-1) ∧ i ≤ n ∧ Hid (∀ j, j < i → rdy l o j = false)) ∨ ∃ p : Nat, V = .int .i64 (p : Int) ∧ i = p + 1 ∧ p < n ∧ Hid (pick l o = some p)) ∧ Hid (IOwn wq B (.slice av m cv) (o.map Int.ofNat)) ∧ Hid (wq.heap[B]? = some (.cells #[.slice a n cap, .int .i64 st, .int .i64 sl] 46 (0, 0))) ∧ Hid (Below B W wq)) (fun V K _ => n + 1 - (intOf K).toNat)
      case atStart => exact ⟨0, rfl, .inl ⟨rfl, by omega, Lib.hid (fun j hj => absurd hj (Nat.not_lt_zero _))⟩, HO, HX, HB⟩
      case round =>
        obtain ⟨i, rfl, hor, HO, HX, HB⟩ := hrel
        have c0 := blkp HX.out 0
        have c1 := blkp HX.out 1
        have c2 := blkp HX.out 2
        simp only [List.getElem?_toArray, List.getElem?_cons_zero, List.getElem?_cons_succ] at c0 c1 c2
        rcases hor with ⟨rfl, hin, HNR⟩ | ⟨p, rfl, hip, hpn, HPK⟩
        · by_cases hil : i < n
          · have hrd : Nrd wr av (o.map Int.ofNat) B := by
              obtain ⟨a', c', e', h'⟩ := io_rd HO.out
              injection e' with e1 _ _
              subst e1
              exact h'
            have HH : Hid (Calls Tryd.prog 55 #[.slice av m cv, .int .i64 (i : Int)] wr fun e w' => e = .returned (.bool (decide (i ∈ o))) ∧ w' = wr) := Lib.hid (by
              have := has16_any wr av cv _ B hrd (by rw [List.length_map, HM.out]; omega) (i : Int)
              rw [List.length_map, HM.out, nat_mem] at this
              exact this)
            have HLD : Hid (Calls Tryd.prog 56 #[.agg #[.slice a n cap, .int .i64 st, .int .i64 sl], .slice av m cv, .int .i64 (i : Int)] wr fun e w' => e = .returned (.bool (ledB l o n i)) ∧ Below wr.heap.size wr w') := Lib.hid (by
              have := led_any l st sl _ wr (HRW.out wr HB.out) HT.out (by rw [HN.out]; omega) av cv o B hrd (by rw [HM.out]; omega) i
              rw [HM.out, HN.out] at this
              exact this)
            have HRD : Hid (rdy l o i = (!decide (i ∈ o) && !ledB l o n i)) := Lib.hid (by rw [rdy_led, HN.out])
            have HPI : Hid (rdy l o i = true → pick l o = some i) := Lib.hid (fun h => pick_is (by rw [HN.out]; exact hil) h HNR.out)
            have HNX : Hid (rdy l o i = false → ∀ j, j < i + 1 → rdy l o j = false) := Lib.hid (fun h j hj => by
              rcases Nat.lt_or_ge j i with h9 | h9
              · exact HNR.out j h9
              · obtain rfl : j = i := by omega
                exact h)
            have hBl : B < wr.heap.size := (Array.getElem?_eq_some_iff.1 HX.out).1
            have i0 : (0 : Int) ≤ (i : Int) := by omega
            have i1 : (i : Int) < (n : Int) := by omega
            obtain ⟨z1, hz1⟩ : ∃ z, decide (i ∈ o) = z := ⟨_, rfl⟩
            obtain ⟨z2, hz2⟩ : ∃ z, ledB l o n i = z := ⟨_, rfl⟩
            rw [hz1] at HH HRD
            rw [hz2] at HLD HRD
            clear hz1 hz2 hrd
            cases z1 with
            | true =>
              have HNR2 := Lib.hid (HNX.out (by rw [HRD.out]; rfl))
              go_wp2_with fail
              refine HH.out.mono ?_
              rintro e w ⟨rfl, hw⟩
              subst hw
              go_wp2
              go_roundw
              case rel => first | exact ⟨i + 1, by go_num, .inl ⟨rfl, by omega, HNR2⟩, HO, HX, HB⟩ | ((repeat apply Exists.intro); exact ⟨⟨i + 1, by go_num, .inl ⟨rfl, by omega, HNR2⟩, HO, HX, HB⟩, rfl⟩)
              case measure => simp [intOf]; omega
            | false =>
              go_wp2_with fail
              refine HH.out.mono ?_
              rintro e w ⟨rfl, hw⟩
              subst hw
              go_wp2_with fail
              refine HLD.out.mono ?_
              rintro e w5 ⟨rfl, hb5⟩
              have HO5 := Lib.hid (io_keep HO.out fun g e => hb5.block g (World.ownsRow.lt HO.out g e).2)
              have HX5 := Lib.hid ((hb5.block B hBl).trans HX.out)
              have HB5 := Lib.hid (HB.out.trans (hb5.mono (Nat.le_of_lt hBl)))
              clear hb5 c0 c1 c2
              cases z2 with
              | true =>
                have HNR2 := Lib.hid (HNX.out (by rw [HRD.out]; rfl))
                go_wp2
                go_roundw
                case rel => first | exact ⟨i + 1, by go_num, .inl ⟨rfl, by omega, HNR2⟩, HO5, HX5, HB5⟩ | ((repeat apply Exists.intro); exact ⟨⟨i + 1, by go_num, .inl ⟨rfl, by omega, HNR2⟩, HO5, HX5, HB5⟩, rfl⟩)
                case measure => simp [intOf]; omega
              | false =>
                have HPK := Lib.hid (HPI.out (by rw [HRD.out]; rfl))
                go_wp2
                go_roundw
                case rel => first | exact ⟨i + 1, by go_num, .inr ⟨i, rfl, rfl, hil, HPK⟩, HO5, HX5, HB5⟩ | ((repeat apply Exists.intro); exact ⟨⟨i + 1, by go_num, .inr ⟨i, rfl, rfl, hil, HPK⟩, HO5, HX5, HB5⟩, rfl⟩)
                case measure => simp [intOf]; omega
          · obtain rfl : i = n := by omega
            have HPN : Hid (pick l o = none) := Lib.hid (pick_no fun j hj => HNR.out j (by rw [HN.out] at hj; exact hj))
            have HOF : Hid (ordF l = o) := Lib.hid (by rw [← HD.out, ordN_none HPN.out])
            go_wp2
            go_ret
            exact ⟨_, rfl, by rw [HOF.out]; exact HO.out, HB.out⟩
        · subst hip
          have hbs : B ≤ wr.heap.size := Nat.le_of_lt (Array.getElem?_eq_some_iff.1 HX.out).1
          obtain ⟨a6, d6, w6, hrun, ho6, hb6, hk6⟩ := app_one wr B _ _ HO.out hbs m (by rw [List.length_map]; exact HM.out) (by omega) (p : Int)
          have HRUN := Lib.hid hrun
          have HO6 : Hid (IOwn w6 B (.slice a6 (m + 1) d6) ((o ++ [p]).map Int.ofNat)) := Lib.hid (by rw [List.map_append]; exact ho6)
          have HX6 := Lib.hid (hk6 _ _ _ _ HX.out (by decide))
          have HB6 := Lib.hid (HB.out.trans hb6)
          have HI6 := Lib.hid (HI.out.snoc HPK.out)
          have HD6 : Hid (ordN l (n - (m + 1)) (o ++ [p]) = ordF l) := Lib.hid (by
            rw [← HD.out, show n - m = (n - (m + 1)) + 1 by omega, ordN_some HPK.out])
          have HM6 : Hid ((o ++ [p]).length = m + 1) := Lib.hid (by rw [List.length_append, HM.out]; rfl)
          have p0 : ¬ (p : Int) < 0 := by omega
          clear hrun ho6 hb6 hk6 hbs
          go_wp2_with (at_builtin; (refine wpList_append_run rfl _ _ 30 rfl _ _ _ w6 rfl rfl HRUN.out ?_))
          all_goals
            go_roundg (n - (m + 1))
            case rel => exact ⟨o ++ [p], m + 1, HM6, by omega, rfl, HI6, HD6, ⟨_, _, rfl⟩, HO6, HX6, HB6⟩
            case measure => omega
    · obtain rfl : m = n := by omega
      have HOF : Hid (ordF l = o) := Lib.hid (by rw [← HD.out, Nat.sub_self]; rfl)
      go_wp2
      go_ret
      exact ⟨_, rfl, by rw [HOF.out]; exact HO.out, HB.out⟩
end Pgm
end Go.Proofs.YtchcjinaagncjaaDoor
