/- The reference's bands (burinref05): the contract of Long. · burinbook.SpoilRanges: only the list's own block turns. · The law BandsTakes, walked. · Arguments that are lists of ranges, or lists of such lists, opened: over any program that has the types. · An argument that is a list of sequences of ranges, opened over this program. -/
import Derived.Test.YtfopcgbfbedcjaaGp10
import Derived.Test.YtfopcgbfbedcjaaGp4
import Derived.Test.YtfopcgbfbedcjaaGp34
import Derived.Test.YtfopcgbfbedcjaaGp30
import Derived.Test.YtfopcgbfbedcjaaGp33
import Derived.Test.YtfopcgbfbedcjaaGp32
import Derived.Deep.SlicePairs
import Derived.ProofKit
import Derived.SizedLaws
import Derived.Lib.RowBridge
namespace Go.Proofs.Ytfopcgbfbedcjaa
open Go.RowKit
set_option linter.unusedVariables false
set_option maxRecDepth 100000 in
set_option maxHeartbeats 4000000 in
theorem refLong_any (W : World) (v : Value) (L : List (List (Int × Int))) (s : ByteArray) (hs : s.size ≤ 140737488351232) (h : QRow W v L) :
    Calls Try.prog 20 #[v, .string s] W fun e w' => e = .returned (.int .i64 (Bd.longN L s)) ∧ ∃ d, w' = W.drewN d := by
  obtain ⟨a, cap, rfl, hl, hc⟩ := h
  have HC := Lib.hid hc
  obtain ⟨n, hn⟩ : ∃ n, L.length = n := ⟨_, rfl⟩
  have HN := Lib.hid hn
  rw [hn] at hl HC ⊢
  clear hc hn
  go_enter Try.func20, Try.ntmps20
  go_wp2
  go_loopw [5] (fun I wr => ∃ i : Nat, i ≤ n ∧ I = .int .i64 i ∧ Hid (Bd.longN L s = Bd.longN (L.drop i) s) ∧ ∃ d, wr = W.drewN d) (fun I _ => n - (intOf I).toNat)
  case atStart => exact ⟨0, Nat.zero_le _, rfl, Lib.hid rfl, 0, rfl⟩
  case round =>
    obtain ⟨i, hi, rfl, HR, d, rfl⟩ := hrel
    by_cases hlt : i < n
    · obtain ⟨g, off, u, rfl, hg, hc1, hu⟩ := HC.out i hlt
      obtain ⟨q, eq⟩ : ∃ q, L[i]?.getD [] = q := ⟨_, rfl⟩
      rw [eq] at hu
      have hdr := Bd.longN_drop L s i (by rw [HN.out]; exact hlt) q eq
      rw [← HR.out] at hdr
      have HD1 := Lib.hid hdr.1
      have HD2 := Lib.hid hdr.2
      obtain ⟨ua, uc, rfl, hql, hqw, hqc⟩ := hu
      have HQC := Lib.hid hqc
      have hroom : Bd.room q s = (decide (0 < q.length) && decide (q.length ≤ s.size)) := rfl
      have hfit : Bd.fitB q s = (Bd.room q s && Bd.fitK q s q.length) := rfl
      obtain ⟨m, hm⟩ : ∃ m, q.length = m := ⟨_, rfl⟩
      rw [hm] at hql HQC HD1 hroom hfit hc1
      obtain ⟨rm, hrm⟩ : ∃ rm, Bd.room q s = rm := ⟨_, rfl⟩
      rw [hrm] at hroom hfit
      have HFIT := Lib.hid hfit
      have HRM := Lib.hid hroom
      have HM := Lib.hid hm
      have k0 : (0 : Int) ≤ (i : Int) := by omega
      have k1 : (i : Int) < (n : Int) := by omega
      have hcase : (rm = true ∧ 0 < m ∧ m ≤ s.size) ∨ (rm = false ∧ ¬ 0 < m) ∨ (rm = false ∧ 0 < m ∧ ¬ m ≤ s.size) := by
        by_cases h1 : 0 < m
        · by_cases h2 : m ≤ s.size
          · exact .inl ⟨by rw [hroom, decide_eq_true h1, decide_eq_true h2]; rfl, h1, h2⟩
          · exact .inr (.inr ⟨by rw [hroom, decide_eq_false h2]; simp, h1, h2⟩)
        · exact .inr (.inl ⟨by rw [hroom, decide_eq_false h1]; rfl, h1⟩)
      clear eq hdr hqc hqw hroom hfit hm hrm
      rcases hcase with ⟨rfl, h1, h2⟩ | ⟨rfl, h1⟩ | ⟨rfl, h1, h2⟩
      · have h1' : (0 : Int) < (m : Int) := by omega
        have h2' : (m : Int) ≤ (s.size : Int) := by omega
        go_wp2
        go_loopw [7, 8] (fun O K wr => ∃ (k : Nat) (ok : Bool), k ≤ m ∧ K = .int .i64 k ∧ O = .bool ok ∧ Hid (Bd.fitK q s k = ok) ∧ ∃ d, wr = W.drewN d) (fun O K _ => (m - (intOf K).toNat) + (if O matches .bool true then 1 else 0))
        case atStart => exact ⟨0, true, Nat.zero_le _, rfl, rfl, Lib.hid rfl, _, rfl⟩
        case round =>
          obtain ⟨k, ok, hk, rfl, rfl, HK, d2, rfl⟩ := hrel
          cases ok with
          | false =>
            have HF : Hid (Bd.fitB q s = false) := Lib.hid (by rw [HFIT.out, Bd.fitK_false q s k HK.out m hk]; rfl)
            have HE := Lib.hid (HD2.out HF.out)
            by_cases hkm : k < m
            all_goals
              go_wp2
              go_roundw
              case rel => exact ⟨i + 1, by omega, by go_num, HE, _, rfl⟩
              case measure => simp [intOf]; omega
          | true =>
            by_cases hkm : k < m
            · have hks : k < s.size := by omega
              obtain ⟨b, off2, rfl, hb, hx1, hx2⟩ := HQC.out k hkm
              obtain ⟨p, hp⟩ : ∃ p, q[k]?.getD (0, 0) = p := ⟨_, rfl⟩
              have HFS := Bd.fitSt q s k hks p hp true HK.out
              rw [hp] at hx1 hx2
              clear hp
              obtain ⟨p1, p2⟩ := p
              dsimp only at hx1 hx2 HFS
              have j0 : (0 : Int) ≤ (k : Int) := by omega
              have j1 : (k : Int) < (m : Int) := by omega
              have j2 : (k : Int) < (s.size : Int) := by omega
              have hb8 := s[k].toNat_lt
              by_cases c1 : p1 ≤ (s[k].toNat : Int)
              · have d1 : decide (p1 ≤ (s[k].toNat : Int)) = true := decide_eq_true c1
                by_cases c2 : (s[k].toNat : Int) ≤ p2
                · have d2 : decide ((s[k].toNat : Int) ≤ p2) = true := decide_eq_true c2
                  have HY := Lib.hid (HFS.yes c1 c2)
                  clear HFS
                  go_wp2
                  go_quiet (fail)
                  go_wp2
                  go_roundw
                  case rel => exact ⟨k + 1, true, by omega, by go_num, rfl, HY, _, rfl⟩
                  case measure => simp [intOf]; omega
                · have d2 : decide ((s[k].toNat : Int) ≤ p2) = false := decide_eq_false c2
                  have HY := Lib.hid (HFS.no2 c2)
                  clear HFS
                  go_wp2
                  go_quiet (fail)
                  go_wp2
                  go_roundw
                  case rel => exact ⟨k + 1, false, by omega, by go_num, rfl, HY, _, rfl⟩
                  case measure => simp [intOf]; omega
              · have d1 : decide (p1 ≤ (s[k].toNat : Int)) = false := decide_eq_false c1
                have HY := Lib.hid (HFS.no1 c1)
                clear HFS
                go_wp2
                go_quiet (fail)
                go_wp2
                go_roundw
                case rel => exact ⟨k + 1, false, by omega, by go_num, rfl, HY, _, rfl⟩
                case measure => simp [intOf]; omega
            · obtain rfl : k = m := by omega
              have HF : Hid (Bd.fitB q s = true) := Lib.hid (by rw [HFIT.out, HK.out]; rfl)
              have HE := Lib.hid (HD1.out HF.out)
              go_wp2
              go_ret
              exact ⟨by rw [HE.out]; rfl, _, rfl⟩
      · have HF : Hid (Bd.fitB q s = false) := Lib.hid (by rw [HFIT.out]; rfl)
        have HE := Lib.hid (HD2.out HF.out)
        have h1' : ¬ (0 : Int) < (m : Int) := by omega
        go_wp2
        refine wp_loop_rounds 1 ?_
        rw [rounds_succ]
        go_wp2
        go_roundw
        case rel => exact ⟨i + 1, by omega, by go_num, HE, _, rfl⟩
        case measure => simp [intOf]; omega
      · have HF : Hid (Bd.fitB q s = false) := Lib.hid (by rw [HFIT.out]; rfl)
        have HE := Lib.hid (HD2.out HF.out)
        have h1' : (0 : Int) < (m : Int) := by omega
        have h2' : ¬ (m : Int) ≤ (s.size : Int) := by omega
        go_wp2
        refine wp_loop_rounds 1 ?_
        rw [rounds_succ]
        go_wp2
        go_roundw
        case rel => exact ⟨i + 1, by omega, by go_num, HE, _, rfl⟩
        case measure => simp [intOf]; omega
    · obtain rfl : i = n := by omega
      have hR := HR.out
      rw [List.drop_eq_nil_of_le (by rw [HN.out]; exact Nat.le_refl _)] at hR
      have HE : Hid (Bd.longN L s = 0) := Lib.hid hR
      clear hR
      go_wp2
      go_ret
      exact ⟨by rw [HE.out]; rfl, _, rfl⟩
end Go.Proofs.Ytfopcgbfbedcjaa
namespace Go.Proofs.Ytfopcgbfbedcjaa
open Go.RowKit
set_option linter.unusedVariables false
theorem grown_set {a w : World} {g : Nat} (h : a.grownBy w (some g)) (i : Nat) (u : Value) : a.grownBy (w.setCell ⟨g, i, none⟩ u) (some g) :=
  ⟨h.os, h.tape, h.output, by simpa [World.setCell] using h.size, fun k hk hne => (Below.heap_setCell w ⟨g, i, none⟩ u k (fun e => hne (by rw [e]))).trans (h.block k hk hne)⟩
theorem grown_refl (w : World) (row : Option Nat) : w.grownBy w row := ⟨rfl, rfl, rfl, Nat.le_refl _, fun _ _ _ => rfl⟩
set_option maxRecDepth 100000 in
set_option maxHeartbeats 1000000 in
theorem spoil_walk2 (W : World) (g n cap : Nat) (cs : Array Value) (hg : W.heap[g]? = some (.cells cs 44 (0, 0))) (hcs : cs.size = cap * 2) (hnc : n ≤ cap) (hcap : cap ≤ 9223372036854775807) :
    Calls Try.prog 21 #[.slice (some ⟨g, 0, none⟩) n cap] W fun e w' => e = .returned (.tuple #[]) ∧ W.grownBy w' (some g) := by
  have HG := Lib.hid hg
  have HCS := Lib.hid hcs
  clear hg hcs
  go_enter Try.func21, Try.ntmps21
  go_wp2
  go_loopw [9] (fun R wr => ∃ (k : Nat) (cs' : Array Value), k ≤ cap ∧ R = .int .i64 k ∧ Hid (wr.heap[g]? = some (.cells cs' 44 (0, 0))) ∧ Hid (cs'.size = cap * 2) ∧ Hid (W.grownBy wr (some g))) (fun R _ => cap - (intOf R).toNat)
  case atStart => exact ⟨0, cs, Nat.zero_le _, rfl, HG, HCS, Lib.hid (grown_refl _ _)⟩
  case round =>
    obtain ⟨k, cs', hk, rfl, HG', HCS', HB⟩ := hrel
    clear HG HCS
    by_cases hlt : k < cap
    · obtain ⟨v1, hv1⟩ := cell_in_row (i := k * 2) HG'.out (by rw [HCS'.out]; omega)
      obtain ⟨v2, hv2⟩ := cell_in_row (i := k * 2 + 1) HG'.out (by rw [HCS'.out]; omega)
      have hf1 := frozen_of_row _ g (k * 2) _ _ HG'.out
      have hf2 := frozen_of_row _ g (k * 2 + 1) _ _ HG'.out
      go_wp2
      refine ⟨⟨k + 1, _, by omega, by go_num, Lib.hid (heap_setCell_same _ g _ _ _ _ (heap_setCell_same _ g _ _ _ _ HG'.out)), Lib.hid (by simp [HCS'.out]), Lib.hid (grown_set (grown_set HB.out _ _) _ _)⟩, by simp [intOf]; omega⟩
    · obtain rfl : k = cap := by omega
      go_wp2
      exact ⟨rfl, .tuple #[], by simp [results, Try.func21, go_sem], And.intro rfl (HB.out)⟩
/-- A list of a base is spoilt: what is owned from a greater base stays owned, and nothing older turns. -/
theorem spoil_only (W : World) (base : Nat) (v : Value) (l : List (Int × Int)) (h : RgOwn W base v l) (hb : base ≤ W.heap.size) :
    Calls Try.prog 21 #[v] W fun e w' => e = .returned (.tuple #[]) ∧ Below base W w' ∧ W.grownBy w' v.ownBlock := by
  rcases h.2 with ⟨rfl, _⟩ | ⟨g, cap, cur, rfl, hbg, hg, hnc, hcm, hcs, _⟩
  · exact (spoil_nil W).mono fun e w' h => ⟨h.1, h.2.mono hb, ⟨h.2.os, h.2.tape, h.2.output, h.2.size, fun k hk _ => h.2.block k hk⟩⟩
  · refine (spoil_walk2 W g _ cap cur hg hcs hnc (by simpa [maxLen] using hcm)).mono fun e w' h => ⟨h.1, ⟨h.2.os, h.2.tape, h.2.output, h.2.size, fun k hk => h.2.block k (by omega) (fun e => by injection e with e; omega)⟩, h.2⟩
theorem own_apart {W W0 W' : World} {base base2 : Nat} {v v2 : Value} {l l2 : List (Int × Int)} (h : RgOwn W0 base v l) (hs : W0.heap.size ≤ base2) (h2 : RgOwn W base2 v2 l2) (hg : W.grownBy W' v.ownBlock) : RgOwn W' base2 v2 l2 := by
  refine h2.kept hg ?_
  cases e : v2.ownBlock with
  | none => exact .inl rfl
  | some g2 =>
    refine .inr (fun e2 => ?_)
    have a1 := (World.ownsRow.lt h2 g2 e).1
    have a2 := (World.ownsRow.lt h g2 e2.symm).2
    omega
end Go.Proofs.Ytfopcgbfbedcjaa
namespace Go.Proofs.Ytfopcgbfbedcjaa
open Go.RowKit
set_option linter.unusedVariables false
def greatB (L : List (List (Int × Int))) : Bool := L.any (fun q => decide (50 < q.length)) || decide (60 < L.length)
theorem greatB_any {L : List (List (Int × Int))} {i : Nat} (hi : i < L.length) (h : 50 < (L[i]?.getD []).length) : greatB L = true := by
  unfold greatB
  rw [List.getElem?_eq_getElem hi] at h
  rw [Bool.or_eq_true, List.any_eq_true]
  exact .inl ⟨_, List.getElem_mem hi, decide_eq_true h⟩
theorem greatB_end {L : List (List (Int × Int))} (h : ∀ q ∈ L, ¬ 50 < q.length) : greatB L = decide (60 < L.length) := by
  unfold greatB
  have : L.any (fun q => decide (50 < q.length)) = false := by
    rw [List.any_eq_false]
    intro q hq
    simpa using h q hq
  rw [this, Bool.false_or]
theorem small_snoc {L : List (List (Int × Int))} {i : Nat} (hi : i < L.length) (h : ∀ q ∈ L.take i, ¬ 50 < q.length) (h1 : ¬ 50 < (L[i]?.getD []).length) : ∀ q ∈ L.take (i + 1), ¬ 50 < q.length := by
  intro q hq
  rw [List.take_succ_eq_append_getElem hi] at hq
  rcases List.mem_append.1 hq with hq | hq
  · exact h q hq
  · rw [List.mem_singleton.1 hq]
    rwa [List.getElem?_eq_getElem hi] at h1
set_option maxRecDepth 100000 in
set_option maxHeartbeats 2000000 in
theorem great_any (W : World) (v : Value) (L : List (List (Int × Int))) (h : QRow W v L) : Calls Try.prog 16 #[v] W fun e w' => e = .returned (.bool (greatB L)) ∧ W = w' := by
  obtain ⟨a, cap, rfl, hl, hc⟩ := h
  have HC := Lib.hid hc
  obtain ⟨n, hn⟩ : ∃ n, L.length = n := ⟨_, rfl⟩
  have HN := Lib.hid hn
  obtain ⟨G, hG⟩ : ∃ G, greatB L = G := ⟨_, rfl⟩
  have HG := Lib.hid hG
  rw [hn] at hl HC ⊢
  rw [hG]
  clear hc hn hG
  go_enter Try.func16, Try.ntmps16
  go_wp2
  go_loopw [3] (fun I wr => ∃ i : Nat, i ≤ n ∧ I = .int .i64 i ∧ Hid (∀ q ∈ L.take i, ¬ 50 < q.length) ∧ wr = W) (fun I _ => n - (intOf I).toNat)
  case atStart => exact ⟨0, Nat.zero_le _, rfl, Lib.hid (fun q hq => by simp at hq), rfl⟩
  case round =>
    obtain ⟨i, hi, rfl, HS, rfl⟩ := hrel
    by_cases hlt : i < n
    · obtain ⟨g, off, u, rfl, hg, hc1, hu⟩ := HC.out i hlt
      obtain ⟨ua, uc, rfl, hul, _⟩ := hu
      have k0 : (0 : Int) ≤ (i : Int) := by omega
      have k1 : (i : Int) < (n : Int) := by omega
      have HYES := Lib.hid (fun h => greatB_any (L := L) (i := i) (by rw [HN.out]; exact hlt) h)
      have HNO := Lib.hid (fun h => small_snoc (L := L) (i := i) (by rw [HN.out]; exact hlt) HS.out h)
      obtain ⟨m, hm⟩ : ∃ m, (L[i]?.getD []).length = m := ⟨_, rfl⟩
      rw [hm] at hc1 hul HYES HNO
      clear hm
      by_cases h50 : 50 < m
      · have HE := Lib.hid (HYES.out h50)
        have d1 : decide ((50 : Int) < (m : Int)) = true := decide_eq_true (by omega)
        go_wp2
        go_ret
        exact ⟨by rw [← HG.out, HE.out]; rfl, rfl⟩
      · have HE := Lib.hid (HNO.out h50)
        have d1 : decide ((50 : Int) < (m : Int)) = false := decide_eq_false (by omega)
        go_wp2
        go_roundw
        case rel => exact ⟨i + 1, by omega, by go_num, HE, by first | rfl | trivial⟩
        case measure => simp [intOf]; omega
    · obtain rfl : i = n := by omega
      have hS := HS.out
      rw [List.take_of_length_le (by rw [HN.out]; exact Nat.le_refl _)] at hS
      have HE := Lib.hid (greatB_end hS)
      rw [HN.out, HG.out] at HE
      clear hS
      have HE2 : Hid (decide ((60 : Int) < (i : Int)) = G) := Lib.hid (by rw [HE.out, Bool.eq_iff_iff, decide_eq_true_eq, decide_eq_true_eq]; omega)
      go_wp2
      go_ret
      exact ⟨rg_ret_bool HE2.out, rfl⟩
theorem great_no {L : List (List (Int × Int))} (h : greatB L = false) : L.length ≤ 60 ∧ ∀ q ∈ L, q.length ≤ 50 := by
  unfold greatB at h
  rw [Bool.or_eq_false_iff, List.any_eq_false] at h
  exact ⟨by have := of_decide_eq_false h.2; omega, fun q hq => by have := h.1 q hq; simp at this; omega⟩
theorem QRow.wide {W : World} {v : Value} {L : List (List (Int × Int))} (h : QRow W v L) : ∀ q ∈ L, q.length ≤ 8796093022208 ∧ Wide64 q := by
  obtain ⟨a, cap, rfl, hl, hc⟩ := h
  intro q hq
  obtain ⟨i, hi, rfl⟩ := List.mem_iff_getElem.1 hq
  obtain ⟨_, _, _, _, _, _, hr⟩ := hc i hi
  rw [List.getElem?_eq_getElem hi] at hr
  exact hr.wide
theorem turn_wide {L : List (List (Int × Int))} (h : ∀ q ∈ L, q.length ≤ 8796093022208 ∧ Wide64 q) : ∀ q ∈ Bd.turnL L, q.length ≤ 8796093022208 ∧ Wide64 q := by
  intro q hq
  unfold Bd.turnL at hq
  obtain ⟨p, hp, rfl⟩ := List.mem_map.1 hq
  have := h p hp
  exact ⟨by rw [List.length_reverse]; exact this.1, fun x hx => this.2 x (List.mem_reverse.1 hx)⟩
/-- What is left to be spoilt: the outer row, and the inner ones from i on. -/
structure Spoil (w : World) (base : Nat) (v : Value) (us : List Value) (L : List (List (Int × Int))) (i : Nat) : Prop where
  outer : w.ownsRow base 22 1 v us.length us
  inner : ∀ j, i ≤ j → j < us.length → RgOwn w base (us[j]?.getD nilV) (L[j]?.getD [])
theorem Spoil.step {w w' : World} {base i : Nat} {v : Value} {us : List Value} {L : List (List (Int × Int))} (h : Spoil w base v us L i) (ha : QApart v us) (hi : i < us.length) (hg : w.grownBy w' (us[i]?.getD nilV).ownBlock) : Spoil w' base v us L (i + 1) := by
  refine ⟨h.outer.kept hg ?_, fun j hj hju => (h.inner j (by omega) hju).kept hg ?_⟩
  · cases hu : (us[i]?.getD nilV).ownBlock with
    | none => cases hv : v.ownBlock <;> simp
    | some r => exact .inr (ha.outer i hi r hu)
  · cases hu : (us[i]?.getD nilV).ownBlock with
    | none => cases hv : (us[j]?.getD nilV).ownBlock <;> simp
    | some r => exact .inr (ha.inner i j (by omega) hju r hu)
set_option maxRecDepth 100000 in
set_option maxHeartbeats 4000000 in
theorem walkBandsTakes (W : World) (v : Value) (L : List (List (Int × Int))) (s : ByteArray) (hr : QRow W v L) (hs : s.size ≤ 140737488351232) :
    Calls Try.prog 4 #[v, .string s] W fun e w' => e = .returned (.bool true) ∧ Below W.heap.size W w' := by
  have HR := Lib.hid hr
  have hgr := great_any W v L hr
  obtain ⟨a, cap, rfl, hl, _⟩ := hr
  obtain ⟨n, hn⟩ : ∃ n, L.length = n := ⟨_, rfl⟩
  have HN := Lib.hid hn
  rw [hn] at HR hl hgr ⊢
  obtain ⟨G, hG⟩ : ∃ G, greatB L = G := ⟨_, rfl⟩
  have HG := Lib.hid hG
  rw [hG] at hgr
  have HGR := Lib.hid hgr
  clear hn hG hgr
  cases G with
  | true =>
    go_enter Try.func4, Try.ntmps4
    go_wp2_with fail
    refine HGR.out.mono ?_
    rintro e w1 ⟨rfl, hw⟩
    subst hw
    go_wp2_with fail
    refine (works5_any _).mono ?_
    rintro e w1 ⟨rfl, hb⟩
    have HB := Lib.hid hb
    clear hb
    go_wp2
    go_ret
    exact ⟨rfl, HB.out⟩
  | false =>
    have hno := great_no HG.out
    have HNO := Lib.hid hno
    have HQL : Hid (∀ q ∈ L, q.length ≤ 1000000) := Lib.hid (fun q hq => by have := hno.2 q hq; omega)
    have HLL : Hid (L.length ≤ 1000000) := Lib.hid (by have := hno.1; omega)
    have HTW := Lib.hid (turn_wide HR.out.wide)
    have HTL : Hid ((Bd.turnL L).length = n) := Lib.hid (by unfold Bd.turnL; rw [List.length_map]; exact HN.out)
    have hn60 : n ≤ 60 := by have := hno.1; have := HN.out; omega
    clear hno
    go_enter Try.func4, Try.ntmps4
    go_wp2_with fail
    refine HGR.out.mono ?_
    rintro e w1 ⟨rfl, hw⟩
    subst hw
    go_wp2_with fail
    refine (turn_any _ _ L HR.out (by have := HLL.out; omega) HQL.out).mono ?_
    rintro e w1 ⟨v1, rfl, ⟨us1, hq⟩, hb⟩
    have HQ1 := Lib.hid hq
    have D1 := Lib.hid hb
    have HR1 := Lib.hid (HR.out.below hb)
    clear hq hb
    go_wp2_with fail
    refine (refTurn_any _ _ L HR1.out HLL.out HQL.out).mono ?_
    rintro e w2 ⟨v2, rfl, ⟨us2, hq⟩, hb⟩
    have HQ1b := Lib.hid (HQ1.out.below hb)
    have HQ1r := Lib.hid (HQ1b.out.row (by rw [HTL.out]; omega) HTW.out)
    have HQ2 := Lib.hid (hq.row (by rw [HTL.out]; omega) HTW.out)
    have D2 := Lib.hid (D1.out.trans (hb.mono D1.out.size))
    clear hq hb HQ1
    go_wp2_with fail
    refine (same_seq_eq _ _ _ _ HQ1r.out HQ2.out).mono ?_
    rintro e w3 ⟨rfl, hb⟩
    have HQ3 := Lib.hid (HQ1b.out.below hb)
    have D3 := Lib.hid (D2.out.trans (hb.mono D2.out.size))
    clear hb HQ1b HQ1r HQ2
    go_wp2_with fail
    refine (long_any _ _ L s (by omega) (HR.out.below D3.out)).mono ?_
    rintro e w4 ⟨rfl, hb⟩
    have HQ4 := Lib.hid (HQ3.out.below hb)
    have D4 := Lib.hid (D3.out.trans (hb.mono D3.out.size))
    clear hb HQ3
    go_wp2_with fail
    refine (refLong_any _ _ L s hs (HR.out.below D4.out)).mono ?_
    rintro e w5 ⟨rfl, d, rfl⟩
    have D5 := Lib.hid (below_drewN D4.out d)
    have HQ5 := Lib.hid (HQ4.out.below (below_drewN (Below.refl _ _) d))
    obtain ⟨va, vc, rfl, _⟩ := HQ5.out.row (by rw [HTL.out]; omega) HTW.out
    have hul : us1.length = n := by rw [HQ5.out.1, HTL.out]
    have HUL := Lib.hid hul
    have HAP := Lib.hid HQ5.out.2.2.2
    have HSP : Hid (Spoil (w4.drewN d) W.heap.size (.slice va (Bd.turnL L).length vc) us1 (Bd.turnL L) 0) := Lib.hid ⟨HQ5.out.2.1, fun j _ hj => HQ5.out.2.2.1 j hj⟩
    rw [HTL.out] at HSP HAP ⊢
    clear HQ4 HQ5 hul
    go_wp2
    go_loopw [7] (fun I wr => ∃ i : Nat, i ≤ n ∧ I = .int .i64 i ∧ Hid (Spoil wr W.heap.size (.slice va n vc) us1 (Bd.turnL L) i) ∧ Hid (Below W.heap.size W wr)) (fun I _ => n - (intOf I).toNat)
    case atStart => exact ⟨0, Nat.zero_le _, rfl, HSP, D5⟩
    case round =>
      obtain ⟨i, hi, rfl, HS, HB⟩ := hrel
      have hsz := HB.out.size
      by_cases hlt : i < n
      · have hj : i < us1.length := by rw [HUL.out]; exact hlt
        have hin := HS.out.inner i (Nat.le_refl _) hj
        obtain ⟨g, off, u, rfl, hcell, hue⟩ : ∃ g off u, va = some ⟨g, off, none⟩ ∧ wr.cell? ⟨g, off + i, none⟩ = some u ∧ us1[i]?.getD nilV = u := by
          rcases HS.out.outer.2 with ⟨_, h0⟩ | ⟨g, cap', cur, hv, _⟩
          · omega
          · injection hv with e1 e2 e3
            subst e1
            have ho := HS.out.outer
            rw [HUL.out] at ho
            refine ⟨g, 0, us1[i]?.getD nilV, rfl, ?_, rfl⟩
            rw [Nat.zero_add, World.ownsRow.cellAt ho i (by omega), List.getElem?_eq_getElem hj]
            rfl
        rw [hue] at hin
        have HSO := Lib.hid (spoil_only wr W.heap.size u _ hin hsz)
        have HUE := Lib.hid hue
        obtain ⟨ua, uc, rfl⟩ := hin.slice
        have k0 : (0 : Int) ≤ (i : Int) := by omega
        have k1 : (i : Int) < (n : Int) := by omega
        clear hin hue
        go_wp2_with fail
        refine HSO.out.mono ?_
        rintro e w6 ⟨rfl, hb6, hg6⟩
        have HS6 := Lib.hid (HS.out.step HAP.out hj (by rw [HUE.out]; exact hg6))
        have HB6 := Lib.hid (HB.out.trans hb6)
        clear hb6 hg6 hcell
        go_wp2
        go_roundw
        case rel => exact ⟨i + 1, by omega, by go_num, HS6, HB6⟩
        case measure => simp [intOf]; omega
      · obtain rfl : i = n := by omega
        go_wp2_with fail
        refine (turn_any _ _ L (HR.out.below HB.out) (by have := HLL.out; omega) HQL.out).mono ?_
        rintro e w6 ⟨v6, rfl, ⟨us6, hq⟩, hb⟩
        have HQ6 := Lib.hid hq
        have D6 := Lib.hid (HB.out.trans (hb.mono HB.out.size))
        clear hq hb
        go_wp2_with fail
        refine (refTurn_any _ _ L (HR.out.below D6.out) HLL.out HQL.out).mono ?_
        rintro e w7 ⟨v7, rfl, ⟨us7, hq⟩, hb⟩
        have HQ6r := Lib.hid ((HQ6.out.below hb).row (by rw [HTL.out]; omega) HTW.out)
        have HQ7 := Lib.hid (hq.row (by rw [HTL.out]; omega) HTW.out)
        have D7 := Lib.hid (D6.out.trans (hb.mono D6.out.size))
        clear hq hb HQ6
        go_wp2_with fail
        refine (same_seq_eq _ _ _ _ HQ6r.out HQ7.out).mono ?_
        rintro e w8 ⟨rfl, hb⟩
        have D8 := Lib.hid (D7.out.trans (hb.mono D7.out.size))
        clear hb HQ6r HQ7
        go_wp2_with fail
        refine (works5_any _).mono ?_
        rintro e w9 ⟨rfl, hb⟩
        have D9 := Lib.hid (D8.out.trans (hb.mono D8.out.size))
        clear hb
        go_wp2
        go_ret
        exact ⟨rfl, D9.out⟩
end Go.Proofs.Ytfopcgbfbedcjaa
namespace Go.Proofs.Ytfopcgbfbedcjaa
open Go.ChangeShapes Go.WideShapes Go.ChangeAt Go.RowKit
set_option linter.unusedVariables false
theorem choose_each {α : Type} {n : Nat} {p : Nat → α → Prop} [Inhabited α] (h : ∀ i, i < n → ∃ x, p i x) : ∃ f : Nat → α, ∀ i, i < n → p i (f i) := by
  classical
  exact ⟨fun i => if hi : i < n then (h i hi).choose else default, fun i hi => by simp only [dif_pos hi]; exact (h i hi).choose_spec⟩
/-- What is asked of a program's types: a list of pairs of integers. -/
structure RgTypes (P : Program) (tr ts ti : TypeId) : Prop where
  list : P.underlying tr = some (.slice ts)
  pair : ∃ f0 f1 : Field, P.underlying ts = some (.struct #[f0, f1]) ∧ f0.offset = 0 ∧ f1.offset = 1 ∧ f0.type = ti ∧ f1.type = ti
  int : P.underlying ti = some (.int .i64)
  cells : P.cellsOf ts = 2
  one : P.cellsOf ti = 1
  bytes : P.bytesOf ts = 16
theorem open_ranges_g {H : Type} {enc : TypeId × Value → H} {P : Program} {tr ts ti : TypeId} (T : RgTypes P tr ts ti) {W : World} {fuel : Nat} {u : Value} {d : DataW H} {p : List MemPlace}
    (hf : DataW.trod enc P W 0 (fun _ => true) true fuel tr [u] = some (d, p)) (hw : ∀ n ∈ d.weights P tr, n ≤ reachBytes) : ∃ l, RRow W u l := by
  obtain ⟨f0, f1, he, o0, o1, t0, t1⟩ := T.pair
  rcases Deep.open_slice_pairs T.list he T.cells o0 o1 (by rw [t0]; exact T.one) (by rw [t1]; exact T.one) hf with ⟨hcs, hx⟩ | ⟨a, len, cap, m, n, V0, V1, D0, D1, P0, P1, hcs, hb, hl, hm, hmm, hx, hi⟩
  · simp at hcs
    subst hcs
    exact ⟨[], RRow.nil W⟩
  · simp at hcs
    subst hcs
    simp only [if_true] at hmm
    subst hmm
    simp only [Prod.mk.injEq] at hx
    have hsz := hw (((((List.range len).map fun i => DataW.agg [D0 i, D1 i]).length + ((List.range (m - len)).map fun j => DataW.agg [D0 (len + j), D1 (len + j)]).length)) * P.bytesOf ts) (by rw [hx.1]; simp [DataW.weights, T.list])
    rw [T.bytes] at hsz
    simp only [List.length_map, List.length_range, reachBytes] at hsz
    have each : ∀ i, i < m → ∃ x : Int × Int, V0 i = .int .i64 x.1 ∧ V1 i = .int .i64 x.2 ∧ (Lit.int .i64 x.1).wf = true ∧ (Lit.int .i64 x.2).wf = true := by
      intro i him
      obtain ⟨_, _, h3, h4⟩ := hi i him
      rw [t0] at h3
      rw [t1] at h4
      obtain ⟨z0, e0, _, w0⟩ := DataW.trod_int T.int h3
      obtain ⟨z1, e1, _, w1⟩ := DataW.trod_int T.int h4
      exact ⟨(z0, z1), by simpa using e0, by simpa using e1, w0, w1⟩
    obtain ⟨f, hf2⟩ := choose_each each
    refine ⟨(List.range len).map f, _, _, by rw [List.length_map, List.length_range], by rw [List.length_map, List.length_range]; omega, fun q hq => ?_, fun j hj => ?_⟩
    · obtain ⟨i, hir, rfl⟩ := List.mem_map.1 hq
      have hil := List.mem_range.1 hir
      obtain ⟨_, _, w0, w1⟩ := hf2 i (by omega)
      have h1 : IntKind.i64.min = -9223372036854775808 := rfl
      have h2 : IntKind.i64.max = 9223372036854775807 := rfl
      simp [Lit.wf, h1, h2] at w0 w1
      omega
    · rw [List.length_map, List.length_range] at hj
      obtain ⟨c0, c1, _, _⟩ := hi j (by omega)
      obtain ⟨b, off, spot⟩ := a
      have hspot : spot = none := by simpa [Addr.add] using World.cell?_spot (hi 0 (by omega)).1
      subst hspot
      obtain ⟨e0, e1, _, _⟩ := hf2 j (by omega)
      rw [e0, add_plain] at c0
      rw [e1, add_plain] at c1
      have hg : ((List.range len).map f)[j]?.getD (0, 0) = f j := by simp [hj]
      rw [hg]
      exact ⟨b, off, rfl, World.block_lt_of_cell? W _ c0, c0, by rw [Nat.add_assoc]; exact c1⟩
theorem weights_all {H : Type} {P : Program} {e : TypeId} : ∀ {ds : List (DataW H)} {d : DataW H}, d ∈ ds → ∀ n ∈ d.weights P e, n ∈ DataW.weightsAll P e ds
  | [], d, h, n, hn => by cases h
  | x :: ds, d, h, n, hn => by
    simp only [DataW.weightsAll, List.mem_append]
    rcases List.mem_cons.1 h with rfl | h
    · exact .inl hn
    · exact .inr (weights_all h n hn)
/-- A list of lists of ranges, opened. -/
theorem open_seqs_g {H : Type} {enc : TypeId × Value → H} {P : Program} {tq tr ts ti : TypeId} (T : RgTypes P tr ts ti) (hq : P.underlying tq = some (.slice tr)) (cr : P.cellsOf tr = 1) (br : P.bytesOf tr = 24) {W : World} {fuel : Nat} {u : Value} {d : DataW H} {p : List MemPlace}
    (hf : DataW.trod enc P W 0 (fun _ => true) true fuel tq [u] = some (d, p)) (hw : ∀ n ∈ d.weights P tq, n ≤ reachBytes) : ∃ L, QRow W u L := by
  rcases DataW.trod_slice hq hf with ⟨hcs, hx⟩ | ⟨a, len, cap, elems, rest, n, rfl, hcs, hx, hb, hl, hm, hel, hi, _, _⟩
  · simp at hcs
    subst hcs
    exact ⟨[], none, 0, rfl, by simp, fun j hj => by simp at hj⟩
  · simp at hcs
    subst hcs
    simp only [Prod.mk.injEq] at hx
    rw [hx.1] at hw
    have hsz := hw (((elems.map (·.1)).length + (rest.map (·.1)).length) * P.bytesOf tr) (by simp [DataW.weights, hq])
    rw [br] at hsz
    simp only [List.length_map, reachBytes] at hsz
    have each : ∀ i, i < len → ∃ x : Value × List (Int × Int), W.cell? (a.add i) = some x.1 ∧ RRow W x.1 x.2 := by
      intro i hil
      have h1 := hi i hil
      rw [cr, Nat.mul_one] at h1
      have hei : i < elems.length := by omega
      rw [List.getElem?_eq_getElem hei] at h1
      rw [Option.bind_eq_some_iff] at h1
      obtain ⟨cs, hcs, htr⟩ := h1
      have e0 : (a.add i).add 0 = a.add i := by simp [Addr.add]
      have : ∃ c, cs = [c] ∧ W.cell? (a.add i) = some c := by
        unfold World.cells? at hcs
        split at hcs
        · simp only [List.range_succ, List.range_zero, List.nil_append, List.mapM_cons, List.mapM_nil, e0] at hcs
          cases hcc : W.cell? (a.add i) with
          | none => simp [hcc] at hcs
          | some c => simp [hcc] at hcs; exact ⟨c, hcs.symm, rfl⟩
        · cases hcs
      obtain ⟨c, rfl, hcell⟩ := this
      obtain ⟨l, hl⟩ := open_ranges_g T (d := elems[i].1) (p := elems[i].2) htr (fun n hn => hw n (by
        simp only [DataW.weights, hq, List.mem_cons, List.mem_append]
        exact .inr (.inl (weights_all (List.mem_map.2 ⟨elems[i], List.getElem_mem _, rfl⟩) n hn))))
      exact ⟨(c, l), hcell, hl⟩
    obtain ⟨f, hf2⟩ := choose_each each
    refine ⟨(List.range len).map fun i => (f i).2, some a, cap, by rw [List.length_map, List.length_range], by rw [List.length_map, List.length_range]; omega, fun j hj => ?_⟩
    rw [List.length_map, List.length_range] at hj
    obtain ⟨c0, r0⟩ := hf2 j hj
    obtain ⟨b, off, spot⟩ := a
    have hspot : spot = none := by simpa [Addr.add] using World.cell?_spot (hf2 0 (by omega)).1
    subst hspot
    rw [add_plain] at c0
    have hg : ((List.range len).map fun i => (f i).2)[j]?.getD [] = (f j).2 := by simp [hj]
    rw [hg]
    exact ⟨b, off, _, rfl, World.block_lt_of_cell? W _ c0, c0, r0⟩
end Go.Proofs.Ytfopcgbfbedcjaa
namespace Go.Proofs.Ytfopcgbfbedcjaa
open Go.ChangeShapes Go.WideShapes Go.ChangeAt Go.RowKit
set_option linter.unusedVariables false
theorem rgTypes : RgTypes Try.prog 22 44 3 :=
  ⟨Try.underlying22, rangeStruct, Try.underlying3, rangeCells, intCells, rangeBytes⟩
set_option maxRecDepth 100000 in
theorem open_seqs {H : Type} {enc : TypeId × Value → H} {W : World} {base : Nat} {v : Value} {d : DataW H} {p : List MemPlace} (hv : Value.okWide Try.prog W .any base 26 v)
    (h : DataW.Trod enc Try.prog W 0 (fun _ => true) true 26 v d p) (hs : ∀ n ∈ d.weights Try.prog 26, n ≤ reachBytes) : ∃ L, QRow W v L := by
  obtain ⟨fuel, hf⟩ := h
  obtain ⟨a0, len0, cap0, rfl⟩ := okWide_slice Try.underlying26 hv
  exact open_seqs_g rgTypes Try.underlying26 (by kernel_rfl) (by kernel_rfl) (fuel := fuel) (by simpa [Value.cells] using hf) hs
end Go.Proofs.Ytfopcgbfbedcjaa
