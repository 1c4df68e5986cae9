/- The reference's fold (burinref03): the contracts of span, Pairs, joined and with. -/
import Derived.Test.YtbccaljfofnepaaRgI
import Derived.Test.YtbccaljfofnepaaRf3M
namespace Go.Proofs.Ytbccaljfofnepaa
open Go.RowKit
set_option linter.unusedVariables false
theorem Try.infoPair : (Try.prog.info? 48).map (fun i => (i.zero, i.size, i.bytes)) = some (some (.agg #[.int .i64 0, .int .i64 0]), 2, 16) := by kernel_rfl
/-- A list of pairs that a call owns. -/
def POwn (W : World) (base : Nat) (v : Value) (l : List (Int × Int)) : Prop := W.ownsRow base 48 2 v l.length (flat2 l)
theorem POwn.nil {W : World} {base : Nat} : POwn W base (.slice none 0 0) [] := World.ownsRow_nil _ _ _ _
theorem POwn.below {W W' : World} {base : Nat} {v : Value} {l : List (Int × Int)} (h : POwn W base v l) (hb : Below W.heap.size W W') : POwn W' base v l :=
  h.kept ⟨hb.os, hb.tape, hb.output, hb.size, fun k hk _ => hb.block k hk⟩ (row := none) (by cases hv : v.ownBlock <;> simp)
theorem POwn.lower {W : World} {base base' : Nat} {v : Value} {l : List (Int × Int)} (h : POwn W base v l) (hb : base' ≤ base) : POwn W base' v l :=
  ⟨h.1, h.2.imp id (fun ⟨g, cap, cur, h1, h2, h3⟩ => ⟨g, cap, cur, h1, Nat.le_trans hb h2, h3⟩)⟩
theorem POwn.row {W : World} {base : Nat} {v : Value} {l : List (Int × Int)} (h : POwn W base v l) (hl : l.length ≤ 8796093022208) (hw : Wide64 l) : RRow W v l := by
  rcases h.2 with ⟨hv, h0⟩ | ⟨g, cap, cur, hv, hb, hg, _⟩
  · exact ⟨none, 0, by rw [h0]; exact hv, hl, hw, fun j hj => by omega⟩
  · subst hv
    refine ⟨_, cap, rfl, hl, hw, fun j hj => ?_⟩
    have hf := flat2_get l j hj
    have hln := flat2_len l
    refine ⟨g, 0, rfl, (Array.getElem?_eq_some_iff.1 hg).1, ?_, ?_⟩
    · rw [Nat.zero_add, World.ownsRow.cellAt h _ (by omega)]; exact hf.1
    · rw [Nat.zero_add, World.ownsRow.cellAt h _ (by omega)]; exact hf.2
theorem POwn.some {W : World} {base : Nat} {v : Value} {l : List (Int × Int)} (h : POwn W base v l) (hl : 0 < l.length) : ∃ g cap, v = .slice (some ⟨g, 0, none⟩) l.length cap ∧ base ≤ g ∧ g < W.heap.size ∧ ∀ j u, (flat2 l)[j]? = some u → W.cell? ((⟨g, 0, none⟩ : Addr).add j) = some u := by
  rcases h.2 with ⟨hv, h0⟩ | ⟨g, cap, cur, hv, hb, hg, _⟩
  · omega
  · subst hv
    exact ⟨g, cap, rfl, hb, (Array.getElem?_eq_some_iff.1 hg).1, World.ownsRow.cells h rfl⟩
set_option maxRecDepth 100000 in
set_option maxHeartbeats 2000000 in
theorem span_any (W : World) (lo hi up : Int) (n : Nat) (h0 : 0 ≤ lo) (h1 : lo ≤ 5000) (h2 : 0 ≤ up) (h3 : up ≤ 1000) (h4 : n ≤ 1000) (h5 : hi = lo + n - 1) :
    Calls Try.prog 47 #[.int .i64 lo, .int .i64 hi, .int .i64 up] W fun e w' => ∃ v, e = .returned v ∧ POwn w' W.heap.size v (Fd.spanL lo up n) ∧ Below W.heap.size W w' := by
  obtain ⟨i0, hi0, hz0, hz1, hz2⟩ := info_parts Try.infoPair
  have h6 : hi < lo + n := by omega
  have h7 : lo + n ≤ hi + 1 := by omega
  clear h5
  go_enter Try.func47, Try.ntmps47
  go_wp2
  go_loopw [7, 8] (fun V C wr => ∃ k : Nat, k ≤ n ∧ C = .int .i64 (lo + k) ∧ Hid (POwn wr W.heap.size V (Fd.spanL lo up k)) ∧ Hid (Below W.heap.size W wr)) (fun _ C _ => (lo + n - intOf C).toNat)
  case atStart => exact ⟨0, Nat.zero_le _, by simp, Lib.hid POwn.nil, Lib.hid (Below.refl _ _)⟩
  case round =>
    obtain ⟨k, hk, rfl, HO, HB⟩ := hrel
    by_cases hlt : k < n
    · have hown := HO.out
      unfold POwn at hown
      rw [Fd.spanL_len] at hown
      have hsz := HB.out.size
      have HS := Lib.hid (Fd.spanL_snoc k lo up)
      have c1 : lo + (k : Int) ≤ hi := by omega
      obtain ⟨c, hc⟩ : ∃ c, lo + (k : Int) = c := ⟨_, rfl⟩
      rw [hc] at HS c1 ⊢
      have d1 : 0 ≤ c := by omega
      have d2 : c ≤ 6000 := by omega
      have HC := Lib.hid hc
      clear hc
      go_wp2_with (at_builtin; (refine wpList_append_own _ (by rfl) _ _ 45 (by rfl) W.heap.size 48 i0 (.agg #[.int .i64 0, .int .i64 0]) 2 16 Try.underlying45 hi0 hz0 hz1 hz2 rfl (by decide) _ k (flat2 (Fd.spanL lo up k)) (by rfl) (hown.alloc _) ⟨wr.heap.size, 0, none⟩ 1 1 [.int .i64 c, .int .i64 (c + up)] (by rfl) rfl (World.news_of_block (cs := #[.int .i64 c, .int .i64 (c + up)]) (heap_alloc_new wr _)) (by simp [Value.oneCell']) (by unfold maxLen; omega) (by omega) (by simp; omega) ?_))
      intro v1 w1 hown1 hgrow _
      have hO2 : POwn w1 W.heap.size v1 (Fd.spanL lo up (k + 1)) := by
        unfold POwn; rw [Fd.spanL_len, HS.out, flat2_snoc]; exact hown1
      have hB2 := (HB.out.alloc hsz _).grown hgrow (by simp; omega) (fun q hq => (hown.lt q hq).1)
      have HO2 := Lib.hid hO2
      have HB2 := Lib.hid hB2
      clear hO2 hown1 hgrow hown hB2
      go_wp2
      go_roundw
      case rel => exact ⟨k + 1, by omega, by rw [show lo + ((k + 1 : Nat) : Int) = c + 1 from by have := HC.out; omega], HO2, HB2⟩
      case measure => have := HC.out; simp [intOf]; omega
    · obtain rfl : k = n := by omega
      have c1 : hi < lo + (k : Int) := by omega
      go_wp2
      go_ret
      exact ⟨_, rfl, HO.out, HB.out⟩
set_option maxRecDepth 100000 in
set_option maxHeartbeats 2000000 in
theorem joined_any (W : World) (v : Value) (l : List Int) (r : Int) (hr : IRow W v l) :
    Calls Try.prog 31 #[v, .int .i64 r] W fun e w' => e = .returned (.bool (Fd.joinB l r)) ∧ W = w' := by
  obtain ⟨a, cap, rfl, hnc, hcm, hc⟩ := hr
  have HC := Lib.hid hc
  obtain ⟨n, hn⟩ : ∃ n, l.length = n := ⟨_, rfl⟩
  have HN := Lib.hid hn
  rw [hn] at HC hnc ⊢
  clear hc hn
  go_enter Try.func31, Try.ntmps31
  go_wp2
  go_loop [4, 5] (fun R i => ∃ k : Nat, k ≤ n ∧ i = .int .i64 k ∧ Hid (Fd.joinB (l.take k) r = false)) (fun _ i => n - (intOf i).toNat)
  case atStart => exact ⟨0, Nat.zero_le _, rfl, Lib.hid rfl⟩
  case round =>
    obtain ⟨k, hk, rfl, HJ⟩ := hrel
    by_cases hlt : k < n
    · obtain ⟨b, rfl, hb, hcell⟩ := HC.out k hlt
      have HT := Lib.hid (Fd.joinB_take_succ l k r (by rw [HN.out]; exact hlt))
      obtain ⟨x, hx⟩ : ∃ x, l[k]?.getD 0 = x := ⟨_, rfl⟩
      have HM : Hid (x = r → Fd.joinB l r = true) := Lib.hid (fun e => (Fd.joinB_iff l r).2 (by
        rw [← e, ← hx, List.getElem?_eq_getElem (by rw [HN.out]; exact hlt)]; exact List.getElem_mem _))
      rw [hx] at hcell HT
      clear hx
      by_cases e : x = r
      · have HR := Lib.hid (HM.out e)
        have hq : (x == r) = true := by rw [e]; simp
        clear e
        go_wp2
        go_ret
        exact ⟨by rw [HR.out]; rfl, rfl⟩
      · have hq : (x == r) = false := beq_eq_false_iff_ne.2 e
        have HJ' : Hid (Fd.joinB (l.take (k + 1)) r = false) := Lib.hid (by rw [HT.out, HJ.out, decide_eq_false e]; rfl)
        clear e
        go_wp2
        go_round
        case rel => exact ⟨k + 1, by omega, by go_num, HJ'⟩
        case measure => simp [intOf]; omega
    · obtain rfl : k = n := by omega
      have hJ := HJ.out
      rw [List.take_of_length_le (by rw [HN.out]; exact Nat.le_refl _)] at hJ
      have HJ' := Lib.hid hJ
      clear hJ
      go_wp2
      go_ret
      exact ⟨by rw [HJ'.out]; rfl, rfl⟩
end Go.Proofs.Ytbccaljfofnepaa
