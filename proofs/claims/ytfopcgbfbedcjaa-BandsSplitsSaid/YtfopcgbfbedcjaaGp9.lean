/- The plain mathematics of bands: lengths, and the steps of splitting as the bytes say them. · burinbook.LendRanges. · burinbook.KeptRanges and SpoilRanges. -/
import Derived.Test.YtfopcgbfbedcjaaGp8
import Derived.Test.YtfopcgbfbedcjaaGp7
import Derived.Test.YtfopcgbfbedcjaaGp4
namespace Go.Proofs.Ytfopcgbfbedcjaa.Bd
open Go.Proofs.Ytfopcgbfbedcjaa.Rg
set_option linter.unusedVariables false
/-- One round of the search for the place of the cut. -/
theorem cutFrom_none {lo hi : Int} {w i f : Nat} (hi' : i < w) (h : cut lo hi i = none) : cutFrom lo hi w i (f + 1) = cutFrom lo hi w (i + 1) f := by
  rw [cutFrom, if_pos hi', h]
theorem cutFrom_some {lo hi m : Int} {w i f : Nat} (hi' : i < w) (h : cut lo hi i = some m) : cutFrom lo hi w i (f + 1) = some m := by
  rw [cutFrom, if_pos hi', h]
theorem cutFrom_end {lo hi : Int} {w i f : Nat} (h : ¬ i < w) : cutFrom lo hi w i f = none := by
  cases f with
  | zero => rfl
  | succ f => rw [cutFrom, if_neg h]
/-- The string of a rune's bytes: what the tests on it say. -/
structure EncIs (s : ByteArray) (r : Int) (w : Nat) : Prop where
  nums : Utf.nums s = Utf.encN r
  size : s.size = w
  width : Utf.width r = w
theorem encIs {r : Int} {w : Nat} (h : Utf.width r = w) : EncIs (strOfNums (Utf.encN r)) r w :=
  ⟨nums_strOf _ (Utf.encN_bytes r), by rw [size_strOf]; have := Utf.encN_length r; omega, h⟩
theorem EncIs.pre {s t : ByteArray} {a b : Int} {w i : Nat} (h : EncIs s a w) (k : EncIs t b w) (h1 : 1 ≤ i) (h2 : i < w) : ((s.extract 0 (w - i)).toList == (t.extract 0 (w - i)).toList) = decide (a / pw i = b / pw i) := by
  rw [Bool.eq_iff_iff, beq_iff_eq, decide_eq_true_eq, ← pre_iff h.width k.width h1 h2]
  have e : ∀ x : ByteArray, Utf.nums (x.extract 0 (w - i)) = (Utf.nums x).take (w - i) := fun x => by rw [Utf.nums_extract]; simp
  rw [← h.nums, ← k.nums, ← e, ← e]
  constructor
  · intro hh
    have : s.extract 0 (w - i) = t.extract 0 (w - i) := by
      apply ByteArray.ext; apply Array.toList_inj.1
      rw [← ByteArray.toList_eq, ← ByteArray.toList_eq]; exact hh
    rw [this]
  · intro hh; rw [nums_inj hh]
theorem EncIs.low {s : ByteArray} {a : Int} {w i : Nat} (h : EncIs s a w) (h1 : 1 ≤ i) (h2 : i < w) : lastAll (Utf.nums s) i 128 = decide (a % pw i = 0) := by
  rw [Bool.eq_iff_iff, decide_eq_true_eq, h.nums]; exact last_low h.width h1 h2
theorem EncIs.high {s : ByteArray} {a : Int} {w i : Nat} (h : EncIs s a w) (h1 : 1 ≤ i) (h2 : i < w) : lastAll (Utf.nums s) i 191 = decide (a % pw i = pw i - 1) := by
  rw [Bool.eq_iff_iff, decide_eq_true_eq, h.nums]; exact last_high h.width h1 h2
theorem EncIs.fillHigh {s : ByteArray} {a : Int} {w i : Nat} (h : EncIs s a w) (h0 : w ≠ 0) (h1 : 1 ≤ i) (h2 : i < w) (hm : Utf.width (a / pw i * pw i + pw i - 1) = w) : (Utf.dec (fillN (Utf.nums s) i 191)).1 = a / pw i * pw i + pw i - 1 := by
  rw [h.nums, fill_high h.width h1 h2 hm]
  have := Utf.dec_enc (a / pw i * pw i + pw i - 1) (by rw [hm]; omega) []
  rw [List.append_nil] at this
  rw [this]
theorem EncIs.fillLow {s : ByteArray} {a : Int} {w i : Nat} (h : EncIs s a w) (h0 : w ≠ 0) (h1 : 1 ≤ i) (h2 : i < w) (hm : Utf.width (a / pw i * pw i) = w) : (Utf.dec (fillN (Utf.nums s) i 128)).1 = a / pw i * pw i := by
  rw [h.nums, fill_low h.width h1 h2 hm]
  have := Utf.dec_enc (a / pw i * pw i) (by rw [hm]; omega) []
  rw [List.append_nil] at this
  rw [this]
theorem cut_same {lo hi : Int} {i : Nat} (h : lo / pw i = hi / pw i) : cut lo hi i = none := by unfold cut; rw [if_pos h]
theorem cut_low {lo hi : Int} {i : Nat} (h : lo / pw i ≠ hi / pw i) (h1 : lo % pw i ≠ 0) : cut lo hi i = some (lo / pw i * pw i + pw i - 1) := by unfold cut; rw [if_neg h, if_pos h1]
theorem cut_high {lo hi : Int} {i : Nat} (h : lo / pw i ≠ hi / pw i) (h1 : lo % pw i = 0) (h2 : hi % pw i ≠ pw i - 1) : cut lo hi i = some (hi / pw i * pw i - 1) := by unfold cut; rw [if_neg h, if_neg (by omega), if_pos h2]
theorem cut_no {lo hi : Int} {i : Nat} (h : lo / pw i ≠ hi / pw i) (h1 : lo % pw i = 0) (h2 : hi % pw i = pw i - 1) : cut lo hi i = none := by unfold cut; rw [if_neg h, if_neg (by omega), if_neg (by omega)]
end Go.Proofs.Ytfopcgbfbedcjaa.Bd
namespace Go.Proofs.Ytfopcgbfbedcjaa
open Go.RowKit
set_option linter.unusedVariables false
set_option maxRecDepth 100000 in
set_option maxHeartbeats 2000000 in
theorem lend_walk (W : World) (va : Value) (a : List (Int × Int)) (ha : RRow W va a) :
    Calls Try.prog 9 #[va] W fun e w' => ∃ g cap, a.length + 1 ≤ cap ∧ e = .returned (.slice (some ⟨g, 0, none⟩) a.length cap) ∧ RgOwn w' W.heap.size (.slice (some ⟨g, 0, none⟩) (a.length + 1) cap) (a ++ [(7, 0)]) ∧ Below W.heap.size W w' := by
  obtain ⟨i0, hi, hz0, hz1, hz2⟩ := info_parts Try.infoRange
  obtain ⟨a0, p, rfl, hl, hw, hc⟩ := ha
  obtain ⟨w1, hr1, ho1, hg1⟩ := run_make_own (P := Try.prog) W W.heap.size 22 44 i0 (.agg #[.int .i64 0, .int .i64 0]) 2 Try.underlying22 hi hz0 hz1 .i64 .i64 (a.length + 1) (by rw [hz2]; omega) (by unfold maxLen; omega) (Nat.le_refl _)
  have hB1 : Below W.heap.size W w1 := (Below.refl _ _).grown hg1 (Nat.le_refl _) (fun k hk => by cases hk)
  have h2 : ∃ w2, (Builtin.append_ #[22, 22] 22 #[.slice (some ⟨W.heap.size, 0, none⟩) 0 (a.length + 1), .slice a0 a.length p]).run Try.prog w1 = .ok (.slice (some ⟨W.heap.size, 0, none⟩) a.length (a.length + 1)) w2 ∧
      w2.ownsRow W.heap.size 44 2 (.slice (some ⟨W.heap.size, 0, none⟩) a.length (a.length + 1)) a.length (flat2 a) ∧ Below W.heap.size W w2 := by
    rcases Nat.eq_zero_or_pos a.length with h0 | hp
    · have e0 : a = [] := List.eq_nil_of_length_eq_zero h0
      subst e0
      exact ⟨w1, run_append_nothing W.heap.size _ _ 44 i0 2 Try.underlying22 hi _ 0 [] ho1 a0 p, ho1, hB1⟩
    · obtain ⟨b, off, rfl, hb, _⟩ := hc 0 hp
      have hc' : ∀ j, j < a.length → w1.cell? ⟨b, off + j * 2, none⟩ = some (.int .i64 (a[j]?.getD (0, 0)).1) ∧ w1.cell? ⟨b, off + j * 2 + 1, none⟩ = some (.int .i64 (a[j]?.getD (0, 0)).2) := by
        intro j hj
        obtain ⟨b', off', hbb, _, h1, h2⟩ := hc j hj
        injection hbb with hbb; injection hbb with hb1 hb2; subst hb1; subst hb2
        exact ⟨hg1.cell h1 (by simp), hg1.cell h2 (by simp)⟩
      obtain ⟨w2, hr2, ho2, hg2⟩ := run_append_fits (P := Try.prog) w1 W.heap.size 22 22 44 i0 2 Try.underlying22 hi hz1 W.heap.size 0 (a.length + 1) [] ho1 ⟨b, off, none⟩ a.length p (flat2 a) (flat2_len a) (rg_news hc') (flat2_one a) (by omega)
      rw [Nat.zero_add, List.nil_append] at ho2
      rw [Nat.zero_add] at hr2
      exact ⟨w2, hr2, ho2, hB1.grown hg2 hB1.size (fun k hk => by injection hk with hk; omega)⟩
  obtain ⟨w2, hr2, ho2, hB2⟩ := h2
  have h3 := run_append_fits (P := Try.prog) (w2.alloc (.cells #[.int .i64 7, .int .i64 0] 44)) W.heap.size 22 22 44 i0 2 Try.underlying22 hi hz1 W.heap.size a.length (a.length + 1) (flat2 a) (ho2.alloc _) ⟨w2.heap.size, 0, none⟩ 1 1 [.int .i64 7, .int .i64 0] rfl (World.news_of_block (cs := #[.int .i64 7, .int .i64 0]) (heap_alloc_new w2 _)) (by simp [Value.oneCell']) (by omega)
  obtain ⟨w3, hr3, ho3, hg3⟩ := h3
  have hB3 := (hB2.alloc hB2.size (.cells #[.int .i64 7, .int .i64 0] 44)).grown hg3 (by have := hB2.size; simp; omega) (fun k hk => by injection hk with hk; omega)
  have HO3 := Lib.hid ho3
  have HB3 := Lib.hid hB3
  have HR2 := Lib.hid hr2
  have HR3 := Lib.hid hr3
  push_cast at hr1
  clear hB1 hc hw ho1 hg1 ho2 hB2 ho3 hg3 hB3 hr2 hr3
  go_enter Try.func9, Try.ntmps9
  go_wp2_with (at_builtin; first
    | (refine wpList_append_run (by rfl) (.tmp 6) (.tmp 7) 22 (by rfl) (.slice (some ⟨W.heap.size, 0, none⟩) 0 (a.length + 1)) (.slice a0 a.length p) (.slice (some ⟨W.heap.size, 0, none⟩) a.length (a.length + 1)) w2 (by rfl) (by rfl) HR2.out ?_)
    | (refine wpList_append_run (by rfl) (.tmp 8) (.tmp 10) 22 (by rfl) (.slice (some ⟨W.heap.size, 0, none⟩) a.length (a.length + 1)) (.slice (some ⟨w2.heap.size, 0, none⟩) 1 1) (.slice (some ⟨W.heap.size, 0, none⟩) (a.length + 1) (a.length + 1)) w3 (by rfl) (by rfl) HR3.out ?_))
  go_ret
  refine ⟨W.heap.size, a.length + 1, Nat.le_refl _, rfl, ?_, HB3.out⟩
  unfold RgOwn
  rw [List.length_append, flat2_snoc]
  exact HO3.out
end Go.Proofs.Ytfopcgbfbedcjaa
namespace Go.Proofs.Ytfopcgbfbedcjaa
open Go.RowKit
set_option linter.unusedVariables false
set_option maxRecDepth 100000 in
set_option maxHeartbeats 1000000 in
theorem kept_walk (W : World) (vb : Value) (g n cap : Nat) (l : List (Int × Int)) (hn : l.length = n) (ha : RRow W (.slice (some ⟨g, 0, none⟩) n cap) l) (hb : RRow W vb l)
    (hcap : n + 1 ≤ cap) (hn2 : n ≤ 8796093022208) (h1 : W.cell? ⟨g, n * 2, none⟩ = some (.int .i64 7)) (h2 : W.cell? ⟨g, n * 2 + 1, none⟩ = some (.int .i64 0)) :
    Calls Try.prog 15 #[.slice (some ⟨g, 0, none⟩) n cap, vb] W fun e w' => e = .returned (.bool true) ∧ ∃ d, w' = W.drewN d := by
  have HA := Lib.hid ha
  have HB := Lib.hid hb
  clear ha hb hn
  go_enter Try.func15, Try.ntmps15
  go_wp2_with fail
  refine (same_rg _ _ _ l l HA.out HB.out).mono ?_
  rintro e wa ⟨rfl, d, rfl⟩
  rw [decide_eq_true (rfl : l = l)]
  go_wp2
  go_ret
  exact ⟨rfl, _, rfl⟩
set_option maxRecDepth 100000 in
set_option maxHeartbeats 1000000 in
theorem spoil_nil (W : World) :
    Calls Try.prog 21 #[.slice none 0 0] W fun e w' => e = .returned (.tuple #[]) ∧ Below W.heap.size W w' := by
  go_enter Try.func21, Try.ntmps21
  go_wp2
  refine wp_loop_rounds 1 ?_
  rw [rounds_succ]
  go_wp2
  exact ⟨rfl, .tuple #[], by simp [results, Try.func21, go_sem], And.intro rfl (Below.refl _ _)⟩
theorem cell_in_row {w : World} {g i : Nat} {cs : Array Value} {t : TypeId} (hg : w.heap[g]? = some (.cells cs t (0, 0))) (hi : i < cs.size) : ∃ v, w.cell? ⟨g, i, none⟩ = some v := by
  simp [World.cell?, hg, hi]
set_option maxRecDepth 100000 in
set_option maxHeartbeats 1000000 in
theorem spoil_walk (W : World) (g n cap B : Nat) (cs : Array Value) (hB : B ≤ g) (hg : W.heap[g]? = some (.cells cs 44 (0, 0))) (hcs : cs.size = cap * 2) (hnc : n ≤ cap) (hcap : cap ≤ 9223372036854775807) :
    Calls Try.prog 21 #[.slice (some ⟨g, 0, none⟩) n cap] W fun e w' => e = .returned (.tuple #[]) ∧ Below B W w' := by
  have HG := Lib.hid hg
  have HCS := Lib.hid hcs
  clear hg hcs
  go_enter Try.func21, Try.ntmps21
  go_wp2
  go_loopw [9] (fun R wr => ∃ (k : Nat) (cs' : Array Value), k ≤ cap ∧ R = .int .i64 k ∧ Hid (wr.heap[g]? = some (.cells cs' 44 (0, 0))) ∧ Hid (cs'.size = cap * 2) ∧ Hid (Below B W wr)) (fun R _ => cap - (intOf R).toNat)
  case atStart => exact ⟨0, cs, Nat.zero_le _, rfl, HG, HCS, Lib.hid (Below.refl _ _)⟩
  case round =>
    obtain ⟨k, cs', hk, rfl, HG', HCS', HB⟩ := hrel
    clear HG HCS
    by_cases hlt : k < cap
    · obtain ⟨v1, hv1⟩ := cell_in_row (i := k * 2) HG'.out (by rw [HCS'.out]; omega)
      obtain ⟨v2, hv2⟩ := cell_in_row (i := k * 2 + 1) HG'.out (by rw [HCS'.out]; omega)
      have hf1 := frozen_of_row _ g (k * 2) _ _ HG'.out
      have hf2 := frozen_of_row _ g (k * 2 + 1) _ _ HG'.out
      go_wp2
      refine ⟨⟨k + 1, _, by omega, by go_num, Lib.hid (heap_setCell_same _ g _ _ _ _ (heap_setCell_same _ g _ _ _ _ HG'.out)), Lib.hid (by simp [HCS'.out]), Lib.hid ((HB.out.setCell (p := ⟨g, k * 2, none⟩) hB _).setCell (p := ⟨g, k * 2 + 1, none⟩) hB _)⟩, by simp [intOf]; omega⟩
    · obtain rfl : k = cap := by omega
      go_wp2
      exact ⟨rfl, .tuple #[], by simp [results, Try.func21, go_sem], And.intro rfl (HB.out)⟩
/-- What a call owns is spoilt. -/
theorem spoil_own (W : World) (base : Nat) (v : Value) (l : List (Int × Int)) (h : RgOwn W base v l) (hb : base ≤ W.heap.size) :
    Calls Try.prog 21 #[v] W fun e w' => e = .returned (.tuple #[]) ∧ Below base W w' := by
  rcases h.2 with ⟨rfl, _⟩ | ⟨g, cap, cur, rfl, hbg, hg, hnc, hcm, hcs, _⟩
  · exact (spoil_nil W).mono fun e w' h => ⟨h.1, h.2.mono hb⟩
  · exact spoil_walk W g _ cap base cur hbg hg hcs hnc (by simpa [maxLen] using hcm)
end Go.Proofs.Ytfopcgbfbedcjaa
