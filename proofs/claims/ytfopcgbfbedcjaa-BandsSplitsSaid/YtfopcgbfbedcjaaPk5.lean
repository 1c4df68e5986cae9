/- The plain mathematics of bands: what the splitting of numbers is in the bytes of the encodings; no program. · The plain mathematics of bands: lengths, and the steps of splitting as the bytes say them. · burinbook.LendRanges. · burinbook.KeptRanges and SpoilRanges. · The landed bands: the sequence of a range that is not split. · Lists of sequences of ranges in memory; burinbook.SameSeqs. -/
import Derived.Test.YtfopcgbfbedcjaaPk3
import Derived.Test.YtfopcgbfbedcjaaPk4
import Derived.Test.YtfopcgbfbedcjaaPk2
import Derived.Deep.RegionHeld3
import Derived.Laws.MakeOwn
namespace Go.Proofs.Ytfopcgbfbedcjaa.Bd
open Go.Proofs.Ytfopcgbfbedcjaa.Rg
set_option linter.unusedVariables false
/-- Two runes of one class: of one width, and all between them runes. -/
structure Cls (w : Nat) (lo hi : Int) : Prop where
  le : lo ≤ hi
  bd : (w = 1 ∧ 0 ≤ lo ∧ hi ≤ 127) ∨ (w = 2 ∧ 128 ≤ lo ∧ hi ≤ 2047) ∨ (w = 3 ∧ 2048 ≤ lo ∧ hi ≤ 55295) ∨ (w = 3 ∧ 57344 ≤ lo ∧ hi ≤ 65535) ∨ (w = 4 ∧ 65536 ≤ lo ∧ hi ≤ 1114111)
theorem Cls.width {w : Nat} {lo hi r : Int} (h : Cls w lo hi) (h1 : lo ≤ r) (h2 : r ≤ hi) : Utf.width r = w := by
  have hb := h.bd
  rcases Utf.width_cases r with ⟨q, z⟩ | ⟨q, z⟩ | ⟨q, z⟩ | ⟨q, z⟩ | ⟨q, z⟩ <;> omega
theorem Cls.sub {w : Nat} {lo hi a b : Int} (h : Cls w lo hi) (h1 : lo ≤ a) (h2 : b ≤ hi) (h3 : a ≤ b) : Cls w a b :=
  ⟨h3, by have := h.bd; omega⟩
theorem enc1 {r : Int} (h : Utf.width r = 1) : Utf.encN r = [r] := by simp [Utf.encN, h]
theorem enc2 {r : Int} (h : Utf.width r = 2) : Utf.encN r = [192 + r / 64, 128 + r % 64] := by simp [Utf.encN, h]
theorem enc3 {r : Int} (h : Utf.width r = 3) : Utf.encN r = [224 + r / 4096, 128 + r / 64 % 64, 128 + r % 64] := by simp [Utf.encN, h]
theorem enc4 {r : Int} (h : Utf.width r = 4) : Utf.encN r = [240 + r / 262144, 128 + r / 4096 % 64, 128 + r / 64 % 64, 128 + r % 64] := by simp [Utf.encN, h]
/-- The pairs (width, i) there are. -/
theorem wi_cases {w i : Nat} (hw : w ≤ 4) (h1 : 1 ≤ i) (h2 : i < w) : (w = 2 ∧ i = 1) ∨ (w = 3 ∧ i = 1) ∨ (w = 3 ∧ i = 2) ∨ (w = 4 ∧ i = 1) ∨ (w = 4 ∧ i = 2) ∨ (w = 4 ∧ i = 3) := by omega
theorem pre_iff {w i : Nat} {a b : Int} (ha : Utf.width a = w) (hb : Utf.width b = w) (h1 : 1 ≤ i) (h2 : i < w) : (Utf.encN a).take (w - i) = (Utf.encN b).take (w - i) ↔ a / pw i = b / pw i := by
  have hw : w ≤ 4 := by have := Utf.width_le a; omega
  rcases wi_cases hw h1 h2 with ⟨rfl, rfl⟩ | ⟨rfl, rfl⟩ | ⟨rfl, rfl⟩ | ⟨rfl, rfl⟩ | ⟨rfl, rfl⟩ | ⟨rfl, rfl⟩
  · rw [enc2 ha, enc2 hb]; simp [pw] <;> omega
  · rw [enc3 ha, enc3 hb]; simp [pw] <;> omega
  · rw [enc3 ha, enc3 hb]; simp [pw] <;> omega
  · rw [enc4 ha, enc4 hb]; simp [pw] <;> omega
  · rw [enc4 ha, enc4 hb]; simp [pw] <;> omega
  · rw [enc4 ha, enc4 hb]; simp [pw] <;> omega
/-- The last i bytes are all c. -/
def lastAll (l : List Int) (i : Nat) (c : Int) : Bool := (l.drop (l.length - i)).all fun x => decide (x = c)
theorem last_low {w i : Nat} {a : Int} (ha : Utf.width a = w) (h1 : 1 ≤ i) (h2 : i < w) : lastAll (Utf.encN a) i 128 = true ↔ a % pw i = 0 := by
  have hw : w ≤ 4 := by have := Utf.width_le a; omega
  unfold lastAll
  rcases wi_cases hw h1 h2 with ⟨rfl, rfl⟩ | ⟨rfl, rfl⟩ | ⟨rfl, rfl⟩ | ⟨rfl, rfl⟩ | ⟨rfl, rfl⟩ | ⟨rfl, rfl⟩
  · rw [enc2 ha]; simp [pw] <;> omega
  · rw [enc3 ha]; simp [pw] <;> omega
  · rw [enc3 ha]; simp [pw] <;> omega
  · rw [enc4 ha]; simp [pw] <;> omega
  · rw [enc4 ha]; simp [pw] <;> omega
  · rw [enc4 ha]; simp [pw] <;> omega
theorem last_high {w i : Nat} {a : Int} (ha : Utf.width a = w) (h1 : 1 ≤ i) (h2 : i < w) : lastAll (Utf.encN a) i 191 = true ↔ a % pw i = pw i - 1 := by
  have hw : w ≤ 4 := by have := Utf.width_le a; omega
  unfold lastAll
  rcases wi_cases hw h1 h2 with ⟨rfl, rfl⟩ | ⟨rfl, rfl⟩ | ⟨rfl, rfl⟩ | ⟨rfl, rfl⟩ | ⟨rfl, rfl⟩ | ⟨rfl, rfl⟩
  · rw [enc2 ha]; simp [pw] <;> omega
  · rw [enc3 ha]; simp [pw] <;> omega
  · rw [enc3 ha]; simp [pw] <;> omega
  · rw [enc4 ha]; simp [pw] <;> omega
  · rw [enc4 ha]; simp [pw] <;> omega
  · rw [enc4 ha]; simp [pw] <;> omega
/-- The bytes ahead of the last i, and c in these. -/
def fillN (l : List Int) (i : Nat) (c : Int) : List Int := l.take (l.length - i) ++ List.replicate i c
theorem fill_high {w i : Nat} {a : Int} (ha : Utf.width a = w) (h1 : 1 ≤ i) (h2 : i < w) (hm : Utf.width (a / pw i * pw i + pw i - 1) = w) : fillN (Utf.encN a) i 191 = Utf.encN (a / pw i * pw i + pw i - 1) := by
  have hw : w ≤ 4 := by have := Utf.width_le a; omega
  unfold fillN
  rcases wi_cases hw h1 h2 with ⟨rfl, rfl⟩ | ⟨rfl, rfl⟩ | ⟨rfl, rfl⟩ | ⟨rfl, rfl⟩ | ⟨rfl, rfl⟩ | ⟨rfl, rfl⟩
  · rw [enc2 ha, enc2 hm]; simp [pw, List.replicate] <;> omega
  · rw [enc3 ha, enc3 hm]; simp [pw, List.replicate] <;> omega
  · rw [enc3 ha, enc3 hm]; simp [pw, List.replicate] <;> omega
  · rw [enc4 ha, enc4 hm]; simp [pw, List.replicate] <;> omega
  · rw [enc4 ha, enc4 hm]; simp [pw, List.replicate] <;> omega
  · rw [enc4 ha, enc4 hm]; simp [pw, List.replicate] <;> omega
theorem fill_low {w i : Nat} {a : Int} (ha : Utf.width a = w) (h1 : 1 ≤ i) (h2 : i < w) (hm : Utf.width (a / pw i * pw i) = w) : fillN (Utf.encN a) i 128 = Utf.encN (a / pw i * pw i) := by
  have hw : w ≤ 4 := by have := Utf.width_le a; omega
  unfold fillN
  rcases wi_cases hw h1 h2 with ⟨rfl, rfl⟩ | ⟨rfl, rfl⟩ | ⟨rfl, rfl⟩ | ⟨rfl, rfl⟩ | ⟨rfl, rfl⟩ | ⟨rfl, rfl⟩
  · rw [enc2 ha, enc2 hm]; simp [pw, List.replicate] <;> omega
  · rw [enc3 ha, enc3 hm]; simp [pw, List.replicate] <;> omega
  · rw [enc3 ha, enc3 hm]; simp [pw, List.replicate] <;> omega
  · rw [enc4 ha, enc4 hm]; simp [pw, List.replicate] <;> omega
  · rw [enc4 ha, enc4 hm]; simp [pw, List.replicate] <;> omega
  · rw [enc4 ha, enc4 hm]; simp [pw, List.replicate] <;> omega
end Go.Proofs.Ytfopcgbfbedcjaa.Bd
namespace Go.Proofs.Ytfopcgbfbedcjaa.Bd
open Go.Proofs.Ytfopcgbfbedcjaa.Rg
set_option linter.unusedVariables false
/-- One round of the search for the place of the cut. -/
theorem cutFrom_none {lo hi : Int} {w i f : Nat} (hi' : i < w) (h : cut lo hi i = none) : cutFrom lo hi w i (f + 1) = cutFrom lo hi w (i + 1) f := by
  rw [cutFrom, if_pos hi', h]
theorem cutFrom_some {lo hi m : Int} {w i f : Nat} (hi' : i < w) (h : cut lo hi i = some m) : cutFrom lo hi w i (f + 1) = some m := by
  rw [cutFrom, if_pos hi', h]
theorem cutFrom_end {lo hi : Int} {w i f : Nat} (h : ¬ i < w) : cutFrom lo hi w i f = none := by
  cases f with
  | zero => rfl
  | succ f => rw [cutFrom, if_neg h]
/-- The string of a rune's bytes: what the tests on it say. -/
structure EncIs (s : ByteArray) (r : Int) (w : Nat) : Prop where
  nums : Utf.nums s = Utf.encN r
  size : s.size = w
  width : Utf.width r = w
theorem encIs {r : Int} {w : Nat} (h : Utf.width r = w) : EncIs (strOfNums (Utf.encN r)) r w :=
  ⟨nums_strOf _ (Utf.encN_bytes r), by rw [size_strOf]; have := Utf.encN_length r; omega, h⟩
theorem EncIs.pre {s t : ByteArray} {a b : Int} {w i : Nat} (h : EncIs s a w) (k : EncIs t b w) (h1 : 1 ≤ i) (h2 : i < w) : ((s.extract 0 (w - i)).toList == (t.extract 0 (w - i)).toList) = decide (a / pw i = b / pw i) := by
  rw [Bool.eq_iff_iff, beq_iff_eq, decide_eq_true_eq, ← pre_iff h.width k.width h1 h2]
  have e : ∀ x : ByteArray, Utf.nums (x.extract 0 (w - i)) = (Utf.nums x).take (w - i) := fun x => by rw [Utf.nums_extract]; simp
  rw [← h.nums, ← k.nums, ← e, ← e]
  constructor
  · intro hh
    have : s.extract 0 (w - i) = t.extract 0 (w - i) := by
      apply ByteArray.ext; apply Array.toList_inj.1
      rw [← ByteArray.toList_eq, ← ByteArray.toList_eq]; exact hh
    rw [this]
  · intro hh; rw [nums_inj hh]
theorem EncIs.low {s : ByteArray} {a : Int} {w i : Nat} (h : EncIs s a w) (h1 : 1 ≤ i) (h2 : i < w) : lastAll (Utf.nums s) i 128 = decide (a % pw i = 0) := by
  rw [Bool.eq_iff_iff, decide_eq_true_eq, h.nums]; exact last_low h.width h1 h2
theorem EncIs.high {s : ByteArray} {a : Int} {w i : Nat} (h : EncIs s a w) (h1 : 1 ≤ i) (h2 : i < w) : lastAll (Utf.nums s) i 191 = decide (a % pw i = pw i - 1) := by
  rw [Bool.eq_iff_iff, decide_eq_true_eq, h.nums]; exact last_high h.width h1 h2
theorem EncIs.fillHigh {s : ByteArray} {a : Int} {w i : Nat} (h : EncIs s a w) (h0 : w ≠ 0) (h1 : 1 ≤ i) (h2 : i < w) (hm : Utf.width (a / pw i * pw i + pw i - 1) = w) : (Utf.dec (fillN (Utf.nums s) i 191)).1 = a / pw i * pw i + pw i - 1 := by
  rw [h.nums, fill_high h.width h1 h2 hm]
  have := Utf.dec_enc (a / pw i * pw i + pw i - 1) (by rw [hm]; omega) []
  rw [List.append_nil] at this
  rw [this]
theorem EncIs.fillLow {s : ByteArray} {a : Int} {w i : Nat} (h : EncIs s a w) (h0 : w ≠ 0) (h1 : 1 ≤ i) (h2 : i < w) (hm : Utf.width (a / pw i * pw i) = w) : (Utf.dec (fillN (Utf.nums s) i 128)).1 = a / pw i * pw i := by
  rw [h.nums, fill_low h.width h1 h2 hm]
  have := Utf.dec_enc (a / pw i * pw i) (by rw [hm]; omega) []
  rw [List.append_nil] at this
  rw [this]
theorem cut_same {lo hi : Int} {i : Nat} (h : lo / pw i = hi / pw i) : cut lo hi i = none := by unfold cut; rw [if_pos h]
theorem cut_low {lo hi : Int} {i : Nat} (h : lo / pw i ≠ hi / pw i) (h1 : lo % pw i ≠ 0) : cut lo hi i = some (lo / pw i * pw i + pw i - 1) := by unfold cut; rw [if_neg h, if_pos h1]
theorem cut_high {lo hi : Int} {i : Nat} (h : lo / pw i ≠ hi / pw i) (h1 : lo % pw i = 0) (h2 : hi % pw i ≠ pw i - 1) : cut lo hi i = some (hi / pw i * pw i - 1) := by unfold cut; rw [if_neg h, if_neg (by omega), if_pos h2]
theorem cut_no {lo hi : Int} {i : Nat} (h : lo / pw i ≠ hi / pw i) (h1 : lo % pw i = 0) (h2 : hi % pw i = pw i - 1) : cut lo hi i = none := by unfold cut; rw [if_neg h, if_neg (by omega), if_neg (by omega)]
end Go.Proofs.Ytfopcgbfbedcjaa.Bd
namespace Go.Proofs.Ytfopcgbfbedcjaa
open Go.RowKit
set_option linter.unusedVariables false
set_option maxRecDepth 100000 in
set_option maxHeartbeats 2000000 in
theorem lend_walk (W : World) (va : Value) (a : List (Int × Int)) (ha : RRow W va a) :
    Calls Try.prog 9 #[va] W fun e w' => ∃ g cap, a.length + 1 ≤ cap ∧ e = .returned (.slice (some ⟨g, 0, none⟩) a.length cap) ∧ RgOwn w' W.heap.size (.slice (some ⟨g, 0, none⟩) (a.length + 1) cap) (a ++ [(7, 0)]) ∧ Below W.heap.size W w' := by
  obtain ⟨i0, hi, hz0, hz1, hz2⟩ := info_parts Try.infoRange
  obtain ⟨a0, p, rfl, hl, hw, hc⟩ := ha
  obtain ⟨w1, hr1, ho1, hg1⟩ := run_make_own (P := Try.prog) W W.heap.size 22 44 i0 (.agg #[.int .i64 0, .int .i64 0]) 2 Try.underlying22 hi hz0 hz1 .i64 .i64 (a.length + 1) (by rw [hz2]; omega) (by unfold maxLen; omega) (Nat.le_refl _)
  have hB1 : Below W.heap.size W w1 := (Below.refl _ _).grown hg1 (Nat.le_refl _) (fun k hk => by cases hk)
  have h2 : ∃ w2, (Builtin.append_ #[22, 22] 22 #[.slice (some ⟨W.heap.size, 0, none⟩) 0 (a.length + 1), .slice a0 a.length p]).run Try.prog w1 = .ok (.slice (some ⟨W.heap.size, 0, none⟩) a.length (a.length + 1)) w2 ∧
      w2.ownsRow W.heap.size 44 2 (.slice (some ⟨W.heap.size, 0, none⟩) a.length (a.length + 1)) a.length (flat2 a) ∧ Below W.heap.size W w2 := by
    rcases Nat.eq_zero_or_pos a.length with h0 | hp
    · have e0 : a = [] := List.eq_nil_of_length_eq_zero h0
      subst e0
      exact ⟨w1, run_append_nothing W.heap.size _ _ 44 i0 2 Try.underlying22 hi _ 0 [] ho1 a0 p, ho1, hB1⟩
    · obtain ⟨b, off, rfl, hb, _⟩ := hc 0 hp
      have hc' : ∀ j, j < a.length → w1.cell? ⟨b, off + j * 2, none⟩ = some (.int .i64 (a[j]?.getD (0, 0)).1) ∧ w1.cell? ⟨b, off + j * 2 + 1, none⟩ = some (.int .i64 (a[j]?.getD (0, 0)).2) := by
        intro j hj
        obtain ⟨b', off', hbb, _, h1, h2⟩ := hc j hj
        injection hbb with hbb; injection hbb with hb1 hb2; subst hb1; subst hb2
        exact ⟨hg1.cell h1 (by simp), hg1.cell h2 (by simp)⟩
      obtain ⟨w2, hr2, ho2, hg2⟩ := run_append_fits (P := Try.prog) w1 W.heap.size 22 22 44 i0 2 Try.underlying22 hi hz1 W.heap.size 0 (a.length + 1) [] ho1 ⟨b, off, none⟩ a.length p (flat2 a) (flat2_len a) (rg_news hc') (flat2_one a) (by omega)
      rw [Nat.zero_add, List.nil_append] at ho2
      rw [Nat.zero_add] at hr2
      exact ⟨w2, hr2, ho2, hB1.grown hg2 hB1.size (fun k hk => by injection hk with hk; omega)⟩
  obtain ⟨w2, hr2, ho2, hB2⟩ := h2
  have h3 := run_append_fits (P := Try.prog) (w2.alloc (.cells #[.int .i64 7, .int .i64 0] 44)) W.heap.size 22 22 44 i0 2 Try.underlying22 hi hz1 W.heap.size a.length (a.length + 1) (flat2 a) (ho2.alloc _) ⟨w2.heap.size, 0, none⟩ 1 1 [.int .i64 7, .int .i64 0] rfl (World.news_of_block (cs := #[.int .i64 7, .int .i64 0]) (heap_alloc_new w2 _)) (by simp [Value.oneCell']) (by omega)
  obtain ⟨w3, hr3, ho3, hg3⟩ := h3
  have hB3 := (hB2.alloc hB2.size (.cells #[.int .i64 7, .int .i64 0] 44)).grown hg3 (by have := hB2.size; simp; omega) (fun k hk => by injection hk with hk; omega)
  have HO3 := Lib.hid ho3
  have HB3 := Lib.hid hB3
  have HR2 := Lib.hid hr2
  have HR3 := Lib.hid hr3
  push_cast at hr1
  clear hB1 hc hw ho1 hg1 ho2 hB2 ho3 hg3 hB3 hr2 hr3
  go_enter Try.func9, Try.ntmps9
  go_wp2_with (at_builtin; first
    | (refine wpList_append_run (by rfl) (.tmp 6) (.tmp 7) 22 (by rfl) (.slice (some ⟨W.heap.size, 0, none⟩) 0 (a.length + 1)) (.slice a0 a.length p) (.slice (some ⟨W.heap.size, 0, none⟩) a.length (a.length + 1)) w2 (by rfl) (by rfl) HR2.out ?_)
    | (refine wpList_append_run (by rfl) (.tmp 8) (.tmp 10) 22 (by rfl) (.slice (some ⟨W.heap.size, 0, none⟩) a.length (a.length + 1)) (.slice (some ⟨w2.heap.size, 0, none⟩) 1 1) (.slice (some ⟨W.heap.size, 0, none⟩) (a.length + 1) (a.length + 1)) w3 (by rfl) (by rfl) HR3.out ?_))
  go_ret
  refine ⟨W.heap.size, a.length + 1, Nat.le_refl _, rfl, ?_, HB3.out⟩
  unfold RgOwn
  rw [List.length_append, flat2_snoc]
  exact HO3.out
end Go.Proofs.Ytfopcgbfbedcjaa
namespace Go.Proofs.Ytfopcgbfbedcjaa
open Go.RowKit
set_option linter.unusedVariables false
set_option maxRecDepth 100000 in
set_option maxHeartbeats 1000000 in
theorem kept_walk (W : World) (vb : Value) (g n cap : Nat) (l : List (Int × Int)) (hn : l.length = n) (ha : RRow W (.slice (some ⟨g, 0, none⟩) n cap) l) (hb : RRow W vb l)
    (hcap : n + 1 ≤ cap) (hn2 : n ≤ 8796093022208) (h1 : W.cell? ⟨g, n * 2, none⟩ = some (.int .i64 7)) (h2 : W.cell? ⟨g, n * 2 + 1, none⟩ = some (.int .i64 0)) :
    Calls Try.prog 15 #[.slice (some ⟨g, 0, none⟩) n cap, vb] W fun e w' => e = .returned (.bool true) ∧ ∃ d, w' = W.drewN d := by
  have HA := Lib.hid ha
  have HB := Lib.hid hb
  clear ha hb hn
  go_enter Try.func15, Try.ntmps15
  go_wp2_with fail
  refine (same_rg _ _ _ l l HA.out HB.out).mono ?_
  rintro e wa ⟨rfl, d, rfl⟩
  rw [decide_eq_true (rfl : l = l)]
  go_wp2
  go_ret
  exact ⟨rfl, _, rfl⟩
set_option maxRecDepth 100000 in
set_option maxHeartbeats 1000000 in
theorem spoil_nil (W : World) :
    Calls Try.prog 21 #[.slice none 0 0] W fun e w' => e = .returned (.tuple #[]) ∧ Below W.heap.size W w' := by
  go_enter Try.func21, Try.ntmps21
  go_wp2
  refine wp_loop_rounds 1 ?_
  rw [rounds_succ]
  go_wp2
  exact ⟨rfl, .tuple #[], by simp [results, Try.func21, go_sem], And.intro rfl (Below.refl _ _)⟩
theorem cell_in_row {w : World} {g i : Nat} {cs : Array Value} {t : TypeId} (hg : w.heap[g]? = some (.cells cs t (0, 0))) (hi : i < cs.size) : ∃ v, w.cell? ⟨g, i, none⟩ = some v := by
  simp [World.cell?, hg, hi]
set_option maxRecDepth 100000 in
set_option maxHeartbeats 1000000 in
theorem spoil_walk (W : World) (g n cap B : Nat) (cs : Array Value) (hB : B ≤ g) (hg : W.heap[g]? = some (.cells cs 44 (0, 0))) (hcs : cs.size = cap * 2) (hnc : n ≤ cap) (hcap : cap ≤ 9223372036854775807) :
    Calls Try.prog 21 #[.slice (some ⟨g, 0, none⟩) n cap] W fun e w' => e = .returned (.tuple #[]) ∧ Below B W w' := by
  have HG := Lib.hid hg
  have HCS := Lib.hid hcs
  clear hg hcs
  go_enter Try.func21, Try.ntmps21
  go_wp2
  go_loopw [9] (fun R wr => ∃ (k : Nat) (cs' : Array Value), k ≤ cap ∧ R = .int .i64 k ∧ Hid (wr.heap[g]? = some (.cells cs' 44 (0, 0))) ∧ Hid (cs'.size = cap * 2) ∧ Hid (Below B W wr)) (fun R _ => cap - (intOf R).toNat)
  case atStart => exact ⟨0, cs, Nat.zero_le _, rfl, HG, HCS, Lib.hid (Below.refl _ _)⟩
  case round =>
    obtain ⟨k, cs', hk, rfl, HG', HCS', HB⟩ := hrel
    clear HG HCS
    by_cases hlt : k < cap
    · obtain ⟨v1, hv1⟩ := cell_in_row (i := k * 2) HG'.out (by rw [HCS'.out]; omega)
      obtain ⟨v2, hv2⟩ := cell_in_row (i := k * 2 + 1) HG'.out (by rw [HCS'.out]; omega)
      have hf1 := frozen_of_row _ g (k * 2) _ _ HG'.out
      have hf2 := frozen_of_row _ g (k * 2 + 1) _ _ HG'.out
      go_wp2
      refine ⟨⟨k + 1, _, by omega, by go_num, Lib.hid (heap_setCell_same _ g _ _ _ _ (heap_setCell_same _ g _ _ _ _ HG'.out)), Lib.hid (by simp [HCS'.out]), Lib.hid ((HB.out.setCell (p := ⟨g, k * 2, none⟩) hB _).setCell (p := ⟨g, k * 2 + 1, none⟩) hB _)⟩, by simp [intOf]; omega⟩
    · obtain rfl : k = cap := by omega
      go_wp2
      exact ⟨rfl, .tuple #[], by simp [results, Try.func21, go_sem], And.intro rfl (HB.out)⟩
/-- What a call owns is spoilt. -/
theorem spoil_own (W : World) (base : Nat) (v : Value) (l : List (Int × Int)) (h : RgOwn W base v l) (hb : base ≤ W.heap.size) :
    Calls Try.prog 21 #[v] W fun e w' => e = .returned (.tuple #[]) ∧ Below base W w' := by
  rcases h.2 with ⟨rfl, _⟩ | ⟨g, cap, cur, rfl, hbg, hg, hnc, hcm, hcs, _⟩
  · exact (spoil_nil W).mono fun e w' h => ⟨h.1, h.2.mono hb⟩
  · exact spoil_walk W g _ cap base cur hbg hg hcs hnc (by simpa [maxLen] using hcm)
end Go.Proofs.Ytfopcgbfbedcjaa
namespace Go.Proofs.Ytfopcgbfbedcjaa
open Go.RowKit
set_option linter.unusedVariables false
/-- The k-th range of a range's sequence, out of the two strings. -/
structure Bd.ZipIs (A B : ByteArray) (Q : List (Int × Int)) (n : Nat) : Prop where
  sa : A.size = n
  sb : B.size = n
  len : Q.length = n
  at_ : ∀ k, (ha : k < A.size) → (hb : k < B.size) → Q[k]?.getD (0, 0) = ((A[k].toNat : Int), (B[k].toNat : Int))
theorem Bd.zipIs {w : Nat} {lo hi : Int} {A B : ByteArray} (EA : Bd.EncIs A lo w) (EB : Bd.EncIs B hi w) : Bd.ZipIs A B (Bd.zipE lo hi) w := by
  have lA := EA.nums
  have lB := EB.nums
  refine ⟨EA.size, EB.size, ?_, fun k ha hb => ?_⟩
  · unfold Bd.zipE
    rw [List.length_zip, ← lA, ← lB, Utf.nums_length, Utf.nums_length, EA.size, EB.size]; omega
  · unfold Bd.zipE
    rw [← lA, ← lB]
    have h1 := Utf.nums_at A k ha
    have h2 := Utf.nums_at B k hb
    have g1 : k < (Utf.nums A).length := by rw [Utf.nums_length]; exact ha
    have g2 : k < (Utf.nums B).length := by rw [Utf.nums_length]; exact hb
    rw [List.getElem?_eq_getElem g1] at h1
    rw [List.getElem?_eq_getElem g2] at h2
    rw [List.getElem?_eq_getElem (by rw [List.length_zip]; omega), List.getElem_zip]
    simp only [Option.getD_some] at h1 h2 ⊢
    rw [h1, h2]
/-- The first k elements of a row of pairs are those of a list. -/
structure RowUp (cs : Array Value) (Q : List (Int × Int)) (n k : Nat) : Prop where
  size : cs.size = n * 2
  at_ : ∀ j, j < k → cs[j * 2]? = some (.int .i64 (Q[j]?.getD (0, 0)).1) ∧ cs[j * 2 + 1]? = some (.int .i64 (Q[j]?.getD (0, 0)).2)
theorem RowUp.step {cs : Array Value} {Q : List (Int × Int)} {n k : Nat} (h : RowUp cs Q n k) (hk : k < n) (a b : Int) (hq : Q[k]?.getD (0, 0) = (a, b)) : RowUp ((cs.setIfInBounds (k * 2) (.int .i64 a)).setIfInBounds (k * 2 + 1) (.int .i64 b)) Q n (k + 1) := by
  refine ⟨by simp [h.size], fun j hj => ?_⟩
  have hs := h.size
  by_cases e : j = k
  · subst e
    rw [hq]
    simp only [Array.getElem?_setIfInBounds, Array.size_setIfInBounds]
    constructor
    · rw [if_neg (by omega), if_pos trivial, if_pos (by omega)]
    · rw [if_pos trivial, if_pos (by omega)]
  · have h1 := h.at_ j (by omega)
    simp only [Array.getElem?_setIfInBounds, Array.size_setIfInBounds]
    rw [if_neg (by omega), if_neg (by omega), if_neg (by omega), if_neg (by omega)]
    exact h1
theorem RowUp.own {W : World} {cs : Array Value} {Q : List (Int × Int)} {n base g : Nat} (h : RowUp cs Q n n) (hq : Q.length = n) (hg : W.heap[g]? = some (.cells cs 44 (0, 0))) (hb : base ≤ g) (hn : n ≤ 4) : RgOwn W base (.slice (some ⟨g, 0, none⟩) n n) Q := by
  refine ⟨by rw [flat2_len], .inr ⟨g, n, cs, by rw [hq], hb, hg, by omega, by unfold maxLen; omega, h.size, ?_⟩⟩
  rw [hq]
  apply List.ext_getElem?
  intro i
  rw [List.getElem?_take]
  by_cases hi : i < n * 2
  · rw [if_pos hi, Array.getElem?_toList]
    obtain ⟨j, e⟩ : ∃ j, i = j * 2 ∨ i = j * 2 + 1 := ⟨i / 2, by omega⟩
    have hf := flat2_get Q j (by omega)
    have hc := h.at_ j (by omega)
    rcases e with rfl | rfl
    · rw [hf.1, hc.1]
    · rw [hf.2, hc.2]
  · rw [if_neg hi, List.getElem?_eq_none (by rw [flat2_len]; omega)]
set_option maxRecDepth 100000 in
set_option maxHeartbeats 4000000 in
theorem sequence_any (W : World) (n : Nat) (lo hi : Int) (h : Bd.Cls n lo hi) : Calls Try.prog 49 #[.agg #[.int .i64 lo, .int .i64 hi]] W fun e w' =>
    ∃ v, e = .returned v ∧ RgOwn w' W.heap.size v (Bd.zipE lo hi) ∧ Below W.heap.size W w' := by
  have mixed : Try.prog.follows .mixedOrders = true := by kernel_rfl
  obtain ⟨i0, hi0, hz0, hz1, hz2⟩ := info_parts Try.infoRange
  have wl := h.width (Int.le_refl lo) h.le
  have wh := h.width h.le (Int.le_refl hi)
  have hn : 1 ≤ n ∧ n ≤ 4 := by have := h.bd; omega
  have HEA := Lib.hid (encode_yes lo (by omega))
  have HEB := Lib.hid (encode_yes hi (by omega))
  have HZ := Lib.hid (Bd.zipIs (Bd.encIs wl) (Bd.encIs wh))
  obtain ⟨A, hA⟩ : ∃ A, strOfNums (Utf.encN lo) = A := ⟨_, rfl⟩
  obtain ⟨B, hB⟩ : ∃ B, strOfNums (Utf.encN hi) = B := ⟨_, rfl⟩
  obtain ⟨Q, hQ⟩ : ∃ Q, Bd.zipE lo hi = Q := ⟨_, rfl⟩
  rw [hA] at HEA HZ
  rw [hB] at HEB HZ
  rw [hQ] at HZ ⊢
  have hmk : ∀ w', (Instr.makeSlice 22 (.int .i64 (n : Int)) (.int .i64 (n : Int))).run Try.prog w' = .ok (.slice (some ⟨w'.heap.size, 0, none⟩) n n) (w'.alloc (.cells (madeCells (#[.int .i64 0, .int .i64 0] : Array Value) (n * 2)) 44)) := fun w' => by
    have := run_make (P := Try.prog) w' 22 44 i0 (.agg #[.int .i64 0, .int .i64 0]) Try.underlying22 hi0 hz0 .i64 .i64 (n : Int) (n : Int) (by omega) (Int.le_refl _) (by rw [hz2]; omega) (by omega)
    rw [hz1, Int.toNat_natCast] at this
    exact this
  have hsz := size_madeCells (#[.int .i64 0, .int .i64 0] : Array Value) (n * 2)
  obtain ⟨C, hC⟩ : ∃ C, madeCells (#[.int .i64 0, .int .i64 0] : Array Value) (n * 2) = C := ⟨_, rfl⟩
  rw [hC] at hmk hsz
  have HC := Lib.hid hsz
  have sA := HZ.out.sa
  have sB := HZ.out.sb
  clear wl wh hA hB hQ hC hsz h
  go_enter Try.func49, Try.ntmps49
  go_wp2_with fail
  refine (HEA.out _).mono ?_
  rintro e w1 ⟨rfl, hb1⟩
  have c2 : w1.cell? ⟨W.heap.size, 1, none⟩ = some (.int .i64 hi) := (hb1.cell (p := ⟨W.heap.size, 1, none⟩) (by simp)).trans (by simp)
  have HB1 := Lib.hid (((Below.refl W.heap.size W).alloc (Nat.le_refl _) _).trans (hb1.mono (by simp)))
  clear hb1
  go_wp2_with fail
  refine (HEB.out _).mono ?_
  rintro e w2 ⟨rfl, hb2⟩
  have HB2 := Lib.hid (HB1.out.trans (hb2.mono HB1.out.size))
  have hs2 := HB2.out.size
  clear hb2 HB1 c2 HEA HEB
  go_wp2
  go_loopw [26] (fun K wr => ∃ (k : Nat) (cs : Array Value), k ≤ n ∧ K = .int .i64 k ∧ Hid (wr.heap[w2.heap.size]? = some (.cells cs 44 (0, 0))) ∧ Hid (RowUp cs Q n k) ∧ Hid (Below W.heap.size W wr)) (fun K _ => n - (intOf K).toNat)
  case atStart => exact ⟨0, C, Nat.zero_le _, rfl, Lib.hid (heap_alloc_new _ _), Lib.hid ⟨HC.out, fun j hj => absurd hj (Nat.not_lt_zero _)⟩, Lib.hid (HB2.out.alloc hs2 _)⟩
  case round =>
    obtain ⟨k, cs, hk, rfl, HG, HU, HB⟩ := hrel
    by_cases hkl : k < n
    · have kA : k < A.size := by omega
      have kB : k < B.size := by omega
      have k0 : (0 : Int) ≤ (k : Int) := by omega
      have k1 : (k : Int) < (n : Int) := by omega
      have hus := HU.out.step hkl _ _ (HZ.out.at_ k kA kB)
      have b1 := A[k].toNat_lt
      have b2 := B[k].toNat_lt
      obtain ⟨v1, hv1⟩ := cell_in_row (i := k * 2) HG.out (by rw [HU.out.size]; omega)
      obtain ⟨v2, hv2⟩ := cell_in_row (i := k * 2 + 1) HG.out (by rw [HU.out.size]; omega)
      have hf1 := frozen_of_row _ w2.heap.size (k * 2) _ _ HG.out
      have hf2 := frozen_of_row _ w2.heap.size (k * 2 + 1) _ _ HG.out
      have ww1 : IntKind.i64.wrap (A[k].toNat : Int) = (A[k].toNat : Int) := by rw [IntKind.wrap_i64]; omega
      have ww2 : IntKind.i64.wrap (B[k].toNat : Int) = (B[k].toNat : Int) := by rw [IntKind.wrap_i64]; omega
      have HS := Lib.hid hus
      clear hus
      go_wp2
      go_region_held3 (fun _ => True) (trivial) (first | fail)
      all_goals
        go_wp2
        go_roundw
        case rel => exact ⟨k + 1, _, by omega, by go_num, Lib.hid (heap_setCell_same _ w2.heap.size _ _ _ _ (heap_setCell_same _ w2.heap.size _ _ _ _ HG.out)), HS, Lib.hid (below_drewN ((HB.out.setCell (p := ⟨w2.heap.size, k * 2, none⟩) hs2 _).setCell (p := ⟨w2.heap.size, k * 2 + 1, none⟩) hs2 _) 1)⟩
        case measure => simp [intOf]; omega
    · obtain rfl : k = n := by omega
      have hO := Lib.hid (HU.out.own HZ.out.len HG.out hs2 hn.2)
      go_wp2
      go_ret
      exact ⟨_, rfl, hO.out, HB.out⟩
end Go.Proofs.Ytfopcgbfbedcjaa
namespace Go.Proofs.Ytfopcgbfbedcjaa
open Go.RowKit
set_option linter.unusedVariables false
/-- A value that reads as a list of lists of ranges. -/
def QRow (W : World) (v : Value) (L : List (List (Int × Int))) : Prop :=
  ∃ a cap, v = .slice a L.length cap ∧ L.length ≤ 8796093022208 ∧ ∀ j, j < L.length → ∃ b off u, a = some ⟨b, off, none⟩ ∧ b < W.heap.size ∧ W.cell? ⟨b, off + j, none⟩ = some u ∧ RRow W u (L[j]?.getD [])
theorem QRow.below {W W' : World} {v : Value} {L : List (List (Int × Int))} (h : QRow W v L) (hb : Below W.heap.size W W') : QRow W' v L := by
  obtain ⟨a, cap, hv, hl, hc⟩ := h
  refine ⟨a, cap, hv, hl, fun j hj => ?_⟩
  obtain ⟨b, off, u, ha, hlt, h1, h2⟩ := hc j hj
  exact ⟨b, off, u, ha, Nat.lt_of_lt_of_le hlt hb.size, (hb.cell (p := ⟨b, off + j, none⟩) hlt).trans h1, h2.below (Nat.le_refl _) hb⟩
theorem take_succ_seq (l m : List (List (Int × Int))) (k : Nat) (hl : k < l.length) (hm : k < m.length) :
    l.take (k + 1) = m.take (k + 1) ↔ l.take k = m.take k ∧ l[k]?.getD [] = m[k]?.getD [] := by
  rw [List.take_succ_eq_append_getElem hl, List.take_succ_eq_append_getElem hm, List.getElem?_eq_getElem hl, List.getElem?_eq_getElem hm]
  constructor
  · intro h
    have := List.append_inj' h (by simp)
    exact ⟨this.1, by simpa using this.2⟩
  · rintro ⟨h1, h2⟩
    rw [h1]
    have : l[k] = m[k] := by simpa using h2
    rw [this]
theorem calls_quiet_add {P : Program} {f : FuncId} {args : Array Value} {W : World} {d n : Nat} {v : Value} (h : Calls P f args (W.drewN (d + n)) fun e w' => e = .returned v ∧ ∃ m, w' = (W.drewN (d + n)).drewN m) :
    Calls P f args (W.drewN (d + n)) fun e w'' => e = .returned v ∧ ∃ m, w'' = W.drewN (d + m) :=
  h.mono fun _ _ ⟨he, m, hm⟩ => ⟨he, n + m, by rw [hm, World.drewN_drewN, Nat.add_assoc]⟩
set_option maxRecDepth 100000 in
set_option maxHeartbeats 2000000 in
theorem same_seq_walk (W : World) (a b : Option Addr) (n p q : Nat) (l m : List (List (Int × Int))) (hn : n ≤ 8796093022208) (hl : l.length = n) (hm : m.length = n)
    (ha : ∀ j, j < n → ∃ g off u, a = some ⟨g, off, none⟩ ∧ g < W.heap.size ∧ W.cell? ⟨g, off + j, none⟩ = some u ∧ RRow W u (l[j]?.getD []))
    (hb : ∀ j, j < n → ∃ g off u, b = some ⟨g, off, none⟩ ∧ g < W.heap.size ∧ W.cell? ⟨g, off + j, none⟩ = some u ∧ RRow W u (m[j]?.getD [])) :
    Calls Try.prog 10 #[.slice a n p, .slice b n q] W fun e W' => e = .returned (.bool (decide (l = m))) ∧ ∃ d, W' = W.drewN d := by
  have HA := Lib.hid ha
  have HB := Lib.hid hb
  have HL := Lib.hid hl
  have HM := Lib.hid hm
  clear ha hb hl hm
  go_enter Try.func10, Try.ntmps10
  go_wp2
  go_loopw [5, 6] (fun s i wr => ∃ (k : Nat) (S : Bool), k ≤ n ∧ i = .int .i64 k ∧ s = .bool S ∧ Hid (S = decide (l.take k = m.take k)) ∧ ∃ d, wr = W.drewN d) (fun s i _ => (n - (intOf i).toNat) + (if s matches .bool true then 1 else 0))
  case atStart => exact ⟨0, true, Nat.zero_le _, rfl, by simp, Lib.hid (by simp), 0, rfl⟩
  case round =>
    obtain ⟨k, S, hk, rfl, rfl, HS, d, rfl⟩ := hrel
    cases S with
    | false =>
      have HF : Hid (decide (l = m) = false) := Lib.hid (by rw [decide_eq_false_iff_not]; intro e; have := HS.out; rw [e] at this; simp at this)
      go_wp2
      go_ret
      exact ⟨by rw [HF.out]; rfl, _, rfl⟩
    | true =>
      by_cases hlt : k < n
      · obtain ⟨g, off, x, rfl, hg, hc1, hx⟩ := HA.out k hlt
        obtain ⟨g', off', y, rfl, hg', hc3, hy⟩ := HB.out k hlt
        have hT := take_succ_seq l m k (by rw [HL.out]; exact hlt) (by rw [HM.out]; exact hlt)
        obtain ⟨X, eX⟩ : ∃ X, l[k]?.getD [] = X := ⟨_, rfl⟩
        obtain ⟨Y, eY⟩ : ∃ Y, m[k]?.getD [] = Y := ⟨_, rfl⟩
        rw [eX] at hx hT
        rw [eY] at hy hT
        have hsr := fun w' hwx hwy => same_rg w' x y X Y hwx hwy
        obtain ⟨xa, xc, rfl, _⟩ := id hx
        obtain ⟨ya, yc, rfl, _⟩ := id hy
        obtain ⟨Q, hQ⟩ : ∃ Q, decide (X = Y) = Q := ⟨_, rfl⟩
        rw [hQ] at hsr
        have HSR : Hid (∀ d, Calls Try.prog 25 #[.slice xa X.length xc, .slice ya Y.length yc] (W.drewN d) fun e w' => e = .returned (.bool Q) ∧ ∃ m, w' = (W.drewN d).drewN m) := Lib.hid (fun d => hsr _ (hx.drewN d) (hy.drewN d))
        have HT : Hid (Q = decide (l.take (k + 1) = m.take (k + 1))) := Lib.hid (by
          have h0 : l.take k = m.take k := by have := HS.out; simpa using this
          rw [← hQ, Bool.eq_iff_iff, decide_eq_true_eq, decide_eq_true_eq, hT]
          exact ⟨fun h => ⟨h0, h⟩, fun h => h.2⟩)
        have k0 : (0 : Int) ≤ (k : Int) := by omega
        have k1 : (k : Int) < (n : Int) := by omega
        clear hT hx hy hsr hQ eX eY
        go_wp2
        go_quiet ((go_at_call 25; exact calls_quiet_add (HSR.out _)))
        go_wp2
        go_round
        case rel => exact ⟨k + 1, Q, by omega, by go_num, rfl, HT, _, rfl⟩
        case measure => cases Q <;> (simp [intOf]; try omega)
      · obtain rfl : k = n := by omega
        have HE : Hid (decide (l = m) = true) := Lib.hid (by
          have := HS.out
          rw [List.take_of_length_le (by rw [HL.out]; exact Nat.le_refl _), List.take_of_length_le (by rw [HM.out]; exact Nat.le_refl _)] at this
          exact this.symm)
        go_wp2
        go_ret
        exact ⟨by rw [HE.out]; rfl, _, rfl⟩
theorem same_seq_eq (W : World) (va vb : Value) (l : List (List (Int × Int))) (ha : QRow W va l) (hb : QRow W vb l) :
    Calls Try.prog 10 #[va, vb] W fun e W' => e = .returned (.bool true) ∧ Below W.heap.size W W' := by
  obtain ⟨a, p, rfl, hl, hca⟩ := ha
  obtain ⟨b, q, rfl, _, hcb⟩ := hb
  refine (same_seq_walk W a b _ p q l l hl rfl rfl hca hcb).mono ?_
  rintro e w' ⟨rfl, d, rfl⟩
  exact ⟨by rw [decide_eq_true rfl], below_drewN (Below.refl _ _) d⟩
end Go.Proofs.Ytfopcgbfbedcjaa
