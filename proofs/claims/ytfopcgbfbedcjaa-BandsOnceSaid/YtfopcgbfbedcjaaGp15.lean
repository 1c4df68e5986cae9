/- The reference's bands (burinref05): the contract of filled. · Lists of sequences of ranges that a call owns: two of them joined by an append. -/
import Derived.Test.YtfopcgbfbedcjaaGp14
import Derived.Test.YtfopcgbfbedcjaaGp4
import Derived.Laws.IdiomStrings
import Derived.Test.YtfopcgbfbedcjaaGp11
namespace Go.Proofs.Ytfopcgbfbedcjaa
open Go.RowKit
set_option linter.unusedVariables false
/-- The bytes behind k rounds. -/
def fillK (l : List Int) (d : Nat) (c : Int) (k : Nat) : List Int := l.take d ++ List.replicate k c ++ l.drop (d + k)
theorem fillK_zero (l : List Int) (d : Nat) (c : Int) : fillK l d c 0 = l := by simp [fillK]
theorem fillK_len (l : List Int) (d : Nat) (c : Int) (k : Nat) (h : d + k ≤ l.length) : (fillK l d c k).length = l.length := by
  simp [fillK]; omega
theorem fillK_at (l : List Int) (d : Nat) (c : Int) (k j : Nat) (h : d + k ≤ l.length) (hj : j < l.length) : (fillK l d c k)[j]?.getD 0 = if d ≤ j ∧ j < d + k then c else l[j]?.getD 0 := by
  have h1 : (l.take d).length = d := by rw [List.length_take]; omega
  unfold fillK
  by_cases a : j < d
  · rw [if_neg (by omega), List.append_assoc, List.getElem?_append_left (by omega), List.getElem?_take, if_pos a]
  · by_cases b : j < d + k
    · rw [if_pos ⟨by omega, b⟩, List.getElem?_append_left (by simp; omega), List.getElem?_append_right (by omega), h1, List.getElem?_replicate, if_pos (by omega)]; rfl
    · rw [if_neg (by omega), List.getElem?_append_right (by simp; omega), List.getElem?_drop]
      congr 2
      simp
      omega
structure FillSt (l : List Int) (d : Nat) (c : Int) (k : Nat) : Prop where
  same : (fillK l d c (k + 1))[d + k]?.getD 0 = c
  other : ∀ j, j < l.length → j ≠ d + k → (fillK l d c (k + 1))[j]?.getD 0 = (fillK l d c k)[j]?.getD 0
theorem fillSt (l : List Int) (d : Nat) (c : Int) (k : Nat) (h : d + k < l.length) : FillSt l d c k :=
  ⟨by rw [fillK_at l d c (k + 1) (d + k) (by omega) (by omega), if_pos (by omega)], fun j hj hne => by
    rw [fillK_at l d c (k + 1) j (by omega) hj, fillK_at l d c k j (by omega) hj]
    by_cases a : d ≤ j ∧ j < d + k
    · rw [if_pos a, if_pos (by omega)]
    · rw [if_neg a, if_neg (by omega)]⟩
theorem fillK_all (l : List Int) (n : Nat) (c : Int) (h : n ≤ l.length) : fillK l (l.length - n) c n = Bd.fillN l n c := by
  unfold fillK Bd.fillN
  rw [List.drop_eq_nil_of_le (by omega), List.append_nil]
theorem fillN_bytes {l : List Int} (h : Utf.Bytes l) (n : Nat) (c : Int) (h0 : 0 ≤ c) (h1 : c < 256) : Utf.Bytes (Bd.fillN l n c) := by
  intro x hx
  unfold Bd.fillN at hx
  rcases List.mem_append.1 hx with hx | hx
  · exact h x (List.mem_of_mem_take hx)
  · have := (List.mem_replicate.1 hx).2; omega
/-- The row that a string becomes. -/
def RowIs (w : World) (B n : Nat) (l : List Int) : Prop := ∀ j, j < n → w.cell? ⟨B, j, none⟩ = some (.int .u8 (l[j]?.getD 0)) ∧ w.frozen? ⟨B, j, none⟩ = false
theorem rowIs_first (w : World) (s : ByteArray) (C : Nat) (t : TypeId) : RowIs (w.drew.alloc (.cells (bytesRow s C) t ((bytesRow s C).size, (bytesRow s C).size + 1))) w.heap.size s.size (Utf.nums s) := by
  intro j hj
  have hb : (w.drew.alloc (.cells (bytesRow s C) t ((bytesRow s C).size, (bytesRow s C).size + 1))).heap[w.heap.size]? = some (.cells (bytesRow s C) t ((bytesRow s C).size, (bytesRow s C).size + 1)) := heap_alloc_new w.drew _
  have hsz : s.size ≤ (bytesRow s C).size := by unfold bytesRow; simp
  refine ⟨?_, ?_⟩
  · rw [Utf.nums_at s j hj]
    simp only [World.cell?, hb]
    exact bytesRow_at s C j hj
  · simp only [World.frozen?, hb]
    simp
    omega
theorem rowIs_set {w : World} {B n x : Nat} {l m : List Int} {c : Int} (h : RowIs w B n l) (hx : x < n) (h1 : m[x]?.getD 0 = c) (h2 : ∀ j, j < n → j ≠ x → m[j]?.getD 0 = l[j]?.getD 0) : RowIs (w.setCell ⟨B, x, none⟩ (.int .u8 c)) B n m := by
  intro j hj
  refine ⟨?_, by rw [World.frozen?_setCell]; exact (h j hj).2⟩
  by_cases e : j = x
  · subst e; rw [World.cell?_setCell_same (h := (h j hj).1), h1]
  · rw [World.cell?_setCell_other (h := (by intro e2; injection e2 with _ e2; exact e e2.symm)), h2 j hj e]; exact (h j hj).1
set_option maxRecDepth 100000 in
set_option maxHeartbeats 2000000 in
theorem filled_any (s : ByteArray) (hs : s.size ≤ 4) (n : Nat) (hn : n ≤ s.size) (c : Int) (hc : 0 ≤ c) (hc2 : c < 256) (w : World) :
    Calls Try.prog 42 #[.string s, .int .i64 n, .int .u8 c] w fun e w' => e = .returned (.int .i64 (Utf.dec (Bd.fillN (Utf.nums s) n c)).1) ∧ Below w.heap.size w w' := by
  have hcv := fun w1 => run_bytes_of_string (P := Try.prog) (w := w1) 9 45 5 s Try.underlying9 Try.underlying45 Try.underlying5
  have hsub : (s.size : Int) - (n : Int) = ((s.size - n : Nat) : Int) := by omega
  have HR0 := Lib.hid (rowIs_first w s (grownCap w s.size 0 5) 5)
  have HB0 := Lib.hid (((below_drewN (Below.refl w.heap.size w) 1)).alloc (Nat.le_refl _) (.cells (bytesRow s (grownCap w s.size 0 5)) 5 ((bytesRow s (grownCap w s.size 0 5)).size, (bytesRow s (grownCap w s.size 0 5)).size + 1)))
  have hlt0 : w.heap.size < (w.drew.alloc (.cells (bytesRow s (grownCap w s.size 0 5)) 5 ((bytesRow s (grownCap w s.size 0 5)).size, (bytesRow s (grownCap w s.size 0 5)).size + 1))).heap.size := by simp
  obtain ⟨C, hC⟩ : ∃ C, grownCap w s.size 0 5 = C := ⟨_, rfl⟩
  rw [hC] at HR0 HB0 hlt0
  have hnl := Utf.nums_length s
  obtain ⟨l, hl⟩ : ∃ l, Utf.nums s = l := ⟨_, rfl⟩
  have hbl := Utf.nums_bytes s
  rw [hl] at HR0 hnl hbl ⊢
  have HNL := Lib.hid hnl
  have HBL := Lib.hid hbl
  clear hl hbl hnl
  have hnf : fillK l (s.size - n) c n = Bd.fillN l n c := by have := fillK_all l n c (by rw [HNL.out]; exact hn); rwa [HNL.out] at this
  have hlen := fillK_len l (s.size - n) c n (by rw [HNL.out]; omega)
  have hby := fillN_bytes HBL.out n c hc hc2
  rw [hnf] at hlen
  obtain ⟨xs, hxs⟩ : ∃ xs, Bd.fillN l n c = xs := ⟨_, rfl⟩
  rw [hxs] at hlen hby hnf ⊢
  rw [HNL.out] at hlen
  have HLEN := Lib.hid hlen
  have HBY := Lib.hid hby
  have HNF := Lib.hid hnf
  clear hlen hby hnf hxs
  go_enter Try.func42, Try.ntmps42
  go_wp2
  clear hcv hC
  go_loopw [8] (fun I wr => ∃ k : Nat, k ≤ n ∧ I = .int .i64 ((s.size - n + k : Nat) : Int) ∧ Hid (RowIs wr w.heap.size s.size (fillK l (s.size - n) c k)) ∧ Hid (Below w.heap.size w wr)) (fun I _ => s.size - (intOf I).toNat)
  case atStart => exact ⟨0, Nat.zero_le _, rfl, by rw [fillK_zero]; exact HR0, HB0⟩
  case round =>
    obtain ⟨k, hk, rfl, HP, HB⟩ := hrel
    obtain ⟨x, hx⟩ : ∃ x, s.size - n + k = x := ⟨_, rfl⟩
    rw [hx]
    have HX := Lib.hid hx
    by_cases hlt : k < n
    · have h1 : x < s.size := by omega
      have h1' : (x : Int) < (s.size : Int) := by omega
      have h0' : (0 : Int) ≤ (x : Int) := by omega
      obtain ⟨hcell, hfr⟩ := HP.out x h1
      have hst := fillSt l (s.size - n) c k (by rw [HNL.out]; omega)
      have HP2 : Hid (RowIs (wr.setCell ⟨w.heap.size, x, none⟩ (.int .u8 c)) w.heap.size s.size (fillK l (s.size - n) c (k + 1))) := Lib.hid (rowIs_set HP.out h1 (by rw [← hx]; exact hst.same) (fun j hj hne => hst.other j (by rw [HNL.out]; exact hj) (by omega)))
      have HB2 := Lib.hid (HB.out.setCell (p := ⟨w.heap.size, x, none⟩) (Nat.le_refl _) (.int .u8 c))
      clear hst hx
      go_wp2
      go_roundw
      case rel => exact ⟨k + 1, by omega, by have := HX.out; go_num, HP2, HB2⟩
      case measure => simp [intOf]; omega
    · have h1 : x = s.size := by omega
      have h1' : ¬ (x : Int) < (s.size : Int) := by omega
      obtain rfl : k = n := by omega
      have hp := HP.out
      have hlen := HLEN.out
      have hby := HBY.out
      rw [HNF.out] at hp
      have hcv := fun cp => run_convert_bytes_arg (P := Try.prog) (w := wr) 45 5 Try.underlying45 Try.underlying5 w.heap.size 0 s.size cp xs hlen (fun i hi => by rw [Nat.zero_add]; exact (hp i hi).1) 9 Try.underlying9
      have hnx := nums_strOf xs hby
      have hsx := size_strOf xs
      obtain ⟨T, hT⟩ : ∃ T, strOfNums xs = T := ⟨_, rfl⟩
      rw [hT] at hcv hnx hsx
      have HNX := Lib.hid hnx
      have hTs : T.size ≤ 140737488351232 := by rw [hsx, hlen]; omega
      clear h1 hx hlen hby hnx hsx hT hp
      go_wp2_with fail
      refine (refDecode_any T hTs _).mono ?_
      rintro e w1 ⟨rfl, hb⟩
      rw [HNX.out]
      have HE := Lib.hid (HB.out.trans (hb.mono HB.out.size))
      clear hb hcv
      go_wp2
      go_ret
      exact ⟨rfl, HE.out⟩
end Go.Proofs.Ytfopcgbfbedcjaa
namespace Go.Proofs.Ytfopcgbfbedcjaa
open Go.RowKit
set_option linter.unusedVariables false
theorem getD_app_l {α : Type} (a b : List α) (j : Nat) (d : α) (h : j < a.length) : (a ++ b)[j]?.getD d = a[j]?.getD d := by rw [List.getElem?_append_left h]
theorem getD_app_r {α : Type} (a b : List α) (j : Nat) (d : α) (h : a.length ≤ j) : (a ++ b)[j]?.getD d = b[j - a.length]?.getD d := by rw [List.getElem?_append_right h]
/-- Behind an append of a younger list's sequences. -/
theorem QOwnU.join {W W' : World} {base base2 : Nat} {v v2 : Value} {us us2 : List Value} {L M : List (List (Int × Int))} {gg cap1 : Nat} (h : QOwnU W base v us L) (k : QOwnU W base2 v2 us2 M)
    (hb : base ≤ base2) (hold : ∀ b, v.ownBlock = some b → b < base2) (holdi : ∀ j, j < us.length → ∀ b, (us[j]?.getD nilV).ownBlock = some b → b < base2)
    (hown : W'.ownsRow base 22 1 (.slice (some ⟨gg, 0, none⟩) (us.length + us2.length) cap1) (us.length + us2.length) (us ++ us2)) (hg : W.grownBy W' v.ownBlock) (hat : v.ownBlock = some gg ∨ W.heap.size ≤ gg) :
    QOwnU W' base (.slice (some ⟨gg, 0, none⟩) (us.length + us2.length) cap1) (us ++ us2) (L ++ M) := by
  have hk2 : ∀ x, x < us2.length → RgOwn W base (us2[x]?.getD nilV) (M[x]?.getD []) := fun x hx => (k.2.2.1 x hx).lower hb
  have hge : ∀ x, x < us2.length → ∀ b, (us2[x]?.getD nilV).ownBlock = some b → base2 ≤ b := fun x hx b e => ((k.2.2.1 x hx).lt e).1
  have g1 : ∀ x, x < us.length → ∀ b, (us[x]?.getD nilV).ownBlock = some b → gg ≠ b := by
    intro x hx b e he
    subst he
    rcases hat with h1 | h1
    · exact h.2.2.2.outer x hx _ e h1
    · have := ((h.2.2.1 x hx).lt e).2; omega
  have g2 : ∀ x, x < us2.length → ∀ b, (us2[x]?.getD nilV).ownBlock = some b → gg ≠ b := by
    intro x hx b e he
    subst he
    rcases hat with h1 | h1
    · have a := hold _ h1; have b := hge x hx _ e; omega
    · have := ((k.2.2.1 x hx).lt e).2; omega
  refine ⟨by rw [List.length_append, List.length_append, h.1, k.1], by rw [List.length_append]; exact hown, fun j hj => ?_, fun i j hij hj b hbi => ?_, fun j hj b hbj => ?_⟩
  · rw [List.length_append] at hj
    by_cases e : j < us.length
    · rw [getD_app_l us us2 j nilV e, getD_app_l L M j [] (by rw [← h.1]; exact e)]
      exact (h.2.2.1 j e).grown hg (h.2.2.2.outer j e)
    · rw [getD_app_r us us2 j nilV (by omega), getD_app_r L M j [] (by rw [← h.1]; omega), ← h.1]
      exact (hk2 (j - us.length) (by omega)).grown hg (fun b hb2 hv => by
        have a1 := hge (j - us.length) (by omega) b hb2
        have a2 := hold b hv
        omega)
  · rw [List.length_append] at hj
    by_cases e1 : i < us.length
    · rw [getD_app_l us us2 i nilV e1] at hbi
      by_cases e2 : j < us.length
      · rw [getD_app_l us us2 j nilV e2]; exact h.2.2.2.inner i j hij e2 b hbi
      · rw [getD_app_r us us2 j nilV (by omega)]
        intro hbj
        have a1 := holdi i e1 b hbi
        have a2 := hge (j - us.length) (by omega) b hbj
        omega
    · rw [getD_app_r us us2 i nilV (by omega)] at hbi
      rw [getD_app_r us us2 j nilV (by omega)]
      exact k.2.2.2.inner (i - us.length) (j - us.length) (by omega) (by omega) b hbi
  · rw [List.length_append] at hj
    show (some gg : Option Nat) ≠ some b
    intro e2
    injection e2 with e2
    by_cases e : j < us.length
    · rw [getD_app_l us us2 j nilV e] at hbj; exact g1 j e b hbj e2
    · rw [getD_app_r us us2 j nilV (by omega)] at hbj; exact g2 (j - us.length) (by omega) b hbj e2
/-- One sequence in a row of its own. -/
theorem QOwnU.one {W : World} {base : Nat} {u : Value} {q : List (Int × Int)} (hu : RgOwn W base u q) (hb : base ≤ W.heap.size) :
    QOwnU (W.alloc (.cells #[u] 22)) base (.slice (some ⟨W.heap.size, 0, none⟩) 1 1) [u] [q] := by
  refine ⟨rfl, ⟨rfl, .inr ⟨W.heap.size, 1, #[u], rfl, hb, heap_alloc_new _ _, Nat.le_refl _, by decide, rfl, rfl⟩⟩, fun j hj => ?_, fun i j hij hj => ?_, fun j hj b hbj => ?_⟩
  · have h0 : j = 0 := by simpa using hj
    subst h0
    exact RgOwn.alloc hu _
  · have h0 : j = 0 := by simpa using hj
    omega
  · have h0 : j = 0 := by simpa using hj
    subst h0
    have := (hu.lt hbj).2
    show (some W.heap.size : Option Nat) ≠ some b
    intro e
    injection e with e
    omega
/-- What a younger list's row hands to an append. -/
theorem QOwnU.news {W : World} {base : Nat} {v : Value} {us : List Value} {L : List (List (Int × Int))} (h : QOwnU W base v us L) (hp : 0 < us.length) :
    ∃ b c, v = .slice (some ⟨b, 0, none⟩) us.length c ∧ (∀ j u, us[j]? = some u → W.cell? ((⟨b, 0, none⟩ : Addr).add j) = some u) ∧ ∀ u ∈ us, u.oneCell' = true := by
  have hown := h.2.1
  rcases h.2.1.2 with ⟨_, h0⟩ | ⟨g, cap, cur, rfl, hb, hg, hnc, hcm, hcs, _⟩
  · omega
  · refine ⟨g, cap, rfl, fun j u hu => ?_, fun u hu => ?_⟩
    · have hlt := (List.getElem?_eq_some_iff.1 hu).1
      have hadd : (⟨g, 0, none⟩ : Addr).add j = ⟨g, j, none⟩ := by unfold Addr.add; split <;> simp_all
      rw [hadd, World.ownsRow.cellAt hown j (by omega), hu]
    · obtain ⟨j, hj, rfl⟩ := List.mem_iff_getElem.1 hu
      have := h.2.2.1 j hj
      rw [List.getElem?_eq_getElem hj] at this
      obtain ⟨a, c, e⟩ := this.slice
      have e2 : us[j] = .slice a (L[j]?.getD []).length c := e
      rw [e2]; rfl
end Go.Proofs.Ytfopcgbfbedcjaa
