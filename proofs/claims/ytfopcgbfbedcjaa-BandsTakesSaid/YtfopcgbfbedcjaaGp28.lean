/- The plain mathematics of bands: which texts a set's sequences take; no program. -/
import Derived.Test.YtfopcgbfbedcjaaGp11
namespace Go.Proofs.Ytfopcgbfbedcjaa.Bd
open Go.Proofs.Ytfopcgbfbedcjaa.Rg
set_option linter.unusedVariables false
/-! A number's digits at 64. -/
structure Digs (a a3 a2 a1 a0 : Int) : Prop where
  eq : a = ((a3 * 64 + a2) * 64 + a1) * 64 + a0
  b0 : 0 ≤ a0 ∧ a0 < 64
  b1 : 0 ≤ a1 ∧ a1 < 64
  b2 : 0 ≤ a2 ∧ a2 < 64
theorem digs (a : Int) : Digs a (a / 262144) (a / 4096 % 64) (a / 64 % 64) (a % 64) := ⟨by omega, by omega, by omega, by omega⟩
theorem Digs.m0 {a a3 a2 a1 a0 : Int} (h : Digs a a3 a2 a1 a0) : a % 64 = a0 ∧ a / 64 = (a3 * 64 + a2) * 64 + a1 := by
  obtain ⟨e, b0, b1, b2⟩ := h; omega
theorem Digs.m1 {a a3 a2 a1 a0 : Int} (h : Digs a a3 a2 a1 a0) : a % 4096 = a1 * 64 + a0 ∧ a / 4096 = a3 * 64 + a2 ∧ a / 64 % 64 = a1 := by
  obtain ⟨e, b0, b1, b2⟩ := h; omega
theorem Digs.m2 {a a3 a2 a1 a0 : Int} (h : Digs a a3 a2 a1 a0) : a % 262144 = (a2 * 64 + a1) * 64 + a0 ∧ a / 262144 = a3 ∧ a / 4096 % 64 = a2 := by
  obtain ⟨e, b0, b1, b2⟩ := h; omega
/-! A range that is split nowhere. -/
def NC (a b : Int) (i : Nat) : Prop := a / pw i = b / pw i ∨ (a % pw i = 0 ∧ b % pw i = pw i - 1)
theorem cut_none {a b : Int} {i : Nat} (h : cut a b i = none) : NC a b i := by
  unfold cut at h
  unfold NC
  split at h
  · exact .inl (by assumption)
  · split at h
    · cases h
    · split at h
      · cases h
      · right; constructor <;> omega
theorem cutAll_none {a b : Int} {w : Nat} (hw : Utf.width a = w) (h : cutAll a b = none) (i : Nat) (h1 : 1 ≤ i) (h2 : i < w) : NC a b i := by
  have hw4 : w ≤ 4 := by have := (Utf.width_le a).2; omega
  unfold cutAll at h
  rw [hw, Int.toNat_natCast] at h
  have key : ∀ (f j : Nat), cutFrom a b w j f = none → ∀ i, j ≤ i → i < w → i < j + f → NC a b i := by
    intro f
    induction f with
    | zero => intro j _ i h1 h2 h3; omega
    | succ f ih =>
      intro j hj i h1 h2 h3
      have hjw : j < w := by omega
      rw [cutFrom, if_pos hjw] at hj
      cases hc : cut a b j with
      | some m => rw [hc] at hj; cases hj
      | none =>
        rw [hc] at hj
        by_cases e : i = j
        · subst e; exact cut_none hc
        · exact ih (j + 1) hj i (by omega) h2 (by omega)
  exact key 3 1 h i h1 h2 (by omega)
/-- Bytes between those of the two ends are those of a number between the two ends, and no others. -/
structure Bet (a3 a2 a1 a0 b3 b2 b1 b0 x3 x2 x1 x0 : Int) : Prop where
  h3 : a3 ≤ x3 ∧ x3 ≤ b3
  h2 : a2 ≤ x2 ∧ x2 ≤ b2
  h1 : a1 ≤ x1 ∧ x1 ≤ b1
  h0 : a0 ≤ x0 ∧ x0 ≤ b0
theorem bet2 {a b a1 a0 b1 b0 x1 x0 : Int} (ha : Digs a 0 0 a1 a0) (hb : Digs b 0 0 b1 b0) (h1 : NC a b 1) (hx0 : 0 ≤ x0 ∧ x0 < 64) :
    ((a1 ≤ x1 ∧ x1 ≤ b1) ∧ (a0 ≤ x0 ∧ x0 ≤ b0)) ↔ (a ≤ x1 * 64 + x0 ∧ x1 * 64 + x0 ≤ b) := by
  have e1 := ha.m0; have e2 := hb.m0; have q1 := ha.eq; have q2 := hb.eq
  have p := ha.b0; have q := hb.b0; have r := ha.b1; have s := hb.b1
  unfold NC at h1; simp only [pw] at h1
  rw [e1.1, e1.2, e2.1, e2.2] at h1
  rcases h1 with h1 | h1 <;> constructor <;> intro h <;> omega
theorem bet3 {a b a2 a1 a0 b2 b1 b0 x2 x1 x0 : Int} (ha : Digs a 0 a2 a1 a0) (hb : Digs b 0 b2 b1 b0) (h1 : NC a b 1) (h2 : NC a b 2) (hx0 : 0 ≤ x0 ∧ x0 < 64) (hx1 : 0 ≤ x1 ∧ x1 < 64) :
    ((a2 ≤ x2 ∧ x2 ≤ b2) ∧ (a1 ≤ x1 ∧ x1 ≤ b1) ∧ (a0 ≤ x0 ∧ x0 ≤ b0)) ↔ (a ≤ (x2 * 64 + x1) * 64 + x0 ∧ (x2 * 64 + x1) * 64 + x0 ≤ b) := by
  have e1 := ha.m0; have e2 := hb.m0; have q1 := ha.eq; have q2 := hb.eq
  have f1 := ha.m1; have f2 := hb.m1
  have p := ha.b0; have q := hb.b0; have r := ha.b1; have s := hb.b1; have t := ha.b2; have u := hb.b2
  unfold NC at h1 h2; simp only [pw] at h1 h2
  rw [e1.1, e1.2, e2.1, e2.2] at h1
  rw [f1.1, f1.2.1, f2.1, f2.2.1] at h2
  clear e1 e2 f1 f2
  rcases h1 with h1 | h1 <;> rcases h2 with h2 | h2 <;> constructor <;> intro h <;> omega
theorem bet4 {a b a3 a2 a1 a0 b3 b2 b1 b0 x3 x2 x1 x0 : Int} (ha : Digs a a3 a2 a1 a0) (hb : Digs b b3 b2 b1 b0) (h1 : NC a b 1) (h2 : NC a b 2) (h3 : NC a b 3) (hx0 : 0 ≤ x0 ∧ x0 < 64) (hx1 : 0 ≤ x1 ∧ x1 < 64) (hx2 : 0 ≤ x2 ∧ x2 < 64) :
    ((a3 ≤ x3 ∧ x3 ≤ b3) ∧ (a2 ≤ x2 ∧ x2 ≤ b2) ∧ (a1 ≤ x1 ∧ x1 ≤ b1) ∧ (a0 ≤ x0 ∧ x0 ≤ b0)) ↔ (a ≤ ((x3 * 64 + x2) * 64 + x1) * 64 + x0 ∧ ((x3 * 64 + x2) * 64 + x1) * 64 + x0 ≤ b) := by
  have e1 := ha.m0; have e2 := hb.m0; have q1 := ha.eq; have q2 := hb.eq
  have f1 := ha.m1; have f2 := hb.m1; have g1 := ha.m2; have g2 := hb.m2
  have p := ha.b0; have q := hb.b0; have r := ha.b1; have s := hb.b1; have t := ha.b2; have u := hb.b2
  unfold NC at h1 h2 h3; simp only [pw] at h1 h2 h3
  rw [e1.1, e1.2, e2.1, e2.2] at h1
  rw [f1.1, f1.2.1, f2.1, f2.2.1] at h2
  rw [g1.1, g1.2.1, g2.1, g2.2.1] at h3
  clear e1 e2 f1 f2 g1 g2
  rcases h1 with h1 | h1 <;> rcases h2 with h2 | h2 <;> rcases h3 with h3 | h3 <;> constructor <;> intro h <;> omega
/-! A sequence and the bytes that it takes. -/
def fitL : List R → List Int → Prop
  | [], [] => True
  | p :: q, x :: l => (p.1 ≤ x ∧ x ≤ p.2) ∧ fitL q l
  | _, _ => False
theorem fitL_len : ∀ (q : List R) (l : List Int), fitL q l → q.length = l.length
  | [], [], _ => rfl
  | p :: q, x :: l, h => by rw [List.length_cons, List.length_cons, fitL_len q l h.2]
  | [], _ :: _, h => h.elim
  | _ :: _, [], h => h.elim
theorem fitL_snoc : ∀ (q : List R) (l : List Int) (p : R) (x : Int), q.length = l.length → (fitL (q ++ [p]) (l ++ [x]) ↔ fitL q l ∧ p.1 ≤ x ∧ x ≤ p.2)
  | [], [], p, x, _ => by simp [fitL]
  | p' :: q, y :: l, p, x, h => by
    have ih := fitL_snoc q l p x (by simpa using h)
    simp only [List.cons_append, fitL, ih]
    exact ⟨fun ⟨h1, h2, h3⟩ => ⟨⟨h1, h2⟩, h3⟩, fun ⟨⟨h1, h2⟩, h3⟩ => ⟨h1, h2, h3⟩⟩
  | [], _ :: _, _, _, h => by simp at h
  | _ :: _, [], _, _, h => by simp at h
theorem fitK_iff (q : List R) (s : ByteArray) : ∀ n, n ≤ q.length → n ≤ s.size → (fitK q s n = true ↔ fitL (q.take n) ((Utf.nums s).take n))
  | 0, _, _ => by simp [fitK, fitL]
  | n + 1, h1, h2 => by
    have ih := fitK_iff q s n (by omega) (by omega)
    have hl : n < (Utf.nums s).length := by rw [Utf.nums_length]; omega
    have hs : sb s n = (Utf.nums s)[n] := by
      rw [sb_at s n (by omega), ← Utf.nums_at s n (by omega), List.getElem?_eq_getElem hl]; rfl
    rw [fitK, List.take_succ_eq_append_getElem (show n < q.length by omega), List.take_succ_eq_append_getElem hl, fitL_snoc _ _ _ _ (by rw [List.length_take, List.length_take]; omega), Bool.and_eq_true, Bool.and_eq_true, decide_eq_true_eq, decide_eq_true_eq, ih, hs,
      List.getElem?_eq_getElem (show n < q.length by omega)]
    rfl
theorem fitB_iff (q : List R) (s : ByteArray) : fitB q s = true ↔ 0 < q.length ∧ q.length ≤ s.size ∧ fitL q ((Utf.nums s).take q.length) := by
  unfold fitB room
  rw [Bool.and_eq_true, Bool.and_eq_true, decide_eq_true_eq, decide_eq_true_eq]
  constructor
  · rintro ⟨⟨h1, h2⟩, h3⟩
    have := (fitK_iff q s q.length (Nat.le_refl _) h2).1 h3
    rw [List.take_length] at this
    exact ⟨h1, h2, this⟩
  · rintro ⟨h1, h2, h3⟩
    exact ⟨⟨h1, h2⟩, (fitK_iff q s q.length (Nat.le_refl _) h2).2 (by rw [List.take_length]; exact h3)⟩
theorem zipE_len {w : Nat} {a b : Int} (h : Cls w a b) : (zipE a b).length = w := by
  have h1 := Utf.encN_length a
  have h2 := Utf.encN_length b
  rw [h.width (Int.le_refl _) h.le] at h1
  rw [h.width h.le (Int.le_refl _)] at h2
  unfold zipE; rw [List.length_zip]; omega
theorem dl {c x p q : Int} (h : c + p ≤ x ∧ x ≤ c + q) : p ≤ x - c ∧ x - c ≤ q := by omega
theorem dd {c x p q : Int} (h : c + p ≤ x ∧ x ≤ c + q) (hp : 0 ≤ p ∧ p < 64) (hq : 0 ≤ q ∧ q < 64) : 0 ≤ x - c ∧ x - c < 64 := by omega
/-- A sequence that is split nowhere takes the encodings of its runes and nothing else. -/
theorem take_iff {w : Nat} {a b : Int} (h : Cls w a b) (hc : cutAll a b = none) (l : List Int) : fitL (zipE a b) l ↔ ∃ r, a ≤ r ∧ r ≤ b ∧ l = Utf.encN r := by
  have hwa := h.width (Int.le_refl _) h.le
  have hwb := h.width h.le (Int.le_refl _)
  have hnc := fun i => cutAll_none hwa hc i
  have hwr : ∀ r, a ≤ r → r ≤ b → Utf.width r = w := fun r h1 h2 => h.width h1 h2
  have hle := h.le
  have hz := zipE_len h
  have hlen : fitL (zipE a b) l → l.length = w := fun hf => by rw [← fitL_len _ _ hf, hz]
  have hlen2 : (∃ r, a ≤ r ∧ r ≤ b ∧ l = Utf.encN r) → l.length = w := fun ⟨r, h1, h2, e⟩ => by
    have := Utf.encN_length r; rw [hwr r h1 h2] at this; rw [e]; omega
  by_cases hl' : ¬ l.length = w
  · exact ⟨fun x => absurd (hlen x) hl', fun x => absurd (hlen2 x) hl'⟩
  have hl : l.length = w := Decidable.not_not.1 hl'
  clear hl'
  clear hlen hlen2 hz hc
  unfold zipE
  rcases h.bd with ⟨rfl, b1, b2⟩ | ⟨rfl, b1, b2⟩ | h3 | h3 | ⟨rfl, b1, b2⟩
  · rw [enc1 hwa, enc1 hwb]
    match l, hl with
    | [x], _ =>
      simp only [List.zip_cons_cons, List.zip_nil_right, fitL, and_true]
      constructor
      · rintro ⟨h1, h2⟩; exact ⟨x, h1, h2, by rw [enc1 (hwr x h1 h2)]⟩
      · rintro ⟨r, h1, h2, e⟩; rw [enc1 (hwr r h1 h2)] at e; injection e with e; omega
  · rw [enc2 hwa, enc2 hwb]
    match l, hl with
    | [x, y], _ =>
      have da := digs a; have db := digs b
      rw [show a / 262144 = 0 by omega, show a / 4096 % 64 = 0 by omega] at da
      rw [show b / 262144 = 0 by omega, show b / 4096 % 64 = 0 by omega] at db
      simp only [List.zip_cons_cons, List.zip_nil_right, fitL, and_true]
      have n1 := hnc 1 (by omega) (by omega)
      clear hnc
      constructor
      · rintro ⟨h1, h2⟩
        have hb := (bet2 (x1 := x - 192) (x0 := y - 128) da db n1 (by omega)).1 ⟨by omega, by omega⟩
        refine ⟨(x - 192) * 64 + (y - 128), hb.1, hb.2, ?_⟩
        rw [enc2 (hwr _ hb.1 hb.2)]
        clear hwr hb n1 da db hwa hwb
        congr 1
        · omega
        · congr 1; omega
      · rintro ⟨r, h1, h2, e⟩
        rw [enc2 (hwr r h1 h2)] at e
        injection e with e1 e; injection e with e2 _
        have hb := (bet2 (x1 := r / 64) (x0 := r % 64) da db n1 (by omega)).2 (by omega)
        omega
  · have hw3 := h3.1
    subst hw3
    have hb3 : 2048 ≤ a ∧ b ≤ 65535 := by omega
    clear h3
    rw [enc3 hwa, enc3 hwb]
    match l, hl with
    | [x, y, z], _ =>
      have da := digs a; have db := digs b
      rw [show a / 262144 = 0 by omega, show a / 4096 % 64 = a / 4096 by omega] at da
      rw [show b / 262144 = 0 by omega, show b / 4096 % 64 = b / 4096 by omega] at db
      simp only [List.zip_cons_cons, List.zip_nil_right, fitL, and_true]
      have n1 := hnc 1 (by omega) (by omega)
      have n2 := hnc 2 (by omega) (by omega)
      clear hnc
      constructor
      · rintro ⟨h1, h2, h3⟩
        have hb := (bet3 (x2 := x - 224) (x1 := y - 128) (x0 := z - 128) da db n1 n2 (by omega) (by omega)).1 ⟨by omega, by omega, by omega⟩
        refine ⟨((x - 224) * 64 + (y - 128)) * 64 + (z - 128), hb.1, hb.2, ?_⟩
        rw [enc3 (hwr _ hb.1 hb.2)]
        clear hwr hb n1 n2 da db hwa hwb
        congr 1
        · omega
        · congr 1
          · omega
          · congr 1; omega
      · rintro ⟨r, h1, h2, e⟩
        rw [enc3 (hwr r h1 h2)] at e
        injection e with e1 e; injection e with e2 e; injection e with e3 _
        have hb := (bet3 (x2 := r / 4096) (x1 := r / 64 % 64) (x0 := r % 64) da db n1 n2 (by omega) (by omega)).2 (by omega)
        omega
  · have hw3 := h3.1
    subst hw3
    have hb3 : 2048 ≤ a ∧ b ≤ 65535 := by omega
    clear h3
    rw [enc3 hwa, enc3 hwb]
    match l, hl with
    | [x, y, z], _ =>
      have da := digs a; have db := digs b
      rw [show a / 262144 = 0 by omega, show a / 4096 % 64 = a / 4096 by omega] at da
      rw [show b / 262144 = 0 by omega, show b / 4096 % 64 = b / 4096 by omega] at db
      simp only [List.zip_cons_cons, List.zip_nil_right, fitL, and_true]
      have n1 := hnc 1 (by omega) (by omega)
      have n2 := hnc 2 (by omega) (by omega)
      clear hnc
      constructor
      · rintro ⟨h1, h2, h3⟩
        have hb := (bet3 (x2 := x - 224) (x1 := y - 128) (x0 := z - 128) da db n1 n2 (by omega) (by omega)).1 ⟨by omega, by omega, by omega⟩
        refine ⟨((x - 224) * 64 + (y - 128)) * 64 + (z - 128), hb.1, hb.2, ?_⟩
        rw [enc3 (hwr _ hb.1 hb.2)]
        clear hwr hb n1 n2 da db hwa hwb
        congr 1
        · omega
        · congr 1
          · omega
          · congr 1; omega
      · rintro ⟨r, h1, h2, e⟩
        rw [enc3 (hwr r h1 h2)] at e
        injection e with e1 e; injection e with e2 e; injection e with e3 _
        have hb := (bet3 (x2 := r / 4096) (x1 := r / 64 % 64) (x0 := r % 64) da db n1 n2 (by omega) (by omega)).2 (by omega)
        omega
  · rw [enc4 hwa, enc4 hwb]
    match l, hl with
    | [x, y, z, u], _ =>
      have da := digs a; have db := digs b
      simp only [List.zip_cons_cons, List.zip_nil_right, fitL, and_true]
      have n1 := hnc 1 (by omega) (by omega)
      have n2 := hnc 2 (by omega) (by omega)
      have n3 := hnc 3 (by omega) (by omega)
      clear hnc
      constructor
      · rintro ⟨h1, h2, h3, h4⟩
        have hb := (bet4 (x3 := x - 240) (x2 := y - 128) (x1 := z - 128) (x0 := u - 128) da db n1 n2 n3 (dd h4 da.b0 db.b0) (dd h3 da.b1 db.b1) (dd h2 da.b2 db.b2)).1 ⟨dl h1, dl h2, dl h3, dl h4⟩
        refine ⟨(((x - 240) * 64 + (y - 128)) * 64 + (z - 128)) * 64 + (u - 128), hb.1, hb.2, ?_⟩
        have dX : Digs ((((x - 240) * 64 + (y - 128)) * 64 + (z - 128)) * 64 + (u - 128)) (x - 240) (y - 128) (z - 128) (u - 128) := ⟨rfl, dd h4 da.b0 db.b0, dd h3 da.b1 db.b1, dd h2 da.b2 db.b2⟩
        rw [enc4 (hwr _ hb.1 hb.2), dX.m2.2.1, dX.m2.2.2, dX.m1.2.2, dX.m0.1]
        clear h1 h2 h3 h4 hwr hb n1 n2 n3 da db hwa hwb dX
        rw [show 240 + (x - 240) = x by omega, show 128 + (y - 128) = y by omega, show 128 + (z - 128) = z by omega, show 128 + (u - 128) = u by omega]
      · rintro ⟨r, h1, h2, e⟩
        rw [enc4 (hwr r h1 h2)] at e
        injection e with e1 e; injection e with e2 e; injection e with e3 e; injection e with e4 _
        have dr := digs r
        have hb := (bet4 (x3 := r / 262144) (x2 := r / 4096 % 64) (x1 := r / 64 % 64) (x0 := r % 64) da db n1 n2 n3 dr.b0 dr.b1 dr.b2).2 (by rw [← dr.eq]; exact ⟨h1, h2⟩)
        obtain ⟨⟨p1, p2⟩, ⟨p3, p4⟩, ⟨p5, p6⟩, ⟨p7, p8⟩⟩ := hb
        subst e1; subst e2; subst e3; subst e4
        exact ⟨⟨Int.add_le_add_left p1 240, Int.add_le_add_left p2 240⟩, ⟨Int.add_le_add_left p3 128, Int.add_le_add_left p4 128⟩, ⟨Int.add_le_add_left p5 128, Int.add_le_add_left p6 128⟩, ⟨Int.add_le_add_left p7 128, Int.add_le_add_left p8 128⟩⟩
end Go.Proofs.Ytfopcgbfbedcjaa.Bd
