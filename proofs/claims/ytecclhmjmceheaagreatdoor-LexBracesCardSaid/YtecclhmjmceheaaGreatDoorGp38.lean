/- A row of tokens that is owned. · Mathematics of lex: how long tokens are, what they are. -/
import Derived.Test.YtecclhmjmceheaaGreatDoorGp29
import Derived.Test.YtecclhmjmceheaaGreatDoorGp35
import Derived.Test.YtecclhmjmceheaaGreatDoorGp31
namespace Go.Proofs.YtecclhmjmceheaaGreatDoor
open Go.RowKit
open Lx (Tk TR)
set_option linter.unusedVariables false
theorem Tryz.infoToken : (Tryz.prog.info? 35).map (fun i => (i.zero, i.size, i.bytes)) = some (some (.agg #[.int .i64 0, .int .i64 0, .int .i64 0, .string ⟨#[]⟩, .int .i64 0, .int .i64 0, .bool false, .slice none 0 0]), 8, 88) := by kernel_rfl
theorem Tryz.underTokens : Tryz.prog.underlying 24 = some (.slice 35) := by kernel_rfl
/-- The set of a token, apart from a block. -/
def SetAt (W : World) (vs : Value) (c : Br.Cls) (o : Option Nat) : Prop :=
  ∃ out, Br.SetIs c out ∧ RRow W vs out ∧ ∀ b off n cap, vs = .slice (some ⟨b, off, none⟩) n cap → b < W.heap.size ∧ o ≠ some b
def TkOwn (W : World) (base : Nat) (v : Value) (T : List (Int × Tk)) : Prop :=
  ∃ X : List (List Value), X.length = T.length ∧ W.ownsRow base 35 8 v T.length X.flatten ∧
    ∀ j (h : j < T.length), ∃ vs, X[j]? = some (TkCells T[j].1 T[j].2 vs) ∧ SetAt W vs T[j].2.cls v.ownBlock
theorem TkOwn.nil (W : World) (base : Nat) : TkOwn W base (.slice none 0 0) [] := ⟨[], rfl, World.ownsRow_nil _ _ _ _, fun j h => absurd h (by simp)⟩
theorem SetAt.kept {W W' : World} {vs : Value} {c : Br.Cls} {o : Option Nat} (h : SetAt W vs c o) (hb : Below W.heap.size W W') : SetAt W' vs c o := by
  obtain ⟨out, h1, h2, h3⟩ := h
  exact ⟨out, h1, h2.below (Nat.le_refl _) hb, fun b off n cap e => ⟨Nat.lt_of_lt_of_le (h3 b off n cap e).1 hb.size, (h3 b off n cap e).2⟩⟩
theorem TkOwn.kept {W W' : World} {base : Nat} {v : Value} {T : List (Int × Tk)} (h : TkOwn W base v T) (hb : Below W.heap.size W W') : TkOwn W' base v T := by
  obtain ⟨X, h1, h2, h3⟩ := h
  refine ⟨X, h1, h2.kept ⟨hb.os, hb.tape, hb.output, hb.size, fun k hk _ => hb.block k hk⟩ (row := none) (by cases hv : v.ownBlock <;> simp), fun j hj => ?_⟩
  obtain ⟨vs, e, hs⟩ := h3 j hj
  exact ⟨vs, e, hs.kept hb⟩
theorem TkOwn.lt {W : World} {base : Nat} {v : Value} {T : List (Int × Tk)} (h : TkOwn W base v T) : ∀ b, v.ownBlock = some b → base ≤ b ∧ b < W.heap.size := by
  obtain ⟨X, _, h2, _⟩ := h
  exact fun b hb => World.ownsRow.lt h2 b hb
theorem TkOwn.slice {W : World} {base : Nat} {v : Value} {T : List (Int × Tk)} (h : TkOwn W base v T) : ∃ a cap, v = .slice a T.length cap := by
  obtain ⟨X, h1, h2, h3⟩ := h
  rcases h2.2 with ⟨e, e0⟩ | ⟨g, cap, cur, e, _⟩
  · exact ⟨none, 0, by rw [e, e0]⟩
  · exact ⟨_, _, e⟩
theorem RRow.grown {W W' : World} {v : Value} {l : List (Int × Int)} (h : RRow W v l) {o : Option Nat} (hg : W.grownBy W' o) (hne : ∀ b off n cap, v = .slice (some ⟨b, off, none⟩) n cap → o ≠ some b) : RRow W' v l := by
  obtain ⟨a, cap, hv, hl, hw, hc⟩ := h
  refine ⟨a, cap, hv, hl, hw, fun j hj => ?_⟩
  obtain ⟨b, off, ha, hlt, h1, h2⟩ := hc j hj
  subst ha
  have hn := hne b off _ _ hv
  exact ⟨b, off, rfl, Nat.lt_of_lt_of_le hlt hg.size, (hg.cell h1 (fun e => hn e.symm)), (hg.cell h2 (fun e => hn e.symm))⟩
theorem SetAt.grown {W W' : World} {vs : Value} {c : Br.Cls} {o o' : Option Nat} (h : SetAt W vs c o) (hg : W.grownBy W' o) (h' : o' = o ∨ ∃ g, o' = some g ∧ W.heap.size ≤ g) : SetAt W' vs c o' := by
  obtain ⟨out, h1, h2, h3⟩ := h
  refine ⟨out, h1, h2.grown hg (fun b off n cap e => (h3 b off n cap e).2), fun b off n cap e => ⟨Nat.lt_of_lt_of_le (h3 b off n cap e).1 hg.size, ?_⟩⟩
  rcases h' with rfl | ⟨g, rfl, hg2⟩
  · exact (h3 b off n cap e).2
  · intro e2
    injection e2 with e2
    have := (h3 b off n cap e).1
    omega
/-- The set of a token that a call has made, apart from an elder row. -/
theorem setAt_new {W : World} {base : Nat} {vs : Value} {c : Br.Cls} {out : List (Int × Int)} (hi : Br.SetIs c out) (ho : RgOwn W base vs out) {o : Option Nat} (hlt : ∀ b, o = some b → b < base) : SetAt W vs c o := by
  refine ⟨out, hi, setIs_row hi ho, fun b off n cap e => ?_⟩
  have hu := ho
  unfold RgOwn at hu
  rcases hu.2 with ⟨e1, _⟩ | ⟨g, c1, cur, e1, hb, _⟩
  · rw [e] at e1; cases e1
  · rw [e] at e1
    injection e1 with e2 e3 e4
    injection e2 with e2
    injection e2 with e5 e6 e7
    subst e5
    have h9 := (World.ownsRow.lt hu b (by rw [e, e6]; rfl)).2
    exact ⟨h9, fun h => by have := hlt b h; omega⟩
/-- One token more. -/
theorem append_tok (W : World) (base : Nat) (v : Value) (T : List (Int × Tk)) (hv : TkOwn W base v T) (hb0 : base ≤ W.heap.size) (hT : T.length ≤ 1000000) (a : Int) (t : Tk) (vs : Value) (h1 : vs.oneCell' = true)
    (bt : Nat) (hnews : ∀ j u, (TkCells a t vs)[j]? = some u → W.cell? ((⟨bt, 0, none⟩ : Addr).add j) = some u) (hs : SetAt W vs t.cls v.ownBlock) (c : Nat) :
    ∃ v' W', (Builtin.append_ #[24, 24] 24 #[v, .slice (some ⟨bt, 0, none⟩) 1 c]).run Tryz.prog W = .ok v' W' ∧ TkOwn W' base v' (T ++ [(a, t)]) ∧ Below base W W' := by
  obtain ⟨i0, hi, hz0, hz1, hz2⟩ := info_parts Tryz.infoToken
  obtain ⟨X, hX1, hX2, hX3⟩ := hv
  obtain ⟨gg, cap2, W2, hrun, hown, hgrow, hat, hlt2⟩ := run_append_lies (P := Tryz.prog) W 24 24 base 35 i0 _ 8 88 Tryz.underTokens hi hz0 hz1 hz2 rfl (by omega) _ T.length X.flatten hX2
    ⟨bt, 0, none⟩ 1 c (TkCells a t vs) rfl hnews (by intro u hu; simp [TkCells] at hu; rcases hu with rfl | rfl | rfl | rfl | rfl | rfl | rfl | rfl <;> first | rfl | exact h1) (by omega) (by unfold maxLen; omega) (by omega) hb0 _ rfl
  have ho : (Value.slice (some ⟨gg, 0, none⟩) (T.length + 1) cap2).ownBlock = v.ownBlock ∨ ∃ g, (Value.slice (some ⟨gg, 0, none⟩) (T.length + 1) cap2).ownBlock = some g ∧ W.heap.size ≤ g := by
    rcases hat with h | h
    · exact .inl (by rw [h]; rfl)
    · exact .inr ⟨gg, rfl, by omega⟩
  refine ⟨_, _, hrun, ⟨X ++ [TkCells a t vs], by simp [hX1], by simpa using hown, fun j hj => ?_⟩, (Below.refl base W).grown hgrow hb0 fun j ej => (World.ownsRow.lt hX2 j ej).1⟩
  by_cases hjl : j < T.length
  · obtain ⟨us, e, hu⟩ := hX3 j hjl
    refine ⟨us, ?_, ?_⟩
    · rw [List.getElem?_append_left (by omega), List.getElem_append_left hjl]; exact e
    · rw [List.getElem_append_left hjl]; exact hu.grown hgrow ho
  · have hj2 : j = T.length := by simp at hj; omega
    subst hj2
    refine ⟨vs, ?_, ?_⟩
    · rw [List.getElem?_append_right (by omega)]; simp [hX1]
    · simp only [List.getElem_append_right (Nat.le_refl _), Nat.sub_self, List.getElem_cons_zero]
      exact hs.grown hgrow ho
end Go.Proofs.YtecclhmjmceheaaGreatDoor
namespace Go.Proofs.YtecclhmjmceheaaGreatDoor.Lx
set_option linter.unusedVariables false
/-- What a token, or an error, is within: a text of m bytes. -/
def TRok (m : Nat) : TR → Prop
  | .bad o c => 0 ≤ o ∧ o ≤ m ∧ c ≠ 0
  | .ok t n => 1 ≤ n ∧ n ≤ m ∧ 1 ≤ t.kind ∧ t.kind ≤ 13
theorem char_ok (s : ByteArray) (h0 : 0 < s.size) : TRok s.size (charX (Utf.nums s)) := by
  unfold charX
  have h1 := Utf.dec_len (Utf.nums s) (Utf.nums_bytes s)
  have hl := Utf.nums_length s
  have hne : Utf.nums s ≠ [] := by intro e; rw [e] at hl; simp at hl; omega
  have h2 := h1.2.2.1 hne
  rw [hl] at h1
  split
  · exact ⟨by omega, by omega, by omega⟩
  · exact ⟨by omega, by omega, by show (1 : Int) ≤ 1; omega, by show (1 : Int) ≤ 13; omega⟩
theorem esc_ok (s : ByteArray) (h0 : 0 < s.size) (h92 : (Utf.nums s)[0]?.getD 0 = 92) : TRok s.size (escX s) := by
  unfold escX
  have hl := Utf.nums_length s
  cases hs : shortX ((Utf.nums s)[1]?.getD 0) with
  | some t =>
    have h2 : 2 ≤ s.size := by
      rcases Nat.lt_or_ge 1 s.size with h | h
      · omega
      · rw [List.getElem?_eq_none (by omega)] at hs
        cases hs
    have hk : 1 ≤ t.kind ∧ t.kind ≤ 13 := by
      unfold shortX at hs
      repeat' split at hs
      all_goals first | (injection hs with hs; subst hs; exact ⟨by decide, by decide⟩) | cases hs
    exact ⟨by omega, h2, hk.1, hk.2⟩
  | none =>
    dsimp only
    unfold setX
    have hc := Br.set_cases s
    split
    · rename_i e0
      rcases hc with ⟨_, _, h⟩ | ⟨x, _, _, h1, h2⟩
      · omega
      · exact ⟨by omega, by omega, by show (1 : Int) ≤ 2; omega, by show (2 : Int) ≤ 13; omega⟩
    · split
      · unfold numX
        have hn := Br.num_cases (Utf.nums s)
        split
        · rcases hn with ⟨_, _, h⟩ | ⟨_, _, h1, h2, _⟩
          · omega
          · exact ⟨by omega, by omega, by show (1 : Int) ≤ 1; omega, by show (1 : Int) ≤ 13; omega⟩
        · rcases hn with ⟨_, _, h⟩ | ⟨_, _, h1, h2, h3⟩
          · exact ⟨by omega, by omega, by omega⟩
          · omega
      · rcases hc with ⟨_, _, h⟩ | ⟨x, _, h, h1, h2⟩
        · exact ⟨by omega, by omega, by omega⟩
        · omega
theorem brackX_ok (s : ByteArray) (h0 : 0 < s.size) : TRok s.size (brackX s) := by
  unfold brackX
  cases h : Br.brack s with
  | bad o c =>
    have h1 := Br.brack_bad h
    exact ⟨by omega, by omega, h1.2.2⟩
  | ok Ys e =>
    have h1 := Br.brack_close h
    exact ⟨by omega, by omega, by show (1 : Int) ≤ 13; omega, by show (13 : Int) ≤ 13; omega⟩
theorem rep_ok (l : List Int) (h1 : 1 ≤ l.length) (hn : 1 ≤ (boundsX l).2.2) : TRok l.length (repX l) := by
  have hb := bounds_bd l h1
  unfold repX repOf
  split
  · exact ⟨by omega, by omega, by omega⟩
  · split
    · rename_i h
      have := Br.getD_lt h (by decide)
      exact ⟨by omega, by omega, by show (1 : Int) ≤ 8; omega, by show (8 : Int) ≤ 13; omega⟩
    · exact ⟨by omega, by omega, by show (1 : Int) ≤ 8; omega, by show (8 : Int) ≤ 13; omega⟩
theorem flag_ok (l : List Int) : TRok l.length (flagX l) := by
  have hu := upToC_le l
  unfold flagX
  split
  · exact ⟨by omega, by omega, by omega⟩
  · split
    · exact ⟨by omega, by omega, by show (1 : Int) ≤ 9; omega, by show (9 : Int) ≤ 13; omega⟩
    · split
      · exact ⟨by omega, by omega, by omega⟩
      · split
        · exact ⟨by omega, by omega, by show (1 : Int) ≤ 9; omega, by show (9 : Int) ≤ 13; omega⟩
        · exact ⟨by omega, by omega, by show (1 : Int) ≤ 10; omega, by show (10 : Int) ≤ 13; omega⟩
theorem name_bd {s nm : ByteArray} {n : Nat} (h : nameX s = some (nm, n)) : 1 ≤ n ∧ n ≤ s.size := by
  unfold nameX at h
  dsimp only at h
  split at h
  · cases h
  · split at h
    · cases h
    · rename_i hp hne
      have hle := Br.upTo_le 62 ((Utf.nums s).drop (nameAt (Utf.nums s)))
      rw [List.length_drop, Utf.nums_length] at hle hne
      split at h
      · injection h with h; injection h with h1 h2; omega
      · cases h
theorem open_ok (s : ByteArray) (h0 : 0 < s.size) : TRok s.size (openX s) := by
  unfold openX
  split
  · exact ⟨by omega, by omega, by show (1 : Int) ≤ 9; omega, by show (9 : Int) ≤ 13; omega⟩
  · cases h : nameX s with
    | some p =>
      obtain ⟨nm, n⟩ := p
      have := name_bd h
      exact ⟨this.1, this.2, by show (1 : Int) ≤ 9; omega, by show (9 : Int) ≤ 13; omega⟩
    | none =>
      have := flag_ok (Utf.nums s)
      rw [Utf.nums_length] at this
      exact this
theorem tok_ok (s : ByteArray) (h0 : 0 < s.size) : TRok s.size (tokX s) := by
  have hl := Utf.nums_length s
  have hb : ∀ c : Int, (c = 42 ∨ c = 43 ∨ c = 63) → (Utf.nums s)[0]?.getD 0 = c → TRok s.size (repX (Utf.nums s)) := fun c hc h => by
    have := rep_ok (Utf.nums s) (by omega) (by
      unfold boundsX
      rw [h]
      rcases hc with rfl | rfl | rfl <;> exact Nat.le_refl 1)
    rw [hl] at this; exact this
  unfold tokX
  dsimp only
  split; · exact ⟨by omega, by omega, by show (1 : Int) ≤ 3; omega, by show (3 : Int) ≤ 13; omega⟩
  split; · exact ⟨by omega, by omega, by show (1 : Int) ≤ 6; omega, by show (6 : Int) ≤ 13; omega⟩
  split; · exact ⟨by omega, by omega, by show (1 : Int) ≤ 7; omega, by show (7 : Int) ≤ 13; omega⟩
  split; · exact ⟨by omega, by omega, by show (1 : Int) ≤ 11; omega, by show (11 : Int) ≤ 13; omega⟩
  split; · exact ⟨by omega, by omega, by show (1 : Int) ≤ 12; omega, by show (12 : Int) ≤ 13; omega⟩
  split; · rename_i h; exact esc_ok s h0 h
  split; · exact brackX_ok s h0
  split; · exact open_ok s h0
  split
  · rename_i h
    split
    · exact char_ok s h0
    · rename_i hn
      have := rep_ok (Utf.nums s) (by omega) (by
        unfold boundsX
        rw [if_neg (by omega), if_neg (by omega), if_neg (by omega)]
        omega)
      rw [hl] at this; exact this
  split
  · rename_i h; exact hb _ h rfl
  · exact char_ok s h0
/-- The token, or the rune, at the front. -/
def oneX (q : Bool) (s : ByteArray) : TR := if q then charX (Utf.nums s) else tokX s
theorem one_ok (q : Bool) (s : ByteArray) (h0 : 0 < s.size) : TRok s.size (oneX q s) := by
  unfold oneX
  cases q
  · exact tok_ok s h0
  · exact char_ok s h0
theorem lexF_eq (s : ByteArray) (f at_ : Nat) (q : Bool) (T : List (Int × Tk)) : lexF s (f + 1) at_ q T = if s.size ≤ at_ then .ok T else
    if turnB q ((Utf.nums s).drop at_) = true then lexF s f (at_ + 2) (!q) T else
    match oneX q (s.extract at_ s.size) with
    | .bad n c => .bad (at_ + n) c
    | .ok t n => lexF s f (at_ + n) q (T ++ [((at_ : Int), t)]) := by
  unfold oneX
  rw [Br.nums_tail]
  rfl
theorem lexF_fuel (s : ByteArray) : ∀ (f g at_ : Nat) (q : Bool) (T : List (Int × Tk)), s.size - at_ < f → s.size - at_ < g → lexF s f at_ q T = lexF s g at_ q T
  | 0, _, _, _, _, hf, _ => by omega
  | _ + 1, 0, _, _, _, _, hg => by omega
  | f + 1, g + 1, at_, q, T, hf, hg => by
    rw [lexF_eq, lexF_eq]
    by_cases h1 : s.size ≤ at_
    · rw [if_pos h1, if_pos h1]
    · rw [if_neg h1, if_neg h1]
      by_cases h2 : turnB q ((Utf.nums s).drop at_) = true
      · rw [if_pos h2, if_pos h2]
        exact lexF_fuel s f g (at_ + 2) _ T (by omega) (by omega)
      · rw [if_neg h2, if_neg h2]
        have hz : (s.extract at_ s.size).size = s.size - at_ := by rw [ByteArray.size_extract]; omega
        have ho := one_ok q (s.extract at_ s.size) (by omega)
        cases hx : oneX q (s.extract at_ s.size) with
        | bad n c => rfl
        | ok t n =>
          rw [hx] at ho
          have := ho.1
          exact lexF_fuel s f g (at_ + n) _ _ (by omega) (by omega)
/-- The tokens of a text from a place on. -/
def lexR (s : ByteArray) (at_ : Nat) (q : Bool) (T : List (Int × Tk)) : LR := lexF s (s.size + 2) at_ q T
theorem lexR_end {s : ByteArray} {at_ : Nat} {q : Bool} {T : List (Int × Tk)} (h : s.size ≤ at_) : lexR s at_ q T = .ok T := by
  unfold lexR
  rw [lexF_eq, if_pos h]
theorem lexR_turn {s : ByteArray} {at_ : Nat} {q : Bool} {T : List (Int × Tk)} (h : at_ < s.size) (h2 : turnB q ((Utf.nums s).drop at_) = true) : lexR s at_ q T = lexR s (at_ + 2) (!q) T := by
  unfold lexR
  rw [lexF_eq, if_neg (by omega), if_pos h2]
  exact lexF_fuel s _ _ _ _ _ (by omega) (by omega)
theorem lexR_bad {s : ByteArray} {at_ : Nat} {q : Bool} {T : List (Int × Tk)} {n c : Int} (h : at_ < s.size) (h2 : turnB q ((Utf.nums s).drop at_) = false) (hx : oneX q (s.extract at_ s.size) = .bad n c) : lexR s at_ q T = .bad (at_ + n) c := by
  unfold lexR
  rw [lexF_eq, if_neg (by omega), if_neg (by rw [h2]; decide), hx]
theorem lexR_tok {s : ByteArray} {at_ : Nat} {q : Bool} {T : List (Int × Tk)} {t : Tk} {n : Nat} (h : at_ < s.size) (h2 : turnB q ((Utf.nums s).drop at_) = false) (hx : oneX q (s.extract at_ s.size) = .ok t n) : lexR s at_ q T = lexR s (at_ + n) q (T ++ [((at_ : Int), t)]) := by
  have hz : (s.extract at_ s.size).size = s.size - at_ := by rw [ByteArray.size_extract]; omega
  have ho := one_ok q (s.extract at_ s.size) (by omega)
  rw [hx] at ho
  have := ho.1
  unfold lexR
  rw [lexF_eq, if_neg (by omega), if_neg (by rw [h2]; decide), hx]
  exact lexF_fuel s _ _ _ _ _ (by omega) (by omega)
end Go.Proofs.YtecclhmjmceheaaGreatDoor.Lx
