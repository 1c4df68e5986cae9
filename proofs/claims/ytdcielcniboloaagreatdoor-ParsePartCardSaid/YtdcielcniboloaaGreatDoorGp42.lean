/- Mathematics of parse: more fuel turns nothing; flags at the beginning of a pattern. · Mathematics of parse: every node of what is parsed is as its kind has it, and groups are numbered in their order. -/
import Derived.Test.YtdcielcniboloaaGreatDoorGp40
import Derived.Test.YtdcielcniboloaaGreatDoorGp41
import Derived.Test.YtdcielcniboloaaGreatDoorGp4
namespace Go.Proofs.YtdcielcniboloaaGreatDoor.Ps
open Lx (Tk)
set_option linter.unusedVariables false
def NZ : PR → Prop
  | .bad _ c => c ≠ 0
  | .ok _ _ _ _ => True
theorem fuel_all : ∀ n, (∀ L f g S, NZ (altP n L f g S) → altP (n + 1) L f g S = altP n L f g S) ∧ (∀ L f g A, NZ (seqP n L f g A) → seqP (n + 1) L f g A = seqP n L f g A) ∧
    (∀ L f g, NZ (atomP n L f g) → atomP (n + 1) L f g = atomP n L f g) := by
  intro n
  induction n with
  | zero => exact ⟨fun L f g S h => by rw [altP] at h; exact absurd rfl h, fun L f g A h => by rw [seqP] at h; exact absurd rfl h, fun L f g h => by rw [atomP] at h; exact absurd rfl h⟩
  | succ n ih =>
    obtain ⟨ha, hs, ht⟩ := ih
    refine ⟨fun L f g S h => ?_, fun L f g A h => ?_, fun L f g h => ?_⟩
    · rw [altP_eq n L f g S] at h
      rw [altP_eq (n + 1) L f g S, altP_eq n L f g S]
      cases hq : seqP n L f g [] with
      | bad a e =>
        rw [hq] at h
        rw [hs _ _ _ _ (by rw [hq]; exact h), hq]
      | ok x L' f' g' =>
        rw [hq] at h
        rw [hs _ _ _ _ (by rw [hq]; trivial), hq]
        dsimp only at h ⊢
        by_cases c : kd L' = 12
        · rw [if_pos c] at h
          rw [if_pos c, if_pos c]
          exact ha _ _ _ _ h
        · rw [if_neg c, if_neg c]
    · rw [seqP_eq n L f g A] at h
      rw [seqP_eq (n + 1) L f g A, seqP_eq n L f g A]
      by_cases c1 : kd L = 12 ∨ kd L = 11 ∨ kd L = 0
      · rw [if_pos c1, if_pos c1]
      rw [if_neg c1] at h
      rw [if_neg c1, if_neg c1]
      by_cases c2 : kd L = 8
      · rw [if_pos c2, if_pos c2]
      rw [if_neg c2] at h
      rw [if_neg c2, if_neg c2]
      by_cases c3 : kd L = 10
      · rw [if_pos c3] at h
        rw [if_pos c3, if_pos c3]
        exact hs _ _ _ _ h
      rw [if_neg c3] at h
      rw [if_neg c3, if_neg c3]
      cases hq : atomP n L f g with
      | bad a e =>
        rw [hq] at h
        rw [ht _ _ _ (by rw [hq]; exact h), hq]
      | ok x L' f' g' =>
        rw [hq] at h
        rw [ht _ _ _ (by rw [hq]; trivial), hq]
        exact hs _ _ _ _ h
    · rw [atomP_eq n L f g] at h
      rw [atomP_eq (n + 1) L f g, atomP_eq n L f g]
      by_cases c : kd L = 9
      · rw [if_pos c] at h
        rw [if_pos c, if_pos c]
        cases hq : altP n L.tail (turnP f (hd L)) (g + (hd L).num) [] with
        | bad a e =>
          rw [hq] at h
          rw [ha _ _ _ _ (by rw [hq]; exact h), hq]
        | ok x L' f' g' =>
          rw [ha _ _ _ _ (by rw [hq]; trivial), hq]
      · rw [if_neg c, if_neg c]
theorem alt_fuel {n m : Nat} (h : n ≤ m) {L : TL} {f g : Int} {S : List Nd} (hn : NZ (altP n L f g S)) : altP m L f g S = altP n L f g S := by
  induction m with
  | zero => obtain rfl : n = 0 := by omega
            rfl
  | succ m ih =>
    rcases Nat.lt_or_ge m n with c | c
    · obtain rfl : n = m + 1 := by omega
      rfl
    · have e := ih c
      rw [(fuel_all m).1 _ _ _ _ (by rw [e]; exact hn), e]
theorem seq_fuel {n m : Nat} (h : n ≤ m) {L : TL} {f g : Int} {S : List Nd} (hn : NZ (seqP n L f g S)) : seqP m L f g S = seqP n L f g S := by
  induction m with
  | zero => obtain rfl : n = 0 := by omega
            rfl
  | succ m ih =>
    rcases Nat.lt_or_ge m n with c | c
    · obtain rfl : n = m + 1 := by omega
      rfl
    · have e := ih c
      rw [(fuel_all m).2.1 _ _ _ _ (by rw [e]; exact hn), e]
theorem NZ.of_bad {L : TL} {r : PR} (h : BadP L r) : NZ r := by
  cases r with
  | bad a c => obtain ⟨h1, _⟩ := h; show c ≠ 0; omega
  | ok x L' f g => trivial
/-- The letters of flags. -/
def letF (i m s u : Bool) : List UInt8 := (if i then [105] else []) ++ (if m then [109] else []) ++ (if s then [115] else []) ++ (if u then [85] else [])
def headF (i m s u : Bool) : ByteArray := ⟨(40 :: 63 :: (letF i m s u ++ [41])).toArray⟩
def numF (i m s u : Bool) : Int := (if i then 1 else 0) + (if m then 2 else 0) + (if s then 4 else 0) + (if u then 8 else 0)
def tokF (i m s u : Bool) : Tk := { kind := 10, mn := numF i m s u, mx := 0 }
theorem head_open (i m s u : Bool) (h : (i || m || s || u) = true) : Lx.openX (headF i m s u) = .ok (tokF i m s u) (headF i m s u).size := by
  cases i <;> cases m <;> cases s <;> cases u <;> first | (cases h; done) | kernel_rfl
theorem head_last (i m s u : Bool) : (Utf.nums (headF i m s u))[(headF i m s u).size - 1]? = some 41 := by
  cases i <;> cases m <;> cases s <;> cases u <;> kernel_rfl
theorem head_size (i m s u : Bool) : 3 ≤ (headF i m s u).size ∧ (headF i m s u).size ≤ 7 := by
  cases i <;> cases m <;> cases s <;> cases u <;> decide
theorem head_first (i m s u : Bool) : (Utf.nums (headF i m s u))[0]?.getD 0 = 40 := by
  cases i <;> cases m <;> cases s <;> cases u <;> kernel_rfl
theorem head_turn (i m s u : Bool) {b : Int} (h : b = 1 ∨ b = 2 ∨ b = 4 ∨ b = 8) : hasP (turnP 0 (tokF i m s u)) b = hasP (numF i m s u) b := by
  rw [has_turn 0 _ h]
  have h0 : hasP 0 b = false := by rcases h with rfl | rfl | rfl | rfl <;> rfl
  show ((hasP 0 b || hasP (numF i m s u) b) && !hasP 0 b) = _
  rw [h0]; simp
theorem num_has (i m s u : Bool) : hasP (numF i m s u) 1 = i ∧ hasP (numF i m s u) 2 = m ∧ hasP (numF i m s u) 4 = s ∧ hasP (numF i m s u) 8 = u := by
  cases i <;> cases m <;> cases s <;> cases u <;> exact ⟨by kernel_rfl, by kernel_rfl, by kernel_rfl, by kernel_rfl⟩
theorem head_lex (i m s u : Bool) (h : (i || m || s || u) = true) (x : ByteArray) : Lx.lexR (headF i m s u ++ x) 0 false [] = Lx.behind (headF i m s u).size [(0, tokF i m s u)] (Lx.lexR x 0 false []) := by
  obtain ⟨H, hH⟩ : ∃ H, headF i m s u = H := ⟨_, rfl⟩
  obtain ⟨t, ht⟩ : ∃ t, tokF i m s u = t := ⟨_, rfl⟩
  have ho := head_open i m s u h
  have hl := head_last i m s u
  have hz := head_size i m s u
  have hf := head_first i m s u
  rw [hH] at ho hl hz hf ⊢
  rw [ht] at ho ⊢
  have hzu : (H ++ x).size = H.size + x.size := ByteArray.size_append ..
  have hag : Br.Ag H.size (Utf.nums H) (Utf.nums (H ++ x)) := by
    rw [Br.nums_append']
    have := Utf.nums_length H
    refine ⟨by omega, by rw [List.length_append]; omega, fun j hj => ?_⟩
    rw [List.getElem?_append_left (by omega)]
  have e0 : (Utf.nums (H ++ x))[0]?.getD 0 = 40 := by rw [hag.getD (k := 0) (by omega)]; exact hf
  have hx0 : (H ++ x).extract 0 (H ++ x).size = H ++ x := by apply Br.nums_inj'; rw [Br.nums_tail, List.drop_zero]
  have htok : Lx.oneX false ((H ++ x).extract 0 (H ++ x).size) = .ok t H.size := by
    rw [hx0]
    show Lx.tokX (H ++ x) = _
    unfold Lx.tokX
    dsimp only
    rw [e0]
    rw [if_neg (by decide), if_neg (by decide), if_neg (by decide), if_neg (by decide), if_neg (by decide), if_neg (by decide), if_neg (by decide), if_pos rfl]
    rw [Lx.openX_local hag rfl (by omega) hl]
    exact ho
  have htn : Lx.turnB false ((Utf.nums (H ++ x)).drop 0) = false := by
    unfold Lx.turnB
    rw [List.drop_zero, e0]; rfl
  rw [Lx.lexR_tok (by omega) htn htok]
  have := Lx.lexR_shift H x x.size 0 false [(0, t)] [] (by omega)
  simpa [shift] using this
theorem lsb_div (f : Int) (i : Nat) (hi : i < 4) : (BitVec.ofInt 64 (f / 2 ^ i)).getLsbD 0 = (BitVec.ofInt 64 f).getLsbD i := by
  rw [BitVec.getLsbD, BitVec.getLsbD, BitVec.toNat_ofInt, BitVec.toNat_ofInt, Nat.testBit_eq_decide_div_mod_eq, Nat.testBit_eq_decide_div_mod_eq]
  congr 1
  rcases (show i = 0 ∨ i = 1 ∨ i = 2 ∨ i = 3 by omega) with rfl | rfl | rfl | rfl <;> simp <;> omega
theorem and_one (g : Int) : (bits .and .i64 g 1 == 1) = (BitVec.ofInt 64 g).getLsbD 0 := by
  have h1 := has_bit g 0 (by decide) 1 (by decide)
  rw [← h1]
  unfold hasP
  have h2 : bits .and .i64 g 1 = 0 ∨ bits .and .i64 g 1 = 1 := by
    show IntKind.i64.wrap ((BitVec.ofInt 64 g &&& BitVec.ofInt 64 1).toNat : Int) = 0 ∨ IntKind.i64.wrap ((BitVec.ofInt 64 g &&& BitVec.ofInt 64 1).toNat : Int) = 1
    rw [show BitVec.ofInt 64 1 = BitVec.twoPow 64 0 by decide, BitVec.and_twoPow]
    split
    · exact .inr (by decide)
    · exact .inl (by decide)
  rcases h2 with e | e <;> rw [e] <;> rfl
theorem flag_bit (f : Int) (i : Nat) (hi : i < 4) (b : Int) (hb : BitVec.ofInt 64 b = BitVec.twoPow 64 i) : (bits .and .i64 (f / 2 ^ i) 1 == 1) = hasP f b := by
  rw [and_one, lsb_div f i hi, has_bit f i hi b hb]
end Go.Proofs.YtdcielcniboloaaGreatDoor.Ps
namespace Go.Proofs.YtdcielcniboloaaGreatDoor.Ps
open Lx (Tk TR LR)
open Go.Proofs.YtdcielcniboloaaGreatDoor.Rg
set_option linter.unusedVariables false
/-- What is so of a token. -/
def Snd (t : Tk) : Prop := (t.kind = 1 → 0 ≤ t.num ∧ t.num ≤ 1114111) ∧ (t.kind = 5 → 1 ≤ t.num ∧ t.num ≤ 6) ∧ (t.kind = 8 → 0 ≤ t.mn ∧ t.mn ≤ 1000 ∧ (t.mx = -1 ∨ t.mn ≤ t.mx ∧ t.mx ≤ 1000)) ∧
  (t.kind = 9 → (t.num = 0 ∨ t.num = 1) ∧ (t.name = ⟨#[]⟩ ∨ Td.nameB t.name = true))
def TSnd : TR → Prop
  | .bad _ _ => True
  | .ok t _ => Snd t
theorem snd_rune {r : Int} (h : 0 ≤ r ∧ r ≤ 1114111) : Snd (Lx.runeT r) := ⟨fun _ => h, fun e => absurd e (by show ¬ (1 : Int) = 5; decide), fun e => absurd e (by show ¬ (1 : Int) = 8; decide), fun e => absurd e (by show ¬ (1 : Int) = 9; decide)⟩
theorem snd_other {t : Tk} (h1 : t.kind ≠ 1) (h5 : t.kind ≠ 5) (h8 : t.kind ≠ 8) (h9 : t.kind ≠ 9) : Snd t := ⟨fun e => absurd e h1, fun e => absurd e h5, fun e => absurd e h8, fun e => absurd e h9⟩
theorem char_snd (l : List Int) (hb : Utf.Bytes l) : TSnd (Lx.charX l) := by
  unfold Lx.charX
  split
  · trivial
  · have := Utf.dec_neg l hb
    exact snd_rune ⟨by omega, by omega⟩
theorem esc_snd (s : ByteArray) : TSnd (Lx.escX s) := by
  unfold Lx.escX
  cases h : Lx.shortX ((Utf.nums s)[1]?.getD 0) with
  | some t =>
    unfold Lx.shortX at h
    repeat' split at h
    all_goals first | (cases h; done) | (injection h with h; subst h; exact ⟨fun e => absurd e (by decide), fun _ => ⟨by decide, by decide⟩, fun e => absurd e (by decide), fun e => absurd e (by decide)⟩) | (injection h with h; subst h; exact snd_other (by decide) (by decide) (by decide) (by decide))
  | none =>
    show TSnd (Lx.setX s)
    unfold Lx.setX
    split
    · exact snd_other (by show (2 : Int) ≠ 1; decide) (by show (2 : Int) ≠ 5; decide) (by show (2 : Int) ≠ 8; decide) (by show (2 : Int) ≠ 9; decide)
    split
    · unfold Lx.numX
      split
      · have := Br.num_cases (Utf.nums s)
        exact snd_rune ⟨by omega, by omega⟩
      · trivial
    · trivial
theorem brack_snd (s : ByteArray) : TSnd (Lx.brackX s) := by
  unfold Lx.brackX
  cases h : Br.brack s with
  | bad o c => trivial
  | ok Ys e => exact snd_other (by show (13 : Int) ≠ 1; decide) (by show (13 : Int) ≠ 5; decide) (by show (13 : Int) ≠ 8; decide) (by show (13 : Int) ≠ 9; decide)
theorem rep_snd (l : List Int) (h : 1 ≤ l.length) : TSnd (Lx.repX l) := by
  have hb := bounds_bd l h
  unfold Lx.repX Lx.repOf
  split
  · trivial
  · rename_i c
    have f : ∀ b : Bool, Snd { kind := 8, mn := (Lx.boundsX l).1, mx := (Lx.boundsX l).2.1, lazy := b } := fun b => ⟨fun e => absurd e (by show ¬ (8 : Int) = 1; decide), fun e => absurd e (by show ¬ (8 : Int) = 5; decide),
      fun _ => ⟨by show 0 ≤ (Lx.boundsX l).1; omega, by show (Lx.boundsX l).1 ≤ 1000; omega, by show (Lx.boundsX l).2.1 = -1 ∨ (Lx.boundsX l).1 ≤ (Lx.boundsX l).2.1 ∧ (Lx.boundsX l).2.1 ≤ 1000; omega⟩, fun e => absurd e (by show ¬ (8 : Int) = 9; decide)⟩
    split
    · exact f true
    · exact f false
theorem snd_open {num mn mx : Int} {nm : ByteArray} (h1 : num = 0 ∨ num = 1) (h2 : nm = ⟨#[]⟩ ∨ Td.nameB nm = true) : Snd { kind := 9, num := num, name := nm, mn := mn, mx := mx } :=
  ⟨fun e => absurd e (by show ¬ (9 : Int) = 1; decide), fun e => absurd e (by show ¬ (9 : Int) = 5; decide), fun e => absurd e (by show ¬ (9 : Int) = 8; decide), fun _ => ⟨h1, h2⟩⟩
theorem flag_snd (l : List Int) : TSnd (Lx.flagX l) := by
  unfold Lx.flagX
  split
  · trivial
  split
  · exact snd_open (.inl rfl) (.inl rfl)
  cases h : Lx.flagsX ((l.drop 2).take (Lx.upToC l - 2)) with
  | none => trivial
  | some p =>
    obtain ⟨a, c⟩ := p
    dsimp only
    split
    · exact snd_open (.inl rfl) (.inl rfl)
    · exact snd_other (by show (10 : Int) ≠ 1; decide) (by show (10 : Int) ≠ 5; decide) (by show (10 : Int) ≠ 8; decide) (by show (10 : Int) ≠ 9; decide)
theorem open_snd (s : ByteArray) : TSnd (Lx.openX s) := by
  unfold Lx.openX
  split
  · exact snd_open (.inr rfl) (.inl rfl)
  · cases h : Lx.nameX s with
    | some p =>
      obtain ⟨nm, n⟩ := p
      refine snd_open (.inr rfl) (.inr ?_)
      unfold Lx.nameX at h
      dsimp only at h
      split at h
      · cases h
      split at h
      · cases h
      split at h
      · rename_i hn
        injection h with h; injection h with h1 h2
        rw [← h1]; exact hn
      · cases h
    | none => exact flag_snd _
theorem plain_snd {K : Int} (h1 : K ≠ 1) (h5 : K ≠ 5) (h8 : K ≠ 8) (h9 : K ≠ 9) : Snd { kind := K } := snd_other h1 h5 h8 h9
theorem tok_snd (s : ByteArray) (h0 : 0 < s.size) : TSnd (Lx.tokX s) := by
  have hl := Utf.nums_length s
  have hc := char_snd (Utf.nums s) (Utf.nums_bytes s)
  have hr := rep_snd (Utf.nums s) (by omega)
  unfold Lx.tokX
  dsimp only
  split; · exact plain_snd (by decide) (by decide) (by decide) (by decide)
  split; · exact plain_snd (by decide) (by decide) (by decide) (by decide)
  split; · exact plain_snd (by decide) (by decide) (by decide) (by decide)
  split; · exact plain_snd (by decide) (by decide) (by decide) (by decide)
  split; · exact plain_snd (by decide) (by decide) (by decide) (by decide)
  split; · exact esc_snd s
  split; · exact brack_snd s
  split; · exact open_snd s
  split
  · split
    · exact hc
    · exact hr
  split
  · exact hr
  · exact hc
theorem one_snd (q : Bool) (s : ByteArray) (h0 : 0 < s.size) : TSnd (Lx.oneX q s) := by
  unfold Lx.oneX
  split
  · exact char_snd _ (Utf.nums_bytes s)
  · exact tok_snd s h0
theorem lexF_snd (s : ByteArray) : ∀ (f k : Nat) (q : Bool) (T T' : TL), Lx.lexF s f k q T = .ok T' → (∀ p ∈ T, Snd p.2) → ∀ p ∈ T', Snd p.2
  | 0, _, _, _, _, h, _ => by cases h
  | f + 1, k, q, T, T', h, hp => by
    rw [Lx.lexF_eq] at h
    by_cases h1 : s.size ≤ k
    · rw [if_pos h1] at h
      injection h with h
      subst h
      exact hp
    · rw [if_neg h1] at h
      by_cases h2 : Lx.turnB q ((Utf.nums s).drop k) = true
      · rw [if_pos h2] at h
        exact lexF_snd s f (k + 2) _ T T' h hp
      · rw [if_neg h2] at h
        have hz : (s.extract k s.size).size = s.size - k := by rw [ByteArray.size_extract]; omega
        have ho := one_snd q (s.extract k s.size) (by omega)
        cases hx : Lx.oneX q (s.extract k s.size) with
        | bad n c => rw [hx] at h; cases h
        | ok t n =>
          rw [hx] at h ho
          have ho2 : Snd t := ho
          refine lexF_snd s f (k + n) q _ T' h (fun p hx => ?_)
          rcases List.mem_append.1 hx with hx | hx
          · exact hp p hx
          · simp at hx; subst hx; exact ho2
theorem lex_snd {s : ByteArray} {T : TL} (h : Lx.lexR s 0 false [] = .ok T) : ∀ p ∈ T, Snd p.2 := lexF_snd s _ _ _ _ _ h (fun p hp => by cases hp)
/-- Is every node, down to any depth, as its kind has it? -/
def FitAll (x : Nd) : Prop := ∀ k d, ∀ p ∈ Td.all k d x, Td.fitsB p.2 = true
theorem FitAll.node {x : Nd} (h : Td.fitsB x = true) (hs : ∀ y ∈ Td.subs x, FitAll y) : FitAll x := by
  intro k d p hp
  cases k with
  | zero => cases hp
  | succ k =>
    rw [Td.all] at hp
    rcases List.mem_cons.1 hp with rfl | hp
    · exact h
    · obtain ⟨y, hy, hp⟩ := List.mem_flatMap.1 hp
      exact hs y hy _ _ p hp
theorem emp_list : (⟨#[]⟩ : ByteArray).toList.isEmpty = true := by
  have h : (⟨#[]⟩ : ByteArray).toList = [] := by
    unfold ByteArray.toList
    rw [ByteArray.toList.loop]
    rfl
  rw [h]; rfl
/-- A node without a name. -/
theorem fits_noname {n : Nd} (h : Td.name n = ⟨#[]⟩) : Td.fitsB n = Td.fitsV (Td.kind n) (Td.num n) (Td.mn n) (Td.mx n) (Td.subs n).length (((Td.set n).length : Int) == 0) (Td.num n == 0) true (Td.mn n == 0 && Td.mx n == 0) (!Td.lazy n) (checkF none (Td.set n) == 0) (Td.nameB (Td.name n)) := by
  unfold Td.fitsB
  rw [h, emp_list]
theorem FitAll.leaf {x : Nd} (h : Td.fitsB x = true) (hs : Td.subs x = []) : FitAll x := FitAll.node h (fun y hy => by rw [hs] at hy; cases hy)
theorem fit_set {l : List R} (h : NormL l) : FitAll (setN l) := by
  refine FitAll.leaf ?_ (setN_subs l)
  rw [fits_noname (by cases l <;> rfl)]
  cases l with
  | nil => rfl
  | cons a l =>
    have hc := (check_norm (a :: l)).2 h
    show Td.fitsV 3 0 0 0 0 (((a :: l).length : Int) == 0) _ _ _ _ (checkF none (a :: l) == 0) _ = true
    rw [hc, show ((((a :: l).length : Nat) : Int) == 0) = false by simp; omega]
    rfl
theorem norm_nil : NormL [] := (check_norm []).1 rfl
theorem norm_close (l : List R) : NormL (closeL l) := by
  unfold closeL
  split
  · rename_i h; exact (Classical.choose_spec h).1
  · exact norm_nil
theorem norm_cls (c : Br.Cls) : NormL (clsL c) := by
  unfold clsL
  split
  · rename_i h
    have hs := Classical.choose_spec h
    cases c with
    | none => rw [show Classical.choose h = [] from hs]; exact norm_nil
    | some p => exact hs.1
  · exact norm_nil
theorem norm_brk (s : ByteArray) (fo : Bool) : NormL (brkL s fo) := by
  unfold brkL
  split
  · rename_i h
    obtain ⟨Xs, a, _, L, M, _, _, hn, _⟩ := Classical.choose_spec h
    exact hn
  · exact norm_nil
theorem norm_fold (f : Int) {l : List R} (h : NormL l) : NormL (foldL f l) := by
  unfold foldL
  split
  · exact norm_close l
  · exact h
theorem norm_one {r : Int} (h : 0 ≤ r ∧ r ≤ 1114111) : NormL [(r, r)] := (check_norm [(r, r)]).1 (by
  show checkF none [(r, r)] = 0
  unfold checkF
  simp [checkF, check1]
  omega)
theorem fit_leaf (f : Int) {t : Tk} (h : Snd t) : FitAll (leafOf f t) := by
  unfold leafOf
  split
  · rename_i k1
    exact fit_set (norm_fold f (norm_one (h.1 k1)))
  split
  · exact fit_set (norm_fold f (norm_cls _))
  split
  · refine fit_set ?_
    split
    · exact (check_norm _).1 (by kernel_rfl)
    · exact (check_norm _).1 (by kernel_rfl)
  split
  · exact FitAll.leaf (by rw [fits_noname rfl]; rfl) rfl
  split
  · rename_i k5
    have h5 := h.2.1 k5
    refine FitAll.leaf ?_ rfl
    rw [fits_noname rfl]
    show (true && (decide (1 ≤ t.num) && (decide (t.num ≤ 6) && (true && (true && (true && ((0 : Int) == 0))))))) = true
    rw [decide_eq_true h5.1, decide_eq_true h5.2]
    rfl
  split
  · refine FitAll.leaf ?_ rfl
    rw [fits_noname rfl]
    split <;> rfl
  split
  · refine FitAll.leaf ?_ rfl
    rw [fits_noname rfl]
    split <;> rfl
  · exact fit_set (norm_brk _ _)
theorem fit_join {K : Int} (hK : K = 7 ∨ K = 8) {A : List Nd} (h : ∀ y ∈ A, FitAll y) : FitAll (joinN K A) := by
  match A, h with
  | [], _ => exact FitAll.leaf (x := leafN 1 0) (by rw [fits_noname rfl]; rfl) rfl
  | [x], h => exact h x (by simp)
  | x :: y :: l, h =>
    refine FitAll.node ?_ h
    rw [fits_noname rfl]
    show Td.fitsV K 0 0 0 (((x :: y :: l).length : Nat) : Int) _ _ _ _ _ _ _ = true
    have e : decide (2 ≤ ((((x :: y :: l).length : Nat) : Int))) = true := decide_eq_true (by simp; omega)
    unfold Td.fitsV
    rw [if_neg (by omega), if_neg (by omega), if_neg (by omega), if_neg (by omega), if_pos hK, e]
    rfl
theorem fit_rep (f : Int) {x : Nd} {L : TL} (h : FitAll x) (hL : kd L = 8 → Snd (hd L)) : FitAll (repN f x L) := by
  unfold repN
  split
  · rename_i k8
    have h8 := (hL k8).2.2.1 (by cases L with
      | nil => exact absurd k8 (by show ¬ (0 : Int) = 8; decide)
      | cons p L => exact k8)
    refine FitAll.node ?_ (fun y hy => by
      have e : y = x := by simpa [Td.subs] using hy
      rw [e]; exact h)
    rw [fits_noname rfl]
    show (true && (true && (true && (decide (0 ≤ (hd L).mn) && (decide ((hd L).mn ≤ 1000) && (((hd L).mx == -1 || (decide ((hd L).mn ≤ (hd L).mx) && decide ((hd L).mx ≤ 1000))) && ((1 : Int) == 1))))))) = true
    rw [decide_eq_true h8.1, decide_eq_true h8.2.1]
    rcases h8.2.2 with e | ⟨e1, e2⟩
    · rw [e]; rfl
    · rw [decide_eq_true e1, decide_eq_true e2]; simp
  · exact h
theorem fit_group {g : Int} (hg : 0 ≤ g) {nm : ByteArray} (hn : nm = ⟨#[]⟩ ∨ Td.nameB nm = true) {x : Nd} (h : FitAll x) : FitAll (.mk 6 [] (g + 1) nm 0 0 false [x]) := by
  refine FitAll.node ?_ (fun y hy => by
    have e : y = x := by simpa [Td.subs] using hy
    rw [e]; exact h)
  show (true && (decide (1 ≤ g + 1) && ((nm.toList.isEmpty || Td.nameB nm) && (true && (true && ((1 : Int) == 1)))))) = true
  rw [decide_eq_true (show 1 ≤ g + 1 by omega)]
  rcases hn with rfl | hn
  · rw [emp_list]; rfl
  · rw [hn]; simp
/-- The numbers of groups. -/
def gN : Nat → Nd → List Int
  | 0, _ => []
  | k + 1, n => (if Td.kind n = 6 then [Td.num n] else []) ++ (Td.subs n).flatMap (gN k)
/-- Numbers that go on one by one. -/
def Up : Int → List Int → Int → Prop
  | g, [], g' => g' = g
  | g, x :: l, g' => x = g + 1 ∧ Up (g + 1) l g'
theorem Up.app : ∀ {g h k : Int} {a b : List Int}, Up g a h → Up h b k → Up g (a ++ b) k
  | g, h, k, [], b, h1, h2 => by
    obtain rfl : h = g := h1
    exact h2
  | g, h, k, x :: a, b, h1, h2 => ⟨h1.1, Up.app h1.2 h2⟩
/-- Trees as they are made: groups numbered from g on. -/
def WdL (A : List Nd) (g g' : Int) : Prop := (∀ y ∈ A, FitAll y) ∧ ∃ k0, ∀ k, k0 ≤ k → Up g (A.flatMap (gN k)) g'
def Wd (x : Nd) (g g' : Int) : Prop := FitAll x ∧ ∃ k0, ∀ k, k0 ≤ k → Up g (gN k x) g'
theorem WdL.nil (g : Int) : WdL [] g g := ⟨fun y hy => (by cases hy), 0, fun k _ => rfl⟩
theorem WdL.snoc {A : List Nd} {x : Nd} {g h k : Int} (h1 : WdL A g h) (h2 : Wd x h k) : WdL (A ++ [x]) g k := by
  obtain ⟨f1, i, hi⟩ := h1
  obtain ⟨f2, j, hj⟩ := h2
  refine ⟨fun y hy => ?_, max i j, fun n hn => ?_⟩
  · rcases List.mem_append.1 hy with hy | hy
    · exact f1 y hy
    · have e : y = x := by simpa using hy
      rw [e]; exact f2
  · rw [List.flatMap_append]
    have := Up.app (hi n (by omega)) (hj n (by omega))
    simpa using this
theorem wd_other {x : Nd} {g g' : Int} (hf : FitAll x) (h6 : Td.kind x ≠ 6) (h : ∃ k0, ∀ k, k0 ≤ k → Up g ((Td.subs x).flatMap (gN k)) g') : Wd x g g' := by
  obtain ⟨i, hi⟩ := h
  refine ⟨hf, i + 1, fun k hk => ?_⟩
  obtain ⟨j, rfl⟩ : ∃ j, k = j + 1 := ⟨k - 1, by omega⟩
  rw [gN, if_neg h6]
  exact hi j (by omega)
theorem wd_leaf (f : Int) {t : Tk} (h : Snd t) (g : Int) : Wd (leafOf f t) g g := wd_other (fit_leaf f h) (leafOf_kind f t) ⟨0, fun k _ => by rw [leafOf_subs]; rfl⟩
theorem wd_join {K : Int} (hK : K = 7 ∨ K = 8) {A : List Nd} {g g' : Int} (h : WdL A g g') : Wd (joinN K A) g g' := by
  have hf := fit_join hK h.1
  match A, h, hf with
  | [], h, hf =>
    obtain ⟨_, i, hi⟩ := h
    exact wd_other hf (show (1 : Int) ≠ 6 by decide) ⟨i, hi⟩
  | [x], h, hf =>
    obtain ⟨_, i, hi⟩ := h
    exact ⟨hf, i, fun k hk => by
      have h9 := hi k hk
      rw [List.flatMap_cons, List.flatMap_nil, List.append_nil] at h9
      exact h9⟩
  | x :: y :: l, h, hf => exact wd_other hf (show K ≠ 6 by omega) h.2
theorem wd_rep (f : Int) {x : Nd} {L : TL} {g g' : Int} (h : Wd x g g') (hL : kd L = 8 → Snd (hd L)) : Wd (repN f x L) g g' := by
  have hf := fit_rep f h.1 hL
  unfold repN at hf ⊢
  by_cases k8 : kd L = 8
  · rw [if_pos k8] at hf ⊢
    obtain ⟨_, i, hi⟩ := h
    exact wd_other hf (show (9 : Int) ≠ 6 by decide) ⟨i, fun k hk => by show Up g ([x].flatMap (gN k)) g'; simpa using hi k hk⟩
  · rw [if_neg k8]; exact h
theorem wd_group {x : Nd} {g g' : Int} (hg : 0 ≤ g) {nm : ByteArray} (hn : nm = ⟨#[]⟩ ∨ Td.nameB nm = true) (h : Wd x (g + 1) g') : Wd (.mk 6 [] (g + 1) nm 0 0 false [x]) g g' := by
  obtain ⟨hf, i, hi⟩ := h
  refine ⟨fit_group hg hn hf, i + 1, fun k hk => ?_⟩
  obtain ⟨j, rfl⟩ : ∃ j, k = j + 1 := ⟨k - 1, by omega⟩
  rw [gN, if_pos (show Td.kind (.mk 6 [] (g + 1) nm 0 0 false [x]) = 6 from rfl)]
  refine ⟨rfl, ?_⟩
  show Up (g + 1) ([] ++ [x].flatMap (gN j)) g'
  simpa using hi j (by omega)
theorem hd_mem {L : TL} (h : kd L ≠ 0) : ∃ p ∈ L, p.2 = hd L := by
  cases L with
  | nil => exact absurd rfl h
  | cons p L => exact ⟨p, by simp, rfl⟩
theorem snd_hd {L : TL} (hS : ∀ p ∈ L, Snd p.2) (h : kd L ≠ 0) : Snd (hd L) := by
  obtain ⟨p, hp, e⟩ := hd_mem h
  rw [← e]; exact hS p hp
theorem hd_kind {L : TL} : (hd L).kind = kd L := by cases L <;> rfl
theorem mem_tail {L : TL} {p : Int × Tk} (h : p ∈ L.tail) : p ∈ L := List.mem_of_mem_tail h
theorem wd_all : ∀ n, (∀ L f g S g0, (∀ p ∈ L, Snd p.2) → 0 ≤ g0 → g0 ≤ g → WdL S g0 g → ∀ x L' f' g', altP n L f g S = .ok x L' f' g' → Wd x g0 g' ∧ g ≤ g') ∧
    (∀ L f g A g0, (∀ p ∈ L, Snd p.2) → 0 ≤ g0 → g0 ≤ g → WdL A g0 g → ∀ x L' f' g', seqP n L f g A = .ok x L' f' g' → Wd x g0 g' ∧ g ≤ g') ∧
    (∀ L f g, (∀ p ∈ L, Snd p.2) → 0 ≤ g → kd L ≠ 0 → ∀ x L' f' g', atomP n L f g = .ok x L' f' g' → Wd x g g' ∧ g ≤ g') := by
  intro n
  induction n with
  | zero =>
    refine ⟨fun L f g S g0 _ _ _ _ x L' f' g' h => ?_, fun L f g S g0 _ _ _ _ x L' f' g' h => ?_, fun L f g _ _ _ x L' f' g' h => ?_⟩
    · rw [altP] at h; cases h
    · rw [seqP] at h; cases h
    · rw [atomP] at h; cases h
  | succ n ih =>
    obtain ⟨ha, hs, ht⟩ := ih
    obtain ⟨sa, ss, st⟩ := sf_all n
    refine ⟨fun L f g S g0 hO h0 hg hS x L' f' g' h => ?_, fun L f g A g0 hO h0 hg hA x L' f' g' h => ?_, fun L f g hO hg h0 x L' f' g' h => ?_⟩
    · rw [altP_eq] at h
      have hsf := ss L f g []
      cases hq : seqP n L f g [] with
      | bad a e => rw [hq] at h; cases h
      | ok y M f1 g1 =>
        rw [hq] at h hsf
        have h1 := hs L f g [] g hO (by omega) (by omega) (WdL.nil g) _ _ _ _ hq
        dsimp only at h
        have hS2 := WdL.snoc hS h1.1
        by_cases c : kd M = 12
        · rw [if_pos c] at h
          have h2 := ha M.tail f1 g1 (S ++ [y]) g0 (fun p hp => hO p (Sf.mem hsf p (mem_tail hp))) h0 (by omega) hS2 _ _ _ _ h
          exact ⟨h2.1, by omega⟩
        · rw [if_neg c] at h
          injection h with e1 e2 e3 e4
          subst e1 e4
          exact ⟨wd_join (.inr rfl) hS2, h1.2⟩
    · rw [seqP_eq] at h
      by_cases c1 : kd L = 12 ∨ kd L = 11 ∨ kd L = 0
      · rw [if_pos c1] at h
        injection h with e1 e2 e3 e4
        subst e1 e4
        exact ⟨wd_join (.inl rfl) hA, by omega⟩
      rw [if_neg c1] at h
      by_cases c2 : kd L = 8
      · rw [if_pos c2] at h; cases h
      rw [if_neg c2] at h
      by_cases c3 : kd L = 10
      · rw [if_pos c3] at h
        exact hs L.tail _ g A g0 (fun p hp => hO p (mem_tail hp)) h0 hg hA _ _ _ _ h
      rw [if_neg c3] at h
      have hsf := (st L f g).1
      cases hq : atomP n L f g with
      | bad a e => rw [hq] at h; cases h
      | ok y M f1 g1 =>
        rw [hq] at h hsf
        dsimp only at h
        have h1 := ht L f g hO (by omega) (by omega) _ _ _ _ hq
        have hM : ∀ p ∈ M, Snd p.2 := fun p hp => hO p (Sf.mem hsf p hp)
        have hS2 := WdL.snoc hA (wd_rep f1 h1.1 (fun k8 => snd_hd hM (by omega)))
        have h2 := hs (repT M) f1 g1 _ g0 (fun p hp => hM p (Sf.mem (Sf.rep (Sf.refl M)) p hp)) h0 (by omega) hS2 _ _ _ _ h
        exact ⟨h2.1, by omega⟩
    · rw [atomP_eq] at h
      have hH := snd_hd hO h0
      by_cases c : kd L = 9
      · rw [if_pos c] at h
        have h9 := hH.2.2.2 (by rw [hd_kind]; exact c)
        cases hq : altP n L.tail (turnP f (hd L)) (g + (hd L).num) [] with
        | bad a e => rw [hq] at h; cases h
        | ok y M f1 g1 =>
          rw [hq] at h
          dsimp only at h
          have h1 := ha L.tail _ (g + (hd L).num) [] (g + (hd L).num) (fun p hp => hO p (mem_tail hp)) (by omega) (by omega) (WdL.nil _) _ _ _ _ hq
          by_cases c11 : kd M = 11
          · rw [if_pos c11] at h
            injection h with e1 e2 e3 e4
            subst e1 e4
            by_cases n0 : (hd L).num = 0
            · rw [if_pos n0]
              rw [n0, Int.add_zero] at h1
              exact h1
            · rw [if_neg n0]
              have n1 : (hd L).num = 1 := by omega
              rw [n1] at h1 ⊢
              exact ⟨wd_group hg h9.2 h1.1, by omega⟩
          · rw [if_neg c11] at h; cases h
      · rw [if_neg c] at h
        injection h with e1 e2 e3 e4
        subst e1 e4
        exact ⟨wd_leaf f hH g, Int.le_refl _⟩
/-- All nodes, told apart from how deep they are looked for. -/
theorem all_stable : ∀ (k : Nat) (n : Nd), Td.dep (k + 1) n ≤ k → ∀ j d, Td.all (k + j) d n = Td.all k d n
  | 0, n, h, j, d => by rw [Td.dep] at h; omega
  | k + 1, n, h, j, d => by
    have hc : ∀ c ∈ Td.subs n, Td.dep (k + 1) c ≤ k := by
      intro c hc
      rw [Td.dep] at h
      have hm : ∀ (l : List Nat) (a x : Nat), (x ∈ l ∨ x ≤ a) → x ≤ l.foldl max a := by
        intro l
        induction l with
        | nil => intro a x h; rcases h with h | h; cases h; exact h
        | cons y l ih =>
          intro a x h
          refine ih (max a y) x ?_
          rcases h with h | h
          · rcases List.mem_cons.1 h with rfl | h
            · exact .inr (by omega)
            · exact .inl h
          · exact .inr (by omega)
      have := hm ((Td.subs n).map (Td.dep (k + 1))) 0 (Td.dep (k + 1) c) (.inl (List.mem_map_of_mem hc))
      omega
    rw [show k + 1 + j = (k + j) + 1 by omega, Td.all, Td.all]
    congr 1
    have e : ∀ l : List Nd, (∀ c ∈ l, Td.dep (k + 1) c ≤ k) → l.flatMap (Td.all (k + j) (d + 1)) = l.flatMap (Td.all k (d + 1)) := by
      intro l
      induction l with
      | nil => intro _; rfl
      | cons m l ih =>
        intro h
        rw [List.flatMap_cons, List.flatMap_cons, all_stable k m (h m (by simp)) j, ih (fun c hc => h c (by simp [hc]))]
    exact e _ hc
def grpN (L : List (Nat × Nd)) : List Int := (L.filter fun p => Td.kind p.2 == 6).map fun p => Td.num p.2
theorem grpN_gN : ∀ (k d : Nat) (n : Nd), grpN (Td.all k d n) = gN k n
  | 0, d, n => rfl
  | k + 1, d, n => by
    rw [Td.all, gN]
    have e : ∀ l : List Nd, grpN (l.flatMap (Td.all k (d + 1))) = l.flatMap (gN k) := by
      intro l
      induction l with
      | nil => rfl
      | cons m l ih =>
        rw [List.flatMap_cons, List.flatMap_cons, ← grpN_gN k (d + 1) m, ← ih]
        unfold grpN
        rw [List.filter_append, List.map_append]
    rw [← e]
    unfold grpN
    by_cases h : Td.kind n = 6
    · rw [if_pos h, List.filter_cons, if_pos (by simpa using h)]; rfl
    · rw [if_neg h, List.filter_cons, if_neg (by simpa using h)]; rfl
theorem chk_up : ∀ (L : List (Nat × Nd)) (T : List ByteArray) (g' : Int), (∀ p ∈ L, Td.fitsB p.2 = true) → Up T.length (grpN L) g' → Td.chkF T L = 0 ∨ Td.chkF T L = 2 ∨ Td.chkF T L = 6
  | [], T, g', _, _ => .inl rfl
  | p :: L, T, g', hf, hu => by
    rw [Td.chkF, if_neg (by rw [hf p (by simp)]; decide)]
    by_cases h6 : Td.kind p.2 = 6
    · rw [if_neg (by omega)]
      have e : grpN (p :: L) = Td.num p.2 :: grpN L := by
        unfold grpN
        rw [List.filter_cons, if_pos (by simpa using h6)]; rfl
      rw [e] at hu
      obtain ⟨h1, h2⟩ := hu
      rw [if_neg (by omega)]
      split
      · exact .inr (.inl rfl)
      split
      · exact .inr (.inr rfl)
      · refine chk_up L _ g' (fun q hq => hf q (by simp [hq])) ?_
        rw [List.length_append]
        exact h2
    · rw [if_pos h6]
      have e : grpN (p :: L) = grpN L := by
        unfold grpN
        rw [List.filter_cons, if_neg (by simpa using h6)]
      rw [e] at hu
      exact chk_up L T g' (fun q hq => hf q (by simp [hq])) hu
/-- What Check says of what is parsed. -/
theorem wd_check {x : Nd} {g' : Int} (h : Wd x 0 g') : Td.checkN x = 0 ∨ Td.checkN x = 61 ∨ Td.checkN x = 2 ∨ Td.checkN x = 6 := by
  unfold Td.checkN
  split
  · exact .inr (.inl rfl)
  · rename_i hd
    obtain ⟨hf, i, hi⟩ := h
    have h2 := hi (1000 + i) (by omega)
    rw [← grpN_gN _ 1, all_stable 1000 x (by show Td.dep 1001 x ≤ 1000; omega)] at h2
    rcases chk_up (Td.all 1000 1 x) [] g' (hf 1000 1) h2 with e | e | e
    · exact .inl e
    · exact .inr (.inr (.inl e))
    · exact .inr (.inr (.inr e))
end Go.Proofs.YtdcielcniboloaaGreatDoor.Ps
