/- Mathematics of ParseFlags. · A tree is the same as itself. · Mathematics of lex: a text's tokens are the same with a closing bracket behind. -/
import Derived.Test.YtdcielcniboloaaGreatDoorGp42
import Derived.Test.YtdcielcniboloaaGreatDoorGp26
import Derived.Test.YtdcielcniboloaaGreatDoorGp41
namespace Go.Proofs.YtdcielcniboloaaGreatDoor
open Lx (Tk TR LR)
open Ps (TL)
set_option linter.unusedVariables false
namespace Ps
theorem alt_flags {n : Nat} {X : TL} {t : Tk} {p f g : Int} {S : List Nd} (ht : t.kind = 10) (h : NZ (altP (n + 1) X (turnP f t) g S)) : altP (n + 2) ((p, t) :: X) f g S = altP (n + 1) X (turnP f t) g S := by
  have e : seqP (n + 1) ((p, t) :: X) f g [] = seqP n X (turnP f t) g [] := by
    rw [seqP_eq n ((p, t) :: X) f g []]
    have hk : kd ((p, t) :: X) = 10 := ht
    rw [hk, if_neg (by decide), if_neg (by decide), if_pos rfl]
    rfl
  rw [altP_eq (n + 1) ((p, t) :: X) f g S, e]
  rw [altP_eq n X (turnP f t) g S] at h ⊢
  cases hq : seqP n X (turnP f t) g [] with
  | bad a c => rfl
  | ok x L' f' g' =>
    rw [hq] at h
    dsimp only at h ⊢
    by_cases c : kd L' = 12
    · rw [if_pos c] at h
      rw [if_pos c, if_pos c]
      exact (fuel_all n).1 _ _ _ _ h
    · rw [if_neg c, if_neg c]
theorem snd_end (n : Nat) : Snd (endT n).2 := snd_other (show (0 : Int) ≠ 1 by decide) (show (0 : Int) ≠ 5 by decide) (show (0 : Int) ≠ 8 by decide) (show (0 : Int) ≠ 9 by decide)
theorem Sim.nz {d : Int} {P Q : PR} (h : Sim d P Q) (hn : NZ P) : NZ Q := by
  cases P with
  | bad a c => obtain ⟨a', rfl, _⟩ := h; exact hn
  | ok x L f g => obtain ⟨f', rfl, _⟩ := h; trivial
/-- What is handed back for a tree, or what is wrong, so much further on. -/
def FarX (n : Int) (X Y : Option Nd × Int × Int) : Prop :=
  (∀ a c, X = (none, a, c) → ∃ k, Y = (none, k, c) ∧ (k = a + n ∨ k = a ∧ (c = 61 ∨ c = 2 ∨ c = 6))) ∧ ∀ x a c, X = (some x, a, c) → Y = (some x, a, c)
theorem FarX.no {n a c : Int} : FarX n (none, a, c) (none, a + n, c) :=
  ⟨fun a' c' h => by injection h with _ h; injection h with h1 h2; subst h1 h2; exact ⟨_, rfl, .inl rfl⟩, fun x a' c' h => by injection h with h; cases h⟩
theorem Sim.far {d : Int} {P Q : PR} {L : TL} (h : Sim d P Q) (hb : BadP L P) (hw : ∀ x L' f' g', P = .ok x L' f' g' → ∃ g0, Wd x 0 g0) : FarX d (patF P) (patF Q) := by
  cases P with
  | bad a c =>
    obtain ⟨a', rfl, e⟩ := h
    obtain ⟨hc, _⟩ := hb
    rw [e (by omega)]
    exact FarX.no
  | ok x L' f' g' =>
    obtain ⟨f2, rfl, _, hne⟩ := h
    unfold patF
    dsimp only
    rw [kd_sh]
    by_cases c1 : kd L' = 11
    · rw [if_pos c1, if_pos c1, pl_sh' d hne]
      exact FarX.no
    rw [if_neg c1, if_neg c1]
    by_cases c2 : Td.checkN x = 0
    · rw [if_pos c2]
      exact ⟨fun a c h => (by injection h with h; cases h), fun x' a c h => h⟩
    · rw [if_neg c2]
      obtain ⟨g0, hg⟩ := hw _ _ _ _ rfl
      have := wd_check hg
      refine ⟨fun a c h => ⟨0, ?_, .inr ?_⟩, fun x' a c h => by injection h with h; cases h⟩
      · injection h with _ h; injection h with h1 h2; rw [h2]
      · injection h with _ h; injection h with h1 h2; subst h1 h2; exact ⟨rfl, by omega⟩
end Ps
theorem parse_flags (s : ByteArray) (f : Int) (i m d u : Bool) (h1 : Ps.hasP f 1 = i) (h2 : Ps.hasP f 2 = m) (h4 : Ps.hasP f 4 = d) (h8 : Ps.hasP f 8 = u) (h : (i || m || d || u) = true) :
    Ps.FarX (Ps.headF i m d u).size (parseF s f) (parseF (Ps.headF i m d u ++ s) 0) := by
  have hl := Ps.head_lex i m d u h s
  have hfl : Ps.Fl f (Ps.turnP 0 (Ps.tokF i m d u)) := fun b hb => by
    rw [Ps.head_turn i m d u hb]
    obtain ⟨n1, n2, n4, n8⟩ := Ps.num_has i m d u
    rcases hb with rfl | rfl | rfl | rfl
    · rw [h1, n1]
    · rw [h2, n2]
    · rw [h4, n4]
    · rw [h8, n8]
  obtain ⟨H, hH⟩ : ∃ H, Ps.headF i m d u = H := ⟨_, rfl⟩
  obtain ⟨t, ht⟩ : ∃ t, Ps.tokF i m d u = t := ⟨_, rfl⟩
  have hk : t.kind = 10 := by rw [← ht]; rfl
  rw [hH, ht] at hl
  rw [ht] at hfl
  rw [hH]
  have hz : (H ++ s).size = H.size + s.size := ByteArray.size_append ..
  unfold parseF
  rw [hl]
  cases hR : Lx.lexR s 0 false [] with
  | bad o c => exact Ps.FarX.no
  | ok T =>
    dsimp only [Lx.behind]
    have hris := (Lx.lex_rises hR).1
    have hsnd := Ps.lex_snd hR
    have hE : Ps.Ends (T ++ [endT s.size]) := Ps.ends_of s.size (Lx.Ris.kinds hris)
    have hL : (T ++ [endT s.size]).length = T.length + 1 := by simp
    have hlist : ([((0 : Int), t)] ++ shift (H.size : Int) T) ++ [endT (H ++ s).size] = (0, t) :: Ps.shT H.size (T ++ [endT s.size]) := by
      rw [Ps.shT_append]
      show (0, t) :: (shift (H.size : Int) T ++ [endT (H ++ s).size]) = _
      congr 2
      show [endT (H ++ s).size] = [((endT s.size).1 + (H.size : Int), (endT s.size).2)]
      unfold endT
      rw [hz]
      show [(((H.size + s.size : Nat) : Int), _)] = [((s.size : Int) + (H.size : Int), _)]
      rw [show ((H.size + s.size : Nat) : Int) = (s.size : Int) + (H.size : Int) by omega]
    have hlen : ([((0 : Int), t)] ++ shift (H.size : Int) T).length = T.length + 1 := by simp [shift]
    rw [hlist, hlen]
    have hbad := (Ps.bad_all (3 * (T.length + 1) + 3)).1 (T ++ [endT s.size]) f 0 [] hE (by rw [hL]; exact Nat.le_refl _)
    have hsim := (Ps.sim_all H.size (3 * (T.length + 1) + 3)).1 (T ++ [endT s.size]) f (Ps.turnP 0 t) 0 [] hE hfl
    have hnz := hsim.nz (Ps.NZ.of_bad hbad)
    have he := Ps.alt_flags (n := 3 * (T.length + 1) + 2) (p := 0) (f := 0) hk hnz
    have he2 : Ps.altP (3 * (T.length + 1 + 1) + 3) ((0, t) :: Ps.shT H.size (T ++ [endT s.size])) 0 0 [] = Ps.altP (3 * (T.length + 1) + 3) (Ps.shT H.size (T ++ [endT s.size])) (Ps.turnP 0 t) 0 [] := by
      rw [← he]
      exact Ps.alt_fuel (by omega) (by rw [he]; exact hnz)
    rw [he2]
    refine hsim.far hbad (fun x L' f' g' hx => ⟨g', ?_⟩)
    exact ((Ps.wd_all _).1 _ _ _ _ 0 (fun p hp => by
      rcases List.mem_append.1 hp with hp | hp
      · exact hsnd p hp
      · simp at hp; subst hp
        exact Ps.snd_end s.size) (Int.le_refl _) (Int.le_refl _) (Ps.WdL.nil 0) _ _ _ _ hx).1
end Go.Proofs.YtdcielcniboloaaGreatDoor
namespace Go.Proofs.YtdcielcniboloaaGreatDoor
set_option linter.unusedVariables false
namespace Td
theorem same1_refl (n : Nd) : same1 n n = true := by
  unfold same1
  simp
theorem foldl_max_mem : ∀ (l : List Nat) (a x : Nat), (x ∈ l ∨ x ≤ a) → x ≤ l.foldl max a
  | [], a, x, h => by rcases h with h | h; cases h; exact h
  | y :: l, a, x, h => by
    refine foldl_max_mem l (max a y) x ?_
    rcases h with h | h
    · rcases List.mem_cons.1 h with rfl | h
      · exact .inr (by omega)
      · exact .inl h
    · exact .inr (by omega)
theorem same_refl : ∀ (k : Nat) (n : Nd), dep (k + 1) n ≤ k → sameB k n n = true
  | 0, n, h => by rw [dep] at h; omega
  | k + 1, n, h => by
    rw [sameB, same1_refl, Bool.true_and, List.all_eq_true]
    intro p hp
    have he : p.1 = p.2 ∧ p.1 ∈ subs n := by
      obtain ⟨i, hi, rfl⟩ := List.getElem_of_mem hp
      rw [List.getElem_zip]
      exact ⟨rfl, List.getElem_mem _⟩
    rw [← he.1]
    refine same_refl k p.1 ?_
    rw [dep] at h
    have := foldl_max_mem ((subs n).map (dep (k + 1))) 0 (dep (k + 1) p.1) (.inl (List.mem_map_of_mem he.2))
    omega
theorem same_ok {n : Nd} (h : dep 1001 n ≤ 1000) : sameB 1000 n n = true := same_refl 1000 n h
end Td
end Go.Proofs.YtdcielcniboloaaGreatDoor
namespace Go.Proofs.YtdcielcniboloaaGreatDoor.Lx
open Go.Proofs.YtdcielcniboloaaGreatDoor.Br (Ag)
set_option linter.unusedVariables false
theorem ag_snoc (y u : ByteArray) (hu : Utf.nums u = Utf.nums y ++ [41]) : Ag y.size (Utf.nums y) (Utf.nums u) := by
  have h := Utf.nums_length y
  refine ⟨by omega, by rw [hu, List.length_append]; omega, fun j hj => ?_⟩
  rw [hu, List.getElem?_append_left (by omega)]
theorem counts_snoc (l : List Int) (h1 : 1 ≤ l.length) : countsX (l ++ [41]) = countsX l := by
  have hd : (l ++ [41]).drop 1 = l.drop 1 ++ [41] := List.drop_append_of_le_length h1
  unfold countsX
  rw [hd]
  obtain ⟨m, hm⟩ : ∃ m, l.drop 1 = m := ⟨_, rfl⟩
  rw [hm]
  have hle := Br.upTo_le 125 m
  by_cases hf : Br.upTo 125 m = m.length
  · rw [if_pos hf, if_pos]
    refine Br.upTo_none 125 _ (fun j hj => ?_)
    rcases Nat.lt_or_ge j m.length with g | g
    · rw [List.getElem?_append_left g]; exact Br.upTo_no 125 m j (by omega)
    · rw [List.length_append, List.length_singleton] at hj
      obtain rfl : j = m.length := by omega
      rw [List.getElem?_append_right (Nat.le_refl _), Nat.sub_self]
      decide
  · have hlt : Br.upTo 125 m < m.length := by omega
    have e : Br.upTo 125 (m ++ [41]) = Br.upTo 125 m :=
      Br.upTo_is 125 _ _ (by rw [List.getElem?_append_left hlt]; exact Br.upTo_at 125 m hlt) (fun j hj => by rw [List.getElem?_append_left (by omega)]; exact Br.upTo_no 125 m j hj)
    rw [e, if_neg hf, if_neg (by rw [List.length_append, List.length_singleton]; omega), List.take_append_of_le_length (by omega)]
theorem rep_snoc (l : List Int) (hb : boundsX (l ++ [41]) = boundsX l) {t : Tk} {k : Nat} (hx : repX l = .ok t k) (hle : (boundsX l).2.2 ≤ l.length) : repX (l ++ [41]) = .ok t k := by
  unfold repX at hx ⊢
  rw [hb]
  have e : (l ++ [41])[(boundsX l).2.2]?.getD 0 = 63 ↔ l[(boundsX l).2.2]?.getD 0 = 63 := by
    rcases Nat.lt_or_ge (boundsX l).2.2 l.length with g | g
    · rw [List.getElem?_append_left g]
    · rw [show (boundsX l).2.2 = l.length by omega, List.getElem?_append_right (Nat.le_refl _), Nat.sub_self, List.getElem?_eq_none (Nat.le_refl _)]
      decide
  unfold repOf at hx ⊢
  by_cases c1 : 1000 < (boundsX l).1 ∨ 1000 < (boundsX l).2.1 ∨ ((boundsX l).2.1 ≠ -1 ∧ (boundsX l).2.1 < (boundsX l).1)
  · rw [if_pos c1] at hx; cases hx
  rw [if_neg c1] at hx ⊢
  by_cases c2 : l[(boundsX l).2.2]?.getD 0 = 63
  · rw [if_pos c2] at hx
    rw [if_pos (e.2 c2)]; exact hx
  · rw [if_neg c2] at hx
    rw [if_neg (fun h => c2 (e.1 h))]; exact hx
theorem flags_first {l : List Int} {p : Int × Int} (h : flagsX l = some p) : ∃ c m, l = c :: m ∧ c ≠ 80 ∧ c ≠ 60 := by
  cases l with
  | nil =>
    exfalso
    unfold flagsX at h
    split at h
    · rw [if_pos (.inl rfl)] at h; cases h
    · cases h
  | cons c m =>
    refine ⟨c, m, rfl, ?_⟩
    unfold flagsX at h
    by_cases c45 : c = 45
    · subst c45; exact ⟨by decide, by decide⟩
    · have e : Br.upTo 45 (c :: m) = Br.upTo 45 m + 1 := by rw [Br.upTo, if_neg c45]
      rw [e, List.take_succ_cons, flagsOfX] at h
      by_cases f0 : flagB c = 0
      · rw [if_pos f0] at h; cases h
      · constructor
        · intro e2; subst e2; exact f0 (by decide)
        · intro e2; subst e2; exact f0 (by decide)
theorem name_none {l : List Int} (h80 : l[2]?.getD 0 ≠ 80) (h60 : l[2]?.getD 0 ≠ 60) : nameAt l = 0 := by
  unfold nameAt
  rw [if_neg (fun e => ?_), if_neg (fun e => ?_)]
  · have := congrArg (fun y => y[2]?.getD 0) e
    rw [List.getElem?_take_of_lt (by omega)] at this
    exact h60 this
  · have := congrArg (fun y => y[2]?.getD 0) e
    rw [List.getElem?_take_of_lt (by omega)] at this
    exact h80 this
theorem nameX_none {s : ByteArray} (h : nameAt (Utf.nums s) = 0) : nameX s = none := by
  unfold nameX
  dsimp only
  rw [if_pos h]
theorem flag_snoc (l : List Int) {t : Tk} {k : Nat} (h0 : 2 ≤ l.length) (h01 : l[0]?.getD 0 = 40) (h11 : l[1]?.getD 0 = 63) (hx : flagX l = .ok t k) : flagX (l ++ [41]) = .ok t k ∧ (l ++ [41])[2]?.getD 0 ≠ 80 ∧ (l ++ [41])[2]?.getD 0 ≠ 60 := by
  have hle := upToC_le l
  have hlt : upToC l < l.length := by
    rcases Nat.lt_or_ge (upToC l) l.length with g | g
    · exact g
    · unfold flagX at hx
      rw [if_pos (by omega)] at hx
      cases hx
  have hag : Ag l.length l (l ++ [41]) := ⟨Nat.le_refl _, by rw [List.length_append]; omega, fun j hj => List.getElem?_append_left hj⟩
  have h2 : 2 ≤ upToC l := by
    rcases Nat.lt_or_ge (upToC l) 2 with g | g
    · have := upToC_at l hlt
      rcases (show upToC l = 0 ∨ upToC l = 1 by omega) with e | e <;> rw [e] at this <;> omega
    · exact g
  have e : upToC (l ++ [41]) = upToC l := upToC_is _ _ (by rw [List.length_append]; omega) (by rw [hag.getD hlt]; exact upToC_at l hlt) (fun j hj => by rw [hag.getD (by omega)]; exact upToC_no l j hj)
  have hne : ¬ upToC l = (l ++ [(41 : Int)]).length := by rw [List.length_append]; omega
  have hsame : flagX (l ++ [41]) = flagX l := by
    unfold flagX
    rw [e, if_neg hne, if_neg (show ¬ upToC l = l.length by omega), hag.getD (k := 2) (by omega), hag.getD hlt, ((hag.drop 2).mono (k := upToC l - 2) (by omega)).take]
  refine ⟨hsame.trans hx, ?_⟩
  rw [hag.getD (k := 2) (by omega)]
  unfold flagX at hx
  rw [if_neg (by omega)] at hx
  by_cases c : upToC l = 2 ∧ l[2]?.getD 0 = 58
  · rw [c.2]; exact ⟨by decide, by decide⟩
  · rw [if_neg c] at hx
    cases hf : flagsX ((l.drop 2).take (upToC l - 2)) with
    | none => rw [hf] at hx; cases hx
    | some p =>
      obtain ⟨c, m, e1, e2, e3⟩ := flags_first hf
      have e4 : l[2]?.getD 0 = c := by
        have h3 : 0 < upToC l - 2 := by
          rcases Nat.eq_zero_or_pos (upToC l - 2) with g | g
          · rw [g, List.take_zero] at e1; cases e1
          · exact g
        have := congrArg (fun y => y[0]?.getD 0) e1
        rw [List.getElem?_take_of_lt h3, List.getElem?_drop] at this
        exact this
      rw [e4]; exact ⟨e2, e3⟩
theorem nameX_snoc {y u : ByteArray} (hu : Utf.nums u = Utf.nums y ++ [41]) {nm : ByteArray} {k : Nat} (hx : nameX y = some (nm, k)) : nameX u = some (nm, k) := by
  have hag := ag_snoc y u hu
  have hy := Utf.nums_length y
  have hul := Utf.nums_length u
  have a2 := hag.2.1
  have hp : nameAt (Utf.nums u) = nameAt (Utf.nums y) ∧ nameAt (Utf.nums y) ≠ 0 ∧ nameAt (Utf.nums y) ≤ y.size := by
    have h0 : nameAt (Utf.nums y) ≠ 0 := fun e => by rw [nameX_none e] at hx; cases hx
    unfold nameAt at h0 ⊢
    by_cases c4 : (Utf.nums y).take 4 = [40, 63, 80, 60]
    · have hl : 4 ≤ y.size := by
        have := congrArg List.length c4
        rw [List.length_take] at this
        simp at this
        omega
      rw [if_pos c4, (hag.mono (k := 4) hl).take, if_pos c4]
      exact ⟨rfl, by decide, hl⟩
    · rw [if_neg c4] at h0 ⊢
      by_cases c3 : (Utf.nums y).take 3 = [40, 63, 60]
      · have hl : 3 ≤ y.size := by
          have := congrArg List.length c3
          rw [List.length_take] at this
          simp at this
          omega
        rw [if_pos c3, (hag.mono (k := 3) hl).take, if_pos c3]
        rw [if_neg (fun e => by
          have h5 := congrArg (fun z => z[2]?.getD 0) e
          have h6 := congrArg (fun z => z[2]?.getD 0) c3
          rw [List.getElem?_take_of_lt (by omega)] at h5 h6
          rw [hag.getD (k := 2) (by omega), h6] at h5
          exact absurd h5 (by decide))]
        exact ⟨rfl, by decide, hl⟩
      · rw [if_neg c3] at h0; exact absurd rfl h0
  obtain ⟨p1, p2, p3⟩ := hp
  unfold nameX at hx ⊢
  dsimp only at hx ⊢
  rw [p1]
  obtain ⟨p, hp⟩ : ∃ p, nameAt (Utf.nums y) = p := ⟨_, rfl⟩
  rw [hp] at hx p2 p3 ⊢
  have hd := hag.drop p
  have hle := Br.upTo_le 62 ((Utf.nums y).drop p)
  rw [if_neg p2] at hx ⊢
  rw [List.length_drop] at hle hx ⊢
  by_cases hf : Br.upTo 62 ((Utf.nums y).drop p) = (Utf.nums y).length - p
  · rw [if_pos hf] at hx; cases hx
  rw [if_neg hf] at hx
  have hlt : Br.upTo 62 ((Utf.nums y).drop p) < ((Utf.nums y).drop p).length := by rw [List.length_drop]; omega
  have e : Br.upTo 62 ((Utf.nums u).drop p) = Br.upTo 62 ((Utf.nums y).drop p) := by
    rw [List.length_drop] at hlt
    refine Br.upTo_is 62 _ _ ?_ (fun j hj => by rw [hd.2.2 _ (by omega)]; exact Br.upTo_no 62 _ j hj)
    rw [hd.2.2 _ (by omega)]
    exact Br.upTo_at 62 _ (by rw [List.length_drop]; omega)
  rw [List.length_drop] at hlt
  rw [e, if_neg (by omega), Br.extract_eq hag (by omega)]
  exact hx
theorem open_snoc {y u : ByteArray} (hu : Utf.nums u = Utf.nums y ++ [41]) (h0 : 0 < y.size) (h40 : (Utf.nums y)[0]?.getD 0 = 40) {t : Tk} {k : Nat} (hx : openX y = .ok t k) : openX u = .ok t k := by
  have hag := ag_snoc y u hu
  have hy := Utf.nums_length y
  unfold openX at hx ⊢
  by_cases c : ¬ (Utf.nums y)[1]?.getD 0 = 63
  · rw [if_pos c] at hx
    rw [if_pos]
    · exact hx
    · rw [hu]
      rcases Nat.lt_or_ge 1 y.size with g | g
      · rw [List.getElem?_append_left (by omega)]; exact c
      · rw [List.getElem?_append_right (by omega), show 1 - (Utf.nums y).length = 0 by omega]; decide
  · rw [if_neg c] at hx
    have c' : (Utf.nums y)[1]?.getD 0 = 63 := by omega
    have h2 : 2 ≤ (Utf.nums y).length := Br.getD_lt c' (by decide)
    rw [if_neg (by rw [hag.getD (k := 1) (by omega)]; exact c)]
    cases hn : nameX y with
    | some p =>
      obtain ⟨nm, n⟩ := p
      rw [hn] at hx
      rw [nameX_snoc hu hn]
      exact hx
    | none =>
      rw [hn] at hx
      dsimp only at hx
      have hf := flag_snoc (Utf.nums y) h2 h40 c' hx
      rw [← hu] at hf
      rw [nameX_none (name_none hf.2.1 hf.2.2)]
      exact hf.1
theorem esc_two {s : ByteArray} (h1 : 1 ≤ s.size) {t : Tk} {k : Nat} (hx : escX s = .ok t k) : 2 ≤ s.size := by
  rcases Nat.lt_or_ge s.size 2 with g | g
  · exfalso
    have hl := Utf.nums_length s
    have hl1 : (Utf.nums s).length = 1 := by omega
    unfold escX at hx
    rw [List.getElem?_eq_none (show (Utf.nums s).length ≤ 1 by omega)] at hx
    have e : shortX ((none : Option Int).getD 0) = none := rfl
    rw [e] at hx
    dsimp only at hx
    unfold setX at hx
    have h2 : (Br.set s).2.2 = 3 ∨ (Br.set s).2.2 = 5 := by
      unfold Br.set
      dsimp only
      split
      · exact .inl rfl
      · exact .inr rfl
    rcases h2 with e2 | e2
    · rw [e2, if_neg (by decide), if_neg (by decide)] at hx; cases hx
    · rw [e2, if_neg (by decide), if_pos rfl] at hx
      unfold numX at hx
      rcases Br.num_cases (Utf.nums s) with ⟨_, _, h3⟩ | ⟨_, _, h3, h4, _⟩
      · rw [if_neg (by omega)] at hx; cases hx
      · omega
  · exact g
theorem tok_snoc {y u : ByteArray} (hu : Utf.nums u = Utf.nums y ++ [41]) (h0 : 0 < y.size) {t : Tk} {k : Nat} (hx : tokX y = .ok t k) (hk : k ≤ y.size) : tokX u = .ok t k := by
  have hag := ag_snoc y u hu
  have hy := Utf.nums_length y
  have hb := bounds_bd (Utf.nums y) (by omega)
  unfold tokX at hx ⊢
  dsimp only at hx ⊢
  rw [hag.getD (k := 0) h0]
  by_cases c1 : (Utf.nums y)[0]?.getD 0 = 46
  · rw [if_pos c1] at hx ⊢; exact hx
  rw [if_neg c1] at hx ⊢
  by_cases c2 : (Utf.nums y)[0]?.getD 0 = 94
  · rw [if_pos c2] at hx ⊢; exact hx
  rw [if_neg c2] at hx ⊢
  by_cases c3 : (Utf.nums y)[0]?.getD 0 = 36
  · rw [if_pos c3] at hx ⊢; exact hx
  rw [if_neg c3] at hx ⊢
  by_cases c4 : (Utf.nums y)[0]?.getD 0 = 41
  · rw [if_pos c4] at hx ⊢; exact hx
  rw [if_neg c4] at hx ⊢
  by_cases c5 : (Utf.nums y)[0]?.getD 0 = 124
  · rw [if_pos c5] at hx ⊢; exact hx
  rw [if_neg c5] at hx ⊢
  by_cases c6 : (Utf.nums y)[0]?.getD 0 = 92
  · rw [if_pos c6] at hx ⊢; exact escX_local hag (esc_two h0 hx) hx hk
  rw [if_neg c6] at hx ⊢
  by_cases c7 : (Utf.nums y)[0]?.getD 0 = 91
  · rw [if_pos c7] at hx ⊢; exact brackX_local hag hx hk
  rw [if_neg c7] at hx ⊢
  by_cases c8 : (Utf.nums y)[0]?.getD 0 = 40
  · rw [if_pos c8] at hx ⊢; exact open_snoc hu h0 c8 hx
  rw [if_neg c8] at hx ⊢
  by_cases c9 : (Utf.nums y)[0]?.getD 0 = 123
  · rw [if_pos c9] at hx ⊢
    have hc := counts_snoc (Utf.nums y) (by omega)
    rw [hu, hc]
    rw [← hu]
    by_cases c10 : (countsX (Utf.nums y)).2.2 = 0
    · rw [if_pos c10] at hx ⊢; exact charX_local (Utf.nums_bytes y) hag hx hk
    · rw [if_neg c10] at hx ⊢
      rw [hu]
      refine rep_snoc _ ?_ hx hb.2.2.2.2
      unfold boundsX
      rw [List.getElem?_append_left (by omega), hc]
  rw [if_neg c9] at hx ⊢
  by_cases c10 : (Utf.nums y)[0]?.getD 0 = 42 ∨ (Utf.nums y)[0]?.getD 0 = 43 ∨ (Utf.nums y)[0]?.getD 0 = 63
  · rw [if_pos c10] at hx ⊢
    rw [hu]
    refine rep_snoc _ ?_ hx hb.2.2.2.2
    unfold boundsX
    rw [List.getElem?_append_left (by omega)]
    rcases c10 with e | e | e <;> rw [e] <;> rfl
  · rw [if_neg c10] at hx ⊢; exact charX_local (Utf.nums_bytes y) hag hx hk
theorem one_snoc (q : Bool) {y u : ByteArray} (hu : Utf.nums u = Utf.nums y ++ [41]) (h0 : 0 < y.size) {t : Tk} {k : Nat} (hx : oneX q y = .ok t k) (hk : k ≤ y.size) : oneX q u = .ok t k := by
  unfold oneX at hx ⊢
  cases q
  · exact tok_snoc hu h0 hx hk
  · exact charX_local (Utf.nums_bytes y) (ag_snoc y u hu) hx hk
def closeB : ByteArray := ⟨#[41]⟩
/-- Up to its end a text that is right has the same tokens with a closing bracket behind. -/
theorem lexR_front (s : ByteArray) : ∀ (d k : Nat) (q : Bool) (T T' : List (Int × Tk)), k + d = s.size → lexR s k q T = .ok T' → ∃ q', lexR (s ++ closeB) k q T = lexR (s ++ closeB) s.size q' T' := by
  have hzu : (s ++ closeB).size = s.size + 1 := ByteArray.size_append ..
  have hs := Utf.nums_length s
  have hnu : Utf.nums (s ++ closeB) = Utf.nums s ++ [41] := by rw [Br.nums_append']; rfl
  have hdr : ∀ k, k ≤ s.size → (Utf.nums (s ++ closeB)).drop k = (Utf.nums s).drop k ++ [41] := fun k hk => by rw [hnu]; exact List.drop_append_of_le_length (by omega)
  intro d
  induction d using Nat.strongRecOn with
  | ind d ih =>
    intro k q T T' hk h
    by_cases h1 : s.size ≤ k
    · obtain rfl : k = s.size := by omega
      rw [lexR_end h1] at h
      injection h with h
      subst h
      exact ⟨q, rfl⟩
    · have hl : ((Utf.nums s).drop k).length = s.size - k := by rw [List.length_drop]; omega
      by_cases h2 : turnB q ((Utf.nums s).drop k) = true
      · have h3 := h2
        unfold turnB at h3
        simp at h3
        have h4 : k + 1 < s.size := by
          rcases Nat.lt_or_ge (k + 1) s.size with g | g
          · exact g
          · exfalso
            have h5 := h3.2
            rw [List.getElem?_eq_none (by omega)] at h5
            cases q <;> simp at h5
        have htu : turnB q ((Utf.nums (s ++ closeB)).drop k) = true := by
          rw [← h2, hdr k (by omega)]
          unfold turnB
          rw [List.getElem?_append_left (by omega), List.getElem?_append_left (by omega)]
        rw [lexR_turn (by omega) h2] at h
        rw [lexR_turn (by omega) htu]
        exact ih (d - 2) (by omega) (k + 2) (!q) T T' (by omega) h
      · have h2f : turnB q ((Utf.nums s).drop k) = false := by simpa using h2
        have htu : turnB q ((Utf.nums (s ++ closeB)).drop k) = false := by
          rw [hdr k (by omega)]
          rw [← h2f]
          unfold turnB
          rw [List.getElem?_append_left (by omega)]
          rcases Nat.lt_or_ge 1 ((Utf.nums s).drop k).length with g | g
          · rw [List.getElem?_append_left g]
          · have e1 : ((Utf.nums s).drop k ++ [41])[1]?.getD 0 = 41 := by rw [List.getElem?_append_right g, show 1 - ((Utf.nums s).drop k).length = 0 by omega]; rfl
            have e2 : ((Utf.nums s).drop k)[1]?.getD 0 = 0 := by rw [List.getElem?_eq_none g]; rfl
            rw [e1, e2]
            cases q <;> rfl
        have hz1 : (s.extract k s.size).size = s.size - k := by rw [ByteArray.size_extract]; omega
        have ho := one_ok q (s.extract k s.size) (by omega)
        cases hx : oneX q (s.extract k s.size) with
        | bad n c => rw [lexR_bad (by omega) h2f hx] at h; cases h
        | ok tk n =>
          rw [hx] at ho
          obtain ⟨o1, o2, _⟩ := ho
          rw [lexR_tok (by omega) h2f hx] at h
          have hx2 : oneX q ((s ++ closeB).extract k (s ++ closeB).size) = .ok tk n :=
            one_snoc q (y := s.extract k s.size) (by rw [Br.nums_tail, Br.nums_tail, hdr k (by omega)]) (by omega) hx o2
          rw [lexR_tok (by omega) htu hx2]
          exact ih (d - n) (by omega) (k + n) q _ T' (by omega) h
def closeT : Tk := { kind := 11 }
/-- A text that is right, and no quotation at its end: with a closing bracket behind. -/
theorem lex_closed {s : ByteArray} {T B : List (Int × Tk)} (h : lexR s 0 false [] = .ok T) (hB : lexR (s ++ closeB) 0 false [] = .ok B) (hl : ∃ tk : Tk, B.getLast? = some ((s.size : Int), tk) ∧ tk.kind = 11) : B = T ++ [((s.size : Int), closeT)] := by
  obtain ⟨q', e⟩ := lexR_front s s.size 0 false [] T (by omega) h
  rw [e] at hB
  have hzu : (s ++ closeB).size = s.size + 1 := ByteArray.size_append ..
  have hs := Utf.nums_length s
  have hnu : Utf.nums (s ++ closeB) = Utf.nums s ++ [41] := by rw [Br.nums_append']; rfl
  have hdr : (Utf.nums (s ++ closeB)).drop s.size = [41] := by rw [hnu, ← hs, List.drop_left]
  have ht : ∀ q, turnB q ((Utf.nums (s ++ closeB)).drop s.size) = false := fun q => by rw [hdr]; cases q <;> rfl
  have hex : Utf.nums ((s ++ closeB).extract s.size (s ++ closeB).size) = [41] := by rw [Br.nums_tail, hdr]
  obtain ⟨y, hy⟩ : ∃ y, (s ++ closeB).extract s.size (s ++ closeB).size = y := ⟨_, rfl⟩
  rw [hy] at hex
  have ey : y = closeB := Br.nums_inj' (hex.trans rfl)
  subst ey
  obtain ⟨tk, hl1, hl2⟩ := hl
  cases q' with
  | false =>
    rw [lexR_tok (t := closeT) (n := 1) (by omega) (ht _) (by rw [hy]; rfl), lexR_end (by omega)] at hB
    injection hB with hB
    exact hB.symm
  | true =>
    exfalso
    rw [lexR_tok (t := runeT 41) (n := 1) (by omega) (ht _) (by rw [hy]; rfl), lexR_end (by omega)] at hB
    injection hB with hB
    subst hB
    rw [List.getLast?_append] at hl1
    simp only [List.getLast?_singleton, Option.some_or] at hl1
    have hl3 := congrArg Prod.snd (Option.some.inj hl1)
    rw [← (show runeT 41 = tk from hl3)] at hl2
    exact absurd hl2 (show ¬ (1 : Int) = 11 by decide)
def openB : ByteArray := ⟨#[40, 63, 58]⟩
def openT : Tk := { kind := 9 }
/-- Behind (?: a text has its own tokens. -/
theorem lex_open (y : ByteArray) : lexR (openB ++ y) 0 false [] = behind 3 [(0, openT)] (lexR y 0 false []) := by
  have hz : (openB ++ y).size = 3 + y.size := ByteArray.size_append ..
  have hnu : Utf.nums (openB ++ y) = 40 :: 63 :: 58 :: Utf.nums y := by rw [Br.nums_append']; rfl
  have ht : turnB false ((Utf.nums (openB ++ y)).drop 0) = false := by rw [List.drop_zero, hnu]; rfl
  have hx : oneX false ((openB ++ y).extract 0 (openB ++ y).size) = .ok openT 3 := by
    have e : (openB ++ y).extract 0 (openB ++ y).size = openB ++ y := by apply Br.nums_inj'; rw [Br.nums_tail, List.drop_zero]
    rw [e]
    show tokX (openB ++ y) = _
    unfold tokX
    dsimp only
    rw [hnu]
    show openX (openB ++ y) = _
    unfold openX
    rw [hnu, if_neg (fun c => c rfl)]
    rw [nameX_none (name_none (by rw [hnu]; exact (by decide : (58 : Int) ≠ 80)) (by rw [hnu]; exact (by decide : (58 : Int) ≠ 60)))]
    show flagX (40 :: 63 :: 58 :: Utf.nums y) = _
    unfold flagX
    have eu : upToC (40 :: 63 :: 58 :: Utf.nums y) = 2 := by
      rw [upToC, if_neg (by decide), upToC, if_neg (by decide), upToC, if_pos (by decide)]
    rw [eu, if_neg (by simp), if_pos ⟨rfl, rfl⟩]
    rfl
  rw [lexR_tok (by omega) ht hx]
  have := lexR_shift openB y y.size 0 false [(0, openT)] [] (by omega)
  rw [show openB.size = 3 from rfl] at this
  simpa [shift] using this
end Go.Proofs.YtdcielcniboloaaGreatDoor.Lx
