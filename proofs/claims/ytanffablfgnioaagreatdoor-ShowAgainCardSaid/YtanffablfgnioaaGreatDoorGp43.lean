/- Mathematics of show: the tokens of a tree's pattern are that tree. · Mathematics of show: a tree's pattern, parsed, is the tree. · Mathematics of parse: more fuel turns nothing; flags at the beginning of a pattern. -/
import Derived.Test.YtanffablfgnioaaGreatDoorGp42
import Derived.Test.YtanffablfgnioaaGreatDoorGp18
import Derived.Test.YtanffablfgnioaaGreatDoorGp40
import Derived.Test.YtanffablfgnioaaGreatDoorGp41
namespace Go.Proofs.YtanffablfgnioaaGreatDoor.Sh
open Lx (Tk TR LR)
open Ps (TL PR leafN manyN kd hd altP seqP atomP joinN repT repN leafOf turnP hasP setN)
set_option linter.unusedVariables false
/-- From some fuel on. -/
def EvA (L : TL) (f g : Int) (S : List Nd) (R : PR) : Prop := ∃ N0, ∀ N, N0 ≤ N → altP N L f g S = R
def EvS (L : TL) (f g : Int) (A : List Nd) (R : PR) : Prop := ∃ N0, ∀ N, N0 ≤ N → seqP N L f g A = R
def EvT (L : TL) (f g : Int) (R : PR) : Prop := ∃ N0, ∀ N, N0 ≤ N → atomP N L f g = R
theorem EvS.stop {L : TL} {f g : Int} {A : List Nd} (h : kd L = 12 ∨ kd L = 11 ∨ kd L = 0) : EvS L f g A (.ok (joinN 7 A) L f g) := ⟨1, fun N hN => by
  obtain ⟨n, rfl⟩ : ∃ n, N = n + 1 := ⟨N - 1, by omega⟩
  rw [Ps.seqP_eq, if_pos h]⟩
theorem EvS.step {L L' : TL} {f g f' g' : Int} {A : List Nd} {x : Nd} {R : PR} (hk : kd L = 1 ∨ kd L = 4 ∨ kd L = 5 ∨ kd L = 6 ∨ kd L = 7 ∨ kd L = 9 ∨ kd L = 13) (ht : EvT L f g (.ok x L' f' g')) (hs : EvS (repT L') f' g' (A ++ [repN f' x L']) R) : EvS L f g A R := by
  obtain ⟨a, ha⟩ := ht
  obtain ⟨b, hb⟩ := hs
  refine ⟨a + b + 1, fun N hN => ?_⟩
  obtain ⟨n, rfl⟩ : ∃ n, N = n + 1 := ⟨N - 1, by omega⟩
  rw [Ps.seqP_eq, if_neg (by omega), if_neg (by omega), if_neg (by omega), ha n (by omega)]
  exact hb n (by omega)
theorem EvA.last {L L' : TL} {f g f' g' : Int} {S : List Nd} {x : Nd} (hs : EvS L f g [] (.ok x L' f' g')) (h : kd L' ≠ 12) : EvA L f g S (.ok (joinN 8 (S ++ [x])) L' f' g') := by
  obtain ⟨a, ha⟩ := hs
  refine ⟨a + 1, fun N hN => ?_⟩
  obtain ⟨n, rfl⟩ : ∃ n, N = n + 1 := ⟨N - 1, by omega⟩
  rw [Ps.altP_eq, ha n (by omega)]
  dsimp only
  rw [if_neg h]
theorem EvA.bar {L L' : TL} {f g f' g' : Int} {S : List Nd} {x : Nd} {R : PR} (hs : EvS L f g [] (.ok x L' f' g')) (h : kd L' = 12) (hr : EvA L'.tail f' g' (S ++ [x]) R) : EvA L f g S R := by
  obtain ⟨a, ha⟩ := hs
  obtain ⟨b, hb⟩ := hr
  refine ⟨a + b + 1, fun N hN => ?_⟩
  obtain ⟨n, rfl⟩ : ∃ n, N = n + 1 := ⟨N - 1, by omega⟩
  rw [Ps.altP_eq, ha n (by omega)]
  dsimp only
  rw [if_pos h]
  exact hb n (by omega)
theorem EvT.leaf {L : TL} {f g : Int} (h : kd L ≠ 9) : EvT L f g (.ok (leafOf f (hd L)) L.tail f g) := ⟨1, fun N hN => by
  obtain ⟨n, rfl⟩ : ∃ n, N = n + 1 := ⟨N - 1, by omega⟩
  rw [Ps.atomP_eq, if_neg h]⟩
theorem EvT.open {L L' : TL} {f g f' g' : Int} {x : Nd} (h : kd L = 9) (ha : EvA L.tail (turnP f (hd L)) (g + (hd L).num) [] (.ok x L' f' g')) (h11 : kd L' = 11) :
    EvT L f g (.ok (if (hd L).num = 0 then x else .mk 6 [] (g + (hd L).num) (hd L).name 0 0 false [x]) L'.tail f g') := by
  obtain ⟨a, ha⟩ := ha
  refine ⟨a + 1, fun N hN => ?_⟩
  obtain ⟨n, rfl⟩ : ∃ n, N = n + 1 := ⟨N - 1, by omega⟩
  rw [Ps.atomP_eq, if_pos h, ha n (by omega)]
  dsimp only
  rw [if_pos h11]
/-- Flags of which none that matters is set. -/
def F0 (f : Int) : Prop := hasP f 1 = false ∧ hasP f 2 = false ∧ hasP f 8 = false
theorem F0.turn {f : Int} (h : F0 f) {t : Tk} (h1 : t.mn = 0) (h2 : t.mx = 0) : F0 (turnP f t) := by
  have z : ∀ b, b = 1 ∨ b = 2 ∨ b = 4 ∨ b = 8 → hasP f b = false → hasP (turnP f t) b = false := fun b hb e => by
    rw [Ps.has_turn f t hb, e, h1, h2]
    rcases hb with rfl | rfl | rfl | rfl <;> rfl
  exact ⟨z 1 (by simp) h.1, z 2 (by simp) h.2.1, z 8 (by simp) h.2.2⟩
/-- How many groups are in a tree. -/
def gc : Nat → Nd → Int
  | 0, _ => 0
  | k + 1, n => (if Td.kind n = 6 then 1 else 0) + ((Td.subs n).map (gc k)).sum
def gcL (k : Nat) (l : List Nd) : Int := (l.map (gc k)).sum
def NmL (P : Int → Nd → Prop) (c : Nd → Int) : Int → List Nd → Prop
  | _, [] => True
  | g, m :: l => P g m ∧ NmL P c (g + c m) l
/-- The groups of a tree are numbered on from g. -/
def Nm : Nat → Int → Nd → Prop
  | 0, _, _ => True
  | k + 1, g, n => (Td.kind n = 6 → Td.num n = g + 1) ∧ NmL (Nm k) (gc k) (g + if Td.kind n = 6 then 1 else 0) (Td.subs n)
theorem nm_chk : ∀ (k d : Nat) (n : Nd) (T : List ByteArray) (B : List (Nat × Nd)), Td.chkF T (Td.all k d n ++ B) = 0 → Nm k T.length n ∧ ∃ T' : List ByteArray, (T'.length : Int) = T.length + gc k n ∧ Td.chkF T' B = 0
  | 0, d, n, T, B, h => ⟨trivial, T, by simp [gc], h⟩
  | k + 1, d, n, T, B, h => by
    have key : ∀ (l : List Nd) (T : List ByteArray), Td.chkF T (l.flatMap (Td.all k (d + 1)) ++ B) = 0 → NmL (Nm k) (gc k) T.length l ∧ ∃ T' : List ByteArray, (T'.length : Int) = T.length + (l.map (gc k)).sum ∧ Td.chkF T' B = 0 := by
      intro l
      induction l with
      | nil => intro T h; exact ⟨trivial, T, by simp, h⟩
      | cons m l ih =>
        intro T h
        rw [List.flatMap_cons, List.append_assoc] at h
        obtain ⟨h1, T1, e1, h2⟩ := nm_chk k (d + 1) m T _ h
        obtain ⟨h3, T2, e2, h4⟩ := ih T1 h2
        rw [e1] at h3
        exact ⟨⟨h1, h3⟩, T2, by rw [e2, e1, List.map_cons, List.sum_cons]; omega, h4⟩
    rw [Td.all, List.cons_append, Td.chkF] at h
    by_cases c1 : Td.fitsB n = false
    · rw [if_pos c1] at h; cases h
    rw [if_neg c1] at h
    by_cases c2 : Td.kind n ≠ 6
    · rw [if_pos c2] at h
      obtain ⟨h1, T', e, h2⟩ := key _ T h
      refine ⟨⟨fun e6 => absurd e6 c2, by rw [if_neg c2, Int.add_zero]; exact h1⟩, T', by rw [e, gc, if_neg c2]; omega, h2⟩
    rw [if_neg c2] at h
    have c2' : Td.kind n = 6 := by omega
    by_cases c3 : Td.num n ≠ (T.length : Int) + 1
    · rw [if_pos c3] at h; cases h
    rw [if_neg c3] at h
    by_cases c4 : 31 < Td.num n
    · rw [if_pos c4] at h; cases h
    rw [if_neg c4] at h
    by_cases c5 : Td.hit T (Td.name n) = true
    · rw [if_pos c5] at h; cases h
    rw [if_neg c5] at h
    obtain ⟨h1, T', e, h2⟩ := key _ _ h
    rw [List.length_append, List.length_singleton] at h1 e
    refine ⟨⟨fun _ => by omega, by rw [if_pos c2']; exact h1⟩, T', by rw [e, gc, if_pos c2']; omega, h2⟩
theorem nm_check {n : Nd} (h : Td.checkN n = 0) : Nm 1000 0 n := by
  unfold Td.checkN at h
  by_cases hd : 1000 < Td.dep 1001 n
  · rw [if_pos hd] at h; cases h
  · rw [if_neg hd] at h
    exact (nm_chk 1000 1 n [] [] (by rw [List.append_nil]; exact h)).1
/-- Pieces that begin an atom. -/
def Hk (P : List Pc) : Prop := ∃ p Q, P = p :: Q ∧ (p.2.kind = 1 ∨ p.2.kind = 4 ∨ p.2.kind = 5 ∨ p.2.kind = 9 ∨ p.2.kind = 13)
theorem Hk.app {P : List Pc} (h : Hk P) (Q : List Pc) : Hk (P ++ Q) := by
  obtain ⟨p, Q', rfl, hp⟩ := h
  exact ⟨p, Q' ++ Q, rfl, hp⟩
theorem Hk.wrap {P : List Pc} (h : Hk P) (b : Bool) : Hk (wrapP b P) := by
  cases b
  · exact h
  · exact ⟨wrapO, _, rfl, .inr (.inr (.inr (.inl rfl)))⟩
theorem Hk.kd {P : List Pc} (h : Hk P) (a : Nat) (Z : TL) : kd (plc a P ++ Z) = 1 ∨ kd (plc a P ++ Z) = 4 ∨ kd (plc a P ++ Z) = 5 ∨ kd (plc a P ++ Z) = 9 ∨ kd (plc a P ++ Z) = 13 := by
  obtain ⟨p, Q, rfl, hp⟩ := h
  exact hp
theorem hk_pc : ∀ (k : Nat) (n : Nd), ShpA k n → Hk (pcL k n)
  | 0, n, h => absurd h id
  | k + 1, n, ⟨h, hs⟩ => by
    have ih : ∀ m ∈ Td.subs n, Hk (pcL k m) := fun m hm => hk_pc k m (hs m hm)
    cases h with
    | empty => exact ⟨_, _, rfl, .inr (.inr (.inr (.inl rfl)))⟩
    | none => exact ⟨_, _, rfl, .inr (.inr (.inr (.inr rfl)))⟩
    | any => exact ⟨_, _, rfl, .inr (.inl rfl)⟩
    | set l hN h0 =>
      refine ⟨setP l, [], rfl, ?_⟩
      unfold setP
      split
      · exact .inl rfl
      · exact .inr (.inr (.inr (.inr rfl)))
    | about a ha =>
      show Hk (aboutP a)
      unfold aboutP
      repeat' split
      all_goals first | exact ⟨_, _, rfl, .inr (.inr (.inl rfl))⟩ | exact ⟨_, _, rfl, .inr (.inr (.inr (.inl rfl)))⟩
    | group a nm m hn =>
      refine ⟨openP nm, _, rfl, ?_⟩
      unfold openP
      split <;> exact .inr (.inr (.inr (.inl rfl)))
    | many K l hK h2 =>
      cases l with
      | nil => simp at h2
      | cons m l =>
        have hm := ih m (by show m ∈ m :: l; simp)
        rcases hK with rfl | rfl
        · show Hk ((m :: l).flatMap (fun m => wrapP (wrapB 7 (Td.kind m)) (pcL k m)))
          rw [List.flatMap_cons]
          exact (hm.wrap _).app _
        · cases l with
          | nil => simp at h2
          | cons m2 l =>
            show Hk (altQ ((m :: m2 :: l).map fun m => wrapP (wrapB 8 (Td.kind m)) (pcL k m)))
            rw [List.map_cons, List.map_cons, altQ]
            exact (hm.wrap _).app _
    | rep lo hi lz m hb =>
      have hm := ih m (by show m ∈ [m]; simp)
      show Hk ([m].flatMap (fun m => wrapP (wrapB 9 (Td.kind m)) (pcL k m)) ++ [timesP lo hi lz])
      rw [List.flatMap_cons]
      exact ((hm.wrap _).app _).app _
theorem Hk.no8 {P : List Pc} (h : Hk P) (a : Nat) (Z : TL) : Ps.kd (plc a P ++ Z) ≠ 8 := by have := h.kd a Z; omega
theorem rep_no {f : Int} {x : Nd} {Z : TL} (h : kd Z ≠ 8) : repT Z = Z ∧ repN f x Z = x := by
  unfold Ps.repT Ps.repN
  rw [if_neg h, if_neg h]
  exact ⟨rfl, rfl⟩
/-- What is so of a tree's tokens: as an atom, in a sequence, among alternatives. -/
structure PrN (k : Nat) (n : Nd) : Prop where
  atom : ∀ a Z f g, F0 f → Nm k g n → ¬ (7 ≤ Td.kind n) → EvT (plc a (pcL k n) ++ Z) f g (.ok n Z f (g + gc k n))
  seq : ∀ a Z f g, F0 f → Nm k g n → Td.kind n ≠ 8 → kd Z = 12 ∨ kd Z = 11 ∨ kd Z = 0 → EvS (plc a (pcL k n) ++ Z) f g [] (.ok n Z f (g + gc k n))
  alt : ∀ a Z f g, F0 f → Nm k g n → kd Z = 11 ∨ kd Z = 0 → EvA (plc a (pcL k n) ++ Z) f g [] (.ok n Z f (g + gc k n))
/-- A part that is wrapped, or need not be, as an atom. -/
theorem part_atom {k : Nat} {K : Int} {m : Nd} (ih : PrN k m) (hk : wrapB K (Td.kind m) = true ∨ ¬ (7 ≤ Td.kind m)) (a : Nat) (Z : TL) (f g : Int) (hf : F0 f) (hn : Nm k g m) :
    EvT (plc a (wrapP (wrapB K (Td.kind m)) (pcL k m)) ++ Z) f g (.ok m Z f (g + gc k m)) := by
  unfold wrapP
  cases hw : wrapB K (Td.kind m)
  · rw [if_neg (by decide)]
    exact ih.atom a Z f g hf hn (hk.resolve_left (by rw [hw]; decide))
  · rw [if_pos rfl, plc, plc_app]
    obtain ⟨b, hb⟩ : ∃ b, a + wrapO.1.length = b := ⟨_, rfl⟩
    rw [hb]
    obtain ⟨c, hc⟩ : ∃ c, b + (tB (pcL k m)).length = c := ⟨_, rfl⟩
    rw [hc, List.cons_append, List.append_assoc]
    have h1 := ih.alt b (((c : Int), Lx.closeT) :: Z) (turnP f Lx.openT) g (hf.turn rfl rfl) hn (.inl rfl)
    have h2 := EvT.open (L := ((a : Int), Lx.openT) :: (plc b (pcL k m) ++ ((c : Int), Lx.closeT) :: Z)) (f := f) (g := g) rfl (by
      show EvA (plc b (pcL k m) ++ ((c : Int), Lx.closeT) :: Z) (turnP f Lx.openT) (g + 0) [] _
      rw [Int.add_zero]; exact h1) rfl
    exact h2
/-- A repetition in a sequence. -/
theorem part_seq' {k : Nat} {m : Nd} (hs : ShpA (k + 1) m) (ihs : ∀ x ∈ Td.subs m, PrN k x) (a : Nat) (Z : TL) (f g : Int) (A : List Nd) (R : PR) (hf : F0 f) (hn : Nm (k + 1) g m) (hZ : kd Z ≠ 8) (c3 : Td.kind m = 9) (h : EvS Z f (g + gc (k + 1) m) (A ++ [m]) R) :
    EvS (plc a (pcL (k + 1) m) ++ Z) f g A R := by
  obtain ⟨hm, hss⟩ := hs
  cases hm with
  | empty => exact absurd c3 (by decide)
  | none => exact absurd c3 (by decide)
  | any => exact absurd c3 (by decide)
  | set l hN h0 => exact absurd c3 (by show ¬ (3 : Int) = 9; decide)
  | about a h => exact absurd c3 (by show ¬ (5 : Int) = 9; decide)
  | group a nm m h => exact absurd c3 (by show ¬ (6 : Int) = 9; decide)
  | many K l hK h2 => exact absurd c3 (by show ¬ K = 9; omega)
  | rep lo hi lz x hb =>
    have ex := ihs x (by show x ∈ [x]; simp)
    have hx : ShpA k x := hss x (by show x ∈ [x]; simp)
    have hpc : pcL (k + 1) (Nd.mk 9 [] 0 ⟨#[]⟩ lo hi lz [x]) = wrapP (wrapB 9 (Td.kind x)) (pcL k x) ++ [timesP lo hi lz] := by
      show [x].flatMap (fun m => wrapP (wrapB 9 (Td.kind m)) (pcL k m)) ++ [timesP lo hi lz] = _
      simp
    have hx9 : wrapB 9 (Td.kind x) = true ∨ ¬ (7 ≤ Td.kind x) := by
      cases e : wrapB 9 (Td.kind x)
      · right
        have := wrap9 e
        cases k with
        | zero => exact absurd hx id
        | succ k => have := shp_kind hx.1; omega
      · exact .inl rfl
    have hnx : Nm k g x := by
      have h9 : Nm k (g + 0) x ∧ True := hn.2
      rw [Int.add_zero] at h9
      exact h9.1
    have hgc : gc (k + 1) (Nd.mk 9 [] 0 ⟨#[]⟩ lo hi lz [x]) = gc k x := by
      rw [gc, if_neg (by show ¬ (9 : Int) = 6; decide)]
      show 0 + ([x].map (gc k)).sum = _
      simp
    rw [hgc] at h
    have hkx := ((hk_pc _ _ hx).wrap (wrapB 9 (Td.kind x)))
    rw [hpc, plc_app, List.append_assoc]
    obtain ⟨c, hc⟩ : ∃ c, a + (tB (wrapP (wrapB 9 (Td.kind x)) (pcL k x))).length = c := ⟨_, rfl⟩
    rw [hc]
    have e2 : plc c [timesP lo hi lz] ++ Z = ((c : Int), (timesP lo hi lz).2) :: Z := rfl
    rw [e2]
    have hkd2 := hkx.kd a (((c : Int), (timesP lo hi lz).2) :: Z)
    refine EvS.step (by omega) (part_atom ex hx9 a _ f g hf hnx) ?_
    have e3 : repT (((c : Int), (timesP lo hi lz).2) :: Z) = Z := rfl
    have e4 : repN f x (((c : Int), (timesP lo hi lz).2) :: Z) = Nd.mk 9 [] 0 ⟨#[]⟩ lo hi lz [x] := by
      unfold Ps.repN
      rw [if_pos (by rfl)]
      show Nd.mk 9 [] 0 ⟨#[]⟩ lo hi (lz != hasP f 8) [x] = _
      rw [hf.2.2]
      simp
    rw [e3, e4]
    exact h
/-- A part in a sequence. -/
theorem part_seq {k : Nat} {m : Nd} (ih : PrN (k + 1) m) (hs : ShpA (k + 1) m) (ihs : ∀ x ∈ Td.subs m, PrN k x) (a : Nat) (Z : TL) (f g : Int) (A : List Nd) (R : PR) (hf : F0 f) (hn : Nm (k + 1) g m) (hZ : kd Z ≠ 8) (h : EvS Z f (g + gc (k + 1) m) (A ++ [m]) R) :
    EvS (plc a (wrapP (wrapB 7 (Td.kind m)) (pcL (k + 1) m)) ++ Z) f g A R := by
  have hh := (hk_pc _ _ hs).wrap (wrapB 7 (Td.kind m))
  have hkd := hh.kd a Z
  by_cases c : wrapB 7 (Td.kind m) = true ∨ ¬ (7 ≤ Td.kind m)
  · refine EvS.step (by omega) (part_atom ih c a Z f g hf hn) ?_
    rw [(rep_no (f := f) (x := m) hZ).1, (rep_no (f := f) (x := m) hZ).2]
    exact h
  · have c1 : wrapB 7 (Td.kind m) = false := by
      cases e : wrapB 7 (Td.kind m)
      · rfl
      · exact absurd (.inl e) c
    have c2 : 7 ≤ Td.kind m := by
      rcases Int.lt_or_le (Td.kind m) 7 with e | e
      · exact absurd (.inr (by omega)) c
      · exact e
    have c3 : Td.kind m = 9 := by
      have h9 := shp_kind hs.1
      unfold wrapB at c1
      simp at c1
      omega
    rw [c1]
    exact part_seq' hs ihs a Z f g A R hf hn hZ c3 h
end Go.Proofs.YtanffablfgnioaaGreatDoor.Sh
namespace Go.Proofs.YtanffablfgnioaaGreatDoor.Sh
open Lx (Tk TR LR)
open Ps (TL PR leafN manyN kd hd altP seqP atomP joinN repT repN leafOf turnP hasP setN)
set_option linter.unusedVariables false
/-- Parts, one behind another. -/
theorem flat_seq {k : Nat} (Z : TL) (f : Int) (hf : F0 f) (hZ : kd Z = 12 ∨ kd Z = 11 ∨ kd Z = 0) : ∀ (l : List Nd) (a : Nat) (g : Int) (A : List Nd), (∀ m ∈ l, PrN (k + 1) m ∧ ShpA (k + 1) m ∧ ∀ x ∈ Td.subs m, PrN k x) → NmL (Nm (k + 1)) (gc (k + 1)) g l →
    EvS (plc a (l.flatMap (fun m => wrapP (wrapB 7 (Td.kind m)) (pcL (k + 1) m))) ++ Z) f g A (.ok (joinN 7 (A ++ l)) Z f (g + gcL (k + 1) l))
  | [], a, g, A, _, _ => by
    have h := EvS.stop (f := f) (g := g) (A := A) hZ
    rw [List.append_nil]
    show EvS Z f g A (.ok (joinN 7 A) Z f (g + 0))
    rw [Int.add_zero]
    exact h
  | m :: l, a, g, A, hl, hn => by
    obtain ⟨p1, p2, p3⟩ := hl m (by simp)
    have ih := flat_seq Z f hf hZ l (a + (tB (wrapP (wrapB 7 (Td.kind m)) (pcL (k + 1) m))).length) (g + gc (k + 1) m) (A ++ [m]) (fun x hx => hl x (by simp [hx])) hn.2
    rw [List.flatMap_cons, plc_app, List.append_assoc]
    have e1 : A ++ [m] ++ l = A ++ m :: l := by simp
    have e2 : g + gc (k + 1) m + gcL (k + 1) l = g + gcL (k + 1) (m :: l) := by unfold gcL; rw [List.map_cons, List.sum_cons]; omega
    rw [e1, e2] at ih
    refine part_seq p1 p2 p3 a _ f g A _ hf hn.1 ?_ ih
    cases l with
    | nil =>
      show kd Z ≠ 8
      omega
    | cons m2 l =>
      rw [List.flatMap_cons]
      exact (((hk_pc _ _ (hl m2 (by simp)).2.1).wrap _).app _).no8 _ _
/-- A part among alternatives. -/
theorem part_alt {k : Nat} {m : Nd} (ih : PrN k m) (hs : ShpA k m) (a : Nat) (Z : TL) (f g : Int) (hf : F0 f) (hn : Nm k g m) (hZ : kd Z = 12 ∨ kd Z = 11 ∨ kd Z = 0) : EvS (plc a (wrapP (wrapB 8 (Td.kind m)) (pcL k m)) ++ Z) f g [] (.ok m Z f (g + gc k m)) := by
  by_cases c : Td.kind m = 8
  · have hw : wrapB 8 (Td.kind m) = true := by rw [c]; rfl
    have hkd := ((hk_pc _ _ hs).wrap (wrapB 8 (Td.kind m))).kd a Z
    refine EvS.step (by omega) (part_atom ih (.inl hw) a Z f g hf hn) ?_
    have hr := rep_no (f := f) (x := m) (Z := Z) (by omega)
    rw [hr.1, hr.2]
    exact EvS.stop hZ
  · have hw : wrapB 8 (Td.kind m) = false := by unfold wrapB; simp [c]
    rw [hw]
    exact ih.seq a Z f g hf hn c hZ
/-- Alternatives. -/
theorem alt_alts {k : Nat} (Z : TL) (f : Int) (hf : F0 f) (hZ : kd Z = 11 ∨ kd Z = 0) : ∀ (l : List Nd) (a : Nat) (g : Int) (S : List Nd), l ≠ [] → (∀ m ∈ l, PrN k m ∧ ShpA k m) → NmL (Nm k) (gc k) g l →
    EvA (plc a (altQ (l.map fun m => wrapP (wrapB 8 (Td.kind m)) (pcL k m))) ++ Z) f g S (.ok (joinN 8 (S ++ l)) Z f (g + gcL k l))
  | [], _, _, _, h, _, _ => absurd rfl h
  | [m], a, g, S, _, hl, hn => by
    obtain ⟨p1, p2⟩ := hl m (by simp)
    have h := EvA.last (S := S) (part_alt p1 p2 a Z f g hf hn.1 (.inr hZ)) (by omega)
    have e : gcL k [m] = gc k m := by unfold gcL; simp
    rw [e]
    exact h
  | m :: m2 :: l, a, g, S, _, hl, hn => by
    obtain ⟨p1, p2⟩ := hl m (by simp)
    have e : altQ ((m :: m2 :: l).map fun m => wrapP (wrapB 8 (Td.kind m)) (pcL k m)) = wrapP (wrapB 8 (Td.kind m)) (pcL k m) ++ (barO :: altQ ((m2 :: l).map fun m => wrapP (wrapB 8 (Td.kind m)) (pcL k m))) := by
      simp only [List.map_cons, altQ]
    rw [e, plc_app, plc, List.append_assoc, List.cons_append]
    obtain ⟨b, hb⟩ : ∃ b, a + (tB (wrapP (wrapB 8 (Td.kind m)) (pcL k m))).length = b := ⟨_, rfl⟩
    rw [hb]
    have ih := alt_alts Z f hf hZ (m2 :: l) (b + barO.1.length) (g + gc k m) (S ++ [m]) (by simp) (fun x hx => hl x (List.mem_cons_of_mem _ hx)) hn.2
    have e1 : S ++ [m] ++ (m2 :: l) = S ++ m :: m2 :: l := by simp
    have e2 : g + gc k m + gcL k (m2 :: l) = g + gcL k (m :: m2 :: l) := by simp only [gcL, List.map_cons, List.sum_cons]; omega
    rw [e1, e2] at ih
    exact EvA.bar (part_alt p1 p2 a _ f g hf hn.1 (.inl rfl)) rfl ih
theorem join_many {K : Int} {l : List Nd} (h : 2 ≤ l.length) : joinN K ([] ++ l) = manyN K l := by
  match l, h with
  | x :: y :: l, _ => rfl
theorem gc_many {K : Int} (hK : K = 7 ∨ K = 8) (k : Nat) (l : List Nd) : gc (k + 1) (manyN K l) = gcL k l := by
  rw [gc, if_neg (by show ¬ K = 6; omega)]
  show 0 + gcL k l = _
  omega
theorem nm_many {K : Int} (hK : K = 7 ∨ K = 8) {k : Nat} {g : Int} {l : List Nd} (h : Nm (k + 1) g (manyN K l)) : NmL (Nm k) (gc k) g l := by
  have h2 := h.2
  rw [if_neg (by show ¬ K = 6; omega), Int.add_zero] at h2
  exact h2
theorem gc_leaf {n : Nd} (h6 : Td.kind n ≠ 6) (hs : Td.subs n = []) (k : Nat) : gc (k + 1) n = 0 := by
  rw [gc, if_neg h6, hs]; rfl
theorem many_flag {f : Int} (h : F0 f) : hasP (turnP f manyO.2) 2 = true := by
  rw [Ps.has_turn f _ (by simp), h.2.1]
  decide
theorem about_atom (a : Nat) (Z : TL) (f g x : Int) (hf : F0 f) (hx : 1 ≤ x ∧ x ≤ 6) : EvT (plc a (aboutP x) ++ Z) f g (.ok (leafN 5 x) Z f g) := by
  have one : ∀ c : Int, EvT (plc a [([92, c], ({ kind := 5, num := x } : Tk))] ++ Z) f g (.ok (leafN 5 x) Z f g) := fun c => EvT.leaf (by show (5 : Int) ≠ 9; decide)
  have two : ∀ (c K y : Int), (K = 6 ∧ y = 3 ∨ K = 7 ∧ y = 4) → EvT (plc a [manyO, ([c], ({ kind := K } : Tk)), clsO] ++ Z) f g (.ok (leafN 5 y) Z f g) := fun c K y hK => by
    have hm := many_flag hf
    obtain ⟨f2, hf2⟩ : ∃ f2, turnP f manyO.2 = f2 := ⟨_, rfl⟩
    rw [hf2] at hm
    obtain ⟨b, hb⟩ : ∃ b, a + manyO.1.length = b := ⟨_, rfl⟩
    obtain ⟨d, hd⟩ : ∃ d, b + [c].length = d := ⟨_, rfl⟩
    have e : plc a [manyO, ([c], ({ kind := K } : Tk)), clsO] ++ Z = ((a : Int), manyO.2) :: (((b : Int), ({ kind := K } : Tk)) :: (((d : Int), Lx.closeT) :: Z)) := by rw [← hd, ← hb]; rfl
    rw [e]
    have hl : leafOf f2 ({ kind := K } : Tk) = leafN 5 y := by
      unfold Ps.leafOf
      rcases hK with ⟨rfl, rfl⟩ | ⟨rfl, rfl⟩
      · show leafN 5 (if hasP f2 2 = true then 3 else 1) = _
        rw [if_pos hm]
      · show leafN 5 (if hasP f2 2 = true then 4 else 2) = _
        rw [if_pos hm]
    have h1 : EvT (((b : Int), ({ kind := K } : Tk)) :: (((d : Int), Lx.closeT) :: Z)) f2 g (.ok (leafN 5 y) (((d : Int), Lx.closeT) :: Z) f2 g) := by
      rw [← hl]
      exact EvT.leaf (by show K ≠ 9; omega)
    have h2 : EvS (((b : Int), ({ kind := K } : Tk)) :: (((d : Int), Lx.closeT) :: Z)) f2 g [] (.ok (leafN 5 y) (((d : Int), Lx.closeT) :: Z) f2 g) :=
      EvS.step (by show K = 1 ∨ K = 4 ∨ K = 5 ∨ K = 6 ∨ K = 7 ∨ K = 9 ∨ K = 13; omega) h1 (EvS.stop (.inr (.inl rfl)))
    have h3 := EvA.last (S := []) h2 (by show (11 : Int) ≠ 12; decide)
    have h4 := EvT.open (L := ((a : Int), manyO.2) :: (((b : Int), ({ kind := K } : Tk)) :: (((d : Int), Lx.closeT) :: Z))) (f := f) (g := g) rfl (by
      show EvA (((b : Int), ({ kind := K } : Tk)) :: (((d : Int), Lx.closeT) :: Z)) (turnP f manyO.2) (g + 0) [] _
      rw [Int.add_zero, hf2]; exact h3) rfl
    exact h4
  unfold aboutP
  rcases (show x = 1 ∨ x = 2 ∨ x = 3 ∨ x = 4 ∨ x = 5 ∨ x = 6 by omega) with rfl | rfl | rfl | rfl | rfl | rfl
  · exact one 65
  · exact one 122
  · exact two 94 6 3 (.inl ⟨rfl, rfl⟩)
  · exact two 36 7 4 (.inr ⟨rfl, rfl⟩)
  · exact one 98
  · exact one 66
theorem set_leaf {f : Int} (hf : F0 f) {l : List (Int × Int)} (hN : Rg.NormL l) (h0 : l ≠ []) : leafOf f (setP l).2 = .mk 3 l 0 ⟨#[]⟩ 0 0 false [] := by
  have hL : ∀ p ∈ l, 0 ≤ p.1 ∧ p.1 ≤ p.2 ∧ p.2 ≤ 1114111 := fun p hp => Rg.norm_lo l 0 hN p hp
  have hset : setN l = .mk 3 l 0 ⟨#[]⟩ 0 0 false [] := by
    cases l with
    | nil => exact absurd rfl h0
    | cons p l => rfl
  unfold setP
  by_cases c : l.length = 1 ∧ (l[0]?.getD (0, 0)).1 = (l[0]?.getD (0, 0)).2
  · rw [if_pos c]
    obtain ⟨x, rfl⟩ := List.length_eq_one_iff.1 c.1
    obtain ⟨lo, hi⟩ := x
    obtain rfl : lo = hi := c.2
    show setN (Ps.foldL f [(lo, lo)]) = _
    unfold Ps.foldL
    rw [hf.1, if_neg (by decide)]
    exact hset
  · rw [if_neg c]
    show setN (Ps.brkL _ (hasP f 1)) = _
    rw [hf.1, brk_rg h0 hN hL]
    exact hset
theorem pr_pc : ∀ (k : Nat) (n : Nd), ShpA k n → PrN k n
  | 0, n, h => absurd h id
  | k + 1, n, ⟨h, hs⟩ => by
    have ih : ∀ m ∈ Td.subs n, PrN k m := fun m hm => pr_pc k m (hs m hm)
    have hsn : ShpA (k + 1) n := ⟨h, hs⟩
    have atom : ∀ a Z f g, F0 f → Nm (k + 1) g n → ¬ (7 ≤ Td.kind n) → EvT (plc a (pcL (k + 1) n) ++ Z) f g (.ok n Z f (g + gc (k + 1) n)) := by
      intro a Z f g hf hn h7
      cases h with
      | empty =>
        rw [gc_leaf (by decide) rfl, Int.add_zero]
        have e : plc a (pcL (k + 1) (leafN 1 0)) ++ Z = ((a : Int), Lx.openT) :: ((((a + 3 : Nat) : Int), Lx.closeT) :: Z) := rfl
        rw [e]
        have h1 := EvA.last (S := []) (EvS.stop (L := (((a + 3 : Nat) : Int), Lx.closeT) :: Z) (f := turnP f Lx.openT) (g := g) (A := []) (.inr (.inl rfl))) (by show (11 : Int) ≠ 12; decide)
        exact EvT.open (L := ((a : Int), Lx.openT) :: ((((a + 3 : Nat) : Int), Lx.closeT) :: Z)) (f := f) (g := g) rfl (by
          show EvA _ _ (g + 0) [] _
          rw [Int.add_zero]; exact h1) rfl
      | none =>
        rw [gc_leaf (by decide) rfl, Int.add_zero]
        have e : leafOf f ({ kind := 13, name := txtB noneL } : Tk) = leafN 2 0 := by
          show setN (Ps.brkL _ (hasP f 1)) = _
          rw [hf.1, brk_none]; rfl
        have h9 : EvT (plc a [(noneL, ({ kind := 13, name := txtB noneL } : Tk))] ++ Z) f g (.ok (leafOf f ({ kind := 13, name := txtB noneL } : Tk)) Z f g) := EvT.leaf (L := plc a [(noneL, ({ kind := 13, name := txtB noneL } : Tk))] ++ Z) (by show (13 : Int) ≠ 9; decide)
        rw [e] at h9
        exact h9
      | any =>
        rw [gc_leaf (by decide) rfl, Int.add_zero]
        exact EvT.leaf (L := plc a [([92, 67], { kind := 4 })] ++ Z) (by show (4 : Int) ≠ 9; decide)
      | set l hN h0 =>
        rw [gc_leaf (by show ¬ (3 : Int) = 6; decide) rfl, Int.add_zero]
        have h9 : EvT (plc a [setP l] ++ Z) f g (.ok (leafOf f (setP l).2) Z f g) := by
          refine EvT.leaf (L := plc a [setP l] ++ Z) ?_
          show (setP l).2.kind ≠ 9
          unfold setP
          split
          · show (1 : Int) ≠ 9; decide
          · show (13 : Int) ≠ 9; decide
        rw [set_leaf hf hN h0] at h9
        exact h9
      | about x hx =>
        rw [gc_leaf (by show ¬ (5 : Int) = 6; decide) rfl, Int.add_zero]
        exact about_atom a Z f g x hf hx
      | group x nm m hnm =>
        have hx : x = g + 1 := hn.1 rfl
        have hm : Nm k (g + 1) m ∧ True := hn.2
        have hgc : gc (k + 1) (Nd.mk 6 [] x nm 0 0 false [m]) = 1 + gc k m := by
          rw [gc, if_pos (by rfl)]
          show 1 + ([m].map (gc k)).sum = _
          simp
        have ht : (openP nm).2.kind = 9 ∧ (openP nm).2.num = 1 ∧ (openP nm).2.name = nm ∧ (openP nm).2.mn = 0 ∧ (openP nm).2.mx = 0 := by
          unfold openP
          by_cases c : nm = ⟨#[]⟩
          · rw [if_pos c]; exact ⟨rfl, rfl, c.symm, rfl, rfl⟩
          · rw [if_neg c]; exact ⟨rfl, rfl, rfl, rfl, rfl⟩
        obtain ⟨b, hb⟩ : ∃ b, a + (openP nm).1.length = b := ⟨_, rfl⟩
        obtain ⟨d, hd⟩ : ∃ d, b + (tB (pcL k m)).length = d := ⟨_, rfl⟩
        have e : plc a (pcL (k + 1) (Nd.mk 6 [] x nm 0 0 false [m])) ++ Z = ((a : Int), (openP nm).2) :: (plc b (pcL k m) ++ (((d : Int), Lx.closeT) :: Z)) := by
          have e0 : pcL (k + 1) (Nd.mk 6 [] x nm 0 0 false [m]) = openP nm :: (pcL k m ++ [clsO]) := by
            show openP nm :: (([m].flatMap (pcL k) ++ [clsO])) = _
            simp
          rw [e0, plc, plc_app, hb, hd, List.cons_append, List.append_assoc]
          rfl
        rw [e, hgc]
        have h1 := (ih m (by show m ∈ [m]; simp)).alt b (((d : Int), Lx.closeT) :: Z) (turnP f (openP nm).2) (g + 1) (hf.turn ht.2.2.2.1 ht.2.2.2.2) hm.1 (.inl rfl)
        have h2 := EvT.open (L := ((a : Int), (openP nm).2) :: (plc b (pcL k m) ++ (((d : Int), Lx.closeT) :: Z))) (f := f) (g := g) ht.1 (by
          show EvA (plc b (pcL k m) ++ (((d : Int), Lx.closeT) :: Z)) (turnP f (openP nm).2) (g + (openP nm).2.num) [] _
          rw [ht.2.1]; exact h1) rfl
        have e3 : (if (Ps.hd (((a : Int), (openP nm).2) :: (plc b (pcL k m) ++ (((d : Int), Lx.closeT) :: Z)))).num = 0 then m else Nd.mk 6 [] (g + (Ps.hd (((a : Int), (openP nm).2) :: (plc b (pcL k m) ++ (((d : Int), Lx.closeT) :: Z)))).num) (Ps.hd (((a : Int), (openP nm).2) :: (plc b (pcL k m) ++ (((d : Int), Lx.closeT) :: Z)))).name 0 0 false [m]) = Nd.mk 6 [] x nm 0 0 false [m] := by
          show (if (openP nm).2.num = 0 then m else Nd.mk 6 [] (g + (openP nm).2.num) (openP nm).2.name 0 0 false [m]) = _
          rw [ht.2.1, ht.2.2.1, if_neg (by decide), hx]
        rw [e3] at h2
        rw [show g + (1 + gc k m) = g + 1 + gc k m by omega]
        exact h2
      | many K l hK h2 => exact absurd (show 7 ≤ K by omega) h7
      | rep lo hi lz m hb => exact absurd (show (7 : Int) ≤ 9 by decide) h7
    have atomP' : ∀ a Z f g, F0 f → Nm (k + 1) g n → Td.kind n ≠ 8 → kd Z = 12 ∨ kd Z = 11 ∨ kd Z = 0 → EvS (plc a (pcL (k + 1) n) ++ Z) f g [] (.ok n Z f (g + gc (k + 1) n)) := by
      intro a Z f g hf hn h8 hZ
      by_cases c7 : Td.kind n = 7
      · cases h with
        | many K l hK h2 =>
          obtain rfl : K = 7 := c7
          have hk : ∃ j, k = j + 1 := by
            cases l with
            | nil => simp at h2
            | cons m l =>
              cases k with
              | zero => exact absurd (hs m (by show m ∈ m :: l; simp)) id
              | succ j => exact ⟨j, rfl⟩
          obtain ⟨j, rfl⟩ := hk
          have hh := flat_seq (k := j) Z f hf hZ l a g [] (fun m hm => ⟨ih m hm, hs m hm, fun x hx => pr_pc j x ((hs m hm).2 x hx)⟩) (nm_many hK hn)
          rw [join_many h2, ← gc_many hK] at hh
          exact hh
        | empty => exact absurd c7 (by decide)
        | none => exact absurd c7 (by decide)
        | any => exact absurd c7 (by decide)
        | set l hN h0 => exact absurd c7 (by show ¬ (3 : Int) = 7; decide)
        | about a h => exact absurd c7 (by show ¬ (5 : Int) = 7; decide)
        | group a nm m h => exact absurd c7 (by show ¬ (6 : Int) = 7; decide)
        | rep lo hi lz m h => exact absurd c7 (by show ¬ (9 : Int) = 7; decide)
      · have hw : wrapB 7 (Td.kind n) = false := by unfold wrapB; simp [c7, h8]
        have hpr : PrN (k + 1) n ∨ True := .inr trivial
        by_cases c9 : Td.kind n = 9
        · have h5 := part_seq' hsn ih a Z f g [] (.ok (joinN 7 ([] ++ [n])) Z f (g + gc (k + 1) n)) hf hn (by omega) c9 (EvS.stop hZ)
          exact h5
        · have h7 : ¬ (7 ≤ Td.kind n) := by have := shp_kind h; omega
          have hkd := (hk_pc _ _ hsn).kd a Z
          refine EvS.step (by omega) (atom a Z f g hf hn h7) ?_
          have hr := rep_no (f := f) (x := n) (Z := Z) (by omega)
          rw [hr.1, hr.2]
          exact EvS.stop hZ
    refine ⟨atom, atomP', fun a Z f g hf hn hZ => ?_⟩
    by_cases c8 : Td.kind n = 8
    · cases h with
      | many K l hK h2 =>
        obtain rfl : K = 8 := c8
        have hh := alt_alts (k := k) Z f hf hZ l a g [] (by intro e; subst e; simp at h2) (fun m hm => ⟨ih m hm, hs m hm⟩) (nm_many hK hn)
        rw [join_many h2, ← gc_many hK] at hh
        exact hh
      | empty => exact absurd c8 (by decide)
      | none => exact absurd c8 (by decide)
      | any => exact absurd c8 (by decide)
      | set l hN h0 => exact absurd c8 (by show ¬ (3 : Int) = 8; decide)
      | about a h => exact absurd c8 (by show ¬ (5 : Int) = 8; decide)
      | group a nm m h => exact absurd c8 (by show ¬ (6 : Int) = 8; decide)
      | rep lo hi lz m h => exact absurd c8 (by show ¬ (9 : Int) = 8; decide)
    · exact EvA.last (S := []) (atomP' a Z f g hf hn c8 (.inr hZ)) (by omega)
end Go.Proofs.YtanffablfgnioaaGreatDoor.Sh
namespace Go.Proofs.YtanffablfgnioaaGreatDoor.Ps
open Lx (Tk)
set_option linter.unusedVariables false
def NZ : PR → Prop
  | .bad _ c => c ≠ 0
  | .ok _ _ _ _ => True
theorem fuel_all : ∀ n, (∀ L f g S, NZ (altP n L f g S) → altP (n + 1) L f g S = altP n L f g S) ∧ (∀ L f g A, NZ (seqP n L f g A) → seqP (n + 1) L f g A = seqP n L f g A) ∧
    (∀ L f g, NZ (atomP n L f g) → atomP (n + 1) L f g = atomP n L f g) := by
  intro n
  induction n with
  | zero => exact ⟨fun L f g S h => by rw [altP] at h; exact absurd rfl h, fun L f g A h => by rw [seqP] at h; exact absurd rfl h, fun L f g h => by rw [atomP] at h; exact absurd rfl h⟩
  | succ n ih =>
    obtain ⟨ha, hs, ht⟩ := ih
    refine ⟨fun L f g S h => ?_, fun L f g A h => ?_, fun L f g h => ?_⟩
    · rw [altP_eq n L f g S] at h
      rw [altP_eq (n + 1) L f g S, altP_eq n L f g S]
      cases hq : seqP n L f g [] with
      | bad a e =>
        rw [hq] at h
        rw [hs _ _ _ _ (by rw [hq]; exact h), hq]
      | ok x L' f' g' =>
        rw [hq] at h
        rw [hs _ _ _ _ (by rw [hq]; trivial), hq]
        dsimp only at h ⊢
        by_cases c : kd L' = 12
        · rw [if_pos c] at h
          rw [if_pos c, if_pos c]
          exact ha _ _ _ _ h
        · rw [if_neg c, if_neg c]
    · rw [seqP_eq n L f g A] at h
      rw [seqP_eq (n + 1) L f g A, seqP_eq n L f g A]
      by_cases c1 : kd L = 12 ∨ kd L = 11 ∨ kd L = 0
      · rw [if_pos c1, if_pos c1]
      rw [if_neg c1] at h
      rw [if_neg c1, if_neg c1]
      by_cases c2 : kd L = 8
      · rw [if_pos c2, if_pos c2]
      rw [if_neg c2] at h
      rw [if_neg c2, if_neg c2]
      by_cases c3 : kd L = 10
      · rw [if_pos c3] at h
        rw [if_pos c3, if_pos c3]
        exact hs _ _ _ _ h
      rw [if_neg c3] at h
      rw [if_neg c3, if_neg c3]
      cases hq : atomP n L f g with
      | bad a e =>
        rw [hq] at h
        rw [ht _ _ _ (by rw [hq]; exact h), hq]
      | ok x L' f' g' =>
        rw [hq] at h
        rw [ht _ _ _ (by rw [hq]; trivial), hq]
        exact hs _ _ _ _ h
    · rw [atomP_eq n L f g] at h
      rw [atomP_eq (n + 1) L f g, atomP_eq n L f g]
      by_cases c : kd L = 9
      · rw [if_pos c] at h
        rw [if_pos c, if_pos c]
        cases hq : altP n L.tail (turnP f (hd L)) (g + (hd L).num) [] with
        | bad a e =>
          rw [hq] at h
          rw [ha _ _ _ _ (by rw [hq]; exact h), hq]
        | ok x L' f' g' =>
          rw [ha _ _ _ _ (by rw [hq]; trivial), hq]
      · rw [if_neg c, if_neg c]
end Go.Proofs.YtanffablfgnioaaGreatDoor.Ps
