/- The binary format of programs: mathematics. · The landed wire: octet, varint. · The landed wire: sum, appendVarints. · The landed prog: opOf, instruction. · The landed wire: own. · The landed wire: fill, over octets and varints. · Functions of the library: the library's contracts, laid over this translation. · Nothing of the library is asked for here. · A range over a function whose iterator turns elder blocks (maps, rows of its own): the caller's word abides what the iterator may do (Fr); what the iterator leaves is told (S, with the world). · The landed prog: strings.Lines and its iterator. · The landed prog: the iterator of lines. · A region that draws its order, whose operations only read and whose callees make memory of their own: walked once, in the class of the worlds that have turned nothing old. · A region that draws its order, in a round of a range over a function: as outside of it, where nothing is deferred. · A region that draws its order, in a round of a range over a function, where the fence bars nothing: the plain walk that holds a word of the world serves. · Two rows of integers that a call owns, in different blocks: appending to one leaves the other. · The landed prog: guess. · The landed prog: Read. · The landed wire: what Decode needs. · The landed wire: Decode. · What Decode answers: where the bytes are an encoding, where not. · burinlaw16.VerifyBytes: the walk. -/
import Derived.Test.YtchcjinaagncjaaDoorGp5
import Derived.Test.YtchcjinaagncjaaDoorGp27
import Derived.Laws.BitsLemmas
import Derived.Laws.BitsAllLaws
import Derived.ArgAppend
import Derived.Shelf.Small.Wraps
import Derived.Test.YtchcjinaagncjaaDoorProg
import Derived.RangeFuncBox
import Derived.RangeFuncCalls
import Derived.RangeFuncNested
import Derived.RangeFuncBound
import Derived.RangeFuncLeaves
import Derived.Shelf.Abstract
import Derived.OwnWalkIn
import Derived.TacticsInMore
import Derived.LoopNIn
import Derived.LoopIn
import Derived.Test.YtchcjinaagncjaaDoorGp3
import Derived.Deep.QuietTactic
import Derived.Sort.QuietTacIn
import Derived.Deep.RegionHeld3
import Derived.Test.YtchcjinaagncjaaDoorRows
import Derived.WalkKit
import Derived.OwnWalk
import Derived.Maps.AppendAt
import Derived.Deep.AppendLies
import Derived.RangeFuncWrites
import Derived.ScopeJumps
import Derived.WalkMore
import Derived.Lib.Strings
import Derived.Test.YtchcjinaagncjaaDoorGp26
import Derived.BigQuiet
namespace Go.Proofs.YtchcjinaagncjaaDoor.Pgm
set_option linter.unusedVariables false
/-- A number's varint (numbers below 16384: one byte or two). -/
def vL (n : Int) : List UInt8 := if n < 128 then [UInt8.ofNat n.toNat] else [UInt8.ofNat (128 + n.toNat % 128), UInt8.ofNat (n.toNat / 128)]
def instW (i : In) : List UInt8 := UInt8.ofNat i.op.toNat :: (ownL i).flatMap vL
def magicL : List UInt8 := [66, 82, 49]
def bodyW (l : List In) (st sl : Int) : List UInt8 := magicL ++ ([st, sl, (l.length : Int)].flatMap vL ++ l.flatMap instW)
def xorL (s : List UInt8) : UInt8 := s.foldl (fun a b => a ^^^ b) 0
def encL (l : List In) (st sl : Int) : List UInt8 := bodyW l st sl ++ [xorL (bodyW l st sl)]
theorem xorL_snoc (s : List UInt8) (b : UInt8) : xorL (s ++ [b]) = xorL s ^^^ b := by unfold xorL; simp
theorem u8_of {b : UInt8} {n : Nat} (h : b.toNat = n) : b = UInt8.ofNat n := by
  subst h; simp
theorem ofNat_toNat8 {n : Nat} (h : n < 256) : (UInt8.ofNat n).toNat = n := by
  rw [UInt8.toNat_ofNat']; omega
/-- What is read as a varint: at most two bytes. -/
def rdT (b : UInt8) : List UInt8 → Option (Int × List UInt8)
  | [] => none
  | c :: r2 => if c.toNat < 128 ∧ 0 < c.toNat then some (((b.toNat % 128 + 128 * c.toNat : Nat) : Int), r2) else none
def rdV : List UInt8 → Option (Int × List UInt8)
  | [] => none
  | b :: r => if b.toNat < 128 then some ((b.toNat : Int), r) else rdT b r
theorem rdV_iff (s : List UInt8) (n : Int) (r : List UInt8) : rdV s = some (n, r) ↔ 0 ≤ n ∧ n < 16384 ∧ s = vL n ++ r := by
  constructor
  · intro h
    cases s with
    | nil => cases h
    | cons b t =>
      change (if b.toNat < 128 then some ((b.toNat : Int), t) else rdT b t) = _ at h
      split at h
      · rename_i hb
        injection h with h
        injection h with h1 h2
        subst h1; subst h2
        refine ⟨by omega, by omega, ?_⟩
        unfold vL
        rw [if_pos (by omega)]
        simp
      · rename_i hb
        cases t with
        | nil => cases h
        | cons c r2 =>
          change (if c.toNat < 128 ∧ 0 < c.toNat then some (((b.toNat % 128 + 128 * c.toNat : Nat) : Int), r2) else none) = _ at h
          split at h
          · rename_i hc
            injection h with h
            injection h with h1 h2
            subst h1; subst h2
            have hb8 := b.toNat_lt
            refine ⟨by omega, by omega, ?_⟩
            unfold vL
            rw [if_neg (by omega), Int.toNat_natCast]
            have e1 : b = UInt8.ofNat (128 + (b.toNat % 128 + 128 * c.toNat) % 128) := u8_of (by omega)
            have e2 : c = UInt8.ofNat ((b.toNat % 128 + 128 * c.toNat) / 128) := u8_of (by omega)
            rw [← e1, ← e2]; rfl
          · cases h
  · rintro ⟨h0, h1, rfl⟩
    unfold vL
    split
    · rename_i hn
      show (if (UInt8.ofNat n.toNat).toNat < 128 then _ else _) = _
      rw [ofNat_toNat8 (by omega), if_pos (by omega), Int.toNat_of_nonneg h0]; rfl
    · rename_i hn
      show (if (UInt8.ofNat (128 + n.toNat % 128)).toNat < 128 then _ else if (UInt8.ofNat (n.toNat / 128)).toNat < 128 ∧ 0 < (UInt8.ofNat (n.toNat / 128)).toNat then some ((((UInt8.ofNat (128 + n.toNat % 128)).toNat % 128 + 128 * (UInt8.ofNat (n.toNat / 128)).toNat : Nat) : Int), r) else none) = _
      rw [ofNat_toNat8 (by omega), ofNat_toNat8 (by omega), if_neg (by omega), if_pos (by omega)]
      have : (((128 + n.toNat % 128) % 128 + 128 * (n.toNat / 128) : Nat) : Int) = n := by omega
      rw [this]
/-- Several varints. -/
def rdVs : Nat → List UInt8 → Option (List Int × List UInt8)
  | 0, s => some ([], s)
  | k + 1, s => match rdV s with
    | none => none
    | some (n, r) => match rdVs k r with
      | none => none
      | some (ns, r2) => some (n :: ns, r2)
theorem rdVs_iff : ∀ (k : Nat) (s : List UInt8) (ns : List Int) (r : List UInt8), rdVs k s = some (ns, r) ↔ ns.length = k ∧ (∀ n ∈ ns, 0 ≤ n ∧ n < 16384) ∧ s = ns.flatMap vL ++ r
  | 0, s, ns, r => by
    unfold rdVs
    constructor
    · intro h
      injection h with h
      injection h with h1 h2
      subst h1; subst h2
      simp
    · rintro ⟨h1, _, h3⟩
      have := List.eq_nil_of_length_eq_zero h1
      subst this
      subst h3
      rfl
  | k + 1, s, ns, r => by
    unfold rdVs
    constructor
    · intro h
      split at h
      · cases h
      · rename_i n r1 h1
        split at h
        · cases h
        · rename_i ms r2 h2
          injection h with h
          injection h with h3 h4
          subst h3; subst h4
          obtain ⟨a1, a2, a3⟩ := (rdV_iff s n r1).1 h1
          obtain ⟨b1, b2, b3⟩ := (rdVs_iff k r1 ms r2).1 h2
          refine ⟨by simp [b1], ?_, by rw [a3, b3]; simp⟩
          intro m hm
          rcases List.mem_cons.1 hm with rfl | hm
          · exact ⟨a1, a2⟩
          · exact b2 m hm
    · rintro ⟨h1, h2, h3⟩
      cases ns with
      | nil => simp at h1
      | cons n ms =>
        have e1 : rdV s = some (n, ms.flatMap vL ++ r) := (rdV_iff _ _ _).2 ⟨(h2 n (by simp)).1, (h2 n (by simp)).2, by rw [h3]; simp⟩
        have e2 : rdVs k (ms.flatMap vL ++ r) = some (ms, r) := (rdVs_iff k _ _ _).2 ⟨by simpa using h1, fun m hm => h2 m (by simp [hm]), rfl⟩
        rw [e1]
        dsimp only
        rw [e2]
/-- How many fields an Op has. -/
def ownN (op : Int) : Nat := if op = 1 then 3 else if op = 2 then 2 else if op = 3 ∨ op = 4 then 2 else 0
def mkIn (op : Int) (ns : List Int) : In :=
  if op = 1 then ⟨1, ns.getD 0 0, ns.getD 1 0, ns.getD 2 0, 0⟩ else if op = 2 then ⟨2, 0, 0, ns.getD 0 0, ns.getD 1 0⟩ else
  if op = 3 ∨ op = 4 then ⟨op, ns.getD 0 0, 0, ns.getD 1 0, 0⟩ else ⟨op, 0, 0, 0, 0⟩
theorem own_len (i : In) : (ownL i).length = ownN i.op := by
  unfold ownL ownN
  split
  · rfl
  · split
    · rfl
    · split <;> rfl
theorem mkIn_op (op : Int) (ns : List Int) : (mkIn op ns).op = op := by
  unfold mkIn
  split
  · rename_i h; exact h.symm
  · split
    · rename_i h; exact h.symm
    · split <;> rfl
theorem list3 {l : List Int} (h : l.length = 3) : l = [l.getD 0 0, l.getD 1 0, l.getD 2 0] := by
  match l, h with
  | [a, b, c], _ => rfl
theorem list2 {l : List Int} (h : l.length = 2) : l = [l.getD 0 0, l.getD 1 0] := by
  match l, h with
  | [a, b], _ => rfl
theorem own_mkIn (op : Int) (ns : List Int) (h : ns.length = ownN op) : ownL (mkIn op ns) = ns := by
  unfold ownN at h
  unfold ownL
  rw [mkIn_op]
  unfold mkIn
  split
  · rename_i h1
    rw [if_pos h1] at h
    exact (list3 h).symm
  · rename_i h1
    rw [if_neg h1] at h
    split
    · rename_i h2
      rw [if_pos h2] at h
      exact (list2 h).symm
    · rename_i h2
      rw [if_neg h2] at h
      split
      · rename_i h3
        rw [if_pos h3] at h
        exact (list2 h).symm
      · rename_i h3
        rw [if_neg h3] at h
        exact (List.eq_nil_of_length_eq_zero h).symm
theorem mkIn_own {i : In} (h : Fit i) : mkIn i.op (ownL i) = i := by
  obtain ⟨op, lo, hi, x, y⟩ := i
  unfold Fit at h
  dsimp only at h
  unfold mkIn ownL
  dsimp only
  rcases h with h | h | h | h | h
  · obtain ⟨rfl, h⟩ := h
    exact In.ext' rfl rfl rfl rfl (by show 0 = y; omega)
  · obtain ⟨rfl, h⟩ := h
    exact In.ext' rfl (by show 0 = lo; omega) (by show 0 = hi; omega) rfl rfl
  · obtain ⟨rfl, h⟩ := h
    exact In.ext' rfl rfl (by show 0 = hi; omega) rfl (by show 0 = y; omega)
  · obtain ⟨rfl, h⟩ := h
    exact In.ext' rfl rfl (by show 0 = hi; omega) rfl (by show 0 = y; omega)
  · obtain ⟨h1, h⟩ := h
    rw [if_neg (by omega), if_neg (by omega), if_neg (by omega)]
    exact In.ext' rfl (by show 0 = lo; omega) (by show 0 = hi; omega) (by show 0 = x; omega) (by show 0 = y; omega)
/-- What is read as an instruction. -/
def rdI : List UInt8 → Option (In × List UInt8)
  | [] => none
  | b :: r => match rdVs (ownN (b.toNat : Int)) r with
    | none => none
    | some (ns, r2) => some (mkIn (b.toNat : Int) ns, r2)
theorem rdI_fit {i : In} (h : Fit i) (r : List UInt8) : rdI (instW i ++ r) = some (i, r) := by
  have ho := fit_op h
  have e1 : ((UInt8.ofNat i.op.toNat).toNat : Int) = i.op := by rw [ofNat_toNat8 (by omega)]; omega
  have e2 : rdVs (ownN i.op) ((ownL i).flatMap vL ++ r) = some (ownL i, r) := (rdVs_iff _ _ _ _).2 ⟨own_len i, fun n hn => ⟨(fit_own h n hn).1, by have := (fit_own h n hn).2; omega⟩, rfl⟩
  show (match rdVs (ownN ((UInt8.ofNat i.op.toNat).toNat : Int)) ((ownL i).flatMap vL ++ r) with
    | none => none
    | some (ns, r2) => some (mkIn ((UInt8.ofNat i.op.toNat).toNat : Int) ns, r2)) = _
  rw [e1, e2]
  dsimp only
  rw [mkIn_own h]
theorem rdI_some {s : List UInt8} {i : In} {r : List UInt8} (h : rdI s = some (i, r)) : s = instW i ++ r := by
  cases s with
  | nil => cases h
  | cons b t =>
    unfold rdI at h
    dsimp only at h
    split at h
    · cases h
    · rename_i ns r2 h2
      injection h with h
      injection h with h3 h4
      subst h4
      obtain ⟨a1, a2, a3⟩ := (rdVs_iff _ _ _ _).1 h2
      subst h3
      unfold instW
      rw [mkIn_op, own_mkIn _ _ a1, a3, Int.toNat_natCast]
      simp
def rdIs : Nat → List UInt8 → Option (List In × List UInt8)
  | 0, s => some ([], s)
  | k + 1, s => match rdI s with
    | none => none
    | some (i, r) => match rdIs k r with
      | none => none
      | some (l, r2) => some (i :: l, r2)
theorem rdIs_fit : ∀ (l : List In) (r : List UInt8), (∀ i ∈ l, Fit i) → rdIs l.length (l.flatMap instW ++ r) = some (l, r)
  | [], r, _ => rfl
  | i :: l, r, h => by
    show (match rdI ((i :: l).flatMap instW ++ r) with
      | none => none
      | some (i, r) => match rdIs l.length r with
        | none => none
        | some (l, r2) => some (i :: l, r2)) = _
    rw [List.flatMap_cons, List.append_assoc, rdI_fit (h i (by simp))]
    dsimp only
    rw [rdIs_fit l r (fun j hj => h j (by simp [hj]))]
theorem rdIs_some : ∀ (k : Nat) (s : List UInt8) (l : List In) (r : List UInt8), rdIs k s = some (l, r) → l.length = k ∧ s = l.flatMap instW ++ r
  | 0, s, l, r, h => by
    injection h with h
    injection h with h1 h2
    subst h1; subst h2
    simp
  | k + 1, s, l, r, h => by
    unfold rdIs at h
    split at h
    · cases h
    · rename_i i r1 h1
      split at h
      · cases h
      · rename_i l2 r2 h2
        injection h with h
        injection h with h3 h4
        subst h3; subst h4
        obtain ⟨b1, b2⟩ := rdIs_some k r1 l2 r2 h2
        refine ⟨by simp [b1], ?_⟩
        rw [rdI_some h1, b2]; simp
/-- What is read one after another, from the front. -/
theorem rdIs_snoc : ∀ (k : Nat) (s : List UInt8) (l : List In) (r : List UInt8), rdIs k s = some (l, r) → rdIs (k + 1) s = match rdI r with
    | none => none
    | some (i, r2) => some (l ++ [i], r2)
  | 0, s, l, r, h => by
    injection h with h
    injection h with h1 h2
    subst h1; subst h2
    show (match rdI s with
      | none => none
      | some (i, r) => match rdIs 0 r with
        | none => none
        | some (l, r2) => some (i :: l, r2)) = _
    cases rdI s with
    | none => rfl
    | some p => rfl
  | k + 1, s, l, r, h => by
    unfold rdIs at h
    split at h
    · cases h
    · rename_i i r1 h1
      split at h
      · cases h
      · rename_i l2 r2 h2
        injection h with h
        injection h with h3 h4
        subst h3; subst h4
        have ih := rdIs_snoc k r1 l2 r2 h2
        show (match rdI s with
          | none => none
          | some (i, r) => match rdIs (k + 1) r with
            | none => none
            | some (l, r2) => some (i :: l, r2)) = _
        rw [h1]
        dsimp only
        rw [ih]
        cases rdI r2 with
        | none => rfl
        | some p => rfl
theorem rdIs_more : ∀ (k j : Nat) (s : List UInt8), k ≤ j → rdIs k s = none → rdIs j s = none
  | 0, j, s, _, h => by cases h
  | k + 1, 0, s, hj, _ => by omega
  | k + 1, j + 1, s, hj, h => by
    unfold rdIs at h ⊢
    cases h1 : rdI s with
    | none => rfl
    | some p =>
      obtain ⟨i, r⟩ := p
      rw [h1] at h
      dsimp only at h ⊢
      cases h2 : rdIs k r with
      | none => rw [rdIs_more k j r (by omega) h2]
      | some q => rw [h2] at h; cases h
/-- What a text of bytes is decoded as. -/
def decL (s : List UInt8) : Option (List In × Int × Int) :=
  if s.take 3 = magicL ∧ xorL s = 0 then
    match rdVs 3 (s.drop 3) with
    | none => none
    | some (ns, r) => match rdIs (ns.getD 2 0).toNat r with
      | none => none
      | some (l, r2) => if r2.length = 1 ∧ Ok l (ns.getD 0 0) (ns.getD 1 0) then some (l, ns.getD 0 0, ns.getD 1 0) else none
  else none
theorem take_magic {s : List UInt8} (h : s.take 3 = magicL) : s = magicL ++ s.drop 3 := by
  rw [← h, List.take_append_drop]
theorem xor_zero {a b : UInt8} : a ^^^ b = 0 ↔ b = a := by
  constructor
  · intro h
    exact (UInt8.xor_eq_zero_iff.1 h).symm
  · rintro rfl
    exact UInt8.xor_self
theorem dec_iff (s : List UInt8) (l : List In) (st sl : Int) : decL s = some (l, st, sl) ↔ Ok l st sl ∧ encL l st sl = s := by
  constructor
  · intro h
    unfold decL at h
    split at h
    · rename_i h0
      obtain ⟨hm, hx⟩ := h0
      split at h
      · cases h
      · rename_i ns r h1
        split at h
        · cases h
        · rename_i l2 r2 h2
          split at h
          · rename_i h3
            obtain ⟨h4, h5⟩ := h3
            injection h with h
            injection h with e1 h
            injection h with e2 e3
            subst e1
            rw [e2, e3] at h5
            obtain ⟨a1, a2, a3⟩ := (rdVs_iff _ _ _ _).1 h1
            obtain ⟨b1, b2⟩ := rdIs_some _ _ _ _ h2
            have hc := (a2 (ns.getD 2 0) (by rw [list3 a1]; simp)).1
            have hns : ns = [st, sl, (l2.length : Int)] := by
              have e4 : ns.getD 2 0 = (l2.length : Int) := by omega
              rw [list3 a1, e2, e3, e4]
            have hs : s = bodyW l2 st sl ++ r2 := by
              rw [take_magic hm, a3, b2, hns]
              unfold bodyW
              simp
            refine ⟨h5, ?_⟩
            match r2, h4 with
            | [x], _ =>
              rw [hs, xorL_snoc] at hx
              have := xor_zero.1 hx
              unfold encL
              rw [hs, this]
          · cases h
    · cases h
  · rintro ⟨hok, rfl⟩
    have ht : (encL l st sl).take 3 = magicL := by unfold encL bodyW; rfl
    have hd : (encL l st sl).drop 3 = [st, sl, (l.length : Int)].flatMap vL ++ (l.flatMap instW ++ [xorL (bodyW l st sl)]) := by
      unfold encL
      conv => lhs; arg 2; arg 1; unfold bodyW
      simp [magicL]
    have hx : xorL (encL l st sl) = 0 := by
      unfold encL
      rw [xorL_snoc]
      exact UInt8.xor_self
    have hok' := hok
    obtain ⟨o1, o2, o3, o4, o5, o6, _⟩ := hok'
    have h1 : rdVs 3 ((encL l st sl).drop 3) = some ([st, sl, (l.length : Int)], l.flatMap instW ++ [xorL (bodyW l st sl)]) := (rdVs_iff _ _ _ _).2 ⟨rfl, by
      intro n hn
      simp only [List.mem_cons, List.not_mem_nil, or_false] at hn
      omega, hd⟩
    have h2 : rdIs l.length (l.flatMap instW ++ [xorL (bodyW l st sl)]) = some (l, [xorL (bodyW l st sl)]) := rdIs_fit l _ (ok_fit hok)
    unfold decL
    rw [if_pos ⟨ht, hx⟩, h1]
    dsimp only
    show (match rdIs ((l.length : Int)).toNat _ with
      | none => none
      | some (l, r2) => if r2.length = 1 ∧ Ok l st sl then some (l, st, sl) else none) = _
    rw [Int.toNat_natCast, h2]
    dsimp only
    rw [if_pos ⟨rfl, hok⟩]
end Go.Proofs.YtchcjinaagncjaaDoor.Pgm
namespace Go.Proofs.YtchcjinaagncjaaDoor
open Go.RowKit
set_option linter.unusedVariables false
namespace Pgm
/-- The reader's box at R: what is left to read. -/
def RdrAt (W : World) (R : Nat) (s : List UInt8) : Prop := W.heap[R]? = some (.cells #[.string (txB s)] 98 (0, 0))
/-- An integer's place that may be written. -/
structure PlAt (W : World) (b o : Nat) : Prop where
  at_ : ∃ cs t, W.heap[b]? = some (.cells cs t (0, 0)) ∧ ∃ z : Int, cs[o]? = some (.int .i64 z)
theorem PlAt.cell {W : World} {b o : Nat} (h : PlAt W b o) : ∃ z : Int, W.cell? ⟨b, o, none⟩ = some (.int .i64 z) := by
  obtain ⟨cs, t, h1, z, h2⟩ := h.at_
  exact ⟨z, by simp [World.cell?, h1, h2]⟩
theorem PlAt.frozen {W : World} {b o : Nat} (h : PlAt W b o) : W.frozen? ⟨b, o, none⟩ = false := by
  obtain ⟨cs, t, h1, z, h2⟩ := h.at_
  simp [World.frozen?, h1]
theorem PlAt.lt {W : World} {b o : Nat} (h : PlAt W b o) : b < W.heap.size := by
  obtain ⟨cs, t, h1, z, h2⟩ := h.at_
  exact (Array.getElem?_eq_some_iff.1 h1).1
theorem PlAt.of {W W' : World} {b o : Nat} (h : PlAt W b o) (e : W'.heap[b]? = W.heap[b]?) : PlAt W' b o := by
  obtain ⟨cs, t, h1, h2⟩ := h.at_
  exact ⟨cs, t, e.trans h1, h2⟩
theorem heap_set_eq {X Y : World} {k : Nat} (h : X.heap[k]? = Y.heap[k]?) (a : Addr) (v : Value) : (X.setCell a v).heap[k]? = (Y.setCell a v).heap[k]? := by
  by_cases e : a.block = k
  · simp only [World.setCell, Array.getElem?_modify, e, if_true, h]
  · rw [Below.heap_setCell _ _ _ _ (fun q => e q.symm), Below.heap_setCell _ _ _ _ (fun q => e q.symm), h]
theorem set_size (X : World) (a : Addr) (v : Value) : (X.setCell a v).heap.size = X.heap.size := by simp [World.setCell]
theorem PlAt.set {W : World} {b o : Nat} (h : PlAt W b o) (b' o' : Nat) (n : Int) : PlAt (W.setCell ⟨b', o', none⟩ (.int .i64 n)) b o := by
  obtain ⟨cs, t, h1, z, h2⟩ := h.at_
  by_cases e : b = b'
  · subst e
    refine ⟨cs.setIfInBounds o' (.int .i64 n), t, heap_setCell_same W b o' _ _ _ h1, ?_⟩
    rw [Array.getElem?_setIfInBounds]
    split
    · rename_i e2
      subst e2
      have := (Array.getElem?_eq_some_iff.1 h2).1
      rw [if_pos this]
      exact ⟨n, rfl⟩
    · exact ⟨z, h2⟩
  · exact ⟨cs, t, (Below.heap_setCell _ _ _ _ e).trans h1, z, h2⟩
theorem RdrAt.lt {W : World} {R : Nat} {s : List UInt8} (h : RdrAt W R s) : R < W.heap.size := (Array.getElem?_eq_some_iff.1 h).1
theorem txB_tail (c : UInt8) (r : List UInt8) : (txB (c :: r)).extract 1 (txB (c :: r)).size = txB r := by
  apply ByteArray.ext
  rw [ByteArray.data_extract]
  apply Array.ext'
  simp [txB, ByteArray.size]
theorem toList_txB (l : List UInt8) : (txB l).toList = l := by
  rw [ByteArray.toList_eq]
  simp [txB]
theorem txB_ne (c : UInt8) (r : List UInt8) : (txB (c :: r)).toList.isEmpty = false ∧ ¬ (txB (c :: r)).toList = [] := by
  rw [toList_txB]
  exact ⟨rfl, by simp⟩
set_option maxRecDepth 100000 in
set_option maxHeartbeats 4000000 in
theorem octet_none (W : World) (R b o : Nat) (hr : RdrAt W R []) : Calls Tryd.prog 61 #[.pointer (some ⟨R, 0, none⟩), .pointer (some ⟨b, o, none⟩)] W fun e w' => e = .returned (.bool false) ∧ W = w' := by
  have c0 := blkp hr 0
  simp only [List.getElem?_toArray, List.getElem?_cons_zero] at c0
  have e0 : txB [] = (⟨#[]⟩ : ByteArray) := rfl
  rw [e0] at c0
  clear e0
  go_enter Tryd.func61, Tryd.ntmps61
  go_wp2
  go_ret
  exact ⟨rfl, rfl⟩
set_option maxRecDepth 100000 in
set_option maxHeartbeats 4000000 in
theorem octet_some (W : World) (R b o : Nat) (c : UInt8) (r : List UInt8) (hl : r.length ≤ 1000000) (hr : RdrAt W R (c :: r)) (hp : PlAt W b o) (hne : R ≠ b) :
    Calls Tryd.prog 61 #[.pointer (some ⟨R, 0, none⟩), .pointer (some ⟨b, o, none⟩)] W fun e w' => e = .returned (.bool true) ∧ w' = (W.setCell ⟨b, o, none⟩ (.int .i64 c.toNat)).setCell ⟨R, 0, none⟩ (.string (txB r)) := by
  have c0 := blkp hr 0
  simp only [List.getElem?_toArray, List.getElem?_cons_zero] at c0
  have f0 : W.frozen? ⟨R, 0, none⟩ = false := by simp [World.frozen?, show W.heap[R]? = _ from hr]
  obtain ⟨z, hz⟩ := hp.cell
  have hf := hp.frozen
  have hlt := hp.lt
  have hRl := hr.lt
  obtain ⟨V, hV⟩ : ∃ V, W.setCell ⟨b, o, none⟩ (.int .i64 c.toNat) = V := ⟨_, rfl⟩
  have hrV : RdrAt V R (c :: r) := by rw [← hV]; exact (Below.heap_setCell _ _ _ _ hne).trans hr
  have c1 := blkp hrV 0
  simp only [List.getElem?_toArray, List.getElem?_cons_zero] at c1
  have f1 : V.frozen? ⟨R, 0, none⟩ = false := by simp [World.frozen?, show V.heap[R]? = _ from hrV]
  have hsz : (txB (c :: r)).size = r.length + 1 := by rw [txB_size]; rfl
  have hx := txB_tail c r
  obtain ⟨hnm, hnm2⟩ := txB_ne c r
  have hg : (txB (c :: r))[0]'(by rw [hsz]; omega) = c := by simp [txB]; rfl
  have hcb := c.toNat_lt
  obtain ⟨T, hT⟩ : ∃ T, txB (c :: r) = T := ⟨_, rfl⟩
  have j0 : 0 < T.size := by rw [← hT, hsz]; omega
  have i0 : (0 : Int) < (T.size : Int) := by omega
  have i1 : (1 : Int) ≤ (T.size : Int) := by omega
  have j1 : T.size ≤ 1000001 := by rw [← hT, hsz]; omega
  have hg2 : T[0]'j0 = c := by subst hT; exact hg
  rw [hT] at c0 c1 hx hnm hnm2
  clear hr hp hT hg hsz hrV
  go_enter Tryd.func61, Tryd.ntmps61
  go_wp2
  go_ret
  exact ⟨rfl, by rw [hV]⟩
theorem wraps62 (n : Int) (h0 : 0 ≤ n) (h1 : n < 2 ^ 62) : IntKind.i64.wrap n = n := by rw [IntKind.wrap_i64]; omega
theorem or_zero (c : Nat) (h : c < 128) : bits .or .i64 0 (c : Int) = (c : Int) := by
  have := (bits_nat .i64 62 (by decide) wraps62 0 c (by decide) (by omega)).2
  rw [show ((0 : Nat) : Int) = 0 from rfl] at this
  rw [this]; simp
theorem or_two (a b : Nat) (ha : a < 128) (hb : b < 128) : bits .or .i64 (a : Int) ((b : Int) * 128) = ((a + 128 * b : Nat) : Int) := by
  have e : ((b : Int) * 128) = ((2 ^ 7 * b : Nat) : Int) := by omega
  rw [e, (bits_nat .i64 62 (by decide) wraps62 a _ (by omega) (by omega)).2]
  have h2 := Nat.two_pow_add_eq_or_of_lt (i := 7) (b := a) (by omega) b
  rw [Nat.or_comm, ← h2]
  omega
/-- What varint does. -/
def VarPost (W : World) (R b o : Nat) (s : List UInt8) (e : Ending) (w' : World) : Prop :=
  (∃ n r, rdV s = some (n, r) ∧ e = .returned (.bool true) ∧ RdrAt w' R r ∧ (W.setCell ⟨b, o, none⟩ (.int .i64 n)).grownBy w' (some R)) ∨
  (rdV s = none ∧ e = .returned (.bool false) ∧ ∀ base, base ≤ R → base ≤ b → Below base W w')
theorem grown_set' {V W : World} {R : Nat} (h : V.grownBy W (some R)) (v : Value) : V.grownBy (W.setCell ⟨R, 0, none⟩ v) (some R) :=
  ⟨h.os, h.tape, h.output, by rw [set_size]; exact h.size, fun k hk hne => (Below.heap_setCell _ _ _ _ (fun e => hne (by rw [e]))).trans (h.block k hk hne)⟩
theorem grown_cong {X Y Z : World} {R b o : Nat} {v : Value} (h : X.grownBy Y (some R)) (hZ : Y.setCell ⟨b, o, none⟩ v = Z) : (X.setCell ⟨b, o, none⟩ v).grownBy Z (some R) := by
  subst hZ
  exact ⟨h.os, h.tape, h.output, by rw [set_size, set_size]; exact h.size, fun k hk hne => heap_set_eq (h.block k (by rw [set_size] at hk; exact hk) hne) _ _⟩
theorem below_set {W : World} {base b o : Nat} (v : Value) (h : base ≤ b) : Below base W (W.setCell ⟨b, o, none⟩ v) :=
  ⟨rfl, rfl, rfl, by rw [set_size]; exact Nat.le_refl _, fun k hk => Below.heap_setCell _ _ _ _ (by show k ≠ b; omega)⟩
/-- What stands behind an octet that is read into a box of one's own. -/
structure Got (W W2 : World) (R b o B : Nat) (c : UInt8) (r : List UInt8) : Prop where
  cell : W2.cell? ⟨B, 0, none⟩ = some (.int .i64 c.toNat)
  rdr : RdrAt W2 R r
  pl : PlAt W2 b o
  gr : W.grownBy W2 (some R)
  lt : B < W2.heap.size
theorem got_of {W0 W W1 : World} {R b o : Nat} {c : UInt8} {r : List UInt8} (hr : RdrAt W R (c :: r)) (hp : PlAt W b o) (hne : R ≠ b) (h0 : W0.grownBy W (some R)) (hW1 : W.alloc (.cells #[.int .i64 0] 3) = W1) :
    RdrAt W1 R (c :: r) ∧ PlAt W1 W.heap.size 0 ∧ R ≠ W.heap.size ∧ Got W0 ((W1.setCell ⟨W.heap.size, 0, none⟩ (.int .i64 c.toNat)).setCell ⟨R, 0, none⟩ (.string (txB r))) R b o W.heap.size c r := by
  have hRl := hr.lt
  have hbl := hp.lt
  have hnew : W1.heap[W.heap.size]? = some (.cells #[.int .i64 0] 3 (0, 0)) := by rw [← hW1]; exact heap_alloc_new W _
  have hold : ∀ k, k < W.heap.size → W1.heap[k]? = W.heap[k]? := fun k hk => by rw [← hW1]; exact Below.heap_alloc _ _ _ hk
  have hsz : W1.heap.size = W.heap.size + 1 := by rw [← hW1]; simp
  have hR1 : RdrAt W1 R (c :: r) := (hold R hRl).trans hr
  have hP1 : PlAt W1 W.heap.size 0 := ⟨_, _, hnew, 0, rfl⟩
  have hne2 : R ≠ W.heap.size := by omega
  have hne3 : b ≠ W.heap.size := by omega
  have s1 := heap_setCell_same W1 W.heap.size 0 _ _ (.int .i64 (c.toNat : Int)) hnew
  have s2 : (W1.setCell ⟨W.heap.size, 0, none⟩ (.int .i64 c.toNat)).heap[R]? = some (.cells #[.string (txB (c :: r))] 98 (0, 0)) := (Below.heap_setCell _ _ _ _ hne2).trans hR1
  have s3 := heap_setCell_same (W1.setCell ⟨W.heap.size, 0, none⟩ (.int .i64 (c.toNat : Int))) R 0 _ _ (.string (txB r)) s2
  have s4 : ((W1.setCell ⟨W.heap.size, 0, none⟩ (.int .i64 c.toNat)).setCell ⟨R, 0, none⟩ (.string (txB r))).heap[W.heap.size]? = _ := (Below.heap_setCell _ _ _ _ (fun e => hne2 e.symm)).trans s1
  refine ⟨hR1, hP1, hne2, ?_, ?_, ?_, ?_, ?_⟩
  · simp [World.cell?, s4]
  · have s5 := s3
    simp only [List.setIfInBounds_toArray, List.set_cons_zero] at s5
    exact s5
  · refine hp.of ?_
    exact (Below.heap_setCell _ _ _ _ (fun e => hne e.symm)).trans ((Below.heap_setCell _ _ _ _ hne3).trans (hold b hbl))
  · refine ⟨?_, ?_, ?_, ?_, fun k hk hk2 => ?_⟩
    · show W1.os = _; rw [← hW1]; exact h0.os
    · show W1.tape = _; rw [← hW1]; exact h0.tape
    · show W1.output = _; rw [← hW1]; exact h0.output
    · rw [set_size, set_size, hsz]; have := h0.size; omega
    · have hkW : k < W.heap.size := Nat.lt_of_lt_of_le hk h0.size
      exact (Below.heap_setCell _ _ _ _ (fun e => hk2 (by rw [e]))).trans ((Below.heap_setCell _ _ _ _ (by show k ≠ W.heap.size; omega)).trans ((hold k hkW).trans (h0.block k hk hk2)))
  · rw [set_size, set_size, hsz]; omega
theorem grown_self (W : World) (R : Nat) : W.grownBy W (some R) := ⟨rfl, rfl, rfl, Nat.le_refl _, fun _ _ _ => rfl⟩
theorem below_grown {W W' : World} {R base : Nat} (h : W.grownBy W' (some R)) (hb : base ≤ R) (hs : base ≤ W.heap.size) : Below base W W' := (Below.refl base W).grown h hs (fun j hj => by injection hj; omega)
set_option maxRecDepth 100000 in
set_option maxHeartbeats 4000000 in
theorem varint_0 (W : World) (R b o : Nat) (hr : RdrAt W R []) : Calls Tryd.prog 60 #[.pointer (some ⟨R, 0, none⟩), .pointer (some ⟨b, o, none⟩)] W (VarPost W R b o []) := by
  have hRl := hr.lt
  obtain ⟨W1, hW1⟩ : ∃ W1, W.alloc (.cells #[.int .i64 0] 3) = W1 := ⟨_, rfl⟩
  have HR1 : Hid (RdrAt W1 R []) := Lib.hid (by rw [← hW1]; exact (Below.heap_alloc _ _ _ hRl).trans hr)
  have HB : Hid (∀ base, base ≤ R → base ≤ b → Below base W W1) := Lib.hid (fun base h1 h2 => by rw [← hW1]; exact (Below.refl _ _).alloc (by omega) _)
  have HW := Lib.hid hW1
  clear hW1 hr
  go_enter Tryd.func60, Tryd.ntmps60
  go_wp2
  refine wp_loop_rounds 1 ?_
  rw [rounds_succ]
  go_wp2_with (go_at_call 61; rw [HW.out]; refine (octet_none W1 R _ _ HR1.out).mono ?_; rintro e w' ⟨rfl, rfl⟩)
  go_ret
  exact .inr ⟨rfl, rfl, HB.out⟩
set_option maxRecDepth 100000 in
set_option maxHeartbeats 4000000 in
theorem varint_1 (W : World) (R b o : Nat) (c : UInt8) (r : List UInt8) (hc : c.toNat < 128) (hl : r.length ≤ 1000000) (hr : RdrAt W R (c :: r)) (hp : PlAt W b o) (hne : R ≠ b) : Calls Tryd.prog 60 #[.pointer (some ⟨R, 0, none⟩), .pointer (some ⟨b, o, none⟩)] W (VarPost W R b o (c :: r)) := by
  obtain ⟨W1, hW1⟩ : ∃ W1, W.alloc (.cells #[.int .i64 0] 3) = W1 := ⟨_, rfl⟩
  obtain ⟨hR1, hP1, hne2, hG⟩ := got_of hr hp hne (grown_self W R) hW1
  have HC := Lib.hid (octet_some W1 R W.heap.size 0 c r hl hR1 hP1 hne2)
  obtain ⟨W2, hW2⟩ : ∃ W2, (W1.setCell ⟨W.heap.size, 0, none⟩ (.int .i64 c.toNat)).setCell ⟨R, 0, none⟩ (.string (txB r)) = W2 := ⟨_, rfl⟩
  rw [hW2] at HC hG
  have HG := Lib.hid hG
  have HW := Lib.hid hW1
  have c0 := hG.cell
  obtain ⟨z, hz⟩ := hG.pl.cell
  have hf := hG.pl.frozen
  have hlt := hG.pl.lt
  have hlb := hG.lt
  have hRD : Hid (rdV (c :: r) = some ((c.toNat : Int), r)) := Lib.hid (by show (if _ then _ else _) = _; rw [if_pos hc])
  obtain ⟨k, hk⟩ : ∃ k, c.toNat = k := ⟨_, rfl⟩
  rw [hk] at c0 hc hRD
  have hbne : b ≠ W.heap.size := by have := hp.lt; omega
  obtain ⟨V2, hV2⟩ : ∃ V2, W2.setCell ⟨b, o, none⟩ (.int .i64 (k : Int)) = V2 := ⟨_, rfl⟩
  have c1 : V2.cell? ⟨W.heap.size, 0, none⟩ = some (.int .i64 (k : Int)) := by rw [← hV2]; exact (World.cell?_setCell_other _ _ _ _ (fun e => hbne (congrArg Addr.block e))).trans c0
  have HF : Hid (RdrAt V2 R r ∧ (W.setCell ⟨b, o, none⟩ (.int .i64 (k : Int))).grownBy V2 (some R)) := Lib.hid ⟨by rw [← hV2]; exact (Below.heap_setCell _ _ _ _ hne).trans hG.rdr, grown_cong hG.gr hV2⟩
  have hor := or_zero k hc
  have hkm : (k : Int).tmod 128 = (k : Int) := by rw [Int.tmod_eq_emod_of_nonneg (by omega)]; omega
  have hki : (k : Int) < 128 := by omega
  clear hW1 hW2 hr hp hR1 hP1 hG hl
  go_enter Tryd.func60, Tryd.ntmps60
  go_wp2
  refine wp_loop_rounds 1 ?_
  rw [rounds_succ]
  go_wp2_with (go_at_call 61; rw [HW.out]; refine HC.out.mono ?_; rintro e w' ⟨rfl, rfl⟩)
  all_goals
    go_ret
    exact .inl ⟨_, _, hRD.out, rfl, HF.out.1, HF.out.2⟩
set_option maxRecDepth 100000 in
set_option maxHeartbeats 4000000 in
theorem varint_2 (W : World) (R b o : Nat) (c : UInt8) (hc : ¬ c.toNat < 128) (hr : RdrAt W R [c]) (hp : PlAt W b o) (hne : R ≠ b) : Calls Tryd.prog 60 #[.pointer (some ⟨R, 0, none⟩), .pointer (some ⟨b, o, none⟩)] W (VarPost W R b o [c]) := by
  obtain ⟨W1, hW1⟩ : ∃ W1, W.alloc (.cells #[.int .i64 0] 3) = W1 := ⟨_, rfl⟩
  obtain ⟨hR1, hP1, hne2, hG⟩ := got_of hr hp hne (grown_self W R) hW1
  have HC := Lib.hid (octet_some W1 R W.heap.size 0 c [] (by simp) hR1 hP1 hne2)
  obtain ⟨W2, hW2⟩ : ∃ W2, (W1.setCell ⟨W.heap.size, 0, none⟩ (.int .i64 c.toNat)).setCell ⟨R, 0, none⟩ (.string (txB [])) = W2 := ⟨_, rfl⟩
  rw [hW2] at HC hG
  have HW := Lib.hid hW1
  have c0 := hG.cell
  have hRW := hr.lt
  have hpl := hp.lt
  obtain ⟨W3, hW3⟩ : ∃ W3, W2.alloc (.cells #[.int .i64 0] 3) = W3 := ⟨_, rfl⟩
  have HR3 : Hid (RdrAt W3 R []) := Lib.hid (by rw [← hW3]; exact (Below.heap_alloc _ _ _ hG.rdr.lt).trans hG.rdr)
  have HB : Hid (∀ base, base ≤ R → base ≤ b → Below base W W3) := Lib.hid (fun base h1 h2 => by
    rw [← hW3]
    exact (below_grown hG.gr h1 (by omega)).alloc (by have := hG.gr.size; omega) _)
  have HW3 := Lib.hid hW3
  have HRD : Hid (rdV [c] = none) := Lib.hid (by show (if _ then _ else _) = _; rw [if_neg hc]; rfl)
  have hcb := c.toNat_lt
  obtain ⟨k, hk⟩ : ∃ k, c.toNat = k := ⟨_, rfl⟩
  rw [hk] at c0 hc hcb
  obtain ⟨d, hd⟩ : ∃ d, k % 128 = d := ⟨_, rfl⟩
  have hd1 : d < 128 := by omega
  have hor := or_zero d hd1
  have hkm : (k : Int).tmod 128 = (d : Int) := by rw [Int.tmod_eq_emod_of_nonneg (by omega)]; omega
  have hki : ¬ (k : Int) < 128 := by omega
  clear hW1 hW2 hr hp hR1 hP1 hG hW3 hd hk hc hcb
  go_enter Tryd.func60, Tryd.ntmps60
  go_wp2
  refine wp_loop_rounds 2 ?_
  rw [rounds_succ]
  go_wp2_with (go_at_call 61; rw [HW.out]; refine HC.out.mono ?_; rintro e w' ⟨rfl, rfl⟩)
  rw [rounds_succ]
  go_wp2_with (go_at_call 61; rw [HW3.out]; refine (octet_none W3 R _ _ HR3.out).mono ?_; rintro e w' ⟨rfl, rfl⟩)
  go_ret
  exact .inr ⟨HRD.out, rfl, HB.out⟩
set_option maxRecDepth 100000 in
set_option maxHeartbeats 4000000 in
theorem varint_3 (W : World) (R b o : Nat) (c c2 : UInt8) (r : List UInt8) (hc : ¬ c.toNat < 128) (hc2 : c2.toNat < 128) (hl : r.length ≤ 900000) (hr : RdrAt W R (c :: c2 :: r)) (hp : PlAt W b o) (hne : R ≠ b) : Calls Tryd.prog 60 #[.pointer (some ⟨R, 0, none⟩), .pointer (some ⟨b, o, none⟩)] W (VarPost W R b o (c :: c2 :: r)) := by
  obtain ⟨W1, hW1⟩ : ∃ W1, W.alloc (.cells #[.int .i64 0] 3) = W1 := ⟨_, rfl⟩
  obtain ⟨hR1, hP1, hne2, hG⟩ := got_of hr hp hne (grown_self W R) hW1
  have HC := Lib.hid (octet_some W1 R W.heap.size 0 c (c2 :: r) (by simp; omega) hR1 hP1 hne2)
  obtain ⟨W2, hW2⟩ : ∃ W2, (W1.setCell ⟨W.heap.size, 0, none⟩ (.int .i64 c.toNat)).setCell ⟨R, 0, none⟩ (.string (txB (c2 :: r))) = W2 := ⟨_, rfl⟩
  rw [hW2] at HC hG
  have HW := Lib.hid hW1
  have c0 := hG.cell
  have hRW := hr.lt
  have hpl := hp.lt
  obtain ⟨W3, hW3⟩ : ∃ W3, W2.alloc (.cells #[.int .i64 0] 3) = W3 := ⟨_, rfl⟩
  obtain ⟨hR3, hP3, hne4, hG3⟩ := got_of hG.rdr hG.pl hne hG.gr hW3
  have HC3 := Lib.hid (octet_some W3 R W2.heap.size 0 c2 r (by omega) hR3 hP3 hne4)
  obtain ⟨W4, hW4⟩ : ∃ W4, (W3.setCell ⟨W2.heap.size, 0, none⟩ (.int .i64 c2.toNat)).setCell ⟨R, 0, none⟩ (.string (txB r)) = W4 := ⟨_, rfl⟩
  rw [hW4] at HC3 hG3
  have HW3 := Lib.hid hW3
  have c4 := hG3.cell
  obtain ⟨z, hz⟩ := hG3.pl.cell
  have hf := hG3.pl.frozen
  have hlt := hG3.pl.lt
  have hlb := hG3.lt
  obtain ⟨n, hn⟩ : ∃ n : Nat, c.toNat % 128 + 128 * c2.toNat = n := ⟨_, rfl⟩
  have HRD : Hid (rdV (c :: c2 :: r) = if 0 < c2.toNat then some ((n : Int), r) else none) := Lib.hid (by
    show (if _ then _ else (if _ then _ else _)) = _
    rw [if_neg hc, hn]
    by_cases h0 : 0 < c2.toNat
    · rw [if_pos ⟨hc2, h0⟩, if_pos h0]
    · rw [if_neg (fun h => h0 h.2), if_neg h0])
  have hcb := c.toNat_lt
  obtain ⟨k, hk⟩ : ∃ k, c.toNat = k := ⟨_, rfl⟩
  rw [hk] at c0 hc hcb hn
  obtain ⟨q, hq⟩ : ∃ q, c2.toNat = q := ⟨_, rfl⟩
  rw [hq] at c4 hc2 hn HRD
  have hbne : b ≠ W2.heap.size := by have := hG.gr.size; omega
  obtain ⟨V2, hV2⟩ : ∃ V2, W4.setCell ⟨b, o, none⟩ (.int .i64 (n : Int)) = V2 := ⟨_, rfl⟩
  have c5 : V2.cell? ⟨W2.heap.size, 0, none⟩ = some (.int .i64 (q : Int)) := by rw [← hV2]; exact (World.cell?_setCell_other _ _ _ _ (fun e => hbne (congrArg Addr.block e))).trans c4
  have HF : Hid (RdrAt V2 R r ∧ (W.setCell ⟨b, o, none⟩ (.int .i64 (n : Int))).grownBy V2 (some R)) := Lib.hid ⟨by rw [← hV2]; exact (Below.heap_setCell _ _ _ _ hne).trans hG3.rdr, grown_cong hG3.gr hV2⟩
  have HB : Hid (∀ base, base ≤ R → base ≤ b → Below base W V2) := Lib.hid (fun base h1 h2 => by
    rw [← hV2]
    exact (below_grown hG3.gr h1 (by omega)).trans (below_set _ h2))
  obtain ⟨d, hd⟩ : ∃ d, k % 128 = d := ⟨_, rfl⟩
  have hd1 : d < 128 := by omega
  rw [hd] at hn
  have hor := or_zero d hd1
  have hor2 := or_two d q hd1 hc2
  rw [hn] at hor2
  have hkm : (k : Int).tmod 128 = (d : Int) := by rw [Int.tmod_eq_emod_of_nonneg (by omega)]; omega
  have hqm : (q : Int).tmod 128 = (q : Int) := by rw [Int.tmod_eq_emod_of_nonneg (by omega)]; omega
  have hki : ¬ (k : Int) < 128 := by omega
  have hqi : (q : Int) < 128 := by omega
  have hsh : IntKind.i64.wrap ((q : Int) * 128) = (q : Int) * 128 := by rw [IntKind.wrap_i64]; omega
  clear hW1 hW2 hr hp hR1 hP1 hG hW3 hd hk hc hcb hW4 hR3 hP3 hG3 hl hq
  by_cases h0 : 0 < q
  · have h0i : (0 : Int) < (q : Int) := by omega
    rw [if_pos h0] at HRD
    go_enter Tryd.func60, Tryd.ntmps60
    go_wp2
    refine wp_loop_rounds 2 ?_
    rw [rounds_succ]
    go_wp2_with (go_at_call 61; rw [HW.out]; refine HC.out.mono ?_; rintro e w' ⟨rfl, rfl⟩)
    rw [rounds_succ]
    go_wp2_with (go_at_call 61; rw [HW3.out]; refine HC3.out.mono ?_; rintro e w' ⟨rfl, rfl⟩)
    go_ret
    exact .inl ⟨_, _, HRD.out, rfl, HF.out.1, HF.out.2⟩
  · have h0i : ¬ (0 : Int) < (q : Int) := by omega
    rw [if_neg h0] at HRD
    go_enter Tryd.func60, Tryd.ntmps60
    go_wp2
    refine wp_loop_rounds 2 ?_
    rw [rounds_succ]
    go_wp2_with (go_at_call 61; rw [HW.out]; refine HC.out.mono ?_; rintro e w' ⟨rfl, rfl⟩)
    rw [rounds_succ]
    go_wp2_with (go_at_call 61; rw [HW3.out]; refine HC3.out.mono ?_; rintro e w' ⟨rfl, rfl⟩)
    go_ret
    exact .inr ⟨HRD.out, rfl, HB.out⟩
set_option maxRecDepth 100000 in
set_option maxHeartbeats 4000000 in
theorem varint_4 (W : World) (R b o : Nat) (c c2 : UInt8) (r : List UInt8) (hc : ¬ c.toNat < 128) (hc2 : ¬ c2.toNat < 128) (hl : r.length ≤ 900000) (hr : RdrAt W R (c :: c2 :: r)) (hp : PlAt W b o) (hne : R ≠ b) : Calls Tryd.prog 60 #[.pointer (some ⟨R, 0, none⟩), .pointer (some ⟨b, o, none⟩)] W (VarPost W R b o (c :: c2 :: r)) := by
  obtain ⟨W1, hW1⟩ : ∃ W1, W.alloc (.cells #[.int .i64 0] 3) = W1 := ⟨_, rfl⟩
  obtain ⟨hR1, hP1, hne2, hG⟩ := got_of hr hp hne (grown_self W R) hW1
  have HC := Lib.hid (octet_some W1 R W.heap.size 0 c (c2 :: r) (by simp; omega) hR1 hP1 hne2)
  obtain ⟨W2, hW2⟩ : ∃ W2, (W1.setCell ⟨W.heap.size, 0, none⟩ (.int .i64 c.toNat)).setCell ⟨R, 0, none⟩ (.string (txB (c2 :: r))) = W2 := ⟨_, rfl⟩
  rw [hW2] at HC hG
  have HW := Lib.hid hW1
  have c0 := hG.cell
  have hRW := hr.lt
  have hpl := hp.lt
  obtain ⟨W3, hW3⟩ : ∃ W3, W2.alloc (.cells #[.int .i64 0] 3) = W3 := ⟨_, rfl⟩
  obtain ⟨hR3, hP3, hne4, hG3⟩ := got_of hG.rdr hG.pl hne hG.gr hW3
  have HC3 := Lib.hid (octet_some W3 R W2.heap.size 0 c2 r (by omega) hR3 hP3 hne4)
  obtain ⟨W4, hW4⟩ : ∃ W4, (W3.setCell ⟨W2.heap.size, 0, none⟩ (.int .i64 c2.toNat)).setCell ⟨R, 0, none⟩ (.string (txB r)) = W4 := ⟨_, rfl⟩
  rw [hW4] at HC3 hG3
  have HW3 := Lib.hid hW3
  have c4 := hG3.cell
  have hlb := hG3.lt
  have HRD : Hid (rdV (c :: c2 :: r) = none) := Lib.hid (by
    show (if _ then _ else (if _ then _ else _)) = _
    rw [if_neg hc, if_neg (fun h => hc2 h.1)])
  have HB : Hid (∀ base, base ≤ R → base ≤ b → Below base W W4) := Lib.hid (fun base h1 h2 => below_grown hG3.gr h1 (by omega))
  have hcb := c.toNat_lt
  have hcb2 := c2.toNat_lt
  obtain ⟨k, hk⟩ : ∃ k, c.toNat = k := ⟨_, rfl⟩
  rw [hk] at c0 hc hcb
  obtain ⟨q, hq⟩ : ∃ q, c2.toNat = q := ⟨_, rfl⟩
  rw [hq] at c4 hc2 hcb2
  obtain ⟨d, hd⟩ : ∃ d, k % 128 = d := ⟨_, rfl⟩
  obtain ⟨d2, hd2⟩ : ∃ d, q % 128 = d := ⟨_, rfl⟩
  have hd1 : d < 128 := by omega
  have hd3 : d2 < 128 := by omega
  have hor := or_zero d hd1
  have hor2 := or_two d d2 hd1 hd3
  have hkm : (k : Int).tmod 128 = (d : Int) := by rw [Int.tmod_eq_emod_of_nonneg (by omega)]; omega
  have hqm : (q : Int).tmod 128 = (d2 : Int) := by rw [Int.tmod_eq_emod_of_nonneg (by omega)]; omega
  have hki : ¬ (k : Int) < 128 := by omega
  have hqi : ¬ (q : Int) < 128 := by omega
  have hsh : IntKind.i64.wrap ((d2 : Int) * 128) = (d2 : Int) * 128 := by rw [IntKind.wrap_i64]; omega
  clear hW1 hW2 hr hp hR1 hP1 hG hW3 hd hk hc hcb hW4 hR3 hP3 hG3 hl hq hd2 hcb2 hc2
  go_enter Tryd.func60, Tryd.ntmps60
  go_wp2
  refine wp_loop_rounds 3 ?_
  rw [rounds_succ]
  go_wp2_with (go_at_call 61; rw [HW.out]; refine HC.out.mono ?_; rintro e w' ⟨rfl, rfl⟩)
  rw [rounds_succ]
  go_wp2_with (go_at_call 61; rw [HW3.out]; refine HC3.out.mono ?_; rintro e w' ⟨rfl, rfl⟩)
  rw [rounds_succ]
  go_wp2
  go_ret
  exact .inr ⟨HRD.out, rfl, HB.out⟩
theorem varint_any (W : World) (R b o : Nat) (s : List UInt8) (hl : s.length ≤ 800000) (hr : RdrAt W R s) (hp : PlAt W b o) (hne : R ≠ b) : Calls Tryd.prog 60 #[.pointer (some ⟨R, 0, none⟩), .pointer (some ⟨b, o, none⟩)] W (VarPost W R b o s) := by
  match s, hl, hr with
  | [], _, hr => exact varint_0 W R b o hr
  | c :: r, hl, hr =>
    by_cases hc : c.toNat < 128
    · exact varint_1 W R b o c r hc (by simp at hl; omega) hr hp hne
    · match r, hl, hr with
      | [], _, hr => exact varint_2 W R b o c hc hr hp hne
      | c2 :: r2, hl, hr =>
        by_cases hc2 : c2.toNat < 128
        · exact varint_3 W R b o c c2 r2 hc hc2 (by simp at hl; omega) hr hp hne
        · exact varint_4 W R b o c c2 r2 hc hc2 (by simp at hl; omega) hr hp hne
end Pgm
end Go.Proofs.YtchcjinaagncjaaDoor
namespace Go.Proofs.YtchcjinaagncjaaDoor
open Go.RowKit
set_option linter.unusedVariables false
namespace Pgm
theorem at_list' (s : ByteArray) (k : Nat) (h : k < s.size) : s.data.toList[k]? = some (s[k]'h) := by
  have : k < s.data.toList.length := by simpa using h
  rw [List.getElem?_eq_getElem this]
  simp
  rfl
theorem xorL_take (s : ByteArray) (k : Nat) (h : k < s.size) : bits .xor .u8 ((xorL (s.data.toList.take k)).toNat : Int) ((s[k]'h).toNat : Int) = ((xorL (s.data.toList.take (k + 1))).toNat : Int) := by
  have h1 := (xorL (s.data.toList.take k)).toNat_lt
  have h2 := (s[k]'h).toNat_lt
  rw [u8_xor_nat _ _ (by omega) (by omega)]
  rw [List.take_add_one, at_list' s k h]
  show _ = ((xorL (s.data.toList.take k ++ [s[k]'h])).toNat : Int)
  rw [xorL_snoc, UInt8.toNat_xor]
set_option maxRecDepth 100000 in
set_option maxHeartbeats 4000000 in
theorem sum_any (W : World) (s : ByteArray) (hs : s.size ≤ 1000000) : Calls Tryd.prog 58 #[.string s] W fun e w' => e = .returned (.int .u8 ((xorL s.data.toList).toNat : Int)) ∧ W = w' := by
  obtain ⟨X, hX⟩ : ∃ X : Nat → Int, X = fun k => ((xorL (s.data.toList.take k)).toNat : Int) := ⟨_, rfl⟩
  have HX0 : Hid (X 0 = 0) := Lib.hid (by rw [hX]; rfl)
  have HXN : Hid (X s.size = ((xorL s.data.toList).toNat : Int)) := Lib.hid (by
    rw [hX]
    dsimp only
    rw [List.take_of_length_le (by simp)])
  have HXS : Hid (∀ k (h : k < s.size), bits .xor .u8 (X k) ((s[k]'h).toNat : Int) = X (k + 1)) := Lib.hid (fun k h => by rw [hX]; exact xorL_take s k h)
  obtain ⟨Z, hZ⟩ : ∃ Z, ((xorL s.data.toList).toNat : Int) = Z := ⟨_, rfl⟩
  rw [hZ] at HXN ⊢
  obtain ⟨n, hn⟩ : ∃ n, s.size = n := ⟨_, rfl⟩
  have HN := Lib.hid hn
  clear hX hZ
  go_enter Tryd.func58, Tryd.ntmps58
  go_wp2
  go_loopw [3, 4, 7] (fun V U K wr => ∃ k : Nat, k ≤ n ∧ K = .int .i64 (k : Int) ∧ V = .int .u8 (X k) ∧ wr = W) (fun V U K _ => n - (intOf K).toNat)
  case atStart => exact ⟨0, by omega, rfl, by rw [HX0.out], rfl⟩
  case round =>
    obtain ⟨k, hk, rfl, rfl, rfl⟩ := hrel
    by_cases hlt : k < n
    · have hkl : k < s.size := by omega
      have hki : (k : Int) < (s.size : Int) := by omega
      have hkn : (k : Int) < (n : Int) := by omega
      have hxr := HXS.out k hkl
      have k0 : (0 : Int) ≤ (k : Int) := by omega
      have k1 : ((k : Int)).toNat = k := by omega
      go_wp2
      go_roundw
      case rel => first | exact ⟨k + 1, by omega, by go_num, rfl, trivial⟩ | exact ⟨k + 1, by omega, by go_num, rfl, rfl⟩ | ((repeat apply Exists.intro); exact ⟨⟨k + 1, by omega, by go_num, rfl, rfl⟩, rfl⟩)
      case measure => simp [intOf]; omega
    · obtain rfl : k = n := by omega
      have hz : X k = Z := by rw [← HXN.out, HN.out]
      have hk2 : ¬ (k : Int) < (s.size : Int) := by omega
      go_wp2
      go_ret
      exact ⟨rfl, rfl⟩
end Pgm
end Go.Proofs.YtchcjinaagncjaaDoor
namespace Go.Proofs.YtchcjinaagncjaaDoor
open Go.RowKit Go.Shelf
set_option linter.unusedVariables false
namespace Pgm
theorem frzp {W : World} {B : Nat} {cs : Array Value} {t : TypeId} (h : W.heap[B]? = some (.cells cs t (0, 0))) (j : Nat) : W.frozen? ⟨B, j, none⟩ = false := by simp [World.frozen?, h]





































































































































































end Pgm
end Go.Proofs.YtchcjinaagncjaaDoor
namespace Go.Proofs.YtchcjinaagncjaaDoor
open Go.RowKit
set_option linter.unusedVariables false
namespace Pgm
/-- A row of pointers to integers' places. -/
def PtrRow (W : World) (a : Option Addr) (b : Nat) (xs : List (Nat × Nat)) : Prop :=
  ∀ j (h : j < xs.length), a = some ⟨b, 0, none⟩ ∧ ∃ cs, W.heap[b]? = some (.cells cs 102 (0, 0)) ∧ cs[j]? = some (.pointer (some ⟨xs[j].1, xs[j].2, none⟩))
theorem PtrRow.kept {W W' : World} {a : Option Addr} {b : Nat} {xs : List (Nat × Nat)} (h : PtrRow W a b xs) (hk : Lib.OthersKept 5 none W W') : PtrRow W' a b xs := fun j hj => by
  obtain ⟨e, cs, h1, h2⟩ := h j hj
  exact ⟨e, cs, hk b _ h1 (by simp) (fun c fz q => by injection q with _ q _; exact absurd q (by decide)), h2⟩
theorem PtrRow.of {W W' : World} {a : Option Addr} {b : Nat} {xs : List (Nat × Nat)} (h : PtrRow W a b xs) (e : W'.heap[b]? = W.heap[b]?) : PtrRow W' a b xs := fun j hj => by
  obtain ⟨e1, cs, h1, h2⟩ := h j hj
  exact ⟨e1, cs, e.trans h1, h2⟩
theorem PtrRow.nil (W : World) (a : Option Addr) (b : Nat) : PtrRow W a b [] := fun j hj => absurd hj (by simp)
theorem PtrRow.at_ {W : World} {a : Option Addr} {b : Nat} {xs : List (Nat × Nat)} (h : PtrRow W a b xs) {j : Nat} (hj : j < xs.length) : a = some ⟨b, 0, none⟩ ∧ b < W.heap.size ∧ W.cell? ⟨b, j, none⟩ = some (.pointer (some ⟨xs[j].1, xs[j].2, none⟩)) := by
  obtain ⟨e, cs, h1, h2⟩ := h j hj
  exact ⟨e, (Array.getElem?_eq_some_iff.1 h1).1, by simp [World.cell?, h1, h2]⟩
/-- Where an instruction's own fields lie. -/
def offL (op : Int) : List Nat := if op = 1 then [1, 2, 3] else if op = 2 then [3, 4] else if op = 3 ∨ op = 4 then [1, 3] else []
def plL (X : Nat) (op : Int) : List (Nat × Nat) := (offL op).map fun q => (X, q)
theorem off_len (op : Int) : (offL op).length = ownN op := by
  unfold offL ownN
  split
  · rfl
  · split
    · rfl
    · split <;> rfl
theorem pl_len (X : Nat) (op : Int) : (plL X op).length = ownN op := by unfold plL; rw [List.length_map, off_len]
theorem own_le3 (op : Int) : ownN op ≤ 3 := by unfold ownN; (repeat' split) <;> omega
def OwnQ (W : World) (X : Nat) (op : Int) (e : Ending) (w' : World) : Prop := ∃ a n c b, e = .returned (.slice a n c) ∧ n = ownN op ∧ W.heap.size ≤ b ∧ PtrRow w' a b (plL X op) ∧ Below W.heap.size W w'
theorem ptr_new {W V : World} (hV : ∀ k, W.heap.size ≤ k → True) {cs : Array Value} {xs : List (Nat × Nat)} (hcs : cs = (xs.map fun p => Value.pointer (some ⟨p.1, p.2, none⟩)).toArray) : PtrRow (V.alloc (.cells cs 102)) (some ⟨V.heap.size, 0, none⟩) V.heap.size xs := fun j hj => by
  refine ⟨rfl, cs, heap_alloc_new V _, ?_⟩
  rw [hcs]
  simp [List.getElem?_eq_getElem hj]
set_option maxRecDepth 100000 in
set_option maxHeartbeats 4000000 in
theorem ownp_1 (W : World) (X : Nat) (lo hi x y : Int) (hx : W.heap[X]? = some (.cells #[.int .i64 1, .int .i64 lo, .int .i64 hi, .int .i64 x, .int .i64 y] 60 (0, 0))) : Calls Tryd.prog 62 #[.pointer (some ⟨X, 0, none⟩)] W (OwnQ W X 1) := by
  have c0 : W.cell? ⟨X, 0, none⟩ = some (.int .i64 1) := blkp hx 0
  have HXL := Lib.hid (Array.getElem?_eq_some_iff.1 hx).1
  have HP : Hid (∀ V : World, PtrRow (V.alloc (.cells #[.pointer (some ⟨X, 1, none⟩), .pointer (some ⟨X, 2, none⟩), .pointer (some ⟨X, 3, none⟩)] 102)) (some ⟨V.heap.size, 0, none⟩) V.heap.size (plL X 1)) := Lib.hid (fun V => ptr_new (W := W) (fun _ _ => trivial) rfl)
  clear hx
  go_enter Tryd.func62, Tryd.ntmps62
  go_wp2
  go_region
  all_goals
    go_wp2
    go_ret
    exact ⟨_, _, _, _, rfl, rfl, Nat.le_refl _, HP.out _, by first | exact ((Below.refl W.heap.size W).drew).alloc (Nat.le_refl _) _ | exact ((Below.refl W.heap.size W).alloc (Nat.le_refl _) _).drew⟩
set_option maxRecDepth 100000 in
set_option maxHeartbeats 4000000 in
theorem ownp_2 (W : World) (X : Nat) (lo hi x y : Int) (hx : W.heap[X]? = some (.cells #[.int .i64 2, .int .i64 lo, .int .i64 hi, .int .i64 x, .int .i64 y] 60 (0, 0))) : Calls Tryd.prog 62 #[.pointer (some ⟨X, 0, none⟩)] W (OwnQ W X 2) := by
  have c0 : W.cell? ⟨X, 0, none⟩ = some (.int .i64 2) := blkp hx 0
  have HXL := Lib.hid (Array.getElem?_eq_some_iff.1 hx).1
  have HP : Hid (∀ V : World, PtrRow (V.alloc (.cells #[.pointer (some ⟨X, 3, none⟩), .pointer (some ⟨X, 4, none⟩)] 102)) (some ⟨V.heap.size, 0, none⟩) V.heap.size (plL X 2)) := Lib.hid (fun V => ptr_new (W := W) (fun _ _ => trivial) rfl)
  clear hx
  go_enter Tryd.func62, Tryd.ntmps62
  go_wp2
  go_region
  all_goals
    go_wp2
    go_ret
    exact ⟨_, _, _, _, rfl, rfl, Nat.le_refl _, HP.out _, by first | exact ((Below.refl W.heap.size W).drew).alloc (Nat.le_refl _) _ | exact ((Below.refl W.heap.size W).alloc (Nat.le_refl _) _).drew⟩
set_option maxRecDepth 100000 in
set_option maxHeartbeats 4000000 in
theorem ownp_3 (W : World) (X : Nat) (lo hi x y : Int) (hx : W.heap[X]? = some (.cells #[.int .i64 3, .int .i64 lo, .int .i64 hi, .int .i64 x, .int .i64 y] 60 (0, 0))) : Calls Tryd.prog 62 #[.pointer (some ⟨X, 0, none⟩)] W (OwnQ W X 3) := by
  have c0 : W.cell? ⟨X, 0, none⟩ = some (.int .i64 3) := blkp hx 0
  have HXL := Lib.hid (Array.getElem?_eq_some_iff.1 hx).1
  have HP : Hid (∀ V : World, PtrRow (V.alloc (.cells #[.pointer (some ⟨X, 1, none⟩), .pointer (some ⟨X, 3, none⟩)] 102)) (some ⟨V.heap.size, 0, none⟩) V.heap.size (plL X 3)) := Lib.hid (fun V => ptr_new (W := W) (fun _ _ => trivial) rfl)
  clear hx
  go_enter Tryd.func62, Tryd.ntmps62
  go_wp2
  go_region
  all_goals
    go_wp2
    go_ret
    exact ⟨_, _, _, _, rfl, rfl, Nat.le_refl _, HP.out _, by first | exact ((Below.refl W.heap.size W).drew).alloc (Nat.le_refl _) _ | exact ((Below.refl W.heap.size W).alloc (Nat.le_refl _) _).drew⟩
set_option maxRecDepth 100000 in
set_option maxHeartbeats 4000000 in
theorem ownp_4 (W : World) (X : Nat) (lo hi x y : Int) (hx : W.heap[X]? = some (.cells #[.int .i64 4, .int .i64 lo, .int .i64 hi, .int .i64 x, .int .i64 y] 60 (0, 0))) : Calls Tryd.prog 62 #[.pointer (some ⟨X, 0, none⟩)] W (OwnQ W X 4) := by
  have c0 : W.cell? ⟨X, 0, none⟩ = some (.int .i64 4) := blkp hx 0
  have HXL := Lib.hid (Array.getElem?_eq_some_iff.1 hx).1
  have HP : Hid (∀ V : World, PtrRow (V.alloc (.cells #[.pointer (some ⟨X, 1, none⟩), .pointer (some ⟨X, 3, none⟩)] 102)) (some ⟨V.heap.size, 0, none⟩) V.heap.size (plL X 4)) := Lib.hid (fun V => ptr_new (W := W) (fun _ _ => trivial) rfl)
  clear hx
  go_enter Tryd.func62, Tryd.ntmps62
  go_wp2
  go_region
  all_goals
    go_wp2
    go_ret
    exact ⟨_, _, _, _, rfl, rfl, Nat.le_refl _, HP.out _, by first | exact ((Below.refl W.heap.size W).drew).alloc (Nat.le_refl _) _ | exact ((Below.refl W.heap.size W).alloc (Nat.le_refl _) _).drew⟩
set_option maxRecDepth 100000 in
set_option maxHeartbeats 4000000 in
theorem ownp_no (W : World) (X : Nat) (op lo hi x y : Int) (h : op ≠ 1 ∧ op ≠ 2 ∧ op ≠ 3 ∧ op ≠ 4) (hx : W.heap[X]? = some (.cells #[.int .i64 op, .int .i64 lo, .int .i64 hi, .int .i64 x, .int .i64 y] 60 (0, 0))) : Calls Tryd.prog 62 #[.pointer (some ⟨X, 0, none⟩)] W (OwnQ W X op) := by
  have c0 : W.cell? ⟨X, 0, none⟩ = some (.int .i64 op) := blkp hx 0
  have HN : Hid (ownN op = 0) := Lib.hid (by unfold ownN; rw [if_neg h.1, if_neg h.2.1, if_neg (by omega)])
  have HL : Hid (plL X op = []) := Lib.hid (by unfold plL offL; rw [if_neg h.1, if_neg h.2.1, if_neg (by omega)]; rfl)
  have e1 : (op == 1) = false := by rw [beq_eq_false_iff_ne]; omega
  have e2 : (op == 2) = false := by rw [beq_eq_false_iff_ne]; omega
  have e3 : (op == 3) = false := by rw [beq_eq_false_iff_ne]; omega
  have e4 : (op == 4) = false := by rw [beq_eq_false_iff_ne]; omega
  clear hx h
  go_enter Tryd.func62, Tryd.ntmps62
  go_wp2
  all_goals
    go_ret
    exact ⟨none, 0, 0, W.heap.size, rfl, HN.out.symm, Nat.le_refl _, by rw [HL.out]; exact PtrRow.nil _ _ _, Below.refl _ _⟩
theorem ownp_any (W : World) (X : Nat) (op lo hi x y : Int) (hx : W.heap[X]? = some (.cells #[.int .i64 op, .int .i64 lo, .int .i64 hi, .int .i64 x, .int .i64 y] 60 (0, 0))) : Calls Tryd.prog 62 #[.pointer (some ⟨X, 0, none⟩)] W (OwnQ W X op) := by
  by_cases h : op ≠ 1 ∧ op ≠ 2 ∧ op ≠ 3 ∧ op ≠ 4
  · exact ownp_no W X op lo hi x y h hx
  · have : op = 1 ∨ op = 2 ∨ op = 3 ∨ op = 4 := by omega
    rcases this with rfl | rfl | rfl | rfl
    · exact ownp_1 W X lo hi x y hx
    · exact ownp_2 W X lo hi x y hx
    · exact ownp_3 W X lo hi x y hx
    · exact ownp_4 W X lo hi x y hx
end Pgm
end Go.Proofs.YtchcjinaagncjaaDoor
namespace Go.Proofs.YtchcjinaagncjaaDoor
open Go.RowKit
set_option linter.unusedVariables false
namespace Pgm
theorem rdVs_snoc : ∀ (k : Nat) (s : List UInt8) (ns : List Int) (r : List UInt8), rdVs k s = some (ns, r) → rdVs (k + 1) s = match rdV r with
    | none => none
    | some (n, r2) => some (ns ++ [n], r2)
  | 0, s, ns, r, h => by
    injection h with h
    injection h with h1 h2
    subst h1; subst h2
    show (match rdV s with
      | none => none
      | some (n, r) => match rdVs 0 r with
        | none => none
        | some (ns, r2) => some (n :: ns, r2)) = _
    cases rdV s with
    | none => rfl
    | some p => rfl
  | k + 1, s, ns, r, h => by
    unfold rdVs at h
    split at h
    · cases h
    · rename_i n r1 h1
      split at h
      · cases h
      · rename_i l2 r2 h2
        injection h with h
        injection h with h3 h4
        subst h3; subst h4
        have ih := rdVs_snoc k r1 l2 r2 h2
        show (match rdV s with
          | none => none
          | some (n, r) => match rdVs (k + 1) r with
            | none => none
            | some (ns, r2) => some (n :: ns, r2)) = _
        rw [h1]
        dsimp only
        rw [ih]
        cases rdV r2 with
        | none => rfl
        | some p => rfl
theorem rdVs_more : ∀ (k j : Nat) (s : List UInt8), k ≤ j → rdVs k s = none → rdVs j s = none
  | 0, j, s, _, h => by cases h
  | k + 1, 0, s, hj, _ => by omega
  | k + 1, j + 1, s, hj, h => by
    unfold rdVs at h ⊢
    cases h1 : rdV s with
    | none => rfl
    | some p =>
      obtain ⟨i, r⟩ := p
      rw [h1] at h
      dsimp only at h ⊢
      cases h2 : rdVs k r with
      | none => rw [rdVs_more k j r (by omega) h2]
      | some q => rw [h2] at h; cases h
theorem rdVs_len {k : Nat} {s : List UInt8} {ns : List Int} {r : List UInt8} (h : rdVs k s = some (ns, r)) : r.length ≤ s.length ∧ ns.length = k := by
  obtain ⟨h1, _, h3⟩ := (rdVs_iff k s ns r).1 h
  refine ⟨?_, h1⟩
  rw [h3, List.length_append]; omega
/-- Numbers stored at places. -/
def stL (W : World) (l : List ((Nat × Nat) × Int)) : World := l.foldl (fun w p => w.setCell ⟨p.1.1, p.1.2, none⟩ (.int .i64 p.2)) W
theorem stL_snoc (W : World) (l : List ((Nat × Nat) × Int)) (p : (Nat × Nat) × Int) : stL W (l ++ [p]) = (stL W l).setCell ⟨p.1.1, p.1.2, none⟩ (.int .i64 p.2) := by unfold stL; simp
theorem stL_size : ∀ (l : List ((Nat × Nat) × Int)) (W : World), (stL W l).heap.size = W.heap.size
  | [], W => rfl
  | p :: l, W => by
    show (stL (W.setCell ⟨p.1.1, p.1.2, none⟩ (.int .i64 p.2)) l).heap.size = _
    rw [stL_size l, set_size]
theorem stL_block : ∀ (l : List ((Nat × Nat) × Int)) (W : World) (b : Nat), (∀ p ∈ l, b ≠ p.1.1) → (stL W l).heap[b]? = W.heap[b]?
  | [], W, b, _ => rfl
  | p :: l, W, b, h => by
    show (stL (W.setCell ⟨p.1.1, p.1.2, none⟩ (.int .i64 p.2)) l).heap[b]? = _
    rw [stL_block l _ b (fun q hq => h q (by simp [hq])), Below.heap_setCell _ _ _ _ (h p (by simp))]
theorem stL_pl : ∀ (l : List ((Nat × Nat) × Int)) (W : World) (b o : Nat), PlAt W b o → PlAt (stL W l) b o
  | [], W, b, o, h => h
  | p :: l, W, b, o, h => stL_pl l _ b o (h.set _ _ _)
theorem stL_below : ∀ (l : List ((Nat × Nat) × Int)) (W : World) (base : Nat), (∀ p ∈ l, base ≤ p.1.1) → Below base W (stL W l)
  | [], W, base, _ => Below.refl _ _
  | p :: l, W, base, h => (below_set _ (h p (by simp))).trans (stL_below l _ base (fun q hq => h q (by simp [hq])))
theorem grown_trans {A B C : World} {row : Option Nat} (h : A.grownBy B row) (k : B.grownBy C row) : A.grownBy C row :=
  ⟨k.os.trans h.os, k.tape.trans h.tape, k.output.trans h.output, Nat.le_trans h.size k.size, fun j hj hne => (k.block j (Nat.lt_of_lt_of_le hj h.size) hne).trans (h.block j hj hne)⟩
/-- What fill does with varints. -/
def FillPost (W : World) (R : Nat) (xs : List (Nat × Nat)) (s : List UInt8) (e : Ending) (w' : World) : Prop :=
  (∃ ns r, rdVs xs.length s = some (ns, r) ∧ e = .returned (.bool true) ∧ RdrAt w' R r ∧ (stL W (xs.zip ns)).grownBy w' (some R)) ∨
  (rdVs xs.length s = none ∧ e = .returned (.bool false) ∧ ∀ base, base ≤ R → (∀ p ∈ xs, base ≤ p.1) → Below base W w')
set_option maxRecDepth 100000 in
set_option maxHeartbeats 8000000 in
theorem fill_var (W : World) (R : Nat) (s : List UInt8) (a : Option Addr) (n c b : Nat) (xs : List (Nat × Nat)) (hl : s.length ≤ 800000) (hr : RdrAt W R s) (hn : xs.length = n) (hn9 : n ≤ 10) (hrow : PtrRow W a b xs) (hpl : ∀ p ∈ xs, PlAt W p.1 p.2 ∧ R ≠ p.1 ∧ b ≠ p.1) (hbR : b ≠ R) :
    Calls Tryd.prog 59 #[.func (.func 60) #[.pointer (some ⟨R, 0, none⟩)] #[], .slice a n c] W (FillPost W R xs s) := by
  have HN := Lib.hid hn
  have HROW := Lib.hid hrow
  have HPL := Lib.hid hpl
  have HBR := Lib.hid hbR
  have HR := Lib.hid hr
  have HLN := Lib.hid hl
  clear hr hrow hpl hbR hn hl
  go_enter Tryd.func59, Tryd.ntmps59
  go_wp2
  go_loopw [6, 9] (fun F K wr => ∃ (k : Nat) (ns : List Int) (r : List UInt8), k ≤ n ∧ K = .int .i64 (k : Int) ∧ Hid (rdVs k s = some (ns, r)) ∧ Hid (RdrAt wr R r) ∧ Hid ((stL W ((xs.take k).zip ns)).grownBy wr (some R))) (fun F K _ => n - (intOf K).toNat)
  case atStart => exact ⟨0, [], s, by omega, rfl, Lib.hid rfl, HR, Lib.hid (grown_self W R)⟩
  case round =>
    obtain ⟨k, ns, r, hk, rfl, HRD, HRR, HG⟩ := hrel
    obtain ⟨hrl, hnl⟩ := rdVs_len HRD.out
    by_cases hlt : k < n
    · have hkl : k < xs.length := by rw [HN.out]; exact hlt
      obtain ⟨p, hp⟩ : ∃ p, xs[k] = p := ⟨_, rfl⟩
      have hpm : p ∈ xs := by rw [← hp]; exact List.getElem_mem hkl
      obtain ⟨hp1, hp2, hp3⟩ := HPL.out p hpm
      have hzip : ∀ q ∈ (xs.take k).zip ns, q.1 ∈ xs := fun q hq => List.mem_of_mem_take (List.of_mem_zip hq).1
      obtain ⟨rfl, hbl, hpc⟩ := HROW.out.at_ hkl
      rw [hp] at hpc
      have hrow2 : PtrRow _ (some ⟨b, 0, none⟩) b xs := HROW.out.of (W' := wr) (by
        rw [HG.out.block b (by rw [stL_size]; exact hbl) (fun e => HBR.out (Option.some.inj e)), stL_block _ _ _ (fun q hq => (HPL.out q.1 (hzip q hq)).2.2)])
      obtain ⟨_, hbl2, hpc2⟩ := hrow2.at_ hkl
      rw [hp] at hpc2
      have hplr : PlAt wr p.1 p.2 := (stL_pl _ _ _ _ hp1).of (HG.out.block p.1 (by rw [stL_size]; exact hp1.lt) (fun e => hp2 (Option.some.inj e).symm))
      have HCV := Lib.hid (varint_any wr R p.1 p.2 r (by have := HLN.out; omega) HRR.out hplr hp2)
      have hsn := rdVs_snoc k s ns r HRD.out
      have HSN := Lib.hid hsn
      have HMO := Lib.hid (rdVs_more (k + 1) n s (by omega))
      have HTK : Hid (∀ z : Int, (xs.take (k + 1)).zip (ns ++ [z]) = (xs.take k).zip ns ++ [(p, z)]) := Lib.hid (fun z => by
        rw [List.take_add_one, List.getElem?_eq_getElem hkl, hp]
        rw [List.zip_append (by rw [List.length_take]; omega)]
        rfl)
      have HBW : Hid (∀ base, base ≤ R → (∀ q ∈ xs, base ≤ q.1) → Below base W wr) := Lib.hid (fun base h1 h2 => (stL_below _ _ base (fun q hq => h2 q.1 (hzip q hq))).trans (below_grown HG.out h1 (by rw [stL_size]; have := HR.out.lt; omega)))
      have hPM := Lib.hid hpm
      clear hp hp1 hp3 hzip hbl hpc hrow2 hplr hsn hpm hrl hnl hkl
      obtain ⟨p1, p2⟩ := p
      go_wp2_with fail
      refine HCV.out.mono ?_
      rintro e w2 (⟨z, r2, hz, rfl, hr2, hg2⟩ | ⟨hz, rfl, hb2⟩)
      · have HRD2 : Hid (rdVs (k + 1) s = some (ns ++ [z], r2)) := Lib.hid (by rw [HSN.out, hz])
        have HR2 := Lib.hid hr2
        have HG2 : Hid ((stL W ((xs.take (k + 1)).zip (ns ++ [z]))).grownBy w2 (some R)) := Lib.hid (by
          rw [HTK.out, stL_snoc]
          exact grown_trans (grown_cong HG.out rfl) hg2)
        clear hz hr2 hg2 hpc2 hbl2
        go_wp2
        go_roundw
        case rel => first | exact ⟨k + 1, _, _, by omega, by go_num, HRD2, HR2, HG2⟩ | ((repeat apply Exists.intro); exact ⟨⟨k + 1, _, _, by omega, by go_num, HRD2, HR2, HG2⟩, rfl⟩)
        case measure => simp [intOf]; omega
      · have HNO : Hid (rdVs n s = none) := Lib.hid (HMO.out (by rw [HSN.out, hz]))
        have HB2 := Lib.hid hb2
        clear hz hb2 hpc2 hbl2
        go_wp2
        go_ret
        exact .inr ⟨by rw [HN.out]; exact HNO.out, rfl, fun base h1 h2 => (HBW.out base h1 h2).trans (HB2.out base h1 (h2 _ hPM.out))⟩
    · obtain rfl : k = n := by omega
      have HG9 : Hid ((stL W (xs.zip ns)).grownBy wr (some R)) := Lib.hid (by
        have h1 := HG.out
        rwa [List.take_of_length_le (by rw [HN.out]; exact Nat.le_refl _)] at h1)
      clear hrl hnl
      go_wp2
      go_ret
      exact .inl ⟨_, _, by rw [HN.out]; exact HRD.out, rfl, HRR.out, HG9.out⟩
/-- What fill does with one octet. -/
def FillO (W : World) (R X : Nat) (s : List UInt8) (e : Ending) (w' : World) : Prop :=
  (∃ c r, s = c :: r ∧ e = .returned (.bool true) ∧ RdrAt w' R r ∧ (W.setCell ⟨X, 0, none⟩ (.int .i64 c.toNat)).grownBy w' (some R)) ∨ (s = [] ∧ e = .returned (.bool false) ∧ W = w')
set_option maxRecDepth 100000 in
set_option maxHeartbeats 8000000 in
theorem fill_oct (W : World) (R X : Nat) (s : List UInt8) (b c : Nat) (hl : s.length ≤ 800000) (hr : RdrAt W R s) (hrow : PtrRow W (some ⟨b, 0, none⟩) b [(X, 0)]) (hpl : PlAt W X 0) (hRX : R ≠ X) (hbX : b ≠ X) (hbR : b ≠ R) :
    Calls Tryd.prog 59 #[.func (.func 61) #[.pointer (some ⟨R, 0, none⟩)] #[], .slice (some ⟨b, 0, none⟩) 1 c] W (FillO W R X s) := by
  obtain ⟨_, hbl, hpc⟩ := hrow.at_ (j := 0) (by simp)
  simp only [List.getElem_cons_zero] at hpc
  cases s with
  | nil =>
    have HC := Lib.hid (octet_none W R X 0 hr)
    clear hr hrow hpl
    go_enter Tryd.func59, Tryd.ntmps59
    go_wp2
    refine wp_loop_rounds 1 ?_
    rw [rounds_succ]
    go_wp2_with (go_at_call 61; refine HC.out.mono ?_; rintro e w' ⟨rfl, rfl⟩)
    go_ret
    exact .inr ⟨rfl, rfl, rfl⟩
  | cons c0 r =>
    have HC := Lib.hid (octet_some W R X 0 c0 r (by simp at hl; omega) hr hpl hRX)
    obtain ⟨W2, hW2⟩ : ∃ W2, (W.setCell ⟨X, 0, none⟩ (.int .i64 c0.toNat)).setCell ⟨R, 0, none⟩ (.string (txB r)) = W2 := ⟨_, rfl⟩
    have hR2 : RdrAt W2 R r := by
      rw [← hW2]
      have h1 : (W.setCell ⟨X, 0, none⟩ (.int .i64 c0.toNat)).heap[R]? = some (.cells #[.string (txB (c0 :: r))] 98 (0, 0)) := (Below.heap_setCell _ _ _ _ hRX).trans hr
      have s5 := heap_setCell_same _ R 0 _ _ (.string (txB r)) h1
      simp only [List.setIfInBounds_toArray, List.set_cons_zero] at s5
      exact s5
    have hG2 : (W.setCell ⟨X, 0, none⟩ (.int .i64 c0.toNat)).grownBy W2 (some R) := by rw [← hW2]; exact grown_set' (grown_self _ _) _
    rw [hW2] at HC
    have HR2 := Lib.hid hR2
    have HG2 := Lib.hid hG2
    clear hr hrow hpl hW2 hR2 hG2
    go_enter Tryd.func59, Tryd.ntmps59
    go_wp2
    refine wp_loop_rounds 2 ?_
    rw [rounds_succ]
    go_wp2_with (go_at_call 61; refine HC.out.mono ?_; rintro e w' ⟨rfl, rfl⟩)
    rw [rounds_succ]
    go_wp2
    go_ret
    exact .inl ⟨_, _, rfl, rfl, HR2.out, HG2.out⟩
end Pgm
end Go.Proofs.YtchcjinaagncjaaDoor
namespace Go.Proofs
open Go.Shelf
def Tryd.layPrefix_ren : Go.Shelf.Ren := ⟨fun | 103 => 57 | 210 => 86 | 206 => 105 | n => n, fun | 9 => 9 | 4 => 4 | 24 => 95 | 3 => 3 | n => n, fun | n => n⟩
theorem Tryd.layPrefix : Go.Proofs.Lays.n103 Tryd.prog Tryd.layPrefix_ren := {
  mixed := by kernel_rfl
  f103 := Tryd.func57.trans (congrArg some (by kernel_rfl))
  f206 := Tryd.func105.trans (congrArg some (by kernel_rfl))
  f210 := Tryd.func86.trans (congrArg some (by kernel_rfl))
  t3 := Tryd.underlying3
  a3 := Tryd.isAgg3
  z3 := Tryd.sizeOf3
  v3 := Tryd.zeroValue3
  t4 := Tryd.underlying4
  a4 := Tryd.isAgg4
  z4 := Tryd.sizeOf4
  v4 := Tryd.zeroValue4
  t9 := Tryd.underlying9
  a9 := Tryd.isAgg9
  z9 := Tryd.sizeOf9
  v9 := Tryd.zeroValue9
  t24 := Tryd.underlying95
  a24 := Tryd.isAgg95
  z24 := Tryd.sizeOf95
  v24 := Tryd.zeroValue95 }
end Go.Proofs
namespace Go.Proofs
end Go.Proofs
namespace Go.Proofs.YtchcjinaagncjaaDoor
open Go Go.RowKit
set_option linter.unusedVariables false
end Go.Proofs.YtchcjinaagncjaaDoor
namespace Go.Proofs.YtchcjinaagncjaaDoor
open Go.RowKit Go.Shelf
attribute [local go_sem] Oper.semAt_some
set_option linter.unusedVariables false
namespace Pgm
end Pgm
end Go.Proofs.YtchcjinaagncjaaDoor
namespace Go.Proofs.YtchcjinaagncjaaDoor
open Go.RowKit Go.Shelf
attribute [local go_sem] Oper.semAt_some
set_option linter.unusedVariables false
namespace Pgm












end Pgm
end Go.Proofs.YtchcjinaagncjaaDoor
namespace Go.Proofs.YtchcjinaagncjaaDoor
open Go.RowKit
set_option linter.unusedVariables false
/-- A world that has turned nothing of w's. -/
structure GrownTo (w : World) where
  W' : World
  h : Below w.heap.size w W'
instance grownToSome (w : World) : Inhabited (GrownTo w) := ⟨⟨w, Below.refl _ _⟩⟩
end Go.Proofs.YtchcjinaagncjaaDoor
namespace Go.Proofs.YtchcjinaagncjaaDoor
open Go Go.RowKit
set_option linter.unusedVariables false
section
variable {F : Fence} {n : Nat} {P : Program} {ops : Array Oper} {Q : Exit → Act → World → Prop} {md : Region.Mode}
end
end Go.Proofs.YtchcjinaagncjaaDoor
namespace Go.Proofs.YtchcjinaagncjaaDoor
open Go Go.RowKit
set_option linter.unusedVariables false
section
variable {n : Nat} {P : Program} {ops : Array Oper} {Q : Exit → Act → World → Prop} {md : Region.Mode}
end
open Lean Elab Tactic in
/-- The walk itself, from a goal 'wpAnyH ..' on. -/
elab "go_walkH3 " "(" keep:tactic ")" ppSpace "(" tac:tactic ")" : tactic => do
  let m0 ← Core.getAndEmptyMessageLog
  regionWalkH3 keep tac false
  -- its words on what it could not take first are not wanted: that it branches there is meant
  modifyThe Core.State fun s => { s with messages := m0 }
end Go.Proofs.YtchcjinaagncjaaDoor
namespace Go.Proofs.YtchcjinaagncjaaDoor
open Go.RowKit
def TwoRows (W : World) (base : Nat) (v1 : Value) (n1 : Nat) (x1 : List Value) (v2 : Value) (n2 : Nat) (x2 : List Value) : Prop :=
  W.ownsRow base 3 1 v1 n1 x1 ∧ W.ownsRow base 3 1 v2 n2 x2 ∧ ∀ g, v1.ownBlock = some g → v2.ownBlock ≠ some g
theorem TwoRows.nil (W : World) (base : Nat) : TwoRows W base (.slice none 0 0) 0 [] (.slice none 0 0) 0 [] :=
  ⟨World.ownsRow_nil _ _ _ _, World.ownsRow_nil _ _ _ _, fun g h => by cases h⟩
theorem TwoRows.kept {W W' : World} {base : Nat} {v1 v2 : Value} {n1 n2 : Nat} {x1 x2 : List Value} {row : Option Nat} (h : TwoRows W base v1 n1 x1 v2 n2 x2) (hg : W.grownBy W' row)
    (h1 : v1.ownBlock = none ∨ v1.ownBlock ≠ row) (h2 : v2.ownBlock = none ∨ v2.ownBlock ≠ row) : TwoRows W' base v1 n1 x1 v2 n2 x2 :=
  ⟨h.1.kept hg h1, h.2.1.kept hg h2, h.2.2⟩
theorem TwoRows.grew {W W' : World} {base : Nat} {v1 v2 : Value} {n1 n2 : Nat} {x1 x2 : List Value} (h : TwoRows W base v1 n1 x1 v2 n2 x2) (hg : W.grownBy W' none) : TwoRows W' base v1 n1 x1 v2 n2 x2 :=
  h.kept hg (by cases hv : v1.ownBlock <;> simp) (by cases hv : v2.ownBlock <;> simp)
theorem TwoRows.below {W W' : World} {base : Nat} {v1 v2 : Value} {n1 n2 : Nat} {x1 x2 : List Value} (h : TwoRows W base v1 n1 x1 v2 n2 x2) (hb : Below W.heap.size W W') : TwoRows W' base v1 n1 x1 v2 n2 x2 :=
  h.grew ⟨hb.os, hb.tape, hb.output, hb.size, fun k hk _ => hb.block k hk⟩
/-- The first row has been appended to. -/
theorem TwoRows.first {W W' : World} {base H : Nat} {v1 v2 v' : Value} {n1 n1' n2 : Nat} {x1 x1' x2 : List Value} (h : TwoRows W base v1 n1 x1 v2 n2 x2)
    (ho : W'.ownsRow base 3 1 v' n1' x1') (hg : W.grownBy W' v1.ownBlock) {g : Nat} (hv : v'.ownBlock = some g) (hat : v1.ownBlock = some g ∨ g = H) (hH : W.heap.size ≤ H) : TwoRows W' base v' n1' x1' v2 n2 x2 := by
  refine ⟨ho, h.2.1.kept hg ?_, ?_⟩
  · cases hv1 : v1.ownBlock with
    | none => cases hv2 : v2.ownBlock <;> simp
    | some k => exact .inr (h.2.2 k hv1)
  · intro g' hg' he
    rw [hv] at hg'
    cases hg'
    have lt := h.2.1.lt g he
    rcases hat with hat | hat
    · exact h.2.2 g hat he
    · omega

theorem ownsRow_own {W W' : World} {base : Nat} {e : TypeId} {size : Nat} {v : Value} {n : Nat} {xs : List Value} {row : Option Nat} (h : W.ownsRow base e size v n xs) (hg : W.grownBy W' row)
    (hr : ∀ r, row = some r → ∃ o : Obj, W.heap[r]? = some o ∧ o.isCells = false) : W'.ownsRow base e size v n xs := by
  refine h.kept hg ?_
  rcases h.2 with ⟨rfl, _⟩ | ⟨g, cap, cur, rfl, _, hh, _⟩
  · exact .inl rfl
  · right
    intro e'
    obtain ⟨o, ho, hc⟩ := hr g e'.symm
    rw [hh] at ho
    cases ho
    cases hc
theorem TwoRows.own {W W' : World} {base : Nat} {v1 v2 : Value} {n1 n2 : Nat} {x1 x2 : List Value} {row : Option Nat} (h : TwoRows W base v1 n1 x1 v2 n2 x2) (hg : W.grownBy W' row)
    (hr : ∀ r, row = some r → ∃ o : Obj, W.heap[r]? = some o ∧ o.isCells = false) : TwoRows W' base v1 n1 x1 v2 n2 x2 :=
  ⟨ownsRow_own h.1 hg hr, ownsRow_own h.2.1 hg hr, h.2.2⟩
end Go.Proofs.YtchcjinaagncjaaDoor
namespace Go.Proofs.YtchcjinaagncjaaDoor
open Go.RowKit Go.Shelf
attribute [local go_sem] Oper.semAt_some
set_option linter.unusedVariables false
namespace Pgm
theorem box3_set {W2 : World} {r : Nat} {x y z : Value} {t : TypeId} (a b c : Value) (h : W2.heap[r]? = some (.cells #[x, y, z] t (0, 0))) :
    W2.grownBy (((W2.setCell ⟨r, 0, none⟩ a).setCell ⟨r, 1, none⟩ b).setCell ⟨r, 2, none⟩ c) (some r) ∧ (((W2.setCell ⟨r, 0, none⟩ a).setCell ⟨r, 1, none⟩ b).setCell ⟨r, 2, none⟩ c).heap[r]? = some (.cells #[a, b, c] t (0, 0)) := by
  refine ⟨⟨rfl, rfl, rfl, ?_, fun k _ hk => ?_⟩, ?_⟩
  · exact Nat.le_trans (Nat.le_trans (KeepsWalks.setCell _ _ _).size (KeepsWalks.setCell _ _ _).size) (KeepsWalks.setCell _ _ _).size
  · have hne : k ≠ r := fun e => hk (by rw [e])
    exact (Below.heap_setCell _ _ _ k hne).trans ((Below.heap_setCell _ _ _ k hne).trans (Below.heap_setCell _ _ _ k hne))
  · exact heap_setCell_same _ r 2 _ _ c (heap_setCell_same _ r 1 _ _ b (heap_setCell_same _ r 0 _ _ a h))
end Pgm
end Go.Proofs.YtchcjinaagncjaaDoor
namespace Go.Proofs.YtchcjinaagncjaaDoor
open Go.RowKit
set_option linter.unusedVariables false
namespace Pgm
end Pgm
end Go.Proofs.YtchcjinaagncjaaDoor
namespace Go.Proofs.YtchcjinaagncjaaDoor
open Go.RowKit Go.Shelf
set_option linter.unusedVariables false
namespace Pgm
theorem dec_no1 {s : List UInt8} (h : ¬ s.take 3 = magicL) : decL s = none := by unfold decL; rw [if_neg (fun q => h q.1)]
theorem dec_no2 {s : List UInt8} (h : ¬ xorL s = 0) : decL s = none := by unfold decL; rw [if_neg (fun q => h q.2)]
theorem dec_no3 {s : List UInt8} (h : rdVs 3 (s.drop 3) = none) : decL s = none := by
  unfold decL
  split
  · rw [h]
  · rfl
theorem dec_no4 {s : List UInt8} {a1 a2 a3 : Int} {r : List UInt8} (h : rdVs 3 (s.drop 3) = some ([a1, a2, a3], r)) (h2 : rdIs a3.toNat r = none) : decL s = none := by
  unfold decL
  split
  · rw [h]
    dsimp only
    show (match rdIs a3.toNat r with
      | none => none
      | some (l, r2) => _) = _
    rw [h2]
  · rfl
theorem dec_is {s : List UInt8} {a1 a2 a3 : Int} {r r2 : List UInt8} {l : List In} (h1 : s.take 3 = magicL) (h0 : xorL s = 0) (h : rdVs 3 (s.drop 3) = some ([a1, a2, a3], r)) (h2 : rdIs a3.toNat r = some (l, r2)) :
    decL s = if r2.length = 1 ∧ Ok l a1 a2 then some (l, a1, a2) else none := by
  unfold decL
  rw [if_pos ⟨h1, h0⟩, h]
  dsimp only
  show (match rdIs a3.toNat r with
    | none => none
    | some (l, r2) => if r2.length = 1 ∧ Ok l a1 a2 then some (l, a1, a2) else none) = _
  rw [h2]
theorem pre_magic (s : List UInt8) : Lib.hasPrefix s magicL = decide (s.take 3 = magicL) := by
  unfold Lib.hasPrefix
  rw [Bool.eq_iff_iff, List.isPrefixOf_iff_prefix, decide_eq_true_iff, List.prefix_iff_eq_take]
  constructor
  · intro h; exact h.symm
  · intro h; exact h.symm
theorem cutmagic (W : World) (s : ByteArray) : Calls Tryd.prog 57 #[.string s, .string ⟨#[66, 82, 49]⟩] W fun e w' =>
    e = .returned (.tuple #[.string (if s.data.toList.take 3 = magicL then txB (s.data.toList.drop 3) else s), .bool (decide (s.data.toList.take 3 = magicL))]) ∧ W = w' := by
  have hcon := Any.strings_CutPrefix (P := Tryd.prog) Tryd.layPrefix s ⟨#[66, 82, 49]⟩ W
  change Calls Tryd.prog 57 _ _ _ at hcon
  refine hcon.mono ?_
  rintro e w' ⟨rfl, rfl⟩
  refine ⟨?_, rfl⟩
  have e0 : (⟨#[66, 82, 49]⟩ : ByteArray).data.toList = magicL := rfl
  unfold Lib.trimPrefix
  rw [e0, pre_magic]
  by_cases h : s.data.toList.take 3 = magicL
  · rw [decide_eq_true h, if_pos rfl, if_pos h]
    rfl
  · rw [decide_eq_false h, if_neg (by decide), if_neg h]
theorem st3 {W : World} {P C : Nat} {v x1 x2 y : Value} {t u : TypeId} {a1 a2 a3 : Int} (hP : W.heap[P]? = some (.cells #[v, x1, x2] t (0, 0))) (hC : W.heap[C]? = some (.cells #[y] u (0, 0))) (hne : P ≠ C) :
    (stL W [((P, 1), a1), ((P, 2), a2), ((C, 0), a3)]).heap[P]? = some (.cells #[v, .int .i64 a1, .int .i64 a2] t (0, 0)) ∧ (stL W [((P, 1), a1), ((P, 2), a2), ((C, 0), a3)]).heap[C]? = some (.cells #[.int .i64 a3] u (0, 0)) := by
  have h1 := heap_setCell_same W P 1 _ _ (.int .i64 a1) hP
  have h2 := heap_setCell_same _ P 2 _ _ (.int .i64 a2) h1
  have h3 : ((W.setCell ⟨P, 1, none⟩ (.int .i64 a1)).setCell ⟨P, 2, none⟩ (.int .i64 a2)).heap[C]? = _ := (Below.heap_setCell _ _ _ _ (fun e => hne e.symm)).trans ((Below.heap_setCell _ _ _ _ (fun e => hne e.symm)).trans hC)
  have h4 := heap_setCell_same _ C 0 _ _ (.int .i64 a3) h3
  have h5 : (stL W [((P, 1), a1), ((P, 2), a2), ((C, 0), a3)]).heap[P]? = _ := (Below.heap_setCell _ _ _ _ hne).trans h2
  refine ⟨?_, ?_⟩
  · simpa using h5
  · have h6 : (stL W [((P, 1), a1), ((P, 2), a2), ((C, 0), a3)]).heap[C]? = _ := h4
    simpa using h6
theorem st_own {W : World} {X : Nat} {op : Int} {ns : List Int} {t : TypeId} (hX : W.heap[X]? = some (.cells #[.int .i64 op, .int .i64 0, .int .i64 0, .int .i64 0, .int .i64 0] t (0, 0))) (hn : ns.length = ownN op) :
    (stL W ((plL X op).zip ns)).heap[X]? = some (.cells #[.int .i64 (mkIn op ns).op, .int .i64 (mkIn op ns).lo, .int .i64 (mkIn op ns).hi, .int .i64 (mkIn op ns).x, .int .i64 (mkIn op ns).y] t (0, 0)) := by
  unfold ownN at hn
  unfold plL offL mkIn
  by_cases h1 : op = 1
  · subst h1
    rw [if_pos rfl] at hn
    match ns, hn with
    | [a, b, c], _ =>
      have h1 := heap_setCell_same W X 1 _ _ (.int .i64 a) hX
      have h2 := heap_setCell_same _ X 2 _ _ (.int .i64 b) h1
      have h3 := heap_setCell_same _ X 3 _ _ (.int .i64 c) h2
      have h4 : (stL W [((X, 1), a), ((X, 2), b), ((X, 3), c)]).heap[X]? = _ := h3
      simpa using h4
  rw [if_neg h1] at hn
  rw [if_neg h1, if_neg h1]
  by_cases h2 : op = 2
  · subst h2
    rw [if_pos rfl] at hn
    match ns, hn with
    | [a, b], _ =>
      have h1 := heap_setCell_same W X 3 _ _ (.int .i64 a) hX
      have h2 := heap_setCell_same _ X 4 _ _ (.int .i64 b) h1
      have h4 : (stL W [((X, 3), a), ((X, 4), b)]).heap[X]? = _ := h2
      simpa using h4
  rw [if_neg h2] at hn
  rw [if_neg h2, if_neg h2]
  by_cases h3 : op = 3 ∨ op = 4
  · rw [if_pos h3] at hn
    rw [if_pos h3, if_pos h3]
    match ns, hn with
    | [a, b], _ =>
      have h1 := heap_setCell_same W X 1 _ _ (.int .i64 a) hX
      have h2 := heap_setCell_same _ X 3 _ _ (.int .i64 b) h1
      have h4 : (stL W [((X, 1), a), ((X, 3), b)]).heap[X]? = _ := h2
      simpa using h4
  rw [if_neg h3] at hn
  rw [if_neg h3, if_neg h3]
  have := List.eq_nil_of_length_eq_zero hn
  subst this
  exact hX
theorem getD_in {ns : List Int} (h : ∀ n ∈ ns, 0 ≤ n ∧ n < 16384) (j : Nat) : I64 (ns.getD j 0) := by
  rw [List.getD_eq_getElem?_getD]
  cases hq : ns[j]? with
  | none => exact ⟨by decide, by decide⟩
  | some z => have := h z (List.mem_of_getElem? hq); exact ⟨by simp; omega, by simp; omega⟩
theorem mkIn_bd {op : Int} {ns : List Int} (h0 : 0 ≤ op ∧ op < 256) (h : ∀ n ∈ ns, 0 ≤ n ∧ n < 16384) : (mkIn op ns).bd := by
  have z : I64 (0 : Int) := ⟨by decide, by decide⟩
  have o : I64 op := ⟨by omega, by omega⟩
  have o1 : I64 (1 : Int) := ⟨by decide, by decide⟩
  have o2 : I64 (2 : Int) := ⟨by decide, by decide⟩
  have g := getD_in h
  unfold mkIn In.bd
  split
  · exact ⟨o1, g 0, g 1, g 2, z⟩
  · split
    · exact ⟨o2, z, z, g 0, g 1⟩
    · split
      · exact ⟨o, g 0, z, g 1, z⟩
      · exact ⟨o, z, z, z, z⟩
theorem rdI_bd {s : List UInt8} {i : In} {r : List UInt8} (h : rdI s = some (i, r)) : i.bd := by
  cases s with
  | nil => cases h
  | cons b t =>
    unfold rdI at h
    dsimp only at h
    split at h
    · cases h
    · rename_i ns r2 h2
      injection h with h
      injection h with h3 h4
      obtain ⟨a1, a2, a3⟩ := (rdVs_iff _ _ _ _).1 h2
      subst h3
      have := b.toNat_lt
      exact mkIn_bd (by omega) a2
theorem rdIs_bd : ∀ (k : Nat) (s : List UInt8) (l : List In) (r : List UInt8), rdIs k s = some (l, r) → ∀ i ∈ l, i.bd
  | 0, s, l, r, h => by
    injection h with h
    injection h with h1 h2
    subst h1
    intro i hi; cases hi
  | k + 1, s, l, r, h => by
    unfold rdIs at h
    split at h
    · cases h
    · rename_i i r1 h1
      split at h
      · cases h
      · rename_i l2 r2 h2
        injection h with h
        injection h with h3 h4
        subst h3
        intro j hj
        rcases List.mem_cons.1 hj with rfl | hj
        · exact rdI_bd h1
        · exact rdIs_bd k r1 l2 r2 h2 j hj
theorem rdIs_len {k : Nat} {s : List UInt8} {l : List In} {r : List UInt8} (h : rdIs k s = some (l, r)) : l.length = k ∧ r.length ≤ s.length := by
  obtain ⟨h1, h2⟩ := rdIs_some k s l r h
  refine ⟨h1, ?_⟩
  rw [h2, List.length_append]; omega
theorem wp_scope_jumps2 {P : Program} {a : Act} {w : World} {Q : Exit → Act → World → Prop} {c rest : Code} (l : Nat) (J : Act → World → Prop) (μ : Act → World → Nat) (hf : findLabel c l = some (Code.skip.seq rest))
    (pass : ∀ a w, J a w → rest.wp P (Exit.jump l (fun a' w' => J a' w' ∧ μ a' w' < μ a w) Q) a w)
    (first : c.wp P (Exit.jump l J Q) a w) : (Code.scope c).wp P Q a w :=
  wp_scope_jumps l J μ hf first (fun a w h => wp_seq (wp_skip (pass a w h)))
/-- What Decode hands back. -/
def DecPost (s : List UInt8) (W : World) (e : Ending) (w' : World) : Prop :=
  ((∃ v l st sl, decL s = some (l, st, sl) ∧ e = .returned (.tuple #[.agg #[v, .int .i64 st, .int .i64 sl], .int .i64 0]) ∧ InOwn w' W.heap.size v l) ∨
    (decL s = none ∧ e = .returned (.tuple #[.agg #[.slice none 0 0, .int .i64 0, .int .i64 0], .int .i64 140]))) ∧ Below W.heap.size W w'
end Pgm
end Go.Proofs.YtchcjinaagncjaaDoor
namespace Go.Proofs.YtchcjinaagncjaaDoor
open Go.RowKit Go.Shelf
set_option linter.unusedVariables false
namespace Pgm
/-- What is so of the memory where Decode gives up. -/
def DecW (W : World) (w : World) : Prop := w.heap[W.heap.size]? = some (.cells #[.slice none 0 0, .int .i64 0, .int .i64 0] 46 (0, 0)) ∧ Below W.heap.size W w
def DecJ (W : World) (D : Prop) (a : Act) (w : World) : Prop := ∃ u0 u1 u3 u4 u5 u6 u7 u8 u9 u10 u11 u12 u13 u14 u15 u16 u17 u18 u19 u20 u21 u22 u23 u24 u25 u26 u27 u28 u29 u30 u31 u32 u33 u34 u35 u36 u37 u38 u39 u40 u41 u42 u43 u44 u45 u46 u47 u48 u49 u50 u51 u52 u53 u54 u55 u56 u57 u58 u59 u60 u61 u62 u63 : Value, a = { tmps := #[u0, u1, .pointer (some ⟨W.heap.size, 0, none⟩), u3, u4, u5, u6, u7, u8, u9, u10, u11, u12, u13, u14, u15, u16, u17, u18, u19, u20, u21, u22, u23, u24, u25, u26, u27, u28, u29, u30, u31, u32, u33, u34, u35, u36, u37, u38, u39, u40, u41, u42, u43, u44, u45, u46, u47, u48, u49, u50, u51, u52, u53, u54, u55, u56, u57, u58, u59, u60, u61, u62, u63], defers := [] } ∧ Hid (DecW W w ∧ D)
theorem InOwn.of {W W' : World} {base : Nat} {v : Value} {l : List In} (h : InOwn W base v l) (hk : ∀ g, v.ownBlock = some g → W'.heap[g]? = W.heap[g]?) : InOwn W' base v l := by
  refine ⟨h.1, ?_⟩
  rcases h.2 with e | ⟨g, cap, cur, e, h1, h2, h3⟩
  · exact .inl e
  · exact .inr ⟨g, cap, cur, e, h1, (hk g (by rw [e]; rfl)).trans h2, h3⟩
theorem dec_run {W : World} {n0 : Nat} {B : Nat} {V : World} {x : In} {v : Value} {l : List In} {a1 a2 : Int} (hv : InOwn V B v l) (hB : B ≤ V.heap.size) (hl : l.length ≤ 100000) (X : Nat) (hX : V.heap[X]? = some (.cells #[.int .i64 x.op, .int .i64 x.lo, .int .i64 x.hi, .int .i64 x.x, .int .i64 x.y] 60 (0, 0))) (V2 : World) (hV2 : V.alloc (.cells #[.int .i64 x.op, .int .i64 x.lo, .int .i64 x.hi, .int .i64 x.x, .int .i64 x.y] 60) = V2) :
    ∃ a' L' c' W5, (Builtin.append_ #[44, 44] 44 #[v, .slice (some ⟨V.heap.size, 0, none⟩) 1 1]).run Tryd.prog V2 = .ok (.slice a' L' c') W5 ∧ InOwn W5 B (.slice a' L' c') (l ++ [x]) ∧ Below B V W5 := by
  have hb2 : Below V.heap.size V V2 := by rw [← hV2]; exact (Below.refl _ _).alloc (Nat.le_refl _) _
  have hnew : V2.heap[V.heap.size]? = some (.cells #[.int .i64 x.op, .int .i64 x.lo, .int .i64 x.hi, .int .i64 x.x, .int .i64 x.y] 60 (0, 0)) := by rw [← hV2]; exact heap_alloc_new V _
  have hv2 : InOwn V2 B v l := hv.below hb2 (Nat.le_refl _)
  obtain ⟨v', W5, hrun, ho, hb, hg⟩ := append_in V2 B v l hv2 (by have := hb2.size; omega) (by omega) x V.heap.size (fun j u hj => by
    rw [Addr.add_lit, Nat.zero_add]
    simp only [World.cell?, hnew]
    simpa [In.cs] using hj) 1
  obtain ⟨a', c', rfl⟩ := ho.slice
  exact ⟨_, _, _, W5, hrun, ho, (hb2.mono hB).trans hb⟩
set_option maxRecDepth 100000 in
set_option maxHeartbeats 32000000 in
theorem decode15 (W : World) (s : ByteArray) (hs : s.size ≤ 700000) (hE : EvO W) : Calls Tryd.prog 35 #[.string s] W (DecPost s.data.toList W) := by
  obtain ⟨S, hS⟩ : ∃ S, s.data.toList = S := ⟨_, rfl⟩
  have hSl : S.length = s.size := by rw [← hS]; simp
  have HCP := Lib.hid (fun w => cutmagic w s)
  have HSM := Lib.hid (fun w => sum_any w s (by omega))
  rw [hS] at HCP HSM ⊢
  have HE := Lib.hid hE
  have HSL := Lib.hid hSl
  obtain ⟨W1, hW1⟩ : ∃ W1, W.alloc (.cells #[.slice none 0 0, .int .i64 0, .int .i64 0] 46) = W1 := ⟨_, rfl⟩
  have hx1 : W1.heap[W.heap.size]? = some (.cells #[.slice none 0 0, .int .i64 0, .int .i64 0] 46 (0, 0)) := by rw [← hW1]; exact heap_alloc_new W _
  have hb1 : Below W.heap.size W W1 := by rw [← hW1]; exact (Below.refl _ _).alloc (Nat.le_refl _) _
  have hs1 : W1.heap.size = W.heap.size + 1 := by rw [← hW1]; simp
  obtain ⟨W2, hW2⟩ : ∃ W2, W1.alloc (.cells #[.slice none 0 0, .int .i64 0, .int .i64 0] 46) = W2 := ⟨_, rfl⟩
  have hx2 : W2.heap[W.heap.size]? = some (.cells #[.slice none 0 0, .int .i64 0, .int .i64 0] 46 (0, 0)) := by rw [← hW2]; exact (Below.heap_alloc _ _ _ (by omega)).trans hx1
  have hy2 : W2.heap[W1.heap.size]? = some (.cells #[.slice none 0 0, .int .i64 0, .int .i64 0] 46 (0, 0)) := by rw [← hW2]; exact heap_alloc_new W1 _
  have hb2 : Below W.heap.size W W2 := by rw [← hW2]; exact hb1.alloc (by omega) _
  have hs2 : W2.heap.size = W1.heap.size + 1 := by rw [← hW2]; simp
  obtain ⟨W3, hW3⟩ : ∃ W3, W2.alloc (.cells #[.int .i64 0] 3) = W3 := ⟨_, rfl⟩
  have hx3 : W3.heap[W.heap.size]? = some (.cells #[.slice none 0 0, .int .i64 0, .int .i64 0] 46 (0, 0)) := by rw [← hW3]; exact (Below.heap_alloc _ _ _ (by omega)).trans hx2
  have hy3 : W3.heap[W1.heap.size]? = some (.cells #[.slice none 0 0, .int .i64 0, .int .i64 0] 46 (0, 0)) := by rw [← hW3]; exact (Below.heap_alloc _ _ _ (by omega)).trans hy2
  have hz3 : W3.heap[W2.heap.size]? = some (.cells #[.int .i64 0] 3 (0, 0)) := by rw [← hW3]; exact heap_alloc_new W2 _
  have hb3 : Below W.heap.size W W3 := by rw [← hW3]; exact hb2.alloc (by omega) _
  have hs3 : W3.heap.size = W2.heap.size + 1 := by rw [← hW3]; simp
  have HW1 := Lib.hid hW1
  have HW2 := Lib.hid hW2
  have HW3 := Lib.hid hW3
  have HS := Lib.hid (And.intro hs1 (And.intro hs2 hs3))
  have HB3 := Lib.hid hb3
  have HX3 := Lib.hid hx3
  rw [hs1] at hy3
  rw [hs2, hs1] at hz3
  have HY3 := Lib.hid hy3
  have HZ3 := Lib.hid hz3
  have hmf : ∀ (fn : Fn) (first cap : Array Value) (w : World), (Instr.makeFunc fn first cap).run Tryd.prog w = .ok (.func fn first cap) w := fun _ _ _ _ => rfl
  clear hx1 hx2 hy2 hx3 hy3 hz3 hb1 hb2 hb3 hs1 hs2 hs3 hS hSl hW1 hW2 hW3 hE
  go_enter Tryd.func35, Tryd.ntmps35
  go_wp2
  refine wp_scope_jumps2 0 (DecJ W (decL S = none)) (fun _ _ => 0) rfl ?_ ?_
  · rintro a w ⟨u0, u1, u3, u4, u5, u6, u7, u8, u9, u10, u11, u12, u13, u14, u15, u16, u17, u18, u19, u20, u21, u22, u23, u24, u25, u26, u27, u28, u29, u30, u31, u32, u33, u34, u35, u36, u37, u38, u39, u40, u41, u42, u43, u44, u45, u46, u47, u48, u49, u50, u51, u52, u53, u54, u55, u56, u57, u58, u59, u60, u61, u62, u63, rfl, HJ⟩
    obtain ⟨⟨hx, hb⟩, hn⟩ := HJ.out
    have HX := Lib.hid hx
    have HB := Lib.hid hb
    have HN := Lib.hid hn
    have r0 : w.cell? ⟨W.heap.size, 0, none⟩ = some (.slice none 0 0) := blkp hx 0
    have r1 : w.cell? ⟨W.heap.size, 1, none⟩ = some (.int .i64 0) := blkp hx 1
    have r2 : w.cell? ⟨W.heap.size, 2, none⟩ = some (.int .i64 0) := blkp hx 2
    have f0 := frzp hx 0
    have f1 := frzp hx 1
    have f2 := frzp hx 2
    clear hx hb hn
    go_wp2
    simp only [Exit.jump]
    refine ret_box2 rfl W.heap.size #[.slice none 0 0, .int .i64 0, .int .i64 0] (load_prog (box3_set _ _ _ HX.out).2 rfl) rfl rfl ?_
    obtain ⟨g1, g2⟩ := box3_set (.slice none 0 0) (.int .i64 0) (.int .i64 0) HX.out
    exact ⟨.inr ⟨HN.out, rfl⟩, HB.out.grown g1 HB.out.size (fun j hj => by injection hj; omega)⟩
  · go_wp2_with fail
    rw [HW1.out, HW2.out, HW3.out]
    by_cases hm : S.take 3 = magicL
    · rw [if_pos hm, decide_eq_true hm] at HCP
      have HM := Lib.hid hm
      obtain ⟨T, hT⟩ : ∃ T, S.drop 3 = T := ⟨_, rfl⟩
      have hTl : T.length ≤ 700000 := by rw [← hT, List.length_drop]; have := HSL.out; omega
      rw [hT] at HCP
      have HT := Lib.hid hT
      obtain ⟨W4, hW4⟩ : ∃ W4, W3.alloc (.cells #[.string (txB T)] 98) = W4 := ⟨_, rfl⟩
      obtain ⟨R, hR⟩ : ∃ R, W3.heap.size = R := ⟨_, rfl⟩
      obtain ⟨q1, q2, q3⟩ := HS.out
      have hRB : R = W.heap.size + 3 := by omega
      have hx4 : W4.heap[W.heap.size]? = some (.cells #[.slice none 0 0, .int .i64 0, .int .i64 0] 46 (0, 0)) := by rw [← hW4]; exact (Below.heap_alloc _ _ _ (by omega)).trans HX3.out
      have hy4 : W4.heap[W.heap.size + 1]? = some (.cells #[.slice none 0 0, .int .i64 0, .int .i64 0] 46 (0, 0)) := by rw [← hW4]; exact (Below.heap_alloc _ _ _ (by omega)).trans HY3.out
      have hz4 : W4.heap[W.heap.size + 1 + 1]? = some (.cells #[.int .i64 0] 3 (0, 0)) := by rw [← hW4]; exact (Below.heap_alloc _ _ _ (by omega)).trans HZ3.out
      have hr4 : RdrAt W4 R T := by rw [← hW4, ← hR]; exact heap_alloc_new W3 _
      have hb4 : Below W.heap.size W W4 := by rw [← hW4]; exact HB3.out.alloc HB3.out.size _
      have hs4 : W4.heap.size = R + 1 := by rw [← hW4, ← hR]; simp
      obtain ⟨W5, hW5⟩ : ∃ W5, W4.alloc (.cells #[.pointer (some ⟨W.heap.size + 1, 1, none⟩), .pointer (some ⟨W.heap.size + 1, 2, none⟩), .pointer (some ⟨W.heap.size + 1 + 1, 0, none⟩)] 102) = W5 := ⟨_, rfl⟩
      have hx5 : W5.heap[W.heap.size]? = some (.cells #[.slice none 0 0, .int .i64 0, .int .i64 0] 46 (0, 0)) := by rw [← hW5]; exact (Below.heap_alloc _ _ _ (by omega)).trans hx4
      have hy5 : W5.heap[W.heap.size + 1]? = some (.cells #[.slice none 0 0, .int .i64 0, .int .i64 0] 46 (0, 0)) := by rw [← hW5]; exact (Below.heap_alloc _ _ _ (by omega)).trans hy4
      have hz5 : W5.heap[W.heap.size + 1 + 1]? = some (.cells #[.int .i64 0] 3 (0, 0)) := by rw [← hW5]; exact (Below.heap_alloc _ _ _ (by omega)).trans hz4
      have hr5 : RdrAt W5 R T := by rw [← hW5]; exact (Below.heap_alloc _ _ _ (by omega)).trans hr4
      have hb5 : Below W.heap.size W W5 := by rw [← hW5]; exact hb4.alloc (by omega) _
      have hs5 : W5.heap.size = R + 2 := by rw [← hW5]; simp; omega
      have hp5 : PtrRow W5 (some ⟨W4.heap.size, 0, none⟩) W4.heap.size [(W.heap.size + 1, 1), (W.heap.size + 1, 2), (W.heap.size + 1 + 1, 0)] := by rw [← hW5]; exact ptr_new (W := W4) (fun _ _ => trivial) rfl
      have HF := Lib.hid (fill_var W5 R T (some ⟨W4.heap.size, 0, none⟩) 3 3 W4.heap.size _ (by omega) hr5 rfl (by omega) hp5 (by
        intro p hp
        simp only [List.mem_cons, List.not_mem_nil, or_false] at hp
        rcases hp with rfl | rfl | rfl
        · exact ⟨⟨_, _, hy5, 0, rfl⟩, by dsimp only; omega, by dsimp only; omega⟩
        · exact ⟨⟨_, _, hy5, 0, rfl⟩, by dsimp only; omega, by dsimp only; omega⟩
        · exact ⟨⟨_, _, hz5, 0, rfl⟩, by dsimp only; omega, by dsimp only; omega⟩) (by omega))
      have HJ4 := fun h => Lib.hid (show DecW W W4 ∧ decL S = none from ⟨⟨hx4, hb4⟩, h⟩)
      have HX5 := Lib.hid hx5
      have HY5 := Lib.hid hy5
      have HZ5 := Lib.hid hz5
      have HB5 := Lib.hid hb5
      have HRB := Lib.hid hRB
      have HS5 := Lib.hid hs5
      have HWR := Lib.hid hR
      have HW5 := Lib.hid hW5
      clear q1 q2 q3 hx4 hy4 hz4 hr4 hb4 hs4 hx5 hy5 hz5 hr5 hb5 hs5 hp5 hm hT hRB
      by_cases hxo : xorL S = 0
      · have hxz : ((xorL S).toNat : Int) = 0 := by rw [hxo]; rfl
        rw [hxz] at HSM
        have HXO := Lib.hid hxo
        clear hxz hxo HJ4
        refine (HCP.out W3).mono ?_
        rintro e w ⟨rfl, rfl⟩
        go_wp2_with fail
        refine (HSM.out _).mono ?_
        rintro e w ⟨rfl, rfl⟩
        go_wp2_with fail
        refine HF.out.mono ?_
        rintro e w6 (⟨ns, r0, hns, rfl, hr6, hg6⟩ | ⟨hns, rfl, hb6⟩)
        · skip
          obtain ⟨hin1, hin2, hin3⟩ := (rdVs_iff _ _ _ _).1 hns
          obtain ⟨a1, a2, a3, rfl⟩ : ∃ a1 a2 a3, ns = [a1, a2, a3] := ⟨_, _, _, list3 hin1⟩
          have h1b := hin2 a1 (by simp)
          have h2b := hin2 a2 (by simp)
          have h3b := hin2 a3 (by simp)
          obtain ⟨m, rfl⟩ : ∃ m : Nat, a3 = (m : Int) := ⟨a3.toNat, by omega⟩
          have hm16 : m < 16384 := by omega
          have hr0l : r0.length ≤ 700000 := by have := congrArg List.length hin3; rw [List.length_append] at this; omega
          have hRB := HRB.out
          have hS5 := HS5.out
          obtain ⟨hP, hC⟩ := st3 (a1 := a1) (a2 := a2) (a3 := (m : Int)) HY5.out HZ5.out (by omega)
          have hst : ∀ j, j ≠ W.heap.size + 1 → j ≠ W.heap.size + 1 + 1 → (stL W5 [((W.heap.size + 1, 1), a1), ((W.heap.size + 1, 2), a2), ((W.heap.size + 1 + 1, 0), (m : Int))]).heap[j]? = W5.heap[j]? := fun j h1 h2 => stL_block _ _ _ (by
            intro p hp
            simp only [List.mem_cons, List.not_mem_nil, or_false] at hp
            rcases hp with rfl | rfl | rfl <;> dsimp only <;> omega)
          have hss := stL_size [((W.heap.size + 1, 1), a1), ((W.heap.size + 1, 2), a2), ((W.heap.size + 1 + 1, 0), (m : Int))] W5
          have hg6' : (stL W5 [((W.heap.size + 1, 1), a1), ((W.heap.size + 1, 2), a2), ((W.heap.size + 1 + 1, 0), (m : Int))]).grownBy w6 (some R) := hg6
          have hx6 : w6.heap[W.heap.size]? = some (.cells #[.slice none 0 0, .int .i64 0, .int .i64 0] 46 (0, 0)) := (hg6'.block _ (by rw [hss]; omega) (fun e => by injection e; omega)).trans ((hst _ (by omega) (by omega)).trans HX5.out)
          have hy6 : w6.heap[W.heap.size + 1]? = some (.cells #[.slice none 0 0, .int .i64 a1, .int .i64 a2] 46 (0, 0)) := (hg6'.block _ (by rw [hss]; omega) (fun e => by injection e; omega)).trans hP
          have hz6 : w6.heap[W.heap.size + 1 + 1]? = some (.cells #[.int .i64 (m : Int)] 3 (0, 0)) := (hg6'.block _ (by rw [hss]; omega) (fun e => by injection e; omega)).trans hC
          have hb6 : Below W.heap.size W w6 := HB5.out.trans ((stL_below _ W5 W.heap.size (by
            intro p hp
            simp only [List.mem_cons, List.not_mem_nil, or_false] at hp
            rcases hp with rfl | rfl | rfl <;> dsimp only <;> omega)).trans (below_grown hg6' (by omega) (by rw [hss]; omega)))
          have hs6 : R + 2 ≤ w6.heap.size := by have := hg6'.size; rw [hss] at this; omega
          have c6 : w6.cell? ⟨W.heap.size + 1 + 1, 0, none⟩ = some (.int .i64 (m : Int)) := blkp hz6 0
          have HNS : Hid (rdVs 3 (S.drop 3) = some ([a1, a2, (m : Int)], r0)) := Lib.hid (by rw [HT.out]; exact hns)
          have HB1 := Lib.hid (And.intro h1b h2b)
          have HX6 := Lib.hid hx6
          have HY6 := Lib.hid hy6
          have HB6 := Lib.hid hb6
          have HR6 := Lib.hid hr6
          have HR0L := Lib.hid hr0l
          have HMM := Lib.hid hm16
          clear hin1 hin2 hin3 h1b h2b h3b hm16 hRB hS5 hP hC hst hss hg6 hg6' hx6 hy6 hz6 hb6 hs6 hns hr6 hr0l hW4 hW5 hR hTl
          go_wp2
          clear c6
          go_loopw [9, 33] (fun Xv K wr => ∃ (k : Nat) (l : List In) (r : List UInt8) (v : Value), k ≤ m ∧ K = .int .i64 (k : Int) ∧ Hid (rdIs k r0 = some (l, r)) ∧ Hid (InOwn wr (R + 1) v l) ∧ Hid (wr.heap[W.heap.size]? = some (.cells #[.slice none 0 0, .int .i64 0, .int .i64 0] 46 (0, 0))) ∧ Hid (wr.heap[W.heap.size + 1]? = some (.cells #[v, .int .i64 a1, .int .i64 a2] 46 (0, 0))) ∧ Hid (RdrAt wr R r) ∧ Hid (Below W.heap.size W wr)) (fun Xv K _ => m - (intOf K).toNat)
          case atStart => exact ⟨0, [], r0, .slice none 0 0, by omega, rfl, Lib.hid rfl, Lib.hid (InOwn.nil _ _), HX6, HY6, HR6, HB6⟩
          case round =>
            obtain ⟨k, l, r, v, hk, rfl, HRD, HO, HX, HY, HRR, HB⟩ := hrel
            obtain ⟨hll, hrl⟩ := rdIs_len HRD.out
            have hRB := HRB.out
            have hm16 := HMM.out
            have hr0l := HR0L.out
            by_cases hlt : k < m
            · obtain ⟨X, hX⟩ : ∃ X, wr.heap.size = X := ⟨_, rfl⟩
              have hRX : R < X := by rw [← hX]; exact HRR.out.lt
              obtain ⟨V1, hV1⟩ : ∃ V1, wr.alloc (.cells #[.int .i64 0, .int .i64 0, .int .i64 0, .int .i64 0, .int .i64 0] 60) = V1 := ⟨_, rfl⟩
              have hs1 : V1.heap.size = X + 1 := by rw [← hV1, ← hX]; simp
              have hx1 : V1.heap[X]? = some (.cells #[.int .i64 0, .int .i64 0, .int .i64 0, .int .i64 0, .int .i64 0] 60 (0, 0)) := by rw [← hV1, ← hX]; exact heap_alloc_new wr _
              obtain ⟨V2, hV2⟩ : ∃ V2, V1.alloc (.cells #[.pointer (some ⟨X, 0, none⟩)] 102) = V2 := ⟨_, rfl⟩
              have hs2 : V2.heap.size = X + 2 := by rw [← hV2]; simp; omega
              have hx2 : V2.heap[X]? = some (.cells #[.int .i64 0, .int .i64 0, .int .i64 0, .int .i64 0, .int .i64 0] 60 (0, 0)) := by rw [← hV2]; exact (Below.heap_alloc _ _ _ (by omega)).trans hx1
              have hold2 : ∀ j, j < X → V2.heap[j]? = wr.heap[j]? := fun j hj => by rw [← hV2, ← hV1]; exact (Below.heap_alloc _ _ _ (by simp; omega)).trans (Below.heap_alloc _ _ _ (by omega))
              have hb2 : Below W.heap.size W V2 := by
                rw [← hV2, ← hV1]
                exact (HB.out.alloc HB.out.size _).alloc (by have := HB.out.size; simp; omega) _
              have hp2 : PtrRow V2 (some ⟨V1.heap.size, 0, none⟩) V1.heap.size [(X, 0)] := by rw [← hV2]; exact ptr_new (W := V1) (fun _ _ => trivial) rfl
              have hr2 : RdrAt V2 R r := (hold2 R hRX).trans HRR.out
              have HF1 := Lib.hid (fill_oct V2 R X r V1.heap.size 1 (by omega) hr2 hp2 ⟨_, _, hx2, 0, rfl⟩ (by omega) (by omega) (by omega))
              have HXX := Lib.hid hX
              have HSN := Lib.hid (rdIs_snoc k r0 l r HRD.out)
              have HMO := Lib.hid (rdIs_more (k + 1) m r0 (by omega))
              have HNO : Hid (rdIs m r0 = none → decL S = none) := Lib.hid (fun h => dec_no4 HNS.out (by rw [Int.toNat_natCast]; exact h))
              have HX2 := Lib.hid ((hold2 _ (by omega)).trans HX.out)
              have HB2 := Lib.hid hb2
              have HOLD2 := Lib.hid hold2
              have HS2 := Lib.hid hs2
              have HXI2 := Lib.hid hx2
              have HRX := Lib.hid hRX
              clear hs1 hx1 hs2 hx2 hold2 hb2 hp2 hr2 hRX hRB hrl hll hm16 hr0l
              go_wp2_with fail
              refine HF1.out.mono ?_
              rintro e w7 (⟨c, r1, rfl, rfl, hr7, hg7⟩ | ⟨rfl, rfl, rfl⟩)
              · have hRX := HRX.out
                have hRB := HRB.out
                have hs2 := HS2.out
                have hx7 : w7.heap[X]? = some (.cells #[.int .i64 (c.toNat : Int), .int .i64 0, .int .i64 0, .int .i64 0, .int .i64 0] 60 (0, 0)) := by
                  refine (hg7.block X (by rw [set_size]; omega) (fun e => by injection e; omega)).trans ?_
                  have := heap_setCell_same V2 X 0 _ _ (.int .i64 (c.toNat : Int)) HXI2.out
                  simpa using this
                have hold7 : ∀ j, j < X → j ≠ R → w7.heap[j]? = wr.heap[j]? := fun j hj hne => (hg7.block j (by rw [set_size]; omega) (fun e => hne (Option.some.inj e))).trans ((Below.heap_setCell _ _ _ _ (by show j ≠ X; omega)).trans (HOLD2.out j hj))
                have hb7 : Below W.heap.size W w7 := HB2.out.trans ((below_set _ (by omega)).trans (below_grown hg7 (by omega) (by rw [set_size]; omega)))
                have hs7 : X + 2 ≤ w7.heap.size := by have := hg7.size; rw [set_size] at this; omega
                have HOWN := Lib.hid (ownp_any w7 X (c.toNat : Int) 0 0 0 0 hx7)
                have HX7 := Lib.hid hx7
                have HOLD7 := Lib.hid hold7
                have HB7 := Lib.hid hb7
                have HS7 := Lib.hid hs7
                have HR7 := Lib.hid hr7
                clear hg7 hx7 hold7 hb7 hs7 hr7 hs2 hRX hRB
                go_wp2_with fail
                refine HOWN.out.mono ?_
                rintro e w8 ⟨a8, n8, c8, b8, rfl, hn8, hb8, hp8, hbb8⟩
                have hRX := HRX.out
                have hRB := HRB.out
                have hs7 := HS7.out
                have hs8 := hbb8.size
                have hx8 : w8.heap[X]? = some (.cells #[.int .i64 (c.toNat : Int), .int .i64 0, .int .i64 0, .int .i64 0, .int .i64 0] 60 (0, 0)) := (hbb8.block _ (by omega)).trans HX7.out
                have hr8 : RdrAt w8 R r1 := (hbb8.block _ (by omega)).trans HR7.out
                have hr1l : r1.length ≤ 700000 := by
                  have h1 := (rdIs_len HRD.out).2
                  have h2 := HR0L.out
                  rw [List.length_cons] at h1
                  omega
                have hpls : ∀ p ∈ plL X (c.toNat : Int), PlAt w8 p.1 p.2 ∧ R ≠ p.1 ∧ b8 ≠ p.1 := by
                  intro p hp
                  unfold plL at hp
                  obtain ⟨q, hq, rfl⟩ := List.mem_map.1 hp
                  have hq5 : q = 1 ∨ q = 2 ∨ q = 3 ∨ q = 4 := by
                    unfold offL at hq
                    (repeat' split at hq) <;> simp at hq <;> omega
                  refine ⟨⟨_, _, hx8, 0, ?_⟩, by dsimp only; omega, by dsimp only; omega⟩
                  dsimp only
                  rcases hq5 with rfl | rfl | rfl | rfl <;> rfl
                have HF2 := Lib.hid (fill_var w8 R r1 a8 n8 c8 b8 (plL X (c.toNat : Int)) (by omega) hr8 (by rw [pl_len, hn8]) (by rw [hn8]; have := own_le3 (c.toNat : Int); omega) hp8 hpls (by omega))
                have HOLD8 : Hid (∀ j, j < X → j ≠ R → w8.heap[j]? = wr.heap[j]?) := Lib.hid (fun j hj hne => (hbb8.block j (by omega)).trans (HOLD7.out j hj hne))
                have HB8 := Lib.hid (HB7.out.trans (hbb8.mono (by omega)))
                have HX8 := Lib.hid hx8
                have HS8 : Hid (X + 2 ≤ w8.heap.size) := Lib.hid (by omega)
                clear hn8 hb8 hp8 hbb8 hRX hRB hs7 hs8 hx8 hr8 hpls hr1l
                go_wp2_with fail
                refine HF2.out.mono ?_
                rintro e w9 (⟨ns, r2, hns, rfl, hr9, hg9⟩ | ⟨hns, rfl, hb9⟩)
                · rw [pl_len] at hns
                  have hRX := HRX.out
                  have hRB := HRB.out
                  have hs8 := HS8.out
                  have hss := stL_size ((plL X (c.toNat : Int)).zip ns) w8
                  have hzip : ∀ q ∈ (plL X (c.toNat : Int)).zip ns, q.1.1 = X := fun q hq => by
                    have := (List.of_mem_zip hq).1
                    unfold plL at this
                    obtain ⟨z, _, hz⟩ := List.mem_map.1 this
                    rw [← hz]
                  have hx9 := (hg9.block X (by rw [hss]; omega) (fun e => by injection e; omega)).trans (st_own HX8.out (rdVs_len hns).2)
                  have hold9 : ∀ j, j < X → j ≠ R → w9.heap[j]? = wr.heap[j]? := fun j hj hne => (hg9.block j (by rw [hss]; omega) (fun e => hne (Option.some.inj e))).trans ((stL_block _ _ _ (fun q hq => by rw [hzip q hq]; omega)).trans (HOLD8.out j hj hne))
                  have hb9 : Below W.heap.size W w9 := HB8.out.trans ((stL_below _ _ _ (fun q hq => by rw [hzip q hq]; omega)).trans (below_grown hg9 (by omega) (by rw [hss]; omega)))
                  have hs9 : X + 2 ≤ w9.heap.size := by have := hg9.size; rw [hss] at this; omega
                  have hri : rdI (c :: r1) = some (mkIn (c.toNat : Int) ns, r2) := by
                    show (match rdVs (ownN (c.toNat : Int)) r1 with
                      | none => none
                      | some (ns, r2) => some (mkIn (c.toNat : Int) ns, r2)) = _
                    rw [hns]
                  have HRD9 : Hid (rdIs (k + 1) r0 = some (l ++ [mkIn (c.toNat : Int) ns], r2)) := Lib.hid (by rw [HSN.out, hri])
                  obtain ⟨i, hi⟩ : ∃ i, mkIn (c.toNat : Int) ns = i := ⟨_, rfl⟩
                  rw [hi] at hx9 HRD9
                  have ho9 : InOwn w9 (R + 1) v l := InOwn.of HO.out (fun g hg => hold9 g (by have := (InOwn.lt HO.out g hg).2; have := HXX.out; omega) (by have := (InOwn.lt HO.out g hg).1; omega))
                  have hy9 := (hold9 (W.heap.size + 1) (by omega) (by omega)).trans HY.out
                  have hz9 := (hold9 W.heap.size (by omega) (by omega)).trans HX.out
                  obtain ⟨V10, hV10⟩ : ∃ V10, w9.alloc (.cells #[.int .i64 i.op, .int .i64 i.lo, .int .i64 i.hi, .int .i64 i.x, .int .i64 i.y] 60) = V10 := ⟨_, rfl⟩
                  obtain ⟨a', L', c', W11, hrun, ho11, hb11⟩ := dec_run (n0 := 0) (a1 := a1) (a2 := a2) (W := W) ho9 (by omega) (by have := (rdIs_len HRD.out).1; have := HMM.out; omega) X hx9 V10 hV10
                  have d0 : w9.cell? ⟨W.heap.size + 1, 0, none⟩ = some v := blkp hy9 0
                  have x0 := blkp hx9 0
                  have x1 := blkp hx9 1
                  have x2 := blkp hx9 2
                  have x3 := blkp hx9 3
                  have x4 := blkp hx9 4
                  simp only [List.getElem?_toArray, List.getElem?_cons_zero, List.getElem?_cons_succ] at x0 x1 x2 x3 x4
                  have hy11 : W11.heap[W.heap.size + 1]? = some (.cells #[v, .int .i64 a1, .int .i64 a2] 46 (0, 0)) := (hb11.block _ (by omega)).trans hy9
                  have y0 : W11.cell? ⟨W.heap.size + 1, 0, none⟩ = some v := blkp hy11 0
                  have yf := frzp hy11 0
                  obtain ⟨W12, hW12⟩ : ∃ W12, W11.setCell ⟨W.heap.size + 1, 0, none⟩ (.slice a' L' c') = W12 := ⟨_, rfl⟩
                  have hother : ∀ j, j ≠ W.heap.size + 1 → W12.heap[j]? = W11.heap[j]? := fun j hj => by rw [← hW12]; exact Below.heap_setCell _ _ _ _ hj
                  have HO12 : Hid (InOwn W12 (R + 1) (.slice a' L' c') (l ++ [i])) := Lib.hid (InOwn.of ho11 (fun g hg => hother g (by have := (InOwn.lt ho11 g hg).1; omega)))
                  have HX12 : Hid (W12.heap[W.heap.size]? = some (.cells #[.slice none 0 0, .int .i64 0, .int .i64 0] 46 (0, 0))) := Lib.hid ((hother _ (by omega)).trans ((hb11.block _ (by omega)).trans hz9))
                  have HY12 : Hid (W12.heap[W.heap.size + 1]? = some (.cells #[.slice a' L' c', .int .i64 a1, .int .i64 a2] 46 (0, 0))) := Lib.hid (by
                    rw [← hW12]
                    have := heap_setCell_same W11 (W.heap.size + 1) 0 _ _ (.slice a' L' c') hy11
                    simpa using this)
                  have HR12 : Hid (RdrAt W12 R r2) := Lib.hid ((hother _ (by omega)).trans ((hb11.block _ (by omega)).trans hr9))
                  have HB12 : Hid (Below W.heap.size W W12) := Lib.hid (by
                    rw [← hW12]
                    exact (hb9.trans (hb11.mono (by omega))).trans (below_set _ (by omega)))
                  have HRUN := Lib.hid hrun
                  have HV10 := Lib.hid hV10
                  have hWs : W.heap.size + 1 < w9.heap.size := by omega
                  have hXs : X < w9.heap.size := by omega
                  have hm17 := HMM.out
                  clear hi hri hns hr9 hg9 hss hzip hx9 hold9 hb9 hs9 ho9 hy9 hz9 hV10 hrun ho11 hb11 hy11 hother hRX hRB hs8
                  go_wp2_with (at_builtin; (rw [HV10.out]; refine wpList_append_run rfl _ _ 44 rfl _ _ _ W11 rfl rfl HRUN.out ?_))
                  go_wp2
                  go_roundw
                  case rel => first | exact ⟨k + 1, _, _, _, by omega, by go_num, HRD9, HO12, HX12, HY12, HR12, HB12⟩ | ((repeat apply Exists.intro); exact ⟨⟨k + 1, _, _, _, by omega, by go_num, HRD9, HO12, HX12, HY12, HR12, HB12⟩, rfl⟩)
                  case measure => simp [intOf]; omega
                · rw [pl_len] at hns
                  have hri : rdI (c :: r1) = none := by
                    show (match rdVs (ownN (c.toNat : Int)) r1 with
                      | none => none
                      | some (ns, r2) => some (mkIn (c.toNat : Int) ns, r2)) = _
                    rw [hns]
                  have HJ9 : Hid (DecW W w9 ∧ decL S = none) := Lib.hid (by
                    have hRX := HRX.out
                    have hRB := HRB.out
                    have hbb := hb9 (W.heap.size + 1) (by omega) (fun p hp => by
                      unfold plL at hp
                      obtain ⟨z, _, rfl⟩ := List.mem_map.1 hp
                      dsimp only; omega)
                    exact ⟨⟨(hbb.block _ (by omega)).trans ((HOLD8.out _ (by omega) (by omega)).trans HX.out), HB8.out.trans (hbb.mono (by omega))⟩, HNO.out (HMO.out (by rw [HSN.out, hri]))⟩)
                  clear hns hb9 hri
                  go_wp2
                  go_step3
                  exact ⟨rfl, _, _, _, _, _, _, _, _, _, _, _, _, _, _, _, _, _, _, _, _, _, _, _, _, _, _, _, _, _, _, _, _, _, _, _, _, _, _, _, _, _, _, _, _, _, _, _, _, _, _, _, _, _, _, _, _, _, _, _, _, _, _, _, rfl, HJ9⟩
              · have HJ2 : Hid (DecW W V2 ∧ decL S = none) := Lib.hid ⟨⟨HX2.out, HB2.out⟩, HNO.out (HMO.out (by rw [HSN.out]; rfl))⟩
                go_wp2
                go_step3
                exact ⟨rfl, _, _, _, _, _, _, _, _, _, _, _, _, _, _, _, _, _, _, _, _, _, _, _, _, _, _, _, _, _, _, _, _, _, _, _, _, _, _, _, _, _, _, _, _, _, _, _, _, _, _, _, _, _, _, _, _, _, _, _, _, _, _, _, rfl, HJ2⟩
            · obtain rfl : k = m := by omega
              have hz : r.length = 1 ∨ ¬ r.length = 1 := Classical.em _
              have HDI := Lib.hid (dec_is HM.out HXO.out HNS.out (by rw [Int.toNat_natCast]; exact HRD.out))
              have hsz : (txB r).size = r.length := txB_size r
              have cr : wr.cell? ⟨R, 0, none⟩ = some (.string (txB r)) := blkp HRR.out 0
              have p0 : wr.cell? ⟨W.heap.size + 1, 0, none⟩ = some v := blkp HY.out 0
              have p1 : wr.cell? ⟨W.heap.size + 1, 1, none⟩ = some (.int .i64 a1) := blkp HY.out 1
              have p2 : wr.cell? ⟨W.heap.size + 1, 2, none⟩ = some (.int .i64 a2) := blkp HY.out 2
              obtain ⟨TR, hTR⟩ : ∃ TR, txB r = TR := ⟨_, rfl⟩
              rw [hTR] at cr hsz
              have HCK := Lib.hid (check_any l a1 a2 v wr (HO.out.row (by omega) (rdIs_bd _ _ _ _ HRD.out)) (HE.out.below (Nat.le_refl _) HB.out))
              have HLL := Lib.hid hll
              clear hrl hm16 hr0l hTR hll hRB
              rcases hz with hz | hz
              · rw [hz] at hsz
                have hsz2 : (TR.size : Int) = 1 := by omega
                by_cases hok : Ok l a1 a2
                · rw [if_pos ⟨hz, hok⟩] at HDI
                  rw [chk_ok hok] at HCK
                  clear hok hz
                  go_wp2_with fail
                  refine HCK.out.mono ?_
                  rintro e wz ⟨rfl, hbz⟩
                  have hRB2 := HRB.out
                  have hsB := HB.out.size
                  have hyz := (hbz.block _ (Array.getElem?_eq_some_iff.1 HY.out).1).trans HY.out
                  have hxz := (hbz.block _ (Array.getElem?_eq_some_iff.1 HX.out).1).trans HX.out
                  have hoz := HO.out.below hbz (Nat.le_refl _)
                  obtain ⟨a9, c9, e9⟩ := hoz.slice
                  obtain ⟨L9, hL9⟩ : ∃ L9, l.length = L9 := ⟨_, rfl⟩
                  rw [hL9] at e9
                  subst e9
                  have z0 : wz.cell? ⟨W.heap.size + 1, 0, none⟩ = some (.slice a9 L9 c9) := blkp hyz 0
                  have z1 : wz.cell? ⟨W.heap.size + 1, 1, none⟩ = some (.int .i64 a1) := blkp hyz 1
                  have z2 : wz.cell? ⟨W.heap.size + 1, 2, none⟩ = some (.int .i64 a2) := blkp hyz 2
                  have r0' : wz.cell? ⟨W.heap.size, 0, none⟩ = some (.slice none 0 0) := blkp hxz 0
                  have r1' : wz.cell? ⟨W.heap.size, 1, none⟩ = some (.int .i64 0) := blkp hxz 1
                  have r2' : wz.cell? ⟨W.heap.size, 2, none⟩ = some (.int .i64 0) := blkp hxz 2
                  have f0 := frzp hxz 0
                  have f1 := frzp hxz 1
                  have f2 := frzp hxz 2
                  have HXZ := Lib.hid hxz
                  have HBZ := Lib.hid (HB.out.trans (hbz.mono hsB))
                  have HOZ := Lib.hid hoz
                  clear hbz hyz hxz hoz hL9 cr p0 p1 p2 hRB2 hsB
                  go_wp2
                  simp only [Exit.jump]
                  refine ret_box2 rfl W.heap.size #[.slice a9 L9 c9, .int .i64 a1, .int .i64 a2] (load_prog (box3_set _ _ _ HXZ.out).2 rfl) rfl rfl ?_
                  obtain ⟨g1, g2⟩ := box3_set (.slice a9 L9 c9) (.int .i64 a1) (.int .i64 a2) HXZ.out
                  refine ⟨.inl ⟨_, l, a1, a2, HDI.out, rfl, ?_⟩, HBZ.out.grown g1 HBZ.out.size (fun j hj => by injection hj; omega)⟩
                  have hRB2 := HRB.out
                  exact InOwn.mono (InOwn.of HOZ.out (fun g hg => by
                    have h1 := (InOwn.lt HOZ.out g hg).1
                    have h2 := (InOwn.lt HOZ.out g hg).2
                    exact g1.block g h2 (fun e => by injection e; omega))) (by omega)
                · rw [if_neg (fun h => hok h.2)] at HDI
                  rw [chk_not hok] at HCK
                  clear hok hz
                  go_wp2_with fail
                  refine HCK.out.mono ?_
                  rintro e wz ⟨rfl, hbz⟩
                  have HJZ : Hid (DecW W wz ∧ decL S = none) := Lib.hid ⟨⟨(hbz.block _ (Array.getElem?_eq_some_iff.1 HX.out).1).trans HX.out, HB.out.trans (hbz.mono HB.out.size)⟩, HDI.out⟩
                  clear hbz
                  go_wp2
                  go_step3
                  exact ⟨rfl, _, _, _, _, _, _, _, _, _, _, _, _, _, _, _, _, _, _, _, _, _, _, _, _, _, _, _, _, _, _, _, _, _, _, _, _, _, _, _, _, _, _, _, _, _, _, _, _, _, _, _, _, _, _, _, _, _, _, _, _, _, _, _, rfl, HJZ⟩
              · rw [if_neg (fun h => hz h.1)] at HDI
                have hsz2 : ¬ (TR.size : Int) = 1 := by omega
                have hsz3 : ((TR.size : Int) == 1) = false := by rw [beq_eq_false_iff_ne]; exact hsz2
                have hsz4 : ¬ TR.size = 1 := by omega
                have hsz5 : (TR.size == 1) = false := by rw [beq_eq_false_iff_ne]; exact hsz4
                have HJY : Hid (DecW W wr ∧ decL S = none) := Lib.hid ⟨⟨HX.out, HB.out⟩, HDI.out⟩
                clear hz hsz
                go_wp2
                go_step3
                exact ⟨rfl, _, _, _, _, _, _, _, _, _, _, _, _, _, _, _, _, _, _, _, _, _, _, _, _, _, _, _, _, _, _, _, _, _, _, _, _, _, _, _, _, _, _, _, _, _, _, _, _, _, _, _, _, _, _, _, _, _, _, _, _, _, _, _, rfl, HJY⟩
        · have HJ6 : Hid (DecW W w6 ∧ decL S = none) := Lib.hid (by
            have hbb := hb6 (W.heap.size + 1) (by rw [HRB.out]; omega) (by
              intro p hp
              simp only [List.mem_cons, List.not_mem_nil, or_false] at hp
              rcases hp with rfl | rfl | rfl <;> dsimp only <;> omega)
            exact ⟨⟨(hbb.block _ (by omega)).trans HX5.out, HB5.out.trans (hbb.mono (by omega))⟩, dec_no3 (by rw [HT.out]; exact hns)⟩)
          clear hns hb6
          go_wp2
          go_step3
          exact ⟨rfl, _, _, _, _, _, _, _, _, _, _, _, _, _, _, _, _, _, _, _, _, _, _, _, _, _, _, _, _, _, _, _, _, _, _, _, _, _, _, _, _, _, _, _, _, _, _, _, _, _, _, _, _, _, _, _, _, _, _, _, _, _, _, _, rfl, HJ6⟩
      · have HJ4 := HJ4 (dec_no2 hxo)
        have hxn : (((xorL S).toNat : Int) == 0) = false := by
          rw [beq_eq_false_iff_ne]
          intro e
          exact hxo (UInt8.toNat_inj.1 (by show _ = 0; omega))
        have hxn2 : ¬ ((xorL S).toNat : Int) = 0 := by rw [beq_eq_false_iff_ne] at hxn; exact hxn
        obtain ⟨z, hz⟩ : ∃ z, ((xorL S).toNat : Int) = z := ⟨_, rfl⟩
        rw [hz] at hxn hxn2 HSM
        clear hxo hz
        refine (HCP.out W3).mono ?_
        rintro e w ⟨rfl, rfl⟩
        go_wp2_with fail
        refine (HSM.out _).mono ?_
        rintro e w ⟨rfl, rfl⟩
        go_wp2
        go_step3
        exact ⟨rfl, _, _, _, _, _, _, _, _, _, _, _, _, _, _, _, _, _, _, _, _, _, _, _, _, _, _, _, _, _, _, _, _, _, _, _, _, _, _, _, _, _, _, _, _, _, _, _, _, _, _, _, _, _, _, _, _, _, _, _, _, _, _, _, rfl, HJ4⟩
    · have hnone := dec_no1 hm
      rw [if_neg hm, decide_eq_false hm] at HCP
      obtain ⟨W4, hW4⟩ : ∃ W4, W3.alloc (.cells #[.string s] 98) = W4 := ⟨_, rfl⟩
      have HJ : Hid (DecW W W4 ∧ decL S = none) := Lib.hid ⟨⟨by rw [← hW4]; exact (Below.heap_alloc _ _ _ (by have := HS.out; omega)).trans HX3.out, by rw [← hW4]; exact HB3.out.alloc HB3.out.size _⟩, hnone⟩
      clear hnone hm
      refine (HCP.out W3).mono ?_
      rintro e w ⟨rfl, rfl⟩
      go_wp2
      go_step3
      exact ⟨rfl, _, _, _, _, _, _, _, _, _, _, _, _, _, _, _, _, _, _, _, _, _, _, _, _, _, _, _, _, _, _, _, _, _, _, _, _, _, _, _, _, _, _, _, _, _, _, _, _, _, _, _, _, _, _, _, _, _, _, _, _, _, _, _, rfl, HJ⟩
end Pgm
end Go.Proofs.YtchcjinaagncjaaDoor
namespace Go.Proofs.YtchcjinaagncjaaDoor
open Go.RowKit
set_option linter.unusedVariables false
namespace Pgm
theorem dec_yes (W : World) (X : ByteArray) (hz : X.size ≤ 700000) (hE : EvO W) {l : List In} {st sl : Int} (hn : decL X.data.toList = some (l, st, sl)) : Calls Tryd.prog 35 #[.string X] W fun e w' => ∃ v, e = .returned (.tuple #[.agg #[v, .int .i64 st, .int .i64 sl], .int .i64 0]) ∧ InOwn w' W.heap.size v l ∧ Below W.heap.size W w' :=
  (decode15 W X hz hE).mono fun e w' ⟨h, hb⟩ => by
    rw [hn] at h
    rcases h with ⟨v, l3, st3, sl3, h1, h2, h3⟩ | ⟨h1, _⟩
    · injection h1 with h1; injection h1 with h1 h4; injection h4 with h4 h5
      subst h1; subst h4; subst h5
      exact ⟨v, h2, h3, hb⟩
    · cases h1
theorem dec_nay (W : World) (X : ByteArray) (hz : X.size ≤ 700000) (hE : EvO W) (hn : decL X.data.toList = none) : Calls Tryd.prog 35 #[.string X] W fun e w' => e = .returned (.tuple #[.agg #[.slice none 0 0, .int .i64 0, .int .i64 0], .int .i64 140]) ∧ Below W.heap.size W w' :=
  (decode15 W X hz hE).mono fun e w' ⟨h, hb⟩ => by
    rw [hn] at h
    rcases h with ⟨v, l3, st3, sl3, h1, h2, h3⟩ | ⟨_, h2⟩
    · cases h1
    · exact ⟨h2, hb⟩
end Pgm
end Go.Proofs.YtchcjinaagncjaaDoor
namespace Go.Proofs.YtchcjinaagncjaaDoor
open Go.RowKit
set_option linter.unusedVariables false
set_option linter.unusedSimpArgs false
namespace Pgm
/-- What a program that may be run leads to is there. -/
theorem in_there {l : List In} {st sl : Int} (h : chkV l st sl = 0) {i : In} (hi : i ∈ l) : i.x < l.length ∧ i.y < l.length ∧ (i.op = 3 → i.lo < sl) := by
  obtain ⟨k1, k2, k3, k4⟩ := chkV_ok h
  obtain ⟨hT, t2, t3⟩ := tg_of k1 k2
  have hn := k1.1
  have hf := (fitB_iff i).1 (List.all_eq_true.1 k1.2.2.2.2.2.2 i hi)
  have ht := hT i hi
  unfold tgL at ht
  unfold Fit at hf
  unfold slB at k3
  rw [Bool.and_eq_true] at k3
  have h3 : badS sl i = false := by
    have := k3.2
    rw [Bool.not_eq_true', List.any_eq_false] at this
    simpa using this i hi
  refine ⟨?_, ?_, fun ho => ?_⟩
  · rcases hf with h | h | h | h | h
    · rw [if_neg (by omega), if_pos (by omega)] at ht; exact (ht i.x (by simp)).2
    · rw [if_pos (by omega)] at ht; exact (ht i.x (by simp)).2
    · rw [if_neg (by omega), if_pos (by omega)] at ht; exact (ht i.x (by simp)).2
    · rw [if_neg (by omega), if_pos (by omega)] at ht; exact (ht i.x (by simp)).2
    · omega
  · rcases hf with h | h | h | h | h
    · omega
    · rw [if_pos (by omega)] at ht; exact (ht i.y (by simp)).2
    · omega
    · omega
    · omega
  · unfold badS at h3
    rw [decide_eq_true ho, Bool.true_and, Bool.or_eq_false_iff, decide_eq_false_iff_not, decide_eq_false_iff_not] at h3
    omega
theorem chkV_mem (l : List In) (st sl : Int) (h : Ok l st sl) : chkV l st sl = 0 ∨ chkV l st sl = 150 ∨ chkV l st sl = 151 ∨ chkV l st sl = 152 := by
  unfold chkV
  rw [if_pos h]
  split
  · split
    · split <;> simp
    · simp
  · simp
set_option maxRecDepth 100000 in
set_option maxHeartbeats 8000000 in
theorem walkVerifyBytes (W : World) (s : ByteArray) (hs : s.size ≤ 140737488351232) (hE : EvV W) :
    Calls Tryd.prog 8 #[.string s] W fun e w' => e = .returned (.bool true) ∧ Below W.heap.size W w' := by
  have HWK := Lib.hid (works16_any W hE)
  have HEV : Hid (∀ w, Below W.heap.size W w → EvV w) := Lib.hid (fun w h => hE.below (Nat.le_refl _) h)
  obtain ⟨B, hB⟩ : ∃ B, W.heap.size = B := ⟨_, rfl⟩
  have HBS := Lib.hid hB
  have HSZ : Hid (∀ w, Below B W w → B ≤ w.heap.size) := Lib.hid (fun w h => by have := h.size; rw [hB] at this; exact this)
  rw [hB] at HWK HEV ⊢
  have hz0 : (0 : Int) ≤ (s.size : Int) := by omega
  clear hE hB
  go_enter Tryd.func8, Tryd.ntmps8
  go_wp2_with fail
  refine HWK.out.mono ?_
  rintro e w1 ⟨rfl, hb1⟩
  have HB1 := Lib.hid hb1
  clear hb1
  by_cases h5 : 500 < s.size
  · have h5' : (500 : Int) < (s.size : Int) := by omega
    go_wp2
    go_ret
    exact ⟨rfl, HB1.out⟩
  have h5' : ¬ (500 : Int) < (s.size : Int) := by omega
  cases hdec : decL s.data.toList with
  | none =>
    have HD := Lib.hid (dec_nay w1 s (by omega) (HEV.out _ HB1.out).1 hdec)
    clear hdec
    go_wp2_with fail
    refine HD.out.mono ?_
    rintro e w2 ⟨rfl, hb2⟩
    have HB2 : Hid (Below B W w2) := Lib.hid (HB1.out.trans (hb2.mono (HSZ.out _ HB1.out)))
    clear hb2
    go_wp2
    go_ret
    exact ⟨rfl, HB2.out.alloc (HSZ.out _ HB2.out) _⟩
  | some p =>
    obtain ⟨l, st, sl⟩ := p
    have HD := Lib.hid (dec_yes w1 s (by omega) (HEV.out _ HB1.out).1 hdec)
    have hok := ((dec_iff _ _ _ _).1 hdec).1
    have HOK := Lib.hid hok
    obtain ⟨n, hn⟩ : ∃ n, l.length = n := ⟨_, rfl⟩
    have HN := Lib.hid hn
    clear hdec
    go_wp2_with fail
    refine HD.out.mono ?_
    rintro e w2 ⟨v, rfl, ho2, hb2⟩
    have hr2 := ho2.row (by have := hok.2.1; omega) (ok_bd hok)
    obtain ⟨a, cap, rfl⟩ := ho2.slice
    rw [hn] at hr2 ⊢
    have HB2 : Hid (Below B W w2) := Lib.hid (HB1.out.trans (hb2.mono (HSZ.out _ HB1.out)))
    obtain ⟨w3, hw3⟩ : ∃ w3, w2.alloc (.cells #[.slice a n cap, .int .i64 st, .int .i64 sl] 46) = w3 := ⟨_, rfl⟩
    have hb3 : Below w2.heap.size w2 w3 := by rw [← hw3]; exact (Below.refl _ _).alloc (Nat.le_refl _) _
    have hx3 : w3.heap[w2.heap.size]? = some (.cells #[.slice a n cap, .int .i64 st, .int .i64 sl] 46 (0, 0)) := by rw [← hw3]; exact heap_alloc_new w2 _
    have HB3 : Hid (Below B W w3) := Lib.hid (HB2.out.trans (hb3.mono (HSZ.out _ HB2.out)))
    have HR3 := Lib.hid (hr2.below (Nat.le_refl _) hb3)
    have HX3 := Lib.hid hx3
    have c0 := blkp hx3 0
    have c1 := blkp hx3 1
    have c2 := blkp hx3 2
    simp only [List.getElem?_toArray, List.getElem?_cons_zero, List.getElem?_cons_succ] at c0 c1 c2
    have HW3 := Lib.hid hw3
    clear hb2 hb3 ho2 hr2 hx3 hw3 hn hok
    by_cases hck : chkV l st sl = 0
    · have HNY := Lib.hid (new_yes l st sl _ w3 HR3.out (HEV.out _ HB3.out) hck)
      have HCH := Lib.hid hck
      clear hck
      go_wp2_with fail
      rw [HW3.out]
      refine HNY.out.mono ?_
      rintro e w4 ⟨G, v4, rfl, hc4, hb4⟩
      have HC4 := Lib.hid hc4
      have HB4 : Hid (Below B W w4) := Lib.hid (HB3.out.trans (hb4.mono (HSZ.out _ HB3.out)))
      have HL4 := Lib.hid (vlen_any hc4)
      rw [HN.out] at HL4
      have HTH := Lib.hid (fun i (hi : i ∈ l) => in_there HCH.out hi)
      clear hc4 hb4 c0 c1 c2
      go_wp2_with fail
      refine HL4.out.mono ?_
      rintro e w ⟨rfl, hw⟩
      subst hw
      have n0 : (0 : Int) ≤ (n : Int) := by omega
      have hn4 : n ≤ 4000 := by have := HOK.out.2.1; rw [HN.out] at this; exact this
      go_wp2
      go_loopw [53] (fun K wr => ∃ k : Nat, k ≤ n ∧ K = .int .i64 (k : Int) ∧ Hid (CkOn wr G v4 l st sl w3.heap.size) ∧ Hid (Below B W wr)) (fun K _ => n - (intOf K).toNat)
      case atStart => exact ⟨0, by omega, rfl, HC4, HB4⟩
      case round =>
        obtain ⟨k, hk, rfl, HC, HB⟩ := hrel
        by_cases hlt : k < n
        · have hkl : k < l.length := by rw [HN.out]; exact hlt
          obtain ⟨y, hy⟩ : ∃ y, l[k] = y := ⟨_, rfl⟩
          have hyk : l[k]? = some y := by rw [List.getElem?_eq_getElem hkl, hy]
          have HI := Lib.hid (vinst_in k HC.out y hyk)
          obtain ⟨y1, y2, y3⟩ := HTH.out y (List.mem_of_getElem? hyk)
          rw [HN.out] at y1 y2
          have hb5 : ∀ w', Below wr.heap.size wr w' → ∀ o, Below wr.heap.size wr (w'.alloc o) := fun w' h o => h.alloc h.size o
          have k0 : (0 : Int) ≤ (k : Int) := by omega
          have k1 : (k : Int) < (n : Int) := by omega
          have y1' : ¬ (n : Int) ≤ y.x := by omega
          have y2' : ¬ (n : Int) ≤ y.y := by omega
          clear hyk hy hkl
          go_wp2_with fail
          refine HI.out.mono ?_
          rintro e w5 ⟨rfl, hb5'⟩
          obtain ⟨w6, hw6⟩ : ∃ w6, w5.alloc (.cells #[.int .i64 y.op, .int .i64 y.lo, .int .i64 y.hi, .int .i64 y.x, .int .i64 y.y] 60) = w6 := ⟨_, rfl⟩
          have hnew := inst_block w5 y
          rw [hw6] at hnew
          have hb6 : Below wr.heap.size wr w6 := by rw [← hw6]; exact hb5 _ hb5' _
          have hc6 := HC.out.below hb6 (Nat.le_refl _)
          have HC6 := Lib.hid hc6
          have HB6 : Hid (Below B W w6) := Lib.hid (HB.out.trans (hb6.mono (HSZ.out _ HB.out)))
          have HLN := Lib.hid (fun d => vlen_any (hc6.keep (w' := w6.drewN d) rfl (fun _ _ => rfl)))
          have HSN := Lib.hid (fun d => vslots_any (hc6.keep (w' := w6.drewN d) rfl (fun _ _ => rfl)))
          rw [HN.out] at HLN
          have d0 := blkp hnew 0
          have d1 := blkp hnew 1
          have d2 := blkp hnew 2
          have d3 := blkp hnew 3
          have d4 := blkp hnew 4
          simp only [List.getElem?_toArray, List.getElem?_cons_zero, List.getElem?_cons_succ] at d0 d1 d2 d3 d4
          have HW6 := Lib.hid hw6
          clear hb5 hb5' hw6 hnew hb6 hc6
          by_cases ho : y.op = 3
          · have y3' : ¬ sl ≤ y.lo := by have := y3 ho; omega
            rw [ho] at d0 HW6
            clear y3
            rw [ho]
            go_wp2_with fail
            rw [HW6.out]
            go_quiet (first | (go_at_call 25; exact Calls.quiet_of_same (HLN.out _)) | (go_at_call 27; exact Calls.quiet_of_same (HSN.out _)))
            have HC7 : Hid (CkOn (w6.drewN nq) G v4 l st sl w3.heap.size) := Lib.hid (HC6.out.keep rfl fun _ _ => rfl)
            have HB7 := Lib.hid (below_drewN HB6.out nq)
            go_wp2
            go_roundw
            case rel => exact ⟨k + 1, by omega, by go_num, HC7, HB7⟩
            case measure => simp [intOf]; omega
          · have ho' : ¬ y.op = 3 := ho
            clear y3
            go_wp2_with fail
            rw [HW6.out]
            go_quiet (first | (go_at_call 25; exact Calls.quiet_of_same (HLN.out _)) | (go_at_call 27; exact Calls.quiet_of_same (HSN.out _)))
            have HC7 : Hid (CkOn (w6.drewN nq) G v4 l st sl w3.heap.size) := Lib.hid (HC6.out.keep rfl fun _ _ => rfl)
            have HB7 := Lib.hid (below_drewN HB6.out nq)
            go_wp2
            go_roundw
            case rel => exact ⟨k + 1, by omega, by go_num, HC7, HB7⟩
            case measure => simp [intOf]; omega
        · obtain rfl : k = n := by omega
          have HS := Lib.hid (vstart_any HC.out)
          have HL := Lib.hid (vlen_any HC.out)
          have HSL := Lib.hid (vslots_any HC.out)
          rw [HN.out] at HL
          obtain ⟨k1, k2, k3, k4⟩ := chkV_ok HCH.out
          have t3 := (tg_of k1 k2).2.2
          have s6 : sl ≤ 64 := k1.2.2.2.2.2.1
          rw [HN.out] at t3
          clear k1 k2 k3 k4
          go_wp2_with fail
          refine HS.out.mono ?_
          rintro e w ⟨rfl, hw⟩
          subst hw
          go_wp2_with fail
          refine HL.out.mono ?_
          rintro e w ⟨rfl, hw⟩
          subst hw
          go_wp2_with fail
          refine HSL.out.mono ?_
          rintro e w ⟨rfl, hw⟩
          subst hw
          go_wp2
          go_ret
          exact ⟨rfl, HB.out⟩
    · have HNO := Lib.hid (new_no l st sl _ w3 HR3.out (HEV.out _ HB3.out) hck)
      have hm := chkV_mem l st sl HOK.out
      have HCK : Hid (∀ w, Below w3.heap.size w3 w → Calls Tryd.prog 36 #[.agg #[.slice a n cap, .int .i64 st, .int .i64 sl]] w fun e w' => e = .returned (.int .i64 0) ∧ Below w.heap.size w w') := Lib.hid (fun w h => by
        have := check_any l st sl _ w (HR3.out.below (Nat.le_refl _) h) (HEV.out w (HB3.out.trans (h.mono (HSZ.out _ HB3.out)))).1
        rw [chk_ok HOK.out] at this
        exact this)
      obtain ⟨Z, hZ⟩ : ∃ Z, chkV l st sl = Z := ⟨_, rfl⟩
      rw [hZ] at HNO hck hm
      clear hZ
      have hm2 : Z = 150 ∨ Z = 151 ∨ Z = 152 := by rcases hm with h | h; exact absurd h hck; exact h
      clear hm hck
      rcases hm2 with h | h | h <;> subst h
      all_goals
        go_wp2_with fail
        rw [HW3.out]
        refine HNO.out.mono ?_
        rintro e w4 ⟨rfl, hb4⟩
        have hx4 := (hb4.block w2.heap.size (Array.getElem?_eq_some_iff.1 HX3.out).1).trans HX3.out
        have HB4 := Lib.hid hb4
        have d0 := blkp hx4 0
        have d1 := blkp hx4 1
        have d2 := blkp hx4 2
        simp only [List.getElem?_toArray, List.getElem?_cons_zero, List.getElem?_cons_succ] at d0 d1 d2
        clear hb4 hx4 c0 c1 c2
        go_wp2_with fail
        refine (HCK.out w4 HB4.out).mono ?_
        rintro e w5 ⟨rfl, hb5⟩
        have HB5 : Hid (Below B W w5) := Lib.hid (HB3.out.trans ((HB4.out.trans (hb5.mono HB4.out.size)).mono (HSZ.out _ HB3.out)))
        clear hb5 d0 d1 d2
        go_wp2
        go_ret
        exact ⟨rfl, HB5.out⟩
end Pgm
end Go.Proofs.YtchcjinaagncjaaDoor
