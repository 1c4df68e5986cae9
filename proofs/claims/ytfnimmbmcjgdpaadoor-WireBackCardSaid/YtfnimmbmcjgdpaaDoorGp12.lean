/- The binary format of programs: mathematics. -/
import Derived.Test.YtfnimmbmcjgdpaaDoorGp5
namespace Go.Proofs.YtfnimmbmcjgdpaaDoor.Pgm
set_option linter.unusedVariables false
/-- A number's varint (numbers below 16384: one byte or two). -/
def vL (n : Int) : List UInt8 := if n < 128 then [UInt8.ofNat n.toNat] else [UInt8.ofNat (128 + n.toNat % 128), UInt8.ofNat (n.toNat / 128)]
def instW (i : In) : List UInt8 := UInt8.ofNat i.op.toNat :: (ownL i).flatMap vL
def magicL : List UInt8 := [66, 82, 49]
def bodyW (l : List In) (st sl : Int) : List UInt8 := magicL ++ ([st, sl, (l.length : Int)].flatMap vL ++ l.flatMap instW)
def xorL (s : List UInt8) : UInt8 := s.foldl (fun a b => a ^^^ b) 0
def encL (l : List In) (st sl : Int) : List UInt8 := bodyW l st sl ++ [xorL (bodyW l st sl)]
theorem xorL_snoc (s : List UInt8) (b : UInt8) : xorL (s ++ [b]) = xorL s ^^^ b := by unfold xorL; simp
theorem u8_of {b : UInt8} {n : Nat} (h : b.toNat = n) : b = UInt8.ofNat n := by
  subst h; simp
theorem ofNat_toNat8 {n : Nat} (h : n < 256) : (UInt8.ofNat n).toNat = n := by
  rw [UInt8.toNat_ofNat']; omega
/-- What is read as a varint: at most two bytes. -/
def rdT (b : UInt8) : List UInt8 → Option (Int × List UInt8)
  | [] => none
  | c :: r2 => if c.toNat < 128 ∧ 0 < c.toNat then some (((b.toNat % 128 + 128 * c.toNat : Nat) : Int), r2) else none
def rdV : List UInt8 → Option (Int × List UInt8)
  | [] => none
  | b :: r => if b.toNat < 128 then some ((b.toNat : Int), r) else rdT b r
theorem rdV_iff (s : List UInt8) (n : Int) (r : List UInt8) : rdV s = some (n, r) ↔ 0 ≤ n ∧ n < 16384 ∧ s = vL n ++ r := by
  constructor
  · intro h
    cases s with
    | nil => cases h
    | cons b t =>
      change (if b.toNat < 128 then some ((b.toNat : Int), t) else rdT b t) = _ at h
      split at h
      · rename_i hb
        injection h with h
        injection h with h1 h2
        subst h1; subst h2
        refine ⟨by omega, by omega, ?_⟩
        unfold vL
        rw [if_pos (by omega)]
        simp
      · rename_i hb
        cases t with
        | nil => cases h
        | cons c r2 =>
          change (if c.toNat < 128 ∧ 0 < c.toNat then some (((b.toNat % 128 + 128 * c.toNat : Nat) : Int), r2) else none) = _ at h
          split at h
          · rename_i hc
            injection h with h
            injection h with h1 h2
            subst h1; subst h2
            have hb8 := b.toNat_lt
            refine ⟨by omega, by omega, ?_⟩
            unfold vL
            rw [if_neg (by omega), Int.toNat_natCast]
            have e1 : b = UInt8.ofNat (128 + (b.toNat % 128 + 128 * c.toNat) % 128) := u8_of (by omega)
            have e2 : c = UInt8.ofNat ((b.toNat % 128 + 128 * c.toNat) / 128) := u8_of (by omega)
            rw [← e1, ← e2]; rfl
          · cases h
  · rintro ⟨h0, h1, rfl⟩
    unfold vL
    split
    · rename_i hn
      show (if (UInt8.ofNat n.toNat).toNat < 128 then _ else _) = _
      rw [ofNat_toNat8 (by omega), if_pos (by omega), Int.toNat_of_nonneg h0]; rfl
    · rename_i hn
      show (if (UInt8.ofNat (128 + n.toNat % 128)).toNat < 128 then _ else if (UInt8.ofNat (n.toNat / 128)).toNat < 128 ∧ 0 < (UInt8.ofNat (n.toNat / 128)).toNat then some ((((UInt8.ofNat (128 + n.toNat % 128)).toNat % 128 + 128 * (UInt8.ofNat (n.toNat / 128)).toNat : Nat) : Int), r) else none) = _
      rw [ofNat_toNat8 (by omega), ofNat_toNat8 (by omega), if_neg (by omega), if_pos (by omega)]
      have : (((128 + n.toNat % 128) % 128 + 128 * (n.toNat / 128) : Nat) : Int) = n := by omega
      rw [this]
theorem vL_len (n : Int) : 1 ≤ (vL n).length ∧ (vL n).length ≤ 2 := by unfold vL; split <;> simp
/-- Several varints. -/
def rdVs : Nat → List UInt8 → Option (List Int × List UInt8)
  | 0, s => some ([], s)
  | k + 1, s => match rdV s with
    | none => none
    | some (n, r) => match rdVs k r with
      | none => none
      | some (ns, r2) => some (n :: ns, r2)
theorem rdVs_iff : ∀ (k : Nat) (s : List UInt8) (ns : List Int) (r : List UInt8), rdVs k s = some (ns, r) ↔ ns.length = k ∧ (∀ n ∈ ns, 0 ≤ n ∧ n < 16384) ∧ s = ns.flatMap vL ++ r
  | 0, s, ns, r => by
    unfold rdVs
    constructor
    · intro h
      injection h with h
      injection h with h1 h2
      subst h1; subst h2
      simp
    · rintro ⟨h1, _, h3⟩
      have := List.eq_nil_of_length_eq_zero h1
      subst this
      subst h3
      rfl
  | k + 1, s, ns, r => by
    unfold rdVs
    constructor
    · intro h
      split at h
      · cases h
      · rename_i n r1 h1
        split at h
        · cases h
        · rename_i ms r2 h2
          injection h with h
          injection h with h3 h4
          subst h3; subst h4
          obtain ⟨a1, a2, a3⟩ := (rdV_iff s n r1).1 h1
          obtain ⟨b1, b2, b3⟩ := (rdVs_iff k r1 ms r2).1 h2
          refine ⟨by simp [b1], ?_, by rw [a3, b3]; simp⟩
          intro m hm
          rcases List.mem_cons.1 hm with rfl | hm
          · exact ⟨a1, a2⟩
          · exact b2 m hm
    · rintro ⟨h1, h2, h3⟩
      cases ns with
      | nil => simp at h1
      | cons n ms =>
        have e1 : rdV s = some (n, ms.flatMap vL ++ r) := (rdV_iff _ _ _).2 ⟨(h2 n (by simp)).1, (h2 n (by simp)).2, by rw [h3]; simp⟩
        have e2 : rdVs k (ms.flatMap vL ++ r) = some (ms, r) := (rdVs_iff k _ _ _).2 ⟨by simpa using h1, fun m hm => h2 m (by simp [hm]), rfl⟩
        rw [e1]
        dsimp only
        rw [e2]
/-- How many fields an Op has. -/
def ownN (op : Int) : Nat := if op = 1 then 3 else if op = 2 then 2 else if op = 3 ∨ op = 4 then 2 else 0
def mkIn (op : Int) (ns : List Int) : In :=
  if op = 1 then ⟨1, ns.getD 0 0, ns.getD 1 0, ns.getD 2 0, 0⟩ else if op = 2 then ⟨2, 0, 0, ns.getD 0 0, ns.getD 1 0⟩ else
  if op = 3 ∨ op = 4 then ⟨op, ns.getD 0 0, 0, ns.getD 1 0, 0⟩ else ⟨op, 0, 0, 0, 0⟩
theorem own_len (i : In) : (ownL i).length = ownN i.op := by
  unfold ownL ownN
  split
  · rfl
  · split
    · rfl
    · split <;> rfl
theorem mkIn_op (op : Int) (ns : List Int) : (mkIn op ns).op = op := by
  unfold mkIn
  split
  · rename_i h; exact h.symm
  · split
    · rename_i h; exact h.symm
    · split <;> rfl
theorem list3 {l : List Int} (h : l.length = 3) : l = [l.getD 0 0, l.getD 1 0, l.getD 2 0] := by
  match l, h with
  | [a, b, c], _ => rfl
theorem list2 {l : List Int} (h : l.length = 2) : l = [l.getD 0 0, l.getD 1 0] := by
  match l, h with
  | [a, b], _ => rfl
theorem own_mkIn (op : Int) (ns : List Int) (h : ns.length = ownN op) : ownL (mkIn op ns) = ns := by
  unfold ownN at h
  unfold ownL
  rw [mkIn_op]
  unfold mkIn
  split
  · rename_i h1
    rw [if_pos h1] at h
    exact (list3 h).symm
  · rename_i h1
    rw [if_neg h1] at h
    split
    · rename_i h2
      rw [if_pos h2] at h
      exact (list2 h).symm
    · rename_i h2
      rw [if_neg h2] at h
      split
      · rename_i h3
        rw [if_pos h3] at h
        exact (list2 h).symm
      · rename_i h3
        rw [if_neg h3] at h
        exact (List.eq_nil_of_length_eq_zero h).symm
theorem mkIn_own {i : In} (h : Fit i) : mkIn i.op (ownL i) = i := by
  obtain ⟨op, lo, hi, x, y⟩ := i
  unfold Fit at h
  dsimp only at h
  unfold mkIn ownL
  dsimp only
  rcases h with h | h | h | h | h
  · obtain ⟨rfl, h⟩ := h
    exact In.ext' rfl rfl rfl rfl (by show 0 = y; omega)
  · obtain ⟨rfl, h⟩ := h
    exact In.ext' rfl (by show 0 = lo; omega) (by show 0 = hi; omega) rfl rfl
  · obtain ⟨rfl, h⟩ := h
    exact In.ext' rfl rfl (by show 0 = hi; omega) rfl (by show 0 = y; omega)
  · obtain ⟨rfl, h⟩ := h
    exact In.ext' rfl rfl (by show 0 = hi; omega) rfl (by show 0 = y; omega)
  · obtain ⟨h1, h⟩ := h
    rw [if_neg (by omega), if_neg (by omega), if_neg (by omega)]
    exact In.ext' rfl (by show 0 = lo; omega) (by show 0 = hi; omega) (by show 0 = x; omega) (by show 0 = y; omega)
/-- What is read as an instruction. -/
def rdI : List UInt8 → Option (In × List UInt8)
  | [] => none
  | b :: r => match rdVs (ownN (b.toNat : Int)) r with
    | none => none
    | some (ns, r2) => some (mkIn (b.toNat : Int) ns, r2)
theorem rdI_fit {i : In} (h : Fit i) (r : List UInt8) : rdI (instW i ++ r) = some (i, r) := by
  have ho := fit_op h
  have e1 : ((UInt8.ofNat i.op.toNat).toNat : Int) = i.op := by rw [ofNat_toNat8 (by omega)]; omega
  have e2 : rdVs (ownN i.op) ((ownL i).flatMap vL ++ r) = some (ownL i, r) := (rdVs_iff _ _ _ _).2 ⟨own_len i, fun n hn => ⟨(fit_own h n hn).1, by have := (fit_own h n hn).2; omega⟩, rfl⟩
  show (match rdVs (ownN ((UInt8.ofNat i.op.toNat).toNat : Int)) ((ownL i).flatMap vL ++ r) with
    | none => none
    | some (ns, r2) => some (mkIn ((UInt8.ofNat i.op.toNat).toNat : Int) ns, r2)) = _
  rw [e1, e2]
  dsimp only
  rw [mkIn_own h]
theorem rdI_some {s : List UInt8} {i : In} {r : List UInt8} (h : rdI s = some (i, r)) : s = instW i ++ r := by
  cases s with
  | nil => cases h
  | cons b t =>
    unfold rdI at h
    dsimp only at h
    split at h
    · cases h
    · rename_i ns r2 h2
      injection h with h
      injection h with h3 h4
      subst h4
      obtain ⟨a1, a2, a3⟩ := (rdVs_iff _ _ _ _).1 h2
      subst h3
      unfold instW
      rw [mkIn_op, own_mkIn _ _ a1, a3, Int.toNat_natCast]
      simp
def rdIs : Nat → List UInt8 → Option (List In × List UInt8)
  | 0, s => some ([], s)
  | k + 1, s => match rdI s with
    | none => none
    | some (i, r) => match rdIs k r with
      | none => none
      | some (l, r2) => some (i :: l, r2)
theorem rdIs_fit : ∀ (l : List In) (r : List UInt8), (∀ i ∈ l, Fit i) → rdIs l.length (l.flatMap instW ++ r) = some (l, r)
  | [], r, _ => rfl
  | i :: l, r, h => by
    show (match rdI ((i :: l).flatMap instW ++ r) with
      | none => none
      | some (i, r) => match rdIs l.length r with
        | none => none
        | some (l, r2) => some (i :: l, r2)) = _
    rw [List.flatMap_cons, List.append_assoc, rdI_fit (h i (by simp))]
    dsimp only
    rw [rdIs_fit l r (fun j hj => h j (by simp [hj]))]
theorem rdIs_some : ∀ (k : Nat) (s : List UInt8) (l : List In) (r : List UInt8), rdIs k s = some (l, r) → l.length = k ∧ s = l.flatMap instW ++ r
  | 0, s, l, r, h => by
    injection h with h
    injection h with h1 h2
    subst h1; subst h2
    simp
  | k + 1, s, l, r, h => by
    unfold rdIs at h
    split at h
    · cases h
    · rename_i i r1 h1
      split at h
      · cases h
      · rename_i l2 r2 h2
        injection h with h
        injection h with h3 h4
        subst h3; subst h4
        obtain ⟨b1, b2⟩ := rdIs_some k r1 l2 r2 h2
        refine ⟨by simp [b1], ?_⟩
        rw [rdI_some h1, b2]; simp
/-- What is read one after another, from the front. -/
theorem rdIs_snoc : ∀ (k : Nat) (s : List UInt8) (l : List In) (r : List UInt8), rdIs k s = some (l, r) → rdIs (k + 1) s = match rdI r with
    | none => none
    | some (i, r2) => some (l ++ [i], r2)
  | 0, s, l, r, h => by
    injection h with h
    injection h with h1 h2
    subst h1; subst h2
    show (match rdI s with
      | none => none
      | some (i, r) => match rdIs 0 r with
        | none => none
        | some (l, r2) => some (i :: l, r2)) = _
    cases rdI s with
    | none => rfl
    | some p => rfl
  | k + 1, s, l, r, h => by
    unfold rdIs at h
    split at h
    · cases h
    · rename_i i r1 h1
      split at h
      · cases h
      · rename_i l2 r2 h2
        injection h with h
        injection h with h3 h4
        subst h3; subst h4
        have ih := rdIs_snoc k r1 l2 r2 h2
        show (match rdI s with
          | none => none
          | some (i, r) => match rdIs (k + 1) r with
            | none => none
            | some (l, r2) => some (i :: l, r2)) = _
        rw [h1]
        dsimp only
        rw [ih]
        cases rdI r2 with
        | none => rfl
        | some p => rfl
theorem rdIs_more : ∀ (k j : Nat) (s : List UInt8), k ≤ j → rdIs k s = none → rdIs j s = none
  | 0, j, s, _, h => by cases h
  | k + 1, 0, s, hj, _ => by omega
  | k + 1, j + 1, s, hj, h => by
    unfold rdIs at h ⊢
    cases h1 : rdI s with
    | none => rfl
    | some p =>
      obtain ⟨i, r⟩ := p
      rw [h1] at h
      dsimp only at h ⊢
      cases h2 : rdIs k r with
      | none => rw [rdIs_more k j r (by omega) h2]
      | some q => rw [h2] at h; cases h
/-- What a text of bytes is decoded as. -/
def decL (s : List UInt8) : Option (List In × Int × Int) :=
  if s.take 3 = magicL ∧ xorL s = 0 then
    match rdVs 3 (s.drop 3) with
    | none => none
    | some (ns, r) => match rdIs (ns.getD 2 0).toNat r with
      | none => none
      | some (l, r2) => if r2.length = 1 ∧ Ok l (ns.getD 0 0) (ns.getD 1 0) then some (l, ns.getD 0 0, ns.getD 1 0) else none
  else none
theorem take_magic {s : List UInt8} (h : s.take 3 = magicL) : s = magicL ++ s.drop 3 := by
  rw [← h, List.take_append_drop]
theorem xor_zero {a b : UInt8} : a ^^^ b = 0 ↔ b = a := by
  constructor
  · intro h
    exact (UInt8.xor_eq_zero_iff.1 h).symm
  · rintro rfl
    exact UInt8.xor_self
theorem dec_iff (s : List UInt8) (l : List In) (st sl : Int) : decL s = some (l, st, sl) ↔ Ok l st sl ∧ encL l st sl = s := by
  constructor
  · intro h
    unfold decL at h
    split at h
    · rename_i h0
      obtain ⟨hm, hx⟩ := h0
      split at h
      · cases h
      · rename_i ns r h1
        split at h
        · cases h
        · rename_i l2 r2 h2
          split at h
          · rename_i h3
            obtain ⟨h4, h5⟩ := h3
            injection h with h
            injection h with e1 h
            injection h with e2 e3
            subst e1
            rw [e2, e3] at h5
            obtain ⟨a1, a2, a3⟩ := (rdVs_iff _ _ _ _).1 h1
            obtain ⟨b1, b2⟩ := rdIs_some _ _ _ _ h2
            have hc := (a2 (ns.getD 2 0) (by rw [list3 a1]; simp)).1
            have hns : ns = [st, sl, (l2.length : Int)] := by
              have e4 : ns.getD 2 0 = (l2.length : Int) := by omega
              rw [list3 a1, e2, e3, e4]
            have hs : s = bodyW l2 st sl ++ r2 := by
              rw [take_magic hm, a3, b2, hns]
              unfold bodyW
              simp
            refine ⟨h5, ?_⟩
            match r2, h4 with
            | [x], _ =>
              rw [hs, xorL_snoc] at hx
              have := xor_zero.1 hx
              unfold encL
              rw [hs, this]
          · cases h
    · cases h
  · rintro ⟨hok, rfl⟩
    have ht : (encL l st sl).take 3 = magicL := by unfold encL bodyW; rfl
    have hd : (encL l st sl).drop 3 = [st, sl, (l.length : Int)].flatMap vL ++ (l.flatMap instW ++ [xorL (bodyW l st sl)]) := by
      unfold encL
      conv => lhs; arg 2; arg 1; unfold bodyW
      simp [magicL]
    have hx : xorL (encL l st sl) = 0 := by
      unfold encL
      rw [xorL_snoc]
      exact UInt8.xor_self
    have hok' := hok
    obtain ⟨o1, o2, o3, o4, o5, o6, _⟩ := hok'
    have h1 : rdVs 3 ((encL l st sl).drop 3) = some ([st, sl, (l.length : Int)], l.flatMap instW ++ [xorL (bodyW l st sl)]) := (rdVs_iff _ _ _ _).2 ⟨rfl, by
      intro n hn
      simp only [List.mem_cons, List.not_mem_nil, or_false] at hn
      omega, hd⟩
    have h2 : rdIs l.length (l.flatMap instW ++ [xorL (bodyW l st sl)]) = some (l, [xorL (bodyW l st sl)]) := rdIs_fit l _ (ok_fit hok)
    unfold decL
    rw [if_pos ⟨ht, hx⟩, h1]
    dsimp only
    show (match rdIs ((l.length : Int)).toNat _ with
      | none => none
      | some (l, r2) => if r2.length = 1 ∧ Ok l st sl then some (l, st, sl) else none) = _
    rw [Int.toNat_natCast, h2]
    dsimp only
    rw [if_pos ⟨rfl, hok⟩]
theorem dec_enc {l : List In} {st sl : Int} (h : Ok l st sl) : decL (encL l st sl) = some (l, st, sl) := (dec_iff _ _ _ _).2 ⟨h, rfl⟩
/-- How long an encoding is. -/
theorem vs_len : ∀ ns : List Int, ns.length ≤ (ns.flatMap vL).length ∧ (ns.flatMap vL).length ≤ 2 * ns.length
  | [] => by simp
  | n :: ns => by
    have h1 := vs_len ns
    have h2 := vL_len n
    rw [List.flatMap_cons, List.length_append, List.length_cons]
    omega
theorem own_le (i : In) : (ownL i).length ≤ 3 := by
  rw [own_len]
  unfold ownN
  (repeat' split) <;> omega
theorem instW_len (i : In) : 1 ≤ (instW i).length ∧ (instW i).length ≤ 7 := by
  have h1 := vs_len (ownL i)
  have h2 := own_le i
  unfold instW
  rw [List.length_cons]
  omega
theorem insts_wlen : ∀ l : List In, l.length ≤ (l.flatMap instW).length ∧ (l.flatMap instW).length ≤ 7 * l.length
  | [] => by simp
  | i :: l => by
    have h1 := insts_wlen l
    have h2 := instW_len i
    rw [List.flatMap_cons, List.length_append, List.length_cons]
    omega
theorem body_len (l : List In) (st sl : Int) : l.length + 6 ≤ (bodyW l st sl).length ∧ (bodyW l st sl).length ≤ 7 * l.length + 9 := by
  have h1 := vs_len [st, sl, (l.length : Int)]
  have h2 := insts_wlen l
  unfold bodyW
  simp only [List.length_append]
  have : magicL.length = 3 := rfl
  simp only [List.length_cons, List.length_nil] at h1
  omega
theorem enc_len (l : List In) (st sl : Int) : l.length + 7 ≤ (encL l st sl).length ∧ (encL l st sl).length ≤ 7 * l.length + 10 := by
  have h1 := body_len l st sl
  unfold encL
  rw [List.length_append]
  simp only [List.length_cons, List.length_nil]
  omega
/-- With one byte turned the sum of all bytes is not 0. -/
theorem xorL_append (a b : List UInt8) : xorL (a ++ b) = xorL a ^^^ xorL b := by
  have key : ∀ (b : List UInt8) (x : UInt8), b.foldl (fun a b => a ^^^ b) x = x ^^^ b.foldl (fun a b => a ^^^ b) 0 := by
    intro b
    induction b with
    | nil => intro x; simp
    | cons c b ih =>
      intro x
      simp only [List.foldl_cons]
      rw [ih (x ^^^ c), ih (0 ^^^ c)]
      rw [UInt8.zero_xor, UInt8.xor_assoc]
  unfold xorL
  rw [List.foldl_append, key b]
theorem xorL_set (s : List UInt8) (k : Nat) (h : k < s.length) (v : UInt8) : xorL (s.set k (s[k] ^^^ v)) = xorL s ^^^ v := by
  have e1 : s = s.take k ++ ([s[k]] ++ s.drop (k + 1)) := by
    conv => lhs; rw [← List.take_append_drop k s, List.drop_eq_getElem_cons h]
    simp
  have e2 : s.set k (s[k] ^^^ v) = s.take k ++ ([s[k] ^^^ v] ++ s.drop (k + 1)) := by
    rw [List.set_eq_take_append_cons_drop, if_pos h]
    simp
  rw [e2]
  conv => rhs; rw [e1]
  simp only [xorL_append]
  have e3 : ∀ x : UInt8, xorL [x] = x := by intro x; unfold xorL; simp
  rw [e3, e3]
  rw [UInt8.xor_assoc, UInt8.xor_assoc, UInt8.xor_assoc, UInt8.xor_comm v]
theorem dec_turned {l : List In} {st sl : Int} {k : Nat} (h : k < (encL l st sl).length) {v : UInt8} (hv : v ≠ 0) : decL ((encL l st sl).set k ((encL l st sl)[k] ^^^ v)) = none := by
  have hx : xorL (encL l st sl) = 0 := by
    unfold encL
    rw [xorL_snoc]
    exact UInt8.xor_self
  have h1 := xorL_set (encL l st sl) k h v
  rw [hx, UInt8.zero_xor] at h1
  unfold decL
  rw [if_neg]
  rintro ⟨_, h2⟩
  exact hv (h1.symm.trans h2)
end Go.Proofs.YtfnimmbmcjgdpaaDoor.Pgm
