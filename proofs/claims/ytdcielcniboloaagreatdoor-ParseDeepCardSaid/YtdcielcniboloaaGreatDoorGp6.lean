/- The plain mathematics of trees: depth, all nodes, weight, nullable, the same; a node's cells. · The reference's tree (burinref06): letter, Name. · Mathematics of lex: the token at the front of a text, and all tokens of a text. · The plain mathematics of the landed fold: blocks, partners, the walk round a family; no program. · The plain mathematics of the landed Close: the ranges of what is in a pair, the families of a list. · Mathematics of parse: the tree of tokens. -/
import Derived.Test.YtdcielcniboloaaGreatDoorGp5
import Derived.IntWalk
import Derived.Test.YtdcielcniboloaaGreatDoorGp4
import Derived.Test.YtdcielcniboloaaGreatDoorGp3
namespace Go.Proofs.YtdcielcniboloaaGreatDoor
open Go.RowKit
set_option linter.unusedVariables false
namespace Td
def subs : Nd → List Nd | .mk _ _ _ _ _ _ _ s => s
def kind : Nd → Int | .mk k _ _ _ _ _ _ _ => k
def num : Nd → Int | .mk _ _ n _ _ _ _ _ => n
def name : Nd → ByteArray | .mk _ _ _ n _ _ _ _ => n
def set : Nd → List (Int × Int) | .mk _ s _ _ _ _ _ _ => s
def mn : Nd → Int | .mk _ _ _ _ m _ _ _ => m
def mx : Nd → Int | .mk _ _ _ _ _ m _ _ => m
def lazy : Nd → Bool | .mk _ _ _ _ _ _ l _ => l
/-- The depth, at most so much. -/
def dep : Nat → Nd → Nat
  | 0, _ => 0
  | k + 1, n => ((subs n).map (dep k)).foldl max 0 + 1
/-- All nodes that are not too deep, with their depths. -/
def all : Nat → Nat → Nd → List (Nat × Nd)
  | 0, _, _ => []
  | k + 1, d, n => (d, n) :: (subs n).flatMap (all k (d + 1))
end Td
/-- A node's cells, laid open. -/
structure NdCells (W : World) (cs : List Value) (n : Nd) (vs : Value) (a : Option Addr) (cap : Nat) (C : Nat → List Value) : Prop where
  eq : cs = [.int .i64 (Td.kind n), vs, .int .i64 (Td.num n), .string (Td.name n), .int .i64 (Td.mn n), .int .i64 (Td.mx n), .bool (Td.lazy n), .slice a (Td.subs n).length cap]
  bd : I64 (Td.kind n) ∧ I64 (Td.num n) ∧ I64 (Td.mn n) ∧ I64 (Td.mx n)
  set : RRow W vs (Td.set n)
  name : (Td.name n).size ≤ 140737488351232
  len : (Td.subs n).length ≤ 8796093022208
  sub : ∀ j, j < (Td.subs n).length → ∃ b off m u0 u1 u2 u3 u4 u5 u6 u7, a = some ⟨b, off, none⟩ ∧ b < W.heap.size ∧ (Td.subs n)[j]? = some m ∧ NdIs W m [u0, u1, u2, u3, u4, u5, u6, u7] ∧
    W.cell? ⟨b, off + j * 8, none⟩ = some u0 ∧ W.cell? ⟨b, off + j * 8 + 1, none⟩ = some u1 ∧ W.cell? ⟨b, off + j * 8 + 2, none⟩ = some u2 ∧ W.cell? ⟨b, off + j * 8 + 3, none⟩ = some u3 ∧
    W.cell? ⟨b, off + j * 8 + 4, none⟩ = some u4 ∧ W.cell? ⟨b, off + j * 8 + 5, none⟩ = some u5 ∧ W.cell? ⟨b, off + j * 8 + 6, none⟩ = some u6 ∧ W.cell? ⟨b, off + j * 8 + 7, none⟩ = some u7
theorem NdIs.cells {W : World} {n : Nd} {cs : List Value} (h : NdIs W n cs) : ∃ vs a cap C, NdCells W cs n vs a cap C := by
  cases h with
  | mk C hk hset hname hlen hrow hsub =>
    refine ⟨_, _, _, C, rfl, hk, hset, hname, hlen, fun j hj => ?_⟩
    obtain ⟨b, off, ha, hb, hl, hc⟩ := hrow j hj
    have hs := hsub j hj
    match hC : C j, hl with
    | [u0, u1, u2, u3, u4, u5, u6, u7], _ =>
      rw [hC] at hs hc
      exact ⟨b, off, _, u0, u1, u2, u3, u4, u5, u6, u7, ha, hb, List.getElem?_eq_getElem hj, hs, hc 0 (by omega), hc 1 (by omega), hc 2 (by omega), hc 3 (by omega), hc 4 (by omega), hc 5 (by omega), hc 6 (by omega), hc 7 (by omega)⟩
end Go.Proofs.YtdcielcniboloaaGreatDoor
namespace Go.Proofs.YtdcielcniboloaaGreatDoor
open Go.RowKit
set_option linter.unusedVariables false
namespace Td
/-- May a byte stand in a name? -/
def letC (c : Int) : Bool := decide (65 ≤ c ∧ c ≤ 90 ∨ 97 ≤ c ∧ c ≤ 122 ∨ 48 ≤ c ∧ c ≤ 57 ∨ c = 95)
def bytes (s : ByteArray) : List Int := s.data.toList.map (fun b => (b.toNat : Int))
theorem bytes_len (s : ByteArray) : (bytes s).length = s.size := by simp [bytes]
theorem bytes_at (s : ByteArray) (k : Nat) (h : k < s.size) : (bytes s)[k]? = some (s[k].toNat : Int) := by
  have h' : k < s.data.size := h
  simp only [bytes, List.getElem?_map, Array.getElem?_toList]
  rw [Array.getElem?_eq_getElem h']
  rfl
/-- Is it a name? -/
def nameB (s : ByteArray) : Bool := (bytes s).all letC && decide (1 ≤ s.size ∧ s.size ≤ 32 ∧ ((bytes s).getD 0 0 < 48 ∨ 57 < (bytes s).getD 0 0))
end Td
end Go.Proofs.YtdcielcniboloaaGreatDoor
namespace Go.Proofs.YtdcielcniboloaaGreatDoor.Lx
set_option linter.unusedVariables false
/-- A token, without its place. -/
structure Tk where
  kind : Int := 0
  num : Int := 0
  name : ByteArray := ⟨#[]⟩
  mn : Int := 0
  mx : Int := 0
  lazy : Bool := false
  cls : Br.Cls := none
inductive TR where
  | bad (n code : Int)
  | ok (t : Tk) (n : Nat)
def runeT (r : Int) : Tk := { kind := 1, num := r }
def charX (l : List Int) : TR := if (Utf.dec l).1 < 0 then .bad 0 3 else .ok (runeT (Utf.dec l).1) (Utf.dec l).2.toNat
/-- The escapes that are no class and no number. -/
def shortX (c : Int) : Option Tk :=
  if c = 65 then some { kind := 5, num := 1 } else if c = 122 then some { kind := 5, num := 2 } else if c = 98 then some { kind := 5, num := 5 } else
  if c = 66 then some { kind := 5, num := 6 } else if c = 67 then some { kind := 4 } else none
def numX (l : List Int) : TR := if (Br.num l).2.2 = 0 then .ok (runeT (Br.num l).1) (Br.num l).2.1.toNat else .bad 0 (Br.num l).2.2
def setX (s : ByteArray) : TR :=
  if (Br.set s).2.2 = 0 then .ok { kind := 2, cls := (Br.set s).1 } (Br.set s).2.1.toNat else
  if (Br.set s).2.2 = 5 then numX (Utf.nums s) else .bad 0 (Br.set s).2.2
def escX (s : ByteArray) : TR :=
  match shortX ((Utf.nums s)[1]?.getD 0) with
  | some t => .ok t 2
  | none => setX s
def brackX (s : ByteArray) : TR :=
  match Br.brack s with
  | .bad o c => .bad o c
  | .ok _ e => .ok { kind := 13, name := s.extract 0 (e + 1) } (e + 1)
def decB (c : Int) : Bool := decide (48 ≤ c) && decide (c ≤ 57)
def dval (l : List Int) : Int := l.foldl (fun a c => a * 10 + (c - 48)) 0
/-- A number of one to four digits. -/
def cntX (l : List Int) : Option Int := if 1 ≤ l.length ∧ l.length ≤ 4 ∧ l.all decB = true then some (dval l) else none
/-- The numbers between the braces, and the whole length. -/
def bodyX (b : List Int) : Option (Int × Int) :=
  match cntX (b.take (Br.upTo 44 b)) with
  | none => none
  | some lo =>
    if Br.upTo 44 b = b.length then some (lo, lo) else
    if Br.upTo 44 b + 1 = b.length then some (lo, -1) else
    match cntX (b.drop (Br.upTo 44 b + 1)) with
    | none => none
    | some hi => some (lo, hi)
def countsX (l : List Int) : Int × Int × Nat :=
  if Br.upTo 125 (l.drop 1) = (l.drop 1).length then (0, 0, 0) else
  match bodyX ((l.drop 1).take (Br.upTo 125 (l.drop 1))) with
  | none => (0, 0, 0)
  | some (lo, hi) => (lo, hi, Br.upTo 125 (l.drop 1) + 2)
def boundsX (l : List Int) : Int × Int × Nat :=
  if l[0]?.getD 0 = 63 then (0, 1, 1) else if l[0]?.getD 0 = 43 then (1, -1, 1) else if l[0]?.getD 0 = 42 then (0, -1, 1) else countsX l
def repOf (lo hi : Int) (n : Nat) (l : List Int) : TR :=
  if 1000 < lo ∨ 1000 < hi ∨ (hi ≠ -1 ∧ hi < lo) then .bad 0 81 else
  if l[n]?.getD 0 = 63 then .ok { kind := 8, mn := lo, mx := hi, lazy := true } (n + 1) else .ok { kind := 8, mn := lo, mx := hi } n
def repX (l : List Int) : TR := repOf (boundsX l).1 (boundsX l).2.1 (boundsX l).2.2 l
/-- One flag's letter. -/
def flagB (c : Int) : Int := if c = 105 then 1 else if c = 109 then 2 else if c = 115 then 4 else if c = 85 then 8 else 0
def flagsOfX : List Int → Int → Option Int
  | [], a => some a
  | c :: l, a => if flagB c = 0 then none else flagsOfX l (bits .or .i64 a (flagB c))
def flagsX (l : List Int) : Option (Int × Int) :=
  match flagsOfX (l.take (Br.upTo 45 l)) 0, flagsOfX (l.drop (Br.upTo 45 l + 1)) 0 with
  | some a, some c => if l = [] ∨ Br.upTo 45 l + 1 = l.length then none else some (bits .andNot .i64 a c, c)
  | _, _ => none
/-- Where the first colon or closing bracket stands (all, where there is none). -/
def upToC : List Int → Nat
  | [] => 0
  | c :: l => if c = 58 ∨ c = 41 then 0 else upToC l + 1
/-- What stands ahead of a name, if one is begun. -/
def nameAt (l : List Int) : Nat :=
  if l.take 4 = [40, 63, 80, 60] then 4 else if l.take 3 = [40, 63, 60] then 3 else 0
def nameX (s : ByteArray) : Option (ByteArray × Nat) :=
  let l := Utf.nums s
  let p := nameAt l
  if p = 0 then none else
  if Br.upTo 62 (l.drop p) = (l.drop p).length then none else
  if Td.nameB (s.extract p (p + Br.upTo 62 (l.drop p))) = true then some (s.extract p (p + Br.upTo 62 (l.drop p)), p + Br.upTo 62 (l.drop p) + 1) else none
def flagX (l : List Int) : TR :=
  if upToC l = l.length then .bad 0 90 else
  if upToC l = 2 ∧ l[2]?.getD 0 = 58 then .ok { kind := 9 } 3 else
  match flagsX ((l.drop 2).take (upToC l - 2)) with
  | none => .bad 0 90
  | some (a, c) => if l[upToC l]?.getD 0 = 58 then .ok { kind := 9, mn := a, mx := c } (upToC l + 1) else .ok { kind := 10, mn := a, mx := c } (upToC l + 1)
def openX (s : ByteArray) : TR :=
  if ¬ (Utf.nums s)[1]?.getD 0 = 63 then .ok { kind := 9, num := 1 } 1 else
  match nameX s with
  | some (nm, n) => .ok { kind := 9, num := 1, name := nm } n
  | none => flagX (Utf.nums s)
/-- The token at the front of a text, outside of quotations. -/
def tokX (s : ByteArray) : TR :=
  let c := (Utf.nums s)[0]?.getD 0
  if c = 46 then .ok { kind := 3 } 1 else if c = 94 then .ok { kind := 6 } 1 else if c = 36 then .ok { kind := 7 } 1 else
  if c = 41 then .ok { kind := 11 } 1 else if c = 124 then .ok { kind := 12 } 1 else
  if c = 92 then escX s else if c = 91 then brackX s else if c = 40 then openX s else
  if c = 123 then (if (countsX (Utf.nums s)).2.2 = 0 then charX (Utf.nums s) else repX (Utf.nums s)) else
  if c = 42 ∨ c = 43 ∨ c = 63 then repX (Utf.nums s) else charX (Utf.nums s)
inductive LR where
  | bad (at_ code : Int)
  | ok (l : List (Int × Tk))
/-- Does a quotation begin, or end, here? -/
def turnB (q : Bool) (l : List Int) : Bool := decide (l[0]?.getD 0 = 92) && decide (l[1]?.getD 0 = if q then 69 else 81)
/-- All tokens of a text from a place on. -/
def lexF (s : ByteArray) : Nat → Nat → Bool → List (Int × Tk) → LR
  | 0, _, _, _ => .bad 0 0
  | f + 1, at_, q, T =>
    if s.size ≤ at_ then .ok T else
    if turnB q ((Utf.nums s).drop at_) = true then lexF s f (at_ + 2) (!q) T else
    match (if q then charX ((Utf.nums s).drop at_) else tokX (s.extract at_ s.size)) with
    | .bad n c => .bad (at_ + n) c
    | .ok t n => lexF s f (at_ + n) q (T ++ [((at_ : Int), t)])
end Go.Proofs.YtdcielcniboloaaGreatDoor.Lx
namespace Go.Proofs.YtdcielcniboloaaGreatDoor.Fd
set_option linter.unusedVariables false
abbrev Blk := Int × Int × Int
def blocksL : List Blk := [(65, 90, 32), (192, 214, 32), (216, 222, 32), (913, 929, 32), (931, 939, 32), (1040, 1071, 32), (1024, 1039, 80), (255, 255, 121), (181, 181, 743), (931, 931, 31), (75, 75, 8415), (197, 197, 8294), (83, 83, 300), (937, 937, 7549)]
theorem blocks_len : blocksL.length = 14 := rfl
def partner (b : Blk) (x : Int) : Int :=
  if b.1 ≤ x ∧ x ≤ b.2.1 then x + b.2.2 else if b.1 + b.2.2 ≤ x ∧ x ≤ b.2.1 + b.2.2 then x - b.2.2 else x
def addB (x : Int) (o : List Int) (b : Blk) : List Int := if joinB o (partner b x) then o else o ++ [partner b x]
def scan (x : Int) (o : List Int) : List Int := blocksL.foldl (addB x) o
def walkL (r : Int) : Nat → List Int
  | 0 => [r]
  | v + 1 => scan ((walkL r v)[v]?.getD 0) (walkL r v)
theorem addB_len (x : Int) (o : List Int) (b : Blk) : o.length ≤ (addB x o b).length ∧ (addB x o b).length ≤ o.length + 1 := by
  unfold addB; split <;> simp
theorem scan_len (x : Int) : ∀ (bs : List Blk) (o : List Int), o.length ≤ (bs.foldl (addB x) o).length ∧ (bs.foldl (addB x) o).length ≤ o.length + bs.length
  | [], o => by simp
  | b :: bs, o => by
    have h1 := addB_len x o b
    have h2 := scan_len x bs (addB x o b)
    rw [List.foldl_cons, List.length_cons]; omega
theorem walk_len (r : Int) : ∀ v, 1 ≤ (walkL r v).length ∧ (walkL r v).length ≤ 1 + v * 14
  | 0 => ⟨Nat.le_refl _, Nat.le_refl _⟩
  | v + 1 => by
    have h1 := walk_len r v
    have h2 := scan_len ((walkL r v)[v]?.getD 0) blocksL (walkL r v)
    rw [blocks_len] at h2
    show 1 ≤ (scan _ _).length ∧ (scan _ _).length ≤ _
    unfold scan; omega
/-- What is in no pair has no partner. -/
theorem partner_none {r : Int} (h : r ∉ members) : ∀ b ∈ blocksL, partner b r = r := by
  have hf : ∀ b ∈ blocksL, ∀ x, b.1 ≤ x → x ≤ b.2.1 → x ∈ membersE ∧ x + b.2.2 ∈ membersE := by
    have hd : (blocksL.all fun b => (List.range (b.2.1 - b.1 + 1).toNat).all fun (i : Nat) => joinB membersE (b.1 + i) && joinB membersE (b.1 + i + b.2.2)) = true := by decide +kernel
    intro b hb x h1 h2
    have h3 := List.all_eq_true.1 (List.all_eq_true.1 hd b hb) (x - b.1).toNat (List.mem_range.2 (by omega))
    simp only [Bool.and_eq_true, joinB_iff] at h3
    rw [show b.1 + (((x - b.1).toNat : Nat) : Int) = x from by omega] at h3
    exact h3
  intro b hb
  unfold partner
  by_cases h1 : b.1 ≤ r ∧ r ≤ b.2.1
  · exact absurd (by rw [← membersE_eq]; exact (hf b hb r h1.1 h1.2).1) h
  · rw [if_neg h1]
    by_cases h2 : b.1 + b.2.2 ≤ r ∧ r ≤ b.2.1 + b.2.2
    · refine absurd ?_ h
      rw [← membersE_eq]
      have := (hf b hb (r - b.2.2) (by omega) (by omega)).2
      rwa [show r - b.2.2 + b.2.2 = r from by omega] at this
    · rw [if_neg h2]
theorem scan_none {r : Int} : ∀ (bs : List Blk), (∀ b ∈ bs, partner b r = r) → bs.foldl (addB r) [r] = [r]
  | [], _ => rfl
  | b :: bs, h => by
    have : addB r [r] b = [r] := by
      unfold addB; rw [h b (by simp), if_pos ((joinB_iff _ _).2 (by simp))]
    rw [List.foldl_cons, this]
    exact scan_none bs fun c hc => h c (by simp [hc])
/-- The same, so written that it reckons fast. -/
def scanF (x : Int) : List Blk → List Int → List Int
  | [], o => o
  | b :: bs, o => force (addB x o b) (scanF x bs)
theorem scanF_eq (x : Int) : ∀ (bs : List Blk) (o : List Int), scanF x bs o = bs.foldl (addB x) o
  | [], _ => rfl
  | b :: bs, o => by rw [scanF, force_eq, List.foldl_cons, scanF_eq x bs]
def walkF (r : Int) : Nat → List Int
  | 0 => [r]
  | v + 1 => force (walkF r v) fun o => scanF (o[v]?.getD 0) blocksL o
theorem walkF_eq (r : Int) : ∀ v, walkF r v = walkL r v
  | 0 => rfl
  | v + 1 => by rw [walkF, force_eq, scanF_eq, walkF_eq r v]; rfl
/-- Where the walk ends, and that it goes on till then. -/
def okW (r : Int) (N : Nat) : Bool := decide (1 ≤ N) && decide (N ≤ 3) && decide ((walkF r N).length = N) && ((List.range N).all fun v => decide (v < (walkF r v).length)) && (walkF r N).isPerm (famF r)
theorem walks_ok : (membersE.all fun r => okW r 2 || okW r 3) = true := by decide +kernel
theorem walk_cases (r : Int) : ∃ N, 1 ≤ N ∧ N ≤ 3 ∧ (walkL r N).length = N ∧ (∀ v, v < N → v < (walkL r v).length) ∧ (walkL r N).Perm (fam r) := by
  have hk : ∀ N, okW r N = true → 1 ≤ N ∧ N ≤ 3 ∧ (walkL r N).length = N ∧ (∀ v, v < N → v < (walkL r v).length) ∧ (walkL r N).Perm (fam r) := by
    intro N h
    simp only [okW, Bool.and_eq_true, decide_eq_true_eq, List.all_eq_true, List.mem_range, walkF_eq, List.isPerm_iff, famF_eq] at h
    exact ⟨h.1.1.1.1, h.1.1.1.2, h.1.1.2, h.1.2, h.2⟩
  by_cases h : r ∈ members
  · have h1 := List.all_eq_true.1 walks_ok r (by rw [membersE_eq]; exact h)
    rw [Bool.or_eq_true] at h1
    rcases h1 with h1 | h1
    · exact ⟨2, hk 2 h1⟩
    · exact ⟨3, hk 3 h1⟩
  · have e : walkL r 1 = [r] := by
      have h0 : walkL r 1 = scan r [r] := rfl
      rw [h0]; unfold scan; exact scan_none blocksL (partner_none h)
    refine ⟨1, Nat.le_refl _, by omega, by rw [e]; rfl, fun v hv => ?_, ?_⟩
    · obtain rfl : v = 0 := by omega
      exact Nat.zero_lt_one
    · rcases fam_cases r with ⟨_, h1⟩ | ⟨h1, _⟩
      · rw [e, h1]
      · exact absurd h1 h
/-- Sorted, what the walk found is the family. -/
theorem sorted_fam {r : Int} {l : List Int} (h : l.Perm (fam r)) : (l.mergeSort fun x y => decide (x ≤ y)) = fam r := by
  have hs : (l.mergeSort fun x y => decide (x ≤ y)).Pairwise (fun a b => a ≤ b) := by
    have := List.pairwise_mergeSort (le := fun (x y : Int) => decide (x ≤ y)) (fun a b c h1 h2 => by simp only [decide_eq_true_eq] at *; omega) (fun a b => by simp only [Bool.or_eq_true, decide_eq_true_eq]; omega) l
    exact this.imp (fun h => by simpa using h)
  have hp : (l.mergeSort fun x y => decide (x ≤ y)).Perm (fam r) := (List.mergeSort_perm _ _).trans h
  exact hp.eq_of_pairwise (le := fun a b => a ≤ b) (fun a b _ _ h1 h2 => by omega) hs ((fam_asc r).imp (fun h => by omega))
end Go.Proofs.YtdcielcniboloaaGreatDoor.Fd
namespace Go.Proofs.YtdcielcniboloaaGreatDoor.Fd
open Go.Proofs.YtdcielcniboloaaGreatDoor.Rg
set_option linter.unusedVariables false
def pairedOf (bs : List Blk) : List R := bs.flatMap fun b => [(b.1, b.2.1), (b.1 + b.2.2, b.2.1 + b.2.2)]
def pairedL : List R := pairedOf blocksL
theorem pairedOf_len (bs : List Blk) : (pairedOf bs).length = bs.length * 2 := by
  induction bs with
  | nil => rfl
  | cons b bs ih => unfold pairedOf at *; rw [List.flatMap_cons, List.length_append, ih]; simp; omega
theorem pairedOf_succ (i : Nat) (hi : i < 14) : pairedOf (blocksL.take (i + 1)) = pairedOf (blocksL.take i) ++ [((blocksL[i]?.getD (0, 0, 0)).1, (blocksL[i]?.getD (0, 0, 0)).2.1), ((blocksL[i]?.getD (0, 0, 0)).1 + (blocksL[i]?.getD (0, 0, 0)).2.2, (blocksL[i]?.getD (0, 0, 0)).2.1 + (blocksL[i]?.getD (0, 0, 0)).2.2)] := by
  unfold pairedOf
  rw [List.take_succ_eq_append_getElem (by rw [blocks_len]; exact hi), List.flatMap_append, List.getElem?_eq_getElem (by rw [blocks_len]; exact hi)]
  simp
theorem paired_bd : ∀ p ∈ pairedL, 0 ≤ p.1 ∧ p.1 ≤ 10000 ∧ 0 ≤ p.2 ∧ p.2 ≤ 10000 := by decide +kernel
theorem paired_all : (membersE.all fun x => hasB pairedL x) = true := by decide +kernel
theorem paired_has {x : Int} (h : x ∈ members) : hasB pairedL x = true := by
  rw [← membersE_eq] at h; exact List.all_eq_true.1 paired_all x h
def famsUp (lo : Int) : Nat → List R
  | 0 => []
  | k + 1 => famsUp lo k ++ (fam (lo + k)).map one
def famsR (x : R) : List R := famsUp x.1 (x.2 - x.1 + 1).toNat
def famsL (B : List R) : List R := B.flatMap famsR
theorem famsUp_len (lo : Int) : ∀ k, (famsUp lo k).length ≤ 3 * k
  | 0 => Nat.le_refl _
  | k + 1 => by
    have h1 := famsUp_len lo k
    have h2 := (fam_len (lo + k)).2
    rw [famsUp, List.length_append, List.length_map]; omega
theorem famsUp_mem (lo : Int) : ∀ k p, p ∈ famsUp lo k ↔ ∃ j : Nat, j < k ∧ ∃ q ∈ fam (lo + j), p = one q
  | 0, p => by simp [famsUp]
  | k + 1, p => by
    rw [famsUp, List.mem_append, famsUp_mem lo k, List.mem_map]
    constructor
    · rintro (⟨j, hj, h⟩ | ⟨q, hq, rfl⟩)
      · exact ⟨j, by omega, h⟩
      · exact ⟨k, by omega, q, hq, rfl⟩
    · rintro ⟨j, hj, q, hq, rfl⟩
      by_cases e : j = k
      · subst e; exact .inr ⟨q, hq, rfl⟩
      · exact .inl ⟨j, by omega, q, hq, rfl⟩
theorem famsL_mem (B : List R) (p : R) : p ∈ famsL B ↔ ∃ x ∈ B, ∃ r, x.1 ≤ r ∧ r ≤ x.2 ∧ ∃ q ∈ fam r, p = one q := by
  unfold famsL famsR
  rw [List.mem_flatMap]
  constructor
  · rintro ⟨x, hx, hp⟩
    rw [famsUp_mem] at hp
    obtain ⟨j, hj, q, hq, e⟩ := hp
    exact ⟨x, hx, x.1 + j, by omega, by omega, q, hq, e⟩
  · rintro ⟨x, hx, r, h1, h2, q, hq, e⟩
    refine ⟨x, hx, ?_⟩
    rw [famsUp_mem]
    refine ⟨(r - x.1).toNat, by omega, q, ?_, e⟩
    rwa [show x.1 + (((r - x.1).toNat : Nat) : Int) = r by omega]
theorem famsL_len : ∀ (B : List R) (lo : Int) (k : Nat), NormFrom lo B → lo ≤ 1114113 → ((famsL (B.take k)).length : Int) ≤ 3 * (1114113 - lo)
  | [], lo, k, _, h => by simp [famsL]; omega
  | p :: B, lo, 0, _, h => by simp [famsL]; omega
  | p :: B, lo, k + 1, ⟨h1, h2, h3, h4⟩, h => by
    have ih := famsL_len B (p.2 + 2) k h4 (by omega)
    have hu := famsUp_len p.1 (p.2 - p.1 + 1).toNat
    have e : famsL ((p :: B).take (k + 1)) = famsR p ++ famsL (B.take k) := by simp [famsL]
    rw [e, List.length_append]
    unfold famsR
    push_cast
    omega
theorem famsL_take {B : List R} (h : NormL B) (k : Nat) : (famsL (B.take k)).length ≤ 3342339 := by
  have := famsL_len B 0 k h (by omega)
  omega
theorem famsL_succ (B : List R) (j : Nat) (hj : j < B.length) : famsL (B.take (j + 1)) = famsL (B.take j) ++ famsR (B[j]?.getD (0, 0)) := by
  unfold famsL
  rw [List.take_succ_eq_append_getElem hj, List.flatMap_append, List.getElem?_eq_getElem hj]
  simp
theorem famsL_wide {B : List R} (h : NormL B) : ∀ p ∈ famsL B, -9223372036854775808 ≤ p.1 ∧ p.1 ≤ 9223372036854775807 ∧ -9223372036854775808 ≤ p.2 ∧ p.2 ≤ 9223372036854775807 := by
  intro p hp
  obtain ⟨x, hx, r, h1, h2, q, hq, rfl⟩ := (famsL_mem B p).1 hp
  have hn := norm_lo B 0 h x hx
  have hb := fam_bd hq
  show -9223372036854775808 ≤ q ∧ q ≤ 9223372036854775807 ∧ -9223372036854775808 ≤ q ∧ q ≤ 9223372036854775807
  omega
/-- What the landed Close hands back: the list, and what is in a pair with its families. -/
theorem close_ok {l B out : List R} (hB : Made 2 l pairedL B) (ho : Made 1 l (famsL B) out) (q : Int) : hasB out q = clB l q := by
  by_cases hq : 0 ≤ q ∧ q ≤ 1114111
  · rw [ho.has q hq.1 hq.2]
    rw [show opB 1 (hasB l q) (hasB (famsL B) q) = (hasB l q || hasB (famsL B) q) by simp [opB]]
    rw [Bool.eq_iff_iff, Bool.or_eq_true]
    unfold clB
    rw [Bool.and_eq_true, decide_eq_true_eq]
    constructor
    · rintro (h | h)
      · exact ⟨hq, List.any_eq_true.2 ⟨q, fam_self q, h⟩⟩
      · obtain ⟨_, p, hp, h1, h2⟩ := (hasB_iff _ _).1 h
        obtain ⟨x, hx, r, hr1, hr2, q', hq', rfl⟩ := (famsL_mem B p).1 hp
        have e : q = q' := by
          have h1' : q' ≤ q := h1
          have h2' : q ≤ q' := h2
          omega
        subst e
        have hxn := norm_lo B 0 hB.norm x hx
        have hbr : hasB B r = true := (hasB_iff _ _).2 ⟨by omega, x, hx, hr1, hr2⟩
        rw [hB.has r (by omega) (by omega)] at hbr
        have hlr : hasB l r = true := by
          have : (hasB l r && hasB pairedL r) = true := by simpa [opB] using hbr
          exact (Bool.and_eq_true _ _ ▸ this).1
        exact ⟨hq, List.any_eq_true.2 ⟨r, by rw [fam_same hq']; exact fam_self r, hlr⟩⟩
    · rintro ⟨_, hany⟩
      obtain ⟨y, hy, hly⟩ := List.any_eq_true.1 hany
      by_cases e : y = q
      · subst e; exact .inl hly
      · refine .inr ?_
        have hym : y ∈ members := by
          rcases fam_cases y with ⟨_, h1⟩ | ⟨h1, _⟩
          · exfalso
            have hsq := fam_self q
            rw [← fam_same hy, h1] at hsq
            exact e (List.mem_singleton.1 hsq).symm
          · exact h1
        have hyb : 0 ≤ y ∧ y ≤ 1114111 := ((hasB_iff l y).1 hly).1
        have hby : hasB B y = true := by
          rw [hB.has y hyb.1 hyb.2]
          rw [hly, paired_has hym]; rfl
        obtain ⟨_, x, hx, h1, h2⟩ := (hasB_iff _ _).1 hby
        refine (hasB_iff _ _).2 ⟨hq, one q, (famsL_mem B _).2 ⟨x, hx, y, h1, h2, q, by rw [fam_same hy]; exact fam_self q, rfl⟩, Int.le_refl _, Int.le_refl _⟩
  · have e1 : ∀ m, hasB m q = false := fun m => by unfold hasB; rw [decide_eq_false hq, Bool.false_and]
    unfold clB
    rw [e1, decide_eq_false hq, Bool.false_and]
end Go.Proofs.YtdcielcniboloaaGreatDoor.Fd
namespace Go.Proofs.YtdcielcniboloaaGreatDoor.Ps
open Lx (Tk)
open Go.Proofs.YtdcielcniboloaaGreatDoor.Rg
set_option linter.unusedVariables false
abbrev TL := List (Int × Tk)
/-- What is parsed: a tree, the tokens behind it, the flags, how many groups were opened; or an error and its place. -/
inductive PR where
  | bad (at_ code : Int)
  | ok (x : Nd) (rest : TL) (fl gr : Int)
def kd : TL → Int
  | [] => 0
  | p :: _ => p.2.kind
def pl : TL → Int
  | [] => 0
  | p :: _ => p.1
def hd : TL → Tk
  | [] => {}
  | p :: _ => p.2
/-- The flags behind a token that sets and clears some. -/
def turnP (f : Int) (t : Tk) : Int := bits .andNot .i64 (bits .or .i64 f t.mn) t.mx
def hasP (f b : Int) : Bool := bits .and .i64 f b != 0
def leafN (k num : Int) : Nd := .mk k [] num ⟨#[]⟩ 0 0 false []
def manyN (k : Int) (l : List Nd) : Nd := .mk k [] 0 ⟨#[]⟩ 0 0 false l
/-- A list, or what stands for none, one. -/
def joinN (k : Int) : List Nd → Nd
  | [] => leafN 1 0
  | [x] => x
  | l => manyN k l
def setN : List R → Nd
  | [] => leafN 2 0
  | l => .mk 3 l 0 ⟨#[]⟩ 0 0 false []
open Classical in
/-- The list of a class. -/
noncomputable def clsL (c : Br.Cls) : List R := if h : ∃ out, Br.SetIs c out then Classical.choose h else []
theorem clsL_is {c : Br.Cls} {out : List R} (h : Br.SetIs c out) : clsL c = out := by
  unfold clsL
  have hx : ∃ out, Br.SetIs c out := ⟨out, h⟩
  rw [dif_pos hx]
  exact Br.setIs_unique (Classical.choose_spec hx) h
def ClosedAs (l out : List R) : Prop := NormL out ∧ ∀ q, hasB out q = Fd.clB l q
open Classical in
/-- The list of all members of a list's families. -/
noncomputable def closeL (l : List R) : List R := if h : ∃ out, ClosedAs l out then Classical.choose h else []
theorem closeL_is {l out : List R} (h : ClosedAs l out) : closeL l = out := by
  unfold closeL
  have hx : ∃ out, ClosedAs l out := ⟨out, h⟩
  rw [dif_pos hx]
  have h2 := Classical.choose_spec hx
  exact norm_ext h2.1 h.1 (fun q _ _ => by rw [h2.2 q, h.2 q])
def BrkAs (s : ByteArray) (fo : Bool) (out : List R) : Prop := ∃ Xs at_, Br.brack s = .ok Xs at_ ∧ Br.BrIs Xs fo (decide (Br.first (Utf.nums s) = 2)) out
open Classical in
/-- The list of a bracket expression. -/
noncomputable def brkL (s : ByteArray) (fo : Bool) : List R := if h : ∃ out, BrkAs s fo out then Classical.choose h else []
theorem brkL_is {s : ByteArray} {fo : Bool} {out : List R} (h : BrkAs s fo out) : brkL s fo = out := by
  unfold brkL
  have hx : ∃ out, BrkAs s fo out := ⟨out, h⟩
  rw [dif_pos hx]
  obtain ⟨X1, a1, e1, h1⟩ := Classical.choose_spec hx
  obtain ⟨X2, a2, e2, h2⟩ := h
  rw [e1] at e2
  injection e2 with e2 _
  subst e2
  exact Br.brIs_unique h1 h2
noncomputable def foldL (f : Int) (l : List R) : List R := if hasP f 1 then closeL l else l
/-- An atom that opens nothing. -/
noncomputable def leafOf (f : Int) (t : Tk) : Nd :=
  if t.kind = 1 then setN (foldL f [(t.num, t.num)]) else
  if t.kind = 2 then setN (foldL f (clsL t.cls)) else
  if t.kind = 3 then setN (if hasP f 4 then [(0, 1114111)] else [(0, 9), (11, 1114111)]) else
  if t.kind = 4 then leafN 4 0 else
  if t.kind = 5 then leafN 5 t.num else
  if t.kind = 6 then leafN 5 (if hasP f 2 then 3 else 1) else
  if t.kind = 7 then leafN 5 (if hasP f 2 then 4 else 2) else
  setN (brkL t.name (hasP f 1))
/-- An atom with the repetition behind it. -/
def repN (f : Int) (x : Nd) (L : TL) : Nd := if kd L = 8 then .mk 9 [] 0 ⟨#[]⟩ (hd L).mn (hd L).mx ((hd L).lazy != hasP f 8) [x] else x
def repT (L : TL) : TL := if kd L = 8 then L.tail else L
mutual
/-- Alternatives: S is what is parsed of them. -/
noncomputable def altP : Nat → TL → Int → Int → List Nd → PR
  | 0, _, _, _, _ => .bad 0 0
  | n + 1, L, f, g, S =>
    match seqP n L f g [] with
    | .bad a e => .bad a e
    | .ok x L' f' g' => if kd L' = 12 then altP n L'.tail f' g' (S ++ [x]) else .ok (joinN 8 (S ++ [x])) L' f' g'
/-- A sequence: A is what is parsed of it. -/
noncomputable def seqP : Nat → TL → Int → Int → List Nd → PR
  | 0, _, _, _, _ => .bad 0 0
  | n + 1, L, f, g, A =>
    if kd L = 12 ∨ kd L = 11 ∨ kd L = 0 then .ok (joinN 7 A) L f g else
    if kd L = 8 then .bad (pl L) 91 else
    if kd L = 10 then seqP n L.tail (turnP f (hd L)) g A else
    match atomP n L f g with
    | .bad a e => .bad a e
    | .ok x L' f' g' => seqP n (repT L') f' g' (A ++ [repN f' x L'])
noncomputable def atomP : Nat → TL → Int → Int → PR
  | 0, _, _, _ => .bad 0 0
  | n + 1, L, f, g =>
    if kd L = 9 then
      match altP n L.tail (turnP f (hd L)) (g + (hd L).num) [] with
      | .bad a e => .bad a e
      | .ok x L' f' g' => if kd L' = 11 then .ok (if (hd L).num = 0 then x else .mk 6 [] (g + (hd L).num) (hd L).name 0 0 false [x]) L'.tail f g' else .bad (pl L') 82
    else .ok (leafOf f (hd L)) L.tail f g
end
theorem altP_eq (n : Nat) (L : TL) (f g : Int) (S : List Nd) : altP (n + 1) L f g S = match seqP n L f g [] with
    | .bad a e => .bad a e
    | .ok x L' f' g' => if kd L' = 12 then altP n L'.tail f' g' (S ++ [x]) else .ok (joinN 8 (S ++ [x])) L' f' g' := by rw [altP]
theorem seqP_eq (n : Nat) (L : TL) (f g : Int) (A : List Nd) : seqP (n + 1) L f g A =
    if kd L = 12 ∨ kd L = 11 ∨ kd L = 0 then .ok (joinN 7 A) L f g else
    if kd L = 8 then .bad (pl L) 91 else
    if kd L = 10 then seqP n L.tail (turnP f (hd L)) g A else
    match atomP n L f g with
    | .bad a e => .bad a e
    | .ok x L' f' g' => seqP n (repT L') f' g' (A ++ [repN f' x L']) := by rw [seqP]
theorem atomP_eq (n : Nat) (L : TL) (f g : Int) : atomP (n + 1) L f g =
    if kd L = 9 then
      match altP n L.tail (turnP f (hd L)) (g + (hd L).num) [] with
      | .bad a e => .bad a e
      | .ok x L' f' g' => if kd L' = 11 then .ok (if (hd L).num = 0 then x else .mk 6 [] (g + (hd L).num) (hd L).name 0 0 false [x]) L'.tail f g' else .bad (pl L') 82
    else .ok (leafOf f (hd L)) L.tail f g := by rw [atomP]
/-- What is left of tokens is an end of them. -/
def Sf (L' L : TL) : Prop := ∃ k, L' = L.drop k
theorem Sf.refl (L : TL) : Sf L L := ⟨0, rfl⟩
theorem Sf.tail {L' L : TL} (h : Sf L' L.tail) : Sf L' L := by
  obtain ⟨k, rfl⟩ := h
  exact ⟨k + 1, by rw [← List.drop_one, List.drop_drop, Nat.add_comm]⟩
theorem Sf.trans {A B C : TL} (h : Sf A B) (k : Sf B C) : Sf A C := by
  obtain ⟨i, rfl⟩ := h
  obtain ⟨j, rfl⟩ := k
  exact ⟨j + i, by rw [List.drop_drop]⟩
theorem Sf.rep {A B : TL} (h : Sf A B) : Sf (repT A) B := by
  unfold repT
  split
  · exact Sf.trans ⟨1, List.drop_one.symm⟩ h
  · exact h
/-- The tokens of a pattern: none is of kind 0, but the one behind them. -/
def Ends (L : TL) : Prop := ∃ T z, L = T ++ [z] ∧ z.2.kind = 0 ∧ ∀ p ∈ T, 1 ≤ p.2.kind ∧ p.2.kind ≤ 13
theorem Ends.pos {L : TL} (h : Ends L) : 1 ≤ L.length := by
  obtain ⟨T, z, rfl, _⟩ := h
  simp
theorem Ends.tail {L : TL} (h : Ends L) (h0 : kd L ≠ 0) : Ends L.tail := by
  obtain ⟨T, z, rfl, hz, hT⟩ := h
  cases T with
  | nil => exact absurd hz h0
  | cons p T => exact ⟨T, z, rfl, hz, fun q hq => hT q (by simp [hq])⟩
theorem Ends.kd {L : TL} (h : Ends L) : 0 ≤ kd L ∧ kd L ≤ 13 := by
  obtain ⟨T, z, rfl, hz, hT⟩ := h
  cases T with
  | nil => show 0 ≤ z.2.kind ∧ z.2.kind ≤ 13; omega
  | cons p T =>
    have := hT p (by simp)
    show 0 ≤ p.2.kind ∧ p.2.kind ≤ 13
    omega
theorem Ends.rep {L : TL} (h : Ends L) : Ends (repT L) := by
  unfold repT
  split
  · rename_i h8
    exact h.tail (by omega)
  · exact h
end Go.Proofs.YtdcielcniboloaaGreatDoor.Ps
