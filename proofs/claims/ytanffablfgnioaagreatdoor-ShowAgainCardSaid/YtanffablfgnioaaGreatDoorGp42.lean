/- Mathematics of show: sets and repetitions that are written, read. · Mathematics of show: the pieces of a tree. -/
import Derived.Test.YtanffablfgnioaaGreatDoorGp41
namespace Go.Proofs.YtanffablfgnioaaGreatDoor.Sh
open Lx (Tk TR LR tokX turnB)
open Ps (TL)
open Br (item items rest first brack ItsIs ItIs It esc set num one span goesOn)
set_option linter.unusedVariables false
theorem txtB_of {s : ByteArray} {l : List Int} (h : Utf.nums s = l) : s = txtB l := by
  apply Br.nums_inj'
  rw [txtB_nums (by rw [← h]; exact Utf.nums_bytes s), h]
theorem item_rg {s : ByteArray} {at_ : Nat} {p : Int × Int} {t : List Int} (h0 : 0 ≤ p.1) (h1 : p.1 ≤ p.2) (h2 : p.2 ≤ 1114111) (ht : t[0]?.getD 0 ≠ 45) (h : (Utf.nums s).drop at_ = rgL p ++ t) : item s at_ = .ok (.rng p.1 p.2) (at_ + (rgL p).length) := by
  by_cases c : p.1 < p.2
  · have e : rgL p = Br.wr p := by unfold rgL Br.wr; rw [if_pos c]
    rw [e] at h ⊢
    exact Br.item_wr h0 h1 h2 h
  · obtain ⟨lo, hi⟩ := p
    dsimp only at h0 h1 h2 c
    obtain ⟨a, rfl⟩ : ∃ a : Nat, lo = a := ⟨lo.toNat, by omega⟩
    obtain rfl : hi = (a : Int) := by omega
    have hw : rgL ((a : Int), (a : Int)) = esc a := by unfold rgL; dsimp only; rw [if_neg c, List.append_nil]; rfl
    rw [hw] at h ⊢
    have e2 : (Utf.nums s).drop (at_ + (esc a).length) = t := Br.drop_len _ _ h
    have s1 : set (s.extract at_ s.size) = (none, 0, 5) := Br.set_esc (t := 123 :: (Br.hexL a ++ [125]) ++ t) (by rw [Br.nums_tail, h]; unfold esc; simp)
    have o1 := Br.one_esc (n := a) (by omega) t
    have hg : goesOn t = false := by
      unfold Br.goesOn
      have : ¬ t[0]? = some 45 := fun e => ht (by rw [e]; rfl)
      rw [decide_eq_false this]; rfl
    unfold Br.item
    dsimp only
    rw [h, if_neg (by unfold esc; simp), s1, if_neg (by decide), if_neg (by decide)]
    unfold Br.span
    dsimp only
    rw [h, o1, if_neg (by simp)]
    dsimp only
    rw [Int.toNat_natCast, e2, hg, if_pos rfl]
theorem rg_front (L : List (Int × Int)) (t : List Int) : (L.flatMap rgL ++ 93 :: t)[0]?.getD 0 ≠ 45 := by
  cases L with
  | nil => show ¬ (93 : Int) = 45; decide
  | cons p L => show ¬ (92 : Int) = 45; decide
theorem rgL_len (p : Int × Int) : 1 ≤ (rgL p).length := by unfold rgL esc; simp
theorem items_rg (s : ByteArray) (fs : Nat) (t : List Int) : ∀ (L : List (Int × Int)) (at_ : Nat) (Xs : List It), (∀ p ∈ L, 0 ≤ p.1 ∧ p.1 ≤ p.2 ∧ p.2 ≤ 1114111) → (L ≠ [] ∨ fs < at_) → fs ≤ at_ → (Utf.nums s).drop at_ = L.flatMap rgL ++ 93 :: t → rest s fs at_ Xs = .ok (Xs ++ L.map fun p => .rng p.1 p.2) (at_ + (L.flatMap rgL).length)
  | [], at_, Xs, hL, hf, hfs, h => by
    have hl : at_ < s.size := by
      have := congrArg List.length h
      rw [List.length_drop, Br.nums_len] at this
      simp at this; omega
    have h93 : (Utf.nums s)[at_]?.getD 0 = 93 := by
      have : ((Utf.nums s).drop at_)[0]? = some 93 := by rw [h]; rfl
      rw [List.getElem?_drop, Nat.add_zero] at this
      rw [this]; rfl
    rw [Br.rest_close hl h93 (by rcases hf with hf | hf; exact absurd rfl hf; exact hf)]
    simp
  | p :: L, at_, Xs, hL, hf, hfs, h => by
    have e : (Utf.nums s).drop at_ = rgL p ++ (L.flatMap rgL ++ 93 :: t) := by rw [h]; simp
    have hl : at_ < s.size := by
      have := congrArg List.length h
      rw [List.length_drop, Br.nums_len] at this
      simp at this; omega
    have h92 : (Utf.nums s)[at_]?.getD 0 = 92 := by
      have : ((Utf.nums s).drop at_)[0]? = some 92 := by rw [e]; rfl
      rw [List.getElem?_drop, Nat.add_zero] at this
      rw [this]; rfl
    obtain ⟨h0, h1, h2⟩ := hL p (by simp)
    have hp : 0 < (rgL p).length := rgL_len p
    rw [Br.rest_step hl (by omega) (item_rg h0 h1 h2 (rg_front L t) e), items_rg s fs t L _ _ (fun q hq => hL q (by simp [hq])) (.inr (by omega)) (by omega) (Br.drop_len _ _ e)]
    simp [Nat.add_assoc]
theorem brack_rg {s : ByteArray} {L : List (Int × Int)} {t : List Int} (hn : L ≠ []) (hL : ∀ p ∈ L, 0 ≤ p.1 ∧ p.1 ≤ p.2 ∧ p.2 ≤ 1114111) (h : Utf.nums s = 91 :: (L.flatMap rgL ++ 93 :: t)) : brack s = .ok (L.map fun p => .rng p.1 p.2) (1 + (L.flatMap rgL).length) ∧ first (Utf.nums s) = 1 := by
  have hf : first (Utf.nums s) = 1 := by
    cases L with
    | nil => exact absurd rfl hn
    | cons p L => unfold Br.first; rw [h]; rfl
  refine ⟨?_, hf⟩
  rw [Br.brack_yes (by rw [h]; rfl), hf, items_rg s 1 t L 1 [] hL (.inl hn) (Nat.le_refl _) (by rw [h]; rfl)]
  simp
theorem tok_brack {s : ByteArray} {B l : List Int} {Xs : List It} {e : Nat} (h : Utf.nums s = B ++ l) (h91 : B[0]?.getD 0 = 91) (he : B.length = e + 1) (hb : brack s = .ok Xs e) : tokX s = .ok { kind := 13, name := txtB B } B.length := by
  have h0 : (Utf.nums s)[0]?.getD 0 = 91 := by rw [h, List.getElem?_append_left (by omega)]; exact h91
  have e1 : tokX s = Lx.brackX s := by unfold Lx.tokX; rw [h0]; rfl
  rw [e1]
  unfold Lx.brackX
  rw [hb, he]
  dsimp only
  have e2 : s.extract 0 (e + 1) = txtB B := txtB_of (by rw [Utf.nums_extract, h]; show List.take _ (List.drop 0 _) = _; rw [List.drop_zero, Nat.sub_zero, ← he, List.take_left']; rfl)
  rw [e2]
theorem tok_set {s : ByteArray} {L : List (Int × Int)} {t : List Int} (hn : L ≠ []) (hL : ∀ p ∈ L, 0 ≤ p.1 ∧ p.1 ≤ p.2 ∧ p.2 ≤ 1114111) (h : Utf.nums s = (91 :: (L.flatMap rgL ++ [93])) ++ t) :
    tokX s = .ok { kind := 13, name := txtB (91 :: (L.flatMap rgL ++ [93])) } (91 :: (L.flatMap rgL ++ [93])).length := by
  have hb := (brack_rg (t := t) hn hL (by rw [h]; simp)).1
  refine tok_brack h rfl ?_ hb
  simp; omega
theorem tok_none {s : ByteArray} {t : List Int} (h : Utf.nums s = noneL ++ t) : tokX s = .ok { kind := 13, name := txtB noneL } noneL.length := by
  have hb := (Br.brack_wrn (s := s) (L := [(0, 1114111)]) (t := t) (by simp) (fun p hp => by rw [List.mem_singleton] at hp; subst hp; exact ⟨by decide, by decide, by decide⟩) (by rw [h]; unfold noneL Br.wr; simp)).1
  refine tok_brack h rfl ?_ hb
  unfold noneL Br.wr; simp; omega
/-- The set of a written one. -/
theorem brk_rg {L : List (Int × Int)} (hn : L ≠ []) (hN : Rg.NormL L) (hL : ∀ p ∈ L, 0 ≤ p.1 ∧ p.1 ≤ p.2 ∧ p.2 ≤ 1114111) : Ps.brkL (txtB (91 :: (L.flatMap rgL ++ [93]))) false = L := by
  have hb : Utf.Bytes (91 :: (L.flatMap rgL ++ [93])) := bytes_cons (by decide) (bytes_app (bytes_flat L (fun x _ => by
    unfold rgL
    refine bytes_app (bytes_esc _) ?_
    split
    · exact bytes_cons (by decide) (bytes_esc _)
    · exact bytes_nil)) (bytes_lit (by decide)))
  obtain ⟨h1, h2⟩ := brack_rg (s := txtB (91 :: (L.flatMap rgL ++ [93]))) (t := []) hn hL (by rw [txtB_nums hb])
  refine Ps.brkL_is ⟨_, _, h1, ?_⟩
  rw [h2]
  have hi := Br.itsIs_rng L [] [] .nil
  rw [List.nil_append, List.nil_append] at hi
  exact Br.brIs_plain hi (Rg.norm_listOf hN)
theorem brk_none : Ps.brkL (txtB noneL) false = [] := by
  have hb : Utf.Bytes noneL := by
    unfold noneL
    exact bytes_cons (by decide) (bytes_cons (by decide) (bytes_app (bytes_esc _) (bytes_cons (by decide) (bytes_app (bytes_esc _) (bytes_lit (by decide))))))
  obtain ⟨h1, h2⟩ := Br.brack_wrn (s := txtB noneL) (L := [(0, 1114111)]) (t := []) (by simp) (fun p hp => by rw [List.mem_singleton] at hp; subst hp; exact ⟨by decide, by decide, by decide⟩) (by rw [txtB_nums hb]; unfold noneL Br.wr; simp)
  refine Ps.brkL_is ⟨_, _, h1, ?_⟩
  rw [h2]
  have hi := Br.itsIs_rng [(0, 1114111)] [] [] .nil
  rw [List.nil_append, List.nil_append] at hi
  have hN : Rg.NormL [((0 : Int), (1114111 : Int))] := (Rg.check_norm _).1 (by decide)
  refine ⟨_, _, hi, Rg.norm_listOf hN, (Rg.check_norm _).1 (by decide), fun q q0 q1 => ?_⟩
  have e : Rg.hasB [(0, 1114111)] q = true := (Rg.hasB_iff _ _).2 ⟨⟨q0, q1⟩, (0, 1114111), by simp, q0, q1⟩
  rw [if_neg (by decide), e]
  simp [Rg.hasB]
/-- Braces: what stands between them. -/
theorem counts_body {X E : List Int} (hX : ∀ x ∈ X, x ≠ 125) : Lx.countsX (123 :: (X ++ 125 :: E)) = match Lx.bodyX X with
    | none => (0, 0, 0)
    | some (lo, hi) => (lo, hi, X.length + 2) := by
  have hj : Br.upTo 125 (X ++ 125 :: E) = X.length := Lx.upTo_app 125 _ _ hX
  unfold Lx.countsX
  rw [List.drop_one, List.tail_cons, hj, if_neg (by simp), List.take_left' rfl]
  cases Lx.bodyX X with
  | none => rfl
  | some p => rfl
theorem dec_no {n : Nat} {c : Int} (hc : c < 48 ∨ 57 < c) : ∀ x ∈ Lx.decL n, x ≠ c := Lx.dec_ne (Lx.decL_dec n) hc
theorem body_one {n : Nat} (h : n ≤ 1000) : Lx.bodyX (Lx.decL n) = some ((n : Int), (n : Int)) := by
  have hk : Br.upTo 44 (Lx.decL n) = (Lx.decL n).length := Br.upTo_none 44 _ (fun j hj e => dec_no (n := n) (c := 44) (by omega) _ (List.mem_of_getElem? e) rfl)
  unfold Lx.bodyX
  rw [hk, List.take_length, Lx.cnt_dec n (by omega), if_pos (by omega)]
  dsimp only
  rw [if_pos rfl]
theorem body_more {n : Nat} (h : n ≤ 1000) : Lx.bodyX (Lx.decL n ++ [44]) = some ((n : Int), -1) := by
  have hk : Br.upTo 44 (Lx.decL n ++ [44]) = (Lx.decL n).length := Lx.upTo_app 44 _ _ (dec_no (by omega))
  unfold Lx.bodyX
  rw [hk, List.take_left' rfl, Lx.cnt_dec n (by omega), if_pos (by omega)]
  dsimp only
  rw [if_neg (by simp), if_pos (by simp)]
theorem body_two {n m : Nat} (h : n ≤ 1000) (hm : m ≤ 1000) : Lx.bodyX (Lx.decL n ++ 44 :: Lx.decL m) = some ((n : Int), (m : Int)) := by
  have hk : Br.upTo 44 (Lx.decL n ++ 44 :: Lx.decL m) = (Lx.decL n).length := Lx.upTo_app 44 _ _ (dec_no (by omega))
  have hl := (Lx.decF_len 6 m (by omega) (by omega)).1
  have hl2 : 1 ≤ (Lx.decL m).length := hl
  have hd : (Lx.decL n ++ 44 :: Lx.decL m).drop ((Lx.decL n).length + 1) = Lx.decL m := by
    rw [show Lx.decL n ++ 44 :: Lx.decL m = (Lx.decL n ++ [44]) ++ Lx.decL m by simp]
    exact List.drop_left' (by simp)
  unfold Lx.bodyX
  rw [hk, List.take_left' rfl, Lx.cnt_dec n (by omega), if_pos (by omega), hd, Lx.cnt_dec m (by omega), if_pos (by omega)]
  dsimp only
  have hL : (Lx.decL n ++ 44 :: Lx.decL m).length = (Lx.decL n).length + 1 + (Lx.decL m).length := by rw [List.length_append, List.length_cons]; omega
  rw [hL, if_neg (by omega), if_neg (by omega)]
/-- What a repetition's sign, read, is. -/
theorem bounds_count {lo hi : Int} (h0 : 0 ≤ lo) (h1 : lo ≤ 1000) (h2 : hi = -1 ∨ lo ≤ hi ∧ hi ≤ 1000) (t : List Int) : Lx.boundsX (countL lo hi ++ t) = (lo, hi, (countL lo hi).length) := by
  obtain ⟨a, rfl⟩ : ∃ a : Nat, lo = a := ⟨lo.toNat, by omega⟩
  have br : ∀ X : List Int, Lx.boundsX (123 :: X) = Lx.countsX (123 :: X) := fun X => by unfold Lx.boundsX; rfl
  unfold countL
  split
  · rename_i c
    obtain ⟨c1, rfl⟩ := c
    rw [c1]; rfl
  split
  · rename_i c
    obtain ⟨c1, rfl⟩ := c
    rw [c1]; rfl
  split
  · rename_i c
    obtain ⟨c1, rfl⟩ := c
    rw [c1]; rfl
  rw [Int.toNat_natCast]
  split
  · rename_i c
    have e : (123 :: (Lx.decL a ++ [125])) ++ t = 123 :: (Lx.decL a ++ 125 :: t) := by simp
    rw [e, br, counts_body (dec_no (by omega)), body_one (by omega), c]
    simp
  split
  · rename_i c
    have e : (123 :: (Lx.decL a ++ [44, 125])) ++ t = 123 :: ((Lx.decL a ++ [44]) ++ 125 :: t) := by simp
    rw [e, br, counts_body (fun x hx => by
      rcases List.mem_append.1 hx with hx | hx
      · exact dec_no (by omega) x hx
      · rw [List.mem_singleton] at hx; omega), body_more (by omega), c]
    simp
  · obtain ⟨b, rfl⟩ : ∃ b : Nat, hi = b := ⟨hi.toNat, by omega⟩
    have e : (123 :: (Lx.decL a ++ 44 :: (Lx.decL b ++ [125]))) ++ t = 123 :: ((Lx.decL a ++ 44 :: Lx.decL b) ++ 125 :: t) := by simp
    rw [Int.toNat_natCast, e, br, counts_body (fun x hx => by
      rcases List.mem_append.1 hx with hx | hx
      · exact dec_no (by omega) x hx
      · rcases List.mem_cons.1 hx with hx | hx
        · omega
        · exact dec_no (by omega) x hx), body_two (by omega) (by omega)]
    simp; omega
theorem count_front (lo hi : Int) : ∃ c l, countL lo hi = c :: l ∧ (c = 42 ∨ c = 43 ∨ c = 63 ∨ c = 123) := by
  unfold countL
  repeat' split
  all_goals exact ⟨_, _, rfl, by omega⟩
theorem tok_times {s : ByteArray} {t : List Int} {lo hi : Int} {lz : Bool} (h0 : 0 ≤ lo) (h1 : lo ≤ 1000) (h2 : hi = -1 ∨ lo ≤ hi ∧ hi ≤ 1000) (ht : t[0]?.getD 0 ≠ 63) (h : Utf.nums s = timesL lo hi lz ++ t) :
    tokX s = .ok { kind := 8, mn := lo, mx := hi, lazy := lz } (timesL lo hi lz).length := by
  unfold timesL at h ⊢
  rw [List.append_assoc] at h
  have hb := bounds_count h0 h1 h2 ((if lz then [63] else []) ++ t)
  have hn : (Utf.nums s)[(countL lo hi).length]?.getD 0 = (((if lz then [63] else []) ++ t : List Int))[0]?.getD 0 := by
    rw [h, List.getElem?_append_right (Nat.le_refl _), Nat.sub_self]
  have hr : Lx.repX (Utf.nums s) = .ok { kind := 8, mn := lo, mx := hi, lazy := lz } (countL lo hi ++ (if lz then [63] else [])).length := by
    unfold Lx.repX
    rw [h, hb, ← h]
    dsimp only
    unfold Lx.repOf
    rw [if_neg (by omega), hn]
    cases lz
    · rw [if_neg (by exact ht)]; simp
    · rw [if_pos (by rfl)]; simp
  rw [← hr]
  obtain ⟨c, l, e1, e2⟩ := count_front lo hi
  have h' : Utf.nums s = c :: (l ++ ((if lz then [63] else []) ++ t)) := by rw [h, e1]; rfl
  have hcz : c = 123 → ¬ (Lx.countsX (Utf.nums s)).2.2 = 0 := fun e => by
    have e3 : Lx.boundsX (Utf.nums s) = Lx.countsX (Utf.nums s) := by rw [h', e]; unfold Lx.boundsX; rfl
    rw [← e3, h, hb, e1]
    simp
  unfold Lx.tokX
  rw [show (Utf.nums s)[0]?.getD 0 = c by rw [h']; rfl]
  dsimp only
  rcases e2 with rfl | rfl | rfl | rfl
  · rfl
  · rfl
  · rfl
  · rw [if_neg (by decide), if_neg (by decide), if_neg (by decide), if_neg (by decide), if_neg (by decide), if_neg (by decide), if_neg (by decide), if_neg (by decide), if_pos rfl, if_neg (hcz rfl)]
end Go.Proofs.YtanffablfgnioaaGreatDoor.Sh
namespace Go.Proofs.YtanffablfgnioaaGreatDoor.Sh
open Lx (Tk TR LR tokX turnB)
open Ps (TL leafN manyN)
set_option linter.unusedVariables false
def wrapO : Pc := ([40, 63, 58], Lx.openT)
def clsO : Pc := ([41], Lx.closeT)
def barO : Pc := ([124], { kind := 12 })
def wrapP (b : Bool) (x : List Pc) : List Pc := if b then wrapO :: (x ++ [clsO]) else x
def altQ : List (List Pc) → List Pc
  | [] => []
  | [x] => x
  | x :: y :: l => x ++ barO :: altQ (y :: l)
def manyO : Pc := ([40, 63, 109, 58], { kind := 9, mn := 2, mx := 0 })
def aboutP (n : Int) : List Pc := if n = 1 then [([92, 65], { kind := 5, num := 1 })] else if n = 2 then [([92, 122], { kind := 5, num := 2 })] else if n = 3 then [manyO, ([94], { kind := 6 }), clsO] else
  if n = 4 then [manyO, ([36], { kind := 7 }), clsO] else if n = 5 then [([92, 98], { kind := 5, num := 5 })] else [([92, 66], { kind := 5, num := 6 })]
def openP (nm : ByteArray) : Pc := if nm = ⟨#[]⟩ then ([40], { kind := 9, num := 1 }) else ([40, 63, 80, 60] ++ Utf.nums nm ++ [62], { kind := 9, num := 1, name := nm })
def setP (l : List (Int × Int)) : Pc :=
  if l.length = 1 ∧ (l[0]?.getD (0, 0)).1 = (l[0]?.getD (0, 0)).2 then (charL (l[0]?.getD (0, 0)).1, Lx.runeT (l[0]?.getD (0, 0)).1) else (91 :: (l.flatMap rgL ++ [93]), { kind := 13, name := txtB (91 :: (l.flatMap rgL ++ [93])) })
def timesP (lo hi : Int) (lz : Bool) : Pc := (timesL lo hi lz, { kind := 8, mn := lo, mx := hi, lazy := lz })
/-- The pieces of a tree's pattern. -/
def pcL : Nat → Nd → List Pc
  | 0, _ => []
  | k + 1, n =>
    if Td.kind n = 1 then [wrapO, clsO] else
    if Td.kind n = 2 then [(noneL, { kind := 13, name := txtB noneL })] else
    if Td.kind n = 3 then [setP (Td.set n)] else
    if Td.kind n = 4 then [([92, 67], { kind := 4 })] else
    if Td.kind n = 5 then aboutP (Td.num n) else
    if Td.kind n = 6 then openP (Td.name n) :: ((Td.subs n).flatMap (pcL k) ++ [clsO]) else
    if Td.kind n = 7 then (Td.subs n).flatMap (fun m => wrapP (wrapB 7 (Td.kind m)) (pcL k m)) else
    if Td.kind n = 8 then altQ ((Td.subs n).map fun m => wrapP (wrapB 8 (Td.kind m)) (pcL k m)) else
    (Td.subs n).flatMap (fun m => wrapP (wrapB 9 (Td.kind m)) (pcL k m)) ++ [timesP (Td.mn n) (Td.mx n) (Td.lazy n)]
theorem tB_wrap (b : Bool) (x : List Pc) : tB (wrapP b x) = wrapL b (tB x) := by
  unfold wrapP wrapL
  cases b
  · rfl
  · rw [if_pos rfl, if_pos rfl, tB_cons, tB_app]
    show [40, 63, 58] ++ (tB x ++ [41]) = _
    rw [List.append_assoc]
theorem tB_flat (f : Nd → List Pc) (g : Nd → List Int) : ∀ (l : List Nd), (∀ m ∈ l, tB (f m) = g m) → tB (l.flatMap f) = l.flatMap g
  | [], _ => rfl
  | m :: l, h => by rw [List.flatMap_cons, List.flatMap_cons, tB_app, h m (by simp), tB_flat f g l (fun x hx => h x (by simp [hx]))]
theorem tB_alt : ∀ (l : List (List Pc)), tB (altQ l) = altL (l.map tB)
  | [] => rfl
  | [x] => rfl
  | x :: y :: l => by
    rw [altQ, tB_app, tB_cons, tB_alt (y :: l)]
    rfl
theorem tB_pc : ∀ (k : Nat) (n : Nd), tB (pcL k n) = shL k n
  | 0, n => rfl
  | k + 1, n => by
    rw [pcL, shL]
    split
    · rfl
    split
    · show noneL ++ [] = noneL; rw [List.append_nil]
    split
    · show (setP (Td.set n)).1 ++ [] = _
      rw [List.append_nil]
      unfold setP setL
      split <;> rfl
    split
    · rfl
    split
    · unfold aboutP aboutL
      repeat' split
      all_goals rfl
    split
    · rw [tB_cons, tB_app, tB_flat _ (shL k) _ (fun m _ => tB_pc k m), ← List.append_assoc]
      congr 1
      congr 1
      unfold openP openL
      split <;> rfl
    split
    · exact tB_flat _ _ _ (fun m _ => by rw [tB_wrap, tB_pc k m])
    split
    · rw [tB_alt, List.map_map]
      congr 1
      exact List.map_congr_left (fun m _ => by show tB (wrapP _ _) = _; rw [tB_wrap, tB_pc k m])
    · rw [tB_app, tB_flat _ (fun m => wrapL (wrapB 9 (Td.kind m)) (shL k m)) _ (fun m _ => by rw [tB_wrap, tB_pc k m])]
      congr 1
      show (timesP _ _ _).1 ++ [] = _
      rw [List.append_nil]; rfl
/-- What a node is that Check takes. -/
inductive Shp : Nd → Prop
  | empty : Shp (leafN 1 0)
  | none : Shp (leafN 2 0)
  | any : Shp (leafN 4 0)
  | set (l : List (Int × Int)) (hN : Rg.NormL l) (h0 : l ≠ []) : Shp (.mk 3 l 0 ⟨#[]⟩ 0 0 false [])
  | about (a : Int) (h : 1 ≤ a ∧ a ≤ 6) : Shp (leafN 5 a)
  | group (a : Int) (nm : ByteArray) (m : Nd) (h : nm = ⟨#[]⟩ ∨ Td.nameB nm = true) : Shp (.mk 6 [] a nm 0 0 false [m])
  | many (K : Int) (l : List Nd) (hK : K = 7 ∨ K = 8) (h : 2 ≤ l.length) : Shp (manyN K l)
  | rep (lo hi : Int) (lz : Bool) (m : Nd) (h : 0 ≤ lo ∧ lo ≤ 1000 ∧ (hi = -1 ∨ lo ≤ hi ∧ hi ≤ 1000)) : Shp (.mk 9 [] 0 ⟨#[]⟩ lo hi lz [m])
theorem no_name {s : ByteArray} (h : s.toList.isEmpty = true) : s = ⟨#[]⟩ := by
  have h9 : s.toList = [] := List.isEmpty_iff.1 h
  rw [ByteArray.toList_eq] at h9
  obtain ⟨d⟩ := s
  have : d = #[] := by simpa using h9
  rw [this]
theorem no_len {α : Type} {l : List α} (h : ((l.length : Int) == 0) = true) : l = [] := by
  have := beq_iff_eq.1 h
  exact List.eq_nil_of_length_eq_zero (by omega)
theorem one_len {α : Type} {l : List α} (h : ((l.length : Int) == 1) = true) : ∃ m, l = [m] := by
  have := beq_iff_eq.1 h
  exact List.length_eq_one_iff.1 (by omega)
theorem shp_of {n : Nd} (h : Td.fitsB n = true) : Shp n := by
  obtain ⟨K, set, num, nm, mn, mx, lz, subs⟩ := n
  change Td.fitsV K num mn mx (subs.length : Int) ((set.length : Int) == 0) (num == 0) nm.toList.isEmpty (mn == 0 && mx == 0) (!lz) (Rg.checkF none set == 0) (Td.nameB nm) = true at h
  unfold Td.fitsV at h
  by_cases k1 : K = 1 ∨ K = 2 ∨ K = 4
  · rw [if_pos k1] at h
    simp only [Bool.and_eq_true, Bool.not_eq_true'] at h
    obtain ⟨a1, a2, a3, ⟨a4, a5⟩, a6, a7⟩ := h
    obtain rfl := no_len a1
    obtain rfl := no_name a3
    obtain rfl := no_len a7
    obtain rfl := beq_iff_eq.1 a2
    obtain rfl := beq_iff_eq.1 a4
    obtain rfl := beq_iff_eq.1 a5
    subst a6
    rcases k1 with rfl | rfl | rfl
    · exact .empty
    · exact .none
    · exact .any
  rw [if_neg k1] at h
  by_cases k3 : K = 3
  · rw [if_pos k3] at h
    simp only [Bool.and_eq_true, Bool.not_eq_true'] at h
    obtain ⟨a0, a1, a2, a3, ⟨a4, a5⟩, a6, a7⟩ := h
    obtain rfl := no_name a3
    obtain rfl := no_len a7
    obtain rfl := beq_iff_eq.1 a2
    obtain rfl := beq_iff_eq.1 a4
    obtain rfl := beq_iff_eq.1 a5
    subst a6
    subst k3
    refine .set set ((Rg.check_norm _).1 (beq_iff_eq.1 a1)) (fun e => ?_)
    subst e
    exact absurd a0 (by decide)
  rw [if_neg k3] at h
  by_cases k5 : K = 5
  · rw [if_pos k5] at h
    simp only [Bool.and_eq_true, Bool.not_eq_true', decide_eq_true_eq] at h
    obtain ⟨a0, a1, a2, a3, ⟨a4, a5⟩, a6, a7⟩ := h
    obtain rfl := no_len a0
    obtain rfl := no_name a3
    obtain rfl := no_len a7
    obtain rfl := beq_iff_eq.1 a4
    obtain rfl := beq_iff_eq.1 a5
    subst a6
    subst k5
    exact .about num ⟨a1, a2⟩
  rw [if_neg k5] at h
  by_cases k6 : K = 6
  · rw [if_pos k6] at h
    simp only [Bool.and_eq_true, Bool.not_eq_true', decide_eq_true_eq, Bool.or_eq_true] at h
    obtain ⟨a0, a1, a3, ⟨a4, a5⟩, a6, a7⟩ := h
    obtain rfl := no_len a0
    obtain ⟨m, rfl⟩ := one_len a7
    obtain rfl := beq_iff_eq.1 a4
    obtain rfl := beq_iff_eq.1 a5
    subst a6
    subst k6
    exact .group num nm m (a3.imp no_name id)
  rw [if_neg k6] at h
  by_cases k7 : K = 7 ∨ K = 8
  · rw [if_pos k7] at h
    simp only [Bool.and_eq_true, Bool.not_eq_true', decide_eq_true_eq] at h
    obtain ⟨a0, a2, a3, ⟨a4, a5⟩, a6, a7⟩ := h
    obtain rfl := no_len a0
    obtain rfl := no_name a3
    obtain rfl := beq_iff_eq.1 a2
    obtain rfl := beq_iff_eq.1 a4
    obtain rfl := beq_iff_eq.1 a5
    subst a6
    exact .many K subs k7 (by omega)
  rw [if_neg k7] at h
  by_cases k9 : K = 9
  · rw [if_pos k9] at h
    simp only [Bool.and_eq_true, Bool.not_eq_true', decide_eq_true_eq, Bool.or_eq_true] at h
    obtain ⟨a0, a2, a3, a4, a5, a6, a7⟩ := h
    obtain rfl := no_len a0
    obtain rfl := no_name a3
    obtain ⟨m, rfl⟩ := one_len a7
    obtain rfl := beq_iff_eq.1 a2
    subst k9
    exact .rep mn mx lz m ⟨a4, a5, a6.imp beq_iff_eq.1 id⟩
  rw [if_neg k9] at h
  cases h
/-- All nodes of a tree are, down to its depth. -/
def ShpA : Nat → Nd → Prop
  | 0, _ => False
  | k + 1, n => Shp n ∧ ∀ m ∈ Td.subs n, ShpA k m
theorem max_memS : ∀ (l : List Nat) (a x : Nat), (x ∈ l ∨ x ≤ a) → x ≤ l.foldl max a
  | [], a, x, h => by rcases h with h | h; cases h; exact h
  | y :: l, a, x, h => by
    refine max_memS l (max a y) x ?_
    rcases h with h | h
    · rcases List.mem_cons.1 h with rfl | h
      · exact .inr (by omega)
      · exact .inl h
    · exact .inr (by omega)
theorem shpA_fit : ∀ (k d : Nat) (n : Nd), Td.dep (k + 1) n ≤ k → (∀ p ∈ Td.all k d n, Td.fitsB p.2 = true) → ShpA k n
  | 0, d, n, h, _ => by rw [Td.dep] at h; omega
  | k + 1, d, n, h, ha => by
    rw [Td.all] at ha
    refine ⟨shp_of (ha (d, n) (by simp)), fun m hm => shpA_fit k (d + 1) m ?_ (fun p hp => ha p (List.mem_cons_of_mem _ (List.mem_flatMap.2 ⟨m, hm, hp⟩)))⟩
    rw [Td.dep] at h
    have := max_memS ((Td.subs n).map (Td.dep (k + 1))) 0 (Td.dep (k + 1) m) (.inl (List.mem_map_of_mem hm))
    omega
theorem shpA_check {n : Nd} (h : Td.checkN n = 0) : ShpA 1000 n := by
  unfold Td.checkN at h
  by_cases hd : 1000 < Td.dep 1001 n
  · rw [if_pos hd] at h; cases h
  · rw [if_neg hd] at h
    exact shpA_fit 1000 1 n (show Td.dep 1001 n ≤ 1000 by omega) (chk_all _ _ h)
theorem good_cls {R : List Pc} (h : GoodP R) : GoodP (clsO :: R) := ⟨fun s e => tok_close e, turn_front (by decide), by decide, h⟩
theorem good_bar {R : List Pc} (h : GoodP R) : GoodP (barO :: R) := ⟨fun s e => tok_bar e, turn_front (by decide), by decide, h⟩
theorem good_open {R : List Pc} (h : GoodP R) : GoodP (wrapO :: R) := ⟨fun s e => tok_wrap e, turn_front (by decide), by decide, h⟩
theorem good_many {R : List Pc} (h : GoodP R) : GoodP (manyO :: R) := ⟨fun s e => tok_many e, turn_front (by decide), by decide, h⟩
theorem good_esc {c : Int} {t : Tk} {R : List Pc} (hc : Lx.shortX c = some t) (h81 : c ≠ 81) (h : GoodP R) : GoodP (([92, c], t) :: R) := ⟨fun s e => tok_esc e hc, turn_pair h81, by show 1 ≤ 2; decide, h⟩
theorem nq_cons {c : Int} {l : List Int} {t : Tk} {R : List Pc} (h : c ≠ 63) : NoQ ((c :: l, t) :: R) := h
theorem about_good {a : Int} {R : List Pc} (h : GoodP R) : GoodP (aboutP a ++ R) ∧ NoQ (aboutP a ++ R) := by
  unfold aboutP
  split
  · exact ⟨good_esc rfl (by decide) h, nq_cons (by decide)⟩
  split
  · exact ⟨good_esc rfl (by decide) h, nq_cons (by decide)⟩
  split
  · exact ⟨good_many ⟨fun s e => tok_caret e, turn_front (by decide), by decide, good_cls h⟩, nq_cons (by decide)⟩
  split
  · exact ⟨good_many ⟨fun s e => tok_dollar e, turn_front (by decide), by decide, good_cls h⟩, nq_cons (by decide)⟩
  split
  · exact ⟨good_esc rfl (by decide) h, nq_cons (by decide)⟩
  · exact ⟨good_esc rfl (by decide) h, nq_cons (by decide)⟩
theorem open_good {nm : ByteArray} {R : List Pc} (hn : nm = ⟨#[]⟩ ∨ Td.nameB nm = true) (h : GoodP R) (hq : NoQ R) : GoodP (openP nm :: R) ∧ NoQ (openP nm :: R) := by
  unfold openP
  by_cases c : nm = ⟨#[]⟩
  · rw [if_pos c]
    exact ⟨⟨fun s e => tok_group e hq, turn_front (by decide), by decide, h⟩, nq_cons (by decide)⟩
  · rw [if_neg c]
    refine ⟨⟨fun s e => ?_, turn_front (by decide), by simp, h⟩, nq_cons (by decide)⟩
    have := tok_name (s := s) (l := tB R) (hn.resolve_left c) (by rw [e]; simp)
    rw [this]
    congr 1
    simp
theorem set_good {l : List (Int × Int)} {R : List Pc} (hN : Rg.NormL l) (h0 : l ≠ []) (h : GoodP R) : GoodP (setP l :: R) ∧ NoQ (setP l :: R) := by
  have hL : ∀ p ∈ l, 0 ≤ p.1 ∧ p.1 ≤ p.2 ∧ p.2 ≤ 1114111 := fun p hp => Rg.norm_lo l 0 hN p hp
  unfold setP
  by_cases c : l.length = 1 ∧ (l[0]?.getD (0, 0)).1 = (l[0]?.getD (0, 0)).2
  · rw [if_pos c]
    obtain ⟨x, rfl⟩ := List.length_eq_one_iff.1 c.1
    obtain ⟨b0, b1, b2⟩ := hL x (by simp)
    have e0 : ([x][0]?.getD (0, 0)) = x := rfl
    rw [e0]
    have hf : ∃ d u, charL x.1 = d :: u ∧ d ≠ 63 ∧ turnB false (charL x.1 ++ tB R) = false := by
      unfold charL
      split
      · exact ⟨_, _, rfl, by omega, turn_front (by omega)⟩
      · exact ⟨_, _, rfl, by decide, turn_pair (by decide)⟩
    obtain ⟨d, u, e1, e2, e3⟩ := hf
    refine ⟨⟨fun s e => tok_char b0 (by omega) e, e3, by show 1 ≤ (charL x.1).length; rw [e1]; simp, h⟩, ?_⟩
    unfold NoQ
    rw [tB_cons]
    show (charL x.1 ++ _)[0]?.getD 0 ≠ 63
    rw [e1]
    exact e2
  · rw [if_neg c]
    exact ⟨⟨fun s e => tok_set h0 hL e, turn_front (by decide), by simp, h⟩, nq_cons (by decide)⟩
theorem times_good {lo hi : Int} {lz : Bool} {R : List Pc} (hb : 0 ≤ lo ∧ lo ≤ 1000 ∧ (hi = -1 ∨ lo ≤ hi ∧ hi ≤ 1000)) (h : GoodP R) (hq : NoQ R) : GoodP (timesP lo hi lz :: R) := by
  obtain ⟨c, l, e1, e2⟩ := count_front lo hi
  refine ⟨fun s e => tok_times hb.1 hb.2.1 hb.2.2 hq e, ?_, ?_, h⟩
  · show turnB false (timesL lo hi lz ++ _) = false
    unfold timesL
    rw [e1]
    exact turn_front (by omega)
  · show 1 ≤ (timesL lo hi lz).length
    unfold timesL
    rw [e1]
    simp
/-- What is so of a tree's pieces with others behind. -/
def GoodN (k : Nat) (n : Nd) : Prop := ∀ R, GoodP R → (7 ≤ Td.kind n → NoQ R) → GoodP (pcL k n ++ R) ∧ NoQ (pcL k n ++ R)
theorem part_good {k : Nat} {K : Int} {m : Nd} (ih : GoodN k m) {R : List Pc} (h : GoodP R) (hq : wrapB K (Td.kind m) = false → 7 ≤ Td.kind m → NoQ R) : GoodP (wrapP (wrapB K (Td.kind m)) (pcL k m) ++ R) ∧ NoQ (wrapP (wrapB K (Td.kind m)) (pcL k m) ++ R) := by
  unfold wrapP
  cases hw : wrapB K (Td.kind m)
  · rw [if_neg (by decide)]
    exact ih R h (hq hw)
  · rw [if_pos rfl]
    have := ih (clsO :: R) (good_cls h) (fun _ => nq_cons (by decide))
    rw [List.cons_append, List.append_assoc]
    exact ⟨good_open this.1, nq_cons (by decide)⟩
theorem flat_good {k : Nat} {R : List Pc} (h : GoodP R) (hq : NoQ R) : ∀ (l : List Nd), (∀ m ∈ l, GoodN k m) → GoodP (l.flatMap (fun m => wrapP (wrapB 7 (Td.kind m)) (pcL k m)) ++ R) ∧ NoQ (l.flatMap (fun m => wrapP (wrapB 7 (Td.kind m)) (pcL k m)) ++ R)
  | [], _ => ⟨h, hq⟩
  | m :: l, hl => by
    obtain ⟨h1, h2⟩ := flat_good h hq l (fun x hx => hl x (by simp [hx]))
    rw [List.flatMap_cons, List.append_assoc]
    exact part_good (hl m (by simp)) h1 (fun _ _ => h2)
theorem alt_good {k : Nat} {R : List Pc} (h : GoodP R) (hq : NoQ R) : ∀ (l : List Nd), l ≠ [] → (∀ m ∈ l, GoodN k m) → GoodP (altQ (l.map fun m => wrapP (wrapB 8 (Td.kind m)) (pcL k m)) ++ R) ∧ NoQ (altQ (l.map fun m => wrapP (wrapB 8 (Td.kind m)) (pcL k m)) ++ R)
  | [], hn, _ => absurd rfl hn
  | [m], _, hl => part_good (hl m (by simp)) h (fun _ _ => hq)
  | m :: m2 :: l, _, hl => by
    obtain ⟨h1, h2⟩ := alt_good h hq (m2 :: l) (by simp) (fun x hx => hl x (List.mem_cons_of_mem _ hx))
    have e : altQ ((m :: m2 :: l).map fun m => wrapP (wrapB 8 (Td.kind m)) (pcL k m)) ++ R = wrapP (wrapB 8 (Td.kind m)) (pcL k m) ++ (barO :: (altQ ((m2 :: l).map fun m => wrapP (wrapB 8 (Td.kind m)) (pcL k m)) ++ R)) := by
      simp only [List.map_cons, altQ, List.append_assoc, List.cons_append]
    rw [e]
    exact part_good (hl m (by simp)) (good_bar h1) (fun _ _ => nq_cons (by decide))
theorem wrap9 {j : Int} (h : wrapB 9 j = false) : ¬ (j = 7 ∨ j = 8 ∨ j = 9) := by
  unfold wrapB at h
  simp at h
  omega
theorem shp_kind {n : Nd} (h : Shp n) : 1 ≤ Td.kind n ∧ Td.kind n ≤ 9 := by
  cases h with
  | many K l hK h => show 1 ≤ K ∧ K ≤ 9; omega
  | empty => exact ⟨by decide, by decide⟩
  | none => exact ⟨by decide, by decide⟩
  | any => exact ⟨by decide, by decide⟩
  | set l hN h0 => exact ⟨by show (1 : Int) ≤ 3; decide, by show (3 : Int) ≤ 9; decide⟩
  | about a h => exact ⟨by show (1 : Int) ≤ 5; decide, by show (5 : Int) ≤ 9; decide⟩
  | group a nm m h => exact ⟨by show (1 : Int) ≤ 6; decide, by show (6 : Int) ≤ 9; decide⟩
  | rep lo hi lz m h => exact ⟨by show (1 : Int) ≤ 9; decide, by show (9 : Int) ≤ 9; decide⟩
theorem good_pc : ∀ (k : Nat) (n : Nd), ShpA k n → GoodN k n
  | 0, n, h => absurd h id
  | k + 1, n, ⟨h, hs⟩ => by
    intro R hR hq
    have ih : ∀ m ∈ Td.subs n, GoodN k m := fun m hm => good_pc k m (hs m hm)
    cases h with
    | empty => exact ⟨good_open (good_cls hR), nq_cons (by decide)⟩
    | none => exact ⟨⟨fun s e => tok_none e, turn_front (by decide), by simp [noneL], hR⟩, nq_cons (by decide)⟩
    | any => exact ⟨good_esc rfl (by decide) hR, nq_cons (by decide)⟩
    | set l hN h0 => exact set_good hN h0 hR
    | about a ha => exact about_good hR
    | group a nm m hn =>
      have e : pcL (k + 1) (.mk 6 [] a nm 0 0 false [m]) ++ R = openP nm :: (pcL k m ++ (clsO :: R)) := by
        rw [pcL]
        show openP nm :: (([m].flatMap (pcL k) ++ [clsO])) ++ R = _
        simp
      rw [e]
      obtain ⟨h1, h2⟩ := ih m (by simp [Td.subs]) (clsO :: R) (good_cls hR) (fun _ => nq_cons (by decide))
      exact open_good hn h1 h2
    | many K l hK h2 =>
      have hq' : NoQ R := hq (by show 7 ≤ K; omega)
      rcases hK with rfl | rfl
      · exact flat_good hR hq' l ih
      · exact alt_good hR hq' l (by intro e; subst e; simp at h2) ih
    | rep lo hi lz m hb =>
      have hq' : NoQ R := hq (by show (7 : Int) ≤ 9; decide)
      have e : pcL (k + 1) (.mk 9 [] 0 ⟨#[]⟩ lo hi lz [m]) ++ R = wrapP (wrapB 9 (Td.kind m)) (pcL k m) ++ (timesP lo hi lz :: R) := by
        rw [pcL]
        show [m].flatMap (fun m => wrapP (wrapB 9 (Td.kind m)) (pcL k m)) ++ [timesP lo hi lz] ++ R = _
        simp
      rw [e]
      refine part_good (ih m (by simp [Td.subs])) (times_good hb hR hq') (fun hw h7 => ?_)
      have hm : ShpA k m := hs m (by simp [Td.subs])
      exfalso
      cases k with
      | zero => exact hm
      | succ k =>
        have := shp_kind hm.1
        exact wrap9 hw (by omega)
/-- The tokens of a tree's pattern. -/
theorem lex_show {k : Nat} {n : Nd} (h : ShpA k n) : Lx.lexR (txtB (shL k n)) 0 false [] = .ok (plc 0 (pcL k n)) := by
  obtain ⟨h1, _⟩ := good_pc k n h [] trivial (fun _ => by show ¬ (0 : Int) = 63; decide)
  rw [List.append_nil] at h1
  have := lex_good (txtB (shL k n)) (pcL k n) 0 [] h1 (by rw [txtB_nums (bytes_sh k n), tB_pc]; rfl)
  rw [this, List.nil_append]
end Go.Proofs.YtanffablfgnioaaGreatDoor.Sh
