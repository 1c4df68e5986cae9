/- What the laws of ranges use: lent lists as rows, the reference's Check on rows. · burinlaw07.works: the chapter's example. -/
import Derived.Test.YtmdpchiiamgnnaaGreatDoorGp21
import Derived.Test.YtmdpchiiamgnnaaGreatDoorGp8
namespace Go.Proofs.YtmdpchiiamgnnaaGreatDoor
open Go.RowKit
set_option linter.unusedVariables false
theorem lend_row {W : World} {base g cap : Nat} {l : List (Int × Int)} {p : Int × Int} (h : RgOwn W base (.slice (some ⟨g, 0, none⟩) (l.length + 1) cap) (l ++ [p])) (hl : l.length ≤ 8796093022208) (hw : Wide64 l) :
    RRow W (.slice (some ⟨g, 0, none⟩) l.length cap) l ∧ W.cell? ⟨g, l.length * 2, none⟩ = some (.int .i64 p.1) ∧ W.cell? ⟨g, l.length * 2 + 1, none⟩ = some (.int .i64 p.2) ∧ g < W.heap.size := by
  obtain ⟨g', cap', hv, hb, hg⟩ := RgOwn.form h
  injection hv with hv _ _
  injection hv with hv
  injection hv with hv _ _
  subst hv
  have h' : W.ownsRow base 47 2 (.slice (some ⟨g, 0, none⟩) (l.length + 1) cap) (l.length + 1) (flat2 (l ++ [p])) := by
    have := h; unfold RgOwn at this; rw [List.length_append] at this; exact this
  have get : ∀ j, j < l.length + 1 → W.cell? ⟨g, j * 2, none⟩ = some (.int .i64 ((l ++ [p])[j]?.getD (0, 0)).1) ∧ W.cell? ⟨g, j * 2 + 1, none⟩ = some (.int .i64 ((l ++ [p])[j]?.getD (0, 0)).2) := by
    intro j hj
    have hf := flat2_get (l ++ [p]) j (by simpa using hj)
    exact ⟨(h'.cellAt _ (by omega)).trans hf.1, (h'.cellAt _ (by omega)).trans hf.2⟩
  have last := get l.length (by omega)
  rw [List.getElem?_append_right (Nat.le_refl _), Nat.sub_self] at last
  refine ⟨⟨_, cap, rfl, hl, hw, fun j hj => ⟨g, 0, rfl, hg, ?_, ?_⟩⟩, last.1, last.2, hg⟩
  · have := (get j (by omega)).1
    rw [List.getElem?_append_left hj] at this
    rw [Nat.zero_add]; exact this
  · have := (get j (by omega)).2
    rw [List.getElem?_append_left hj] at this
    rw [Nat.zero_add]; exact this
theorem RRow.wide {W : World} {v : Value} {l : List (Int × Int)} (h : RRow W v l) : l.length ≤ 8796093022208 ∧ Wide64 l := by
  obtain ⟨a, cap, hv, hl, hw, hc⟩ := h
  exact ⟨hl, hw⟩
/-- A lent list: it reads as l, and the mark lies behind it. -/
structure Lent (W : World) (g n cap : Nat) (l : List (Int × Int)) : Prop where
  len : l.length = n
  row : RRow W (.slice (some ⟨g, 0, none⟩) n cap) l
  cap : n + 1 ≤ cap
  lo : W.cell? ⟨g, n * 2, none⟩ = some (.int .i64 7)
  hi : W.cell? ⟨g, n * 2 + 1, none⟩ = some (.int .i64 0)
  lt : g < W.heap.size
theorem Lent.below {W W' : World} {g n cap : Nat} {l : List (Int × Int)} (h : Lent W g n cap l) (hb : Below W.heap.size W W') : Lent W' g n cap l :=
  ⟨h.len, h.row.below (Nat.le_refl _) hb, h.cap, (hb.cell (p := ⟨g, n * 2, none⟩) h.lt).trans h.lo, (hb.cell (p := ⟨g, n * 2 + 1, none⟩) h.lt).trans h.hi, Nat.lt_of_lt_of_le h.lt hb.size⟩










theorem same_refl_row (W : World) (va vb : Value) (l m : List (Int × Int)) (ha : RRow W va l) (hb : RRow W vb m) (e : l = m) :
    Calls Tryz.prog 11 #[va, vb] W fun e W' => e = .returned (.bool true) ∧ Below W.heap.size W W' := by
  subst e
  refine (same_rg W va vb l l ha hb).mono ?_
  rintro e w' ⟨rfl, d, rfl⟩
  exact ⟨by rw [decide_eq_true rfl], below_drewN (Below.refl _ _) d⟩
end Go.Proofs.YtmdpchiiamgnnaaGreatDoor
namespace Go.Proofs.YtmdpchiiamgnnaaGreatDoor
open Go.RowKit
set_option linter.unusedVariables false
theorem ex7_a : Br.brack ⟨#[91, 94, 97, 45, 99, 92, 100, 93, 120]⟩ = .ok [.rng 97 99, .cls (false, [48, 57])] 7 := by kernel_rfl
theorem ex7_b : Br.brack ⟨#[91, 93, 45, 93]⟩ = .ok [.rng 93 93, .rng 45 45] 3 := by kernel_rfl
namespace Br
open Go.Proofs.YtmdpchiiamgnnaaGreatDoor.Rg
theorem ex7_list1 {out outw : List R} (h : BrIs [.rng 97 99, .cls (false, [48, 57])] false true out) (k : Made 3 [(0, 1114111)] [(48, 57), (97, 99)] outw) : out = outw := by
  obtain ⟨L, M, h1, h2, h3, h4⟩ := h
  obtain ⟨L1, l1, rfl, k1, k2⟩ := itsIs_snoc (Xs := [.rng 97 99]) (X := .cls (false, [48, 57])) h1
  obtain ⟨L2, l2, rfl, k3, k4⟩ := itsIs_snoc (Xs := []) (X := .rng 97 99) k1
  obtain rfl := itsIs_nil k3
  obtain rfl : l2 = [(97, 99)] := k4
  refine norm_ext h3 k.norm (fun q q0 q1 => ?_)
  rw [h4 q q0 q1, k.has q q0 q1, if_neg (by decide), ListOf.eq h2]
  have e1 : hasB l1 q = hasB [(48, 57)] q := by
    have := k2.2 q q0 q1
    rw [this]
    simp [Cl.pairsOf]
  have e2 : hasB ([] ++ [(97, 99)] ++ l1) q = (hasB [(97, 99)] q || hasB l1 q) := by
    rw [Bool.eq_iff_iff, Bool.or_eq_true, hasB_iff, hasB_iff, hasB_iff]
    simp only [List.nil_append, List.mem_append, List.mem_singleton]
    constructor
    · rintro ⟨a, p, hp | hp, b⟩
      · exact .inl ⟨a, p, hp, b⟩
      · exact .inr ⟨a, p, hp, b⟩
    · rintro (⟨a, p, hp, b⟩ | ⟨a, p, hp, b⟩)
      · exact ⟨a, p, .inl hp, b⟩
      · exact ⟨a, p, .inr hp, b⟩
  have e3 : hasB [(0, 1114111)] q = true := (hasB_iff _ _).2 ⟨⟨q0, q1⟩, (0, 1114111), by simp, q0, q1⟩
  have e4 : hasB [(48, 57), (97, 99)] q = (hasB [(97, 99)] q || hasB [(48, 57)] q) := by
    rw [Bool.eq_iff_iff, Bool.or_eq_true, hasB_iff, hasB_iff, hasB_iff]
    simp only [List.mem_cons, List.not_mem_nil, or_false]
    constructor
    · rintro ⟨a, p, hp | hp, b⟩
      · exact .inr ⟨a, p, hp, b⟩
      · exact .inl ⟨a, p, hp, b⟩
    · rintro (⟨a, p, hp, b⟩ | ⟨a, p, hp, b⟩)
      · exact ⟨a, p, .inr hp, b⟩
      · exact ⟨a, p, .inl hp, b⟩
  rw [e2, e1, e3, e4]
  cases hasB [(97, 99)] q <;> cases hasB [(48, 57)] q <;> rfl
theorem ex7_list2 {out : List R} (h : BrIs [.rng 93 93, .rng 45 45] false false out) : out = [(45, 45), (93, 93)] := by
  obtain ⟨L, M, h1, h2, h3, h4⟩ := h
  have k : ItsIs [.rng 93 93, .rng 45 45] [(93, 93), (45, 45)] := .snoc (Xs := [.rng 93 93]) (L := [(93, 93)]) (.snoc (Xs := []) .nil rfl) rfl
  obtain rfl := itsIs_unique h1 k
  refine norm_ext h3 ⟨by decide, by decide, by decide, by decide, by decide, by decide, trivial⟩ (fun q q0 q1 => ?_)
  rw [h4 q q0 q1, if_neg (by decide), ListOf.eq h2]
  rw [show ∀ b : Bool, (false != b) = b from fun b => by cases b <;> rfl, Bool.eq_iff_iff, hasB_iff, hasB_iff]
  simp only [List.mem_cons, List.not_mem_nil, or_false]
  constructor
  · rintro ⟨a, p, hp | hp, b⟩
    · exact ⟨a, p, .inr hp, b⟩
    · exact ⟨a, p, .inl hp, b⟩
  · rintro ⟨a, p, hp | hp, b⟩
    · exact ⟨a, p, .inr hp, b⟩
    · exact ⟨a, p, .inl hp, b⟩
end Br
theorem rrow_two (W : World) (a b c d : Int) (h : ∀ x ∈ [a, b, c, d], -9223372036854775808 ≤ x ∧ x ≤ 9223372036854775807) (t : TypeId) :
    RRow (W.alloc (.cells #[.int .i64 a, .int .i64 b, .int .i64 c, .int .i64 d] t)) (.slice (some ⟨W.heap.size, 0, none⟩) 2 2) [(a, b), (c, d)] :=
  ⟨_, 2, rfl, by simp, (fun p hp => by
    have ha := h a (by simp); have hb := h b (by simp); have hc := h c (by simp); have hd := h d (by simp)
    simp at hp
    rcases hp with rfl | rfl
    · exact ⟨ha.1, ha.2, hb.1, hb.2⟩
    · exact ⟨hc.1, hc.2, hd.1, hd.2⟩), fun j hj => by
    have hj2 : j < 2 := hj
    have h : j = 0 ∨ j = 1 := by omega
    rcases h with rfl | rfl
    all_goals exact ⟨W.heap.size, 0, rfl, by simp, by simp, by simp⟩⟩
set_option maxRecDepth 100000 in
set_option maxHeartbeats 4000000 in
theorem works7_any (W : World) (hE : Ev W) : Calls Tryz.prog 8 #[] W fun e w' => e = .returned (.bool true) ∧ Below W.heap.size W w' := by
  have HE := Lib.hid hE
  clear hE
  go_enter Tryz.func8, Tryz.ntmps8
  go_wp2_with fail
  refine (brk_any _ ⟨#[91, 94, 97, 45, 99, 92, 100, 93, 120]⟩ (by decide) 0 false (by decide) HE.out).mono ?_
  intro e w1 hpost
  rcases hpost with ⟨hb, ⟨o, c, hx, _⟩ | ⟨Xs, at_, v, out, hx, rfl, hi, ho⟩⟩
  · rw [ex7_a] at hx; cases hx
  rw [ex7_a] at hx
  obtain ⟨rfl, rfl⟩ : [Br.It.rng 97 99, .cls (false, [48, 57])] = Xs ∧ 7 = at_ := by cases hx; exact ⟨rfl, rfl⟩
  have HB1 := Lib.hid hb
  have HI1 : Hid (Br.BrIs [.rng 97 99, .cls (false, [48, 57])] false true out) := Lib.hid hi
  have HO1 := Lib.hid ho
  clear hb hx hi ho
  go_wp2_with fail
  refine (brk_any _ ⟨#[91, 93, 45, 93]⟩ (by decide) 0 false (by decide) (HE.out.below (Nat.le_refl _) HB1.out)).mono ?_
  intro e w2 hpost
  rcases hpost with ⟨hb, ⟨o, c, hx, _⟩ | ⟨Xs, at_, v2, out2, hx, rfl, hi, ho⟩⟩
  · rw [ex7_b] at hx; cases hx
  rw [ex7_b] at hx
  obtain ⟨rfl, rfl⟩ : [Br.It.rng 93 93, .rng 45 45] = Xs ∧ 3 = at_ := by cases hx; exact ⟨rfl, rfl⟩
  have HB2 := Lib.hid (HB1.out.trans (hb.mono HB1.out.size))
  have HO1' := Lib.hid (HO1.out.below hb)
  have HI2 : Hid (out2 = [(45, 45), (93, 93)]) := Lib.hid (Br.ex7_list2 hi)
  have HO2 := Lib.hid (ho.lower HB1.out.size)
  have HR0 := Lib.hid (rrow_two w2 48 57 97 99 (by decide) 47)
  have hb3 : Below w2.heap.size w2 (w2.alloc (.cells #[.int .i64 48, .int .i64 57, .int .i64 97, .int .i64 99] 47)) := (Below.refl _ _).alloc (Nat.le_refl _) _
  have HB3 := Lib.hid (HB2.out.trans (hb3.mono HB2.out.size))
  have HO13 := Lib.hid (HO1'.out.below hb3)
  have HO23 := Lib.hid (HO2.out.below hb3)
  clear hb hx hi ho hb3
  go_wp2_with fail
  refine (not_any _ _ _ HR0.out).mono ?_
  rintro e w4 ⟨v4, o4, rfl, hm4, ho4, hb4⟩
  have HEQ : Hid (out = o4) := Lib.hid (Br.ex7_list1 HI1.out hm4)
  have HR4 := Lib.hid (ho4.normRow hm4.norm)
  have HR14 := Lib.hid ((HO13.out.below hb4).normRow (by obtain ⟨_, _, _, _, h, _⟩ := HI1.out; exact h))
  have HO24 := Lib.hid (HO23.out.below hb4)
  have HB4 := Lib.hid (HB3.out.trans (hb4.mono HB3.out.size))
  clear hm4 ho4 hb4
  go_wp2_with fail
  refine (same_refl_row _ _ _ _ _ HR14.out HR4.out HEQ.out).mono ?_
  rintro e w5 ⟨rfl, hb5⟩
  have HO25 := Lib.hid (HO24.out.below hb5)
  have HB5 := Lib.hid (HB4.out.trans (hb5.mono HB4.out.size))
  have HR6 := Lib.hid (rrow_two w5 45 45 93 93 (by decide) 47)
  have hb6 : Below w5.heap.size w5 (w5.alloc (.cells #[.int .i64 45, .int .i64 45, .int .i64 93, .int .i64 93] 47)) := (Below.refl _ _).alloc (Nat.le_refl _) _
  have HB6 := Lib.hid (HB5.out.trans (hb6.mono HB5.out.size))
  have HR26 := Lib.hid ((HO25.out.below hb6).normRow (by rw [HI2.out]; exact ⟨by decide, by decide, by decide, by decide, by decide, by decide, trivial⟩))
  clear hb5 hb6
  go_wp2_with fail
  refine (same_refl_row _ _ _ _ _ HR26.out HR6.out HI2.out).mono ?_
  rintro e w7 ⟨rfl, hb7⟩
  have HB7 := Lib.hid (HB6.out.trans (hb7.mono HB6.out.size))
  clear hb7
  go_wp2
  go_ret
  exact ⟨rfl, HB7.out⟩
end Go.Proofs.YtmdpchiiamgnnaaGreatDoor
