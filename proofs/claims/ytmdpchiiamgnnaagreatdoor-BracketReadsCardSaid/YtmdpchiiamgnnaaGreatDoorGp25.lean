/- The reference's class (burinref04): its tables. · The reference's class (burinref04): the name between colons. · The reference's class (burinref04): the property. · The reference's class (burinref04): a name without its mark. -/
import Derived.Test.YtmdpchiiamgnnaaGreatDoorGp24
import Derived.Laws.MakeOwn
import Derived.Laws.OwnMore
namespace Go.Proofs.YtmdpchiiamgnnaaGreatDoor
open Go.RowKit
set_option linter.unusedVariables false
theorem own_lits (W : World) (T : List Int) (n : Nat) (cs : Array Value) (hT : T.length = n) (hc : cs = (T.map (Value.int .i64)).toArray) (hn : n ≤ 1000) : IOwn (W.alloc (.cells cs 3)) W.heap.size (.slice (some ⟨W.heap.size, 0, none⟩) n n) T := by
  subst hc; subst hT
  exact ⟨by simp [flat1], .inr ⟨W.heap.size, T.length, (T.map (Value.int .i64)).toArray, rfl, Nat.le_refl _, heap_alloc_new _ _, Nat.le_refl _, by unfold maxLen; omega, by simp, by rw [Nat.mul_one]; exact List.take_of_length_le (by simp)⟩⟩
/-- A table of numbers, handed back. -/
def TabPost (T : List Int) (W : World) (e : Ending) (w' : World) : Prop := ∃ v, e = .returned v ∧ IOwn w' W.heap.size v T ∧ Below W.heap.size W w'
set_option maxRecDepth 100000 in
set_option maxHeartbeats 2000000 in
theorem word_any (W : World) : Calls Tryz.prog 112 #[] W (TabPost Cl.word W) := by
  go_enter Tryz.func112, Tryz.ntmps112
  go_wp2
  go_ret
  exact ⟨_, rfl, own_lits W Cl.word 8 _ rfl rfl (by decide), (Below.refl _ _).alloc (Nat.le_refl _) _⟩
set_option maxRecDepth 100000 in
set_option maxHeartbeats 2000000 in
theorem latin_any (W : World) : Calls Tryz.prog 154 #[] W (TabPost Cl.latin W) := by
  go_enter Tryz.func154, Tryz.ntmps154
  go_wp2
  go_ret
  exact ⟨_, rfl, own_lits W Cl.latin 14 _ rfl rfl (by decide), (Below.refl _ _).alloc (Nat.le_refl _) _⟩
set_option maxRecDepth 100000 in
set_option maxHeartbeats 2000000 in
theorem greek_any (W : World) : Calls Tryz.prog 151 #[] W (TabPost Cl.greek W) := by
  go_enter Tryz.func151, Tryz.ntmps151
  go_wp2
  go_ret
  exact ⟨_, rfl, own_lits W Cl.greek 24 _ rfl rfl (by decide), (Below.refl _ _).alloc (Nat.le_refl _) _⟩
set_option maxRecDepth 100000 in
set_option maxHeartbeats 2000000 in
theorem cyrillic_any (W : World) : Calls Tryz.prog 150 #[] W (TabPost Cl.cyrillic W) := by
  go_enter Tryz.func150, Tryz.ntmps150
  go_wp2
  go_ret
  exact ⟨_, rfl, own_lits W Cl.cyrillic 4 _ rfl rfl (by decide), (Below.refl _ _).alloc (Nat.le_refl _) _⟩
set_option maxRecDepth 100000 in
set_option maxHeartbeats 2000000 in
theorem capitals_any (W : World) : Calls Tryz.prog 152 #[] W (TabPost Cl.capitals W) := by
  go_enter Tryz.func152, Tryz.ntmps152
  go_wp2
  go_ret
  exact ⟨_, rfl, own_lits W Cl.capitals 14 _ rfl rfl (by decide), (Below.refl _ _).alloc (Nat.le_refl _) _⟩
set_option maxRecDepth 100000 in
set_option maxHeartbeats 2000000 in
theorem small_any (W : World) : Calls Tryz.prog 153 #[] W (TabPost Cl.small W) := by
  go_enter Tryz.func153, Tryz.ntmps153
  go_wp2
  go_ret
  exact ⟨_, rfl, own_lits W Cl.small 14 _ rfl rfl (by decide), (Below.refl _ _).alloc (Nat.le_refl _) _⟩
end Go.Proofs.YtmdpchiiamgnnaaGreatDoor
namespace Go.Proofs.YtmdpchiiamgnnaaGreatDoor
open Go.RowKit
set_option linter.unusedVariables false
theorem irow_nil (W : World) : IRow W (.slice none 0 0) [] := ⟨none, 0, rfl, Nat.le_refl _, by decide, fun j h => absurd h (Nat.not_lt_zero _)⟩
/-- What a table has of a name, handed back. -/
def LookPost (T : List (List UInt8 × List Int)) (s : List UInt8) (W : World) (e : Ending) (w' : World) : Prop :=
  ∃ v o, Cl.look T s = o ∧ e = .returned (.tuple #[v, .bool o.isSome]) ∧ IRow w' v (o.getD []) ∧ Below W.heap.size W w'
set_option maxRecDepth 100000 in
set_option maxHeartbeats 2000000 in
theorem colon_any (W : World) (s : ByteArray) : Calls Tryz.prog 81 #[.string s] W (LookPost Cl.colonT s.toList W) := by
  go_enter Tryz.func81, Tryz.ntmps81
  go_wp2_with (go_at_call 112; refine (word_any _).mono ?_; rintro e w1 ⟨v, rfl, ho, hb⟩)
  · go_ret2
    exact ⟨_, some [48, 57, 65, 90, 97, 122], (by unfold Cl.colonT; repeat (first | exact Cl.look_hit (by assumption) | refine Eq.trans (Cl.look_miss (by assumption)) ?_ | rfl)), rfl, (own_lits W [48, 57, 65, 90, 97, 122] 6 _ rfl rfl (by decide)).row, (Below.refl _ _).alloc (Nat.le_refl _) _⟩
  · go_ret2
    exact ⟨_, some [65, 90, 97, 122], (by unfold Cl.colonT; repeat (first | exact Cl.look_hit (by assumption) | refine Eq.trans (Cl.look_miss (by assumption)) ?_ | rfl)), rfl, (own_lits W [65, 90, 97, 122] 4 _ rfl rfl (by decide)).row, (Below.refl _ _).alloc (Nat.le_refl _) _⟩
  · go_ret2
    exact ⟨_, some [0, 127], (by unfold Cl.colonT; repeat (first | exact Cl.look_hit (by assumption) | refine Eq.trans (Cl.look_miss (by assumption)) ?_ | rfl)), rfl, (own_lits W [0, 127] 2 _ rfl rfl (by decide)).row, (Below.refl _ _).alloc (Nat.le_refl _) _⟩
  · go_ret2
    exact ⟨_, some [9, 9, 32, 32], (by unfold Cl.colonT; repeat (first | exact Cl.look_hit (by assumption) | refine Eq.trans (Cl.look_miss (by assumption)) ?_ | rfl)), rfl, (own_lits W [9, 9, 32, 32] 4 _ rfl rfl (by decide)).row, (Below.refl _ _).alloc (Nat.le_refl _) _⟩
  · go_ret2
    exact ⟨_, some [0, 31, 127, 127], (by unfold Cl.colonT; repeat (first | exact Cl.look_hit (by assumption) | refine Eq.trans (Cl.look_miss (by assumption)) ?_ | rfl)), rfl, (own_lits W [0, 31, 127, 127] 4 _ rfl rfl (by decide)).row, (Below.refl _ _).alloc (Nat.le_refl _) _⟩
  · go_ret2
    exact ⟨_, some [48, 57], (by unfold Cl.colonT; repeat (first | exact Cl.look_hit (by assumption) | refine Eq.trans (Cl.look_miss (by assumption)) ?_ | rfl)), rfl, (own_lits W [48, 57] 2 _ rfl rfl (by decide)).row, (Below.refl _ _).alloc (Nat.le_refl _) _⟩
  · go_ret2
    exact ⟨_, some [33, 126], (by unfold Cl.colonT; repeat (first | exact Cl.look_hit (by assumption) | refine Eq.trans (Cl.look_miss (by assumption)) ?_ | rfl)), rfl, (own_lits W [33, 126] 2 _ rfl rfl (by decide)).row, (Below.refl _ _).alloc (Nat.le_refl _) _⟩
  · go_ret2
    exact ⟨_, some [97, 122], (by unfold Cl.colonT; repeat (first | exact Cl.look_hit (by assumption) | refine Eq.trans (Cl.look_miss (by assumption)) ?_ | rfl)), rfl, (own_lits W [97, 122] 2 _ rfl rfl (by decide)).row, (Below.refl _ _).alloc (Nat.le_refl _) _⟩
  · go_ret2
    exact ⟨_, some [32, 126], (by unfold Cl.colonT; repeat (first | exact Cl.look_hit (by assumption) | refine Eq.trans (Cl.look_miss (by assumption)) ?_ | rfl)), rfl, (own_lits W [32, 126] 2 _ rfl rfl (by decide)).row, (Below.refl _ _).alloc (Nat.le_refl _) _⟩
  · go_ret2
    exact ⟨_, some [33, 47, 58, 64, 91, 96, 123, 126], (by unfold Cl.colonT; repeat (first | exact Cl.look_hit (by assumption) | refine Eq.trans (Cl.look_miss (by assumption)) ?_ | rfl)), rfl, (own_lits W [33, 47, 58, 64, 91, 96, 123, 126] 8 _ rfl rfl (by decide)).row, (Below.refl _ _).alloc (Nat.le_refl _) _⟩
  · go_ret2
    exact ⟨_, some [9, 13, 32, 32], (by unfold Cl.colonT; repeat (first | exact Cl.look_hit (by assumption) | refine Eq.trans (Cl.look_miss (by assumption)) ?_ | rfl)), rfl, (own_lits W [9, 13, 32, 32] 4 _ rfl rfl (by decide)).row, (Below.refl _ _).alloc (Nat.le_refl _) _⟩
  · go_ret2
    exact ⟨_, some [65, 90], (by unfold Cl.colonT; repeat (first | exact Cl.look_hit (by assumption) | refine Eq.trans (Cl.look_miss (by assumption)) ?_ | rfl)), rfl, (own_lits W [65, 90] 2 _ rfl rfl (by decide)).row, (Below.refl _ _).alloc (Nat.le_refl _) _⟩
  · go_ret2
    exact ⟨_, some Cl.word, (by unfold Cl.colonT; repeat (first | exact Cl.look_hit (by assumption) | refine Eq.trans (Cl.look_miss (by assumption)) ?_ | rfl)), rfl, ho.row, hb⟩
  · go_ret2
    exact ⟨_, some [48, 57, 65, 70, 97, 102], (by unfold Cl.colonT; repeat (first | exact Cl.look_hit (by assumption) | refine Eq.trans (Cl.look_miss (by assumption)) ?_ | rfl)), rfl, (own_lits W [48, 57, 65, 70, 97, 102] 6 _ rfl rfl (by decide)).row, (Below.refl _ _).alloc (Nat.le_refl _) _⟩
  · go_ret2
    exact ⟨_, none, (by unfold Cl.colonT; repeat (first | exact Cl.look_hit (by assumption) | refine Eq.trans (Cl.look_miss (by assumption)) ?_ | rfl)), rfl, irow_nil _, Below.refl _ _⟩
end Go.Proofs.YtmdpchiiamgnnaaGreatDoor
namespace Go.Proofs.YtmdpchiiamgnnaaGreatDoor
open Go.RowKit
set_option linter.unusedVariables false
theorem row_news {W : World} {v : Value} {T : List Int} {m : Nat} (h : IRow W v T) (hm : T.length = m) (hp : 0 < m) :
    ∃ b c, v = .slice (some ⟨b, 0, none⟩) m c ∧ ∀ j u, (flat1 T)[j]? = some u → W.cell? ((⟨b, 0, none⟩ : Addr).add j) = some u := by
  subst hm
  obtain ⟨a, cap, rfl, h1, h2, hc⟩ := h
  obtain ⟨b, rfl, _, _⟩ := hc 0 hp
  refine ⟨b, cap, rfl, fun j u hu => ?_⟩
  have hadd : (⟨b, 0, none⟩ : Addr).add j = ⟨b, j, none⟩ := by unfold Addr.add; split <;> simp_all
  rw [hadd]
  simp only [flat1, List.getElem?_map] at hu
  cases e : T[j]? with
  | none => rw [e] at hu; cases hu
  | some x =>
    rw [e] at hu
    have hlt := (List.getElem?_eq_some_iff.1 e).1
    obtain ⟨b', eb, _, h3⟩ := hc j hlt
    injection eb with eb; injection eb with eb; subst eb
    rw [h3, e]
    simpa using hu
theorem flat1_cells (l : List Int) : ∀ u ∈ flat1 l, u.oneCell' = true := by
  intro u hu
  obtain ⟨x, _, rfl⟩ := List.mem_map.1 hu
  rfl
set_option maxRecDepth 100000 in
set_option maxHeartbeats 4000000 in
theorem prop_l (W : World) (s : ByteArray) (hs : s.toList = [76]) : Calls Tryz.prog 113 #[.string s] W (LookPost Cl.propT s.toList W) := by
  obtain ⟨i0, hi0, hz0, hz1, hz2⟩ := info_parts Tryz.infoInt
  have HL : Hid (Cl.look Cl.propT s.toList = some (Cl.capitals ++ Cl.small ++ Cl.latin ++ Cl.greek ++ Cl.cyrillic)) := Lib.hid (by rw [hs]; rfl)
  have t1 : (s.toList == [65, 110, 121]) = false := by rw [hs]; decide
  have t2 : (s.toList == [67, 121, 114, 105, 108, 108, 105, 99]) = false := by rw [hs]; decide
  have t3 : (s.toList == [71, 114, 101, 101, 107]) = false := by rw [hs]; decide
  have t4 : (s.toList == [76]) = true := by rw [hs]; decide
  clear hs
  go_enter Tryz.func113, Tryz.ntmps113
  go_wp2_with fail
  refine (capitals_any _).mono ?_
  rintro e w1 ⟨v1, rfl, ho, hb⟩
  have O1 := Lib.hid ho
  have D1 := Lib.hid hb
  clear ho hb
  go_wp2_with fail
  refine (small_any _).mono ?_
  rintro e x1 ⟨vt, rfl, ho, hb⟩
  have hown : World.ownsRow x1 W.heap.size 3 1 v1 14 (flat1 (Cl.capitals)) := O1.out.below hb
  have hd := D1.out.trans (hb.mono D1.out.size)
  have hsz := hd.size
  obtain ⟨b, c, rfl, hnews⟩ := row_news ho.row (show Cl.small.length = 14 from rfl) (by decide)
  clear ho hb O1 D1
  go_wp2_with (at_builtin; (refine wpList_append_own _ (by rfl) _ _ 62 (by rfl) W.heap.size 3 i0 (.int .i64 0) 1 8 Tryz.underlying62 hi0 hz0 hz1 hz2 rfl (by decide) _ 14 (flat1 (Cl.capitals)) (by rfl) hown ⟨b, 0, none⟩ 14 c (flat1 Cl.small) (by rfl) (by rfl) hnews (flat1_cells _) (by unfold maxLen; omega) (by omega) hsz ?_))
  intro v2 w2 hown1 hgrow _
  have O2 : Hid (IOwn w2 W.heap.size v2 (Cl.capitals ++ Cl.small)) := Lib.hid (by unfold IOwn; rw [show flat1 (Cl.capitals ++ Cl.small) = flat1 (Cl.capitals) ++ flat1 Cl.small from List.map_append]; exact hown1)
  have D2 := Lib.hid (hd.grown hgrow hsz (fun q hq => (hown.lt q hq).1))
  clear hown hd hsz hnews hown1 hgrow
  go_wp2_with fail
  refine (latin_any _).mono ?_
  rintro e x2 ⟨vt, rfl, ho, hb⟩
  have hown : World.ownsRow x2 W.heap.size 3 1 v2 28 (flat1 (Cl.capitals ++ Cl.small)) := O2.out.below hb
  have hd := D2.out.trans (hb.mono D2.out.size)
  have hsz := hd.size
  obtain ⟨b, c, rfl, hnews⟩ := row_news ho.row (show Cl.latin.length = 14 from rfl) (by decide)
  clear ho hb O2 D2
  go_wp2_with (at_builtin; (refine wpList_append_own _ (by rfl) _ _ 62 (by rfl) W.heap.size 3 i0 (.int .i64 0) 1 8 Tryz.underlying62 hi0 hz0 hz1 hz2 rfl (by decide) _ 28 (flat1 (Cl.capitals ++ Cl.small)) (by rfl) hown ⟨b, 0, none⟩ 14 c (flat1 Cl.latin) (by rfl) (by rfl) hnews (flat1_cells _) (by unfold maxLen; omega) (by omega) hsz ?_))
  intro v3 w3 hown1 hgrow _
  have O3 : Hid (IOwn w3 W.heap.size v3 (Cl.capitals ++ Cl.small ++ Cl.latin)) := Lib.hid (by unfold IOwn; rw [show flat1 (Cl.capitals ++ Cl.small ++ Cl.latin) = flat1 (Cl.capitals ++ Cl.small) ++ flat1 Cl.latin from List.map_append]; exact hown1)
  have D3 := Lib.hid (hd.grown hgrow hsz (fun q hq => (hown.lt q hq).1))
  clear hown hd hsz hnews hown1 hgrow
  go_wp2_with fail
  refine (greek_any _).mono ?_
  rintro e x3 ⟨vt, rfl, ho, hb⟩
  have hown : World.ownsRow x3 W.heap.size 3 1 v3 42 (flat1 (Cl.capitals ++ Cl.small ++ Cl.latin)) := O3.out.below hb
  have hd := D3.out.trans (hb.mono D3.out.size)
  have hsz := hd.size
  obtain ⟨b, c, rfl, hnews⟩ := row_news ho.row (show Cl.greek.length = 24 from rfl) (by decide)
  clear ho hb O3 D3
  go_wp2_with (at_builtin; (refine wpList_append_own _ (by rfl) _ _ 62 (by rfl) W.heap.size 3 i0 (.int .i64 0) 1 8 Tryz.underlying62 hi0 hz0 hz1 hz2 rfl (by decide) _ 42 (flat1 (Cl.capitals ++ Cl.small ++ Cl.latin)) (by rfl) hown ⟨b, 0, none⟩ 24 c (flat1 Cl.greek) (by rfl) (by rfl) hnews (flat1_cells _) (by unfold maxLen; omega) (by omega) hsz ?_))
  intro v4 w4 hown1 hgrow _
  have O4 : Hid (IOwn w4 W.heap.size v4 (Cl.capitals ++ Cl.small ++ Cl.latin ++ Cl.greek)) := Lib.hid (by unfold IOwn; rw [show flat1 (Cl.capitals ++ Cl.small ++ Cl.latin ++ Cl.greek) = flat1 (Cl.capitals ++ Cl.small ++ Cl.latin) ++ flat1 Cl.greek from List.map_append]; exact hown1)
  have D4 := Lib.hid (hd.grown hgrow hsz (fun q hq => (hown.lt q hq).1))
  clear hown hd hsz hnews hown1 hgrow
  go_wp2_with fail
  refine (cyrillic_any _).mono ?_
  rintro e x4 ⟨vt, rfl, ho, hb⟩
  have hown : World.ownsRow x4 W.heap.size 3 1 v4 66 (flat1 (Cl.capitals ++ Cl.small ++ Cl.latin ++ Cl.greek)) := O4.out.below hb
  have hd := D4.out.trans (hb.mono D4.out.size)
  have hsz := hd.size
  obtain ⟨b, c, rfl, hnews⟩ := row_news ho.row (show Cl.cyrillic.length = 4 from rfl) (by decide)
  clear ho hb O4 D4
  go_wp2_with (at_builtin; (refine wpList_append_own _ (by rfl) _ _ 62 (by rfl) W.heap.size 3 i0 (.int .i64 0) 1 8 Tryz.underlying62 hi0 hz0 hz1 hz2 rfl (by decide) _ 66 (flat1 (Cl.capitals ++ Cl.small ++ Cl.latin ++ Cl.greek)) (by rfl) hown ⟨b, 0, none⟩ 4 c (flat1 Cl.cyrillic) (by rfl) (by rfl) hnews (flat1_cells _) (by unfold maxLen; omega) (by omega) hsz ?_))
  intro v5 w5 hown1 hgrow _
  have O5 : Hid (IOwn w5 W.heap.size v5 (Cl.capitals ++ Cl.small ++ Cl.latin ++ Cl.greek ++ Cl.cyrillic)) := Lib.hid (by unfold IOwn; rw [show flat1 (Cl.capitals ++ Cl.small ++ Cl.latin ++ Cl.greek ++ Cl.cyrillic) = flat1 (Cl.capitals ++ Cl.small ++ Cl.latin ++ Cl.greek) ++ flat1 Cl.cyrillic from List.map_append]; exact hown1)
  have D5 := Lib.hid (hd.grown hgrow hsz (fun q hq => (hown.lt q hq).1))
  clear hown hd hsz hnews hown1 hgrow
  go_wp2
  go_ret2
  exact ⟨_, some _, HL.out, rfl, O5.out.row, D5.out⟩
set_option maxRecDepth 100000 in
set_option maxHeartbeats 4000000 in
theorem prop_any (W : World) (s : ByteArray) : Calls Tryz.prog 113 #[.string s] W (LookPost Cl.propT s.toList W) := by
  by_cases hL : (s.toList == [76]) = true
  · exact prop_l W s (by simpa using hL)
  · have hL := Bool.eq_false_iff.2 hL
    go_enter Tryz.func113, Tryz.ntmps113
    go_wp2_with (first
      | (go_at_call 152; refine (capitals_any _).mono ?_; rintro e wc ⟨vc, rfl, ho, hb⟩)
      | (go_at_call 153; refine (small_any _).mono ?_; rintro e ws ⟨vs, rfl, ho, hb⟩)
      | (go_at_call 154; refine (latin_any _).mono ?_; rintro e wl ⟨vl, rfl, ho, hb⟩)
      | (go_at_call 151; refine (greek_any _).mono ?_; rintro e wg ⟨vg, rfl, ho, hb⟩)
      | (go_at_call 150; refine (cyrillic_any _).mono ?_; rintro e wy ⟨vy, rfl, ho, hb⟩))
    · go_ret2
      exact ⟨_, some [0, 1114111], (by unfold Cl.propT; repeat (first | exact Cl.look_hit (by assumption) | refine Eq.trans (Cl.look_miss (by assumption)) ?_ | rfl)), rfl, (own_lits W [0, 1114111] 2 _ rfl rfl (by decide)).row, (Below.refl _ _).alloc (Nat.le_refl _) _⟩
    · go_ret2
      exact ⟨_, some Cl.cyrillic, (by unfold Cl.propT; repeat (first | exact Cl.look_hit (by assumption) | refine Eq.trans (Cl.look_miss (by assumption)) ?_ | rfl)), rfl, ho.row, hb⟩
    · go_ret2
      exact ⟨_, some Cl.greek, (by unfold Cl.propT; repeat (first | exact Cl.look_hit (by assumption) | refine Eq.trans (Cl.look_miss (by assumption)) ?_ | rfl)), rfl, ho.row, hb⟩
    · go_ret2
      exact ⟨_, some Cl.latin, (by unfold Cl.propT; repeat (first | exact Cl.look_hit (by assumption) | refine Eq.trans (Cl.look_miss (by assumption)) ?_ | rfl)), rfl, ho.row, hb⟩
    · go_ret2
      exact ⟨_, some Cl.small, (by unfold Cl.propT; repeat (first | exact Cl.look_hit (by assumption) | refine Eq.trans (Cl.look_miss (by assumption)) ?_ | rfl)), rfl, ho.row, hb⟩
    · go_ret2
      exact ⟨_, some Cl.capitals, (by unfold Cl.propT; repeat (first | exact Cl.look_hit (by assumption) | refine Eq.trans (Cl.look_miss (by assumption)) ?_ | rfl)), rfl, ho.row, hb⟩
    · go_ret2
      exact ⟨_, some [48, 57, 1632, 1641, 1776, 1785, 2406, 2415], (by unfold Cl.propT; repeat (first | exact Cl.look_hit (by assumption) | refine Eq.trans (Cl.look_miss (by assumption)) ?_ | rfl)), rfl, (own_lits W [48, 57, 1632, 1641, 1776, 1785, 2406, 2415] 8 _ rfl rfl (by decide)).row, (Below.refl _ _).alloc (Nat.le_refl _) _⟩
    · go_ret2
      exact ⟨_, none, (by unfold Cl.propT; repeat (first | exact Cl.look_hit (by assumption) | refine Eq.trans (Cl.look_miss (by assumption)) ?_ | rfl)), rfl, irow_nil _, Below.refl _ _⟩
end Go.Proofs.YtmdpchiiamgnnaaGreatDoor
namespace Go.Proofs.YtmdpchiiamgnnaaGreatDoor
open Go.RowKit
set_option linter.unusedVariables false
namespace Cl
theorem bare_yes (s : ByteArray) (h0 : 0 < s.size) (h : ((s[0].toNat : Int) == 94) = true) : Cl.bare s.toList = ((s.extract 1 s.size).toList, true) := by
  have hs : s[0] = 94 := by
    have : s[0].toNat = 94 := by have := eq_of_beq h; omega
    exact UInt8.toNat_inj.1 this
  have e : s.toList = 94 :: (s.extract 1 s.size).toList := by
    rw [ByteArray.toList_eq, ByteArray.toList_eq, ByteArray.data_extract, Array.toList_extract]
    have hl : 0 < s.data.toList.length := by simpa using h0
    have h1 : s.data.toList[0]'hl = 94 := hs
    have h2 := List.drop_eq_getElem_cons hl
    rw [List.drop_zero, h1] at h2
    have h3 : s.data.toList.extract 1 s.size = s.data.toList.drop 1 := by
      rw [List.extract_eq_take_drop]
      exact List.take_of_length_le (by simp)
    rw [h3]; exact h2
  rw [e]; rfl
theorem bare_no (s : ByteArray) (h : ∀ h0 : 0 < s.size, ((s[0].toNat : Int) == 94) = false) : Cl.bare s.toList = (s.toList, false) := by
  unfold Cl.bare
  split
  · rename_i t he
    exfalso
    have hl : 0 < s.size := by
      have : s.toList.length = s.size := by rw [ByteArray.toList_eq]; simp
      rw [← this, he]; simp
    have h1 := h hl
    have h2 : s[0] = 94 := by
      have e2 : s.data.toList = 94 :: t := by rw [← ByteArray.toList_eq]; exact he
      have h3 : s.data.toList[0]'(by rw [e2]; simp) = 94 := by simp [e2]
      exact h3
    rw [h2] at h1
    exact absurd h1 (by decide)
  · rfl
end Cl
set_option maxRecDepth 100000 in
set_option maxHeartbeats 2000000 in
theorem bare_any (W : World) (s : ByteArray) (hm : s.size ≤ 9223372036854775807) : Calls Tryz.prog 80 #[.string s] W fun e w' => ∃ t : ByteArray, e = .returned (.tuple #[.string t, .bool (Cl.bare s.toList).2]) ∧ t.toList = (Cl.bare s.toList).1 ∧ t.size ≤ 9223372036854775807 ∧ W = w' := by
  by_cases h0 : 0 < s.size
  · have h1 : (0 : Int) < (s.size : Int) := by omega
    have h2 : (1 : Int) ≤ (s.size : Int) := by omega
    have hy := Lib.hid (Cl.bare_yes s h0)
    have hn := Lib.hid (fun (h : ((s[0].toNat : Int) == 94) = false) => Cl.bare_no s (fun _ => h))
    go_enter Tryz.func80, Tryz.ntmps80
    go_wp2
    · have e := hy.out (by assumption)
      go_ret2
      rw [e]
      exact ⟨s.extract 1 s.size, rfl, rfl, by rw [ByteArray.size_extract]; omega, rfl⟩
    · have e := hn.out (by assumption)
      go_ret2
      rw [e]
      exact ⟨s, rfl, rfl, hm, rfl⟩
  · have h1 : ¬ (0 : Int) < (s.size : Int) := by omega
    have e := Lib.hid (Cl.bare_no s (fun h => absurd h h0))
    go_enter Tryz.func80, Tryz.ntmps80
    go_wp2
    go_ret2
    rw [e.out]
    exact ⟨s, rfl, rfl, hm, rfl⟩
end Go.Proofs.YtmdpchiiamgnnaaGreatDoor
