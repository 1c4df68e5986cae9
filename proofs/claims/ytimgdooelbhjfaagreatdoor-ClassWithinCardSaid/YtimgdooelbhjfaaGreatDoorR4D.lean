/- The reference's class (burinref04): the property. -/
import Derived.Test.YtimgdooelbhjfaaGreatDoorR4C
import Derived.Laws.MakeOwn
import Derived.Laws.OwnMore
namespace Go.Proofs.YtimgdooelbhjfaaGreatDoor
open Go.RowKit
set_option linter.unusedVariables false
theorem row_news {W : World} {v : Value} {T : List Int} {m : Nat} (h : IRow W v T) (hm : T.length = m) (hp : 0 < m) :
    ∃ b c, v = .slice (some ⟨b, 0, none⟩) m c ∧ ∀ j u, (flat1 T)[j]? = some u → W.cell? ((⟨b, 0, none⟩ : Addr).add j) = some u := by
  subst hm
  obtain ⟨a, cap, rfl, h1, h2, hc⟩ := h
  obtain ⟨b, rfl, _, _⟩ := hc 0 hp
  refine ⟨b, cap, rfl, fun j u hu => ?_⟩
  have hadd : (⟨b, 0, none⟩ : Addr).add j = ⟨b, j, none⟩ := by unfold Addr.add; split <;> simp_all
  rw [hadd]
  simp only [flat1, List.getElem?_map] at hu
  cases e : T[j]? with
  | none => rw [e] at hu; cases hu
  | some x =>
    rw [e] at hu
    have hlt := (List.getElem?_eq_some_iff.1 e).1
    obtain ⟨b', eb, _, h3⟩ := hc j hlt
    injection eb with eb; injection eb with eb; subst eb
    rw [h3, e]
    simpa using hu
theorem flat1_cells (l : List Int) : ∀ u ∈ flat1 l, u.oneCell' = true := by
  intro u hu
  obtain ⟨x, _, rfl⟩ := List.mem_map.1 hu
  rfl
set_option maxRecDepth 100000 in
set_option maxHeartbeats 4000000 in
theorem prop_l (W : World) (s : ByteArray) (hs : s.toList = [76]) : Calls Tryz.prog 34 #[.string s] W (LookPost Cl.propT s.toList W) := by
  obtain ⟨i0, hi0, hz0, hz1, hz2⟩ := info_parts Tryz.infoInt
  have HL : Hid (Cl.look Cl.propT s.toList = some (Cl.capitals ++ Cl.small ++ Cl.latin ++ Cl.greek ++ Cl.cyrillic)) := Lib.hid (by rw [hs]; rfl)
  have t1 : (s.toList == [65, 110, 121]) = false := by rw [hs]; decide
  have t2 : (s.toList == [67, 121, 114, 105, 108, 108, 105, 99]) = false := by rw [hs]; decide
  have t3 : (s.toList == [71, 114, 101, 101, 107]) = false := by rw [hs]; decide
  have t4 : (s.toList == [76]) = true := by rw [hs]; decide
  clear hs
  go_enter Tryz.func34, Tryz.ntmps34
  go_wp2_with fail
  refine (capitals_any _).mono ?_
  rintro e w1 ⟨v1, rfl, ho, hb⟩
  have O1 := Lib.hid ho
  have D1 := Lib.hid hb
  clear ho hb
  go_wp2_with fail
  refine (small_any _).mono ?_
  rintro e x1 ⟨vt, rfl, ho, hb⟩
  have hown : World.ownsRow x1 W.heap.size 3 1 v1 14 (flat1 (Cl.capitals)) := O1.out.below hb
  have hd := D1.out.trans (hb.mono D1.out.size)
  have hsz := hd.size
  obtain ⟨b, c, rfl, hnews⟩ := row_news ho.row (show Cl.small.length = 14 from rfl) (by decide)
  clear ho hb O1 D1
  go_wp2_with (at_builtin; (refine wpList_append_own _ (by rfl) _ _ 46 (by rfl) W.heap.size 3 i0 (.int .i64 0) 1 8 Tryz.underlying46 hi0 hz0 hz1 hz2 rfl (by decide) _ 14 (flat1 (Cl.capitals)) (by rfl) hown ⟨b, 0, none⟩ 14 c (flat1 Cl.small) (by rfl) (by rfl) hnews (flat1_cells _) (by unfold maxLen; omega) (by omega) hsz ?_))
  intro v2 w2 hown1 hgrow _
  have O2 : Hid (IOwn w2 W.heap.size v2 (Cl.capitals ++ Cl.small)) := Lib.hid (by unfold IOwn; rw [show flat1 (Cl.capitals ++ Cl.small) = flat1 (Cl.capitals) ++ flat1 Cl.small from List.map_append]; exact hown1)
  have D2 := Lib.hid (hd.grown hgrow hsz (fun q hq => (hown.lt q hq).1))
  clear hown hd hsz hnews hown1 hgrow
  go_wp2_with fail
  refine (latin_any _).mono ?_
  rintro e x2 ⟨vt, rfl, ho, hb⟩
  have hown : World.ownsRow x2 W.heap.size 3 1 v2 28 (flat1 (Cl.capitals ++ Cl.small)) := O2.out.below hb
  have hd := D2.out.trans (hb.mono D2.out.size)
  have hsz := hd.size
  obtain ⟨b, c, rfl, hnews⟩ := row_news ho.row (show Cl.latin.length = 14 from rfl) (by decide)
  clear ho hb O2 D2
  go_wp2_with (at_builtin; (refine wpList_append_own _ (by rfl) _ _ 46 (by rfl) W.heap.size 3 i0 (.int .i64 0) 1 8 Tryz.underlying46 hi0 hz0 hz1 hz2 rfl (by decide) _ 28 (flat1 (Cl.capitals ++ Cl.small)) (by rfl) hown ⟨b, 0, none⟩ 14 c (flat1 Cl.latin) (by rfl) (by rfl) hnews (flat1_cells _) (by unfold maxLen; omega) (by omega) hsz ?_))
  intro v3 w3 hown1 hgrow _
  have O3 : Hid (IOwn w3 W.heap.size v3 (Cl.capitals ++ Cl.small ++ Cl.latin)) := Lib.hid (by unfold IOwn; rw [show flat1 (Cl.capitals ++ Cl.small ++ Cl.latin) = flat1 (Cl.capitals ++ Cl.small) ++ flat1 Cl.latin from List.map_append]; exact hown1)
  have D3 := Lib.hid (hd.grown hgrow hsz (fun q hq => (hown.lt q hq).1))
  clear hown hd hsz hnews hown1 hgrow
  go_wp2_with fail
  refine (greek_any _).mono ?_
  rintro e x3 ⟨vt, rfl, ho, hb⟩
  have hown : World.ownsRow x3 W.heap.size 3 1 v3 42 (flat1 (Cl.capitals ++ Cl.small ++ Cl.latin)) := O3.out.below hb
  have hd := D3.out.trans (hb.mono D3.out.size)
  have hsz := hd.size
  obtain ⟨b, c, rfl, hnews⟩ := row_news ho.row (show Cl.greek.length = 24 from rfl) (by decide)
  clear ho hb O3 D3
  go_wp2_with (at_builtin; (refine wpList_append_own _ (by rfl) _ _ 46 (by rfl) W.heap.size 3 i0 (.int .i64 0) 1 8 Tryz.underlying46 hi0 hz0 hz1 hz2 rfl (by decide) _ 42 (flat1 (Cl.capitals ++ Cl.small ++ Cl.latin)) (by rfl) hown ⟨b, 0, none⟩ 24 c (flat1 Cl.greek) (by rfl) (by rfl) hnews (flat1_cells _) (by unfold maxLen; omega) (by omega) hsz ?_))
  intro v4 w4 hown1 hgrow _
  have O4 : Hid (IOwn w4 W.heap.size v4 (Cl.capitals ++ Cl.small ++ Cl.latin ++ Cl.greek)) := Lib.hid (by unfold IOwn; rw [show flat1 (Cl.capitals ++ Cl.small ++ Cl.latin ++ Cl.greek) = flat1 (Cl.capitals ++ Cl.small ++ Cl.latin) ++ flat1 Cl.greek from List.map_append]; exact hown1)
  have D4 := Lib.hid (hd.grown hgrow hsz (fun q hq => (hown.lt q hq).1))
  clear hown hd hsz hnews hown1 hgrow
  go_wp2_with fail
  refine (cyrillic_any _).mono ?_
  rintro e x4 ⟨vt, rfl, ho, hb⟩
  have hown : World.ownsRow x4 W.heap.size 3 1 v4 66 (flat1 (Cl.capitals ++ Cl.small ++ Cl.latin ++ Cl.greek)) := O4.out.below hb
  have hd := D4.out.trans (hb.mono D4.out.size)
  have hsz := hd.size
  obtain ⟨b, c, rfl, hnews⟩ := row_news ho.row (show Cl.cyrillic.length = 4 from rfl) (by decide)
  clear ho hb O4 D4
  go_wp2_with (at_builtin; (refine wpList_append_own _ (by rfl) _ _ 46 (by rfl) W.heap.size 3 i0 (.int .i64 0) 1 8 Tryz.underlying46 hi0 hz0 hz1 hz2 rfl (by decide) _ 66 (flat1 (Cl.capitals ++ Cl.small ++ Cl.latin ++ Cl.greek)) (by rfl) hown ⟨b, 0, none⟩ 4 c (flat1 Cl.cyrillic) (by rfl) (by rfl) hnews (flat1_cells _) (by unfold maxLen; omega) (by omega) hsz ?_))
  intro v5 w5 hown1 hgrow _
  have O5 : Hid (IOwn w5 W.heap.size v5 (Cl.capitals ++ Cl.small ++ Cl.latin ++ Cl.greek ++ Cl.cyrillic)) := Lib.hid (by unfold IOwn; rw [show flat1 (Cl.capitals ++ Cl.small ++ Cl.latin ++ Cl.greek ++ Cl.cyrillic) = flat1 (Cl.capitals ++ Cl.small ++ Cl.latin ++ Cl.greek) ++ flat1 Cl.cyrillic from List.map_append]; exact hown1)
  have D5 := Lib.hid (hd.grown hgrow hsz (fun q hq => (hown.lt q hq).1))
  clear hown hd hsz hnews hown1 hgrow
  go_wp2
  go_ret2
  exact ⟨_, some _, HL.out, rfl, O5.out.row, D5.out⟩
set_option maxRecDepth 100000 in
set_option maxHeartbeats 4000000 in
theorem prop_any (W : World) (s : ByteArray) : Calls Tryz.prog 34 #[.string s] W (LookPost Cl.propT s.toList W) := by
  by_cases hL : (s.toList == [76]) = true
  · exact prop_l W s (by simpa using hL)
  · have hL := Bool.eq_false_iff.2 hL
    go_enter Tryz.func34, Tryz.ntmps34
    go_wp2_with (first
      | (go_at_call 53; refine (capitals_any _).mono ?_; rintro e wc ⟨vc, rfl, ho, hb⟩)
      | (go_at_call 54; refine (small_any _).mono ?_; rintro e ws ⟨vs, rfl, ho, hb⟩)
      | (go_at_call 55; refine (latin_any _).mono ?_; rintro e wl ⟨vl, rfl, ho, hb⟩)
      | (go_at_call 52; refine (greek_any _).mono ?_; rintro e wg ⟨vg, rfl, ho, hb⟩)
      | (go_at_call 51; refine (cyrillic_any _).mono ?_; rintro e wy ⟨vy, rfl, ho, hb⟩))
    · go_ret2
      exact ⟨_, some [0, 1114111], (by unfold Cl.propT; repeat (first | exact Cl.look_hit (by assumption) | refine Eq.trans (Cl.look_miss (by assumption)) ?_ | rfl)), rfl, (own_lits W [0, 1114111] 2 _ rfl rfl (by decide)).row, (Below.refl _ _).alloc (Nat.le_refl _) _⟩
    · go_ret2
      exact ⟨_, some Cl.cyrillic, (by unfold Cl.propT; repeat (first | exact Cl.look_hit (by assumption) | refine Eq.trans (Cl.look_miss (by assumption)) ?_ | rfl)), rfl, ho.row, hb⟩
    · go_ret2
      exact ⟨_, some Cl.greek, (by unfold Cl.propT; repeat (first | exact Cl.look_hit (by assumption) | refine Eq.trans (Cl.look_miss (by assumption)) ?_ | rfl)), rfl, ho.row, hb⟩
    · go_ret2
      exact ⟨_, some Cl.latin, (by unfold Cl.propT; repeat (first | exact Cl.look_hit (by assumption) | refine Eq.trans (Cl.look_miss (by assumption)) ?_ | rfl)), rfl, ho.row, hb⟩
    · go_ret2
      exact ⟨_, some Cl.small, (by unfold Cl.propT; repeat (first | exact Cl.look_hit (by assumption) | refine Eq.trans (Cl.look_miss (by assumption)) ?_ | rfl)), rfl, ho.row, hb⟩
    · go_ret2
      exact ⟨_, some Cl.capitals, (by unfold Cl.propT; repeat (first | exact Cl.look_hit (by assumption) | refine Eq.trans (Cl.look_miss (by assumption)) ?_ | rfl)), rfl, ho.row, hb⟩
    · go_ret2
      exact ⟨_, some [48, 57, 1632, 1641, 1776, 1785, 2406, 2415], (by unfold Cl.propT; repeat (first | exact Cl.look_hit (by assumption) | refine Eq.trans (Cl.look_miss (by assumption)) ?_ | rfl)), rfl, (own_lits W [48, 57, 1632, 1641, 1776, 1785, 2406, 2415] 8 _ rfl rfl (by decide)).row, (Below.refl _ _).alloc (Nat.le_refl _) _⟩
    · go_ret2
      exact ⟨_, none, (by unfold Cl.propT; repeat (first | exact Cl.look_hit (by assumption) | refine Eq.trans (Cl.look_miss (by assumption)) ?_ | rfl)), rfl, irow_nil _, Below.refl _ _⟩
end Go.Proofs.YtimgdooelbhjfaaGreatDoor
