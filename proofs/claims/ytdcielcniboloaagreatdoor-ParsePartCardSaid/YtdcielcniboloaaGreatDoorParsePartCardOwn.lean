/- burinlaw09.ParsePart, walked. -/
import Derived.Test.YtdcielcniboloaaGreatDoorGp39
import Derived.Test.YtdcielcniboloaaGreatDoorGp44
import Derived.Test.YtdcielcniboloaaGreatDoorGp43
import Derived.Test.YtdcielcniboloaaGreatDoorGp26
import Derived.Test.YtdcielcniboloaaGreatDoorGp40
namespace Go.Proofs.YtdcielcniboloaaGreatDoor
open Go.RowKit
open Lx (Tk TR LR)
open Ps (TL)
set_option linter.unusedVariables false
theorem part_text (s : ByteArray) : ((⟨#[40, 63, 58]⟩ : ByteArray) ++ s) ++ (⟨#[41]⟩ : ByteArray) = Ps.partB s := by
  unfold Ps.partB
  rw [ByteArray.append_assoc]
  rfl
theorem alt_text (s t : ByteArray) : (((((⟨#[40, 63, 58]⟩ : ByteArray) ++ s) ++ (⟨#[41, 124, 40, 63, 58]⟩ : ByteArray)) ++ t) ++ (⟨#[41]⟩ : ByteArray)) = Ps.partB s ++ (Ps.barB ++ Ps.partB t) := by
  apply Br.nums_inj'
  unfold Ps.partB
  simp only [Br.nums_append', List.append_assoc]
  rfl
theorem rep_text (s : ByteArray) : ((⟨#[40, 63, 58]⟩ : ByteArray) ++ s) ++ (⟨#[41, 123, 50, 44, 51, 125]⟩ : ByteArray) = Ps.partB s ++ Ps.timesB := by
  apply Br.nums_inj'
  unfold Ps.partB
  simp only [Br.nums_append', List.append_assoc]
  rfl
set_option maxRecDepth 100000 in
set_option maxHeartbeats 8000000 in
theorem closed_any (W : World) (s : ByteArray) (hs : s.size ≤ 100) (hE : Ev W) : Calls Tryz.prog 18 #[.string s] W fun e w' => ∃ b : Bool, e = .returned (.bool b) ∧ (b = true → Ps.ClosedX s) ∧ Below W.heap.size W w' := by
  have HL := Lib.hid (fun w (hw : Ev w) => lex_any w (Ps.partB s) (by rw [Ps.part_size]; omega) hw)
  have hop := Lx.lex_open (s ++ Lx.closeB)
  have hbad : ∀ o c, Lx.lexR (Ps.partB s) 0 false [] = .bad o c → c ≠ 0 := fun o c h => (Lx.lexF_bad (Ps.partB s) ((Ps.partB s).size + 2) 0 false [] o c (by omega) h).2.2
  have hone : ∀ T, Lx.lexR (Ps.partB s) 0 false [] = .ok T → ∃ M, T.length = M + 1 := fun T h => by
    have e : Lx.lexR (Ps.partB s) 0 false [] = Lx.behind 3 [(0, Lx.openT)] (Lx.lexR (s ++ Lx.closeB) 0 false []) := hop
    rw [h] at e
    cases hR : Lx.lexR (s ++ Lx.closeB) 0 false [] with
    | bad o c => rw [hR] at e; cases e
    | ok B =>
      rw [hR] at e
      have e1 : T = [((0 : Int), Lx.openT)] ++ shift ((3 : Nat) : Int) B := LR.ok.inj e
      rw [e1]
      exact ⟨(shift ((3 : Nat) : Int) B).length, by rw [List.length_append]; simp; omega⟩
  have HBAD := Lib.hid hbad
  have HONE := Lib.hid hone
  have HE := Lib.hid hE
  have hno1 : ¬ 9223372036854775807 < 3 + s.size := by omega
  have hno2 : ¬ 9223372036854775807 < 3 + s.size + 1 := by omega
  have hno3 : ¬ 9223372036854775807 < ((⟨#[40, 63, 58]⟩ : ByteArray) ++ s).size + 1 := by rw [ByteArray.size_append]; show ¬ 9223372036854775807 < 3 + s.size + 1; omega
  have hws : IntKind.i64.wrap ((s.size : Int) + 3) = (s.size : Int) + 3 := by rw [IntKind.wrap_i64]; omega
  have HT := Lib.hid (part_text s)
  clear hop hbad hone hE
  go_enter Tryz.func18, Tryz.ntmps18
  go_wp2_with fail
  rw [HT.out]
  refine (HL.out W HE.out).mono ?_
  rintro e w1 ⟨hb1, ⟨o, c, h, rfl⟩ | ⟨T, v, h, rfl, ht, hTl⟩⟩
  · have hc : (c == 0) = false := by simpa using HBAD.out o c h
    have HB := Lib.hid hb1
    clear h hb1
    go_wp2
    go_ret
    exact ⟨false, rfl, (fun h => by cases h), HB.out⟩
  · obtain ⟨M, hM⟩ := HONE.out T h
    obtain ⟨g, cap, e, hx0, hg1, hat⟩ := ht.at (by omega)
    rw [hM] at e
    subst e
    obtain ⟨vs, ⟨out, hx1, ⟨va, vcap, e9, hx2⟩, hx3⟩, h9⟩ := hat M (by omega)
    subst e9
    have hlast : T.getLast? = some T[M] := by
      rw [List.getLast?_eq_getElem?, show T.length - 1 = M by omega, List.getElem?_eq_getElem (by omega)]
    obtain ⟨p, hp⟩ : ∃ p, T[M] = p := ⟨_, rfl⟩
    rw [hp] at h9 hlast
    obtain ⟨pa, pt⟩ := p
    have q0 : w1.cell? ⟨g, M * 8, none⟩ = some (.int .i64 pt.kind) := h9 0 (by omega)
    have q1 : w1.cell? ⟨g, M * 8 + 1, none⟩ = some (.int .i64 pa) := h9 1 (by omega)
    have hw : IntKind.i64.wrap (((M + 1 : Nat) : Int) - 1) = (M : Int) := by rw [IntKind.wrap_i64]; omega
    have hMl : M ≤ 1000000 := by omega
    have HB := Lib.hid hb1
    have HR := Lib.hid h
    have HLA := Lib.hid hlast
    by_cases k11 : pt.kind = 11
    · have k1 : (pt.kind == 11) = true := by simpa using k11
      by_cases ka : pa = (s.size : Int) + 3
      · have k2 : (pa == (s.size : Int) + 3) = true := by simpa using ka
        have HC : Hid (Ps.ClosedX s) := Lib.hid ⟨T, pt, h, by rw [hlast, ka], k11⟩
        clear h hb1 hlast h9 hp hat ht hx1 hx2 hx3 hTl k11 ka
        go_wp2
        go_ret
        exact ⟨true, rfl, fun _ => HC.out, HB.out⟩
      · have k2 : (pa == (s.size : Int) + 3) = false := by simpa using ka
        clear h hb1 hlast h9 hp hat ht hx1 hx2 hx3 hTl k11 ka
        go_wp2
        go_ret
        exact ⟨false, rfl, (fun h => by cases h), HB.out⟩
    · have k1 : (pt.kind == 11) = false := by simpa using k11
      clear h hb1 hlast h9 hp hat ht hx1 hx2 hx3 hTl k11
      go_wp2
      go_ret
      exact ⟨false, rfl, (fun h => by cases h), HB.out⟩
set_option maxRecDepth 100000 in
set_option maxHeartbeats 16000000 in
theorem walkParsePart (W : World) (s t : ByteArray) (f : Int) (hs : s.size ≤ 140737488351232) (ht : t.size ≤ 140737488351232) (hfw : (Lit.int .i64 f).wf = true) (hE : Ev W) : Calls Tryz.prog 5 #[.string s, .string t, .int .i64 f] W fun e w' => e = .returned (.bool true) ∧ Below W.heap.size W w' := by
  have HE := Lib.hid hE
  clear hE
  by_cases h1 : 100 < s.size
  · have h1i : (100 : Int) < (s.size : Int) := by omega
    have h1b : decide ((100 : Int) < (s.size : Int)) = true := decide_eq_true h1i
    go_enter Tryz.func5, Tryz.ntmps5
    go_wp2_with fail
    refine (works9_any _ HE.out).mono ?_
    rintro e w1 ⟨rfl, hb⟩
    have HB := Lib.hid hb
    clear hb
    go_wp2
    go_ret
    exact ⟨rfl, HB.out⟩
  have h1i : ¬ (100 : Int) < (s.size : Int) := by omega
  have h1b : decide ((100 : Int) < (s.size : Int)) = false := decide_eq_false h1i
  by_cases h2 : 100 < t.size
  · have h2i : (100 : Int) < (t.size : Int) := by omega
    have h2b : decide ((100 : Int) < (t.size : Int)) = true := decide_eq_true h2i
    go_enter Tryz.func5, Tryz.ntmps5
    go_wp2_with fail
    refine (works9_any _ HE.out).mono ?_
    rintro e w1 ⟨rfl, hb⟩
    have HB := Lib.hid hb
    clear hb
    go_wp2
    go_ret
    exact ⟨rfl, HB.out⟩
  have h2i : ¬ (100 : Int) < (t.size : Int) := by omega
  have h2b : decide ((100 : Int) < (t.size : Int)) = false := decide_eq_false h2i
  have hsz : s.size ≤ 100 := by omega
  have htz : t.size ≤ 100 := by omega
  have HCS := Lib.hid (fun w (hw : Ev w) => closed_any w s hsz hw)
  have HCT := Lib.hid (fun w (hw : Ev w) => closed_any w t htz hw)
  have HP1 := Lib.hid (fun w (hw : Ev w) => parse_any w s (by omega) f hw)
  have HP2 := Lib.hid (fun w (hw : Ev w) => parse_any w t (by omega) f hw)
  have HRX := Lib.hid (parse_right s f (by omega))
  have HRY := Lib.hid (parse_right t f (by omega))
  have HTX : Hid (∀ x a c, parseF s f = (some x, a, c) → ∃ T g, Ps.TreeOf s f x T g) := Lib.hid (fun x a c h => Ps.tree_of (by omega) h)
  have HTY : Hid (∀ x a c, parseF t f = (some x, a, c) → ∃ T g, Ps.TreeOf t f x T g) := Lib.hid (fun x a c h => Ps.tree_of (by omega) h)
  have HSZ := Lib.hid hsz
  have HTZ := Lib.hid htz
  clear h1 h2 hsz htz
  go_enter Tryz.func5, Tryz.ntmps5
  go_wp2_with fail
  refine (works9_any _ HE.out).mono ?_
  rintro e w1 ⟨rfl, hb⟩
  have HB := Lib.hid hb
  clear hb
  go_wp2_with fail
  refine (HCS.out _ (HE.out.below (Nat.le_refl _) HB.out)).mono ?_
  rintro e w2 ⟨b1, rfl, hcl1, hb⟩
  have HB2 := Lib.hid (HB.out.trans (hb.mono HB.out.size))
  have HCL1 := Lib.hid hcl1
  clear hb hcl1
  cases b1 with
  | false =>
    go_wp2
    go_ret
    exact ⟨rfl, HB2.out⟩
  | true =>
  go_wp2_with fail
  refine (HCT.out _ (HE.out.below (Nat.le_refl _) HB2.out)).mono ?_
  rintro e w3 ⟨b2, rfl, hcl2, hb⟩
  have HB3 := Lib.hid (HB2.out.trans (hb.mono HB2.out.size))
  have HCL2 := Lib.hid hcl2
  clear hb hcl2
  cases b2 with
  | false =>
    go_wp2
    go_ret
    exact ⟨rfl, HB3.out⟩
  | true =>
  obtain ⟨X, ax, cx, hX⟩ : ∃ X a c, parseF s f = (X, a, c) := ⟨_, _, _, rfl⟩
  obtain ⟨Y, ay, cy, hY⟩ : ∃ X a c, parseF t f = (X, a, c) := ⟨_, _, _, rfl⟩
  rw [hX] at HP1 HTX
  rw [hY] at HP2 HTY
  have HNX : Hid (X = none → cx ≠ 0) := Lib.hid (fun h => (HRX.out.no ax cx (by rw [hX, h])).1)
  have HNY : Hid (Y = none → cy ≠ 0) := Lib.hid (fun h => (HRY.out.no ay cy (by rw [hY, h])).1)
  have HSX : Hid (∀ x, X = some x → cx = 0 ∧ ∃ T g, Ps.TreeOf s f x T g) := Lib.hid (fun x h => ⟨(HRX.out.yes x ax cx (by rw [hX, h])).2.1, HTX.out x ax cx (by rw [h])⟩)
  have HSY : Hid (∀ x, Y = some x → cy = 0 ∧ (∃ T g, Ps.TreeOf t f x T g) ∧ (Td.all 1000 1 x).length ≤ 1000000) := Lib.hid (fun x h => ⟨(HRY.out.yes x ay cy (by rw [hY, h])).2.1, HTY.out x ay cy (by rw [h]), by obtain ⟨_, _, _, _, _, _, _, h9⟩ := HRY.out.yes x ay cy (by rw [hY, h]); exact h9⟩)
  clear hX hY HRX HRY HTX HTY

  go_wp2_with fail
  refine (HP1.out _ (HE.out.below (Nat.le_refl _) HB3.out)).mono ?_
  rintro e w4 ⟨acs, rfl, hnd, hb⟩
  have HBq := Lib.hid (HB3.out.trans (hb.mono HB3.out.size))
  obtain ⟨au0, au1, au2, au3, au4, au5, au6, au7, asa, asc, aaa, aac, he, F⟩ := hnd.form_of
  subst he
  obtain ⟨rfl, rfl, rfl, rfl, rfl, rfl, rfl, rfl⟩ := F
  obtain ⟨x, hx⟩ : ∃ x, (X, ax, cx).1.getD (Ps.leafN 0 0) = x := ⟨_, rfl⟩
  rw [hx] at hnd
  rw [hx]
  obtain ⟨na, hnb⟩ : ∃ nb, w4.heap.size = nb := ⟨_, rfl⟩
  obtain ⟨w5, hwn⟩ : ∃ wn, w4.alloc (ndBox x asa asc aaa aac) = wn := ⟨_, rfl⟩
  have hbn : Below w4.heap.size w4 w5 := by rw [← hwn]; exact (Below.refl _ _).alloc (Nat.le_refl _) _
  have HXx : Hid (Bx w5 na x asa asc aaa aac) := Lib.hid (by rw [← hwn, ← hnb]; exact Bx.new hnd)
  have HB5 := Lib.hid (HBq.out.trans (hbn.mono HBq.out.size))
  have HWx := Lib.hid hwn
  have HNx := Lib.hid hnb
  have HEx := Lib.hid hx
  clear hnd hb hx hnb hwn hbn HBq
  go_wp2_with fail
  rw [HWx.out, HNx.out]
  refine (HP2.out _ (HE.out.below (Nat.le_refl _) HB5.out)).mono ?_
  rintro e w6 ⟨bcs, rfl, hnd, hb⟩
  have HBq := Lib.hid (HB5.out.trans (hb.mono HB5.out.size))
  have HXx2' := Lib.hid (HXx.out.kept hb)
  obtain ⟨bu0, bu1, bu2, bu3, bu4, bu5, bu6, bu7, bsa, bsc, baa, bac, he, F⟩ := hnd.form_of
  subst he
  obtain ⟨rfl, rfl, rfl, rfl, rfl, rfl, rfl, rfl⟩ := F
  obtain ⟨y, hx⟩ : ∃ x, (Y, ay, cy).1.getD (Ps.leafN 0 0) = x := ⟨_, rfl⟩
  rw [hx] at hnd
  rw [hx]
  obtain ⟨mb, hnb⟩ : ∃ nb, w6.heap.size = nb := ⟨_, rfl⟩
  obtain ⟨w7, hwn⟩ : ∃ wn, w6.alloc (ndBox y bsa bsc baa bac) = wn := ⟨_, rfl⟩
  have hbn : Below w6.heap.size w6 w7 := by rw [← hwn]; exact (Below.refl _ _).alloc (Nat.le_refl _) _
  have HXy : Hid (Bx w7 mb y bsa bsc baa bac) := Lib.hid (by rw [← hwn, ← hnb]; exact Bx.new hnd)
  have HXx2 := Lib.hid (HXx2'.out.kept hbn)
  have HB7 := Lib.hid (HBq.out.trans (hbn.mono HBq.out.size))
  have HWy := Lib.hid hwn
  have HNy := Lib.hid hnb
  have HEy := Lib.hid hx
  clear hnd hb hx hnb hwn hbn HBq
  clear HXx2'
  cases X with
  | none =>
    have hc : (cx != 0) = true := by simpa using HNX.out rfl
    go_wp2
    go_ret
    first | (rw [HWy.out]; exact ⟨rfl, HB7.out⟩) | (rw [← HWy.out] at HB7; exact ⟨rfl, HB7.out⟩)
  | some x' =>
  obtain ⟨rfl, T, g, hT⟩ := HSX.out x' rfl
  have hx9 : x' = x := HEx.out
  subst hx9
  have HT := Lib.hid hT
  clear hT
  cases Y with
  | none =>
    have hc : (cy != 0) = true := by simpa using HNY.out rfl
    go_wp2
    go_ret
    first | (rw [HWy.out]; exact ⟨rfl, HB7.out⟩) | (rw [← HWy.out] at HB7; exact ⟨rfl, HB7.out⟩)
  | some y' =>
  obtain ⟨rfl, ⟨U, gy, hU⟩, hal⟩ := HSY.out y' rfl
  have hy9 : y' = y := HEy.out
  subst hy9
  have HU := Lib.hid hU
  have HAL := Lib.hid hal
  clear hU hal
  go_wp2_with fail
  rw [HWy.out, HNy.out]
  refine (trGroups_any w7 y' _ HXy.out.nd HAL.out).mono ?_
  rintro e w8 ⟨gv, rfl, hgv, hb8⟩
  have HB8 := Lib.hid (HB7.out.trans (hb8.mono HB7.out.size))
  have HXx3 := Lib.hid (HXx2.out.kept hb8)
  have HXy3 := Lib.hid (HXy.out.kept hb8)
  obtain ⟨ga, gc, hgs⟩ := TxOwn.slice hgv
  obtain ⟨n, hn⟩ : ∃ n, (Td.groups (Td.all 1000 1 y')).length = n := ⟨_, rfl⟩
  rw [hn] at hgs
  subst hgs
  have HNG := Lib.hid hn
  have hnb9 : n ≤ 1000000 := by
    have h1 := HAL.out
    have h2 : (Td.groups (Td.all 1000 1 y')).length ≤ (Td.all 1000 1 y').length := by
      unfold Td.groups
      rw [List.length_map]
      exact List.length_filter_le _ _
    omega
  clear hgv hb8 hn
  by_cases hn0 : 0 < n
  · have hni : (0 : Int) < (n : Int) := by omega
    go_wp2
    go_ret
    exact ⟨rfl, HB8.out⟩
  obtain rfl : n = 0 := by omega
  clear hn0 hnb9
  have hg0 : gy = 0 := by
    have h1 := HU.out.num
    have h2 := HU.out.names
    have h3 := HNG.out
    rw [h2] at h3
    omega
  subst hg0
  have HS1 := HSZ.out
  have HT1 := HTZ.out
  have e3 := Ps.part_parse HT.out (HCL1.out trivial)
  have e4 := Ps.alt_parse HT.out HS1 (HCL1.out trivial) HU.out HT1 (HCL2.out trivial)
  have e5 := Ps.rep_parse HT.out HS1 (HCL1.out trivial)
  obtain ⟨lz, hlz⟩ : ∃ lz, Ps.hasP f 8 = lz := ⟨_, rfl⟩
  rw [hlz] at e5
  have hlz2 : (bits .and .i64 f 8 != 0) = lz := hlz
  have HP3 := Lib.hid (fun w (hw : Ev w) => parse_any w (Ps.partB s) (by rw [Ps.part_size]; omega) f hw)
  have HP4 := Lib.hid (fun w (hw : Ev w) => parse_any w (Ps.partB s ++ (Ps.barB ++ Ps.partB t)) (by rw [ByteArray.size_append, ByteArray.size_append, Ps.part_size, Ps.part_size]; show s.size + 4 + (1 + (t.size + 4)) ≤ 4096; omega) f hw)
  have HP5 := Lib.hid (fun w (hw : Ev w) => parse_any w (Ps.partB s ++ Ps.timesB) (by rw [ByteArray.size_append, Ps.part_size]; show s.size + 4 + 5 ≤ 4096; omega) f hw)
  rw [e3] at HP3
  rw [e4] at HP4
  rw [e5] at HP5
  have HC3 := Lib.hid (part_text s)
  have HC4 := Lib.hid (alt_text s t)
  have HC5 := Lib.hid (rep_text s)
  have hP0 : ((⟨#[40, 63, 58]⟩ : ByteArray) ++ s).size = 3 + s.size := ByteArray.size_append ..
  have hP1 : (((⟨#[40, 63, 58]⟩ : ByteArray) ++ s) ++ (⟨#[41, 124, 40, 63, 58]⟩ : ByteArray)).size = 3 + s.size + 5 := by rw [ByteArray.size_append, hP0]; rfl
  have hP2 : ((((⟨#[40, 63, 58]⟩ : ByteArray) ++ s) ++ (⟨#[41, 124, 40, 63, 58]⟩ : ByteArray)) ++ t).size = 3 + s.size + 5 + t.size := by rw [ByteArray.size_append, hP1]
  have n1 : ¬ 9223372036854775807 < 3 + s.size := by omega
  have n2 : ¬ 9223372036854775807 < ((⟨#[40, 63, 58]⟩ : ByteArray) ++ s).size + 1 := by omega
  have n3 : ¬ 9223372036854775807 < ((⟨#[40, 63, 58]⟩ : ByteArray) ++ s).size + 5 := by omega
  have n4 : ¬ 9223372036854775807 < ((⟨#[40, 63, 58]⟩ : ByteArray) ++ s).size + 6 := by omega
  have n5 : ¬ 9223372036854775807 < (((⟨#[40, 63, 58]⟩ : ByteArray) ++ s) ++ (⟨#[41, 124, 40, 63, 58]⟩ : ByteArray)).size + t.size := by omega
  have n6 : ¬ 9223372036854775807 < ((((⟨#[40, 63, 58]⟩ : ByteArray) ++ s) ++ (⟨#[41, 124, 40, 63, 58]⟩ : ByteArray)) ++ t).size + 1 := by omega
  have hdx : Td.dep 1001 x' ≤ 405 := HT.out.dep HS1 1001
  have hdy : Td.dep 1001 y' ≤ 405 := HU.out.dep HT1 1001
  have HSX9 := Lib.hid (Td.same_ok (n := x') (by omega))
  have HDA := Lib.hid (Td.same_ok (n := Ps.altX x' y') (by
    have q1 := HT.out.dep HS1 1000
    have q2 := HU.out.dep HT1 1000
    rw [Td.dep]
    show ([x', y'].map (Td.dep 1000)).foldl max 0 + 1 ≤ 1000
    simp
    omega))
  have HDR := Lib.hid (Td.same_ok (n := Ps.repX lz x') (by
    have q1 := HT.out.dep HS1 1000
    rw [Td.dep]
    show ([x'].map (Td.dep 1000)).foldl max 0 + 1 ≤ 1000
    simp
    omega))
  clear e3 e4 e5 hlz hdx hdy hP0 hP1 hP2 HS1 HT1 HNX HNY HSX HSY HCS HCT HP1 HP2 HEx HEy
  go_wp2_with fail
  rw [HC3.out]
  refine (HP3.out _ (HE.out.below (Nat.le_refl _) HB8.out)).mono ?_
  rintro e w9 ⟨ccs, rfl, hnd, hb⟩
  have HBq := Lib.hid (HB8.out.trans (hb.mono HB8.out.size))
  have HXx4' := Lib.hid (HXx3.out.kept hb)
  have HXy4' := Lib.hid (HXy3.out.kept hb)
  obtain ⟨cu0, cu1, cu2, cu3, cu4, cu5, cu6, cu7, csa, csc, caa, cac, he, F⟩ := hnd.form_of
  subst he
  obtain ⟨rfl, rfl, rfl, rfl, rfl, rfl, rfl, rfl⟩ := F
  obtain ⟨xc, hx⟩ : ∃ x, (some x', 0, 0).1.getD (Ps.leafN 0 0) = x := ⟨_, rfl⟩
  rw [hx] at hnd
  rw [hx]
  obtain ⟨nc, hnb⟩ : ∃ nb, w9.heap.size = nb := ⟨_, rfl⟩
  obtain ⟨v9, hwn⟩ : ∃ wn, w9.alloc (ndBox xc csa csc caa cac) = wn := ⟨_, rfl⟩
  have hbn : Below w9.heap.size w9 v9 := by rw [← hwn]; exact (Below.refl _ _).alloc (Nat.le_refl _) _
  have HXxc : Hid (Bx v9 nc xc csa csc caa cac) := Lib.hid (by rw [← hwn, ← hnb]; exact Bx.new hnd)
  have HXx4 := Lib.hid (HXx4'.out.kept hbn)
  have HXy4 := Lib.hid (HXy4'.out.kept hbn)
  have HB9 := Lib.hid (HBq.out.trans (hbn.mono HBq.out.size))
  have HWxc := Lib.hid hwn
  have HNxc := Lib.hid hnb
  have HExc := Lib.hid hx
  clear hnd hb hx hnb hwn hbn HBq
  clear HXx4'
  clear HXy4'
  have hxc : x' = xc := HExc.out
  subst hxc
  go_wp2_with fail
  rw [HWxc.out, HNxc.out]
  rw [HC4.out]
  refine (HP4.out _ (HE.out.below (Nat.le_refl _) HB9.out)).mono ?_
  rintro e w10 ⟨dcs, rfl, hnd, hb⟩
  have HBq := Lib.hid (HB9.out.trans (hb.mono HB9.out.size))
  have HXx5' := Lib.hid (HXx4.out.kept hb)
  have HXy5' := Lib.hid (HXy4.out.kept hb)
  have HXxc5' := Lib.hid (HXxc.out.kept hb)
  obtain ⟨du0, du1, du2, du3, du4, du5, du6, du7, dsa, dsc, daa, dac, he, F⟩ := hnd.form_of
  subst he
  obtain ⟨rfl, rfl, rfl, rfl, rfl, rfl, rfl, rfl⟩ := F
  obtain ⟨xd, hx⟩ : ∃ x, (some (Ps.altX x' y'), 0, 0).1.getD (Ps.leafN 0 0) = x := ⟨_, rfl⟩
  rw [hx] at hnd
  rw [hx]
  obtain ⟨nd, hnb⟩ : ∃ nb, w10.heap.size = nb := ⟨_, rfl⟩
  obtain ⟨v10, hwn⟩ : ∃ wn, w10.alloc (ndBox xd dsa dsc daa dac) = wn := ⟨_, rfl⟩
  have hbn : Below w10.heap.size w10 v10 := by rw [← hwn]; exact (Below.refl _ _).alloc (Nat.le_refl _) _
  have HXxd : Hid (Bx v10 nd xd dsa dsc daa dac) := Lib.hid (by rw [← hwn, ← hnb]; exact Bx.new hnd)
  have HXx5 := Lib.hid (HXx5'.out.kept hbn)
  have HXy5 := Lib.hid (HXy5'.out.kept hbn)
  have HXxc5 := Lib.hid (HXxc5'.out.kept hbn)
  have HB10 := Lib.hid (HBq.out.trans (hbn.mono HBq.out.size))
  have HWxd := Lib.hid hwn
  have HNxd := Lib.hid hnb
  have HExd := Lib.hid hx
  clear hnd hb hx hnb hwn hbn HBq
  clear HXx5'
  clear HXy5'
  clear HXxc5'
  have hxd : Ps.altX x' y' = xd := HExd.out
  subst hxd
  go_wp2_with fail
  rw [HWxd.out, HNxd.out]
  rw [HC5.out]
  refine (HP5.out _ (HE.out.below (Nat.le_refl _) HB10.out)).mono ?_
  rintro e w11 ⟨rcs, rfl, hnd, hb⟩
  have HBq := Lib.hid (HB10.out.trans (hb.mono HB10.out.size))
  have HXx6' := Lib.hid (HXx5.out.kept hb)
  have HXy6' := Lib.hid (HXy5.out.kept hb)
  have HXxc6' := Lib.hid (HXxc5.out.kept hb)
  have HXxd6' := Lib.hid (HXxd.out.kept hb)
  obtain ⟨ru0, ru1, ru2, ru3, ru4, ru5, ru6, ru7, rsa, rsc, raa, rac, he, F⟩ := hnd.form_of
  subst he
  obtain ⟨rfl, rfl, rfl, rfl, rfl, rfl, rfl, rfl⟩ := F
  obtain ⟨xr, hx⟩ : ∃ x, (some (Ps.repX lz x'), 0, 0).1.getD (Ps.leafN 0 0) = x := ⟨_, rfl⟩
  rw [hx] at hnd
  rw [hx]
  obtain ⟨nr, hnb⟩ : ∃ nb, w11.heap.size = nb := ⟨_, rfl⟩
  obtain ⟨v11, hwn⟩ : ∃ wn, w11.alloc (ndBox xr rsa rsc raa rac) = wn := ⟨_, rfl⟩
  have hbn : Below w11.heap.size w11 v11 := by rw [← hwn]; exact (Below.refl _ _).alloc (Nat.le_refl _) _
  have HXxr : Hid (Bx v11 nr xr rsa rsc raa rac) := Lib.hid (by rw [← hwn, ← hnb]; exact Bx.new hnd)
  have HXx6 := Lib.hid (HXx6'.out.kept hbn)
  have HXy6 := Lib.hid (HXy6'.out.kept hbn)
  have HXxc6 := Lib.hid (HXxc6'.out.kept hbn)
  have HXxd6 := Lib.hid (HXxd6'.out.kept hbn)
  have HB11 := Lib.hid (HBq.out.trans (hbn.mono HBq.out.size))
  have HWxr := Lib.hid hwn
  have HNxr := Lib.hid hnb
  have HExr := Lib.hid hx
  clear hnd hb hx hnb hwn hbn HBq
  have fak := fun (o : Obj) => HXx6'.out.kept ((Below.refl w11.heap.size w11).alloc (Nat.le_refl _) o)
  have fa0 : ∀ o : Obj, (w11.alloc o).cell? ⟨na, 0, none⟩ = some (.int .i64 (Td.kind (x'))) := fun o => (fak o).at 0
  have fa1 : ∀ o : Obj, (w11.alloc o).cell? ⟨na, 1, none⟩ = some (.slice asa (Td.set (x')).length asc) := fun o => (fak o).at 1
  have fa2 : ∀ o : Obj, (w11.alloc o).cell? ⟨na, 2, none⟩ = some (.int .i64 (Td.num (x'))) := fun o => (fak o).at 2
  have fa3 : ∀ o : Obj, (w11.alloc o).cell? ⟨na, 3, none⟩ = some (.string (Td.name (x'))) := fun o => (fak o).at 3
  have fa4 : ∀ o : Obj, (w11.alloc o).cell? ⟨na, 4, none⟩ = some (.int .i64 (Td.mn (x'))) := fun o => (fak o).at 4
  have fa5 : ∀ o : Obj, (w11.alloc o).cell? ⟨na, 5, none⟩ = some (.int .i64 (Td.mx (x'))) := fun o => (fak o).at 5
  have fa6 : ∀ o : Obj, (w11.alloc o).cell? ⟨na, 6, none⟩ = some (.bool (Td.lazy (x'))) := fun o => (fak o).at 6
  have fa7 : ∀ o : Obj, (w11.alloc o).cell? ⟨na, 7, none⟩ = some (.slice aaa (Td.subs (x')).length aac) := fun o => (fak o).at 7
  clear fak
  have fck := fun (o : Obj) => HXxc6'.out.kept ((Below.refl w11.heap.size w11).alloc (Nat.le_refl _) o)
  have fc0 : ∀ o : Obj, (w11.alloc o).cell? ⟨nc, 0, none⟩ = some (.int .i64 (Td.kind (x'))) := fun o => (fck o).at 0
  have fc1 : ∀ o : Obj, (w11.alloc o).cell? ⟨nc, 1, none⟩ = some (.slice csa (Td.set (x')).length csc) := fun o => (fck o).at 1
  have fc2 : ∀ o : Obj, (w11.alloc o).cell? ⟨nc, 2, none⟩ = some (.int .i64 (Td.num (x'))) := fun o => (fck o).at 2
  have fc3 : ∀ o : Obj, (w11.alloc o).cell? ⟨nc, 3, none⟩ = some (.string (Td.name (x'))) := fun o => (fck o).at 3
  have fc4 : ∀ o : Obj, (w11.alloc o).cell? ⟨nc, 4, none⟩ = some (.int .i64 (Td.mn (x'))) := fun o => (fck o).at 4
  have fc5 : ∀ o : Obj, (w11.alloc o).cell? ⟨nc, 5, none⟩ = some (.int .i64 (Td.mx (x'))) := fun o => (fck o).at 5
  have fc6 : ∀ o : Obj, (w11.alloc o).cell? ⟨nc, 6, none⟩ = some (.bool (Td.lazy (x'))) := fun o => (fck o).at 6
  have fc7 : ∀ o : Obj, (w11.alloc o).cell? ⟨nc, 7, none⟩ = some (.slice caa (Td.subs (x')).length cac) := fun o => (fck o).at 7
  clear fck
  clear HXx6'
  clear HXy6'
  clear HXxc6'
  clear HXxd6'
  have hxr : Ps.repX lz x' = xr := HExr.out
  subst hxr
  have HSM := Lib.hid (trSame_any v11 x' x' _ _ HXx6.out.nd HXxc6.out.nd)
  rw [HSX9.out] at HSM
  go_wp2_with fail
  rw [HWxr.out, HNxr.out]
  refine HSM.out.mono ?_
  rintro e w12 ⟨rfl, hb⟩
  have HB12 := Lib.hid (HB11.out.trans (hb.mono HB11.out.size))
  have HXx7 := Lib.hid (HXx6.out.kept hb)
  have HXy7 := Lib.hid (HXy6.out.kept hb)
  have HXd7 := Lib.hid (HXxd6.out.kept hb)
  have HXr7 := Lib.hid (HXxr.out.kept hb)
  clear hb
  clear fa0 fa1 fa2 fa3 fa4 fa5 fa6 fa7
  clear fc0 fc1 fc2 fc3 fc4 fc5 fc6 fc7
  have fa0 : w12.cell? ⟨na, 0, none⟩ = some (.int .i64 (Td.kind (x'))) := HXx7.out.at 0
  have fa1 : w12.cell? ⟨na, 1, none⟩ = some (.slice asa (Td.set (x')).length asc) := HXx7.out.at 1
  have fa2 : w12.cell? ⟨na, 2, none⟩ = some (.int .i64 (Td.num (x'))) := HXx7.out.at 2
  have fa3 : w12.cell? ⟨na, 3, none⟩ = some (.string (Td.name (x'))) := HXx7.out.at 3
  have fa4 : w12.cell? ⟨na, 4, none⟩ = some (.int .i64 (Td.mn (x'))) := HXx7.out.at 4
  have fa5 : w12.cell? ⟨na, 5, none⟩ = some (.int .i64 (Td.mx (x'))) := HXx7.out.at 5
  have fa6 : w12.cell? ⟨na, 6, none⟩ = some (.bool (Td.lazy (x'))) := HXx7.out.at 6
  have fa7 : w12.cell? ⟨na, 7, none⟩ = some (.slice aaa (Td.subs (x')).length aac) := HXx7.out.at 7
  have fb0 : w12.cell? ⟨mb, 0, none⟩ = some (.int .i64 (Td.kind (y'))) := HXy7.out.at 0
  have fb1 : w12.cell? ⟨mb, 1, none⟩ = some (.slice bsa (Td.set (y')).length bsc) := HXy7.out.at 1
  have fb2 : w12.cell? ⟨mb, 2, none⟩ = some (.int .i64 (Td.num (y'))) := HXy7.out.at 2
  have fb3 : w12.cell? ⟨mb, 3, none⟩ = some (.string (Td.name (y'))) := HXy7.out.at 3
  have fb4 : w12.cell? ⟨mb, 4, none⟩ = some (.int .i64 (Td.mn (y'))) := HXy7.out.at 4
  have fb5 : w12.cell? ⟨mb, 5, none⟩ = some (.int .i64 (Td.mx (y'))) := HXy7.out.at 5
  have fb6 : w12.cell? ⟨mb, 6, none⟩ = some (.bool (Td.lazy (y'))) := HXy7.out.at 6
  have fb7 : w12.cell? ⟨mb, 7, none⟩ = some (.slice baa (Td.subs (y')).length bac) := HXy7.out.at 7
  have fd0 : w12.cell? ⟨nd, 0, none⟩ = some (.int .i64 (Td.kind (Ps.altX x' y'))) := HXd7.out.at 0
  have fd1 : w12.cell? ⟨nd, 1, none⟩ = some (.slice dsa (Td.set (Ps.altX x' y')).length dsc) := HXd7.out.at 1
  have fd2 : w12.cell? ⟨nd, 2, none⟩ = some (.int .i64 (Td.num (Ps.altX x' y'))) := HXd7.out.at 2
  have fd3 : w12.cell? ⟨nd, 3, none⟩ = some (.string (Td.name (Ps.altX x' y'))) := HXd7.out.at 3
  have fd4 : w12.cell? ⟨nd, 4, none⟩ = some (.int .i64 (Td.mn (Ps.altX x' y'))) := HXd7.out.at 4
  have fd5 : w12.cell? ⟨nd, 5, none⟩ = some (.int .i64 (Td.mx (Ps.altX x' y'))) := HXd7.out.at 5
  have fd6 : w12.cell? ⟨nd, 6, none⟩ = some (.bool (Td.lazy (Ps.altX x' y'))) := HXd7.out.at 6
  have fd7 : w12.cell? ⟨nd, 7, none⟩ = some (.slice daa (Td.subs (Ps.altX x' y')).length dac) := HXd7.out.at 7
  obtain ⟨v12, hv12⟩ : ∃ v12, w12.alloc (.cells #[.int .i64 (Td.kind (x')), .slice asa (Td.set (x')).length asc, .int .i64 (Td.num (x')), .string (Td.name (x')), .int .i64 (Td.mn (x')), .int .i64 (Td.mx (x')), .bool (Td.lazy (x')), .slice aaa (Td.subs (x')).length aac, .int .i64 (Td.kind (y')), .slice bsa (Td.set (y')).length bsc, .int .i64 (Td.num (y')), .string (Td.name (y')), .int .i64 (Td.mn (y')), .int .i64 (Td.mx (y')), .bool (Td.lazy (y')), .slice baa (Td.subs (y')).length bac] 26) = v12 := ⟨_, rfl⟩
  have hbv : Below w12.heap.size w12 v12 := by rw [← hv12]; exact (Below.refl _ _).alloc (Nat.le_refl _) _
  have hg : v12.heap[w12.heap.size]? = some (.cells #[.int .i64 (Td.kind (x')), .slice asa (Td.set (x')).length asc, .int .i64 (Td.num (x')), .string (Td.name (x')), .int .i64 (Td.mn (x')), .int .i64 (Td.mx (x')), .bool (Td.lazy (x')), .slice aaa (Td.subs (x')).length aac, .int .i64 (Td.kind (y')), .slice bsa (Td.set (y')).length bsc, .int .i64 (Td.num (y')), .string (Td.name (y')), .int .i64 (Td.mn (y')), .int .i64 (Td.mx (y')), .bool (Td.lazy (y')), .slice baa (Td.subs (y')).length bac] 26 (0, 0)) := by rw [← hv12]; exact heap_alloc_new _ _
  have hds : NdsIs v12 [x', y'] [[.int .i64 (Td.kind (x')), .slice asa (Td.set (x')).length asc, .int .i64 (Td.num (x')), .string (Td.name (x')), .int .i64 (Td.mn (x')), .int .i64 (Td.mx (x')), .bool (Td.lazy (x')), .slice aaa (Td.subs (x')).length aac], [.int .i64 (Td.kind (y')), .slice bsa (Td.set (y')).length bsc, .int .i64 (Td.num (y')), .string (Td.name (y')), .int .i64 (Td.mn (y')), .int .i64 (Td.mx (y')), .bool (Td.lazy (y')), .slice baa (Td.subs (y')).length bac]] := (((NdsIs.nil w12).snoc HXx7.out.nd).snoc HXy7.out.nd).kept hbv
  have hnd : NdIs v12 (Ps.altX x' y') [.int .i64 8, .slice none 0 0, .int .i64 0, .string ⟨#[]⟩, .int .i64 0, .int .i64 0, .bool false, .slice (some ⟨w12.heap.size, 0, none⟩) 2 2] :=
    NdIs.row hds hg (fun j hj => by simp) (by simp) ⟨i64_lit _ (by decide), i64_lit _ (by decide), i64_lit _ (by decide), i64_lit _ (by decide)⟩ (RRow.nil _) (Nat.zero_le _)
  have HSD := Lib.hid (trSame_any v12 _ _ _ _ (HXd7.out.kept hbv).nd hnd)
  rw [HDA.out] at HSD
  have HV12 := Lib.hid hv12
  have HB13 := Lib.hid (HB12.out.trans (hbv.mono HB12.out.size))
  have HXx8 := Lib.hid (HXx7.out.kept hbv)
  have HXr8 := Lib.hid (HXr7.out.kept hbv)
  clear hv12 hbv hg hds hnd
  go_wp2_with fail
  rw [HV12.out]
  refine HSD.out.mono ?_
  rintro e w14 ⟨rfl, hb⟩
  have HB14 := Lib.hid (HB13.out.trans (hb.mono HB13.out.size))
  have HXx9 := Lib.hid (HXx8.out.kept hb)
  have HXr9 := Lib.hid (HXr8.out.kept hb)
  clear hb
  clear fa0 fa1 fa2 fa3 fa4 fa5 fa6 fa7
  clear fb0 fb1 fb2 fb3 fb4 fb5 fb6 fb7
  clear fd0 fd1 fd2 fd3 fd4 fd5 fd6 fd7
  have fa0 : w14.cell? ⟨na, 0, none⟩ = some (.int .i64 (Td.kind (x'))) := HXx9.out.at 0
  have fa1 : w14.cell? ⟨na, 1, none⟩ = some (.slice asa (Td.set (x')).length asc) := HXx9.out.at 1
  have fa2 : w14.cell? ⟨na, 2, none⟩ = some (.int .i64 (Td.num (x'))) := HXx9.out.at 2
  have fa3 : w14.cell? ⟨na, 3, none⟩ = some (.string (Td.name (x'))) := HXx9.out.at 3
  have fa4 : w14.cell? ⟨na, 4, none⟩ = some (.int .i64 (Td.mn (x'))) := HXx9.out.at 4
  have fa5 : w14.cell? ⟨na, 5, none⟩ = some (.int .i64 (Td.mx (x'))) := HXx9.out.at 5
  have fa6 : w14.cell? ⟨na, 6, none⟩ = some (.bool (Td.lazy (x'))) := HXx9.out.at 6
  have fa7 : w14.cell? ⟨na, 7, none⟩ = some (.slice aaa (Td.subs (x')).length aac) := HXx9.out.at 7
  have fr0 : w14.cell? ⟨nr, 0, none⟩ = some (.int .i64 (Td.kind (Ps.repX lz x'))) := HXr9.out.at 0
  have fr1 : w14.cell? ⟨nr, 1, none⟩ = some (.slice rsa (Td.set (Ps.repX lz x')).length rsc) := HXr9.out.at 1
  have fr2 : w14.cell? ⟨nr, 2, none⟩ = some (.int .i64 (Td.num (Ps.repX lz x'))) := HXr9.out.at 2
  have fr3 : w14.cell? ⟨nr, 3, none⟩ = some (.string (Td.name (Ps.repX lz x'))) := HXr9.out.at 3
  have fr4 : w14.cell? ⟨nr, 4, none⟩ = some (.int .i64 (Td.mn (Ps.repX lz x'))) := HXr9.out.at 4
  have fr5 : w14.cell? ⟨nr, 5, none⟩ = some (.int .i64 (Td.mx (Ps.repX lz x'))) := HXr9.out.at 5
  have fr6 : w14.cell? ⟨nr, 6, none⟩ = some (.bool (Td.lazy (Ps.repX lz x'))) := HXr9.out.at 6
  have fr7 : w14.cell? ⟨nr, 7, none⟩ = some (.slice raa (Td.subs (Ps.repX lz x')).length rac) := HXr9.out.at 7
  obtain ⟨v14, hv14⟩ : ∃ v14, w14.alloc (.cells #[.int .i64 (Td.kind (x')), .slice asa (Td.set (x')).length asc, .int .i64 (Td.num (x')), .string (Td.name (x')), .int .i64 (Td.mn (x')), .int .i64 (Td.mx (x')), .bool (Td.lazy (x')), .slice aaa (Td.subs (x')).length aac] 26) = v14 := ⟨_, rfl⟩
  have hbv : Below w14.heap.size w14 v14 := by rw [← hv14]; exact (Below.refl _ _).alloc (Nat.le_refl _) _
  have hg : v14.heap[w14.heap.size]? = some (.cells #[.int .i64 (Td.kind (x')), .slice asa (Td.set (x')).length asc, .int .i64 (Td.num (x')), .string (Td.name (x')), .int .i64 (Td.mn (x')), .int .i64 (Td.mx (x')), .bool (Td.lazy (x')), .slice aaa (Td.subs (x')).length aac] 26 (0, 0)) := by rw [← hv14]; exact heap_alloc_new _ _
  have hds : NdsIs v14 [x'] [[.int .i64 (Td.kind (x')), .slice asa (Td.set (x')).length asc, .int .i64 (Td.num (x')), .string (Td.name (x')), .int .i64 (Td.mn (x')), .int .i64 (Td.mx (x')), .bool (Td.lazy (x')), .slice aaa (Td.subs (x')).length aac]] := ((NdsIs.nil w14).snoc HXx9.out.nd).kept hbv
  have hnd : NdIs v14 (Ps.repX lz x') [.int .i64 9, .slice none 0 0, .int .i64 0, .string ⟨#[]⟩, .int .i64 2, .int .i64 3, .bool lz, .slice (some ⟨w14.heap.size, 0, none⟩) 1 1] :=
    NdIs.row hds hg (fun j hj => by simp) (by simp) ⟨i64_lit _ (by decide), i64_lit _ (by decide), i64_lit _ (by decide), i64_lit _ (by decide)⟩ (RRow.nil _) (Nat.zero_le _)
  have HSR := Lib.hid (trSame_any v14 _ _ _ _ (HXr9.out.kept hbv).nd hnd)
  rw [HDR.out] at HSR
  have HV14 := Lib.hid hv14
  have HB15 := Lib.hid (HB14.out.trans (hbv.mono HB14.out.size))
  clear hv14 hbv hg hds hnd
  go_wp2_with fail
  rw [HV14.out]
  refine HSR.out.mono ?_
  rintro e w16 ⟨rfl, hb⟩
  have HB16 := Lib.hid (HB15.out.trans (hb.mono HB15.out.size))
  clear hb
  go_wp2
  go_ret
  exact ⟨rfl, HB16.out⟩
end Go.Proofs.YtdcielcniboloaaGreatDoor
