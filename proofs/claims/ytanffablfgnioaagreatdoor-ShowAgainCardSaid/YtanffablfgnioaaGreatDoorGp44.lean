/- Mathematics of show: a tree's pattern, parsed as Parse does. · The book's tree (burinbook): Weigh, Great. · A tree that is small has few nodes: from Great's 'no' to the bounds of All. · burinlaw10.ShowBack, walked. · burinlaw10.ShowAgain, walked. · What the rows' listed variables give the walks: a start that meets the list. · What the rows' listed variables, and the world's shape, give the walks. · What the rows' listed variables give the walks of show, in a seat of the laws that parse, too. · The closed facts of a row, part by part. -/
import Derived.Test.YtanffablfgnioaaGreatDoorGp43
import Derived.Test.YtanffablfgnioaaGreatDoorGp40
import Derived.Test.YtanffablfgnioaaGreatDoorGp2
import Derived.IntWalk
import Derived.Test.YtanffablfgnioaaGreatDoorGp10
import Derived.Test.YtanffablfgnioaaGreatDoorGp17
import Derived.Test.YtanffablfgnioaaGreatDoorGp41
import Derived.Test.YtanffablfgnioaaGreatDoorGp13
import Derived.Test.YtanffablfgnioaaGreatDoorGp20
import Derived.LaidMore
import Derived.Stop.Joined
import Derived.Stop.LaidErr
import Derived.Lib.LaidTab
import Derived.ProofKit
import Derived.Lay
import Derived.HandedShaped
import Derived.Handed
import Derived.Test.YtanffablfgnioaaGreatDoorGp7
import Derived.Lib.TrailingZeros
import Derived.JoinedOf
import Derived.KernelRfl
namespace Go.Proofs.YtanffablfgnioaaGreatDoor.Sh
open Lx (Tk TR LR)
open Ps (TL PR kd altP)
set_option linter.unusedVariables false
/-- A tree that Check takes is what is read from its pattern. -/
theorem parse_show {n : Nd} (h : Td.checkN n = 0) : parseF (txtB (shL 1000 n)) 0 = (some n, 0, 0) := by
  have hsA := shpA_check h
  have hlx := lex_show hsA
  obtain ⟨N0, hA⟩ := (pr_pc 1000 n hsA).alt 0 [endT (txtB (shL 1000 n)).size] 0 0 ⟨by decide, by decide, by decide⟩ (nm_check h) (.inr rfl)
  have hris := (Lx.lex_rises hlx).1
  have hkinds := Lx.Ris.kinds hris
  obtain ⟨T, hT⟩ : ∃ T, plc 0 (pcL 1000 n) = T := ⟨_, rfl⟩
  rw [hT] at hlx hA hkinds
  have hE : Ps.Ends (T ++ [endT (txtB (shL 1000 n)).size]) := Ps.ends_of _ hkinds
  have hL : (T ++ [endT (txtB (shL 1000 n)).size]).length = T.length + 1 := by simp
  have hbad := (Ps.bad_all (3 * (T.length + 1) + 3)).1 (T ++ [endT (txtB (shL 1000 n)).size]) 0 0 [] hE (by rw [hL]; exact Nat.le_refl _)
  have hnz : ∀ d, altP (3 * (T.length + 1) + 3 + d) (T ++ [endT (txtB (shL 1000 n)).size]) 0 0 [] = altP (3 * (T.length + 1) + 3) (T ++ [endT (txtB (shL 1000 n)).size]) 0 0 [] := by
    intro d
    induction d with
    | zero => rfl
    | succ d ih =>
      rw [← ih]
      refine (Ps.fuel_all (3 * (T.length + 1) + 3 + d)).1 _ _ _ _ ?_
      rw [ih]
      cases e : altP (3 * (T.length + 1) + 3) (T ++ [endT (txtB (shL 1000 n)).size]) 0 0 [] with
      | bad a c =>
        rw [e] at hbad
        show c ≠ 0
        have := hbad.1
        omega
      | ok x L f g => trivial
  have h2 := hnz N0
  rw [hA _ (by omega)] at h2
  unfold parseF
  rw [hlx]
  dsimp only
  rw [← h2]
  unfold patF
  dsimp only
  rw [if_neg (by show ¬ (0 : Int) = 11; decide), if_pos h]
end Go.Proofs.YtanffablfgnioaaGreatDoor.Sh
namespace Go.Proofs.YtanffablfgnioaaGreatDoor
open Go.RowKit
set_option linter.unusedVariables false
namespace Td
end Td

































































































































































end Go.Proofs.YtanffablfgnioaaGreatDoor
namespace Go.Proofs.YtanffablfgnioaaGreatDoor
set_option linter.unusedVariables false
namespace Td
end Td
end Go.Proofs.YtanffablfgnioaaGreatDoor
namespace Go.Proofs.YtanffablfgnioaaGreatDoor
open Go.RowKit
set_option linter.unusedVariables false
/-- A text that Show answers is read as the tree. -/
theorem show_parse {n : Nd} {T : ByteArray} (h : ShowIs n T 0) : parseF T 0 = (some n, 0, 0) ∧ T.size ≤ 4096 ∧ Td.checkN n = 0 := by
  rcases h with ⟨h1, _, h2⟩ | ⟨h1, h2⟩
  · exact absurd h2.symm h1
  · rcases h2 with ⟨a, b, _⟩ | ⟨_, _, c⟩
    · have e := Sh.txtB_of b
      rw [e]
      exact ⟨Sh.parse_show h1, by rw [← e, ← Utf.nums_length, b]; exact a, h1⟩
    · cases c









































































































































end Go.Proofs.YtanffablfgnioaaGreatDoor
namespace Go.Proofs.YtanffablfgnioaaGreatDoor
open Go.RowKit
set_option linter.unusedVariables false
theorem show_unique {n : Nd} {T U : ByteArray} {c d : Int} (h : ShowIs n T c) (k : ShowIs n U d) : T = U ∧ c = d := by
  rcases h with ⟨h1, h2, h3⟩ | ⟨h1, h2⟩
  · rcases k with ⟨k1, k2, k3⟩ | ⟨k1, k2⟩
    · exact ⟨by rw [h2, k2], by rw [h3, k3]⟩
    · exact absurd k1 h1
  · rcases k with ⟨k1, k2, k3⟩ | ⟨k1, k2⟩
    · exact absurd h1 k1
    · rcases h2 with ⟨a1, a2, a3⟩ | ⟨a1, a2, a3⟩
      · rcases k2 with ⟨b1, b2, b3⟩ | ⟨b1, b2, b3⟩
        · exact ⟨Br.nums_inj' (a2.trans b2.symm), by rw [a3, b3]⟩
        · omega
      · rcases k2 with ⟨b1, b2, b3⟩ | ⟨b1, b2, b3⟩
        · omega
        · exact ⟨by rw [a2, b2], by rw [a3, b3]⟩
theorem show_code {n : Nd} {T : ByteArray} {c : Int} (h : ShowIs n T c) (hk : Td.checkN n = 0) : c = 0 ∨ c = 2 := by
  rcases h with ⟨h1, _, _⟩ | ⟨_, h2⟩
  · exact absurd hk h1
  · rcases h2 with ⟨_, _, a3⟩ | ⟨_, _, a3⟩
    · exact .inl a3
    · exact .inr a3
set_option maxRecDepth 100000 in
set_option maxHeartbeats 8000000 in
theorem walkShowAgain (W : World) (s : ByteArray) (f : Int) (hs : s.size ≤ 140737488351232) (hfw : (Lit.int .i64 f).wf = true) (hE : Ev W) (hS : EvS W) : Calls Tryz.prog 3 #[.string s, .int .i64 f] W fun e w' => e = .returned (.bool true) ∧ Below W.heap.size W w' := by
  have HE := Lib.hid hE
  have HS := Lib.hid hS
  clear hE hS
  by_cases h3 : 200 < s.size
  · have h3i : (200 : Int) < (s.size : Int) := by omega
    go_enter Tryz.func3, Tryz.ntmps3
    go_wp2_with fail
    refine (works10_any _ HS.out).mono ?_
    rintro e w1 ⟨rfl, hb⟩
    have HB := Lib.hid hb
    clear hb
    go_wp2
    go_ret
    exact ⟨rfl, HB.out⟩
  have h3i : ¬ (200 : Int) < (s.size : Int) := by omega
  obtain ⟨X, a, c, hX⟩ : ∃ X a c, parseF s f = (X, a, c) := ⟨_, _, _, rfl⟩
  have hR := parse_right s f (by omega)
  have hno : X = none → c ≠ 0 := fun h => (hR.no a c (by rw [hX, h])).1
  have hyes : ∀ x, X = some x → c = 0 ∧ Td.checkN x = 0 ∧ (Td.all 1000 1 x).length ≤ 1000000 := fun x h => by
    obtain ⟨_, e2, _, _, _, e3, _, e4⟩ := hR.yes x a c (by rw [hX, h])
    exact ⟨e2, e3, e4⟩
  have HP := Lib.hid (fun w (hw : Ev w) => parse_any w s (by omega) f hw)
  rw [hX] at HP
  have HNO := Lib.hid hno
  have HYES := Lib.hid hyes
  clear hX hR hno hyes h3
  go_enter Tryz.func3, Tryz.ntmps3
  go_wp2_with fail
  refine (works10_any _ HS.out).mono ?_
  rintro e w1 ⟨rfl, hb⟩
  have HB := Lib.hid hb
  clear hb
  go_wp2_with fail
  refine (HP.out _ (HE.out.below (Nat.le_refl _) HB.out)).mono ?_
  rintro e w2 ⟨cs, rfl, hnd, hb2⟩
  have HB2 := Lib.hid (HB.out.trans (hb2.mono HB.out.size))
  have HND := Lib.hid hnd
  obtain ⟨u0, u1, u2, u3, u4, u5, u6, u7, sa, sc, aa, ac, rfl, F⟩ := hnd.form_of
  obtain ⟨rfl, rfl, rfl, rfl, rfl, rfl, rfl, rfl⟩ := F
  obtain ⟨x, hx⟩ : ∃ x, (X, a, c).1.getD (Ps.leafN 0 0) = x := ⟨_, rfl⟩
  rw [hx] at HND
  rw [hx]
  have HXX := Lib.hid hx
  obtain ⟨nb, hnb⟩ : ∃ nb, w2.heap.size = nb := ⟨_, rfl⟩
  obtain ⟨wn, hwn⟩ : ∃ wn, w2.alloc (.cells #[.int .i64 (Td.kind x), .slice sa (Td.set x).length sc, .int .i64 (Td.num x), .string (Td.name x), .int .i64 (Td.mn x), .int .i64 (Td.mx x), .bool (Td.lazy x), .slice aa (Td.subs x).length ac] 26) = wn := ⟨_, rfl⟩
  have hn2 : wn.heap[nb]? = some (.cells #[.int .i64 (Td.kind x), .slice sa (Td.set x).length sc, .int .i64 (Td.num x), .string (Td.name x), .int .i64 (Td.mn x), .int .i64 (Td.mx x), .bool (Td.lazy x), .slice aa (Td.subs x).length ac] 26 (0, 0)) := by rw [← hwn, ← hnb]; exact heap_alloc_new _ _
  have hbn : Below w2.heap.size w2 wn := by rw [← hwn]; exact (Below.refl _ _).alloc (Nat.le_refl _) _
  have HBN := Lib.hid (HB2.out.trans (hbn.mono HB2.out.size))
  have HNDN := Lib.hid (HND.out.kept hbn)
  have HN2 := Lib.hid hn2
  have HWN := Lib.hid hwn
  have HNB := Lib.hid hnb
  obtain ⟨d0, d1, d2, d3, d4, d5, d6, d7⟩ := box_cells hn2
  clear hnd hn2 hbn hwn hnb hx HND hb2
  cases X with
  | none =>
    have hc : (c != 0) = true := by simpa using HNO.out rfl
    have hcn : ¬ c = 0 := HNO.out rfl
    have hcb : (c == 0) = false := by rw [beq_eq_false_iff_ne]; exact hcn
    clear d0 d1 d2 d3 d4 d5 d6 d7
    go_wp2
    go_ret
    rw [HWN.out]
    exact ⟨rfl, HBN.out⟩
  | some x' =>
    obtain ⟨rfl, hck, hlen⟩ := HYES.out x' rfl
    obtain rfl : x' = x := HXX.out
    have HCK := Lib.hid hck
    have hdep : Td.dep 1001 x' ≤ 1000 := by
      unfold Td.checkN at hck
      split at hck
      · cases hck
      · omega
    have HSM := Lib.hid (Td.same_ok hdep)
    have HSH := Lib.hid (fun w (h : Below wn.heap.size wn w) => show_any w x' _ (HNDN.out.kept h) (HS.out.below (Nat.le_refl _) (HBN.out.trans (h.mono HBN.out.size))) hlen)
    have HLEN := Lib.hid hlen
    clear hck hdep hlen HYES HNO HP
    go_wp2_with fail
    rw [HWN.out, HNB.out]
    refine (HSH.out wn (Below.refl _ _)).mono ?_
    rintro e w3 ⟨T, t, rfl, hT, hb3⟩
    have hcode := show_code hT HCK.out
    have HB3 := Lib.hid (HBN.out.trans (hb3.mono HBN.out.size))
    have HBN3 := Lib.hid hb3
    have HT := Lib.hid hT
    clear hb3 hT d0 d1 d2 d3 d4 d5 d6 d7
    rcases hcode with rfl | rfl
    · obtain ⟨hp, hz, _⟩ := show_parse HT.out
      have HP2 := Lib.hid (parse_any w3 T hz 0 (HE.out.below (Nat.le_refl _) HB3.out))
      rw [hp] at HP2
      clear hp hz
      go_wp2_with fail
      refine HP2.out.mono ?_
      rintro e w4 ⟨ds, rfl, hnd4, hb4⟩
      have hnd4 : NdIs w4 x' ds := hnd4
      have HB4 := Lib.hid (HB3.out.trans (hb4.mono HB3.out.size))
      have HBN4 := Lib.hid (HBN3.out.trans (hb4.mono HBN3.out.size))
      have HND4 := Lib.hid hnd4
      obtain ⟨y0, y1, y2, y3, y4, y5, y6, y7, za, zc, ia, ic, rfl, F⟩ := hnd4.form_of
      obtain ⟨rfl, rfl, rfl, rfl, rfl, rfl, rfl, rfl⟩ := F
      obtain ⟨mb, hmb⟩ : ∃ mb, w4.heap.size = mb := ⟨_, rfl⟩
      obtain ⟨w5, hw5⟩ : ∃ w5, w4.alloc (.cells #[.int .i64 (Td.kind x'), .slice za (Td.set x').length zc, .int .i64 (Td.num x'), .string (Td.name x'), .int .i64 (Td.mn x'), .int .i64 (Td.mx x'), .bool (Td.lazy x'), .slice ia (Td.subs x').length ic] 26) = w5 := ⟨_, rfl⟩
      have hm5 : w5.heap[mb]? = some (.cells #[.int .i64 (Td.kind x'), .slice za (Td.set x').length zc, .int .i64 (Td.num x'), .string (Td.name x'), .int .i64 (Td.mn x'), .int .i64 (Td.mx x'), .bool (Td.lazy x'), .slice ia (Td.subs x').length ic] 26 (0, 0)) := by rw [← hw5, ← hmb]; exact heap_alloc_new _ _
      have hb5 : Below w4.heap.size w4 w5 := by rw [← hw5]; exact (Below.refl _ _).alloc (Nat.le_refl _) _
      have HB5 := Lib.hid (HB4.out.trans (hb5.mono HB4.out.size))
      have HBN5 := Lib.hid (HBN4.out.trans (hb5.mono HBN4.out.size))
      have HND5 := Lib.hid (HND4.out.kept hb5)
      have HM5 := Lib.hid hm5
      have HW5 := Lib.hid hw5
      have HMB := Lib.hid hmb
      have HSH5 := Lib.hid (show_any w5 x' _ HND5.out (HS.out.below (Nat.le_refl _) HB5.out) HLEN.out)
      clear hb4 hb5 hnd4 hm5 hw5 hmb
      go_wp2_with fail
      rw [HW5.out, HMB.out]
      refine HSH5.out.mono ?_
      rintro e w6 ⟨U, u, rfl, hU, hb6⟩
      obtain ⟨hu1, rfl⟩ := show_unique hU HT.out
      subst hu1
      have hbn6 := HBN5.out.trans (hb6.mono HBN5.out.size)
      have hx6 := (hbn6.block _ (Array.getElem?_eq_some_iff.1 HN2.out).1).trans HN2.out
      have hm6 := (hb6.block _ (Array.getElem?_eq_some_iff.1 HM5.out).1).trans HM5.out
      have HFN := Lib.hid (trSame_any w6 x' x' _ _ (HNDN.out.kept hbn6) (HND5.out.kept hb6))
      rw [HSM.out] at HFN
      have HB6 := Lib.hid (HB5.out.trans (hb6.mono HB5.out.size))
      obtain ⟨d0, d1, d2, d3, d4, d5, d6, d7⟩ := box_cells hx6
      obtain ⟨e0, e1, e2, e3, e4, e5, e6, e7⟩ := box_cells hm6
      have g1 := (Array.getElem?_eq_some_iff.1 hx6).1
      have g2 := (Array.getElem?_eq_some_iff.1 hm6).1
      clear hb6 hU hbn6 hx6 hm6
      go_wp2_with fail
      refine HFN.out.mono ?_
      rintro e w7 ⟨rfl, hb7⟩
      have HB7 := Lib.hid (HB6.out.trans (hb7.mono HB6.out.size))
      have huu : (U.toList == U.toList) = true := by simp
      clear hb7 d0 d1 d2 d3 d4 d5 d6 d7 e0 e1 e2 e3 e4 e5 e6 e7
      go_wp2
      go_ret
      exact ⟨rfl, HB7.out⟩
    · go_wp2
      go_ret
      exact ⟨rfl, HB3.out⟩
end Go.Proofs.YtanffablfgnioaaGreatDoor
namespace Go.Proofs.YtanffablfgnioaaGreatDoor
open Go.RowKit
set_option linter.unusedVariables false
theorem own8 : ownKnob Tryz.prog.godebug = none := by kernel_rfl
def laid8 : List (String × DataW Unit) := Rows.showAgainRow.laid
/-- The cells of the library's table utf8.first. -/
def firstCells : Array Value := #[.int .u8 240, .int .u8 240, .int .u8 240, .int .u8 240, .int .u8 240, .int .u8 240, .int .u8 240, .int .u8 240, .int .u8 240, .int .u8 240, .int .u8 240, .int .u8 240, .int .u8 240, .int .u8 240, .int .u8 240, .int .u8 240, .int .u8 240, .int .u8 240, .int .u8 240, .int .u8 240, .int .u8 240, .int .u8 240, .int .u8 240, .int .u8 240, .int .u8 240, .int .u8 240, .int .u8 240, .int .u8 240, .int .u8 240, .int .u8 240, .int .u8 240, .int .u8 240, .int .u8 240, .int .u8 240, .int .u8 240, .int .u8 240, .int .u8 240, .int .u8 240, .int .u8 240, .int .u8 240, .int .u8 240, .int .u8 240, .int .u8 240, .int .u8 240, .int .u8 240, .int .u8 240, .int .u8 240, .int .u8 240, .int .u8 240, .int .u8 240, .int .u8 240, .int .u8 240, .int .u8 240, .int .u8 240, .int .u8 240, .int .u8 240, .int .u8 240, .int .u8 240, .int .u8 240, .int .u8 240, .int .u8 240, .int .u8 240, .int .u8 240, .int .u8 240, .int .u8 240, .int .u8 240, .int .u8 240, .int .u8 240, .int .u8 240, .int .u8 240, .int .u8 240, .int .u8 240, .int .u8 240, .int .u8 240, .int .u8 240, .int .u8 240, .int .u8 240, .int .u8 240, .int .u8 240, .int .u8 240, .int .u8 240, .int .u8 240, .int .u8 240, .int .u8 240, .int .u8 240, .int .u8 240, .int .u8 240, .int .u8 240, .int .u8 240, .int .u8 240, .int .u8 240, .int .u8 240, .int .u8 240, .int .u8 240, .int .u8 240, .int .u8 240, .int .u8 240, .int .u8 240, .int .u8 240, .int .u8 240, .int .u8 240, .int .u8 240, .int .u8 240, .int .u8 240, .int .u8 240, .int .u8 240, .int .u8 240, .int .u8 240, .int .u8 240, .int .u8 240, .int .u8 240, .int .u8 240, .int .u8 240, .int .u8 240, .int .u8 240, .int .u8 240, .int .u8 240, .int .u8 240, .int .u8 240, .int .u8 240, .int .u8 240, .int .u8 240, .int .u8 240, .int .u8 240, .int .u8 240, .int .u8 240, .int .u8 240, .int .u8 240, .int .u8 241, .int .u8 241, .int .u8 241, .int .u8 241, .int .u8 241, .int .u8 241, .int .u8 241, .int .u8 241, .int .u8 241, .int .u8 241, .int .u8 241, .int .u8 241, .int .u8 241, .int .u8 241, .int .u8 241, .int .u8 241, .int .u8 241, .int .u8 241, .int .u8 241, .int .u8 241, .int .u8 241, .int .u8 241, .int .u8 241, .int .u8 241, .int .u8 241, .int .u8 241, .int .u8 241, .int .u8 241, .int .u8 241, .int .u8 241, .int .u8 241, .int .u8 241, .int .u8 241, .int .u8 241, .int .u8 241, .int .u8 241, .int .u8 241, .int .u8 241, .int .u8 241, .int .u8 241, .int .u8 241, .int .u8 241, .int .u8 241, .int .u8 241, .int .u8 241, .int .u8 241, .int .u8 241, .int .u8 241, .int .u8 241, .int .u8 241, .int .u8 241, .int .u8 241, .int .u8 241, .int .u8 241, .int .u8 241, .int .u8 241, .int .u8 241, .int .u8 241, .int .u8 241, .int .u8 241, .int .u8 241, .int .u8 241, .int .u8 241, .int .u8 241, .int .u8 241, .int .u8 241, .int .u8 2, .int .u8 2, .int .u8 2, .int .u8 2, .int .u8 2, .int .u8 2, .int .u8 2, .int .u8 2, .int .u8 2, .int .u8 2, .int .u8 2, .int .u8 2, .int .u8 2, .int .u8 2, .int .u8 2, .int .u8 2, .int .u8 2, .int .u8 2, .int .u8 2, .int .u8 2, .int .u8 2, .int .u8 2, .int .u8 2, .int .u8 2, .int .u8 2, .int .u8 2, .int .u8 2, .int .u8 2, .int .u8 2, .int .u8 2, .int .u8 19, .int .u8 3, .int .u8 3, .int .u8 3, .int .u8 3, .int .u8 3, .int .u8 3, .int .u8 3, .int .u8 3, .int .u8 3, .int .u8 3, .int .u8 3, .int .u8 3, .int .u8 35, .int .u8 3, .int .u8 3, .int .u8 52, .int .u8 4, .int .u8 4, .int .u8 4, .int .u8 68, .int .u8 241, .int .u8 241, .int .u8 241, .int .u8 241, .int .u8 241, .int .u8 241, .int .u8 241, .int .u8 241, .int .u8 241, .int .u8 241, .int .u8 241]
/-- A world with the library's table utf8.first laid. -/
def pinW (w : World) : World := { w with heap := w.heap.setIfInBounds 5 (.cells firstCells 213 (0, 0)) }
/-- What a listed part reads as, with its places told. -/
structure MetB (P : Program) (w : World) (l : List (String × DataW Unit)) (ps : List MemPlace) : Prop where
  vars : DataW.LaidVars P w l ps
  nodup : ps.Nodup
  rows : ∀ b off, MemPlace.cell b off ∈ ps → (∃ c t, w.heap[b]? = some (.cells c t (0, 0))) ∧ ∀ u v, w.cell? ⟨b, off, none⟩ = some (.iface u v) → Value.okWide P w .any 0 u v
theorem MetB.app {P : Program} {w : World} {l l' : List (String × DataW Unit)} {ps qs : List MemPlace} (h : MetB P w l ps) (k : MetB P w l' qs) (hd : ∀ x ∈ ps, ∀ y ∈ qs, x ≠ y) : MetB P w (l ++ l') (ps ++ qs) :=
  ⟨LaidVars_app h.vars k.vars, List.nodup_append.2 ⟨h.nodup, k.nodup, fun x hx y hy => hd x hx y hy⟩, fun b off hm => (List.mem_append.1 hm).elim (h.rows b off) (k.rows b off)⟩
theorem met_of_run {P : Program} {w : World} {l : List (String × DataW Unit)} (p : MemPlace → Bool) (fuel : Nat) (h : (DataW.laidRun P w fuel (l.map (·.1))).map (·.1) = some l)
    (hr : (DataW.laidRun P w fuel (l.map (·.1))).map (fun x => decide x.2.Nodup && laidRowsB P w x.2 && x.2.all p) = some true) : ∃ ps, MetB P w l ps ∧ ∀ x ∈ ps, p x = true := by
  cases hx : DataW.laidRun P w fuel (l.map (·.1)) with
  | none => simp [hx] at h
  | some x =>
    obtain ⟨l', ps⟩ := x
    simp only [hx, Option.map_some, Option.some.injEq] at h hr
    subst h
    simp only [Bool.and_eq_true] at hr
    refine ⟨ps, ⟨DataW.LaidVars_of_laidRun hx, of_decide_eq_true hr.1.1, fun b off hp => ?_⟩, List.all_eq_true.1 hr.2⟩
    have := List.all_eq_true.1 hr.1.2 _ hp
    simp only [Bool.and_eq_true] at this
    obtain ⟨h1, h2⟩ := this
    refine ⟨?_, fun u v hc => ?_⟩
    · split at h1
      · rename_i c t hh
        exact ⟨c, t, hh⟩
      · cases h1
    · rw [hc] at h2
      exact Value.okWide_of_okWideB h2
def plA (m : MemPlace) : Bool := m.block != 4 && m.block != 5
def plB (m : MemPlace) : Bool := m.block == 4
def plC (m : MemPlace) : Bool := m.block == 5
theorem door8a (os : Os) (args : Array Value) : ∃ ps, MetB Tryz.prog ((pinW (World.doorLaid Tryz.prog 96 os)).forCall (fun _ _ => 0) ⟨#[], args, []⟩).memory (laid8.take 7) ps ∧ ∀ x ∈ ps, plA x = true :=
  met_of_run plA 257 (by kernel_rfl) (by kernel_rfl)
theorem door8b (os : Os) (args : Array Value) : ∃ ps, MetB Tryz.prog ((pinW (World.doorLaid Tryz.prog 96 os)).forCall (fun _ _ => 0) ⟨#[], args, []⟩).memory ([("strings.asciiSpace", Rows.laid_strings_asciiSpace)]) ps ∧ ∀ x ∈ ps, plB x = true :=
  met_of_run plB 257 (by kernel_rfl) (by kernel_rfl)
theorem door8c (os : Os) (args : Array Value) : ∃ ps, MetB Tryz.prog ((pinW (World.doorLaid Tryz.prog 96 os)).forCall (fun _ _ => 0) ⟨#[], args, []⟩).memory ([("unicode/utf8.first", Rows.laid_unicode_utf8_first)]) ps ∧ ∀ x ∈ ps, plC x = true :=
  met_of_run plC 257 (by kernel_rfl) (by kernel_rfl)
theorem door8 (os : Os) (args : Array Value) : laidMetH Tryz.prog laid8 ((pinW (World.doorLaid Tryz.prog 96 os)).forCall (fun _ _ => 0) ⟨#[], args, []⟩).memory := by
  rw [MakeChecks.laidMetH_plain _ _ _ (by kernel_rfl)]
  obtain ⟨ps, h1, k1⟩ := door8a os args
  obtain ⟨qs, h2, k2⟩ := door8b os args
  obtain ⟨rs, h3, k3⟩ := door8c os args
  have e : laid8 = laid8.take 7 ++ ([("strings.asciiSpace", Rows.laid_strings_asciiSpace)] ++ [("unicode/utf8.first", Rows.laid_unicode_utf8_first)]) := rfl
  rw [e]
  have hbc : ∀ x ∈ qs, ∀ y ∈ rs, x ≠ y := fun x hx y hy h => by
    have a := k2 x hx
    have b := k3 y hy
    rw [h] at a
    unfold plB at a
    unfold plC at b
    simp only [beq_iff_eq] at a b
    rw [a] at b
    cases b
  have h9 := h1.app (h2.app h3 hbc) (fun x hx y hy h => by
    have a := k1 x hx
    unfold plA at a
    simp only [Bool.and_eq_true, bne_iff_ne, ne_eq] at a
    rw [h] at a
    rcases List.mem_append.1 hy with hy | hy
    · have b := k2 y hy
      unfold plB at b
      simp only [beq_iff_eq] at b
      exact a.1 b
    · have b := k3 y hy
      unfold plC at b
      simp only [beq_iff_eq] at b
      exact a.2 b)
  exact ⟨_, h9.vars, h9.nodup, h9.rows⟩
end Go.Proofs.YtanffablfgnioaaGreatDoor
namespace Go.Proofs.YtanffablfgnioaaGreatDoor
open Go.RowKit
set_option linter.unusedVariables false
theorem laid_tab8 : (Rows.laid_strings_asciiSpace : DataW Unit) = Lib.tabData .u8 Lib.asciiSpaceTab := by kernel_rfl
theorem spaces_of8 {W : World} (h : laidMetH Tryz.prog laid8 W) : Spaces W := by
  rw [MakeChecks.laidMetH_plain _ _ _ (by kernel_rfl)] at h
  have h' : laidMet Tryz.prog [("strings.asciiSpace", Rows.laid_strings_asciiSpace), ("unicode/utf8.first", Rows.laid_unicode_utf8_first)] W := h.tail.tail.tail.tail.tail.tail.tail
  rw [laid_tab8] at h'
  exact Lib.tabIs_of_head (g := 4) (by kernel_rfl) (by kernel_rfl) (t := 213) (n := 256) Tryz.underlying213 Tryz.underlying5 (by kernel_rfl) (by kernel_rfl) h'
theorem ev_of {W : World} (h : laidMetH Tryz.prog laid8 W) (hs : W.ShapedOpen Tryz.prog) : Ev W := by
  have hm : ∃ m, W.cell? ⟨0, 0, none⟩ = some (.int .i64 m) :=
    cell_of_shapedOpen_int (zero := #[.int .i64 0]) (t := 3) hs (of_decide_eq_true (by kernel_rfl)) (by kernel_rfl) rfl (by kernel_rfl) (by kernel_rfl) Tryz.underlying3
  refine ⟨spaces_of8 h, ?_, hm⟩
  obtain ⟨m, hm⟩ := hm
  rcases Nat.lt_or_ge 0 W.heap.size with h9 | h9
  · exact h9
  · simp [World.cell?, Array.getElem?_eq_none h9] at hm
section
variable {H : Type} {enc : TypeId × Value → H}
/-- The kit's law for rows that ask something of the world, the world's shape told, too. -/
theorem returnsInHanded_of_change_and_shaped {a : Assume} {C : Checked} {os : Os} {f : FuncId} {fn : Func} {s : ChangeSpec} {conds : List PathCond} {apart fresh handsOn again : Bool} {X : World → Array Value → Prop}
    (hX : ∀ (w w' : World) (args : Array Value), w.heap = w'.heap → X w args → X w' args)
    (own : ownKnob C.prog.godebug = none) (started : os.Started) (noInit : C.prog.inits.idxOf? f = none) (hfn : C.prog.funcs[f]? = some fn)
    (witness : ∃ (w : World) (tape : Tape) (i : Input), w.os = os ∧ (w.forCall tape i).Shaped C.prog ∧ i.vars = [] ∧ Input.okWide C.prog (w.forCall tape i) .any w.heap.size f i ∧
      ((s.pre enc C.prog fn conds apart (w.forCall tape i).memory i.args ∧ X (w.forCall tape i).memory i.args) ∧ sizedMet enc C.prog fn (OpenSpec.ofChange s) apart (w.forCall tape i).memory i.args) ∧ a.holds C.prog (lone (Frame.enter C.prog f i.args .normal) [] (w.forCall tape i)))
    (contract : ∀ (W : World) (base : Nat) (args : Array Value) (ds gs : List (DataW H)) (before : List MemPlace),
      (∀ (j : Nat) t v, fn.params[j]? = some t → args[j]? = some v → Value.okWide C.prog W .any base t v) →
      DataW.Whole enc C.prog fn.params.toList s.vars apart W args.toList ds gs before →
      conds.all (PathCond.test C.prog ⟨fn.params.toList, ds, s.plain.varTypes C.prog, gs⟩) = true →
      (DataW.weightsEach C.prog (fn.params.toList ++ s.plain.varTypes C.prog) (ds ++ gs)).all (· ≤ reachBytes) = true → X W args →
      W.ShapedOpen C.prog →
      a.holds C.prog (lone (Frame.enter C.prog f args .normal) [] W) →
      Calls C.prog f args W fun e W' => ∃ v, e = .returned v ∧ s.post enc C.prog fn apart fresh handsOn again W args v W') :
    ReturnsInHanded a C os f .any (fun w args => (s.pre enc C.prog fn conds apart w args ∧ X w args) ∧ sizedMet enc C.prog fn (OpenSpec.ofChange s) apart w args) (s.post enc C.prog fn apart fresh handsOn again) := by
  refine returnsInHanded_of_calls own started noInit witness ?_
  intro w tape i _ hsh _ hok hpre hholds
  obtain ⟨_, _, _, fn', hfn', _, _, _, _, hval⟩ := hok
  have e : fn' = fn := Option.some.inj (hfn'.symm.trans hfn)
  subst e
  obtain ⟨⟨⟨ds, gs, before, hw, hc⟩, hx⟩, hz⟩ := hpre
  have hw' := DataW.Whole.of_heap (w' := w.forCall tape i) (by rfl) hw
  refine (contract (w.forCall tape i) w.heap.size i.args ds gs before hval hw' hc (hz.weights hw) (hX _ _ _ (by rfl) hx) hsh hholds).mono fun e W' ⟨v, he, hp⟩ => ?_
  subst he
  exact ChangeSpec.post_blind hp
end
end Go.Proofs.YtanffablfgnioaaGreatDoor
namespace Go.Proofs.YtanffablfgnioaaGreatDoor
open Go.RowKit
set_option linter.unusedVariables false
theorem laid8_db : (Rows.laid_math_bits_deBruijn64tab : DataW Unit) = Lib.tabData .u8 (Lib.deBruijn64tab.map (fun n : Nat => (n : Int))) := by kernel_rfl
theorem laid8_p10 : (Rows.laid_internal_strconv_uint64pow10 : DataW Unit) = Lib.tabData .u64 Lib.pow10Tab := by kernel_rfl
theorem evs_of8 {W : World} (h : laidMetH Tryz.prog laid8 W) : EvS W := by
  rw [MakeChecks.laidMetH_plain _ _ _ (by kernel_rfl)] at h
  have h1 : laidMet Tryz.prog (("math/bits.deBruijn64tab", Rows.laid_math_bits_deBruijn64tab) :: laid8.drop 2) W := h.tail
  have h2 : laidMet Tryz.prog (("internal/strconv.uint64pow10", Rows.laid_internal_strconv_uint64pow10) :: laid8.drop 3) W := h.tail.tail
  rw [laid8_db] at h1
  rw [laid8_p10] at h2
  have t1 := Lib.tabIs_of_head (g := 8) (by kernel_rfl) (by kernel_rfl) (t := 237) (n := 64) Tryz.underlying237 Tryz.underlying5 (by kernel_rfl) (by kernel_rfl) h1
  refine ⟨?_, Lib.tabIs_of_head (g := 1) (by kernel_rfl) (by kernel_rfl) (t := 190) (n := 20) Tryz.underlying190 Tryz.underlying158 (by kernel_rfl) (by kernel_rfl) h2⟩
  have h3 := t1.cell (g := 8) (by kernel_rfl) (16 * 285870213051353865 % 18446744073709551616 / 288230376151711744) (by decide +kernel)
  exact h3
end Go.Proofs.YtanffablfgnioaaGreatDoor
namespace Go.Proofs.YtanffablfgnioaaGreatDoor
open Go.ChangeShapes Go.WideShapes
set_option linter.unusedVariables false
def j1B (P : Program) (f : FuncId) (fn : Func) (s : ChangeSpec) (c : OpenClaim) : Bool := c.inPlace == P.inPlace f
def j2B (P : Program) (f : FuncId) (fn : Func) (s : ChangeSpec) (c : OpenClaim) : Bool := c.unfollowed == P.unfollowed f
def j3B (P : Program) (f : FuncId) (fn : Func) (s : ChangeSpec) (c : OpenClaim) : Bool := c.recurses == P.recurses f
def j4B (P : Program) (f : FuncId) (fn : Func) (s : ChangeSpec) (c : OpenClaim) : Bool := c.named == P.varsNamed f
def j5B (P : Program) (f : FuncId) (fn : Func) (s : ChangeSpec) (c : OpenClaim) : Bool := c.wf (OpenSpec.ofChange s) && laidOutB P && mapsRowed P && fn.params.all (P.readableRec ·) && namedTie P c.named s.vars && (c.stops == []) && (P.stops == []) && (c.knobs == []) && (P.stopKnobs == [])
def j6B (P : Program) (f : FuncId) (fn : Func) (s : ChangeSpec) (c : OpenClaim) : Bool := (c.maps == (fn.params.toList ++ s.plain.varTypes P).any (P.mapsRec ·)) && (c.ifaces == (fn.params.toList ++ s.plain.varTypes P).any (P.ifacesRec ·)) && (c.mapsOut == P.mapsAmong fn.resultTypes.toList) && (c.loops == (fn.params.toList ++ s.plain.varTypes P).any (P.loopsFrom ·)) && (c.wideKeys == (fn.params.toList ++ s.plain.varTypes P ++ fn.resultTypes.toList).any (P.wideKeysFrom ·))
def j7B (P : Program) (f : FuncId) (fn : Func) (s : ChangeSpec) (c : OpenClaim) : Bool := s.vars.all (P.varReadable ·) && fn.resultTypes.all (fun t => P.readableRec t && decide (t < P.types.size)) && (c.ifacesOut == fn.resultTypes.toList.any (P.ifacesRec ·)) && (c.loopsOut == fn.resultTypes.toList.any (P.loopsFrom ·)) && (c.plainKeys == P.plainKeys) && c.shortTexts.isNone && P.stopsHeard
def j8B (P : Program) (f : FuncId) (fn : Func) (s : ChangeSpec) (c : OpenClaim) : Bool := P.mayEnter
def j9B (P : Program) (f : FuncId) (fn : Func) (s : ChangeSpec) (c : OpenClaim) : Bool := (c.lifted == P.liftsFinal) && (P.make == some c.make)
def j10B (P : Program) (f : FuncId) (fn : Func) (s : ChangeSpec) (c : OpenClaim) : Bool := (c.kinds == (if c.domain.isEmpty then [] else fn.params.toList.map fun t => match P.underlying t with | some (.int k) => some k | _ => none)) && (c.pinned == c.pinnedBy)
def j11B (P : Program) (f : FuncId) (fn : Func) (s : ChangeSpec) (c : OpenClaim) : Bool := (c.veiled == (fn.params.toList ++ s.plain.varTypes P ++ fn.resultTypes.toList).any (P.veiledRec ·)) && c.veiledFits P fn.params.toList (fn.params.toList ++ s.plain.varTypes P ++ fn.resultTypes.toList)
theorem joined_of (P : Program) (f : FuncId) (fn : Func) (s : ChangeSpec) (c : OpenClaim) (h1 : j1B P f fn s c = true) (h2 : j2B P f fn s c = true) (h3 : j3B P f fn s c = true) (h4 : j4B P f fn s c = true) (h5 : j5B P f fn s c = true) (h6 : j6B P f fn s c = true) (h7 : j7B P f fn s c = true) (h8 : j8B P f fn s c = true) (h9 : j9B P f fn s c = true) (h10 : j10B P f fn s c = true) (h11 : j11B P f fn s c = true) : joinedFacts P f fn s c = true := by
  unfold j1B j2B j3B j4B j5B j6B j7B j8B j9B j10B j11B at *
  unfold joinedFacts
  simp only [Bool.and_eq_true] at *
  obtain ⟨⟨⟨⟨⟨⟨⟨⟨h5x1, h5x2⟩, h5x3⟩, h5x4⟩, h5x5⟩, h5x6⟩, h5x7⟩, h5x8⟩, h5x9⟩ := h5
  obtain ⟨⟨⟨⟨h6x1, h6x2⟩, h6x3⟩, h6x4⟩, h6x5⟩ := h6
  obtain ⟨⟨⟨⟨⟨⟨h7x1, h7x2⟩, h7x3⟩, h7x4⟩, h7x5⟩, h7x6⟩, h7x7⟩ := h7
  obtain ⟨h9x1, h9x2⟩ := h9
  obtain ⟨h10x1, h10x2⟩ := h10
  obtain ⟨h11x1, h11x2⟩ := h11
  and_intros <;> assumption
end Go.Proofs.YtanffablfgnioaaGreatDoor
