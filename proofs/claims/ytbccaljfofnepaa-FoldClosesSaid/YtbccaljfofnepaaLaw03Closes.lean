/- burinlaw03.FoldCloses: the walk. -/
import Derived.Test.YtbccaljfofnepaaLaw03W
import Derived.Test.YtbccaljfofnepaaFnF
import Derived.Test.YtbccaljfofnepaaRgG
import Derived.Test.YtbccaljfofnepaaRgH
namespace Go.Proofs.Ytbccaljfofnepaa
open Go.RowKit
set_option linter.unusedVariables false
set_option maxRecDepth 100000 in
set_option maxHeartbeats 4000000 in
theorem walkFoldCloses (W : World) (v : Value) (l : List (Int × Int)) (hr : RRow W v l) :
    Calls Try.prog 4 #[v] W fun e w' => e = .returned (.bool true) ∧ Below W.heap.size W w' := by
  have HR := Lib.hid hr
  obtain ⟨a, ca, rfl, hl, _⟩ := hr
  obtain ⟨n, hn⟩ : ∃ n, l.length = n := ⟨_, rfl⟩
  rw [hn] at HR hl ⊢
  have HN := Lib.hid hn
  clear hn
  by_cases h1 : 6 < n
  · go_enter Try.func4, Try.ntmps4
    go_wp2_with fail
    refine (works_any _).mono ?_
    rintro e w1 ⟨rfl, hb⟩
    have D1 := Lib.hid hb
    clear hb
    go_wp2
    go_ret
    exact ⟨rfl, D1.out⟩
  · have h2 : ¬ (6 : Int) < (n : Int) := by omega
    go_enter Try.func4, Try.ntmps4
    go_wp2_with fail
    refine (lend_any _ _ l n HN.out HR.out).mono ?_
    rintro e w1 ⟨g, cap, rfl, hlt, hb⟩
    have LE := Lib.hid hlt
    have E1 := Lib.hid hb
    clear hlt hb
    go_wp2_with fail
    refine (close_any _ _ l LE.out.row).mono ?_
    rintro e w2 ⟨vm, om, rfl, hn1, hq1, ho, hb⟩
    have N1 := Lib.hid hn1
    have Q1 := Lib.hid hq1
    have O2 := Lib.hid ho
    have D2 := Lib.hid hb
    clear hn1 hq1 ho hb
    go_wp2_with fail
    refine (refClose_any _ _ l (HR.out.below (Nat.le_refl _) (E1.out.trans (D2.out.mono E1.out.size)))).mono ?_
    rintro e w3 ⟨vr, orr, rfl, hn1, hq1, ho, hb⟩
    have EQ := Lib.hid (Rg.norm_ext N1.out hn1 (fun q _ _ => by rw [Q1.out, hq1]))
    have R3 := Lib.hid (ho.normRow hn1)
    have O3 := Lib.hid (O2.out.below hb)
    have D3 := Lib.hid (D2.out.trans (hb.mono D2.out.size))
    clear hn1 hq1 ho hb Q1 O2
    go_wp2_with fail
    refine (same_refl_row _ _ _ _ _ (O3.out.normRow N1.out) R3.out EQ.out).mono ?_
    rintro e w4 ⟨rfl, hb⟩
    have O4 := Lib.hid (O3.out.below hb)
    have D4 := Lib.hid (D3.out.trans (hb.mono D3.out.size))
    clear hb O3 R3 EQ
    go_wp2_with fail
    refine (spoil_only _ _ _ _ O4.out D4.out.size).mono ?_
    rintro e w5 ⟨rfl, hb, _⟩
    have D5 := Lib.hid (D4.out.trans hb)
    clear hb O4 N1
    go_wp2_with fail
    refine (kept_any _ _ _ _ _ l (LE.out.below D5.out) (HR.out.below (Nat.le_refl _) (E1.out.trans (D5.out.mono E1.out.size)))).mono ?_
    rintro e w6 ⟨rfl, d, hd⟩
    have D6 : Hid (Below w1.heap.size w1 w6) := Lib.hid (by rw [hd]; exact below_drewN D5.out d)
    clear hd
    go_wp2_with fail
    refine (works_any _).mono ?_
    rintro e w7 ⟨rfl, hb⟩
    have D7 := Lib.hid (D6.out.trans (hb.mono D6.out.size))
    clear hb
    go_wp2
    go_ret
    exact ⟨rfl, E1.out.trans (D7.out.mono E1.out.size)⟩
end Go.Proofs.Ytbccaljfofnepaa
