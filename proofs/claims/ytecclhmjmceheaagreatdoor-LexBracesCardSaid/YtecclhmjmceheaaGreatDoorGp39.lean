/- The landed lex: all tokens (Lex). · burinlaw08: what its statements share: a row of tokens read, the example of the chapter. · A region that draws its order, whose operations only read and whose callees make memory of their own: walked once, in the class of the worlds that have turned nothing old. -/
import Derived.Test.YtecclhmjmceheaaGreatDoorGp37
import Derived.Test.YtecclhmjmceheaaGreatDoorGp38
import Derived.Test.YtecclhmjmceheaaGreatDoorGp10
import Derived.Deep.QuietTactic
namespace Go.Proofs.YtecclhmjmceheaaGreatDoor
open Go.RowKit
open Lx (Tk TR LR)
set_option linter.unusedVariables false
/-- What Lex hands back. -/
def LexPost (R : LR) (W : World) (e : Ending) (w' : World) : Prop :=
  Below W.heap.size W w' ∧ ((∃ o c, R = .bad o c ∧ e = .returned (.tuple #[.slice none 0 0, .int .i64 o, .int .i64 c])) ∨ ∃ T v, R = .ok T ∧ e = .returned (.tuple #[v, .int .i64 0, .int .i64 0]) ∧ TkOwn w' W.heap.size v T ∧ T.length ≤ 100000)
theorem turn_is (q : Bool) (l : List Int) : Lx.turnB q l = decide (l[0]?.getD 0 = 92 ∧ l[1]?.getD 0 = if q then 69 else 81) := by
  unfold Lx.turnB
  rw [Bool.eq_iff_iff]
  simp
set_option maxRecDepth 100000 in
set_option maxHeartbeats 8000000 in
theorem lex_any (W : World) (s : ByteArray) (hs : s.size ≤ 400) (hE : Ev W) : Calls Tryz.prog 13 #[.string s] W (LexPost (Lx.lexR s 0 false []) W) := by
  have HE := Lib.hid hE
  obtain ⟨R, hR⟩ : ∃ R, Lx.lexR s 0 false [] = R := ⟨_, rfl⟩
  rw [hR]
  have HR := Lib.hid hR
  clear hE hR
  have hmx : ¬ (4096 : Int) < (s.size : Int) := by omega
  go_enter Tryz.func13, Tryz.ntmps13
  go_wp2
  go_loopw [2, 3, 5] (fun V A Q wr => ∃ (k : Nat) (q : Bool) (T : List (Int × Tk)) (v : Value), k ≤ s.size + 1 ∧ T.length ≤ k ∧ v = V ∧ A = .int .i64 (k : Int) ∧ Q = .bool q ∧ Hid (Lx.lexR s k q T = R) ∧ Hid (TkOwn wr W.heap.size v T) ∧ Hid (Below W.heap.size W wr)) (fun _ A _ _ => s.size + 1 - (intOf A).toNat)
  case atStart => exact ⟨0, false, [], _, by omega, Nat.le_refl _, rfl, rfl, rfl, HR, Lib.hid (TkOwn.nil _ _), Lib.hid (Below.refl _ _)⟩
  case round =>
    obtain ⟨k, q, T, v, hk, hTk, rfl, rfl, rfl, HRS, HT, HB⟩ := hrel
    by_cases hend : s.size ≤ k
    · have hlt : ¬ (k : Int) < (s.size : Int) := by omega
      have HX : Hid (R = .ok T) := Lib.hid (HRS.out.symm.trans (Lx.lexR_end hend))
      clear hend
      go_wp2
      go_ret3
      exact ⟨HB.out, .inr ⟨T, _, HX.out, rfl, HT.out, by omega⟩⟩
    have hks : k < s.size := by omega
    have hlt : (k : Int) < (s.size : Int) := by omega
    have hki : (k : Int) ≤ (s.size : Int) := by omega
    have hz : (s.extract k s.size).size = s.size - k := by rw [ByteArray.size_extract]; omega
    have hok := Lx.one_ok q (s.extract k s.size) (by omega)
    rw [hz] at hok
    cases q with
    | false =>
      have HP := Lib.hid (fun w => hasPre2g w (s.extract k s.size) 92 81 (by decide) (by decide))
      rw [tail_drop, show (((92 : UInt8).toNat : Nat) : Int) = 92 from rfl, show (((81 : UInt8).toNat : Nat) : Int) = 81 from rfl] at HP
      have htn := turn_is false ((Utf.nums s).drop k)
      have HTK := Lib.hid (fun w (hw : Ev w) => token_any w (s.extract k s.size) (by omega) (by omega) hw)
      by_cases hc : Lx.turnB false ((Utf.nums s).drop k) = true
      · have hd : decide (((Utf.nums s).drop k)[0]?.getD 0 = 92 ∧ ((Utf.nums s).drop k)[1]?.getD 0 = 81) = true := htn.symm.trans hc
        rw [hd] at HP
        have HN : Hid (Lx.lexR s (k + 2) (!false) T = R) := Lib.hid ((Lx.lexR_turn hks hc).symm.trans HRS.out)
        have h2 : k + 2 ≤ s.size + 1 := by omega
        have hw : IntKind.i64.wrap ((k : Int) + 2) = ((k + 2 : Nat) : Int) := by rw [IntKind.wrap_i64]; omega
        clear hc hd htn hend hok
        go_wp2_with fail
        refine (HP.out _).mono ?_
        rintro e9 w9 ⟨rfl, rfl⟩
        go_wp2
        go_roundw
        case rel => exact ⟨k + 2, !false, T, _, h2, by omega, rfl, by go_num, rfl, HN, HT, HB⟩
        case measure => simp [intOf]; omega
      have hcf : Lx.turnB false ((Utf.nums s).drop k) = false := by simpa using hc
      have hd : decide (((Utf.nums s).drop k)[0]?.getD 0 = 92 ∧ ((Utf.nums s).drop k)[1]?.getD 0 = 81) = false := htn.symm.trans hcf
      rw [hd] at HP
      have hbad := fun n c h => Lx.lexR_bad (s := s) (at_ := k) (q := false) (T := T) (n := n) (c := c) hks hcf h
      have htok := fun t n h => Lx.lexR_tok (s := s) (at_ := k) (q := false) (T := T) (t := t) (n := n) hks hcf h
      have HBAD := Lib.hid hbad
      have HTOK := Lib.hid htok
      have HOK := Lib.hid hok
      clear hc hcf hd htn hend hok hbad htok
      go_wp2_with fail
      refine (HP.out _).mono ?_
      rintro e9 w9 ⟨rfl, rfl⟩
      go_wp2_with fail
      refine (HTK.out _ (HE.out.below (Nat.le_refl _) HB.out)).mono ?_
      intro e9 w1 hp
      obtain ⟨hb1, hp⟩ := hp
      have HB1 := Lib.hid (HB.out.trans (hb1.mono HB.out.size))
      have HT1 := Lib.hid (HT.out.kept hb1)
      rcases hp with ⟨kd, o, c, hx, rfl⟩ | ⟨t, m, vs, out, hx, rfl, hi, ho⟩
      · have hx' : Lx.oneX false (s.extract k s.size) = .bad o c := hx
        have hok := HOK.out
        rw [hx'] at hok
        obtain ⟨ho0, ho1, hc0⟩ := hok
        have HX : Hid (R = .bad (k + o) c) := Lib.hid (HRS.out.symm.trans (HBAD.out o c hx'))
        have hcb : (c != 0) = true := by simpa using hc0
        have hw : IntKind.i64.wrap ((k : Int) + o) = (k : Int) + o := by rw [IntKind.wrap_i64]; omega
        clear hb1 hx hx' hc0
        unfold tkV
        go_wp2
        go_ret3
        exact ⟨HB1.out.alloc HB1.out.size _, .inl ⟨_, _, HX.out, rfl⟩⟩
      · have hx' : Lx.oneX false (s.extract k s.size) = .ok t m := hx
        have hok := HOK.out
        rw [hx'] at hok
        obtain ⟨hm1, hm2, _, _⟩ := hok
        have HX : Hid (Lx.lexR s (k + m) false (T ++ [((k : Int), t)]) = R) := Lib.hid ((HTOK.out t m hx').symm.trans HRS.out)
        have hw : IntKind.i64.wrap ((k : Int) + (m : Int)) = ((k + m : Nat) : Int) := by rw [IntKind.wrap_i64]; omega
        obtain ⟨va, vc, rfl⟩ := own_slice ho
        unfold tkV
        obtain ⟨A, hA⟩ : ∃ A : Obj, A = .cells #[.int .i64 t.kind, .int .i64 (k : Int), .int .i64 t.num, .string t.name, .int .i64 t.mn, .int .i64 t.mx, .bool t.lazy, .slice va out.length vc] 35 := ⟨_, rfl⟩
        have hbw : Below w1.heap.size w1 ((w1.alloc A).alloc A) := ((Below.refl _ w1).alloc (Nat.le_refl _) A).alloc (by simp) A
        have hnew := heap_alloc_new (w1.alloc A) A
        rw [show (w1.alloc A).heap.size = w1.heap.size + 1 from by simp] at hnew
        rw [hA] at hnew
        have hlt9 := HT.out.lt
        have hB9 := HB1.out.trans (hbw.mono HB1.out.size)
        obtain ⟨v', w2, hrun, hown, hb2⟩ := append_tok ((w1.alloc A).alloc A) W.heap.size v T (HT1.out.kept hbw) hB9.size (by omega) (k : Int) t (.slice va out.length vc) rfl (w1.heap.size + 1) (by rw [hA]; exact World.news_of_block hnew) ((setAt_new hi ho (fun b hb => (hlt9 b hb).2)).kept hbw) 1
        have HB2 := Lib.hid (hB9.trans hb2)
        have HOW := Lib.hid hown
        subst hA
        have HRUN := Lib.hid hrun
        have hTl : (T ++ [((k : Int), t)]).length ≤ k + m := by rw [List.length_append]; show T.length + 1 ≤ k + m; omega
        have hkm : k + m ≤ s.size + 1 := by omega
        clear hx hx' hbw hnew hlt9 hB9 hrun hown hb2 hi ho hb1
        go_wp2_with (at_builtin; (refine wpList_append_run rfl _ _ 24 rfl _ _ _ w2 rfl rfl HRUN.out ?_))
        go_roundw
        case rel => exact ⟨k + m, false, T ++ [((k : Int), t)], _, hkm, hTl, rfl, by go_num, rfl, HX, HOW, HB2⟩
        case measure => simp [intOf]; omega
    | true =>
      have HP := Lib.hid (fun w => hasPre2g w (s.extract k s.size) 92 69 (by decide) (by decide))
      rw [tail_drop, show (((92 : UInt8).toNat : Nat) : Int) = 92 from rfl, show (((69 : UInt8).toNat : Nat) : Int) = 69 from rfl] at HP
      have htn := turn_is true ((Utf.nums s).drop k)
      have HTK := Lib.hid (fun w => character_any w (s.extract k s.size) (by omega))
      by_cases hc : Lx.turnB true ((Utf.nums s).drop k) = true
      · have hd : decide (((Utf.nums s).drop k)[0]?.getD 0 = 92 ∧ ((Utf.nums s).drop k)[1]?.getD 0 = 69) = true := htn.symm.trans hc
        rw [hd] at HP
        have HN : Hid (Lx.lexR s (k + 2) (!true) T = R) := Lib.hid ((Lx.lexR_turn hks hc).symm.trans HRS.out)
        have h2 : k + 2 ≤ s.size + 1 := by omega
        have hw : IntKind.i64.wrap ((k : Int) + 2) = ((k + 2 : Nat) : Int) := by rw [IntKind.wrap_i64]; omega
        clear hc hd htn hend hok
        go_wp2_with fail
        refine (HP.out _).mono ?_
        rintro e9 w9 ⟨rfl, rfl⟩
        go_wp2
        go_roundw
        case rel => exact ⟨k + 2, !true, T, _, h2, by omega, rfl, by go_num, rfl, HN, HT, HB⟩
        case measure => simp [intOf]; omega
      have hcf : Lx.turnB true ((Utf.nums s).drop k) = false := by simpa using hc
      have hd : decide (((Utf.nums s).drop k)[0]?.getD 0 = 92 ∧ ((Utf.nums s).drop k)[1]?.getD 0 = 69) = false := htn.symm.trans hcf
      rw [hd] at HP
      have hbad := fun n c h => Lx.lexR_bad (s := s) (at_ := k) (q := true) (T := T) (n := n) (c := c) hks hcf h
      have htok := fun t n h => Lx.lexR_tok (s := s) (at_ := k) (q := true) (T := T) (t := t) (n := n) hks hcf h
      have HBAD := Lib.hid hbad
      have HTOK := Lib.hid htok
      have HOK := Lib.hid hok
      clear hc hcf hd htn hend hok hbad htok
      go_wp2_with fail
      refine (HP.out _).mono ?_
      rintro e9 w9 ⟨rfl, rfl⟩
      go_wp2_with fail
      refine (HTK.out _).mono ?_
      intro e9 w1 hp
      obtain ⟨hb1, hp⟩ := hp
      have HB1 := Lib.hid (HB.out.trans (hb1.mono HB.out.size))
      have HT1 := Lib.hid (HT.out.kept hb1)
      rcases hp with ⟨kd, o, c, hx, rfl⟩ | ⟨t, m, vs, out, hx, rfl, hi, ho⟩
      · have hx' : Lx.oneX true (s.extract k s.size) = .bad o c := hx
        have hok := HOK.out
        rw [hx'] at hok
        obtain ⟨ho0, ho1, hc0⟩ := hok
        have HX : Hid (R = .bad (k + o) c) := Lib.hid (HRS.out.symm.trans (HBAD.out o c hx'))
        have hcb : (c != 0) = true := by simpa using hc0
        have hw : IntKind.i64.wrap ((k : Int) + o) = (k : Int) + o := by rw [IntKind.wrap_i64]; omega
        clear hb1 hx hx' hc0
        unfold tkV
        go_wp2
        go_ret3
        exact ⟨HB1.out.alloc HB1.out.size _, .inl ⟨_, _, HX.out, rfl⟩⟩
      · have hx' : Lx.oneX true (s.extract k s.size) = .ok t m := hx
        have hok := HOK.out
        rw [hx'] at hok
        obtain ⟨hm1, hm2, _, _⟩ := hok
        have HX : Hid (Lx.lexR s (k + m) true (T ++ [((k : Int), t)]) = R) := Lib.hid ((HTOK.out t m hx').symm.trans HRS.out)
        have hw : IntKind.i64.wrap ((k : Int) + (m : Int)) = ((k + m : Nat) : Int) := by rw [IntKind.wrap_i64]; omega
        obtain ⟨va, vc, rfl⟩ := own_slice ho
        unfold tkV
        obtain ⟨A, hA⟩ : ∃ A : Obj, A = .cells #[.int .i64 t.kind, .int .i64 (k : Int), .int .i64 t.num, .string t.name, .int .i64 t.mn, .int .i64 t.mx, .bool t.lazy, .slice va out.length vc] 35 := ⟨_, rfl⟩
        have hbw : Below w1.heap.size w1 ((w1.alloc A).alloc A) := ((Below.refl _ w1).alloc (Nat.le_refl _) A).alloc (by simp) A
        have hnew := heap_alloc_new (w1.alloc A) A
        rw [show (w1.alloc A).heap.size = w1.heap.size + 1 from by simp] at hnew
        rw [hA] at hnew
        have hlt9 := HT.out.lt
        have hB9 := HB1.out.trans (hbw.mono HB1.out.size)
        obtain ⟨v', w2, hrun, hown, hb2⟩ := append_tok ((w1.alloc A).alloc A) W.heap.size v T (HT1.out.kept hbw) hB9.size (by omega) (k : Int) t (.slice va out.length vc) rfl (w1.heap.size + 1) (by rw [hA]; exact World.news_of_block hnew) ((setAt_new hi ho (fun b hb => (hlt9 b hb).2)).kept hbw) 1
        have HB2 := Lib.hid (hB9.trans hb2)
        have HOW := Lib.hid hown
        subst hA
        have HRUN := Lib.hid hrun
        have hTl : (T ++ [((k : Int), t)]).length ≤ k + m := by rw [List.length_append]; show T.length + 1 ≤ k + m; omega
        have hkm : k + m ≤ s.size + 1 := by omega
        clear hx hx' hbw hnew hlt9 hB9 hrun hown hb2 hi ho hb1
        go_wp2_with (at_builtin; (refine wpList_append_run rfl _ _ 24 rfl _ _ _ w2 rfl rfl HRUN.out ?_))
        go_roundw
        case rel => exact ⟨k + m, true, T ++ [((k : Int), t)], _, hkm, hTl, rfl, by go_num, rfl, HX, HOW, HB2⟩
        case measure => simp [intOf]; omega
end Go.Proofs.YtecclhmjmceheaaGreatDoor
namespace Go.Proofs.YtecclhmjmceheaaGreatDoor
open Go.RowKit
open Lx (Tk TR LR)
set_option linter.unusedVariables false
theorem TkOwn.at {W : World} {base : Nat} {v : Value} {T : List (Int × Tk)} (h : TkOwn W base v T) (h0 : 0 < T.length) : ∃ g cap, v = .slice (some ⟨g, 0, none⟩) T.length cap ∧ base ≤ g ∧ g < W.heap.size ∧
    ∀ j (hj : j < T.length), ∃ vs, SetAt W vs T[j].2.cls v.ownBlock ∧ ∀ q, q < 8 → W.cell? ⟨g, j * 8 + q, none⟩ = (TkCells T[j].1 T[j].2 vs)[q]? := by
  obtain ⟨X, h1, h2, h3⟩ := h
  obtain ⟨g, cap, rfl, hb, hg⟩ := World.ownsRow.form h2 h0
  have h8 : ∀ x ∈ X, x.length = 8 := fun x hx => by
    obtain ⟨i, hi, rfl⟩ := List.getElem_of_mem hx
    obtain ⟨vs, e, _⟩ := h3 i (by omega)
    rw [List.getElem?_eq_getElem hi] at e
    rw [Option.some.inj e]; rfl
  refine ⟨g, cap, rfl, hb, hg, fun j hj => ?_⟩
  obtain ⟨vs, e, hs⟩ := h3 j hj
  refine ⟨vs, hs, fun q hq => ?_⟩
  rw [World.ownsRow.cellAt h2 (j * 8 + q) (by omega), flat8_at X h8 j q _ e hq]
namespace Lx
def exT : List (Int × Tk) := [(0, runeT 97), (1, { kind := 8, mn := 2, mx := -1, lazy := true }), (6, { kind := 9, num := 1, name := ⟨#[120]⟩ }), (12, runeT 97), (13, runeT 123)]
theorem ex_is : lexR ⟨#[97, 123, 50, 44, 125, 63, 40, 63, 80, 60, 120, 62, 97, 123]⟩ 0 false [] = .ok exT := by kernel_rfl
end Lx
set_option maxRecDepth 100000 in
set_option maxHeartbeats 4000000 in
theorem works8_any (W : World) (hE : Ev W) : Calls Tryz.prog 11 #[] W fun e w' => e = .returned (.bool true) ∧ Below W.heap.size W w' := by
  have HL := Lib.hid (lex_any W ⟨#[97, 123, 50, 44, 125, 63, 40, 63, 80, 60, 120, 62, 97, 123]⟩ (by decide) hE)
  rw [Lx.ex_is] at HL
  clear hE
  go_enter Tryz.func11, Tryz.ntmps11
  go_wp2_with fail
  refine HL.out.mono ?_
  rintro e w1 ⟨hb, ⟨o, c, h, _⟩ | ⟨T, v, h, rfl, ht, _⟩⟩
  · cases h
  · injection h with h
    subst h
    have HB := Lib.hid hb
    obtain ⟨g, cap, rfl, hg0, hg1, hat⟩ := ht.at (by decide)
    obtain ⟨v1, _, a1⟩ := hat 1 (by decide)
    obtain ⟨v2, _, a2⟩ := hat 2 (by decide)
    obtain ⟨v4, _, a4⟩ := hat 4 (by decide)
    have c10 : w1.cell? ⟨g, 8, none⟩ = some (.int .i64 8) := a1 0 (by omega)
    have c14 : w1.cell? ⟨g, 12, none⟩ = some (.int .i64 2) := a1 4 (by omega)
    have c15 : w1.cell? ⟨g, 13, none⟩ = some (.int .i64 (-1)) := a1 5 (by omega)
    have c16 : w1.cell? ⟨g, 14, none⟩ = some (.bool true) := a1 6 (by omega)
    have c20 : w1.cell? ⟨g, 16, none⟩ = some (.int .i64 9) := a2 0 (by omega)
    have c21 : w1.cell? ⟨g, 17, none⟩ = some (.int .i64 6) := a2 1 (by omega)
    have c22 : w1.cell? ⟨g, 18, none⟩ = some (.int .i64 1) := a2 2 (by omega)
    have c23 : w1.cell? ⟨g, 19, none⟩ = some (.string ⟨#[120]⟩) := a2 3 (by omega)
    have c42 : w1.cell? ⟨g, 34, none⟩ = some (.int .i64 123) := a4 2 (by omega)
    rw [show Lx.exT.length = 5 from rfl]
    clear hb ht hat a1 a2 a4 HL
    go_wp2
    go_ret
    exact ⟨rfl, HB.out⟩
end Go.Proofs.YtecclhmjmceheaaGreatDoor
namespace Go.Proofs.YtecclhmjmceheaaGreatDoor
open Go.RowKit
set_option linter.unusedVariables false
/-- A world that has turned nothing of w's. -/
structure GrownTo (w : World) where
  W' : World
  h : Below w.heap.size w W'
instance grownToSome (w : World) : Inhabited (GrownTo w) := ⟨⟨w, Below.refl _ _⟩⟩
theorem wp_region_quiet_below {P : Program} {id : Nat} {Q : Exit → Act → World → Prop} {a : Act} {w : World} {l : List Oper} (hm : P.follows .mixedOrders = true) (hB : Region.lexB .any l.toArray = true)
    (h : wpQuiet P l.toArray (fun w' => ∃ p : GrownTo w, w' = p.W') (fun a' => ∀ w', (∃ p : GrownTo w, w' = p.W') → Q .normal a' w') l a) : (Code.region id l.toArray true).wp P Q a w :=
  wp_region_quiet (C := fun w' => ∃ p : GrownTo w, w' = p.W') hm hB ⟨⟨w.drew, below_drewN (Below.refl _ _) 1⟩, rfl⟩ (by simpa using h)
theorem calls_grownTo {P : Program} {f : FuncId} {args : Array Value} {w : World} {p : GrownTo w} {v : Value}
    (h : Calls P f args p.W' fun e w' => e = .returned v ∧ Below p.W'.heap.size p.W' w') : Calls P f args p.W' fun e w'' => e = .returned v ∧ ∃ p' : GrownTo w, w'' = p'.W' :=
  h.mono fun _ w' ⟨he, hb⟩ => ⟨he, ⟨w', p.h.trans (hb.mono p.h.size)⟩, rfl⟩
theorem cell_grownTo {w : World} {a : Addr} {v : Value} (hb : a.block < w.heap.size) (h : w.cell? a = some v) (p : GrownTo w) : p.W'.cell? a = some v :=
  (p.h.cell hb).trans h
end Go.Proofs.YtecclhmjmceheaaGreatDoor
