/- The landed lex: all tokens (Lex). · burinlaw08: what its statements share: a row of tokens read, the example of the chapter. · The landed parse: Parse. · Mathematics of ParseRight: what is read is right. -/
import Derived.Test.YtanffablfgnioaaGreatDoorGp39
import Derived.Test.YtanffablfgnioaaGreatDoorGp29
import Derived.Test.YtanffablfgnioaaGreatDoorGp37
import Derived.Test.YtanffablfgnioaaGreatDoorGp33
import Derived.Test.YtanffablfgnioaaGreatDoorGp10
namespace Go.Proofs.YtanffablfgnioaaGreatDoor
open Go.RowKit
open Lx (Tk TR LR)
set_option linter.unusedVariables false
/-- What Lex hands back. -/
def LexPost (R : LR) (W : World) (e : Ending) (w' : World) : Prop :=
  Below W.heap.size W w' ∧ ((∃ o c, R = .bad o c ∧ e = .returned (.tuple #[.slice none 0 0, .int .i64 o, .int .i64 c])) ∨ ∃ T v, R = .ok T ∧ e = .returned (.tuple #[v, .int .i64 0, .int .i64 0]) ∧ TkOwn w' W.heap.size v T ∧ T.length ≤ 100000)
theorem turn_is (q : Bool) (l : List Int) : Lx.turnB q l = decide (l[0]?.getD 0 = 92 ∧ l[1]?.getD 0 = if q then 69 else 81) := by
  unfold Lx.turnB
  rw [Bool.eq_iff_iff]
  simp
set_option maxRecDepth 100000 in
set_option maxHeartbeats 8000000 in
theorem lex_any (W : World) (s : ByteArray) (hs : s.size ≤ 4096) (hE : Ev W) : Calls Tryz.prog 9 #[.string s] W (LexPost (Lx.lexR s 0 false []) W) := by
  have HE := Lib.hid hE
  obtain ⟨R, hR⟩ : ∃ R, Lx.lexR s 0 false [] = R := ⟨_, rfl⟩
  rw [hR]
  have HR := Lib.hid hR
  clear hE hR
  have hmx : ¬ (4096 : Int) < (s.size : Int) := by omega
  go_enter Tryz.func9, Tryz.ntmps9
  go_wp2
  go_loopw [2, 3, 5] (fun V A Q wr => ∃ (k : Nat) (q : Bool) (T : List (Int × Tk)) (v : Value), k ≤ s.size + 1 ∧ T.length ≤ k ∧ v = V ∧ A = .int .i64 (k : Int) ∧ Q = .bool q ∧ Hid (Lx.lexR s k q T = R) ∧ Hid (TkOwn wr W.heap.size v T) ∧ Hid (Below W.heap.size W wr)) (fun _ A _ _ => s.size + 1 - (intOf A).toNat)
  case atStart => exact ⟨0, false, [], _, by omega, Nat.le_refl _, rfl, rfl, rfl, HR, Lib.hid (TkOwn.nil _ _), Lib.hid (Below.refl _ _)⟩
  case round =>
    obtain ⟨k, q, T, v, hk, hTk, rfl, rfl, rfl, HRS, HT, HB⟩ := hrel
    by_cases hend : s.size ≤ k
    · have hlt : ¬ (k : Int) < (s.size : Int) := by omega
      have HX : Hid (R = .ok T) := Lib.hid (HRS.out.symm.trans (Lx.lexR_end hend))
      clear hend
      go_wp2
      go_ret3
      exact ⟨HB.out, .inr ⟨T, _, HX.out, rfl, HT.out, by omega⟩⟩
    have hks : k < s.size := by omega
    have hlt : (k : Int) < (s.size : Int) := by omega
    have hki : (k : Int) ≤ (s.size : Int) := by omega
    have hz : (s.extract k s.size).size = s.size - k := by rw [ByteArray.size_extract]; omega
    have hok := Lx.one_ok q (s.extract k s.size) (by omega)
    rw [hz] at hok
    cases q with
    | false =>
      have HP := Lib.hid (fun w => hasPre2g w (s.extract k s.size) 92 81 (by decide) (by decide))
      rw [tail_drop, show (((92 : UInt8).toNat : Nat) : Int) = 92 from rfl, show (((81 : UInt8).toNat : Nat) : Int) = 81 from rfl] at HP
      have htn := turn_is false ((Utf.nums s).drop k)
      have HTK := Lib.hid (fun w (hw : Ev w) => token_any w (s.extract k s.size) (by omega) (by omega) hw)
      by_cases hc : Lx.turnB false ((Utf.nums s).drop k) = true
      · have hd : decide (((Utf.nums s).drop k)[0]?.getD 0 = 92 ∧ ((Utf.nums s).drop k)[1]?.getD 0 = 81) = true := htn.symm.trans hc
        rw [hd] at HP
        have HN : Hid (Lx.lexR s (k + 2) (!false) T = R) := Lib.hid ((Lx.lexR_turn hks hc).symm.trans HRS.out)
        have h2 : k + 2 ≤ s.size + 1 := by omega
        have hw : IntKind.i64.wrap ((k : Int) + 2) = ((k + 2 : Nat) : Int) := by rw [IntKind.wrap_i64]; omega
        clear hc hd htn hend hok
        go_wp2_with fail
        refine (HP.out _).mono ?_
        rintro e9 w9 ⟨rfl, rfl⟩
        go_wp2
        go_roundw
        case rel => exact ⟨k + 2, !false, T, _, h2, by omega, rfl, by go_num, rfl, HN, HT, HB⟩
        case measure => simp [intOf]; omega
      have hcf : Lx.turnB false ((Utf.nums s).drop k) = false := by simpa using hc
      have hd : decide (((Utf.nums s).drop k)[0]?.getD 0 = 92 ∧ ((Utf.nums s).drop k)[1]?.getD 0 = 81) = false := htn.symm.trans hcf
      rw [hd] at HP
      have hbad := fun n c h => Lx.lexR_bad (s := s) (at_ := k) (q := false) (T := T) (n := n) (c := c) hks hcf h
      have htok := fun t n h => Lx.lexR_tok (s := s) (at_ := k) (q := false) (T := T) (t := t) (n := n) hks hcf h
      have HBAD := Lib.hid hbad
      have HTOK := Lib.hid htok
      have HOK := Lib.hid hok
      clear hc hcf hd htn hend hok hbad htok
      go_wp2_with fail
      refine (HP.out _).mono ?_
      rintro e9 w9 ⟨rfl, rfl⟩
      go_wp2_with fail
      refine (HTK.out _ (HE.out.below (Nat.le_refl _) HB.out)).mono ?_
      intro e9 w1 hp
      obtain ⟨hb1, hp⟩ := hp
      have HB1 := Lib.hid (HB.out.trans (hb1.mono HB.out.size))
      have HT1 := Lib.hid (HT.out.kept hb1)
      rcases hp with ⟨kd, o, c, hx, rfl⟩ | ⟨t, m, vs, out, hx, rfl, hi, ho⟩
      · have hx' : Lx.oneX false (s.extract k s.size) = .bad o c := hx
        have hok := HOK.out
        rw [hx'] at hok
        obtain ⟨ho0, ho1, hc0⟩ := hok
        have HX : Hid (R = .bad (k + o) c) := Lib.hid (HRS.out.symm.trans (HBAD.out o c hx'))
        have hcb : (c != 0) = true := by simpa using hc0
        have hw : IntKind.i64.wrap ((k : Int) + o) = (k : Int) + o := by rw [IntKind.wrap_i64]; omega
        clear hb1 hx hx' hc0
        unfold tkV
        go_wp2
        go_ret3
        exact ⟨HB1.out.alloc HB1.out.size _, .inl ⟨_, _, HX.out, rfl⟩⟩
      · have hx' : Lx.oneX false (s.extract k s.size) = .ok t m := hx
        have hok := HOK.out
        rw [hx'] at hok
        obtain ⟨hm1, hm2, _, _⟩ := hok
        have HX : Hid (Lx.lexR s (k + m) false (T ++ [((k : Int), t)]) = R) := Lib.hid ((HTOK.out t m hx').symm.trans HRS.out)
        have hw : IntKind.i64.wrap ((k : Int) + (m : Int)) = ((k + m : Nat) : Int) := by rw [IntKind.wrap_i64]; omega
        obtain ⟨va, vc, rfl⟩ := own_slice ho
        unfold tkV
        obtain ⟨A, hA⟩ : ∃ A : Obj, A = .cells #[.int .i64 t.kind, .int .i64 (k : Int), .int .i64 t.num, .string t.name, .int .i64 t.mn, .int .i64 t.mx, .bool t.lazy, .slice va out.length vc] 39 := ⟨_, rfl⟩
        have hbw : Below w1.heap.size w1 ((w1.alloc A).alloc A) := ((Below.refl _ w1).alloc (Nat.le_refl _) A).alloc (by simp) A
        have hnew := heap_alloc_new (w1.alloc A) A
        rw [show (w1.alloc A).heap.size = w1.heap.size + 1 from by simp] at hnew
        rw [hA] at hnew
        have hlt9 := HT.out.lt
        have hB9 := HB1.out.trans (hbw.mono HB1.out.size)
        obtain ⟨v', w2, hrun, hown, hb2⟩ := append_tok ((w1.alloc A).alloc A) W.heap.size v T (HT1.out.kept hbw) hB9.size (by omega) (k : Int) t (.slice va out.length vc) rfl (w1.heap.size + 1) (by rw [hA]; exact World.news_of_block hnew) ((setAt_new hi ho (fun b hb => (hlt9 b hb).2) HB.out.size).kept hbw) 1
        have HB2 := Lib.hid (hB9.trans hb2)
        have HOW := Lib.hid hown
        subst hA
        have HRUN := Lib.hid hrun
        have hTl : (T ++ [((k : Int), t)]).length ≤ k + m := by rw [List.length_append]; show T.length + 1 ≤ k + m; omega
        have hkm : k + m ≤ s.size + 1 := by omega
        clear hx hx' hbw hnew hlt9 hB9 hrun hown hb2 hi ho hb1
        go_wp2_with (at_builtin; (refine wpList_append_run rfl _ _ 35 rfl _ _ _ w2 rfl rfl HRUN.out ?_))
        go_roundw
        case rel => exact ⟨k + m, false, T ++ [((k : Int), t)], _, hkm, hTl, rfl, by go_num, rfl, HX, HOW, HB2⟩
        case measure => simp [intOf]; omega
    | true =>
      have HP := Lib.hid (fun w => hasPre2g w (s.extract k s.size) 92 69 (by decide) (by decide))
      rw [tail_drop, show (((92 : UInt8).toNat : Nat) : Int) = 92 from rfl, show (((69 : UInt8).toNat : Nat) : Int) = 69 from rfl] at HP
      have htn := turn_is true ((Utf.nums s).drop k)
      have HTK := Lib.hid (fun w => character_any w (s.extract k s.size) (by omega))
      by_cases hc : Lx.turnB true ((Utf.nums s).drop k) = true
      · have hd : decide (((Utf.nums s).drop k)[0]?.getD 0 = 92 ∧ ((Utf.nums s).drop k)[1]?.getD 0 = 69) = true := htn.symm.trans hc
        rw [hd] at HP
        have HN : Hid (Lx.lexR s (k + 2) (!true) T = R) := Lib.hid ((Lx.lexR_turn hks hc).symm.trans HRS.out)
        have h2 : k + 2 ≤ s.size + 1 := by omega
        have hw : IntKind.i64.wrap ((k : Int) + 2) = ((k + 2 : Nat) : Int) := by rw [IntKind.wrap_i64]; omega
        clear hc hd htn hend hok
        go_wp2_with fail
        refine (HP.out _).mono ?_
        rintro e9 w9 ⟨rfl, rfl⟩
        go_wp2
        go_roundw
        case rel => exact ⟨k + 2, !true, T, _, h2, by omega, rfl, by go_num, rfl, HN, HT, HB⟩
        case measure => simp [intOf]; omega
      have hcf : Lx.turnB true ((Utf.nums s).drop k) = false := by simpa using hc
      have hd : decide (((Utf.nums s).drop k)[0]?.getD 0 = 92 ∧ ((Utf.nums s).drop k)[1]?.getD 0 = 69) = false := htn.symm.trans hcf
      rw [hd] at HP
      have hbad := fun n c h => Lx.lexR_bad (s := s) (at_ := k) (q := true) (T := T) (n := n) (c := c) hks hcf h
      have htok := fun t n h => Lx.lexR_tok (s := s) (at_ := k) (q := true) (T := T) (t := t) (n := n) hks hcf h
      have HBAD := Lib.hid hbad
      have HTOK := Lib.hid htok
      have HOK := Lib.hid hok
      clear hc hcf hd htn hend hok hbad htok
      go_wp2_with fail
      refine (HP.out _).mono ?_
      rintro e9 w9 ⟨rfl, rfl⟩
      go_wp2_with fail
      refine (HTK.out _).mono ?_
      intro e9 w1 hp
      obtain ⟨hb1, hp⟩ := hp
      have HB1 := Lib.hid (HB.out.trans (hb1.mono HB.out.size))
      have HT1 := Lib.hid (HT.out.kept hb1)
      rcases hp with ⟨kd, o, c, hx, rfl⟩ | ⟨t, m, vs, out, hx, rfl, hi, ho⟩
      · have hx' : Lx.oneX true (s.extract k s.size) = .bad o c := hx
        have hok := HOK.out
        rw [hx'] at hok
        obtain ⟨ho0, ho1, hc0⟩ := hok
        have HX : Hid (R = .bad (k + o) c) := Lib.hid (HRS.out.symm.trans (HBAD.out o c hx'))
        have hcb : (c != 0) = true := by simpa using hc0
        have hw : IntKind.i64.wrap ((k : Int) + o) = (k : Int) + o := by rw [IntKind.wrap_i64]; omega
        clear hb1 hx hx' hc0
        unfold tkV
        go_wp2
        go_ret3
        exact ⟨HB1.out.alloc HB1.out.size _, .inl ⟨_, _, HX.out, rfl⟩⟩
      · have hx' : Lx.oneX true (s.extract k s.size) = .ok t m := hx
        have hok := HOK.out
        rw [hx'] at hok
        obtain ⟨hm1, hm2, _, _⟩ := hok
        have HX : Hid (Lx.lexR s (k + m) true (T ++ [((k : Int), t)]) = R) := Lib.hid ((HTOK.out t m hx').symm.trans HRS.out)
        have hw : IntKind.i64.wrap ((k : Int) + (m : Int)) = ((k + m : Nat) : Int) := by rw [IntKind.wrap_i64]; omega
        obtain ⟨va, vc, rfl⟩ := own_slice ho
        unfold tkV
        obtain ⟨A, hA⟩ : ∃ A : Obj, A = .cells #[.int .i64 t.kind, .int .i64 (k : Int), .int .i64 t.num, .string t.name, .int .i64 t.mn, .int .i64 t.mx, .bool t.lazy, .slice va out.length vc] 39 := ⟨_, rfl⟩
        have hbw : Below w1.heap.size w1 ((w1.alloc A).alloc A) := ((Below.refl _ w1).alloc (Nat.le_refl _) A).alloc (by simp) A
        have hnew := heap_alloc_new (w1.alloc A) A
        rw [show (w1.alloc A).heap.size = w1.heap.size + 1 from by simp] at hnew
        rw [hA] at hnew
        have hlt9 := HT.out.lt
        have hB9 := HB1.out.trans (hbw.mono HB1.out.size)
        obtain ⟨v', w2, hrun, hown, hb2⟩ := append_tok ((w1.alloc A).alloc A) W.heap.size v T (HT1.out.kept hbw) hB9.size (by omega) (k : Int) t (.slice va out.length vc) rfl (w1.heap.size + 1) (by rw [hA]; exact World.news_of_block hnew) ((setAt_new hi ho (fun b hb => (hlt9 b hb).2) HB.out.size).kept hbw) 1
        have HB2 := Lib.hid (hB9.trans hb2)
        have HOW := Lib.hid hown
        subst hA
        have HRUN := Lib.hid hrun
        have hTl : (T ++ [((k : Int), t)]).length ≤ k + m := by rw [List.length_append]; show T.length + 1 ≤ k + m; omega
        have hkm : k + m ≤ s.size + 1 := by omega
        clear hx hx' hbw hnew hlt9 hB9 hrun hown hb2 hi ho hb1
        go_wp2_with (at_builtin; (refine wpList_append_run rfl _ _ 35 rfl _ _ _ w2 rfl rfl HRUN.out ?_))
        go_roundw
        case rel => exact ⟨k + m, true, T ++ [((k : Int), t)], _, hkm, hTl, rfl, by go_num, rfl, HX, HOW, HB2⟩
        case measure => simp [intOf]; omega
end Go.Proofs.YtanffablfgnioaaGreatDoor
namespace Go.Proofs.YtanffablfgnioaaGreatDoor
open Go.RowKit
open Lx (Tk TR LR)
set_option linter.unusedVariables false
theorem TkOwn.at {W : World} {base : Nat} {v : Value} {T : List (Int × Tk)} (h : TkOwn W base v T) (h0 : 0 < T.length) : ∃ g cap, v = .slice (some ⟨g, 0, none⟩) T.length cap ∧ base ≤ g ∧ g < W.heap.size ∧
    ∀ j (hj : j < T.length), ∃ vs, SetAt base W vs T[j].2.cls v.ownBlock ∧ ∀ q, q < 8 → W.cell? ⟨g, j * 8 + q, none⟩ = (TkCells T[j].1 T[j].2 vs)[q]? := by
  obtain ⟨X, h1, h2, h3⟩ := h
  obtain ⟨g, cap, rfl, hb, hg⟩ := World.ownsRow.form h2 h0
  have h8 : ∀ x ∈ X, x.length = 8 := fun x hx => by
    obtain ⟨i, hi, rfl⟩ := List.getElem_of_mem hx
    obtain ⟨vs, e, _⟩ := h3 i (by omega)
    rw [List.getElem?_eq_getElem hi] at e
    rw [Option.some.inj e]; rfl
  refine ⟨g, cap, rfl, hb, hg, fun j hj => ?_⟩
  obtain ⟨vs, e, hs⟩ := h3 j hj
  refine ⟨vs, hs, fun q hq => ?_⟩
  rw [World.ownsRow.cellAt h2 (j * 8 + q) (by omega), flat8_at X h8 j q _ e hq]
namespace Lx
end Lx
































end Go.Proofs.YtanffablfgnioaaGreatDoor
namespace Go.Proofs.YtanffablfgnioaaGreatDoor
open Go.RowKit
open Lx (Tk TR LR)
open Ps (TL)
set_option linter.unusedVariables false
/-- The tokens of a pattern, with the end behind them. -/
def endT (n : Nat) : Int × Tk := ((n : Int), {})
/-- What Parse hands back. -/
noncomputable def parseF (s : ByteArray) (f : Int) : Option Nd × Int × Int :=
  match Lx.lexR s 0 false [] with
  | .bad o c => (none, o, c)
  | .ok T => patF (Ps.altP (3 * (T.length + 1) + 3) (T ++ [endT s.size]) f 0 [])
def ParsePost (X : Option Nd × Int × Int) (W : World) (e : Ending) (w' : World) : Prop :=
  ∃ cs, e = .returned (.tuple #[.agg cs.toArray, .int .i64 X.2.1, .int .i64 X.2.2]) ∧ NdIs w' (X.1.getD (Ps.leafN 0 0)) cs ∧ Below W.heap.size W w'
/-- An owned row of tokens, as the parser reads it. -/
theorem TkOwn.on {W : World} {base : Nat} {v : Value} {T : TL} (h : TkOwn W base v T) (h0 : 0 < T.length) : TkOn (fun b => base ≤ b ∧ b < W.heap.size) W v T := by
  obtain ⟨X, h1, h2, h3⟩ := h
  have hown := h2
  rcases h2.2 with ⟨_, e⟩ | ⟨g, cap, cur, e, hb, hg, h4, h5, _⟩
  · omega
  subst e
  have hat := TkOwn.at (⟨X, h1, hown, h3⟩ : TkOwn W base (.slice (some ⟨g, 0, none⟩) T.length cap) T) h0
  obtain ⟨g', c', e, _, hgl, hat⟩ := hat
  injection e with e1 e2 e3
  injection e1 with e1
  injection e1 with e1 _ _
  subst e1
  refine ⟨g, 0, cap, rfl, ⟨hb, (Array.getElem?_eq_some_iff.1 hg).1⟩, (Array.getElem?_eq_some_iff.1 hg).1, h4, h5, fun j hj => ?_⟩
  obtain ⟨vs, ⟨out, i1, i2, i3⟩, hc⟩ := hat j hj
  refine ⟨vs, out, i1, ⟨i2, fun b off n c e hl => ⟨(i3 b off n c e).2.2, (i3 b off n c e).1⟩⟩, fun q hq => by rw [Nat.zero_add]; exact hc q hq⟩
theorem TkOn.mono {S S' : Nat → Prop} {W : World} {v : Value} {L : TL} (h : TkOn S W v L) (hS : ∀ b, S b → S' b) : TkOn S' W v L := by
  obtain ⟨b, o0, cap, e, h0, hlt, h1, h2, h3⟩ := h
  refine ⟨b, o0, cap, e, hS b h0, hlt, h1, h2, fun j hj => ?_⟩
  obtain ⟨vs, out, k1, k2, k3⟩ := h3 j hj
  exact ⟨vs, out, k1, k2.mono hS, k3⟩
theorem Ps.ends_of {T : TL} (n : Nat) (h : ∀ p ∈ T, 1 ≤ p.2.kind ∧ p.2.kind ≤ 13) : Ps.Ends (T ++ [endT n]) := ⟨T, endT n, rfl, rfl, h⟩
theorem Lx.Ris.kinds {m : Int} : ∀ {lo : Int} {l : List (Int × Tk)}, Lx.Ris m lo l → ∀ p ∈ l, 1 ≤ p.2.kind ∧ p.2.kind ≤ 13
  | _, [], _, p, hp => by cases hp
  | lo, x :: l, h, p, hp => by
    rcases List.mem_cons.1 hp with rfl | hp
    · exact ⟨h.2.2.1, h.2.2.2.1⟩
    · exact Lx.Ris.kinds h.2.2.2.2 p hp
/-- The way out of a function whose first result is a node in a box. -/
theorem ret_nd3 {fn : Func} {p u v : Tmp} {R : Ending → World → Prop} {a : Act} {w : World} (h : fn.results = #[.cell p 26, .tmp u, .tmp v]) (g : Nat) (cs : Array Value)
    (hp : a.tmps.getD p undef = .pointer (some ⟨g, 0, none⟩)) (hg : w.heap[g]? = some (.cells cs 26 (0, 0))) (h8 : cs.size = 8) (hd : a.defers = [])
    (hR : R (.returned (.tuple #[.agg cs, a.tmps.getD u undef, a.tmps.getD v undef])) w) : bodyPost Tryz.prog fn R .ret a w := by
  have hi : (Tryz.prog.info? 26).map (·.size) = some cs.size := by rw [h8]; kernel_rfl
  have hl : (loadVar 26 ⟨g, 0, none⟩).run Tryz.prog w = .ok (.agg cs) w := run_loadVar_row w g _ _ cs _ _ hg Tryz.underlying26 rfl hi
  refine ⟨hd, _, ?_, hR⟩
  have hp' : a.tmps[p]?.getD undef = .pointer (some ⟨g, 0, none⟩) := by simpa using hp
  simp [results, h, hp', asAddr, hl, Sem.run_bind]
theorem Lx.Ris.places {m : Int} : ∀ {lo : Int} {l : List (Int × Tk)}, Lx.Ris m lo l → ∀ p ∈ l, lo < p.1 ∧ p.1 < m
  | _, [], _, p, hp => by cases hp
  | lo, x :: l, h, p, hp => by
    rcases List.mem_cons.1 hp with rfl | hp
    · exact ⟨h.1, h.2.1⟩
    · have := Lx.Ris.places h.2.2.2.2 p hp
      exact ⟨by have := h.1; omega, this.2⟩
set_option maxRecDepth 100000 in
set_option maxHeartbeats 8000000 in
theorem parse_any (W : World) (s : ByteArray) (hs : s.size ≤ 4096) (f : Int) (hE : Ev W) : Calls Tryz.prog 5 #[.string s, .int .i64 f] W (ParsePost (parseF s f) W) := by
  have HL := Lib.hid (fun w (hw : Ev w) => lex_any w s hs hw)
  have HRI := Lib.hid (fun T => Lx.lex_rises (s := s) (T := T))
  have HFI := Lib.hid (fun T => Lx.lex_fine (s := s) (T := T))
  have HBA := Lib.hid (fun o c => Lx.lexF_bad s (s.size + 2) 0 false [] o c (by omega))
  have hpf : ∀ R, Lx.lexR s 0 false [] = R → parseF s f = match R with | .bad o c => (none, o, c) | .ok T => patF (Ps.altP (3 * (T.length + 1) + 3) (T ++ [endT s.size]) f 0 []) := fun R h => by unfold parseF; rw [h]
  obtain ⟨R, hR⟩ : ∃ R, Lx.lexR s 0 false [] = R := ⟨_, rfl⟩
  have HPF := Lib.hid (hpf R hR)
  rw [hR] at HL HRI HFI
  have hba := HBA.out
  rw [show Lx.lexF s (s.size + 2) 0 false [] = R from hR] at hba
  have HBD := Lib.hid hba
  have HE := Lib.hid hE
  clear hba hpf hR hE
  obtain ⟨w1, hw1⟩ : ∃ w1, W.alloc (.cells #[.int .i64 0, .slice none 0 0, .int .i64 0, .string ⟨#[]⟩, .int .i64 0, .int .i64 0, .bool false, .slice none 0 0] 26) = w1 := ⟨_, rfl⟩
  obtain ⟨nb, hnb⟩ : ∃ nb, W.heap.size = nb := ⟨_, rfl⟩
  have hb1 : Below W.heap.size W w1 := by rw [← hw1]; exact (Below.refl _ _).alloc (Nat.le_refl _) _
  have hn1 : w1.heap[nb]? = some (.cells #[.int .i64 0, .slice none 0 0, .int .i64 0, .string ⟨#[]⟩, .int .i64 0, .int .i64 0, .bool false, .slice none 0 0] 26 (0, 0)) := by rw [← hw1, ← hnb]; exact heap_alloc_new _ _
  have HE1 := Lib.hid (HE.out.below (Nat.le_refl _) hb1)
  have HB1 := Lib.hid hb1
  have HN1 := Lib.hid hn1
  have HW1 := Lib.hid hw1
  have HNB := Lib.hid hnb
  clear hb1 hn1 hw1 hnb
  go_enter Tryz.func5, Tryz.ntmps5
  go_wp2_with fail
  rw [HW1.out, HNB.out]
  refine (HL.out w1 HE1.out).mono ?_
  rintro e w2 ⟨hb2, h2⟩
  have hn2 := box_gr HN1.out (below_grown (n := 0) hb2 (some (nb + 1))) (by omega)
  have HB2 := Lib.hid (HB1.out.trans (hb2.mono HB1.out.size))
  rcases h2 with ⟨o, c, rfl, rfl⟩ | ⟨T, vT, rfl, rfl, ht, hTl⟩
  · have hc : (c != 0) = true := by simpa using (HBD.out o c rfl).2.2
    obtain ⟨d0, d1, d2, d3, d4, d5, d6, d7, g0, g1, g2, g3, g4, g5, g6, g7⟩ := box_facts hn2
    have HN2 := Lib.hid hn2
    clear hb2 hn2
    go_wp2
    (try simp only [Exit.inBlock, Exit.then])
    refine ret_nd3 rfl nb _ rfl (set8_blk _ _ _ _ _ _ _ _ _ _ HN2.out) rfl rfl ?_
    rw [HPF.out]
    exact ⟨_, rfl, (nd_zero (S := fun _ => True) _).is, set8_below HB2.out nb (by rw [HNB.out]; exact Nat.le_refl _) _ _ _ _ _ _ _ _⟩
  · obtain ⟨va, vc, rfl⟩ := ht.slice
    obtain ⟨w3, hw3⟩ : ∃ w3, w2.alloc (.cells #[.int .i64 0, .int .i64 (s.size : Int), .int .i64 0, .string ⟨#[]⟩, .int .i64 0, .int .i64 0, .bool false, .slice none 0 0] 39) = w3 := ⟨_, rfl⟩
    have hb3 : Below w2.heap.size w2 w3 := by rw [← hw3]; exact (Below.refl _ _).alloc (Nat.le_refl _) _
    have hnew : w3.heap[w2.heap.size]? = some (.cells #[.int .i64 0, .int .i64 (s.size : Int), .int .i64 0, .string ⟨#[]⟩, .int .i64 0, .int .i64 0, .bool false, .slice none 0 0] 39 (0, 0)) := by rw [← hw3]; exact heap_alloc_new _ _
    obtain ⟨v2, w4, hrun, hown, hb4⟩ := append_tok w3 w1.heap.size (.slice va T.length vc) T (ht.kept hb3) (Nat.le_trans hb2.size hb3.size) (by omega) (s.size : Int) {} (.slice none 0 0) rfl w2.heap.size (World.news_of_block hnew) ⟨[], rfl, RRow.nil _, fun b off n cap e => by cases e⟩ 1
    obtain ⟨tg, tcap, ev, htg, htlt, _⟩ := hown.at (by simp)
    subst ev
    obtain ⟨N1, hN1⟩ : ∃ N1, (T ++ [((s.size : Int), ({} : Tk))]).length = N1 := ⟨_, rfl⟩
    rw [hN1] at hrun hown
    have HN1L := Lib.hid hN1
    have HRUN := Lib.hid hrun
    have HOW := Lib.hid hown
    have HW3 := Lib.hid hw3
    clear hrun hown hw3 hnew hN1
    go_wp2_with (at_builtin; (try rw [HW3.out]); (refine wpList_append_run rfl _ _ 35 rfl _ _ _ w4 rfl rfl HRUN.out ?_))
    obtain ⟨w5, hw5⟩ : ∃ w5, w4.alloc (.cells #[.slice (some ⟨tg, 0, none⟩) N1 tcap, .int .i64 f, .int .i64 0] 41) = w5 := ⟨_, rfl⟩
    obtain ⟨B, hB⟩ : ∃ B, w4.heap.size = B := ⟨_, rfl⟩
    have hb5 : Below w4.heap.size w4 w5 := by rw [← hw5]; exact (Below.refl _ _).alloc (Nat.le_refl _) _
    have hs5 : w5.heap.size = B + 1 := by rw [← hw5, ← hB]; simp
    have hbx5 : w5.heap[B]? = some (.cells #[.slice (some ⟨tg, 0, none⟩) N1 tcap, .int .i64 f, .int .i64 0] 41 (0, 0)) := by rw [← hw5, ← hB]; exact heap_alloc_new _ _
    have hb13 : Below w1.heap.size w1 w3 := hb2.trans (hb3.mono hb2.size)
    have hb14 : Below w1.heap.size w1 w4 := hb13.trans hb4
    have hs14 := hb14.size
    have hnb1 := (Array.getElem?_eq_some_iff.1 HN1.out).1
    have htk : ∀ p ∈ T ++ [endT s.size], TokOk p := fun p hp => by
      rcases List.mem_append.1 hp with hp | hp
      · have h1 := Lx.Ris.places (HRI.out T rfl).1 p hp
        have h2 := HFI.out T rfl p hp
        exact ⟨⟨by omega, by omega⟩, h2.1, h2.2.1, h2.2.2.1, Nat.le_trans h2.2.2.2.1 hs, h2.2.2.2.2.1, h2.2.2.2.2.2⟩
      · simp at hp
        subst hp
        exact ⟨⟨by show (0 : Int) ≤ (s.size : Int); omega, by show (s.size : Int) ≤ 1000000; omega⟩, i64_lit 0 (by decide), i64_lit 0 (by decide), i64_lit 0 (by decide), Nat.zero_le _, fun e => absurd e (by show ¬ (0 : Int) = 9; decide), fun e => absurd e (by show ¬ (0 : Int) = 13; decide)⟩
    have hlen : (T ++ [endT s.size]).length = T.length + 1 := by simp
    have hrow := (HOW.out.on (by simp)).kept hb5.size (fun b _ hlt => hb5.block b hlt)
    have hps : PSt w1.heap.size w5 B (B + 1) (.slice (some ⟨tg, 0, none⟩) N1 tcap) (T ++ [endT s.size]) f 0 :=
      ⟨hbx5, TkOn.mono hrow (fun b hb => ⟨by omega, by omega, hb.1⟩), Ps.ends_of s.size (Lx.Ris.kinds (HRI.out T rfl).1), htk, by omega, by omega, by omega, by omega, by omega⟩
    have HPT := Lib.hid (pattern_any w4 hps ⟨HE1.out.below (Nat.le_refl _) hb14, by omega, hb5⟩ (by omega))
    have hpf2 : parseF s f = patF (Ps.altP (3 * (T ++ [endT s.size]).length + 3) (T ++ [endT s.size]) f 0 []) := by rw [hlen]; exact HPF.out
    obtain ⟨⟨xo, xa, xc⟩, hX⟩ : ∃ X, patF (Ps.altP (3 * (T ++ [endT s.size]).length + 3) (T ++ [endT s.size]) f 0 []) = X := ⟨_, rfl⟩
    rw [hX] at HPT hpf2
    have HPF2 := Lib.hid hpf2
    have HBW : Hid (Below W.heap.size W w5) := Lib.hid (HB1.out.trans ((hb14.mono HB1.out.size).trans (hb5.mono (by have := HB1.out.size; omega))))
    have hn5 : w5.heap[nb]? = some (.cells #[.int .i64 0, .slice none 0 0, .int .i64 0, .string ⟨#[]⟩, .int .i64 0, .int .i64 0, .bool false, .slice none 0 0] 26 (0, 0)) := (hb5.block _ (by omega)).trans ((hb14.block _ hnb1).trans HN1.out)
    have HN5 := Lib.hid hn5
    have hBn : nb < B := by omega
    have hWB : W.heap.size ≤ B := by have := HB1.out.size; omega
    have HW5 := Lib.hid hw5
    have HBB := Lib.hid hB
    clear hb5 hs5 hbx5 hb13 hb14 htk hlen hrow hps hpf2 hX hn5 hw5 hB hb2 hb3 hb4 hn2 ht
    rw [HW5.out, HBB.out]
    refine HPT.out.mono ?_
    rintro e w6 ⟨cs, rfl, hx, hg6⟩
    have hn6 := box_gr HN5.out hg6 (by omega)
    obtain ⟨u0, u1, u2, u3, u4, u5, u6, u7, sa, sc, ia, ic, hcs, F⟩ := hx.is.form_of
    subst hcs
    obtain ⟨x, hxx⟩ : ∃ x, (xo, xa, xc).1.getD (Ps.leafN 0 0) = x := ⟨_, rfl⟩
    rw [hxx] at hx F
    obtain ⟨rfl, rfl, rfl, rfl, rfl, rfl, rfl, rfl⟩ := F
    have HX := Lib.hid hx
    have HXX := Lib.hid hxx
    have HN6 := Lib.hid hn6
    have HB6 : Hid (Below W.heap.size W w6) := Lib.hid (HBW.out.grown hg6 HBW.out.size (fun k e => by injection e with e; omega))
    obtain ⟨d0, d1, d2, d3, d4, d5, d6, d7, g0, g1, g2, g3, g4, g5, g6, g7⟩ := box_facts hn6
    clear hx hxx hn6 hg6
    go_wp2
    (try simp only [Exit.inBlock, Exit.then])
    refine ret_nd3 rfl nb _ rfl (set8_blk _ _ _ _ _ _ _ _ _ _ HN6.out) rfl rfl ?_
    rw [HPF2.out]
    refine ⟨_, rfl, ?_, set8_below HB6.out nb (by rw [HNB.out]; exact Nat.le_refl _) _ _ _ _ _ _ _ _⟩
    rw [HXX.out]
    exact (NdOn.kept (by rw [set8_size]; exact Nat.le_refl _) (fun b hb hlt => set8_other _ _ _ _ _ _ _ _ _ _ b (by omega)) HX.out).is
end Go.Proofs.YtanffablfgnioaaGreatDoor
namespace Go.Proofs.YtanffablfgnioaaGreatDoor
open Go.RowKit
open Lx (Tk TR LR)
open Ps (TL)
set_option linter.unusedVariables false
namespace Ps
theorem opN_append : ∀ (A B : TL), opN (A ++ B) = opN A ++ opN B
  | [], B => rfl
  | p :: A, B => by
    rw [List.cons_append, opN, opN, opN_append A B]
    split <;> rfl
theorem end_of {T : TL} {z : Int × Tk} {L : TL} (hT : ∀ p ∈ T, 1 ≤ p.2.kind ∧ p.2.kind ≤ 13) (hz : z.2.kind = 0) (h : Sf L (T ++ [z])) (hne : L ≠ []) (h0 : kd L = 0) : L = [z] := by
  obtain ⟨k, rfl⟩ := h
  by_cases hk : k < T.length
  · rw [List.drop_append_of_le_length (by omega)] at h0
    rw [List.drop_eq_getElem_cons hk] at h0
    have := hT T[k] (List.getElem_mem hk)
    have h1 : T[k].2.kind = 0 := h0
    omega
  · by_cases hk2 : k = T.length
    · subst hk2; simp
    · exfalso; apply hne; apply List.drop_eq_nil_of_le; simp; omega
end Ps
structure RightX (s : ByteArray) (f : Int) : Prop where
  no : ∀ a c, parseF s f = (none, a, c) → c ≠ 0 ∧ 0 ≤ a ∧ a ≤ s.size
  yes : ∀ x a c, parseF s f = (some x, a, c) → a = 0 ∧ c = 0 ∧ ∃ T, Lx.lexR s 0 false [] = .ok T ∧ T.length ≤ s.size ∧ Td.checkN x = 0 ∧ Td.groups (Td.all 1000 1 x) = Ps.opN T ∧ (Td.all 1000 1 x).length ≤ 1000000
theorem lex_len {s : ByteArray} : ∀ (f k : Nat) (q : Bool) (T T' : List (Int × Tk)), Lx.lexF s f k q T = .ok T' → T'.length + k ≤ T.length + max s.size k
  | 0, _, _, _, _, h => by cases h
  | f + 1, k, q, T, T', h => by
    rw [Lx.lexF_eq] at h
    by_cases h1 : s.size ≤ k
    · rw [if_pos h1] at h
      injection h with h
      subst h
      omega
    · rw [if_neg h1] at h
      by_cases h2 : Lx.turnB q ((Utf.nums s).drop k) = true
      · rw [if_pos h2] at h
        have := lex_len f (k + 2) _ T T' h
        have h3 := h2
        unfold Lx.turnB at h3
        simp at h3
        have h4 : k + 1 < s.size := by
          rw [← Utf.nums_length]
          by_cases hlt : k + 1 < (Utf.nums s).length
          · exact hlt
          · exfalso
            have h5 := h3.2
            rw [List.getElem?_eq_none (by omega)] at h5
            cases q <;> simp at h5
        omega
      · rw [if_neg h2] at h
        have hz : (s.extract k s.size).size = s.size - k := by rw [ByteArray.size_extract]; omega
        have ho := Lx.one_ok q (s.extract k s.size) (by omega)
        cases hx : Lx.oneX q (s.extract k s.size) with
        | bad n c => rw [hx] at h; cases h
        | ok t n =>
          rw [hx] at h ho
          obtain ⟨o1, o2, _, _⟩ := ho
          have := lex_len f (k + n) q _ T' h
          simp at this
          omega
theorem parse_right (s : ByteArray) (f : Int) (hs : s.size ≤ 4096) : RightX s f := by
  cases hR : Lx.lexR s 0 false [] with
  | bad o c =>
    have hb := Lx.lexF_bad s (s.size + 2) 0 false [] o c (by omega) hR
    refine ⟨fun a c' h => ?_, fun x a c' h => ?_⟩
    · unfold parseF at h; rw [hR] at h
      injection h with _ h; injection h with h1 h2
      subst h1 h2
      exact ⟨hb.2.2, hb.1, hb.2.1⟩
    · unfold parseF at h; rw [hR] at h; cases h
  | ok T =>
    have hris := (Lx.lex_rises hR).1
    have hfin := Lx.lex_fine hR
    have hkinds := Lx.Ris.kinds hris
    have hlen : T.length ≤ s.size := by have := lex_len (s.size + 2) 0 false [] T hR; simpa using this
    have hE : Ps.Ends (T ++ [endT s.size]) := Ps.ends_of s.size hkinds
    have hL : (T ++ [endT s.size]).length = T.length + 1 := by simp
    have hbad := (Ps.bad_all (3 * (T.length + 1) + 3)).1 (T ++ [endT s.size]) f 0 [] hE (by rw [hL]; exact Nat.le_refl _)
    have hsf := (Ps.sf_all (3 * (T.length + 1) + 3)).1 (T ++ [endT s.size]) f 0 []
    have hen := (Ps.ends_all (3 * (T.length + 1) + 3)).1 (T ++ [endT s.size]) f 0 [] hE
    have hst := Ps.stop_alt (3 * (T.length + 1) + 3) (T ++ [endT s.size]) f 0 []
    have hsz := (Ps.sz_all (3 * (T.length + 1) + 3)).1 (T ++ [endT s.size]) f 0 [] 0 (fun k => by simp [Ps.szL])
    have hgn := (Ps.gn_all (3 * (T.length + 1) + 3)).1 (T ++ [endT s.size]) f 0 [] [] (fun p hp h9 => by
      rcases List.mem_append.1 hp with hp | hp
      · exact (hfin p hp).2.2.2.2.1 h9
      · simp at hp; subst hp; exact .inl rfl) Ps.GnL.nil
    have hpl : ∀ p ∈ T ++ [endT s.size], 0 ≤ p.1 ∧ p.1 ≤ (s.size : Int) := fun p hp => by
      rcases List.mem_append.1 hp with hp | hp
      · have := Lx.Ris.places hris p hp; omega
      · simp at hp; subst hp; exact ⟨by show (0 : Int) ≤ (s.size : Int); omega, Int.le_refl _⟩
    have hpf : parseF s f = patF (Ps.altP (3 * (T.length + 1) + 3) (T ++ [endT s.size]) f 0 []) := by unfold parseF; rw [hR]
    cases hA : Ps.altP (3 * (T.length + 1) + 3) (T ++ [endT s.size]) f 0 [] with
    | bad a c =>
      rw [hA] at hbad hpf
      obtain ⟨hc, p, hp, rfl⟩ := hbad
      have hpp := hpl p hp
      refine ⟨fun a' c' h => ?_, fun x a' c' h => ?_⟩
      · rw [hpf] at h
        injection h with _ h; injection h with h1 h2
        subst h1 h2
        exact ⟨by omega, hpp.1, hpp.2⟩
      · rw [hpf] at h; cases h
    | ok x L' f' g' =>
      rw [hA] at hsf hen hst hpf
      have h2 := hsz x L' f' g' hA 1000
      obtain ⟨m, g1, g2, _⟩ := hgn x L' f' g' hA
      have hne := Ps.Ends.ne hen
      unfold patF at hpf
      dsimp only at hpf
      by_cases h11 : Ps.kd L' = 11
      · rw [if_pos h11] at hpf
        obtain ⟨p, hp, hp2⟩ := Ps.pl_mem hne
        have hpp := hpl p (Ps.Sf.mem hsf p hp)
        rw [hp2] at hpp
        refine ⟨fun a' c' h => ?_, fun x a' c' h => ?_⟩
        · rw [hpf] at h
          injection h with _ h; injection h with h1 h2
          subst h1 h2
          exact ⟨by decide, hpp.1, hpp.2⟩
        · rw [hpf] at h; cases h
      rw [if_neg h11] at hpf
      by_cases hc : Td.checkN x = 0
      · rw [if_pos hc] at hpf
        refine ⟨fun a' c' h => (by rw [hpf] at h; cases h), fun x' a' c' h => ?_⟩
        rw [hpf] at h
        injection h with h0 h; injection h with h1 h3
        injection h0 with h0
        subst h0 h1 h3
        have hk0 : Ps.kd L' = 0 := by
          have h9 : Ps.kd L' = 11 ∨ Ps.kd L' = 0 := hst
          omega
        have hl' := Ps.end_of hkinds rfl hsf hne hk0
        refine ⟨rfl, rfl, T, hR, hlen, hc, ?_, ?_⟩
        · have hdep : Td.dep 1001 x ≤ 1000 := by
            unfold Td.checkN at hc
            split at hc
            · cases hc
            · omega
          rw [Ps.groups_gL]
          obtain ⟨k0, hk⟩ := g1
          have h5 := Ps.gL_stable 1000 x hdep k0
          rw [hk (1000 + k0) (by omega)] at h5
          rw [← h5, List.nil_append]
          rw [hl', Ps.opN_append] at g2
          have e1 : Ps.opN [endT s.size] = [] := rfl
          rw [e1, List.append_nil, List.append_nil] at g2
          exact g2.symm
        · rw [Ps.all_sz]
          omega
      · rw [if_neg hc] at hpf
        refine ⟨fun a' c' h => ?_, fun x a' c' h => (by rw [hpf] at h; cases h)⟩
        rw [hpf] at h
        injection h with _ h; injection h with h1 h3
        subst h1 h3
        exact ⟨hc, Int.le_refl _, by omega⟩
end Go.Proofs.YtanffablfgnioaaGreatDoor
