/- The landed lex: all tokens (Lex). · burinlaw08: what its statements share: a row of tokens read, the example of the chapter. · The landed parse: Parse. · burinlaw09: the chapter's example. -/
import Derived.Test.YtdcielcniboloaaGreatDoorGp38
import Derived.Test.YtdcielcniboloaaGreatDoorGp20
import Derived.Test.YtdcielcniboloaaGreatDoorGp35
import Derived.Test.YtdcielcniboloaaGreatDoorGp31
import Derived.Test.YtdcielcniboloaaGreatDoorGp36
namespace Go.Proofs.YtdcielcniboloaaGreatDoor
open Go.RowKit
open Lx (Tk TR LR)
set_option linter.unusedVariables false
/-- What Lex hands back. -/
def LexPost (R : LR) (W : World) (e : Ending) (w' : World) : Prop :=
  Below W.heap.size W w' ∧ ((∃ o c, R = .bad o c ∧ e = .returned (.tuple #[.slice none 0 0, .int .i64 o, .int .i64 c])) ∨ ∃ T v, R = .ok T ∧ e = .returned (.tuple #[v, .int .i64 0, .int .i64 0]) ∧ TkOwn w' W.heap.size v T ∧ T.length ≤ 100000)
theorem turn_is (q : Bool) (l : List Int) : Lx.turnB q l = decide (l[0]?.getD 0 = 92 ∧ l[1]?.getD 0 = if q then 69 else 81) := by
  unfold Lx.turnB
  rw [Bool.eq_iff_iff]
  simp
set_option maxRecDepth 100000 in
set_option maxHeartbeats 8000000 in
theorem lex_any (W : World) (s : ByteArray) (hs : s.size ≤ 4096) (hE : Ev W) : Calls Tryz.prog 14 #[.string s] W (LexPost (Lx.lexR s 0 false []) W) := by
  have HE := Lib.hid hE
  obtain ⟨R, hR⟩ : ∃ R, Lx.lexR s 0 false [] = R := ⟨_, rfl⟩
  rw [hR]
  have HR := Lib.hid hR
  clear hE hR
  have hmx : ¬ (4096 : Int) < (s.size : Int) := by omega
  go_enter Tryz.func14, Tryz.ntmps14
  go_wp2
  go_loopw [2, 3, 5] (fun V A Q wr => ∃ (k : Nat) (q : Bool) (T : List (Int × Tk)) (v : Value), k ≤ s.size + 1 ∧ T.length ≤ k ∧ v = V ∧ A = .int .i64 (k : Int) ∧ Q = .bool q ∧ Hid (Lx.lexR s k q T = R) ∧ Hid (TkOwn wr W.heap.size v T) ∧ Hid (Below W.heap.size W wr)) (fun _ A _ _ => s.size + 1 - (intOf A).toNat)
  case atStart => exact ⟨0, false, [], _, by omega, Nat.le_refl _, rfl, rfl, rfl, HR, Lib.hid (TkOwn.nil _ _), Lib.hid (Below.refl _ _)⟩
  case round =>
    obtain ⟨k, q, T, v, hk, hTk, rfl, rfl, rfl, HRS, HT, HB⟩ := hrel
    by_cases hend : s.size ≤ k
    · have hlt : ¬ (k : Int) < (s.size : Int) := by omega
      have HX : Hid (R = .ok T) := Lib.hid (HRS.out.symm.trans (Lx.lexR_end hend))
      clear hend
      go_wp2
      go_ret3
      exact ⟨HB.out, .inr ⟨T, _, HX.out, rfl, HT.out, by omega⟩⟩
    have hks : k < s.size := by omega
    have hlt : (k : Int) < (s.size : Int) := by omega
    have hki : (k : Int) ≤ (s.size : Int) := by omega
    have hz : (s.extract k s.size).size = s.size - k := by rw [ByteArray.size_extract]; omega
    have hok := Lx.one_ok q (s.extract k s.size) (by omega)
    rw [hz] at hok
    cases q with
    | false =>
      have HP := Lib.hid (fun w => hasPre2g w (s.extract k s.size) 92 81 (by decide) (by decide))
      rw [tail_drop, show (((92 : UInt8).toNat : Nat) : Int) = 92 from rfl, show (((81 : UInt8).toNat : Nat) : Int) = 81 from rfl] at HP
      have htn := turn_is false ((Utf.nums s).drop k)
      have HTK := Lib.hid (fun w (hw : Ev w) => token_any w (s.extract k s.size) (by omega) (by omega) hw)
      by_cases hc : Lx.turnB false ((Utf.nums s).drop k) = true
      · have hd : decide (((Utf.nums s).drop k)[0]?.getD 0 = 92 ∧ ((Utf.nums s).drop k)[1]?.getD 0 = 81) = true := htn.symm.trans hc
        rw [hd] at HP
        have HN : Hid (Lx.lexR s (k + 2) (!false) T = R) := Lib.hid ((Lx.lexR_turn hks hc).symm.trans HRS.out)
        have h2 : k + 2 ≤ s.size + 1 := by omega
        have hw : IntKind.i64.wrap ((k : Int) + 2) = ((k + 2 : Nat) : Int) := by rw [IntKind.wrap_i64]; omega
        clear hc hd htn hend hok
        go_wp2_with fail
        refine (HP.out _).mono ?_
        rintro e9 w9 ⟨rfl, rfl⟩
        go_wp2
        go_roundw
        case rel => exact ⟨k + 2, !false, T, _, h2, by omega, rfl, by go_num, rfl, HN, HT, HB⟩
        case measure => simp [intOf]; omega
      have hcf : Lx.turnB false ((Utf.nums s).drop k) = false := by simpa using hc
      have hd : decide (((Utf.nums s).drop k)[0]?.getD 0 = 92 ∧ ((Utf.nums s).drop k)[1]?.getD 0 = 81) = false := htn.symm.trans hcf
      rw [hd] at HP
      have hbad := fun n c h => Lx.lexR_bad (s := s) (at_ := k) (q := false) (T := T) (n := n) (c := c) hks hcf h
      have htok := fun t n h => Lx.lexR_tok (s := s) (at_ := k) (q := false) (T := T) (t := t) (n := n) hks hcf h
      have HBAD := Lib.hid hbad
      have HTOK := Lib.hid htok
      have HOK := Lib.hid hok
      clear hc hcf hd htn hend hok hbad htok
      go_wp2_with fail
      refine (HP.out _).mono ?_
      rintro e9 w9 ⟨rfl, rfl⟩
      go_wp2_with fail
      refine (HTK.out _ (HE.out.below (Nat.le_refl _) HB.out)).mono ?_
      intro e9 w1 hp
      obtain ⟨hb1, hp⟩ := hp
      have HB1 := Lib.hid (HB.out.trans (hb1.mono HB.out.size))
      have HT1 := Lib.hid (HT.out.kept hb1)
      rcases hp with ⟨kd, o, c, hx, rfl⟩ | ⟨t, m, vs, out, hx, rfl, hi, ho⟩
      · have hx' : Lx.oneX false (s.extract k s.size) = .bad o c := hx
        have hok := HOK.out
        rw [hx'] at hok
        obtain ⟨ho0, ho1, hc0⟩ := hok
        have HX : Hid (R = .bad (k + o) c) := Lib.hid (HRS.out.symm.trans (HBAD.out o c hx'))
        have hcb : (c != 0) = true := by simpa using hc0
        have hw : IntKind.i64.wrap ((k : Int) + o) = (k : Int) + o := by rw [IntKind.wrap_i64]; omega
        clear hb1 hx hx' hc0
        unfold tkV
        go_wp2
        go_ret3
        exact ⟨HB1.out.alloc HB1.out.size _, .inl ⟨_, _, HX.out, rfl⟩⟩
      · have hx' : Lx.oneX false (s.extract k s.size) = .ok t m := hx
        have hok := HOK.out
        rw [hx'] at hok
        obtain ⟨hm1, hm2, _, _⟩ := hok
        have HX : Hid (Lx.lexR s (k + m) false (T ++ [((k : Int), t)]) = R) := Lib.hid ((HTOK.out t m hx').symm.trans HRS.out)
        have hw : IntKind.i64.wrap ((k : Int) + (m : Int)) = ((k + m : Nat) : Int) := by rw [IntKind.wrap_i64]; omega
        obtain ⟨va, vc, rfl⟩ := own_slice ho
        unfold tkV
        obtain ⟨A, hA⟩ : ∃ A : Obj, A = .cells #[.int .i64 t.kind, .int .i64 (k : Int), .int .i64 t.num, .string t.name, .int .i64 t.mn, .int .i64 t.mx, .bool t.lazy, .slice va out.length vc] 37 := ⟨_, rfl⟩
        have hbw : Below w1.heap.size w1 ((w1.alloc A).alloc A) := ((Below.refl _ w1).alloc (Nat.le_refl _) A).alloc (by simp) A
        have hnew := heap_alloc_new (w1.alloc A) A
        rw [show (w1.alloc A).heap.size = w1.heap.size + 1 from by simp] at hnew
        rw [hA] at hnew
        have hlt9 := HT.out.lt
        have hB9 := HB1.out.trans (hbw.mono HB1.out.size)
        obtain ⟨v', w2, hrun, hown, hb2⟩ := append_tok ((w1.alloc A).alloc A) W.heap.size v T (HT1.out.kept hbw) hB9.size (by omega) (k : Int) t (.slice va out.length vc) rfl (w1.heap.size + 1) (by rw [hA]; exact World.news_of_block hnew) ((setAt_new hi ho (fun b hb => (hlt9 b hb).2) HB.out.size).kept hbw) 1
        have HB2 := Lib.hid (hB9.trans hb2)
        have HOW := Lib.hid hown
        subst hA
        have HRUN := Lib.hid hrun
        have hTl : (T ++ [((k : Int), t)]).length ≤ k + m := by rw [List.length_append]; show T.length + 1 ≤ k + m; omega
        have hkm : k + m ≤ s.size + 1 := by omega
        clear hx hx' hbw hnew hlt9 hB9 hrun hown hb2 hi ho hb1
        go_wp2_with (at_builtin; (refine wpList_append_run rfl _ _ 32 rfl _ _ _ w2 rfl rfl HRUN.out ?_))
        go_roundw
        case rel => exact ⟨k + m, false, T ++ [((k : Int), t)], _, hkm, hTl, rfl, by go_num, rfl, HX, HOW, HB2⟩
        case measure => simp [intOf]; omega
    | true =>
      have HP := Lib.hid (fun w => hasPre2g w (s.extract k s.size) 92 69 (by decide) (by decide))
      rw [tail_drop, show (((92 : UInt8).toNat : Nat) : Int) = 92 from rfl, show (((69 : UInt8).toNat : Nat) : Int) = 69 from rfl] at HP
      have htn := turn_is true ((Utf.nums s).drop k)
      have HTK := Lib.hid (fun w => character_any w (s.extract k s.size) (by omega))
      by_cases hc : Lx.turnB true ((Utf.nums s).drop k) = true
      · have hd : decide (((Utf.nums s).drop k)[0]?.getD 0 = 92 ∧ ((Utf.nums s).drop k)[1]?.getD 0 = 69) = true := htn.symm.trans hc
        rw [hd] at HP
        have HN : Hid (Lx.lexR s (k + 2) (!true) T = R) := Lib.hid ((Lx.lexR_turn hks hc).symm.trans HRS.out)
        have h2 : k + 2 ≤ s.size + 1 := by omega
        have hw : IntKind.i64.wrap ((k : Int) + 2) = ((k + 2 : Nat) : Int) := by rw [IntKind.wrap_i64]; omega
        clear hc hd htn hend hok
        go_wp2_with fail
        refine (HP.out _).mono ?_
        rintro e9 w9 ⟨rfl, rfl⟩
        go_wp2
        go_roundw
        case rel => exact ⟨k + 2, !true, T, _, h2, by omega, rfl, by go_num, rfl, HN, HT, HB⟩
        case measure => simp [intOf]; omega
      have hcf : Lx.turnB true ((Utf.nums s).drop k) = false := by simpa using hc
      have hd : decide (((Utf.nums s).drop k)[0]?.getD 0 = 92 ∧ ((Utf.nums s).drop k)[1]?.getD 0 = 69) = false := htn.symm.trans hcf
      rw [hd] at HP
      have hbad := fun n c h => Lx.lexR_bad (s := s) (at_ := k) (q := true) (T := T) (n := n) (c := c) hks hcf h
      have htok := fun t n h => Lx.lexR_tok (s := s) (at_ := k) (q := true) (T := T) (t := t) (n := n) hks hcf h
      have HBAD := Lib.hid hbad
      have HTOK := Lib.hid htok
      have HOK := Lib.hid hok
      clear hc hcf hd htn hend hok hbad htok
      go_wp2_with fail
      refine (HP.out _).mono ?_
      rintro e9 w9 ⟨rfl, rfl⟩
      go_wp2_with fail
      refine (HTK.out _).mono ?_
      intro e9 w1 hp
      obtain ⟨hb1, hp⟩ := hp
      have HB1 := Lib.hid (HB.out.trans (hb1.mono HB.out.size))
      have HT1 := Lib.hid (HT.out.kept hb1)
      rcases hp with ⟨kd, o, c, hx, rfl⟩ | ⟨t, m, vs, out, hx, rfl, hi, ho⟩
      · have hx' : Lx.oneX true (s.extract k s.size) = .bad o c := hx
        have hok := HOK.out
        rw [hx'] at hok
        obtain ⟨ho0, ho1, hc0⟩ := hok
        have HX : Hid (R = .bad (k + o) c) := Lib.hid (HRS.out.symm.trans (HBAD.out o c hx'))
        have hcb : (c != 0) = true := by simpa using hc0
        have hw : IntKind.i64.wrap ((k : Int) + o) = (k : Int) + o := by rw [IntKind.wrap_i64]; omega
        clear hb1 hx hx' hc0
        unfold tkV
        go_wp2
        go_ret3
        exact ⟨HB1.out.alloc HB1.out.size _, .inl ⟨_, _, HX.out, rfl⟩⟩
      · have hx' : Lx.oneX true (s.extract k s.size) = .ok t m := hx
        have hok := HOK.out
        rw [hx'] at hok
        obtain ⟨hm1, hm2, _, _⟩ := hok
        have HX : Hid (Lx.lexR s (k + m) true (T ++ [((k : Int), t)]) = R) := Lib.hid ((HTOK.out t m hx').symm.trans HRS.out)
        have hw : IntKind.i64.wrap ((k : Int) + (m : Int)) = ((k + m : Nat) : Int) := by rw [IntKind.wrap_i64]; omega
        obtain ⟨va, vc, rfl⟩ := own_slice ho
        unfold tkV
        obtain ⟨A, hA⟩ : ∃ A : Obj, A = .cells #[.int .i64 t.kind, .int .i64 (k : Int), .int .i64 t.num, .string t.name, .int .i64 t.mn, .int .i64 t.mx, .bool t.lazy, .slice va out.length vc] 37 := ⟨_, rfl⟩
        have hbw : Below w1.heap.size w1 ((w1.alloc A).alloc A) := ((Below.refl _ w1).alloc (Nat.le_refl _) A).alloc (by simp) A
        have hnew := heap_alloc_new (w1.alloc A) A
        rw [show (w1.alloc A).heap.size = w1.heap.size + 1 from by simp] at hnew
        rw [hA] at hnew
        have hlt9 := HT.out.lt
        have hB9 := HB1.out.trans (hbw.mono HB1.out.size)
        obtain ⟨v', w2, hrun, hown, hb2⟩ := append_tok ((w1.alloc A).alloc A) W.heap.size v T (HT1.out.kept hbw) hB9.size (by omega) (k : Int) t (.slice va out.length vc) rfl (w1.heap.size + 1) (by rw [hA]; exact World.news_of_block hnew) ((setAt_new hi ho (fun b hb => (hlt9 b hb).2) HB.out.size).kept hbw) 1
        have HB2 := Lib.hid (hB9.trans hb2)
        have HOW := Lib.hid hown
        subst hA
        have HRUN := Lib.hid hrun
        have hTl : (T ++ [((k : Int), t)]).length ≤ k + m := by rw [List.length_append]; show T.length + 1 ≤ k + m; omega
        have hkm : k + m ≤ s.size + 1 := by omega
        clear hx hx' hbw hnew hlt9 hB9 hrun hown hb2 hi ho hb1
        go_wp2_with (at_builtin; (refine wpList_append_run rfl _ _ 32 rfl _ _ _ w2 rfl rfl HRUN.out ?_))
        go_roundw
        case rel => exact ⟨k + m, true, T ++ [((k : Int), t)], _, hkm, hTl, rfl, by go_num, rfl, HX, HOW, HB2⟩
        case measure => simp [intOf]; omega
end Go.Proofs.YtdcielcniboloaaGreatDoor
namespace Go.Proofs.YtdcielcniboloaaGreatDoor
open Go.RowKit
open Lx (Tk TR LR)
set_option linter.unusedVariables false
theorem TkOwn.at {W : World} {base : Nat} {v : Value} {T : List (Int × Tk)} (h : TkOwn W base v T) (h0 : 0 < T.length) : ∃ g cap, v = .slice (some ⟨g, 0, none⟩) T.length cap ∧ base ≤ g ∧ g < W.heap.size ∧
    ∀ j (hj : j < T.length), ∃ vs, SetAt base W vs T[j].2.cls v.ownBlock ∧ ∀ q, q < 8 → W.cell? ⟨g, j * 8 + q, none⟩ = (TkCells T[j].1 T[j].2 vs)[q]? := by
  obtain ⟨X, h1, h2, h3⟩ := h
  obtain ⟨g, cap, rfl, hb, hg⟩ := World.ownsRow.form h2 h0
  have h8 : ∀ x ∈ X, x.length = 8 := fun x hx => by
    obtain ⟨i, hi, rfl⟩ := List.getElem_of_mem hx
    obtain ⟨vs, e, _⟩ := h3 i (by omega)
    rw [List.getElem?_eq_getElem hi] at e
    rw [Option.some.inj e]; rfl
  refine ⟨g, cap, rfl, hb, hg, fun j hj => ?_⟩
  obtain ⟨vs, e, hs⟩ := h3 j hj
  refine ⟨vs, hs, fun q hq => ?_⟩
  rw [World.ownsRow.cellAt h2 (j * 8 + q) (by omega), flat8_at X h8 j q _ e hq]
namespace Lx
end Lx
































end Go.Proofs.YtdcielcniboloaaGreatDoor
namespace Go.Proofs.YtdcielcniboloaaGreatDoor
open Go.RowKit
open Lx (Tk TR LR)
open Ps (TL)
set_option linter.unusedVariables false
/-- The tokens of a pattern, with the end behind them. -/
def endT (n : Nat) : Int × Tk := ((n : Int), {})
/-- What Parse hands back. -/
noncomputable def parseF (s : ByteArray) (f : Int) : Option Nd × Int × Int :=
  match Lx.lexR s 0 false [] with
  | .bad o c => (none, o, c)
  | .ok T => patF (Ps.altP (3 * (T.length + 1) + 3) (T ++ [endT s.size]) f 0 [])
def ParsePost (X : Option Nd × Int × Int) (W : World) (e : Ending) (w' : World) : Prop :=
  ∃ cs, e = .returned (.tuple #[.agg cs.toArray, .int .i64 X.2.1, .int .i64 X.2.2]) ∧ NdIs w' (X.1.getD (Ps.leafN 0 0)) cs ∧ Below W.heap.size W w'
/-- An owned row of tokens, as the parser reads it. -/
theorem TkOwn.on {W : World} {base : Nat} {v : Value} {T : TL} (h : TkOwn W base v T) (h0 : 0 < T.length) : TkOn (fun b => base ≤ b ∧ b < W.heap.size) W v T := by
  obtain ⟨X, h1, h2, h3⟩ := h
  have hown := h2
  rcases h2.2 with ⟨_, e⟩ | ⟨g, cap, cur, e, hb, hg, h4, h5, _⟩
  · omega
  subst e
  have hat := TkOwn.at (⟨X, h1, hown, h3⟩ : TkOwn W base (.slice (some ⟨g, 0, none⟩) T.length cap) T) h0
  obtain ⟨g', c', e, _, hgl, hat⟩ := hat
  injection e with e1 e2 e3
  injection e1 with e1
  injection e1 with e1 _ _
  subst e1
  refine ⟨g, 0, cap, rfl, ⟨hb, (Array.getElem?_eq_some_iff.1 hg).1⟩, (Array.getElem?_eq_some_iff.1 hg).1, h4, h5, fun j hj => ?_⟩
  obtain ⟨vs, ⟨out, i1, i2, i3⟩, hc⟩ := hat j hj
  refine ⟨vs, out, i1, ⟨i2, fun b off n c e hl => ⟨(i3 b off n c e).2.2, (i3 b off n c e).1⟩⟩, fun q hq => by rw [Nat.zero_add]; exact hc q hq⟩
theorem TkOn.mono {S S' : Nat → Prop} {W : World} {v : Value} {L : TL} (h : TkOn S W v L) (hS : ∀ b, S b → S' b) : TkOn S' W v L := by
  obtain ⟨b, o0, cap, e, h0, hlt, h1, h2, h3⟩ := h
  refine ⟨b, o0, cap, e, hS b h0, hlt, h1, h2, fun j hj => ?_⟩
  obtain ⟨vs, out, k1, k2, k3⟩ := h3 j hj
  exact ⟨vs, out, k1, k2.mono hS, k3⟩
theorem Ps.ends_of {T : TL} (n : Nat) (h : ∀ p ∈ T, 1 ≤ p.2.kind ∧ p.2.kind ≤ 13) : Ps.Ends (T ++ [endT n]) := ⟨T, endT n, rfl, rfl, h⟩
theorem Lx.Ris.kinds {m : Int} : ∀ {lo : Int} {l : List (Int × Tk)}, Lx.Ris m lo l → ∀ p ∈ l, 1 ≤ p.2.kind ∧ p.2.kind ≤ 13
  | _, [], _, p, hp => by cases hp
  | lo, x :: l, h, p, hp => by
    rcases List.mem_cons.1 hp with rfl | hp
    · exact ⟨h.2.2.1, h.2.2.2.1⟩
    · exact Lx.Ris.kinds h.2.2.2.2 p hp
/-- The way out of a function whose first result is a node in a box. -/
theorem ret_nd3 {fn : Func} {p u v : Tmp} {R : Ending → World → Prop} {a : Act} {w : World} (h : fn.results = #[.cell p 26, .tmp u, .tmp v]) (g : Nat) (cs : Array Value)
    (hp : a.tmps.getD p undef = .pointer (some ⟨g, 0, none⟩)) (hg : w.heap[g]? = some (.cells cs 26 (0, 0))) (h8 : cs.size = 8) (hd : a.defers = [])
    (hR : R (.returned (.tuple #[.agg cs, a.tmps.getD u undef, a.tmps.getD v undef])) w) : bodyPost Tryz.prog fn R .ret a w := by
  have hi : (Tryz.prog.info? 26).map (·.size) = some cs.size := by rw [h8]; kernel_rfl
  have hl : (loadVar 26 ⟨g, 0, none⟩).run Tryz.prog w = .ok (.agg cs) w := run_loadVar_row w g _ _ cs _ _ hg Tryz.underlying26 rfl hi
  refine ⟨hd, _, ?_, hR⟩
  have hp' : a.tmps[p]?.getD undef = .pointer (some ⟨g, 0, none⟩) := by simpa using hp
  simp [results, h, hp', asAddr, hl, Sem.run_bind]
theorem Lx.Ris.places {m : Int} : ∀ {lo : Int} {l : List (Int × Tk)}, Lx.Ris m lo l → ∀ p ∈ l, lo < p.1 ∧ p.1 < m
  | _, [], _, p, hp => by cases hp
  | lo, x :: l, h, p, hp => by
    rcases List.mem_cons.1 hp with rfl | hp
    · exact ⟨h.1, h.2.1⟩
    · have := Lx.Ris.places h.2.2.2.2 p hp
      exact ⟨by have := h.1; omega, this.2⟩
set_option maxRecDepth 100000 in
set_option maxHeartbeats 8000000 in
theorem parse_any (W : World) (s : ByteArray) (hs : s.size ≤ 4096) (f : Int) (hE : Ev W) : Calls Tryz.prog 11 #[.string s, .int .i64 f] W (ParsePost (parseF s f) W) := by
  have HL := Lib.hid (fun w (hw : Ev w) => lex_any w s hs hw)
  have HRI := Lib.hid (fun T => Lx.lex_rises (s := s) (T := T))
  have HFI := Lib.hid (fun T => Lx.lex_fine (s := s) (T := T))
  have HBA := Lib.hid (fun o c => Lx.lexF_bad s (s.size + 2) 0 false [] o c (by omega))
  have hpf : ∀ R, Lx.lexR s 0 false [] = R → parseF s f = match R with | .bad o c => (none, o, c) | .ok T => patF (Ps.altP (3 * (T.length + 1) + 3) (T ++ [endT s.size]) f 0 []) := fun R h => by unfold parseF; rw [h]
  obtain ⟨R, hR⟩ : ∃ R, Lx.lexR s 0 false [] = R := ⟨_, rfl⟩
  have HPF := Lib.hid (hpf R hR)
  rw [hR] at HL HRI HFI
  have hba := HBA.out
  rw [show Lx.lexF s (s.size + 2) 0 false [] = R from hR] at hba
  have HBD := Lib.hid hba
  have HE := Lib.hid hE
  clear hba hpf hR hE
  obtain ⟨w1, hw1⟩ : ∃ w1, W.alloc (.cells #[.int .i64 0, .slice none 0 0, .int .i64 0, .string ⟨#[]⟩, .int .i64 0, .int .i64 0, .bool false, .slice none 0 0] 26) = w1 := ⟨_, rfl⟩
  obtain ⟨nb, hnb⟩ : ∃ nb, W.heap.size = nb := ⟨_, rfl⟩
  have hb1 : Below W.heap.size W w1 := by rw [← hw1]; exact (Below.refl _ _).alloc (Nat.le_refl _) _
  have hn1 : w1.heap[nb]? = some (.cells #[.int .i64 0, .slice none 0 0, .int .i64 0, .string ⟨#[]⟩, .int .i64 0, .int .i64 0, .bool false, .slice none 0 0] 26 (0, 0)) := by rw [← hw1, ← hnb]; exact heap_alloc_new _ _
  have HE1 := Lib.hid (HE.out.below (Nat.le_refl _) hb1)
  have HB1 := Lib.hid hb1
  have HN1 := Lib.hid hn1
  have HW1 := Lib.hid hw1
  have HNB := Lib.hid hnb
  clear hb1 hn1 hw1 hnb
  go_enter Tryz.func11, Tryz.ntmps11
  go_wp2_with fail
  rw [HW1.out, HNB.out]
  refine (HL.out w1 HE1.out).mono ?_
  rintro e w2 ⟨hb2, h2⟩
  have hn2 := box_gr HN1.out (below_grown (n := 0) hb2 (some (nb + 1))) (by omega)
  have HB2 := Lib.hid (HB1.out.trans (hb2.mono HB1.out.size))
  rcases h2 with ⟨o, c, rfl, rfl⟩ | ⟨T, vT, rfl, rfl, ht, hTl⟩
  · have hc : (c != 0) = true := by simpa using (HBD.out o c rfl).2.2
    obtain ⟨d0, d1, d2, d3, d4, d5, d6, d7, g0, g1, g2, g3, g4, g5, g6, g7⟩ := box_facts hn2
    have HN2 := Lib.hid hn2
    clear hb2 hn2
    go_wp2
    (try simp only [Exit.inBlock, Exit.then])
    refine ret_nd3 rfl nb _ rfl (set8_blk _ _ _ _ _ _ _ _ _ _ HN2.out) rfl rfl ?_
    rw [HPF.out]
    exact ⟨_, rfl, (nd_zero (S := fun _ => True) _).is, set8_below HB2.out nb (by rw [HNB.out]; exact Nat.le_refl _) _ _ _ _ _ _ _ _⟩
  · obtain ⟨va, vc, rfl⟩ := ht.slice
    obtain ⟨w3, hw3⟩ : ∃ w3, w2.alloc (.cells #[.int .i64 0, .int .i64 (s.size : Int), .int .i64 0, .string ⟨#[]⟩, .int .i64 0, .int .i64 0, .bool false, .slice none 0 0] 37) = w3 := ⟨_, rfl⟩
    have hb3 : Below w2.heap.size w2 w3 := by rw [← hw3]; exact (Below.refl _ _).alloc (Nat.le_refl _) _
    have hnew : w3.heap[w2.heap.size]? = some (.cells #[.int .i64 0, .int .i64 (s.size : Int), .int .i64 0, .string ⟨#[]⟩, .int .i64 0, .int .i64 0, .bool false, .slice none 0 0] 37 (0, 0)) := by rw [← hw3]; exact heap_alloc_new _ _
    obtain ⟨v2, w4, hrun, hown, hb4⟩ := append_tok w3 w1.heap.size (.slice va T.length vc) T (ht.kept hb3) (Nat.le_trans hb2.size hb3.size) (by omega) (s.size : Int) {} (.slice none 0 0) rfl w2.heap.size (World.news_of_block hnew) ⟨[], rfl, RRow.nil _, fun b off n cap e => by cases e⟩ 1
    obtain ⟨tg, tcap, ev, htg, htlt, _⟩ := hown.at (by simp)
    subst ev
    obtain ⟨N1, hN1⟩ : ∃ N1, (T ++ [((s.size : Int), ({} : Tk))]).length = N1 := ⟨_, rfl⟩
    rw [hN1] at hrun hown
    have HN1L := Lib.hid hN1
    have HRUN := Lib.hid hrun
    have HOW := Lib.hid hown
    have HW3 := Lib.hid hw3
    clear hrun hown hw3 hnew hN1
    go_wp2_with (at_builtin; (try rw [HW3.out]); (refine wpList_append_run rfl _ _ 32 rfl _ _ _ w4 rfl rfl HRUN.out ?_))
    obtain ⟨w5, hw5⟩ : ∃ w5, w4.alloc (.cells #[.slice (some ⟨tg, 0, none⟩) N1 tcap, .int .i64 f, .int .i64 0] 54) = w5 := ⟨_, rfl⟩
    obtain ⟨B, hB⟩ : ∃ B, w4.heap.size = B := ⟨_, rfl⟩
    have hb5 : Below w4.heap.size w4 w5 := by rw [← hw5]; exact (Below.refl _ _).alloc (Nat.le_refl _) _
    have hs5 : w5.heap.size = B + 1 := by rw [← hw5, ← hB]; simp
    have hbx5 : w5.heap[B]? = some (.cells #[.slice (some ⟨tg, 0, none⟩) N1 tcap, .int .i64 f, .int .i64 0] 54 (0, 0)) := by rw [← hw5, ← hB]; exact heap_alloc_new _ _
    have hb13 : Below w1.heap.size w1 w3 := hb2.trans (hb3.mono hb2.size)
    have hb14 : Below w1.heap.size w1 w4 := hb13.trans hb4
    have hs14 := hb14.size
    have hnb1 := (Array.getElem?_eq_some_iff.1 HN1.out).1
    have htk : ∀ p ∈ T ++ [endT s.size], TokOk p := fun p hp => by
      rcases List.mem_append.1 hp with hp | hp
      · have h1 := Lx.Ris.places (HRI.out T rfl).1 p hp
        have h2 := HFI.out T rfl p hp
        exact ⟨⟨by omega, by omega⟩, h2.1, h2.2.1, h2.2.2.1, Nat.le_trans h2.2.2.2.1 hs, h2.2.2.2.2.1, h2.2.2.2.2.2⟩
      · simp at hp
        subst hp
        exact ⟨⟨by show (0 : Int) ≤ (s.size : Int); omega, by show (s.size : Int) ≤ 1000000; omega⟩, i64_lit 0 (by decide), i64_lit 0 (by decide), i64_lit 0 (by decide), Nat.zero_le _, fun e => absurd e (by show ¬ (0 : Int) = 9; decide), fun e => absurd e (by show ¬ (0 : Int) = 13; decide)⟩
    have hlen : (T ++ [endT s.size]).length = T.length + 1 := by simp
    have hrow := (HOW.out.on (by simp)).kept hb5.size (fun b _ hlt => hb5.block b hlt)
    have hps : PSt w1.heap.size w5 B (B + 1) (.slice (some ⟨tg, 0, none⟩) N1 tcap) (T ++ [endT s.size]) f 0 :=
      ⟨hbx5, TkOn.mono hrow (fun b hb => ⟨by omega, by omega, hb.1⟩), Ps.ends_of s.size (Lx.Ris.kinds (HRI.out T rfl).1), htk, by omega, by omega, by omega, by omega, by omega⟩
    have HPT := Lib.hid (pattern_any w4 hps ⟨HE1.out.below (Nat.le_refl _) hb14, by omega, hb5⟩ (by omega))
    have hpf2 : parseF s f = patF (Ps.altP (3 * (T ++ [endT s.size]).length + 3) (T ++ [endT s.size]) f 0 []) := by rw [hlen]; exact HPF.out
    obtain ⟨⟨xo, xa, xc⟩, hX⟩ : ∃ X, patF (Ps.altP (3 * (T ++ [endT s.size]).length + 3) (T ++ [endT s.size]) f 0 []) = X := ⟨_, rfl⟩
    rw [hX] at HPT hpf2
    have HPF2 := Lib.hid hpf2
    have HBW : Hid (Below W.heap.size W w5) := Lib.hid (HB1.out.trans ((hb14.mono HB1.out.size).trans (hb5.mono (by have := HB1.out.size; omega))))
    have hn5 : w5.heap[nb]? = some (.cells #[.int .i64 0, .slice none 0 0, .int .i64 0, .string ⟨#[]⟩, .int .i64 0, .int .i64 0, .bool false, .slice none 0 0] 26 (0, 0)) := (hb5.block _ (by omega)).trans ((hb14.block _ hnb1).trans HN1.out)
    have HN5 := Lib.hid hn5
    have hBn : nb < B := by omega
    have hWB : W.heap.size ≤ B := by have := HB1.out.size; omega
    have HW5 := Lib.hid hw5
    have HBB := Lib.hid hB
    clear hb5 hs5 hbx5 hb13 hb14 htk hlen hrow hps hpf2 hX hn5 hw5 hB hb2 hb3 hb4 hn2 ht
    rw [HW5.out, HBB.out]
    refine HPT.out.mono ?_
    rintro e w6 ⟨cs, rfl, hx, hg6⟩
    have hn6 := box_gr HN5.out hg6 (by omega)
    obtain ⟨u0, u1, u2, u3, u4, u5, u6, u7, sa, sc, ia, ic, hcs, F⟩ := hx.is.form_of
    subst hcs
    obtain ⟨x, hxx⟩ : ∃ x, (xo, xa, xc).1.getD (Ps.leafN 0 0) = x := ⟨_, rfl⟩
    rw [hxx] at hx F
    obtain ⟨rfl, rfl, rfl, rfl, rfl, rfl, rfl, rfl⟩ := F
    have HX := Lib.hid hx
    have HXX := Lib.hid hxx
    have HN6 := Lib.hid hn6
    have HB6 : Hid (Below W.heap.size W w6) := Lib.hid (HBW.out.grown hg6 HBW.out.size (fun k e => by injection e with e; omega))
    obtain ⟨d0, d1, d2, d3, d4, d5, d6, d7, g0, g1, g2, g3, g4, g5, g6, g7⟩ := box_facts hn6
    clear hx hxx hn6 hg6
    go_wp2
    (try simp only [Exit.inBlock, Exit.then])
    refine ret_nd3 rfl nb _ rfl (set8_blk _ _ _ _ _ _ _ _ _ _ HN6.out) rfl rfl ?_
    rw [HPF2.out]
    refine ⟨_, rfl, ?_, set8_below HB6.out nb (by rw [HNB.out]; exact Nat.le_refl _) _ _ _ _ _ _ _ _⟩
    rw [HXX.out]
    exact (NdOn.kept (by rw [set8_size]; exact Nat.le_refl _) (fun b hb hlt => set8_other _ _ _ _ _ _ _ _ _ _ b (by omega)) HX.out).is
end Go.Proofs.YtdcielcniboloaaGreatDoor
namespace Go.Proofs.YtdcielcniboloaaGreatDoor
open Go.RowKit
open Lx (Tk TR LR)
open Ps (TL)
set_option linter.unusedVariables false
def t1S : ByteArray := ⟨#[97, 124, 98, 42]⟩
def t2S : ByteArray := ⟨#[97, 42, 42]⟩
def t3S : ByteArray := ⟨#[40, 97]⟩
def exN : Nd := .mk 8 [] 0 ⟨#[]⟩ 0 0 false [.mk 3 [(97, 97)] 0 ⟨#[]⟩ 0 0 false [], .mk 9 [] 0 ⟨#[]⟩ 0 (-1) false [.mk 3 [(98, 98)] 0 ⟨#[]⟩ 0 0 false []]]
theorem t1_lex : Lx.lexR t1S 0 false [] = .ok [(0, { kind := 1, num := 97 }), (1, { kind := 12 }), (2, { kind := 1, num := 98 }), (3, { kind := 8, mn := 0, mx := -1 })] := by kernel_rfl
theorem t2_lex : Lx.lexR t2S 0 false [] = .ok [(0, { kind := 1, num := 97 }), (1, { kind := 8, mn := 0, mx := -1 }), (2, { kind := 8, mn := 0, mx := -1 })] := by kernel_rfl
theorem t3_lex : Lx.lexR t3S 0 false [] = .ok [(0, { kind := 9, num := 1 }), (1, { kind := 1, num := 97 })] := by kernel_rfl
theorem t1_alt : Ps.altP 18 ([(0, { kind := 1, num := 97 }), (1, { kind := 12 }), (2, { kind := 1, num := 98 }), (3, { kind := 8, mn := 0, mx := -1 })] ++ [endT 4]) 0 0 [] = .ok exN [endT 4] 0 0 := by kernel_rfl
theorem t2_alt : Ps.altP 15 ([(0, { kind := 1, num := 97 }), (1, { kind := 8, mn := 0, mx := -1 }), (2, { kind := 8, mn := 0, mx := -1 })] ++ [endT 3]) 0 0 [] = .bad 2 91 := by kernel_rfl
theorem t3_alt : Ps.altP 12 ([(0, { kind := 9, num := 1 }), (1, { kind := 1, num := 97 })] ++ [endT 2]) 0 0 [] = .bad 2 82 := by kernel_rfl
theorem ex_ok : Td.checkN exN = 0 := by kernel_rfl
theorem t1_parse : parseF t1S 0 = (some exN, 0, 0) := by
  unfold parseF
  rw [t1_lex]
  show patF (Ps.altP 18 _ 0 0 []) = _
  rw [show t1S.size = 4 from rfl, t1_alt]
  unfold patF
  dsimp only
  rw [if_neg (by show ¬ (0 : Int) = 11; decide), if_pos ex_ok]
theorem t2_parse : parseF t2S 0 = (none, 2, 91) := by
  unfold parseF
  rw [t2_lex]
  show patF (Ps.altP 15 _ 0 0 []) = _
  rw [show t2S.size = 3 from rfl, t2_alt]
  rfl
theorem t3_parse : parseF t3S 0 = (none, 2, 82) := by
  unfold parseF
  rw [t3_lex]
  show patF (Ps.altP 12 _ 0 0 []) = _
  rw [show t3S.size = 2 from rfl, t3_alt]
  rfl
set_option maxRecDepth 100000 in
set_option maxHeartbeats 8000000 in
theorem works9_any (W : World) (hE : Ev W) : Calls Tryz.prog 10 #[] W fun e w' => e = .returned (.bool true) ∧ Below W.heap.size W w' := by
  have HE := Lib.hid hE
  clear hE
  have H1 := Lib.hid (fun w (hw : Ev w) => parse_any w t1S (by decide) 0 hw)
  have H2 := Lib.hid (fun w (hw : Ev w) => parse_any w t2S (by decide) 0 hw)
  have H3 := Lib.hid (fun w (hw : Ev w) => parse_any w t3S (by decide) 0 hw)
  rw [t1_parse] at H1
  rw [t2_parse] at H2
  rw [t3_parse] at H3
  go_enter Tryz.func10, Tryz.ntmps10
  go_wp2_with fail
  refine (H1.out W HE.out).mono ?_
  rintro e w1 ⟨cs, rfl, hx, hb1⟩
  have hx1 : NdIs w1 exN cs := hx
  obtain ⟨vs, a, cap, C, hc⟩ := hx1.cells
  obtain ⟨sa, sc, rfl, _⟩ := hc.set
  have e0 : cs = [.int .i64 8, .slice sa 0 sc, .int .i64 0, .string ⟨#[]⟩, .int .i64 0, .int .i64 0, .bool false, .slice a 2 cap] := hc.eq
  obtain ⟨b, off, m0, u0, u1, u2, u3, u4, u5, u6, u7, ha, hbl, hm, hn, k0, _⟩ := hc.sub 0 (by decide)
  obtain ⟨b', off', m1, y0, y1, y2, y3, y4, y5, y6, y7, ha', _, hm', hn', k1, _⟩ := hc.sub 1 (by decide)
  have em0 : m0 = .mk 3 [(97, 97)] 0 ⟨#[]⟩ 0 0 false [] := (Option.some.inj hm).symm
  have em1 : m1 = .mk 9 [] 0 ⟨#[]⟩ 0 (-1) false [.mk 3 [(98, 98)] 0 ⟨#[]⟩ 0 0 false []] := (Option.some.inj hm').symm
  subst em0 em1
  subst ha
  injection ha' with ha'
  injection ha' with f1 f2 _
  subst f1 f2
  obtain ⟨_, _, _, _, F⟩ := hn.form
  obtain ⟨rfl, _⟩ := F
  obtain ⟨_, _, _, _, F'⟩ := hn'.form
  obtain ⟨rfl, _⟩ := F'
  have q0 : w1.cell? ⟨b, off, none⟩ = some (.int .i64 3) := k0
  have q1 : w1.cell? ⟨b, off + 8, none⟩ = some (.int .i64 9) := k1
  subst e0
  have HQ0 := Lib.hid q0
  have HQ1 := Lib.hid q1
  have HB1 := Lib.hid hb1
  clear hx hx1 hc k0 k1 hm hm' hn hn' q0 q1 hb1
  obtain ⟨w2, hw2⟩ : ∃ w2, w1.alloc (.cells #[.int .i64 8, .slice sa 0 sc, .int .i64 0, .string ⟨#[]⟩, .int .i64 0, .int .i64 0, .bool false, .slice (some ⟨b, off, none⟩) 2 cap] 26) = w2 := ⟨_, rfl⟩
  obtain ⟨nb, hnb⟩ : ∃ nb, w1.heap.size = nb := ⟨_, rfl⟩
  have hb2 : Below w1.heap.size w1 w2 := by rw [← hw2]; exact (Below.refl _ _).alloc (Nat.le_refl _) _
  have hn2 : w2.heap[nb]? = some (.cells #[.int .i64 8, .slice sa 0 sc, .int .i64 0, .string ⟨#[]⟩, .int .i64 0, .int .i64 0, .bool false, .slice (some ⟨b, off, none⟩) 2 cap] 26 (0, 0)) := by rw [← hw2, ← hnb]; exact heap_alloc_new _ _
  have HB2 := Lib.hid (HB1.out.trans (hb2.mono HB1.out.size))
  have HB12 := Lib.hid hb2
  have HN2 := Lib.hid hn2
  have HW2 := Lib.hid hw2
  have HNB := Lib.hid hnb
  clear hb2 hn2 hw2 hnb
  go_wp2_with fail
  rw [HW2.out, HNB.out]
  refine (H2.out w2 (HE.out.below (Nat.le_refl _) HB2.out)).mono ?_
  rintro e w3 ⟨cs3, rfl, hx3, hb3⟩
  obtain ⟨p0, p1, p2, p3, p4, p5, p6, p7, _, _, _, _, rfl, F3⟩ := hx3.form_of
  obtain ⟨rfl, rfl, rfl, rfl, rfl, rfl, rfl, rfl⟩ := F3
  have HB3 := Lib.hid (HB2.out.trans (hb3.mono HB2.out.size))
  have HB23 := Lib.hid hb3
  clear hx3 hb3
  go_wp2_with fail
  refine (H3.out _ (HE.out.below (Nat.le_refl _) (HB3.out.alloc HB3.out.size _))).mono ?_
  rintro e w4 ⟨cs4, rfl, hx4, hb4'⟩
  have hb4 : Below w3.heap.size w3 w4 := ((Below.refl _ w3).alloc (Nat.le_refl _) _).trans (hb4'.mono (by simp))
  obtain ⟨r0, r1, r2, r3, r4, r5, r6, r7, _, _, _, _, rfl, F4⟩ := hx4.form_of
  obtain ⟨rfl, rfl, rfl, rfl, rfl, rfl, rfl, rfl⟩ := F4
  have HB4 := Lib.hid (HB3.out.trans (hb4.mono HB3.out.size))
  have hb14 := HB12.out.trans ((HB23.out.mono HB12.out.size).trans (hb4.mono (Nat.le_trans HB12.out.size HB23.out.size)))
  have hb24 := HB23.out.trans (hb4.mono HB23.out.size)
  have c0 : w4.cell? ⟨b, off, none⟩ = some (.int .i64 3) := (hb14.cell (p := ⟨b, off, none⟩) hbl).trans HQ0.out
  have c1 : w4.cell? ⟨b, off + 8, none⟩ = some (.int .i64 9) := (hb14.cell (p := ⟨b, off + 8, none⟩) hbl).trans HQ1.out
  have hn4 := (hb24.block _ (Array.getElem?_eq_some_iff.1 HN2.out).1).trans HN2.out
  have hD := fun o : Obj => box_facts (heap_alloc_oldp (x := o) hn4)
  have d0 := fun o => (hD o).1
  have d1 := fun o => (hD o).2.1
  have d2 := fun o => (hD o).2.2.1
  have d3 := fun o => (hD o).2.2.2.1
  have d4 := fun o => (hD o).2.2.2.2.1
  have d5 := fun o => (hD o).2.2.2.2.2.1
  have d6 := fun o => (hD o).2.2.2.2.2.2.1
  have d7 := fun o => (hD o).2.2.2.2.2.2.2.1
  have hal : ∀ (o : Obj) (j : Nat), (w4.alloc o).cell? ⟨b, j, none⟩ = w4.cell? ⟨b, j, none⟩ := fun o j => World.cell?_of_block (Below.heap_alloc w4 o b (Nat.lt_of_lt_of_le hbl hb14.size))
  have x0 : ∀ o : Obj, (w4.alloc o).cell? ⟨b, off, none⟩ = some (.int .i64 3) := fun o => (hal o off).trans c0
  have x1 : ∀ o : Obj, (w4.alloc o).cell? ⟨b, off + 8, none⟩ = some (.int .i64 9) := fun o => (hal o (off + 8)).trans c1
  clear hx4 hb4 hb4' hb14 hb24 hn4 hD hal c0 c1
  go_wp2
  go_ret
  exact ⟨rfl, HB4.out.alloc HB4.out.size _⟩
end Go.Proofs.YtdcielcniboloaaGreatDoor
