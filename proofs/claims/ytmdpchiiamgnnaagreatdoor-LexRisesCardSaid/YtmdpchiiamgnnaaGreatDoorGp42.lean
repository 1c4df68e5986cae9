/- burinlaw08.LexRises, walked. · What the rows' listed variables give the walks: a start that meets the list. · What the rows' listed variables, and the world's shape, give the walks. -/
import Derived.Test.YtmdpchiiamgnnaaGreatDoorGp41
import Derived.Test.YtmdpchiiamgnnaaGreatDoorGp14
import Derived.LaidMore
import Derived.Stop.Joined
import Derived.Stop.LaidErr
import Derived.Lib.LaidTab
import Derived.ProofKit
import Derived.Lay
import Derived.HandedShaped
import Derived.Handed
namespace Go.Proofs.YtmdpchiiamgnnaaGreatDoor
open Go.RowKit
open Lx (Tk TR LR)
set_option linter.unusedVariables false
set_option maxRecDepth 100000 in
set_option maxHeartbeats 8000000 in
theorem walkLexRises (W : World) (s : ByteArray) (hs : s.size ≤ 140737488351232) (hE : Ev W) : Calls Tryz.prog 4 #[.string s] W fun e w' => e = .returned (.bool true) ∧ Below W.heap.size W w' := by
  have HE := Lib.hid hE
  clear hE
  by_cases h3 : 200 < s.size
  · have h3i : (200 : Int) < (s.size : Int) := by omega
    go_enter Tryz.func4, Tryz.ntmps4
    go_wp2_with fail
    refine (works8_any _ HE.out).mono ?_
    rintro e w1 ⟨rfl, hb⟩
    have HB := Lib.hid hb
    clear hb
    go_wp2
    go_ret
    exact ⟨rfl, HB.out⟩
  have h3i : ¬ (200 : Int) < (s.size : Int) := by omega
  have HL := Lib.hid (fun w (hw : Ev w) => lex_any w s (by omega) hw)
  have hri := fun T => Lx.lex_rises (s := s) (T := T)
  have hba := fun o c => Lx.lexF_bad s (s.size + 2) 0 false [] o c (by omega)
  obtain ⟨R, hR⟩ : ∃ R, Lx.lexR s 0 false [] = R := ⟨_, rfl⟩
  rw [hR] at HL hri
  have hR' : Lx.lexF s (s.size + 2) 0 false [] = R := hR
  rw [hR'] at hba
  have HRI := Lib.hid hri
  have HBA := Lib.hid hba
  clear hR hR' hri hba h3
  go_enter Tryz.func4, Tryz.ntmps4
  go_wp2_with fail
  refine (works8_any _ HE.out).mono ?_
  rintro e w1 ⟨rfl, hb⟩
  have HB := Lib.hid hb
  clear hb
  go_wp2_with fail
  refine (HL.out _ (HE.out.below (Nat.le_refl _) HB.out)).mono ?_
  rintro e w2 ⟨hb2, ⟨o, c, h, rfl⟩ | ⟨T, v, h, rfl, ht, hTl⟩⟩
  · have HB2 := Lib.hid (HB.out.trans (hb2.mono HB.out.size))
    have h9 := HBA.out o c h
    have hc : (c != 0) = true := by simpa using h9.2.2
    have ho1 : (0 : Int) ≤ o := h9.1
    have ho2 : o ≤ (s.size : Int) := h9.2.1
    clear hb2 h h9
    go_wp2
    go_ret
    exact ⟨rfl, HB2.out⟩
  · have HB2 := Lib.hid (HB.out.trans (hb2.mono HB.out.size))
    have hr9 := HRI.out T h
    have HR9 := Lib.hid hr9.1
    have hfst := hr9.2
    clear h hb2 hr9
    obtain ⟨N, hN⟩ : ∃ N, T.length = N := ⟨_, rfl⟩
    have hat : ∃ a cap, v = .slice a N cap ∧ ∀ j (hj : j < T.length), ∃ b o0 va vn vc, a = some ⟨b, o0, none⟩ ∧ b < w2.heap.size ∧ ∀ q, q < 8 → w2.cell? ⟨b, o0 + j * 8 + q, none⟩ = (TkCells T[j].1 T[j].2 (.slice va vn vc))[q]? := by
      by_cases h0 : 0 < T.length
      · obtain ⟨g, cap, e, _, hg1, hat⟩ := ht.at h0
        refine ⟨some ⟨g, 0, none⟩, cap, by rw [e, hN], fun j hj => ?_⟩
        obtain ⟨vs, ⟨out, _, ⟨va, vcap, e9, _⟩, _⟩, h9⟩ := hat j hj
        subst e9
        exact ⟨g, 0, va, out.length, vcap, rfl, hg1, fun q hq => by rw [Nat.zero_add]; exact h9 q hq⟩
      · obtain ⟨a, cap, e⟩ := ht.slice
        exact ⟨a, cap, by rw [e, hN], fun j hj => absurd hj (by omega)⟩
    obtain ⟨a, cap, rfl, hat⟩ := hat
    have HAT := Lib.hid hat
    have HN := Lib.hid hN
    have HFST := Lib.hid hfst
    clear ht hat hN hfst
    have hNl : N ≤ 100000 := by have := HN.out; omega
    have hNN : Hid (0 ≤ N) := Lib.hid (Nat.zero_le N)
    go_wp2
    go_loopw [6, 37] (fun A I wr => ∃ (i : Nat) (last : Int), i ≤ N ∧ I = .int .i64 (i : Int) ∧ A = .int .i64 last ∧ (i = 0 → last = -1) ∧ Hid (∀ j (hj : j < T.length), j + 1 = i → last = T[j].1) ∧ Hid (Below w2.heap.size w2 wr)) (fun _ I _ => N - (intOf I).toNat)
    case atStart => exact ⟨0, -1, Nat.zero_le _, rfl, rfl, fun _ => rfl, Lib.hid (fun j hj e => by omega), Lib.hid (Below.refl _ _)⟩
    case round =>
      obtain ⟨i, last, hi, rfl, rfl, hl0, HLJ, HBW⟩ := hrel
      by_cases hlt : i < N
      · have hlti : (i : Int) < (N : Int) := by omega
        have hiT : i < T.length := by rw [HN.out]; exact hlt
        obtain ⟨b, o0, va, vn, vc, rfl, hb, hc⟩ := HAT.out i hiT
        obtain ⟨x, r1, r2, r3, r4, r5, r6⟩ := Lx.Ris.drop i hiT HR9.out
        have hxl : x = last := by
          rcases Nat.eq_zero_or_pos i with h | h
          · rw [r5 h, hl0 h]
          · rw [r6 (i - 1) (by omega), HLJ.out (i - 1) (by omega) (by omega)]
        rw [hxl] at r1
        obtain ⟨p, hp⟩ : ∃ p, T[i] = p := ⟨_, rfl⟩
        have HP := Lib.hid hp
        rw [hp] at r1 r2 r3 r4 hc
        obtain ⟨pa, pt⟩ := p
        dsimp only at r1 r2 r3 r4 hc
        have kc : ∀ q, q < 8 → wr.cell? ⟨b, o0 + i * 8 + q, none⟩ = (TkCells pa pt (.slice va vn vc))[q]? := fun q hq => (HBW.out.cell (p := ⟨b, o0 + i * 8 + q, none⟩) hb).trans (hc q hq)
        have q0 : wr.cell? ⟨b, o0 + i * 8, none⟩ = some (.int .i64 pt.kind) := kc 0 (by omega)
        have q1 : wr.cell? ⟨b, o0 + i * 8 + 1, none⟩ = some (.int .i64 pa) := kc 1 (by omega)
        have q2 : wr.cell? ⟨b, o0 + i * 8 + 2, none⟩ = some (.int .i64 pt.num) := kc 2 (by omega)
        have q3 : wr.cell? ⟨b, o0 + i * 8 + 3, none⟩ = some (.string pt.name) := kc 3 (by omega)
        have q4 : wr.cell? ⟨b, o0 + i * 8 + 4, none⟩ = some (.int .i64 pt.mn) := kc 4 (by omega)
        have q5 : wr.cell? ⟨b, o0 + i * 8 + 5, none⟩ = some (.int .i64 pt.mx) := kc 5 (by omega)
        have q6 : wr.cell? ⟨b, o0 + i * 8 + 6, none⟩ = some (.bool pt.lazy) := kc 6 (by omega)
        have q7 : wr.cell? ⟨b, o0 + i * 8 + 7, none⟩ = some (.slice va vn vc) := kc 7 (by omega)
        have t1 : ¬ pa ≤ last := by omega
        have t2 : ¬ (s.size : Int) ≤ pa := by omega
        have t3 : ¬ pt.kind < 1 := by omega
        have t4 : ¬ (13 : Int) < pt.kind := by omega
        have hw : IntKind.i64.wrap ((i : Int) + 1) = ((i + 1 : Nat) : Int) := by rw [IntKind.wrap_i64]; omega
        have HNX : Hid (∀ j (hj : j < T.length), j + 1 = i + 1 → pa = T[j].1) := Lib.hid (fun j hj e => by
          obtain rfl : j = i := by omega
          rw [HP.out])
        clear hc kc r1 r2 r3 r4 r5 r6 hxl hp hl0
        go_wp2
        go_roundw
        case rel => exact ⟨i + 1, pa, by omega, by go_num, rfl, fun e => by omega, HNX, Lib.hid (HBW.out.alloc HBW.out.size _)⟩
        case measure => simp [intOf]; omega
      · obtain rfl : i = N := by omega
        have hlti : ¬ (i : Int) < (i : Int) := by omega
        have HB3 := Lib.hid (HB2.out.trans (HBW.out.mono HB2.out.size))
        by_cases hz : s.size = 0
        · obtain rfl : s = ⟨#[]⟩ := Br.nums_inj' (by rw [List.length_eq_zero_iff.1 ((Utf.nums_length s).trans hz)]; rfl)
          clear hz hlt
          go_wp2
          go_ret
          exact ⟨rfl, HB3.out⟩
        · have hp0 : 0 < s.size := by omega
          obtain ⟨hne, hne2⟩ := toList_ne hp0
          have hp0i : (0 : Int) < (s.size : Int) := by omega
          have h92 : (Utf.nums s)[0]?.getD 0 = ((s[0]'hp0).toNat : Int) := Utf.nums_at s 0 hp0
          by_cases h9 : ((s[0]'hp0).toNat : Int) = 92
          · have b92 : (((s[0]'hp0).toNat : Int) == 92) = true := by simp [h9]
            clear hz hlt h92 h9
            go_wp2
            go_ret
            exact ⟨rfl, HB3.out⟩
          · have b92 : (((s[0]'hp0).toNat : Int) == 92) = false := by simpa using h9
            obtain ⟨t0, U, eT⟩ := HFST.out hp0 (by rw [h92]; exact h9)
            have hT0 : 0 < T.length := by rw [eT]; simp
            obtain ⟨b, o0, va, vn, vc, rfl, hb, hc⟩ := HAT.out 0 hT0
            have hNp : 0 < i := by rw [← HN.out]; exact hT0
            have hNpi : (0 : Int) < (i : Int) := by omega
            have q1 : wr.cell? ⟨b, o0 + 1, none⟩ = some (.int .i64 0) := by
              have h8 := (HBW.out.cell (p := ⟨b, o0 + 0 * 8 + 1, none⟩) hb).trans (hc 1 (by omega))
              have e8 : T[0].1 = 0 := by simp [eT]
              rw [show o0 + 0 * 8 + 1 = o0 + 1 by omega] at h8
              rw [h8]
              show some (Value.int .i64 T[0].1) = _
              rw [e8]
            clear hz hlt h92 h9 hc hT0
            go_wp2
            go_ret
            exact ⟨rfl, HB3.out⟩
end Go.Proofs.YtmdpchiiamgnnaaGreatDoor
namespace Go.Proofs.YtmdpchiiamgnnaaGreatDoor
open Go.RowKit
set_option linter.unusedVariables false
theorem own8 : ownKnob Tryz.prog.godebug = none := by kernel_rfl
def laid8 : List (String × DataW Unit) := Rows.lexRisesRow.laid
/-- The cells of the library's table utf8.first. -/
def firstCells : Array Value := #[.int .u8 240, .int .u8 240, .int .u8 240, .int .u8 240, .int .u8 240, .int .u8 240, .int .u8 240, .int .u8 240, .int .u8 240, .int .u8 240, .int .u8 240, .int .u8 240, .int .u8 240, .int .u8 240, .int .u8 240, .int .u8 240, .int .u8 240, .int .u8 240, .int .u8 240, .int .u8 240, .int .u8 240, .int .u8 240, .int .u8 240, .int .u8 240, .int .u8 240, .int .u8 240, .int .u8 240, .int .u8 240, .int .u8 240, .int .u8 240, .int .u8 240, .int .u8 240, .int .u8 240, .int .u8 240, .int .u8 240, .int .u8 240, .int .u8 240, .int .u8 240, .int .u8 240, .int .u8 240, .int .u8 240, .int .u8 240, .int .u8 240, .int .u8 240, .int .u8 240, .int .u8 240, .int .u8 240, .int .u8 240, .int .u8 240, .int .u8 240, .int .u8 240, .int .u8 240, .int .u8 240, .int .u8 240, .int .u8 240, .int .u8 240, .int .u8 240, .int .u8 240, .int .u8 240, .int .u8 240, .int .u8 240, .int .u8 240, .int .u8 240, .int .u8 240, .int .u8 240, .int .u8 240, .int .u8 240, .int .u8 240, .int .u8 240, .int .u8 240, .int .u8 240, .int .u8 240, .int .u8 240, .int .u8 240, .int .u8 240, .int .u8 240, .int .u8 240, .int .u8 240, .int .u8 240, .int .u8 240, .int .u8 240, .int .u8 240, .int .u8 240, .int .u8 240, .int .u8 240, .int .u8 240, .int .u8 240, .int .u8 240, .int .u8 240, .int .u8 240, .int .u8 240, .int .u8 240, .int .u8 240, .int .u8 240, .int .u8 240, .int .u8 240, .int .u8 240, .int .u8 240, .int .u8 240, .int .u8 240, .int .u8 240, .int .u8 240, .int .u8 240, .int .u8 240, .int .u8 240, .int .u8 240, .int .u8 240, .int .u8 240, .int .u8 240, .int .u8 240, .int .u8 240, .int .u8 240, .int .u8 240, .int .u8 240, .int .u8 240, .int .u8 240, .int .u8 240, .int .u8 240, .int .u8 240, .int .u8 240, .int .u8 240, .int .u8 240, .int .u8 240, .int .u8 240, .int .u8 240, .int .u8 240, .int .u8 240, .int .u8 240, .int .u8 241, .int .u8 241, .int .u8 241, .int .u8 241, .int .u8 241, .int .u8 241, .int .u8 241, .int .u8 241, .int .u8 241, .int .u8 241, .int .u8 241, .int .u8 241, .int .u8 241, .int .u8 241, .int .u8 241, .int .u8 241, .int .u8 241, .int .u8 241, .int .u8 241, .int .u8 241, .int .u8 241, .int .u8 241, .int .u8 241, .int .u8 241, .int .u8 241, .int .u8 241, .int .u8 241, .int .u8 241, .int .u8 241, .int .u8 241, .int .u8 241, .int .u8 241, .int .u8 241, .int .u8 241, .int .u8 241, .int .u8 241, .int .u8 241, .int .u8 241, .int .u8 241, .int .u8 241, .int .u8 241, .int .u8 241, .int .u8 241, .int .u8 241, .int .u8 241, .int .u8 241, .int .u8 241, .int .u8 241, .int .u8 241, .int .u8 241, .int .u8 241, .int .u8 241, .int .u8 241, .int .u8 241, .int .u8 241, .int .u8 241, .int .u8 241, .int .u8 241, .int .u8 241, .int .u8 241, .int .u8 241, .int .u8 241, .int .u8 241, .int .u8 241, .int .u8 241, .int .u8 241, .int .u8 2, .int .u8 2, .int .u8 2, .int .u8 2, .int .u8 2, .int .u8 2, .int .u8 2, .int .u8 2, .int .u8 2, .int .u8 2, .int .u8 2, .int .u8 2, .int .u8 2, .int .u8 2, .int .u8 2, .int .u8 2, .int .u8 2, .int .u8 2, .int .u8 2, .int .u8 2, .int .u8 2, .int .u8 2, .int .u8 2, .int .u8 2, .int .u8 2, .int .u8 2, .int .u8 2, .int .u8 2, .int .u8 2, .int .u8 2, .int .u8 19, .int .u8 3, .int .u8 3, .int .u8 3, .int .u8 3, .int .u8 3, .int .u8 3, .int .u8 3, .int .u8 3, .int .u8 3, .int .u8 3, .int .u8 3, .int .u8 3, .int .u8 35, .int .u8 3, .int .u8 3, .int .u8 52, .int .u8 4, .int .u8 4, .int .u8 4, .int .u8 68, .int .u8 241, .int .u8 241, .int .u8 241, .int .u8 241, .int .u8 241, .int .u8 241, .int .u8 241, .int .u8 241, .int .u8 241, .int .u8 241, .int .u8 241]
/-- A world with the library's table utf8.first laid. -/
def pinW (w : World) : World := { w with heap := w.heap.setIfInBounds 5 (.cells firstCells 187 (0, 0)) }
/-- What a listed part reads as, with its places told. -/
structure MetB (P : Program) (w : World) (l : List (String × DataW Unit)) (ps : List MemPlace) : Prop where
  vars : DataW.LaidVars P w l ps
  nodup : ps.Nodup
  rows : ∀ b off, MemPlace.cell b off ∈ ps → (∃ c t, w.heap[b]? = some (.cells c t (0, 0))) ∧ ∀ u v, w.cell? ⟨b, off, none⟩ = some (.iface u v) → Value.okWide P w .any 0 u v
theorem MetB.app {P : Program} {w : World} {l l' : List (String × DataW Unit)} {ps qs : List MemPlace} (h : MetB P w l ps) (k : MetB P w l' qs) (hd : ∀ x ∈ ps, ∀ y ∈ qs, x ≠ y) : MetB P w (l ++ l') (ps ++ qs) :=
  ⟨LaidVars_app h.vars k.vars, List.nodup_append.2 ⟨h.nodup, k.nodup, fun x hx y hy => hd x hx y hy⟩, fun b off hm => (List.mem_append.1 hm).elim (h.rows b off) (k.rows b off)⟩
theorem met_of_run {P : Program} {w : World} {l : List (String × DataW Unit)} (p : MemPlace → Bool) (fuel : Nat) (h : (DataW.laidRun P w fuel (l.map (·.1))).map (·.1) = some l)
    (hr : (DataW.laidRun P w fuel (l.map (·.1))).map (fun x => decide x.2.Nodup && laidRowsB P w x.2 && x.2.all p) = some true) : ∃ ps, MetB P w l ps ∧ ∀ x ∈ ps, p x = true := by
  cases hx : DataW.laidRun P w fuel (l.map (·.1)) with
  | none => simp [hx] at h
  | some x =>
    obtain ⟨l', ps⟩ := x
    simp only [hx, Option.map_some, Option.some.injEq] at h hr
    subst h
    simp only [Bool.and_eq_true] at hr
    refine ⟨ps, ⟨DataW.LaidVars_of_laidRun hx, of_decide_eq_true hr.1.1, fun b off hp => ?_⟩, List.all_eq_true.1 hr.2⟩
    have := List.all_eq_true.1 hr.1.2 _ hp
    simp only [Bool.and_eq_true] at this
    obtain ⟨h1, h2⟩ := this
    refine ⟨?_, fun u v hc => ?_⟩
    · split at h1
      · rename_i c t hh
        exact ⟨c, t, hh⟩
      · cases h1
    · rw [hc] at h2
      exact Value.okWide_of_okWideB h2
def plA (m : MemPlace) : Bool := m.block != 1 && m.block != 5
def plB (m : MemPlace) : Bool := m.block == 1
def plC (m : MemPlace) : Bool := m.block == 5
theorem door8a (os : Os) (args : Array Value) : ∃ ps, MetB Tryz.prog ((pinW (World.doorLaid Tryz.prog 96 os)).forCall (fun _ _ => 0) ⟨#[], args, []⟩).memory (laid8.take 7) ps ∧ ∀ x ∈ ps, plA x = true :=
  met_of_run plA 257 (by kernel_rfl) (by kernel_rfl)
theorem door8b (os : Os) (args : Array Value) : ∃ ps, MetB Tryz.prog ((pinW (World.doorLaid Tryz.prog 96 os)).forCall (fun _ _ => 0) ⟨#[], args, []⟩).memory ([("strings.asciiSpace", Rows.laid_strings_asciiSpace)]) ps ∧ ∀ x ∈ ps, plB x = true :=
  met_of_run plB 257 (by kernel_rfl) (by kernel_rfl)
theorem door8c (os : Os) (args : Array Value) : ∃ ps, MetB Tryz.prog ((pinW (World.doorLaid Tryz.prog 96 os)).forCall (fun _ _ => 0) ⟨#[], args, []⟩).memory ([("unicode/utf8.first", Rows.laid_unicode_utf8_first)]) ps ∧ ∀ x ∈ ps, plC x = true :=
  met_of_run plC 257 (by kernel_rfl) (by kernel_rfl)
theorem door8 (os : Os) (args : Array Value) : laidMetH Tryz.prog laid8 ((pinW (World.doorLaid Tryz.prog 96 os)).forCall (fun _ _ => 0) ⟨#[], args, []⟩).memory := by
  rw [MakeChecks.laidMetH_plain _ _ _ (by kernel_rfl)]
  obtain ⟨ps, h1, k1⟩ := door8a os args
  obtain ⟨qs, h2, k2⟩ := door8b os args
  obtain ⟨rs, h3, k3⟩ := door8c os args
  have e : laid8 = laid8.take 7 ++ ([("strings.asciiSpace", Rows.laid_strings_asciiSpace)] ++ [("unicode/utf8.first", Rows.laid_unicode_utf8_first)]) := rfl
  rw [e]
  have hbc : ∀ x ∈ qs, ∀ y ∈ rs, x ≠ y := fun x hx y hy h => by
    have a := k2 x hx
    have b := k3 y hy
    rw [h] at a
    unfold plB at a
    unfold plC at b
    simp only [beq_iff_eq] at a b
    rw [a] at b
    cases b
  have h9 := h1.app (h2.app h3 hbc) (fun x hx y hy h => by
    have a := k1 x hx
    unfold plA at a
    simp only [Bool.and_eq_true, bne_iff_ne, ne_eq] at a
    rw [h] at a
    rcases List.mem_append.1 hy with hy | hy
    · have b := k2 y hy
      unfold plB at b
      simp only [beq_iff_eq] at b
      exact a.1 b
    · have b := k3 y hy
      unfold plC at b
      simp only [beq_iff_eq] at b
      exact a.2 b)
  exact ⟨_, h9.vars, h9.nodup, h9.rows⟩
end Go.Proofs.YtmdpchiiamgnnaaGreatDoor
namespace Go.Proofs.YtmdpchiiamgnnaaGreatDoor
open Go.RowKit
set_option linter.unusedVariables false
theorem laid_tab8 : (Rows.laid_strings_asciiSpace : DataW Unit) = Lib.tabData .u8 Lib.asciiSpaceTab := by kernel_rfl
theorem spaces_of8 {W : World} (h : laidMetH Tryz.prog laid8 W) : Spaces W := by
  rw [MakeChecks.laidMetH_plain _ _ _ (by kernel_rfl)] at h
  have h' : laidMet Tryz.prog [("strings.asciiSpace", Rows.laid_strings_asciiSpace), ("unicode/utf8.first", Rows.laid_unicode_utf8_first)] W := h.tail.tail.tail.tail.tail.tail.tail
  rw [laid_tab8] at h'
  exact Lib.tabIs_of_head (g := 1) (by kernel_rfl) (by kernel_rfl) (t := 187) (n := 256) Tryz.underlying187 Tryz.underlying5 (by kernel_rfl) (by kernel_rfl) h'
theorem ev_of {W : World} (h : laidMetH Tryz.prog laid8 W) (hs : W.ShapedOpen Tryz.prog) : Ev W := by
  have hm : ∃ m, W.cell? ⟨0, 0, none⟩ = some (.int .i64 m) :=
    cell_of_shapedOpen_int (zero := #[.int .i64 0]) (t := 3) hs (of_decide_eq_true (by kernel_rfl)) (by kernel_rfl) rfl (by kernel_rfl) (by kernel_rfl) Tryz.underlying3
  refine ⟨spaces_of8 h, ?_, hm⟩
  obtain ⟨m, hm⟩ := hm
  rcases Nat.lt_or_ge 0 W.heap.size with h9 | h9
  · exact h9
  · simp [World.cell?, Array.getElem?_eq_none h9] at hm
section
variable {H : Type} {enc : TypeId × Value → H}
/-- The kit's law for rows that ask something of the world, the world's shape told, too. -/
theorem returnsInHanded_of_change_and_shaped {a : Assume} {C : Checked} {os : Os} {f : FuncId} {fn : Func} {s : ChangeSpec} {conds : List PathCond} {apart fresh handsOn again : Bool} {X : World → Array Value → Prop}
    (hX : ∀ (w w' : World) (args : Array Value), w.heap = w'.heap → X w args → X w' args)
    (own : ownKnob C.prog.godebug = none) (started : os.Started) (noInit : C.prog.inits.idxOf? f = none) (hfn : C.prog.funcs[f]? = some fn)
    (witness : ∃ (w : World) (tape : Tape) (i : Input), w.os = os ∧ (w.forCall tape i).Shaped C.prog ∧ i.vars = [] ∧ Input.okWide C.prog (w.forCall tape i) .any w.heap.size f i ∧
      ((s.pre enc C.prog fn conds apart (w.forCall tape i).memory i.args ∧ X (w.forCall tape i).memory i.args) ∧ sizedMet enc C.prog fn (OpenSpec.ofChange s) apart (w.forCall tape i).memory i.args) ∧ a.holds C.prog (lone (Frame.enter C.prog f i.args .normal) [] (w.forCall tape i)))
    (contract : ∀ (W : World) (base : Nat) (args : Array Value) (ds gs : List (DataW H)) (before : List MemPlace),
      (∀ (j : Nat) t v, fn.params[j]? = some t → args[j]? = some v → Value.okWide C.prog W .any base t v) →
      DataW.Whole enc C.prog fn.params.toList s.vars apart W args.toList ds gs before →
      conds.all (PathCond.test C.prog ⟨fn.params.toList, ds, s.plain.varTypes C.prog, gs⟩) = true →
      (DataW.weightsEach C.prog (fn.params.toList ++ s.plain.varTypes C.prog) (ds ++ gs)).all (· ≤ reachBytes) = true → X W args →
      W.ShapedOpen C.prog →
      a.holds C.prog (lone (Frame.enter C.prog f args .normal) [] W) →
      Calls C.prog f args W fun e W' => ∃ v, e = .returned v ∧ s.post enc C.prog fn apart fresh handsOn again W args v W') :
    ReturnsInHanded a C os f .any (fun w args => (s.pre enc C.prog fn conds apart w args ∧ X w args) ∧ sizedMet enc C.prog fn (OpenSpec.ofChange s) apart w args) (s.post enc C.prog fn apart fresh handsOn again) := by
  refine returnsInHanded_of_calls own started noInit witness ?_
  intro w tape i _ hsh _ hok hpre hholds
  obtain ⟨_, _, _, fn', hfn', _, _, _, _, hval⟩ := hok
  have e : fn' = fn := Option.some.inj (hfn'.symm.trans hfn)
  subst e
  obtain ⟨⟨⟨ds, gs, before, hw, hc⟩, hx⟩, hz⟩ := hpre
  have hw' := DataW.Whole.of_heap (w' := w.forCall tape i) (by rfl) hw
  refine (contract (w.forCall tape i) w.heap.size i.args ds gs before hval hw' hc (hz.weights hw) (hX _ _ _ (by rfl) hx) hsh hholds).mono fun e W' ⟨v, he, hp⟩ => ?_
  subst he
  exact ChangeSpec.post_blind hp
end
end Go.Proofs.YtmdpchiiamgnnaaGreatDoor
