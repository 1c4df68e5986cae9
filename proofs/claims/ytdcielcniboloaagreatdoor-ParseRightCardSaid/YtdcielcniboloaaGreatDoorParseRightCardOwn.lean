/- Rows of texts in memory; the names of the properties. · burinbook.SameTexts on lists of texts in memory. · The book's tree (burinbook): Weigh, Great. · burinbook.SpoilRanges: only the list's own block turns. · burinbook.SpoilTexts: only the list's own block turns. · A tree that is small has few nodes: from Great's 'no' to the bounds of All. · burinlaw06.TreeTells, walked. · burinlaw09.ParseRight, walked. -/
import Derived.Test.YtdcielcniboloaaGreatDoorGp5
import Derived.Test.YtdcielcniboloaaGreatDoorGp6
import Derived.IntWalk
import Derived.Test.YtdcielcniboloaaGreatDoorGp40
import Derived.Test.YtdcielcniboloaaGreatDoorGp7
import Derived.Test.YtdcielcniboloaaGreatDoorGp25
import Derived.Deep.RegionHeld3
import Derived.Test.YtdcielcniboloaaGreatDoorGp39
namespace Go.Proofs.YtdcielcniboloaaGreatDoor
open Go.RowKit
set_option linter.unusedVariables false
/-- A value that reads as a list of texts (their bytes). -/
def TRow (W : World) (v : Value) (L : List (List UInt8)) : Prop :=
  ∃ a cap, v = .slice a L.length cap ∧ L.length ≤ cap ∧ cap ≤ 9223372036854775807 ∧ ∀ j, j < L.length → ∃ b s, a = some ⟨b, 0, none⟩ ∧ b < W.heap.size ∧ W.cell? ⟨b, j, none⟩ = some (.string s) ∧ s.toList = L[j]?.getD []
theorem TRow.below {W W' : World} {v : Value} {L : List (List UInt8)} (h : TRow W v L) {B : Nat} (hB : W.heap.size ≤ B) (hb : Below B W W') : TRow W' v L := by
  obtain ⟨a, cap, hv, h1, h2, hc⟩ := h
  refine ⟨a, cap, hv, h1, h2, fun j hj => ?_⟩
  obtain ⟨b, s, ha, hlt, hcell, hs⟩ := hc j hj
  exact ⟨b, s, ha, Nat.lt_of_lt_of_le hlt hb.size, (hb.cell (p := ⟨b, j, none⟩) (by show b < B; omega)).trans hcell, hs⟩
end Go.Proofs.YtdcielcniboloaaGreatDoor
namespace Go.Proofs.YtdcielcniboloaaGreatDoor
open Go.RowKit
set_option linter.unusedVariables false
theorem take_succ_txt (l m : List (List UInt8)) (k : Nat) (hl : k < l.length) (hm : k < m.length) :
    l.take (k + 1) = m.take (k + 1) ↔ l.take k = m.take k ∧ l[k]?.getD [] = m[k]?.getD [] := by
  rw [List.take_succ_eq_append_getElem hl, List.take_succ_eq_append_getElem hm, List.getElem?_eq_getElem hl, List.getElem?_eq_getElem hm]
  constructor
  · intro h
    have := List.append_inj' h (by simp)
    exact ⟨this.1, by simpa using this.2⟩
  · rintro ⟨h1, h2⟩
    rw [h1]
    have : l[k] = m[k] := by simpa using h2
    rw [this]
set_option maxRecDepth 100000 in
set_option maxHeartbeats 2000000 in
theorem same_txt_walk (W : World) (a b : Option Addr) (n p q : Nat) (l m : List (List UInt8)) (hn : n ≤ 8796093022208) (hl : l.length = n) (hm : m.length = n)
    (ha : ∀ j, j < n → ∃ g s, a = some ⟨g, 0, none⟩ ∧ g < W.heap.size ∧ W.cell? ⟨g, j, none⟩ = some (.string s) ∧ s.toList = l[j]?.getD [])
    (hb : ∀ j, j < n → ∃ g s, b = some ⟨g, 0, none⟩ ∧ g < W.heap.size ∧ W.cell? ⟨g, j, none⟩ = some (.string s) ∧ s.toList = m[j]?.getD []) :
    Calls Tryz.prog 16 #[.slice a n p, .slice b n q] W fun e W' => e = .returned (.bool (decide (l = m))) ∧ ∃ d, W' = W.drewN d := by
  have HA := Lib.hid ha
  have HB := Lib.hid hb
  have HL := Lib.hid hl
  have HM := Lib.hid hm
  clear ha hb hl hm
  go_enter Tryz.func16, Tryz.ntmps16
  go_wp2
  go_loopw [5, 6] (fun s i wr => ∃ (k : Nat) (S : Bool), k ≤ n ∧ i = .int .i64 k ∧ s = .bool S ∧ Hid (S = decide (l.take k = m.take k)) ∧ ∃ d, wr = W.drewN d) (fun s i _ => (n - (intOf i).toNat) + (if s matches .bool true then 1 else 0))
  case atStart => exact ⟨0, true, Nat.zero_le _, rfl, by simp, Lib.hid (by simp), 0, rfl⟩
  case round =>
    obtain ⟨k, S, hk, rfl, rfl, HS, d, rfl⟩ := hrel
    cases S with
    | false =>
      have HF : Hid (decide (l = m) = false) := Lib.hid (by rw [decide_eq_false_iff_not]; intro e; have := HS.out; rw [e] at this; simp at this)
      go_wp2
      go_ret
      exact ⟨by rw [HF.out]; rfl, _, rfl⟩
    | true =>
      by_cases hlt : k < n
      · obtain ⟨g, x, rfl, hg, hc1, hx⟩ := HA.out k hlt
        obtain ⟨g', y, rfl, hg', hc3, hy⟩ := HB.out k hlt
        have hT := take_succ_txt l m k (by rw [HL.out]; exact hlt) (by rw [HM.out]; exact hlt)
        rw [← hx, ← hy] at hT
        have HTT := Lib.hid hT
        have k0 : (0 : Int) ≤ (k : Int) := by omega
        have k1 : (k : Int) < (n : Int) := by omega
        clear hT hx hy
        by_cases e1 : x.toList = y.toList
        · have HT : Hid (true = decide (l.take (k + 1) = m.take (k + 1))) := Lib.hid (by
            have := HS.out
            simp only [Eq.comm (a := true), decide_eq_true_eq] at this ⊢
            exact HTT.out.mpr ⟨this, e1⟩)
          have hq : (x.toList == y.toList) = true := by rw [e1]; simp
          clear e1
          go_wp2
          go_quiet (fail)
          go_wp2
          go_round
          case rel => exact ⟨k + 1, true, by omega, by go_num, rfl, HT, _, rfl⟩
          case measure => simp [intOf]; omega
        · have HT : Hid (false = decide (l.take (k + 1) = m.take (k + 1))) := Lib.hid (by
            symm; rw [decide_eq_false_iff_not]; intro e
            exact e1 (HTT.out.mp e).2)
          have hq : (x.toList == y.toList) = false := beq_eq_false_iff_ne.2 e1
          clear e1
          go_wp2
          go_quiet (fail)
          go_wp2
          go_round
          case rel => exact ⟨k + 1, false, by omega, by go_num, rfl, HT, _, rfl⟩
          case measure => simp [intOf]; omega
      · obtain rfl : k = n := by omega
        have HE : Hid (decide (l = m) = true) := Lib.hid (by
          have := HS.out
          rw [List.take_of_length_le (by rw [HL.out]; exact Nat.le_refl _), List.take_of_length_le (by rw [HM.out]; exact Nat.le_refl _)] at this
          exact this.symm)
        go_wp2
        go_ret
        exact ⟨by rw [HE.out]; rfl, _, rfl⟩
theorem same_txt_eq (W : World) (va vb : Value) (l : List (List UInt8)) (ha : TRow W va l) (hb : TRow W vb l) (hl : l.length ≤ 8796093022208) :
    Calls Tryz.prog 16 #[va, vb] W fun e W' => e = .returned (.bool true) ∧ Below W.heap.size W W' := by
  obtain ⟨a, p, rfl, _, _, hca⟩ := ha
  obtain ⟨b, q, rfl, _, _, hcb⟩ := hb
  refine (same_txt_walk W a b _ p q l l hl rfl rfl hca hcb).mono ?_
  rintro e w' ⟨rfl, d, rfl⟩
  exact ⟨by rw [decide_eq_true rfl], below_drewNr (Below.refl _ _) d⟩
end Go.Proofs.YtdcielcniboloaaGreatDoor
namespace Go.Proofs.YtdcielcniboloaaGreatDoor
open Go.RowKit
set_option linter.unusedVariables false
namespace Td
end Td
end Go.Proofs.YtdcielcniboloaaGreatDoor
namespace Go.Proofs.YtdcielcniboloaaGreatDoor
open Go.RowKit
set_option linter.unusedVariables false






























end Go.Proofs.YtdcielcniboloaaGreatDoor
namespace Go.Proofs.YtdcielcniboloaaGreatDoor
open Go.RowKit
set_option linter.unusedVariables false







































end Go.Proofs.YtdcielcniboloaaGreatDoor
namespace Go.Proofs.YtdcielcniboloaaGreatDoor
set_option linter.unusedVariables false
namespace Td
end Td
end Go.Proofs.YtdcielcniboloaaGreatDoor
namespace Go.Proofs.YtdcielcniboloaaGreatDoor
open Go.RowKit
set_option linter.unusedVariables false
theorem TxOwn.trow {W : World} {base : Nat} {v : Value} {T : List ByteArray} (h : TxOwn W base v T) (hl : T.length ≤ 1000000) : TRow W v (T.map ByteArray.toList) := by
  have hx : ∃ a cap, v = .slice a T.length cap ∧ T.length ≤ cap ∧ cap ≤ 9223372036854775807 := by
    rcases h.2 with ⟨rfl, e⟩ | ⟨g, cap, cur, rfl, hbg, hg, hnc, hcm, hcs, _⟩
    · have e0 : T.length = 0 := by simpa using e
      exact ⟨none, 0, by rw [e0], by omega, by omega⟩
    · exact ⟨_, cap, rfl, hnc, by simpa [maxLen] using hcm⟩
  obtain ⟨a, cap, rfl, h1, h2⟩ := hx
  refine ⟨a, cap, by rw [List.length_map], by rw [List.length_map]; exact h1, h2, fun j hj => ?_⟩
  rw [List.length_map] at hj
  obtain ⟨g, c, e, hg, hc⟩ := h.at j hj
  injection e with e1 e2 e3
  exact ⟨g, T[j], e1, hg, hc, by simp [hj]⟩































































































































































































































































































































end Go.Proofs.YtdcielcniboloaaGreatDoor
namespace Go.Proofs.YtdcielcniboloaaGreatDoor
open Go.RowKit
open Lx (Tk TR LR)
set_option linter.unusedVariables false
theorem Ps.opN_len : ∀ L : Ps.TL, (Ps.opN L).length ≤ L.length
  | [] => Nat.le_refl _
  | p :: L => by
    have := Ps.opN_len L
    rw [Ps.opN]
    split <;> simp <;> omega
theorem Ps.opN_take (L : Ps.TL) (i : Nat) (hi : i < L.length) : Ps.opN (L.take (i + 1)) = Ps.opN (L.take i) ++ (if L[i].2.kind = 9 ∧ L[i].2.num = 1 then [L[i].2.name] else []) := by
  rw [List.take_succ_eq_append_getElem hi, Ps.opN_append]
  congr 1
set_option maxRecDepth 100000 in
set_option maxHeartbeats 8000000 in
theorem walkParseRight (W : World) (s : ByteArray) (f : Int) (hs : s.size ≤ 140737488351232) (hfw : (Lit.int .i64 f).wf = true) (hE : Ev W) : Calls Tryz.prog 4 #[.string s, .int .i64 f] W fun e w' => e = .returned (.bool true) ∧ Below W.heap.size W w' := by
  have HE := Lib.hid hE
  clear hE
  by_cases h3 : 200 < s.size
  · have h3i : (200 : Int) < (s.size : Int) := by omega
    go_enter Tryz.func4, Tryz.ntmps4
    go_wp2_with fail
    refine (works9_any _ HE.out).mono ?_
    rintro e w1 ⟨rfl, hb⟩
    have HB := Lib.hid hb
    clear hb
    go_wp2
    go_ret
    exact ⟨rfl, HB.out⟩
  have h3i : ¬ (200 : Int) < (s.size : Int) := by omega
  obtain ⟨i0, hi, hz0, hz1, hz2⟩ := info_parts Tryz.infoText
  have HL := Lib.hid (fun w (hw : Ev w) => lex_any w s (by omega) hw)
  have HP := Lib.hid (fun w (hw : Ev w) => parse_any w s (by omega) f hw)
  have hR := parse_right s f (by omega)
  have hsz : s.size ≤ 200 := by omega
  obtain ⟨X, a, c, hX⟩ : ∃ X a c, parseF s f = (X, a, c) := ⟨_, _, _, rfl⟩
  rw [hX] at HP
  have hno : X = none → c ≠ 0 ∧ 0 ≤ a ∧ a ≤ s.size := fun h => hR.no a c (by rw [hX, h])
  have hyes : ∀ x, X = some x → a = 0 ∧ c = 0 ∧ ∃ T, Lx.lexR s 0 false [] = .ok T ∧ T.length ≤ s.size ∧ Td.checkN x = 0 ∧ Td.groups (Td.all 1000 1 x) = Ps.opN T ∧ (Td.all 1000 1 x).length ≤ 1000000 := fun x h => hR.yes x a c (by rw [hX, h])
  clear hR hX h3
  have HNO := Lib.hid hno
  have HYES := Lib.hid hyes
  have HSZ := Lib.hid hsz
  clear hno hyes hsz
  go_enter Tryz.func4, Tryz.ntmps4
  go_wp2_with fail
  refine (works9_any _ HE.out).mono ?_
  rintro e w1 ⟨rfl, hb⟩
  have HB := Lib.hid hb
  clear hb
  go_wp2_with fail
  refine (HP.out _ (HE.out.below (Nat.le_refl _) HB.out)).mono ?_
  rintro e w2 ⟨cs, rfl, hnd, hb2⟩
  have HB2 := Lib.hid (HB.out.trans (hb2.mono HB.out.size))
  clear hb2
  cases X with
  | none =>
    obtain ⟨hc0, ha0, ha1⟩ := HNO.out rfl
    have hc : (c != 0) = true := by simpa using hc0
    obtain ⟨u0, u1, u2, u3, u4, u5, u6, u7, sa, sc, aa, ac, rfl, F⟩ := hnd.form_of
    obtain ⟨rfl, rfl, rfl, rfl, rfl, rfl, rfl, rfl⟩ := F
    clear hnd hc0
    go_wp2
    go_ret
    exact ⟨rfl, HB2.out.alloc HB2.out.size _⟩
  | some x =>
    obtain ⟨rfl, rfl, T, hT, hTl, hck, hgr, hal⟩ := HYES.out x rfl
    have HND := Lib.hid hnd
    obtain ⟨u0, u1, u2, u3, u4, u5, u6, u7, sa, sc, aa, ac, rfl, F⟩ := hnd.form_of
    obtain ⟨rfl, rfl, rfl, rfl, rfl, rfl, rfl, rfl⟩ := F
    have HCK := Lib.hid hck
    have HGR := Lib.hid hgr
    have HAL := Lib.hid hal
    have HTR := Lib.hid hT
    have HXL := Lib.hid (show ((Td.all 1000 1 x).length ≤ 1000000) from hal)
    obtain ⟨nb, hnb⟩ : ∃ nb, w2.heap.size = nb := ⟨_, rfl⟩
    obtain ⟨wn, hwn⟩ : ∃ wn, w2.alloc (.cells #[.int .i64 (Td.kind x), .slice sa (Td.set x).length sc, .int .i64 (Td.num x), .string (Td.name x), .int .i64 (Td.mn x), .int .i64 (Td.mx x), .bool (Td.lazy x), .slice aa (Td.subs x).length ac] 26) = wn := ⟨_, rfl⟩
    have hn2 : wn.heap[nb]? = some (.cells #[.int .i64 (Td.kind x), .slice sa (Td.set x).length sc, .int .i64 (Td.num x), .string (Td.name x), .int .i64 (Td.mn x), .int .i64 (Td.mx x), .bool (Td.lazy x), .slice aa (Td.subs x).length ac] 26 (0, 0)) := by rw [← hwn, ← hnb]; exact heap_alloc_new _ _
    have hbn : Below w2.heap.size w2 wn := by rw [← hwn]; exact (Below.refl _ _).alloc (Nat.le_refl _) _
    have HBN := Lib.hid (HB2.out.trans (hbn.mono HB2.out.size))
    have HNDN := Lib.hid (hnd.kept hbn)
    have HN2 := Lib.hid hn2
    have HWN := Lib.hid hwn
    have HNB := Lib.hid hnb
    clear hnd hck hgr hal hT hn2 hbn hwn hnb HND
    go_wp2_with fail
    rw [HWN.out, HNB.out]
    refine (HL.out _ (HE.out.below (Nat.le_refl _) HBN.out)).mono ?_
    rintro e w3 ⟨hb3, ⟨o, c', h, rfl⟩ | ⟨T', v, h, rfl, ht, hTl'⟩⟩
    · rw [HTR.out] at h; cases h
    rw [HTR.out] at h
    injection h with h
    subst h
    have HB3 := Lib.hid (HBN.out.trans (hb3.mono HBN.out.size))
    have HB23 := Lib.hid hb3
    clear hb3
    obtain ⟨N, hN⟩ : ∃ N, T.length = N := ⟨_, rfl⟩
    have hat : ∃ a cap, v = .slice a N cap ∧ ∀ j (hj : j < T.length), ∃ b o0 va vn vc, a = some ⟨b, o0, none⟩ ∧ b < w3.heap.size ∧ ∀ q, q < 8 → w3.cell? ⟨b, o0 + j * 8 + q, none⟩ = (TkCells T[j].1 T[j].2 (.slice va vn vc))[q]? := by
      by_cases h0 : 0 < T.length
      · obtain ⟨g, cap, e, _, hg1, hat⟩ := ht.at h0
        refine ⟨some ⟨g, 0, none⟩, cap, by rw [e, hN], fun j hj => ?_⟩
        obtain ⟨vs, ⟨out, _, ⟨va, vcap, e9, _⟩, _⟩, h9⟩ := hat j hj
        subst e9
        exact ⟨g, 0, va, out.length, vcap, rfl, hg1, fun q hq => by rw [Nat.zero_add]; exact h9 q hq⟩
      · obtain ⟨a, cap, e⟩ := ht.slice
        exact ⟨a, cap, by rw [e, hN], fun j hj => absurd hj (by omega)⟩
    obtain ⟨a, cap, rfl, hat⟩ := hat
    have HAT := Lib.hid hat
    have HN := Lib.hid hN
    have hNl : N ≤ 200 := by have := HSZ.out; omega
    have hNN : Hid (0 ≤ N) := Lib.hid (Nat.zero_le N)
    clear ht hat hN hTl hTl'
    go_wp2
    go_loopw [11, 55] (fun ov iv wr => ∃ i : Nat, i ≤ N ∧ iv = .int .i64 (i : Int) ∧ Hid (TxOwn wr w3.heap.size ov (Ps.opN (T.take i))) ∧ Hid (Below w3.heap.size w3 wr)) (fun _ iv _ => N - (intOf iv).toNat)
    case atStart => exact ⟨0, Nat.zero_le _, rfl, Lib.hid (World.ownsRow_nil _ _ _ _), Lib.hid (Below.refl _ _)⟩
    case round =>
      rename_i ov _ wr
      obtain ⟨i, hi', rfl, HT, HBr⟩ := hrel
      by_cases hlt : i < N
      · have hlti : (i : Int) < (N : Int) := by omega
        have hiT : i < T.length := by rw [HN.out]; exact hlt
        obtain ⟨b, o0, va, vn, vc, rfl, hb, hc⟩ := HAT.out i hiT
        have hS2 : Hid (Ps.opN (T.take (i + 1)) = Ps.opN (T.take i) ++ (if T[i].2.kind = 9 ∧ T[i].2.num = 1 then [T[i].2.name] else [])) := Lib.hid (Ps.opN_take T i hiT)
        obtain ⟨p, hp⟩ : ∃ p, T[i] = p := ⟨_, rfl⟩
        rw [hp] at hc hS2
        obtain ⟨pa, pt⟩ := p
        dsimp only at hc hS2
        have kc : ∀ q, q < 8 → wr.cell? ⟨b, o0 + i * 8 + q, none⟩ = (TkCells pa pt (.slice va vn vc))[q]? := fun q hq => (HBr.out.cell (p := ⟨b, o0 + i * 8 + q, none⟩) hb).trans (hc q hq)
        have q0 : wr.cell? ⟨b, o0 + i * 8, none⟩ = some (.int .i64 pt.kind) := kc 0 (by omega)
        have q1 : wr.cell? ⟨b, o0 + i * 8 + 1, none⟩ = some (.int .i64 pa) := kc 1 (by omega)
        have q2 : wr.cell? ⟨b, o0 + i * 8 + 2, none⟩ = some (.int .i64 pt.num) := kc 2 (by omega)
        have q3 : wr.cell? ⟨b, o0 + i * 8 + 3, none⟩ = some (.string pt.name) := kc 3 (by omega)
        have q4 : wr.cell? ⟨b, o0 + i * 8 + 4, none⟩ = some (.int .i64 pt.mn) := kc 4 (by omega)
        have q5 : wr.cell? ⟨b, o0 + i * 8 + 5, none⟩ = some (.int .i64 pt.mx) := kc 5 (by omega)
        have q6 : wr.cell? ⟨b, o0 + i * 8 + 6, none⟩ = some (.bool pt.lazy) := kc 6 (by omega)
        have q7 : wr.cell? ⟨b, o0 + i * 8 + 7, none⟩ = some (.slice va vn vc) := kc 7 (by omega)
        have hw : IntKind.i64.wrap ((i : Int) + 1) = ((i + 1 : Nat) : Int) := by rw [IntKind.wrap_i64]; omega
        have hblt : w3.heap.size ≤ wr.heap.size := HBr.out.size
        clear hc kc hp
        by_cases k9 : pt.kind = 9
        · by_cases k1 : pt.num = 1
          · rw [if_pos ⟨k9, k1⟩] at hS2
            have hown := HT.out
            unfold TxOwn at hown
            have hgl := Nat.le_trans (Ps.opN_len (T.take i)) (List.length_take_le i T)
            obtain ⟨U, hU⟩ : ∃ U, Ps.opN (T.take i) = U := ⟨_, rfl⟩
            rw [hU] at hown hgl hS2
            obtain ⟨q, hq⟩ : ∃ q, U.length = q := ⟨_, rfl⟩
            have HQ := Lib.hid hq
            rw [hq] at hown hgl
            have HOWN := Lib.hid hown
            have hnew : ∀ tb, ((wr.alloc tb).alloc (.cells #[.string pt.name] 9)).heap[wr.heap.size + 1]? = some (.cells #[.string pt.name] 9 (0, 0)) := fun tb => by
              have h8 := heap_alloc_new (wr.alloc tb) (.cells #[.string pt.name] 9)
              have h7 : (wr.alloc tb).heap.size = wr.heap.size + 1 := by simp
              rw [h7] at h8
              exact h8
            have HNEW := Lib.hid hnew
            clear hU hq hown hnew HT
            go_wp2_with (at_builtin; (refine wpList_append_lies _ (by rfl) _ _ 35 (by rfl) w3.heap.size 9 i0 (.string ⟨#[]⟩) 1 16 Tryz.underText hi hz0 hz1 hz2 rfl (by decide) _ q (U.map Value.string) (by rfl) ((HOWN.out.alloc _).alloc _) ⟨wr.heap.size + 1, 0, none⟩ 1 1 [.string pt.name] (by rfl) rfl (World.news_of_block (HNEW.out _)) (by simp [Value.oneCell']) (by omega) (by unfold maxLen; omega) (by omega) (by simp; omega) (wr.heap.size + 2) (by simp) ?_))
            intro g1 capz wz hown' hgrow _ _
            have HT2 : Hid (TxOwn wz w3.heap.size (.slice (some ⟨g1, 0, none⟩) (q + 1) capz) (Ps.opN (T.take (i + 1)))) := Lib.hid (by
              rw [hS2.out]; unfold TxOwn; rw [List.length_append, HQ.out, List.map_append]; exact hown')
            have HB9 : Hid (Below w3.heap.size w3 wz) := Lib.hid (((HBr.out.alloc hblt _).alloc (by simp; omega) _).grown hgrow (by simp; omega) (fun k hk => (HOWN.out.lt k hk).1))
            clear hown' hgrow
            go_wp2
            go_roundw
            case rel => exact ⟨i + 1, by omega, by go_num, HT2, HB9⟩
            case measure => simp [intOf]; omega
          · rw [if_neg (fun h => k1 h.2), List.append_nil] at hS2
            go_wp2
            go_roundw
            case rel => exact ⟨i + 1, by omega, by go_num, Lib.hid (by rw [hS2.out]; exact txOwn_own HT.out (grown_alloc (grown_refl wr none) _) (fun r e => by cases e)), Lib.hid (HBr.out.alloc hblt _)⟩
            case measure => simp [intOf]; omega
        · rw [if_neg (fun h => k9 h.1), List.append_nil] at hS2
          go_wp2
          go_roundw
          case rel => exact ⟨i + 1, by omega, by go_num, Lib.hid (by rw [hS2.out]; exact txOwn_own HT.out (grown_alloc (grown_refl wr none) _) (fun r e => by cases e)), Lib.hid (HBr.out.alloc hblt _)⟩
          case measure => simp [intOf]; omega
      · obtain rfl : i = N := by omega
        have hlti : ¬ (i : Int) < (i : Int) := by omega
        have hTi : T.take i = T := List.take_of_length_le (by rw [HN.out]; exact Nat.le_refl _)
        rw [hTi] at HT
        have hb4 := HB23.out.trans (HBr.out.mono HB23.out.size)
        have HB4 := Lib.hid (HB3.out.trans (HBr.out.mono HB3.out.size))
        have hn4 := (hb4.block _ (Array.getElem?_eq_some_iff.1 HN2.out).1).trans HN2.out
        obtain ⟨d0, d1, d2, d3, d4, d5, d6, d7, f0, f1, f2, f3, f4, f5, f6, f7⟩ := box_facts hn4
        have HND4 := Lib.hid (HNDN.out.kept hb4)
        have HN4 := Lib.hid hn4
        clear hTi hb4 hn4 f0 f1 f2 f3 f4 f5 f6 f7
        have HC := Lib.hid (callsIn_wide.1 (check_in 3 (by omega) wr x _ HND4.out HXL.out))
        rw [HCK.out] at HC
        go_wp2_with fail
        refine HC.out.mono ?_
        rintro e w5 ⟨rfl, hb5⟩
        clear d0 d1 d2 d3 d4 d5 d6 d7
        have hn5 := (hb5.block _ (Array.getElem?_eq_some_iff.1 HN4.out).1).trans HN4.out
        have HN5 := Lib.hid hn5
        obtain ⟨d0, d1, d2, d3, d4, d5, d6, d7, f0, f1, f2, f3, f4, f5, f6, f7⟩ := box_facts hn5
        have HB5 := Lib.hid (HB4.out.trans (hb5.mono HB4.out.size))
        have HT5 := Lib.hid (HT.out.below hb5)
        have HND5 := Lib.hid (HND4.out.kept hb5)
        have HG := Lib.hid (callsIn_wide.1 (groups_in 3 (by omega) w5 x _ HND5.out HXL.out))
        rw [HGR.out] at HG
        clear hn5 hb5 f0 f1 f2 f3 f4 f5 f6 f7
        go_wp2_with fail
        refine HG.out.mono ?_
        rintro e w6 ⟨gv, rfl, hgv, hb6⟩
        clear d0 d1 d2 d3 d4 d5 d6 d7
        have HB6 := Lib.hid (HB5.out.trans (hb6.mono HB5.out.size))
        have HT6 := Lib.hid (HT5.out.below hb6)
        have HGV := Lib.hid hgv
        have hlen9 := Ps.opN_len T
        have HLN := Lib.hid (show (Ps.opN T).length ≤ 1000000 by have := HN.out; omega)
        clear hgv hb6 hlen9
        go_wp2_with fail
        refine (same_txt_eq w6 _ _ _ (HGV.out.trow HLN.out) (HT6.out.trow HLN.out) (by rw [List.length_map]; have := HLN.out; omega)).mono ?_
        rintro e w7 ⟨rfl, hb7⟩
        have HB7 := Lib.hid (HB6.out.trans (hb7.mono HB6.out.size))
        clear hb7
        go_wp2
        go_ret
        exact ⟨rfl, HB7.out⟩
end Go.Proofs.YtdcielcniboloaaGreatDoor
