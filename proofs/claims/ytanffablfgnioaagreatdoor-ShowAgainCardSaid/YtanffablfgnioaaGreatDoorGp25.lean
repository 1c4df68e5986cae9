/- The landed bracket: property, Set. · The landed bracket: Set. · The contracts of the small functions of package utf and of its reference: width, first byte's mark, announced length. · The contract of utf.Decode: it reads what the plain mathematics reads. · The landed lex: what its functions hand back; a rune as itself. · The landed lex: the escapes that are no class and no number. · The landed bracket: character, goesOn, isClassEscape. -/
import Derived.Test.YtanffablfgnioaaGreatDoorGp21
import Derived.Test.YtanffablfgnioaaGreatDoorGp24
import Derived.Test.YtanffablfgnioaaGreatDoorGp23
import Derived.Test.YtanffablfgnioaaGreatDoorGp6
import Derived.Test.YtanffablfgnioaaGreatDoorGp20
import Derived.WalkKit
import Derived.OwnWalk
import Derived.WalkLawsBesides
import Derived.WalkSpells
import Derived.Lib.Hide
import Derived.Deep.QuietTactic
import Derived.BigQuiet
import Derived.Laws.BitsLemmas
import Derived.Test.YtanffablfgnioaaGreatDoorGp2
import Derived.Laws.Rows
namespace Go.Proofs.YtanffablfgnioaaGreatDoor
open Go.RowKit
set_option linter.unusedVariables false
/-- What Set hands back. -/
def SetPost (X : Br.Cls × Int × Int) (W : World) (e : Ending) (w' : World) : Prop :=
  ∃ v out, e = .returned (.tuple #[v, .int .i64 X.2.1, .int .i64 X.2.2]) ∧ Br.SetIs X.1 out ∧ RgOwn w' W.heap.size v out ∧ Below W.heap.size W w'
theorem setIs_row {X : Br.Cls} {out : List (Int × Int)} (hc : Br.SetIs X out) {W : World} {base : Nat} {v : Value} (h : RgOwn W base v out) : RRow W v out := by
  cases X with
  | none => obtain rfl : out = [] := hc; exact h.row (by simp) (fun p hp => by cases hp)
  | some p => exact h.normRow hc.1
theorem below_drawn {W : World} (d : Nat) : Below W.heap.size W (W.drewN d) := below_drewNr (Below.refl _ _) d
set_option maxRecDepth 100000 in
set_option maxHeartbeats 4000000 in
theorem property_any (W : World) (s : ByteArray) (hs : s.size ≤ 100000) (h2 : 2 ≤ s.size) (neg : Bool) (hE : Ev W) : Calls Tryz.prog 77 #[.string s, .bool neg] W (SetPost (Br.propX s neg) W) := by
  have h2i : (2 : Int) ≤ (s.size : Int) := by omega
  have hn := Br.nameX_of s h2
  have hpx : Br.propX s neg = (if (Br.nameX s).2.2 ≠ 0 then (none, 0, (Br.nameX s).2.2) else match Cl.lookC Cl.propT (Br.nameX s).1.data.toList with | none => (none, 0, 70) | some (b, T) => (some (b != neg, T), (Br.nameX s).2.1, 0)) := rfl
  have hcs := Br.nameX_cases s h2
  have hP := pname_any W (s.extract 2 s.size) (by rw [ByteArray.size_extract]; omega) hE
  rw [hn] at hpx hcs
  obtain ⟨⟨nm, n, code⟩, hp⟩ : ∃ p, Br.pname (s.extract 2 s.size) = p := ⟨_, rfl⟩
  rw [hp] at hP hpx hcs
  dsimp only at hP hpx hcs
  have HP := Lib.hid hP
  have HE := Lib.hid hE
  obtain ⟨R, hR⟩ : ∃ R, Br.propX s neg = R := ⟨_, rfl⟩
  rw [hR] at hpx ⊢
  clear hP hn hp hR hE
  by_cases hc : code = 0
  · subst hc
    rw [if_neg (by simp), if_pos rfl] at hpx
    rw [if_pos rfl] at hcs
    have hnb : 1 ≤ n ∧ n + 2 ≤ s.size := by omega
    have hw : IntKind.i64.wrap (2 + n) = n + 2 := by rw [IntKind.wrap_i64]; omega
    have HPX := Lib.hid hpx
    clear hpx hcs
    cases neg with
    | false =>
      go_enter Tryz.func77, Tryz.ntmps77
      go_wp2_with fail
      refine HP.out.mono ?_
      rintro e w' ⟨rfl, d, rfl⟩
      go_wp2_with fail
      refine (cProp_any _ nm (HE.out.drewN d).spaces).mono ?_
      rintro e w2 ⟨v, out, c2, rfl, hc2, ho, hb⟩
      have HO : Hid (RgOwn w2 W.heap.size v out) := Lib.hid ho
      have HB : Hid (Below W.heap.size W w2) := Lib.hid ((below_drawn (W := W) d).trans hb)
      cases hl : Cl.lookC Cl.propT nm.data.toList with
      | none =>
        rw [hl] at hc2
        obtain ⟨rfl, rfl⟩ := hc2
        have HR : Hid (R = (none, 0, 70)) := Lib.hid (by rw [HPX.out, hl])
        clear ho hb hl
        go_wp2
        go_ret3
        rw [HR.out]
        exact ⟨.slice none 0 0, [], rfl, rfl, RgOwn.nil, HB.out⟩
      | some x =>
        obtain ⟨b, T⟩ := x
        rw [hl] at hc2
        have HS := Lib.hid (Br.setIs_of hc2)
        obtain rfl : c2 = 0 := hc2.1
        have HR : Hid (R = (some (b != false, T), n + 2, 0)) := Lib.hid (by rw [HPX.out, hl])
        clear ho hb hl hc2
        go_wp2
        go_ret3
        rw [HR.out]
        exact ⟨v, out, rfl, by simpa using HS.out, HO.out, HB.out⟩
    | true =>
      go_enter Tryz.func77, Tryz.ntmps77
      go_wp2_with fail
      refine HP.out.mono ?_
      rintro e w' ⟨rfl, d, rfl⟩
      go_wp2_with fail
      refine (cProp_any _ nm (HE.out.drewN d).spaces).mono ?_
      rintro e w2 ⟨v, out, c2, rfl, hc2, ho, hb⟩
      have HO : Hid (RgOwn w2 W.heap.size v out) := Lib.hid ho
      have HB : Hid (Below W.heap.size W w2) := Lib.hid ((below_drawn (W := W) d).trans hb)
      cases hl : Cl.lookC Cl.propT nm.data.toList with
      | none =>
        rw [hl] at hc2
        obtain ⟨rfl, rfl⟩ := hc2
        have HR : Hid (R = (none, 0, 70)) := Lib.hid (by rw [HPX.out, hl])
        clear ho hb hl
        go_wp2
        go_ret3
        rw [HR.out]
        exact ⟨.slice none 0 0, [], rfl, rfl, RgOwn.nil, HB.out⟩
      | some x =>
        obtain ⟨b, T⟩ := x
        rw [hl] at hc2
        have HS := Lib.hid (Br.setIs_of hc2)
        obtain rfl : c2 = 0 := hc2.1
        have HR : Hid (R = (some (b != true, T), n + 2, 0)) := Lib.hid (by rw [HPX.out, hl])
        clear ho hb hl hc2
        go_wp2_with fail
        refine (not_any _ v out (setIs_row HS.out HO.out)).mono ?_
        rintro e w3 ⟨v3, out3, rfl, hm3, ho3, hb3⟩
        have HS3 := Lib.hid (Br.setIs_not HS.out hm3)
        have HO3 := Lib.hid (ho3.lower HB.out.size)
        have HB3 := Lib.hid (HB.out.trans (hb3.mono HB.out.size))
        clear hm3 ho3 hb3
        go_wp2
        go_ret3
        rw [HR.out]
        exact ⟨v3, out3, rfl, by simpa using HS3.out, HO3.out, HB3.out⟩
  · have hc0 : (code != 0) = true := by simpa using hc
    rw [if_pos hc] at hpx
    have HR := Lib.hid hpx
    clear hpx hcs
    go_enter Tryz.func77, Tryz.ntmps77
    go_wp2_with fail
    refine HP.out.mono ?_
    rintro e w' ⟨rfl, d, rfl⟩
    go_wp2
    go_ret3
    rw [HR.out]
    exact ⟨.slice none 0 0, [], rfl, rfl, RgOwn.nil, below_drawn d⟩
end Go.Proofs.YtanffablfgnioaaGreatDoor
namespace Go.Proofs.YtanffablfgnioaaGreatDoor
open Go.RowKit
set_option linter.unusedVariables false
set_option maxRecDepth 100000 in
set_option maxHeartbeats 4000000 in
theorem bSet_any (W : World) (s : ByteArray) (hs : s.size ≤ 100000) (hE : Ev W) : Calls Tryz.prog 55 #[.string s] W (SetPost (Br.set s) W) := by
  have hp := hasPre1 W s 92 (by decide)
  rw [show (((92 : UInt8).toNat : Nat) : Int) = 92 from rfl] at hp
  have hset : Br.set s = (if (Utf.nums s)[0]?.getD 0 ≠ 92 then (none, 0, 3) else if s.size = 1 then (none, 0, 5) else if (Utf.nums s)[1]?.getD 0 = 80 then Br.propX s true else if (Utf.nums s)[1]?.getD 0 = 112 then Br.propX s false else match Cl.letterX ((Utf.nums s)[1]?.getD 0) with | none => (none, 0, 5) | some x => (some x, 2, 0)) := by
    unfold Br.set
    dsimp only
    rw [Utf.nums_length]
    rfl
  have HE := Lib.hid hE
  obtain ⟨R, hR⟩ : ∃ R, Br.set s = R := ⟨_, rfl⟩
  rw [hR] at hset ⊢
  clear hE hR
  by_cases c0 : ¬ (Utf.nums s)[0]?.getD 0 = 92
  · have HR : Hid (R = (none, 0, 3)) := Lib.hid (by rw [hset, if_pos c0])
    rw [decide_eq_false c0] at hp
    have HP := Lib.hid hp
    clear hset hp c0
    go_enter Tryz.func55, Tryz.ntmps55
    go_wp2_with (go_at_call 16; refine HP.out.mono ?_; rintro e w' ⟨rfl, rfl⟩)
    go_ret3
    rw [HR.out]
    exact ⟨.slice none 0 0, [], rfl, rfl, RgOwn.nil, Below.refl _ _⟩
  have c0' : (Utf.nums s)[0]?.getD 0 = 92 := by omega
  rw [decide_eq_true c0'] at hp
  have HP := Lib.hid hp
  rw [if_neg (by omega)] at hset
  have h0 : 0 < s.size := by
    rcases Nat.lt_or_ge 0 s.size with h | h
    · exact h
    · rw [List.getElem?_eq_none (by rw [Utf.nums_length]; omega)] at c0'; cases c0'
  by_cases c1 : s.size = 1
  · have HR : Hid (R = (none, 0, 5)) := Lib.hid (by rw [hset, if_pos c1])
    have h1 : ((s.size : Int) == 1) = true := by simp [c1]
    clear hset hp c0 c0' c1
    go_enter Tryz.func55, Tryz.ntmps55
    go_wp2_with (go_at_call 16; refine HP.out.mono ?_; rintro e w' ⟨rfl, rfl⟩)
    go_ret3
    rw [HR.out]
    exact ⟨.slice none 0 0, [], rfl, rfl, RgOwn.nil, Below.refl _ _⟩
  have h1 : ((s.size : Int) == 1) = false := by simp; omega
  have h2 : 1 < s.size := by omega
  have h2i : (1 : Int) < (s.size : Int) := by omega
  have hb : s[1].toNat < 256 := UInt8.toNat_lt _
  have hat : (Utf.nums s)[1]?.getD 0 = (s[1].toNat : Int) := Utf.nums_at s 1 h2
  rw [if_neg c1, hat] at hset
  clear hp c0 c0' c1 hat
  by_cases c2 : (s[1].toNat : Int) = 80
  · rw [if_pos c2] at hset
    have HC := Lib.hid (property_any W s hs h2 true HE.out)
    rw [← hset] at HC
    clear hset
    go_enter Tryz.func55, Tryz.ntmps55
    go_wp2_with fail
    refine HP.out.mono ?_
    rintro e w' ⟨rfl, rfl⟩
    go_wp2_with fail
    refine HC.out.mono ?_
    rintro e w' ⟨v, out, rfl, h7, h8, h9⟩
    have H7 := Lib.hid (And.intro h7 (And.intro h8 h9))
    clear h7 h8 h9
    go_wp2
    go_ret3
    exact ⟨v, out, rfl, H7.out⟩
  rw [if_neg c2] at hset
  have c2b : ((s[1].toNat : Int) == 80) = false := by simpa using c2
  by_cases c3 : (s[1].toNat : Int) = 112
  · rw [if_pos c3] at hset
    have HC := Lib.hid (property_any W s hs h2 false HE.out)
    rw [← hset] at HC
    clear hset c2
    go_enter Tryz.func55, Tryz.ntmps55
    go_wp2_with fail
    refine HP.out.mono ?_
    rintro e w' ⟨rfl, rfl⟩
    go_wp2_with fail
    refine HC.out.mono ?_
    rintro e w' ⟨v, out, rfl, h7, h8, h9⟩
    have H7 := Lib.hid (And.intro h7 (And.intro h8 h9))
    clear h7 h8 h9
    go_wp2
    go_ret3
    exact ⟨v, out, rfl, H7.out⟩
  rw [if_neg c3] at hset
  have c3b : ((s[1].toNat : Int) == 112) = false := by simpa using c3
  have HC := Lib.hid (cLetter_any W (s[1].toNat : Int) HE.out.spaces)
  obtain ⟨X, hX⟩ : ∃ X, Cl.letterX (s[1].toNat : Int) = X := ⟨_, rfl⟩
  rw [hX] at HC hset
  cases X with
  | none =>
    have HR : Hid (R = (none, 0, 5)) := Lib.hid hset
    clear hset hX c2 c3
    go_enter Tryz.func55, Tryz.ntmps55
    go_wp2_with fail
    refine HP.out.mono ?_
    rintro e w' ⟨rfl, rfl⟩
    go_wp2_with fail
    refine HC.out.mono ?_
    rintro e w2 ⟨v, out, c9, rfl, hc9, ho, hb9⟩
    obtain ⟨rfl, rfl⟩ := hc9
    have HB := Lib.hid hb9
    clear ho hb9
    go_wp2
    go_ret3
    rw [HR.out]
    exact ⟨.slice none 0 0, [], rfl, rfl, RgOwn.nil, HB.out⟩
  | some x =>
    have HR : Hid (R = (some x, 2, 0)) := Lib.hid hset
    clear hset hX c2 c3
    go_enter Tryz.func55, Tryz.ntmps55
    go_wp2_with fail
    refine HP.out.mono ?_
    rintro e w' ⟨rfl, rfl⟩
    go_wp2_with fail
    refine HC.out.mono ?_
    rintro e w2 ⟨v, out, c9, rfl, hc9, ho, hb9⟩
    have HS := Lib.hid (Br.setIs_of hc9)
    obtain rfl : c9 = 0 := hc9.1
    have HB := Lib.hid hb9
    have HO := Lib.hid ho
    clear ho hb9 hc9
    go_wp2
    go_ret3
    rw [HR.out]
    exact ⟨v, out, rfl, HS.out, HO.out, HB.out⟩
end Go.Proofs.YtanffablfgnioaaGreatDoor
namespace Go.Proofs.YtanffablfgnioaaGreatDoor
open Go.RowKit


theorem width_any (r : Int) (w : World) : Calls Tryz.prog 65 #[.int .i64 r] w fun e w' => e = .returned (.int .i64 (Utf.width r)) ∧ w = w' := by
  go_enter Tryz.func65, Tryz.ntmps65
  go_wp2
  all_goals
    go_ret
    refine ⟨ret_int ?_, rfl⟩
    unfold Utf.width
    repeat (first | omega | rfl | split)
theorem announced_any (r : Int) (w : World) : Calls Tryz.prog 63 #[.int .u8 r] w fun e w' => e = .returned (.int .i64 (Utf.ann r)) ∧ w = w' := by
  go_enter Tryz.func63, Tryz.ntmps63
  go_wp2
  all_goals
    go_ret
    refine ⟨ret_int ?_, rfl⟩
    unfold Utf.ann
    repeat (first | omega | rfl | split)
theorem mark_any (r : Int) (w : World) : Calls Tryz.prog 64 #[.int .i64 r] w fun e w' => e = .returned (.int .i64 (Utf.mark r)) ∧ w = w' := by
  go_enter Tryz.func64, Tryz.ntmps64
  go_wp2
  all_goals
    go_ret
    refine ⟨ret_int ?_, rfl⟩
    unfold Utf.mark
    simp_all
end Go.Proofs.YtanffablfgnioaaGreatDoor
namespace Go.Proofs.YtanffablfgnioaaGreatDoor
open Go.RowKit
def DecPost (s : ByteArray) (w : World) (e : Ending) (w' : World) : Prop :=
  e = .returned (.tuple #[.int .i64 (Utf.dec (Utf.nums s)).1, .int .i64 (Utf.dec (Utf.nums s)).2]) ∧ ∃ n, w' = w.drewN n
theorem decPost_mk {s : ByteArray} {w : World} {a b : Int} {n : Nat} (h : Utf.dec (Utf.nums s) = (a, b)) : DecPost s w (.returned (.tuple #[.int .i64 a, .int .i64 b])) (w.drewN n) := by
  unfold DecPost; rw [h]; exact ⟨rfl, n, rfl⟩
theorem decPost_mk0 {s : ByteArray} {w : World} {a b : Int} (h : Utf.dec (Utf.nums s) = (a, b)) : DecPost s w (.returned (.tuple #[.int .i64 a, .int .i64 b])) w := by
  unfold DecPost; rw [h]; exact ⟨rfl, 0, rfl⟩

set_option maxRecDepth 100000 in
set_option maxHeartbeats 400000 in
theorem decode_any (s : ByteArray) (hs : s.size ≤ maxLen) (w : World) : Calls Tryz.prog 35 #[.string s] w (DecPost s w) := by
  unfold maxLen at hs
  by_cases h0 : 0 < s.size
  · obtain ⟨hne, hne2⟩ := toList_ne h0
    have hat := Utf.nums_at s 0 h0
    have hnil : Utf.nums s ≠ [] := by rw [Ne, Utf.nums_nil]; omega
    obtain ⟨n, hn⟩ : ∃ n : Nat, Utf.ann ((s[0].toNat : Nat) : Int) = n := ⟨(Utf.ann ((s[0].toNat : Nat) : Int)).toNat, by have := Utf.ann_bd ((s[0].toNat : Nat) : Int); omega⟩
    have hn4 : n ≤ 4 := by have := Utf.ann_bd ((s[0].toNat : Nat) : Int); omega
    have hb : s[0].toNat < 256 := UInt8.toNat_lt _
    have HN := Lib.hid hn
    have HT := Lib.hid hat
    have HI := Lib.hid hnil
    by_cases hn0 : n = 0
    · have HB := Lib.hid (Utf.dec_bad1 (Utf.nums s) hnil (.inl (by rw [hat, hn, hn0]; rfl)))
      subst hn0
      clear hn hat hnil
      go_enter Tryz.func35, Tryz.ntmps35
      go_wp2_with (go_at_call 63; refine (announced_any _ _).mono ?_; rintro e w' ⟨rfl, rfl⟩; rw [HN.out])
      go_ret2
      exact decPost_mk0 HB.out
    · have hz : ((n : Int) == 0) = false := by simp; omega
      by_cases hl : n ≤ s.size
      · have hmb := Utf.mark_bd n
        have hacc : ∀ k, k ≤ 4 → 0 ≤ Utf.acc (Utf.nums s) (Utf.mark n) k ∧ Utf.acc (Utf.nums s) (Utf.mark n) k ≤ 67108863 := by
          intro k hk
          have := Utf.acc_bd (Utf.nums s) (Utf.nums_bytes s) k hk
          rw [hat, hn] at this
          exact this
        have HA := Lib.hid hacc
        have hsub : (s[0].toNat : Int) - Utf.mark n = Utf.acc (Utf.nums s) (Utf.mark n) 1 := by
          rw [Utf.acc1, hat]
        have HS := Lib.hid hsub
        clear hn hat hacc hsub hnil
        go_enter Tryz.func35, Tryz.ntmps35
        go_wp2_with (go_at_call 63; refine (announced_any _ _).mono ?_; rintro e w' ⟨rfl, rfl⟩; rw [HN.out])
        go_quiet ((go_at_call 64; exact Calls.quiet_of_same ((mark_any _ _).mono fun _ _ h => ⟨h.1, h.2.symm⟩)))
        go_wp2
        go_loop [2, 3, 4] (fun r N i => ∃ k : Nat, 1 ≤ k ∧ k ≤ n ∧ i = .int .i64 k ∧ N = .int .i64 n ∧ r = .int .i64 (Utf.acc (Utf.nums s) (Utf.mark n) k) ∧ Utf.conts (Utf.nums s) k = true) (fun _ _ i => n - (intOf i).toNat)
        case atStart => exact ⟨1, Nat.le_refl _, by omega, rfl, rfl, by rw [← HS.out], rfl⟩
        case round =>
          obtain ⟨k, hk1, hk, rfl, rfl, rfl, hc⟩ := hrel
          have ha := HA.out k (by omega)
          have HC := Lib.hid hc
          clear hc
          by_cases hkn : k < n
          · have hks : k < s.size := by omega
            have hb : s[k].toNat < 256 := UInt8.toNat_lt _
            have hand := and192 _ hb
            have hand2 := and63 _ hb
            have HK := Lib.hid (Utf.nums_at s k hks)
            go_wp2
            · go_ret2
              refine decPost_mk (Utf.dec_bad2 _ n HI.out (by rw [HT.out, HN.out]) fun h => ?_)
              have := Utf.conts_at _ n k h.1 hk1 hkn
              rw [HK.out] at this
              exact Utf.cont_no _ (by assumption) this
            · go_round
              case rel => exact ⟨k + 1, by omega, by omega, by go_num, rfl, by rw [Utf.acc_succ _ _ _ hk1, HK.out], Utf.conts_succ _ _ hk1 HC.out (by rw [HK.out]; exact Utf.cont_yes _ (by assumption))⟩
              case measure => simp [intOf]; omega
          · obtain rfl : k = n := by omega
            clear hk
            by_cases hw : Utf.width (Utf.acc (Utf.nums s) (Utf.mark k) k) = k
            · have HD := Lib.hid (Utf.dec_of (Utf.nums s) (Utf.acc (Utf.nums s) (Utf.mark k) k) k hn0 (by rw [HT.out, HN.out]) (by rw [Utf.nums_length]; exact hl) HC.out rfl hw)
              have HW := Lib.hid hw
              clear hw
              go_wp2_with (go_at_call 65; refine (width_any _ _).mono ?_; rintro e w' ⟨rfl, rfl⟩; rw [HW.out])
              go_ret2
              exact decPost_mk HD.out
            · have hwb : ((Utf.width (Utf.acc (Utf.nums s) (Utf.mark k) k) : Int) != k) = true := by simpa using hw
              have HD := Lib.hid (Utf.dec_bad2 (Utf.nums s) k HI.out (by rw [HT.out, HN.out]) fun h => hw h.2)
              clear hw
              go_wp2_with (go_at_call 65; refine (width_any _ _).mono ?_; rintro e w' ⟨rfl, rfl⟩)
              go_ret2
              exact decPost_mk HD.out
      · have HB := Lib.hid (Utf.dec_bad1 (Utf.nums s) hnil (.inr (by rw [hat, hn, Utf.nums_length]; omega)))
        clear hn hat hnil
        go_enter Tryz.func35, Tryz.ntmps35
        go_wp2_with (go_at_call 63; refine (announced_any _ _).mono ?_; rintro e w' ⟨rfl, rfl⟩; rw [HN.out])
        go_ret2
        exact decPost_mk0 HB.out
  · obtain ⟨hne, hne2⟩ := toList_e (s := s) (by omega)
    have HD : Utf.dec (Utf.nums s) = (-1, 0) := by rw [(Utf.nums_nil s).2 (by omega)]; rfl
    have HD := Lib.hid HD
    go_enter Tryz.func35, Tryz.ntmps35
    go_wp2
    go_ret2
    exact decPost_mk0 HD.out
end Go.Proofs.YtanffablfgnioaaGreatDoor
namespace Go.Proofs.YtanffablfgnioaaGreatDoor
open Go.RowKit
open Lx (Tk TR)
set_option linter.unusedVariables false
/-- The cells of a token at a place. -/
def TkCells (a : Int) (t : Tk) (vs : Value) : List Value := [.int .i64 t.kind, .int .i64 a, .int .i64 t.num, .string t.name, .int .i64 t.mn, .int .i64 t.mx, .bool t.lazy, vs]
/-- A token as a value. -/
abbrev tkV (a : Int) (t : Tk) (vs : Value) : Value := .agg #[.int .i64 t.kind, .int .i64 a, .int .i64 t.num, .string t.name, .int .i64 t.mn, .int .i64 t.mx, .bool t.lazy, vs]
/-- What the functions of lex hand back. -/
def TokPost (X : TR) (W : World) (e : Ending) (w' : World) : Prop :=
  Below W.heap.size W w' ∧ ((∃ k o c, X = .bad o c ∧ e = .returned (.tuple #[tkV 0 { kind := k } (.slice none 0 0), .int .i64 o, .int .i64 c])) ∨
    (∃ t n vs out, X = .ok t n ∧ e = .returned (.tuple #[tkV 0 t vs, .int .i64 (n : Nat), .int .i64 0]) ∧ Br.SetIs t.cls out ∧ RgOwn w' W.heap.size vs out))
/-- The way out of a function whose first result is a token in a box. -/
theorem ret_tk {fn : Func} {p u v : Tmp} {R : Ending → World → Prop} {a : Act} {w : World} (h : fn.results = #[.cell p 39, .tmp u, .tmp v]) (g : Nat) (cs : Array Value)
    (hp : a.tmps.getD p undef = .pointer (some ⟨g, 0, none⟩)) (hg : w.heap[g]? = some (.cells cs 39 (0, 0))) (h8 : cs.size = 8) (hd : a.defers = [])
    (hR : R (.returned (.tuple #[.agg cs, a.tmps.getD u undef, a.tmps.getD v undef])) w) : bodyPost Tryz.prog fn R .ret a w := by
  have hi : (Tryz.prog.info? 39).map (·.size) = some cs.size := by rw [h8]; kernel_rfl
  have hl : (loadVar 39 ⟨g, 0, none⟩).run Tryz.prog w = .ok (.agg cs) w := run_loadVar_row w g _ _ cs _ _ hg Tryz.underlying39 rfl hi
  refine ⟨hd, _, ?_, hR⟩
  have hp' : a.tmps[p]?.getD undef = .pointer (some ⟨g, 0, none⟩) := by simpa using hp
  simp [results, h, hp', asAddr, hl, Sem.run_bind]
theorem box_drew (W : World) (o : Obj) (k : Nat) : ((W.alloc o).drewN k).heap[W.heap.size]? = some o := heap_alloc_new W o
/-- A token without a set. -/
theorem tokPost_plain {X : TR} {W w' : World} {e : Ending} {t : Tk} {n : Nat} (hb : Below W.heap.size W w') (hX : X = .ok t n) (hc : t.cls = none) (he : e = .returned (.tuple #[tkV 0 t (.slice none 0 0), .int .i64 (n : Nat), .int .i64 0])) : TokPost X W e w' :=
  ⟨hb, .inr ⟨t, n, _, [], hX, he, by rw [hc]; rfl, RgOwn.nil⟩⟩
set_option maxRecDepth 100000 in
set_option maxHeartbeats 4000000 in
theorem character_any (W : World) (s : ByteArray) (hs : s.size ≤ 100000) : Calls Tryz.prog 15 #[.string s] W (TokPost (Lx.charX (Utf.nums s)) W) := by
  obtain ⟨X, hX⟩ : ∃ X, Lx.charX (Utf.nums s) = X := ⟨_, rfl⟩
  rw [hX]
  have hd1 := Utf.dec_len (Utf.nums s) (Utf.nums_bytes s)
  have hd2 := Utf.dec_neg (Utf.nums s) (Utf.nums_bytes s)
  have HD := fun w => decode_any s (by unfold maxLen; omega) w
  unfold DecPost at HD
  unfold Lx.charX at hX
  obtain ⟨⟨r, n⟩, hD⟩ : ∃ N, Utf.dec (Utf.nums s) = N := ⟨_, rfl⟩
  rw [hD] at HD hX hd1 hd2
  dsimp only at HD hX hd1 hd2
  by_cases hr : r < 0
  · rw [if_pos hr] at hX
    have HX := Lib.hid hX.symm
    have HD1 := Lib.hid HD
    clear hD hd1 hd2 hX HD
    go_enter Tryz.func15, Tryz.ntmps15
    go_wp2_with fail
    refine (HD1.out _).mono ?_
    rintro e w' ⟨rfl, k, rfl⟩
    go_wp2
    (try simp only [Exit.inBlock, Exit.then])
    refine ret_tk rfl W.heap.size _ rfl (set8_blk _ _ _ _ _ _ _ _ _ _ (box_drew W _ k)) rfl rfl ?_
    exact ⟨set8_below (below_drewNr ((Below.refl _ _).alloc (Nat.le_refl _) _) k) _ (Nat.le_refl _) _ _ _ _ _ _ _ _, .inl ⟨0, _, _, HX.out, rfl⟩⟩
  · rw [if_neg hr] at hX
    obtain ⟨m, rfl⟩ : ∃ m : Nat, n = m := ⟨n.toNat, by omega⟩
    rw [Int.toNat_natCast] at hX
    have HX := Lib.hid hX.symm
    have HD1 := Lib.hid HD
    clear hD hd1 hd2 hX HD
    go_enter Tryz.func15, Tryz.ntmps15
    go_wp2_with fail
    refine (HD1.out _).mono ?_
    rintro e w' ⟨rfl, k, rfl⟩
    go_wp2
    (try simp only [Exit.inBlock, Exit.then])
    refine ret_tk rfl W.heap.size _ rfl (set8_blk _ _ _ _ _ _ _ _ _ _ (box_drew W _ k)) rfl rfl ?_
    exact tokPost_plain (set8_below (below_drewNr ((Below.refl _ _).alloc (Nat.le_refl _) _) k) _ (Nat.le_refl _) _ _ _ _ _ _ _ _) HX.out rfl rfl
end Go.Proofs.YtanffablfgnioaaGreatDoor
namespace Go.Proofs.YtanffablfgnioaaGreatDoor
open Go.RowKit
open Lx (Tk TR)
set_option linter.unusedVariables false
/-- The way out of a function whose first of two results is a token in a box. -/
theorem ret_tk2 {fn : Func} {p u : Tmp} {R : Ending → World → Prop} {a : Act} {w : World} (h : fn.results = #[.cell p 39, .tmp u]) (g : Nat) (cs : Array Value)
    (hp : a.tmps.getD p undef = .pointer (some ⟨g, 0, none⟩)) (hg : w.heap[g]? = some (.cells cs 39 (0, 0))) (h8 : cs.size = 8) (hd : a.defers = [])
    (hR : R (.returned (.tuple #[.agg cs, a.tmps.getD u undef])) w) : bodyPost Tryz.prog fn R .ret a w := by
  have hi : (Tryz.prog.info? 39).map (·.size) = some cs.size := by rw [h8]; kernel_rfl
  have hl : (loadVar 39 ⟨g, 0, none⟩).run Tryz.prog w = .ok (.agg cs) w := run_loadVar_row w g _ _ cs _ _ hg Tryz.underlying39 rfl hi
  refine ⟨hd, _, ?_, hR⟩
  have hp' : a.tmps[p]?.getD undef = .pointer (some ⟨g, 0, none⟩) := by simpa using hp
  simp [results, h, hp', asAddr, hl, Sem.run_bind]
def ShortPost (X : Option Tk) (W : World) (e : Ending) (w' : World) : Prop :=
  Below W.heap.size W w' ∧ ((X = none ∧ e = .returned (.tuple #[tkV 0 {} (.slice none 0 0), .bool false])) ∨
    ∃ t, X = some t ∧ t.cls = none ∧ e = .returned (.tuple #[tkV 0 t (.slice none 0 0), .bool true]))
set_option maxRecDepth 100000 in
set_option maxHeartbeats 4000000 in
theorem short_any (W : World) (s : ByteArray) (hs : s.size ≤ 100000) : Calls Tryz.prog 54 #[.string s] W (ShortPost (Lx.shortX ((Utf.nums s)[0]?.getD 0)) W) := by
  by_cases h0 : s.size = 0
  · obtain rfl : s = ⟨#[]⟩ := by
      have := Utf.nums_length s
      exact Br.nums_inj' (by rw [List.length_eq_zero_iff.1 (this.trans h0)]; rfl)
    clear h0
    go_enter Tryz.func54, Tryz.ntmps54
    go_wp2
    (try simp only [Exit.inBlock, Exit.then])
    refine ret_tk2 rfl W.heap.size _ rfl (heap_alloc_new W _) rfl rfl ?_
    exact ⟨(Below.refl _ _).alloc (Nat.le_refl _) _, .inl ⟨rfl, rfl⟩⟩
  have h0' : 0 < s.size := by omega
  obtain ⟨hne, hne2⟩ := toList_ne h0'
  have h0i : (0 : Int) < (s.size : Int) := by omega
  have hat : (Utf.nums s)[0]?.getD 0 = ((s[0]'h0').toNat : Int) := Utf.nums_at s 0 h0'
  rw [hat]
  clear hat h0
  by_cases e65 : ((s[0]'h0').toNat : Int) = 65
  · have b65 : (((s[0]'h0').toNat : Int) == 65) = true := by simp [e65]
    have HX : Hid (Lx.shortX ((s[0]'h0').toNat : Int) = some { kind := 5, num := 1 }) := Lib.hid (by unfold Lx.shortX; rw [e65]; rfl)
    clear e65 
    go_enter Tryz.func54, Tryz.ntmps54
    go_wp2
    (try simp only [Exit.inBlock, Exit.then])
    refine ret_tk2 rfl W.heap.size _ rfl (heap_alloc_new W _) rfl rfl ?_
    exact ⟨(Below.refl _ _).alloc (Nat.le_refl _) _, .inr ⟨_, HX.out, rfl, rfl⟩⟩
  have b65 : (((s[0]'h0').toNat : Int) == 65) = false := by simpa using e65
  by_cases e122 : ((s[0]'h0').toNat : Int) = 122
  · have b122 : (((s[0]'h0').toNat : Int) == 122) = true := by simp [e122]
    have HX : Hid (Lx.shortX ((s[0]'h0').toNat : Int) = some { kind := 5, num := 2 }) := Lib.hid (by unfold Lx.shortX; rw [e122]; rfl)
    clear e122 e65
    go_enter Tryz.func54, Tryz.ntmps54
    go_wp2
    (try simp only [Exit.inBlock, Exit.then])
    refine ret_tk2 rfl W.heap.size _ rfl (heap_alloc_new W _) rfl rfl ?_
    exact ⟨(Below.refl _ _).alloc (Nat.le_refl _) _, .inr ⟨_, HX.out, rfl, rfl⟩⟩
  have b122 : (((s[0]'h0').toNat : Int) == 122) = false := by simpa using e122
  by_cases e98 : ((s[0]'h0').toNat : Int) = 98
  · have b98 : (((s[0]'h0').toNat : Int) == 98) = true := by simp [e98]
    have HX : Hid (Lx.shortX ((s[0]'h0').toNat : Int) = some { kind := 5, num := 5 }) := Lib.hid (by unfold Lx.shortX; rw [e98]; rfl)
    clear e98 e65 e122
    go_enter Tryz.func54, Tryz.ntmps54
    go_wp2
    (try simp only [Exit.inBlock, Exit.then])
    refine ret_tk2 rfl W.heap.size _ rfl (heap_alloc_new W _) rfl rfl ?_
    exact ⟨(Below.refl _ _).alloc (Nat.le_refl _) _, .inr ⟨_, HX.out, rfl, rfl⟩⟩
  have b98 : (((s[0]'h0').toNat : Int) == 98) = false := by simpa using e98
  by_cases e66 : ((s[0]'h0').toNat : Int) = 66
  · have b66 : (((s[0]'h0').toNat : Int) == 66) = true := by simp [e66]
    have HX : Hid (Lx.shortX ((s[0]'h0').toNat : Int) = some { kind := 5, num := 6 }) := Lib.hid (by unfold Lx.shortX; rw [e66]; rfl)
    clear e66 e65 e122 e98
    go_enter Tryz.func54, Tryz.ntmps54
    go_wp2
    (try simp only [Exit.inBlock, Exit.then])
    refine ret_tk2 rfl W.heap.size _ rfl (heap_alloc_new W _) rfl rfl ?_
    exact ⟨(Below.refl _ _).alloc (Nat.le_refl _) _, .inr ⟨_, HX.out, rfl, rfl⟩⟩
  have b66 : (((s[0]'h0').toNat : Int) == 66) = false := by simpa using e66
  by_cases e67 : ((s[0]'h0').toNat : Int) = 67
  · have b67 : (((s[0]'h0').toNat : Int) == 67) = true := by simp [e67]
    have HX : Hid (Lx.shortX ((s[0]'h0').toNat : Int) = some { kind := 4 }) := Lib.hid (by unfold Lx.shortX; rw [e67]; rfl)
    clear e67 e65 e122 e98 e66
    go_enter Tryz.func54, Tryz.ntmps54
    go_wp2
    (try simp only [Exit.inBlock, Exit.then])
    refine ret_tk2 rfl W.heap.size _ rfl (heap_alloc_new W _) rfl rfl ?_
    exact ⟨(Below.refl _ _).alloc (Nat.le_refl _) _, .inr ⟨_, HX.out, rfl, rfl⟩⟩
  have b67 : (((s[0]'h0').toNat : Int) == 67) = false := by simpa using e67
  have HX : Hid (Lx.shortX ((s[0]'h0').toNat : Int) = none) := Lib.hid (by unfold Lx.shortX; rw [if_neg e65, if_neg e122, if_neg e98, if_neg e66, if_neg e67])
  clear e65 e122 e98 e66 e67
  go_enter Tryz.func54, Tryz.ntmps54
  go_wp2
  (try simp only [Exit.inBlock, Exit.then])
  refine ret_tk2 rfl W.heap.size _ rfl (heap_alloc_new W _) rfl rfl ?_
  exact ⟨(Below.refl _ _).alloc (Nat.le_refl _) _, .inl ⟨HX.out, rfl⟩⟩
end Go.Proofs.YtanffablfgnioaaGreatDoor
namespace Go.Proofs.YtanffablfgnioaaGreatDoor
open Go.RowKit
set_option linter.unusedVariables false
set_option maxRecDepth 100000 in
set_option maxHeartbeats 1000000 in
theorem bClsEsc_any (W : World) (e : Int) : Calls Tryz.prog 109 #[.int .i64 e] W fun x w' => x = .returned (.bool (decide (e ≠ 3 ∧ e ≠ 5))) ∧ W = w' := by
  by_cases a : e = 3
  · subst a
    go_enter Tryz.func109, Tryz.ntmps109
    go_wp2
    go_ret
    exact ⟨rfl, rfl⟩
  · by_cases b : e = 5
    · subst b
      go_enter Tryz.func109, Tryz.ntmps109
      go_wp2
      go_ret
      exact ⟨rfl, rfl⟩
    · rw [decide_eq_true (show e ≠ 3 ∧ e ≠ 5 from ⟨a, b⟩)]
      have h1 : (e != 3) = true := by simpa using a
      have h2 : (e != 5) = true := by simpa using b
      clear a b
      go_enter Tryz.func109, Tryz.ntmps109
      go_wp2
      go_ret
      exact ⟨rfl, rfl⟩
set_option maxRecDepth 100000 in
set_option maxHeartbeats 1000000 in
theorem bGoes_any (W : World) (s : ByteArray) (hs : s.size ≤ 100000) : Calls Tryz.prog 143 #[.string s] W fun x w' => x = .returned (.bool (Br.goesOn (Utf.nums s))) ∧ W = w' := by
  obtain ⟨G, hG⟩ : ∃ G, Br.goesOn (Utf.nums s) = G := ⟨_, rfl⟩
  rw [hG]
  unfold Br.goesOn at hG
  rw [Utf.nums_length] at hG
  by_cases h2 : s.size < 2
  · have HE : Hid (G = false) := Lib.hid (by rw [← hG, decide_eq_false (show ¬ 2 ≤ s.size by omega)]; simp)
    have h2i : ¬ (2 : Int) ≤ (s.size : Int) := by omega
    clear hG h2
    go_enter Tryz.func143, Tryz.ntmps143
    go_wp2
    go_ret
    exact ⟨by rw [HE.out]; rfl, rfl⟩
  have h2i : (2 : Int) ≤ (s.size : Int) := by omega
  have h0 : 0 < s.size := by omega
  have h1 : 1 < s.size := by omega
  have h0i : (0 : Int) < (s.size : Int) := by omega
  have h1i : (1 : Int) < (s.size : Int) := by omega
  have hsome : ∀ k (h : k < s.size) (c : Int), (Utf.nums s)[k]? = some c ↔ (s[k].toNat : Int) = c := fun k h c => by
    have := Utf.nums_at s k h
    rw [List.getElem?_eq_getElem (by rw [Utf.nums_length]; exact h)] at this ⊢
    rw [← this]; simp
  rw [decide_eq_true (show 2 ≤ s.size by omega)] at hG
  have hb0 : s[0].toNat < 256 := UInt8.toNat_lt _
  have hb1 : s[1].toNat < 256 := UInt8.toNat_lt _
  by_cases c0 : (s[0].toNat : Int) = 45
  · by_cases c1 : (s[1].toNat : Int) = 93
    · have HE : Hid (G = false) := Lib.hid (by rw [← hG, decide_eq_true ((hsome 1 h1 93).2 c1)]; simp)
      have m0 : ((s[0].toNat : Int) == 45) = true := by simp [c0]
      have m1 : ((s[1].toNat : Int) != 93) = false := by simp [c1]
      clear hG h2 hsome c0 c1
      go_enter Tryz.func143, Tryz.ntmps143
      go_wp2
      go_ret
      exact ⟨by rw [HE.out]; rfl, rfl⟩
    · have HE : Hid (G = true) := Lib.hid (by rw [← hG, decide_eq_true ((hsome 0 h0 45).2 c0), decide_eq_false (fun h => c1 ((hsome 1 h1 93).1 h))]; rfl)
      have m0 : ((s[0].toNat : Int) == 45) = true := by simp [c0]
      have m1 : ((s[1].toNat : Int) != 93) = true := by simpa using c1
      clear hG h2 hsome c0 c1
      go_enter Tryz.func143, Tryz.ntmps143
      go_wp2
      go_ret
      exact ⟨by rw [HE.out]; rfl, rfl⟩
  · have HE : Hid (G = false) := Lib.hid (by rw [← hG, decide_eq_false (fun h => c0 ((hsome 0 h0 45).1 h))]; rfl)
    have m0 : ((s[0].toNat : Int) == 45) = false := by simpa using c0
    clear hG h2 hsome c0
    go_enter Tryz.func143, Tryz.ntmps143
    go_wp2
    go_ret
    exact ⟨by rw [HE.out]; rfl, rfl⟩
set_option maxRecDepth 100000 in
set_option maxHeartbeats 2000000 in
theorem bChar_any (W : World) (s : ByteArray) (hs : s.size ≤ 100000) : Calls Tryz.prog 142 #[.string s] W fun x w' =>
    x = .returned (.tuple #[.int .i64 (Br.one (Utf.nums s)).1, .int .i64 (Br.one (Utf.nums s)).2.1, .int .i64 (Br.one (Utf.nums s)).2.2]) ∧ ∃ d, w' = W.drewN d := by
  have HN := Lib.hid (bNumber_any W s (by omega))
  obtain ⟨R, hR⟩ : ∃ R, Br.one (Utf.nums s) = R := ⟨_, rfl⟩
  have hone : R = if (Utf.nums s)[0]?.getD 0 = 92 then Br.num (Utf.nums s) else if (Utf.dec (Utf.nums s)).1 < 0 then (0, 0, 3) else ((Utf.dec (Utf.nums s)).1, (Utf.dec (Utf.nums s)).2, 0) := by rw [← hR]; rfl
  rw [hR]
  clear hR
  by_cases c : (Utf.nums s)[0]?.getD 0 = 92
  · have hf := Br.num_form c
    rw [if_pos c] at hone
    rw [← hone] at HN hf
    have m : (R.2.2 != 3) = true := by simpa using hf
    clear hone hf c
    go_enter Tryz.func142, Tryz.ntmps142
    go_wp2_with fail
    refine HN.out.mono ?_
    rintro e w' ⟨rfl, rfl⟩
    go_wp2
    go_ret3
    exact ⟨rfl, 0, rfl⟩
  · rw [if_neg c] at hone
    rw [Br.num_no c] at HN
    have HD := Lib.hid (decode_any s (by unfold maxLen; omega) W)
    unfold DecPost at HD
    obtain ⟨⟨r, n⟩, hp⟩ : ∃ p, Utf.dec (Utf.nums s) = p := ⟨_, rfl⟩
    rw [hp] at HD hone
    dsimp only at HD hone
    clear c hp
    by_cases hr : r < 0
    · have HE : Hid (R = (0, 0, 3)) := Lib.hid (by rw [hone, if_pos hr])
      clear hone
      go_enter Tryz.func142, Tryz.ntmps142
      go_wp2_with fail
      refine HN.out.mono ?_
      rintro e w' ⟨rfl, rfl⟩
      go_wp2_with fail
      refine HD.out.mono ?_
      rintro e w' ⟨rfl, d, rfl⟩
      go_wp2
      go_ret3
      exact ⟨by rw [HE.out]; rfl, d, rfl⟩
    · have HE : Hid (R = (r, n, 0)) := Lib.hid (by rw [hone, if_neg hr])
      clear hone
      go_enter Tryz.func142, Tryz.ntmps142
      go_wp2_with fail
      refine HN.out.mono ?_
      rintro e w' ⟨rfl, rfl⟩
      go_wp2_with fail
      refine HD.out.mono ?_
      rintro e w' ⟨rfl, d, rfl⟩
      go_wp2
      go_ret3
      exact ⟨by rw [HE.out]; rfl, d, rfl⟩
end Go.Proofs.YtanffablfgnioaaGreatDoor
