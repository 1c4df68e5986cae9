/- The landed class: a number out of its text (strconv.ParseInt at base 16). · Functions of the library: the library's contracts, laid over this translation. · The landed class: strings.Cut at one hyphen; the iterator over the pairs of a text. -/
import Derived.Test.YtanffablfgnioaaGreatDoorRows
import Derived.WalkKit
import Derived.OwnWalk
import Derived.WalkLawsBesides
import Derived.WalkSpells
import Derived.Lib.Hide
import Derived.Lib.Strings
import Derived.Lib.Walk
import Derived.Lib.ConvBytes
import Derived.Lib.SmallJoins
import Derived.Laws.Strings3
import Derived.Laws.Closers25
import Derived.Laws.Closers25b
import Derived.BigCall
import Derived.BigGuard
import Derived.Shelf.Abstract
import Derived.Shelf.Strings.Fields
import Derived.Shelf.Strings.Search2
import Derived.Shelf.Small.Wraps
import Derived.Shelf.Sort.Plain
import Derived.Test.YtanffablfgnioaaGreatDoorProg
import Derived.Test.YtanffablfgnioaaGreatDoorGp1
import Derived.RangeFuncBox
import Derived.RangeFuncNested
import Derived.RangeFuncBound
import Derived.RangeFuncCalls
import Derived.RangeFuncLeaves
import Derived.OwnWalkIn
import Derived.TacticsInMore
import Derived.LoopNIn
import Derived.LoopIn
import Derived.IntWalk
import Derived.Lib.IndexLaws
namespace Go.Proofs.YtanffablfgnioaaGreatDoor
open Go.RowKit Go.Shelf
set_option linter.unusedVariables false
namespace Cl
def hexD (c : Nat) : Nat := if c ≤ 57 then c - 48 else c - 55
def okD (c : UInt8) : Bool := (decide (48 ≤ c.toNat) && decide (c.toNat ≤ 57)) || (decide (65 ≤ c.toNat) && decide (c.toNat ≤ 70))
/-- The number that digits spell, behind one that is read. -/
def hexN : Nat → List UInt8 → Nat
  | acc, [] => acc
  | acc, c :: t => hexN (acc * 16 + hexD c.toNat) t
/-- A text of 1 to 15 digits. -/
def okHex (l : List UInt8) : Bool := !l.isEmpty && decide (l.length ≤ 15) && l.all okD
theorem hexD_lt {c : UInt8} (h : okD c = true) : hexD c.toNat < 16 := by
  simp [okD] at h; unfold hexD; split <;> omega
theorem hexN_lt : ∀ (l : List UInt8) (acc : Nat), (l.all okD = true) → hexN acc l < (acc + 1) * 16 ^ l.length
  | [], acc, _ => by simp [hexN]
  | c :: t, acc, h => by
    simp only [List.all_cons, Bool.and_eq_true] at h
    have ih := hexN_lt t (acc * 16 + hexD c.toNat) h.2
    have hd := hexD_lt h.1
    have : (acc * 16 + hexD c.toNat + 1) * 16 ^ t.length ≤ ((acc + 1) * 16) * 16 ^ t.length := Nat.mul_le_mul_right _ (by omega)
    rw [List.length_cons, Nat.pow_succ, ← Nat.mul_assoc, Nat.mul_right_comm]
    exact Nat.lt_of_lt_of_le ih this
theorem or32 (c : UInt8) (h1 : 65 ≤ c.toNat) (h2 : c.toNat ≤ 70) : bits .or .u8 (c.toNat : Int) 32 = (c.toNat : Int) + 32 := by
  rcases (by omega : c.toNat = 65 ∨ c.toNat = 66 ∨ c.toNat = 67 ∨ c.toNat = 68 ∨ c.toNat = 69 ∨ c.toNat = 70) with e | e | e | e | e | e <;> rw [e] <;> decide
end Cl
theorem lower_any (c : Int) (w : World) (h1 : 65 ≤ c) (h2 : c ≤ 70) : Calls Tryz.prog 215 #[.int .u8 c] w fun e w' => e = .returned (.int .u8 (c + 32)) ∧ w = w' := by
  have hor : bits .or .u8 c 32 = c + 32 := by
    rcases (by omega : c = 65 ∨ c = 66 ∨ c = 67 ∨ c = 68 ∨ c = 69 ∨ c = 70) with rfl | rfl | rfl | rfl | rfl | rfl <;> decide
  go_enter Tryz.func215, Tryz.ntmps215
  go_wp2
  go_ret
  exact ⟨rfl, rfl⟩
set_option maxRecDepth 100000 in
set_option maxHeartbeats 4000000 in
theorem parseUint16 (t : ByteArray) (hok : Cl.okHex t.data.toList = true) (w : World) :
    Calls Tryz.prog 188 #[.string t, .int .i64 16, .int .i64 64] w fun e w' => e = .returned (.tuple #[.int .u64 (Cl.hexN 0 t.data.toList : Nat), .nilIface]) ∧ w' = Lib.bytesWorld w 5 t := by
  have mixed : Tryz.prog.follows .mixedOrders = true := by kernel_rfl
  simp only [Cl.okHex, Bool.and_eq_true, Bool.not_eq_true', decide_eq_true_eq] at hok
  obtain ⟨⟨hemp, h15⟩, hall⟩ := hok
  have e321 : ∀ args w, (callFunc 215 args).run Tryz.prog w = .ok (.enter 215 args) w := enters_of Tryz.func215 (by kernel_rfl) rfl
  have hlen : t.data.toList.length = t.size := (Lib.size_eq t).symm
  have hne : ¬ t = ⟨#[]⟩ := fun h => by rw [h] at hemp; simp at hemp
  have hemp2 : t.toList.isEmpty = false := by
    rw [← decide_eq_emptyBytes]
    exact decide_eq_false hne
  have hcv := Lib.run_convert_string_bytes (P := Tryz.prog) w 9 44 5 t (u := .string) Tryz.underlying9 Tryz.underlying44 Tryz.underlying5
  have hB : ∀ j, j < t.size → (Lib.bytesWorld w 5 t).cell? ⟨w.heap.size, j, none⟩ = some (.int .u8 (t.data.toList.getD j 0).toNat) := fun j hj => Lib.bytesWorld_cell w 5 t j hj
  obtain ⟨W1, hW1⟩ : ∃ W1, W1 = Lib.bytesWorld w 5 t := ⟨_, rfl⟩
  rw [← hW1] at hcv hB ⊢
  clear hW1
  have h15' : t.size ≤ 15 := by omega
  obtain ⟨bs, hL⟩ : ∃ bs, bs = t.data.toList := ⟨_, rfl⟩
  have hLn : bs.length = t.size := by rw [hL, hlen]
  rw [← hL] at hB hall ⊢
  clear hL h15 hlen
  have HALL := Lib.hid hall
  have hnx := Cl.hexN_lt
  have HLT : Hid (∀ k acc, k ≤ bs.length → Cl.hexN acc (bs.take k) < (acc + 1) * 16 ^ k) := Lib.hid fun k acc hk => by
    have := Cl.hexN_lt (bs.take k) acc (by rw [List.all_eq_true] at hall ⊢; exact fun x hx => hall x (List.mem_of_mem_take hx))
    rwa [List.length_take, Nat.min_eq_left hk] at this
  clear hall hnx hemp hne
  have hmv : IntKind.u64.wrap (IntKind.u64.wrap 18446744073709551616 - 1) = 18446744073709551615 := by
    rw [IntKind.wrap_u64, IntKind.wrap_u64]
    decide
  go_enter Tryz.func188, Tryz.ntmps188
  go_wp2
  go_loop [12, 13, 101] (fun vu vn vi => ∃ (k : Nat) (a : Int), vu = .bool false ∧ vn = .int .u64 a ∧ vi = .int .i64 k ∧ k ≤ t.size ∧ Hid (∃ acc : Nat, a = (acc : Int) ∧ acc < 16 ^ k ∧ Cl.hexN 0 bs = Cl.hexN acc (bs.drop k)))
    (fun _ _ vi => t.size - (intOf vi).toNat)
  case atStart => exact ⟨0, 0, rfl, rfl, rfl, by omega, 0, rfl, by simp, rfl⟩
  case round =>
    obtain ⟨k, a, rfl, rfl, rfl, hk, hh⟩ := hrel
    by_cases hkn : k < t.size
    · have hc := hB k hkn
      obtain ⟨acc, ha, hacc, hdec⟩ := hh.out
      clear hh
      have hp : 16 ^ k ≤ 16 ^ 14 := Nat.pow_le_pow_right (by omega) (by omega)
      have a0 : 0 ≤ a := by omega
      have a1 : a < 72057594037927936 := by omega
      have hdrop : bs.drop k = bs[k]'(by omega) :: bs.drop (k + 1) := List.drop_eq_getElem_cons (by omega)
      have hget : bs.getD k 0 = bs[k]'(by omega) := by simp [List.getD, List.getElem?_eq_getElem (show k < bs.length by omega)]
      have hok : Cl.okD (bs[k]'(by omega)) = true := by have := HALL.out; rw [List.all_eq_true] at this; exact this _ (List.getElem_mem _)
      rw [hdrop] at hdec
      rw [hget] at hc
      generalize bs[k]'(by omega) = c at hc hdec hok
      have hc256 : c.toNat < 256 := c.toNat_lt
      clear hB hdrop hget
      have HN : Hid (∃ acc' : Nat, a * 16 + (Cl.hexD c.toNat : Nat) = (acc' : Int) ∧ acc' < 16 ^ (k + 1) ∧ Cl.hexN 0 bs = Cl.hexN acc' (bs.drop (k + 1))) :=
        Lib.hid ⟨acc * 16 + Cl.hexD c.toNat, by omega, by have := Cl.hexD_lt hok; rw [Nat.pow_succ]; omega, hdec⟩
      have icut : a < 1152921504606846976 := by omega
      clear hacc hdec ha hp
      simp only [Cl.okD, Bool.or_eq_true, Bool.and_eq_true, decide_eq_true_eq] at hok
      rcases hok with ⟨hd0, hd1⟩ | ⟨hd0, hd1⟩
      · have hx : Cl.hexD c.toNat = c.toNat - 48 := by unfold Cl.hexD; rw [if_pos hd1]
        rw [hx] at HN
        have HN2 : Hid (∃ acc' : Nat, a * 16 + ((c.toNat : Int) - 48) = (acc' : Int) ∧ acc' < 16 ^ (k + 1) ∧ Cl.hexN 0 bs = Cl.hexN acc' (bs.drop (k + 1))) := by
          obtain ⟨q, h1, h2⟩ := HN.out; exact Lib.hid ⟨q, by omega, h2⟩
        clear HN hx
        have iov : a * 16 + ((c.toNat : Int) - 48) < 18446744073709551616 := by omega
        go_wp2
        refine ⟨⟨k + 1, a * 16 + ((c.toNat : Int) - 48), rfl, (by first | rfl | (congr 1; omega)), (by first | rfl | (congr 1; omega)), by omega, HN2⟩, by simp [intOf]; omega⟩
      · have hx : Cl.hexD c.toNat = c.toNat - 55 := by unfold Cl.hexD; rw [if_neg (by omega)]
        rw [hx] at HN
        have HN2 : Hid (∃ acc' : Nat, a * 16 + ((c.toNat : Int) + 32 - 97 + 10) = (acc' : Int) ∧ acc' < 16 ^ (k + 1) ∧ Cl.hexN 0 bs = Cl.hexN acc' (bs.drop (k + 1))) := by
          obtain ⟨q, h1, h2⟩ := HN.out; exact Lib.hid ⟨q, by omega, h2⟩
        clear HN hx
        have hor := Cl.or32 c hd0 hd1
        have iov : a * 16 + ((c.toNat : Int) + 32 - 97 + 10) < 18446744073709551616 := by omega
        go_wp2_with (go_at_fn 215; refine (lower_any _ _ (by omega) (by omega)).mono ?_; rintro e w' ⟨rfl, rfl⟩)
        refine ⟨⟨k + 1, a * 16 + ((c.toNat : Int) + 32 - 97 + 10), rfl, (by first | rfl | (congr 1; omega)), (by first | rfl | (congr 1; omega)), by omega, HN2⟩, by simp [intOf]; omega⟩
    · obtain rfl : k = t.size := by omega
      obtain ⟨acc, ha, hacc, hdec⟩ := hh.out
      clear hh
      rw [List.drop_eq_nil_of_le (by omega)] at hdec
      have hE : Hid (.tuple #[.int .u64 a, .nilIface] = (Value.tuple #[.int .u64 (Cl.hexN 0 bs : Nat), .nilIface])) := Lib.hid (by rw [hdec, ha]; rfl)
      have a0 : 0 ≤ a := by omega
      have c1 : ¬ ((t.size : Int) < (t.size : Int)) := by omega
      clear hacc hdec ha
      go_wp2
      go_ret2
      exact ⟨congrArg Ending.returned hE.out, rfl⟩
set_option maxRecDepth 100000 in
set_option maxHeartbeats 4000000 in
theorem parseInt16i (t : ByteArray) (hok : Cl.okHex t.data.toList = true) (w : World) :
    Calls Tryz.prog 163 #[.string t, .int .i64 16, .int .i64 64] w fun e w' => e = .returned (.tuple #[.int .i64 (Cl.hexN 0 t.data.toList : Nat), .nilIface]) ∧ w' = Lib.bytesWorld w 5 t := by
  have mixed : Tryz.prog.follows .mixedOrders = true := by kernel_rfl
  have hok2 := Lib.hid hok
  simp only [Cl.okHex, Bool.and_eq_true, Bool.not_eq_true', decide_eq_true_eq] at hok
  obtain ⟨⟨hemp, h15⟩, hall⟩ := hok
  have hlen : t.data.toList.length = t.size := (Lib.size_eq t).symm
  have hne : ¬ t = ⟨#[]⟩ := fun h => by rw [h] at hemp; simp at hemp
  have hemp2 : t.toList.isEmpty = false := by
    rw [← decide_eq_emptyBytes]
    exact decide_eq_false hne
  have hpos : 0 < t.size := by
    rcases Nat.eq_zero_or_pos t.size with h | h
    · rw [← hlen] at h; rw [List.eq_nil_of_length_eq_zero h] at hemp; simp at hemp
    · exact h
  have hposz : (0 : Int) < (t.size : Int) := by omega
  obtain ⟨c, hx⟩ : ∃ c : UInt8, t[0] = c := ⟨_, rfl⟩
  have hok : Cl.okD c = true := by
    have hm : t.data.toList[0]? = some c := by rw [← hx]; simp [hpos, ByteArray.getElem_eq_getElem_data]
    rw [List.all_eq_true] at hall
    exact hall _ (List.mem_of_getElem? hm)
  have hc43 : ¬ (c.toNat : Int) = 43 := by simp [Cl.okD] at hok; omega
  have hc45 : ¬ (c.toNat : Int) = 45 := by simp [Cl.okD] at hok; omega
  have hv := Cl.hexN_lt t.data.toList 0 hall
  have hp : 16 ^ t.data.toList.length ≤ 16 ^ 15 := Nat.pow_le_pow_right (by omega) (by omega)
  obtain ⟨x, ex⟩ : ∃ x : Int, x = ((Cl.hexN 0 t.data.toList : Nat) : Int) := ⟨_, rfl⟩
  have hx0 : 0 ≤ x := by omega
  have hx1 : x < 1152921504606846976 := by omega
  have hcon := parseUint16 t hok2.out w
  rw [← ex] at hcon ⊢
  have HCON := Lib.hid hcon
  clear hcon ex hv hp hok hall h15 hemp hne hlen
  go_enter Tryz.func163, Tryz.ntmps163
  go_wp2_with (go_at_call 188; refine HCON.out.mono ?_; rintro e w' ⟨rfl, rfl⟩)
  go_ret2
  exact ⟨rfl, rfl⟩
set_option maxRecDepth 100000 in
set_option maxHeartbeats 4000000 in
theorem parseInt16 (t : ByteArray) (hok : Cl.okHex t.data.toList = true) (w : World) :
    Calls Tryz.prog 195 #[.string t, .int .i64 16, .int .i64 64] w fun e w' => e = .returned (.tuple #[.int .i64 (Cl.hexN 0 t.data.toList : Nat), .nilIface]) ∧ w' = Lib.bytesWorld w 5 t := by
  have hcon := parseInt16i t hok w
  obtain ⟨x, ex⟩ : ∃ x : Int, x = ((Cl.hexN 0 t.data.toList : Nat) : Int) := ⟨_, rfl⟩
  rw [← ex] at hcon ⊢
  have HCON := Lib.hid hcon
  clear hcon ex hok
  go_enter Tryz.func195, Tryz.ntmps195
  go_wp2_with (go_at_call 163; refine HCON.out.mono ?_; rintro e w' ⟨rfl, rfl⟩)
  go_ret2
  exact ⟨rfl, rfl⟩
/-- number: at a text of digits. -/
theorem number_any (t : ByteArray) (hok : Cl.okHex t.data.toList = true) (w : World) :
    Calls Tryz.prog 175 #[.string t] w fun e w' => e = .returned (.int .i64 (Cl.hexN 0 t.data.toList : Nat)) ∧ w' = Lib.bytesWorld w 5 t := by
  have hcon := parseInt16 t hok w
  have hv : Cl.hexN 0 t.data.toList < 1152921504606846976 := by
    simp only [Cl.okHex, Bool.and_eq_true, Bool.not_eq_true', decide_eq_true_eq] at hok
    have := Cl.hexN_lt t.data.toList 0 hok.2
    have hp : 16 ^ t.data.toList.length ≤ 16 ^ 15 := Nat.pow_le_pow_right (by omega) (by omega)
    omega
  obtain ⟨x, ex⟩ : ∃ x : Int, x = ((Cl.hexN 0 t.data.toList : Nat) : Int) := ⟨_, rfl⟩
  have hx0 : 0 ≤ x := by omega
  have hx1 : x < 1152921504606846976 := by omega
  rw [← ex] at hcon ⊢
  have HCON := Lib.hid hcon
  clear hcon ex hok hv
  go_enter Tryz.func175, Tryz.ntmps175
  go_wp2_with (go_at_call 195; refine HCON.out.mono ?_; rintro e w' ⟨rfl, rfl⟩)
  go_ret
  exact ⟨rfl, rfl⟩
end Go.Proofs.YtanffablfgnioaaGreatDoor
namespace Go.Proofs
open Go.Shelf
def Tryz.layFields_ren : Go.Shelf.Ren := ⟨fun | 157 => 174 | 229 => 193 | 199 => 194 | 261 => 217 | 311 => 226 | 312 => 227 | n => n, fun | 9 => 9 | 31 => 197 | 3 => 3 | 5 => 5 | 4 => 4 | 119 => 213 | 0 => 0 | 40 => 179 | 152 => 238 | 21 => 21 | 154 => 240 | 51 => 191 | 141 => 242 | 196 => 254 | 193 => 251 | 198 => 257 | 49 => 255 | 194 => 252 | 201 => 260 | 226 => 265 | 46 => 107 | 227 => 266 | n => n, fun | 0 => 4 | 6 => 9 | n => n⟩
theorem Tryz.layFields : Go.Proofs.Lays.n157 Tryz.prog Tryz.layFields_ren := {
  mixed := by kernel_rfl
  f157 := Tryz.func174.trans (congrArg some (by kernel_rfl))
  f199 := Tryz.func194.trans (congrArg some (by kernel_rfl))
  f229 := Tryz.func193.trans (congrArg some (by kernel_rfl))
  f261 := Tryz.func217.trans (congrArg some (by kernel_rfl))
  f311 := Tryz.func226.trans (congrArg some (by kernel_rfl))
  f312 := Tryz.func227.trans (congrArg some (by kernel_rfl))
  t0 := Tryz.underlying0
  a0 := Tryz.isAgg0
  z0 := Tryz.sizeOf0
  v0 := Tryz.zeroValue0
  t3 := Tryz.underlying3
  a3 := Tryz.isAgg3
  z3 := Tryz.sizeOf3
  v3 := Tryz.zeroValue3
  t4 := Tryz.underlying4
  a4 := Tryz.isAgg4
  z4 := Tryz.sizeOf4
  v4 := Tryz.zeroValue4
  t5 := Tryz.underlying5
  a5 := Tryz.isAgg5
  z5 := Tryz.sizeOf5
  v5 := Tryz.zeroValue5
  t9 := Tryz.underlying9
  a9 := Tryz.isAgg9
  z9 := Tryz.sizeOf9
  v9 := Tryz.zeroValue9
  t21 := Tryz.underlying21
  a21 := Tryz.isAgg21
  z21 := Tryz.sizeOf21
  v21 := Tryz.zeroValue21
  t31 := Tryz.underlying197
  a31 := Tryz.isAgg197
  z31 := Tryz.sizeOf197
  v31 := Tryz.zeroValue197
  t40 := Tryz.underlying179
  a40 := Tryz.isAgg179
  z40 := Tryz.sizeOf179
  v40 := Tryz.zeroValue179
  t46 := Tryz.underlying107
  a46 := Tryz.isAgg107
  z46 := Tryz.sizeOf107
  v46 := Tryz.zeroValue107
  t49 := Tryz.underlying255
  a49 := Tryz.isAgg255
  z49 := Tryz.sizeOf255
  v49 := Tryz.zeroValue255
  t51 := Tryz.underlying191
  a51 := Tryz.isAgg191
  z51 := Tryz.sizeOf191
  v51 := Tryz.zeroValue191
  t119 := Tryz.underlying213
  a119 := Tryz.isAgg213
  z119 := Tryz.sizeOf213
  t141 := Tryz.underlying242
  a141 := Tryz.isAgg242
  z141 := Tryz.sizeOf242
  v141 := Tryz.zeroValue242
  t152 := Tryz.underlying238
  a152 := Tryz.isAgg238
  z152 := Tryz.sizeOf238
  v152 := Tryz.zeroValue238
  t154 := Tryz.underlying240
  a154 := Tryz.isAgg240
  z154 := Tryz.sizeOf240
  v154 := Tryz.zeroValue240
  t193 := Tryz.underlying251
  a193 := Tryz.isAgg251
  z193 := Tryz.sizeOf251
  v193 := Tryz.zeroValue251
  t194 := Tryz.underlying252
  a194 := Tryz.isAgg252
  z194 := Tryz.sizeOf252
  v194 := Tryz.zeroValue252
  t196 := Tryz.underlying254
  a196 := Tryz.isAgg254
  z196 := Tryz.sizeOf254
  v196 := Tryz.zeroValue254
  t198 := Tryz.underlying257
  a198 := Tryz.isAgg257
  z198 := Tryz.sizeOf257
  v198 := Tryz.zeroValue257
  t201 := Tryz.underlying260
  a201 := Tryz.isAgg260
  z201 := Tryz.sizeOf260
  v201 := Tryz.zeroValue260
  t226 := Tryz.underlying265
  a226 := Tryz.isAgg265
  z226 := Tryz.sizeOf265
  v226 := Tryz.zeroValue265
  t227 := Tryz.underlying266
  a227 := Tryz.isAgg266
  z227 := Tryz.sizeOf266
  v227 := Tryz.zeroValue266
  g0 := by kernel_rfl
  g6 := by kernel_rfl }
def Tryz.layIndex_ren : Go.Shelf.Ren := ⟨fun | 219 => 123 | 217 => 158 | 225 => 157 | 224 => 156 | 267 => 159 | 266 => 184 | 314 => 185 | n => n, fun | 9 => 9 | 3 => 3 | 4 => 4 | 5 => 5 | 46 => 107 | 146 => 205 | 51 => 191 | n => n, fun | 1 => 0 | n => n⟩
theorem Tryz.layIndex : Go.Proofs.Lays.n219 Tryz.prog Tryz.layIndex_ren := {
  mixed := by kernel_rfl
  f217 := Tryz.func158.trans (congrArg some (by kernel_rfl))
  f219 := Tryz.func123.trans (congrArg some (by kernel_rfl))
  f224 := Tryz.func156.trans (congrArg some (by kernel_rfl))
  f225 := Tryz.func157.trans (congrArg some (by kernel_rfl))
  f266 := Tryz.func184.trans (congrArg some (by kernel_rfl))
  f267 := Tryz.func159.trans (congrArg some (by kernel_rfl))
  f314 := Tryz.func185.trans (congrArg some (by kernel_rfl))
  t3 := Tryz.underlying3
  a3 := Tryz.isAgg3
  z3 := Tryz.sizeOf3
  v3 := Tryz.zeroValue3
  t4 := Tryz.underlying4
  a4 := Tryz.isAgg4
  z4 := Tryz.sizeOf4
  v4 := Tryz.zeroValue4
  t5 := Tryz.underlying5
  a5 := Tryz.isAgg5
  z5 := Tryz.sizeOf5
  v5 := Tryz.zeroValue5
  t9 := Tryz.underlying9
  a9 := Tryz.isAgg9
  z9 := Tryz.sizeOf9
  v9 := Tryz.zeroValue9
  t46 := Tryz.underlying107
  a46 := Tryz.isAgg107
  z46 := Tryz.sizeOf107
  v46 := Tryz.zeroValue107
  t51 := Tryz.underlying191
  a51 := Tryz.isAgg191
  z51 := Tryz.sizeOf191
  v51 := Tryz.zeroValue191
  t146 := Tryz.underlying205
  a146 := Tryz.isAgg205
  z146 := Tryz.sizeOf205
  v146 := Tryz.zeroValue205
  g1 := by kernel_rfl }
def Tryz.layPrefix_ren : Go.Shelf.Ren := ⟨fun | 103 => 87 | 210 => 117 | 206 => 36 | n => n, fun | 9 => 9 | 4 => 4 | 24 => 125 | 3 => 3 | n => n, fun | n => n⟩
theorem Tryz.layPrefix : Go.Proofs.Lays.n103 Tryz.prog Tryz.layPrefix_ren := {
  mixed := by kernel_rfl
  f103 := Tryz.func87.trans (congrArg some (by kernel_rfl))
  f206 := Tryz.func36.trans (congrArg some (by kernel_rfl))
  f210 := Tryz.func117.trans (congrArg some (by kernel_rfl))
  t3 := Tryz.underlying3
  a3 := Tryz.isAgg3
  z3 := Tryz.sizeOf3
  v3 := Tryz.zeroValue3
  t4 := Tryz.underlying4
  a4 := Tryz.isAgg4
  z4 := Tryz.sizeOf4
  v4 := Tryz.zeroValue4
  t9 := Tryz.underlying9
  a9 := Tryz.isAgg9
  z9 := Tryz.sizeOf9
  v9 := Tryz.zeroValue9
  t24 := Tryz.underlying125
  a24 := Tryz.isAgg125
  z24 := Tryz.sizeOf125
  v24 := Tryz.zeroValue125 }
end Go.Proofs
namespace Go.Proofs.YtanffablfgnioaaGreatDoor
open Go.RowKit Go.Shelf
attribute [local go_sem] Oper.semAt_some
set_option linter.unusedVariables false
namespace Cl
/-- A field's two parts: ahead of its hyphen and behind it; without one, the field twice. -/
def cutAt (f : List UInt8) : List UInt8 × List UInt8 := if 0 ≤ Lib.indexByte f 45 then (f.take (Lib.indexByte f 45).toNat, f.drop ((Lib.indexByte f 45).toNat + 1)) else (f, f)
def okField (f : List UInt8) : Bool := okHex (cutAt f).1 && okHex (cutAt f).2 && decide (f.length ≤ 100)
def pairT (f : List UInt8) : Int × Int := ((hexN 0 (cutAt f).1 : Nat), (hexN 0 (cutAt f).2 : Nat))
/-- The pairs of a text. -/
def pairsT (l : List UInt8) : List (Int × Int) := (Lib.fields l).map pairT
def okText (l : List UInt8) : Bool := l.all (fun b => decide (b.toNat < 128)) && (Lib.fields l).all okField && decide (l.length ≤ 1000) && decide ((Lib.fields l).length ≤ 500)
end Cl
set_option maxRecDepth 100000 in
set_option maxHeartbeats 4000000 in
theorem cutS_any (s : ByteArray) (hs : s.size ≤ 100) (w : World) : Calls Tryz.prog 90 #[.string s, .string ⟨#[45]⟩] w fun e w' =>
    (∃ (a b : ByteArray) (q : Bool), e = .returned (.tuple #[.string a, .string b, .bool q]) ∧ a.data.toList = (Cl.cutAt s.data.toList).1 ∧ (q = true → b.data.toList = (Cl.cutAt s.data.toList).2) ∧ (q = false → a.data.toList = (Cl.cutAt s.data.toList).2)) ∧ ∃ d, w' = w.drewN d := by
  have mixed : Tryz.prog.follows .mixedOrders = true := by kernel_rfl
  have hcon := fun w => Any.stringslite_Index_one (P := Tryz.prog) Tryz.layIndex s 45 w
  change ∀ w, Calls Tryz.prog 123 _ _ _ at hcon
  have hge := Lib.indexByte_ge s.data.toList 45
  have hlt : 0 ≤ Lib.indexByte s.data.toList 45 → Lib.indexByte s.data.toList 45 < (s.size : Int) := fun hx => by
    have h1 := (Lib.indexByte_some (l := s.data.toList) (c := 45) (o := (Lib.indexByte s.data.toList 45).toNat) (by omega)).1
    have h2 := (List.getElem?_eq_some_iff.1 h1).1
    have := Lib.size_eq s
    omega
  have HCON := Lib.hid hcon
  clear hcon
  unfold Cl.cutAt
  obtain ⟨i, hi⟩ : ∃ i, Lib.indexByte s.data.toList 45 = i := ⟨_, rfl⟩
  rw [hi] at HCON hge hlt ⊢
  have hE : ∀ n : Nat, (s.extract 0 n).data.toList = s.data.toList.take n ∧ (s.extract n s.size).data.toList = s.data.toList.drop n := fun n => by
    have := Lib.size_eq s
    constructor
    · rw [ByteArray.data_extract, Array.toList_extract, List.extract_eq_take_drop]; simp
    · rw [ByteArray.data_extract, Array.toList_extract, List.extract_eq_take_drop]; exact List.take_of_length_le (by simp)
  have HE := Lib.hid hE
  clear hE
  by_cases hi0 : 0 ≤ i
  · obtain ⟨n, rfl⟩ : ∃ n : Nat, i = n := ⟨i.toNat, by omega⟩
    have h1 := hlt hi0
    have h2 : n < s.size := by omega
    have h3 : (n : Int) + 1 ≤ (s.size : Int) := by omega
    have hf : decide ((0 : Int) ≤ (n : Int)) = true := by simp
    rw [if_pos hi0]
    clear hlt hi
    go_enter Tryz.func90, Tryz.ntmps90
    go_wp2_with (first | (go_at_call 123; refine (HCON.out _).mono ?_; rintro e w' ⟨rfl, rfl⟩) | go_in)
    have h4 : ((n : Int) + 1).toNat = n + 1 := by omega
    have h5 : (n : Int) ≤ (s.size : Int) := by omega
    have h6 : IntKind.i64.wrap ((n : Int) + 1) = (n : Int) + 1 := IntWalk.i64_in _ (by omega)
    go_quiet (fail)
    go_wp2
    go_ret3
    exact ⟨⟨s.extract 0 n, s.extract (n + 1) s.size, true, rfl, (HE.out n).1, fun _ => (HE.out (n + 1)).2, fun h => by cases h⟩, nq, rfl⟩
  rw [if_neg hi0]
  have c1 : ¬ (0 : Int) ≤ i := hi0
  go_enter Tryz.func90, Tryz.ntmps90
  go_wp2_with (first | (go_at_call 123; refine (HCON.out _).mono ?_; rintro e w' ⟨rfl, rfl⟩) | go_in)
  go_ret3
  exact ⟨⟨s, ⟨#[]⟩, false, rfl, rfl, fun h => (by cases h), fun _ => rfl⟩, 0, rfl⟩
theorem cut_any (s : ByteArray) (hs : s.size ≤ 100) (w : World) : Calls Tryz.prog 60 #[.string s, .string ⟨#[45]⟩] w fun e w' =>
    (∃ (a b : ByteArray) (q : Bool), e = .returned (.tuple #[.string a, .string b, .bool q]) ∧ a.data.toList = (Cl.cutAt s.data.toList).1 ∧ (q = true → b.data.toList = (Cl.cutAt s.data.toList).2) ∧ (q = false → a.data.toList = (Cl.cutAt s.data.toList).2)) ∧ ∃ d, w' = w.drewN d := by
  have HC := Lib.hid (cutS_any s hs)
  go_enter Tryz.func60, Tryz.ntmps60
  go_wp2_with (go_at_call 90; refine (HC.out _).mono ?_; rintro e w' ⟨⟨a, b, q, rfl, h1, h2, h3⟩, d, rfl⟩)
  go_ret3
  exact ⟨⟨a, b, q, rfl, h1, h2, h3⟩, d, rfl⟩
theorem fields_any (s : ByteArray) (w : World) (hs : s.size ≤ 1000) (ha : s.data.toList.all (fun b => decide (b.toNat < 128)) = true) (htab : Lib.TabIs Tryz.prog w "strings.asciiSpace" .u8 Lib.asciiSpaceTab) :
    Calls Tryz.prog 174 #[.string s] w fun e w' => e = .returned (.slice (some ⟨w.heap.size, 0, none⟩) (Lib.fields s.data.toList).length (Lib.fields s.data.toList).length) ∧ w' = w.alloc (.cells ((Lib.fields s.data.toList).map fun l => Value.string ⟨l.toArray⟩).toArray 9) := by
  have hcon := Any.strings_Fields (P := Tryz.prog) Tryz.layFields (by kernel_rfl) (by kernel_rfl) s w (by omega) (fun j b hb => by
    rw [List.all_eq_true] at ha
    exact of_decide_eq_true (ha b (List.mem_of_getElem? hb))) htab
  change Calls Tryz.prog 174 _ _ _ at hcon
  exact hcon
theorem pairs_any (s : ByteArray) (w : World) : Calls Tryz.prog 140 #[.string s] w fun e w' => e = .returned (.func (.func 173) #[] #[.pointer (some ⟨w.heap.size, 0, none⟩)]) ∧ w.alloc (.cells #[.string s] 9) = w' := by
  go_enter Tryz.func140, Tryz.ntmps140
  go_wp2
  go_ret
  exact ⟨rfl, rfl⟩
/-- What a round of the caller's loop keeps: the texts. -/
def KpS (X Y : World) : Prop := ∀ (b : Nat) (cs : Array Value) (fr : Nat × Nat), X.heap[b]? = some (Obj.cells cs 9 fr) → Y.heap[b]? = some (Obj.cells cs 9 fr)
theorem kpS_t {X Y Z : World} (h : KpS X Y) (k : KpS Y Z) : KpS X Z := fun b cs fr x => k b cs fr (h b cs fr x)
theorem KpS.refl (X : World) : KpS X X := fun _ _ _ h => h
theorem KpS.grown {X Y : World} {row : Option Nat} (h : X.grownBy Y row) (hr : ∀ r, row = some r → ∀ cs fr, X.heap[r]? ≠ some (Obj.cells cs 9 fr)) : KpS X Y := fun b cs fr x => by
  rw [h.block b (Array.getElem?_eq_some_iff.1 x).1 (fun e => hr b e.symm cs fr x)]; exact x
theorem kpS_b {w : World} (W : World) (l : Nat) (o o' : Obj) (_ : w.heap.size ≤ l) (h : W.heap[l]? = some o) (hc : o.isCells = false) (_ : o.isWalk = false) : KpS W (W.putObj l o') :=
  KpS.grown (grownBy_putObj' W l o') (fun r e cs fr => by cases e; rw [h]; intro e2; cases e2; cases hc)
theorem grown_drewN (w : World) (n : Nat) (row : Option Nat) : w.grownBy (w.drewN n) row := ⟨rfl, rfl, rfl, Nat.le_refl _, fun _ _ _ => rfl⟩
theorem below_bytesW (w : World) (e : TypeId) (s : ByteArray) : Below w.heap.size w (Lib.bytesWorld w e s) :=
  ⟨rfl, rfl, rfl, by rw [Lib.bytesWorld_size]; omega, fun k hk => Lib.bytesWorld_at_old w e s k (by omega)⟩
theorem grown_of_below {w w' : World} (h : Below w.heap.size w w') : w.grownBy w' none := ⟨h.os, h.tape, h.output, h.size, fun k hk _ => h.block k hk⟩
set_option maxRecDepth 100000 in
set_option maxHeartbeats 4000000 in
/-- The iterator's closure, for every loop body that keeps the texts. -/
theorem pairs1_in (n : Nat) (hn : 1 ≤ n) (l Bs : Nat) (s : ByteArray) (hok : Cl.okText s.data.toList = true) (J Jx : List (Int × Int) → World → Prop) (B0 : Nat) (hJ : AbidesFrom B0 J)
    (hY : ∀ pre x W, J pre W → pre.length < 500 → YieldAt Fence.wide (n - 1) Tryz.prog l #[.int .i64 x.1, .int .i64 x.2] W fun e W' =>
      (e = .returned (.bool true) ∧ J (pre ++ [x]) W' ∧ KpS W W') ∨ (e = .returned (.bool false) ∧ Jx (pre ++ [x]) W'))
    (W : World) (hc : Boxed W Bs 9 (.string s)) (htab : Lib.TabIs Tryz.prog W "strings.asciiSpace" .u8 Lib.asciiSpaceTab) (h0 : J [] W) :
    CallsIn Fence.wide n Tryz.prog 173 #[.func (.yield l) #[] #[], .pointer (some ⟨Bs, 0, none⟩)] W fun e W' => (∃ v, e = .returned v) ∧
      ((∃ ys, ys = Cl.pairsT s.data.toList ∧ J ys W') ∨ (∃ pre, (pre <+: Cl.pairsT s.data.toList) ∧ Jx pre W')) := by
  simp only [Cl.okText, Bool.and_eq_true, decide_eq_true_eq] at hok
  obtain ⟨⟨⟨hasc, hfs⟩, hlen⟩, hfl⟩ := hok
  have hsz : s.size ≤ 1000 := by have := Lib.size_eq s; omega
  have hcc := hc.cell
  have HA := Lib.hid hasc
  have HF := Lib.hid hfs
  have HT := Lib.hid htab
  obtain ⟨fs, hfe⟩ : ∃ fs, Lib.fields s.data.toList = fs := ⟨_, rfl⟩
  obtain ⟨N, hN⟩ : ∃ N, fs.length = N := ⟨_, rfl⟩
  have HFE := Lib.hid hfe
  have HN := Lib.hid hN
  rw [hfe, hN] at hfl
  clear hasc hfs htab hlen hfe hN
  refine callsIn_of_wp Tryz.func173 rfl trivial ?_ rfl
  simp only [Tryz.ntmps173, List.size_toArray, List.length_cons, List.length_nil, Nat.reduceAdd, Nat.reduceSub, Array.replicate_succ, Array.replicate_zero, List.push_toArray, List.append_toArray, List.nil_append, List.cons_append]
  gi_wp2_with fail
  refine ⟨trivial, ?_⟩
  refine (callsIn_wide.2 (fields_any s W hsz HA.out HT.out)).mono ?_
  rintro e w' ⟨rfl, rfl⟩
  rw [HFE.out, HN.out]
  have HW0 := Lib.hid (hJ [] W _ none h0 (World.grownBy_alloc W (.cells (fs.map fun l => Value.string ⟨l.toArray⟩).toArray 9) none) (fun r e => by cases e))
  have HC0 := Lib.hid (heap_alloc_new W (.cells (fs.map fun l => Value.string ⟨l.toArray⟩).toArray 9))
  obtain ⟨W0, hW0⟩ : ∃ W0, W.alloc (.cells (fs.map fun l => Value.string ⟨l.toArray⟩).toArray 9) = W0 := ⟨_, rfl⟩
  rw [hW0] at HW0 HC0 ⊢
  obtain ⟨F, hF⟩ : ∃ F, W.heap.size = F := ⟨_, rfl⟩
  rw [hF] at HC0 ⊢
  have hF0 : F < W0.heap.size := by have := (Array.getElem?_eq_some_iff.1 HC0.out).1; omega
  clear hcc hc h0 hW0 hF
  gi_wp2
  gi_loopw [11] (fun i wr => ∃ (k : Nat) (pre : List (Int × Int)), k ≤ N ∧ i = .int .i64 k ∧ Hid (pre = (fs.take k).map Cl.pairT) ∧ J pre wr ∧ Hid (KpS W0 wr))
    (fun i _ => N - (intOf i).toNat)
  case atStart => exact ⟨0, [], Nat.zero_le _, rfl, Lib.hid (by simp), HW0.out, Lib.hid (KpS.refl _)⟩
  case round =>
    obtain ⟨k, pre, hk, rfl, HP, hJs, HK⟩ := hrel
    by_cases hlt : k < N
    · obtain ⟨f, hf⟩ : ∃ f, fs[k]? = some f := ⟨fs[k]'(by rw [HN.out]; exact hlt), List.getElem?_eq_getElem _⟩
      have hcell : wr.cell? ⟨F, k, none⟩ = some (.string ⟨f.toArray⟩) := by
        have := HK.out _ _ _ HC0.out
        simp [World.cell?, this, hf]
      have hFr : F < wr.heap.size := (Array.getElem?_eq_some_iff.1 (HK.out _ _ _ HC0.out)).1
      have hof : Cl.okField f = true := by have := HF.out; rw [HFE.out, List.all_eq_true] at this; exact this _ (List.mem_of_getElem? hf)
      simp only [Cl.okField, Bool.and_eq_true, decide_eq_true_eq] at hof
      have HX1 := Lib.hid hof.1.1
      have HX2 := Lib.hid hof.1.2
      have hfl2 : (⟨f.toArray⟩ : ByteArray).size ≤ 100 := by have := hof.2; simpa [ByteArray.size] using this
      have HPS : Hid (((fs.take (k + 1)).map Cl.pairT) = pre ++ [Cl.pairT f]) := Lib.hid (by rw [HP.out, List.take_add_one, hf]; simp)
      have HPL : Hid (pre.length = k) := Lib.hid (by rw [HP.out, List.length_map, List.length_take, HN.out]; omega)
      have HF2 := Lib.hid hf
      clear hof hf
      gi_wp2_with fail
      refine ⟨trivial, ?_⟩
      refine (callsIn_wide.2 (cut_any _ hfl2 _)).mono ?_
      rintro e w' ⟨⟨a, b, q, rfl, h1, h2, h3⟩, d, rfl⟩
      have HJ0 := Lib.hid (hJ _ _ _ none hJs (grown_drewN wr d none) (fun r e => by cases e))
      have HK0 := Lib.hid (kpS_t HK.out (KpS.grown (grown_drewN wr d none) (fun r e => by cases e)))
      have H1 : Hid (a.data.toList = (Cl.cutAt f).1) := Lib.hid h1
      clear h1 hJs hcell
      cases q
      · have H3 : Hid (a.data.toList = (Cl.cutAt f).2) := Lib.hid (h3 rfl)
        clear h2 h3
        gi_wp2_with fail
        refine ⟨trivial, ?_⟩
        refine (callsIn_wide.2 (number_any a (by rw [H1.out]; exact HX1.out) _)).mono ?_
        rintro e w1 ⟨rfl, rfl⟩
        have HJ1 := Lib.hid (hJ _ _ _ none HJ0.out (grown_of_below (below_bytesW _ 5 a )) (fun r e => by cases e))
        have HK1 := Lib.hid (kpS_t HK0.out (KpS.grown (grown_of_below (below_bytesW _ 5 a )) (fun r e => by cases e)))
        rw [H1.out]
        gi_wp2_with fail
        refine ⟨trivial, ?_⟩
        refine (callsIn_wide.2 (number_any a (by rw [H3.out]; exact HX2.out) _)).mono ?_
        rintro e w1 ⟨rfl, rfl⟩
        have HJ2 := Lib.hid (hJ _ _ _ none HJ1.out (grown_of_below (below_bytesW _ 5 a )) (fun r e => by cases e))
        have HK2 := Lib.hid (kpS_t HK1.out (KpS.grown (grown_of_below (below_bytesW _ 5 a )) (fun r e => by cases e)))
        rw [H3.out]
        obtain ⟨fn, tmps, assign, body, hy, hR⟩ := hY _ (((Cl.hexN 0 (Cl.cutAt f).1 : Nat) : Int), ((Cl.hexN 0 (Cl.cutAt f).2 : Nat) : Int)) _ HJ2.out (by rw [HPL.out]; omega)
        have HPT : Hid (Cl.pairT f = (((Cl.hexN 0 (Cl.cutAt f).1 : Nat) : Int), ((Cl.hexN 0 (Cl.cutAt f).2 : Nat) : Int))) := Lib.hid rfl
        dsimp only at hy
        generalize ((Cl.hexN 0 (Cl.cutAt f).1 : Nat) : Int) = x1 at *
        generalize ((Cl.hexN 0 (Cl.cutAt f).2 : Nat) : Int) = x2 at *
        gi_wp2
        refine hR.mono ?_
        rintro e W3 (⟨rfl, hJ3, hk3⟩ | ⟨rfl, hJx3⟩)
        · gi_wp2
          go_roundw
          case rel => exact ⟨k + 1, pre ++ [(x1, x2)], by omega, by go_num, Lib.hid (by rw [HPS.out, HPT.out]), hJ3, Lib.hid (kpS_t HK2.out hk3)⟩
          case measure => simp [intOf]; omega
        · gi_wp2
          refine bodyPost_ret (results_none rfl _ _ _) rfl ?_
          exact ⟨⟨_, rfl⟩, .inr ⟨_, by rw [← HPT.out, ← HPS.out, Cl.pairsT, HFE.out, List.map_take]; exact List.take_prefix _ _, hJx3⟩⟩
      · have H2 : Hid (b.data.toList = (Cl.cutAt f).2) := Lib.hid (h2 rfl)
        clear h2 h3
        gi_wp2_with fail
        refine ⟨trivial, ?_⟩
        refine (callsIn_wide.2 (number_any a (by rw [H1.out]; exact HX1.out) _)).mono ?_
        rintro e w1 ⟨rfl, rfl⟩
        have HJ1 := Lib.hid (hJ _ _ _ none HJ0.out (grown_of_below (below_bytesW _ 5 a )) (fun r e => by cases e))
        have HK1 := Lib.hid (kpS_t HK0.out (KpS.grown (grown_of_below (below_bytesW _ 5 a )) (fun r e => by cases e)))
        rw [H1.out]
        gi_wp2_with fail
        refine ⟨trivial, ?_⟩
        refine (callsIn_wide.2 (number_any b (by rw [H2.out]; exact HX2.out) _)).mono ?_
        rintro e w1 ⟨rfl, rfl⟩
        have HJ2 := Lib.hid (hJ _ _ _ none HJ1.out (grown_of_below (below_bytesW _ 5 b )) (fun r e => by cases e))
        have HK2 := Lib.hid (kpS_t HK1.out (KpS.grown (grown_of_below (below_bytesW _ 5 b )) (fun r e => by cases e)))
        rw [H2.out]
        obtain ⟨fn, tmps, assign, body, hy, hR⟩ := hY _ (((Cl.hexN 0 (Cl.cutAt f).1 : Nat) : Int), ((Cl.hexN 0 (Cl.cutAt f).2 : Nat) : Int)) _ HJ2.out (by rw [HPL.out]; omega)
        have HPT : Hid (Cl.pairT f = (((Cl.hexN 0 (Cl.cutAt f).1 : Nat) : Int), ((Cl.hexN 0 (Cl.cutAt f).2 : Nat) : Int))) := Lib.hid rfl
        dsimp only at hy
        generalize ((Cl.hexN 0 (Cl.cutAt f).1 : Nat) : Int) = x1 at *
        generalize ((Cl.hexN 0 (Cl.cutAt f).2 : Nat) : Int) = x2 at *
        gi_wp2
        refine hR.mono ?_
        rintro e W3 (⟨rfl, hJ3, hk3⟩ | ⟨rfl, hJx3⟩)
        · gi_wp2
          go_roundw
          case rel => exact ⟨k + 1, pre ++ [(x1, x2)], by omega, by go_num, Lib.hid (by rw [HPS.out, HPT.out]), hJ3, Lib.hid (kpS_t HK2.out hk3)⟩
          case measure => simp [intOf]; omega
        · gi_wp2
          refine bodyPost_ret (results_none rfl _ _ _) rfl ?_
          exact ⟨⟨_, rfl⟩, .inr ⟨_, by rw [← HPT.out, ← HPS.out, Cl.pairsT, HFE.out, List.map_take]; exact List.take_prefix _ _, hJx3⟩⟩
    · obtain rfl : k = N := by omega
      gi_wp2
      go_end0
      exact ⟨⟨_, rfl⟩, .inl ⟨_, by rw [HP.out, Cl.pairsT, HFE.out, List.take_of_length_le (by rw [HN.out]; exact Nat.le_refl _)], hJs⟩⟩
/-- class.pairs' closure, as the law of a range over a function wants it. -/
theorem pairs_stops (n : Nat) (hn : 1 ≤ n) (Bs : Nat) (s : ByteArray) (hok : Cl.okText s.data.toList = true) (w : World) (hc : Boxed w Bs 9 (.string s)) (htab : Lib.TabIs Tryz.prog w "strings.asciiSpace" .u8 Lib.asciiSpaceTab) :
    SeqStopsK Fence.wide n Tryz.prog 173 #[.pointer (some ⟨Bs, 0, none⟩)] (fun x : Int × Int => #[Value.int .i64 x.1, Value.int .i64 x.2]) KpS (fun ys => ys = Cl.pairsT s.data.toList)
      (fun pre => pre <+: Cl.pairsT s.data.toList) 500 w := fun l J Jx W hW hJ _ hY h0 =>
  pairs1_in n hn l Bs s hok J Jx _ hJ hY W ((hW.block Bs hc.lt).trans hc) (Joins.tab_stays (g := 4) (by kernel_rfl) htab hW (Nat.le_refl _)) h0
/-- The library's table of white space, as it was laid. -/
def Spaces (W : World) : Prop := Lib.TabIs Tryz.prog W "strings.asciiSpace" .u8 Lib.asciiSpaceTab
theorem Spaces.below {W W' : World} {B : Nat} (h : Spaces W) (hB : W.heap.size ≤ B) (hb : Below B W W') : Spaces W' := Joins.tab_stays (g := 4) (by kernel_rfl) h hb hB
end Go.Proofs.YtanffablfgnioaaGreatDoor
