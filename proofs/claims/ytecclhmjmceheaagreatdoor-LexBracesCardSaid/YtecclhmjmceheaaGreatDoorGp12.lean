/- The landed class: a number out of its text (strconv.ParseInt at base 16). · Functions of the library: the library's contracts, laid over this translation. -/
import Derived.Test.YtecclhmjmceheaaGreatDoorRows
import Derived.WalkKit
import Derived.OwnWalk
import Derived.WalkLawsBesides
import Derived.WalkSpells
import Derived.Lib.Hide
import Derived.Lib.Strings
import Derived.Lib.Walk
import Derived.Lib.ConvBytes
import Derived.Lib.SmallJoins
import Derived.Laws.Strings3
import Derived.Laws.Closers25
import Derived.Laws.Closers25b
import Derived.BigCall
import Derived.BigGuard
import Derived.Shelf.Abstract
import Derived.Shelf.Strings.Fields
import Derived.Shelf.Strings.Search2
import Derived.Shelf.Small.Wraps
import Derived.Shelf.Sort.Plain
import Derived.Test.YtecclhmjmceheaaGreatDoorProg
namespace Go.Proofs.YtecclhmjmceheaaGreatDoor
open Go.RowKit Go.Shelf
set_option linter.unusedVariables false
namespace Cl
def hexD (c : Nat) : Nat := if c ≤ 57 then c - 48 else c - 55
def okD (c : UInt8) : Bool := (decide (48 ≤ c.toNat) && decide (c.toNat ≤ 57)) || (decide (65 ≤ c.toNat) && decide (c.toNat ≤ 70))
/-- The number that digits spell, behind one that is read. -/
def hexN : Nat → List UInt8 → Nat
  | acc, [] => acc
  | acc, c :: t => hexN (acc * 16 + hexD c.toNat) t
/-- A text of 1 to 15 digits. -/
def okHex (l : List UInt8) : Bool := !l.isEmpty && decide (l.length ≤ 15) && l.all okD
theorem hexD_lt {c : UInt8} (h : okD c = true) : hexD c.toNat < 16 := by
  simp [okD] at h; unfold hexD; split <;> omega
theorem hexN_lt : ∀ (l : List UInt8) (acc : Nat), (l.all okD = true) → hexN acc l < (acc + 1) * 16 ^ l.length
  | [], acc, _ => by simp [hexN]
  | c :: t, acc, h => by
    simp only [List.all_cons, Bool.and_eq_true] at h
    have ih := hexN_lt t (acc * 16 + hexD c.toNat) h.2
    have hd := hexD_lt h.1
    have : (acc * 16 + hexD c.toNat + 1) * 16 ^ t.length ≤ ((acc + 1) * 16) * 16 ^ t.length := Nat.mul_le_mul_right _ (by omega)
    rw [List.length_cons, Nat.pow_succ, ← Nat.mul_assoc, Nat.mul_right_comm]
    exact Nat.lt_of_lt_of_le ih this
theorem or32 (c : UInt8) (h1 : 65 ≤ c.toNat) (h2 : c.toNat ≤ 70) : bits .or .u8 (c.toNat : Int) 32 = (c.toNat : Int) + 32 := by
  rcases (by omega : c.toNat = 65 ∨ c.toNat = 66 ∨ c.toNat = 67 ∨ c.toNat = 68 ∨ c.toNat = 69 ∨ c.toNat = 70) with e | e | e | e | e | e <;> rw [e] <;> decide
end Cl
theorem lower_any (c : Int) (w : World) (h1 : 65 ≤ c) (h2 : c ≤ 70) : Calls Tryz.prog 280 #[.int .u8 c] w fun e w' => e = .returned (.int .u8 (c + 32)) ∧ w = w' := by
  have hor : bits .or .u8 c 32 = c + 32 := by
    rcases (by omega : c = 65 ∨ c = 66 ∨ c = 67 ∨ c = 68 ∨ c = 69 ∨ c = 70) with rfl | rfl | rfl | rfl | rfl | rfl <;> decide
  go_enter Tryz.func280, Tryz.ntmps280
  go_wp2
  go_ret
  exact ⟨rfl, rfl⟩
set_option maxRecDepth 100000 in
set_option maxHeartbeats 4000000 in
theorem parseUint16 (t : ByteArray) (hok : Cl.okHex t.data.toList = true) (w : World) :
    Calls Tryz.prog 248 #[.string t, .int .i64 16, .int .i64 64] w fun e w' => e = .returned (.tuple #[.int .u64 (Cl.hexN 0 t.data.toList : Nat), .nilIface]) ∧ w' = Lib.bytesWorld w 5 t := by
  have mixed : Tryz.prog.follows .mixedOrders = true := by kernel_rfl
  simp only [Cl.okHex, Bool.and_eq_true, Bool.not_eq_true', decide_eq_true_eq] at hok
  obtain ⟨⟨hemp, h15⟩, hall⟩ := hok
  have e321 : ∀ args w, (callFunc 280 args).run Tryz.prog w = .ok (.enter 280 args) w := enters_of Tryz.func280 (by kernel_rfl) rfl
  have hlen : t.data.toList.length = t.size := (Lib.size_eq t).symm
  have hne : ¬ t = ⟨#[]⟩ := fun h => by rw [h] at hemp; simp at hemp
  have hemp2 : t.toList.isEmpty = false := by
    rw [← decide_eq_emptyBytes]
    exact decide_eq_false hne
  have hcv := Lib.run_convert_string_bytes (P := Tryz.prog) w 9 63 5 t (u := .string) Tryz.underlying9 Tryz.underlying63 Tryz.underlying5
  have hB : ∀ j, j < t.size → (Lib.bytesWorld w 5 t).cell? ⟨w.heap.size, j, none⟩ = some (.int .u8 (t.data.toList.getD j 0).toNat) := fun j hj => Lib.bytesWorld_cell w 5 t j hj
  obtain ⟨W1, hW1⟩ : ∃ W1, W1 = Lib.bytesWorld w 5 t := ⟨_, rfl⟩
  rw [← hW1] at hcv hB ⊢
  clear hW1
  have h15' : t.size ≤ 15 := by omega
  obtain ⟨bs, hL⟩ : ∃ bs, bs = t.data.toList := ⟨_, rfl⟩
  have hLn : bs.length = t.size := by rw [hL, hlen]
  rw [← hL] at hB hall ⊢
  clear hL h15 hlen
  have HALL := Lib.hid hall
  have hnx := Cl.hexN_lt
  have HLT : Hid (∀ k acc, k ≤ bs.length → Cl.hexN acc (bs.take k) < (acc + 1) * 16 ^ k) := Lib.hid fun k acc hk => by
    have := Cl.hexN_lt (bs.take k) acc (by rw [List.all_eq_true] at hall ⊢; exact fun x hx => hall x (List.mem_of_mem_take hx))
    rwa [List.length_take, Nat.min_eq_left hk] at this
  clear hall hnx hemp hne
  have hmv : IntKind.u64.wrap (IntKind.u64.wrap 18446744073709551616 - 1) = 18446744073709551615 := by
    rw [IntKind.wrap_u64, IntKind.wrap_u64]
    decide
  go_enter Tryz.func248, Tryz.ntmps248
  go_wp2
  go_loop [12, 13, 101] (fun vu vn vi => ∃ (k : Nat) (a : Int), vu = .bool false ∧ vn = .int .u64 a ∧ vi = .int .i64 k ∧ k ≤ t.size ∧ Hid (∃ acc : Nat, a = (acc : Int) ∧ acc < 16 ^ k ∧ Cl.hexN 0 bs = Cl.hexN acc (bs.drop k)))
    (fun _ _ vi => t.size - (intOf vi).toNat)
  case atStart => exact ⟨0, 0, rfl, rfl, rfl, by omega, 0, rfl, by simp, rfl⟩
  case round =>
    obtain ⟨k, a, rfl, rfl, rfl, hk, hh⟩ := hrel
    by_cases hkn : k < t.size
    · have hc := hB k hkn
      obtain ⟨acc, ha, hacc, hdec⟩ := hh.out
      clear hh
      have hp : 16 ^ k ≤ 16 ^ 14 := Nat.pow_le_pow_right (by omega) (by omega)
      have a0 : 0 ≤ a := by omega
      have a1 : a < 72057594037927936 := by omega
      have hdrop : bs.drop k = bs[k]'(by omega) :: bs.drop (k + 1) := List.drop_eq_getElem_cons (by omega)
      have hget : bs.getD k 0 = bs[k]'(by omega) := by simp [List.getD, List.getElem?_eq_getElem (show k < bs.length by omega)]
      have hok : Cl.okD (bs[k]'(by omega)) = true := by have := HALL.out; rw [List.all_eq_true] at this; exact this _ (List.getElem_mem _)
      rw [hdrop] at hdec
      rw [hget] at hc
      generalize bs[k]'(by omega) = c at hc hdec hok
      have hc256 : c.toNat < 256 := c.toNat_lt
      clear hB hdrop hget
      have HN : Hid (∃ acc' : Nat, a * 16 + (Cl.hexD c.toNat : Nat) = (acc' : Int) ∧ acc' < 16 ^ (k + 1) ∧ Cl.hexN 0 bs = Cl.hexN acc' (bs.drop (k + 1))) :=
        Lib.hid ⟨acc * 16 + Cl.hexD c.toNat, by omega, by have := Cl.hexD_lt hok; rw [Nat.pow_succ]; omega, hdec⟩
      have icut : a < 1152921504606846976 := by omega
      clear hacc hdec ha hp
      simp only [Cl.okD, Bool.or_eq_true, Bool.and_eq_true, decide_eq_true_eq] at hok
      rcases hok with ⟨hd0, hd1⟩ | ⟨hd0, hd1⟩
      · have hx : Cl.hexD c.toNat = c.toNat - 48 := by unfold Cl.hexD; rw [if_pos hd1]
        rw [hx] at HN
        have HN2 : Hid (∃ acc' : Nat, a * 16 + ((c.toNat : Int) - 48) = (acc' : Int) ∧ acc' < 16 ^ (k + 1) ∧ Cl.hexN 0 bs = Cl.hexN acc' (bs.drop (k + 1))) := by
          obtain ⟨q, h1, h2⟩ := HN.out; exact Lib.hid ⟨q, by omega, h2⟩
        clear HN hx
        have iov : a * 16 + ((c.toNat : Int) - 48) < 18446744073709551616 := by omega
        go_wp2
        refine ⟨⟨k + 1, a * 16 + ((c.toNat : Int) - 48), rfl, (by first | rfl | (congr 1; omega)), (by first | rfl | (congr 1; omega)), by omega, HN2⟩, by simp [intOf]; omega⟩
      · have hx : Cl.hexD c.toNat = c.toNat - 55 := by unfold Cl.hexD; rw [if_neg (by omega)]
        rw [hx] at HN
        have HN2 : Hid (∃ acc' : Nat, a * 16 + ((c.toNat : Int) + 32 - 97 + 10) = (acc' : Int) ∧ acc' < 16 ^ (k + 1) ∧ Cl.hexN 0 bs = Cl.hexN acc' (bs.drop (k + 1))) := by
          obtain ⟨q, h1, h2⟩ := HN.out; exact Lib.hid ⟨q, by omega, h2⟩
        clear HN hx
        have hor := Cl.or32 c hd0 hd1
        have iov : a * 16 + ((c.toNat : Int) + 32 - 97 + 10) < 18446744073709551616 := by omega
        go_wp2_with (go_at_fn 280; refine (lower_any _ _ (by omega) (by omega)).mono ?_; rintro e w' ⟨rfl, rfl⟩)
        refine ⟨⟨k + 1, a * 16 + ((c.toNat : Int) + 32 - 97 + 10), rfl, (by first | rfl | (congr 1; omega)), (by first | rfl | (congr 1; omega)), by omega, HN2⟩, by simp [intOf]; omega⟩
    · obtain rfl : k = t.size := by omega
      obtain ⟨acc, ha, hacc, hdec⟩ := hh.out
      clear hh
      rw [List.drop_eq_nil_of_le (by omega)] at hdec
      have hE : Hid (.tuple #[.int .u64 a, .nilIface] = (Value.tuple #[.int .u64 (Cl.hexN 0 bs : Nat), .nilIface])) := Lib.hid (by rw [hdec, ha]; rfl)
      have a0 : 0 ≤ a := by omega
      have c1 : ¬ ((t.size : Int) < (t.size : Int)) := by omega
      clear hacc hdec ha
      go_wp2
      go_ret2
      exact ⟨congrArg Ending.returned hE.out, rfl⟩
set_option maxRecDepth 100000 in
set_option maxHeartbeats 4000000 in
theorem parseInt16i (t : ByteArray) (hok : Cl.okHex t.data.toList = true) (w : World) :
    Calls Tryz.prog 224 #[.string t, .int .i64 16, .int .i64 64] w fun e w' => e = .returned (.tuple #[.int .i64 (Cl.hexN 0 t.data.toList : Nat), .nilIface]) ∧ w' = Lib.bytesWorld w 5 t := by
  have mixed : Tryz.prog.follows .mixedOrders = true := by kernel_rfl
  have hok2 := Lib.hid hok
  simp only [Cl.okHex, Bool.and_eq_true, Bool.not_eq_true', decide_eq_true_eq] at hok
  obtain ⟨⟨hemp, h15⟩, hall⟩ := hok
  have hlen : t.data.toList.length = t.size := (Lib.size_eq t).symm
  have hne : ¬ t = ⟨#[]⟩ := fun h => by rw [h] at hemp; simp at hemp
  have hemp2 : t.toList.isEmpty = false := by
    rw [← decide_eq_emptyBytes]
    exact decide_eq_false hne
  have hpos : 0 < t.size := by
    rcases Nat.eq_zero_or_pos t.size with h | h
    · rw [← hlen] at h; rw [List.eq_nil_of_length_eq_zero h] at hemp; simp at hemp
    · exact h
  have hposz : (0 : Int) < (t.size : Int) := by omega
  obtain ⟨c, hx⟩ : ∃ c : UInt8, t[0] = c := ⟨_, rfl⟩
  have hok : Cl.okD c = true := by
    have hm : t.data.toList[0]? = some c := by rw [← hx]; simp [hpos, ByteArray.getElem_eq_getElem_data]
    rw [List.all_eq_true] at hall
    exact hall _ (List.mem_of_getElem? hm)
  have hc43 : ¬ (c.toNat : Int) = 43 := by simp [Cl.okD] at hok; omega
  have hc45 : ¬ (c.toNat : Int) = 45 := by simp [Cl.okD] at hok; omega
  have hv := Cl.hexN_lt t.data.toList 0 hall
  have hp : 16 ^ t.data.toList.length ≤ 16 ^ 15 := Nat.pow_le_pow_right (by omega) (by omega)
  obtain ⟨x, ex⟩ : ∃ x : Int, x = ((Cl.hexN 0 t.data.toList : Nat) : Int) := ⟨_, rfl⟩
  have hx0 : 0 ≤ x := by omega
  have hx1 : x < 1152921504606846976 := by omega
  have hcon := parseUint16 t hok2.out w
  rw [← ex] at hcon ⊢
  have HCON := Lib.hid hcon
  clear hcon ex hv hp hok hall h15 hemp hne hlen
  go_enter Tryz.func224, Tryz.ntmps224
  go_wp2_with (go_at_call 248; refine HCON.out.mono ?_; rintro e w' ⟨rfl, rfl⟩)
  go_ret2
  exact ⟨rfl, rfl⟩
set_option maxRecDepth 100000 in
set_option maxHeartbeats 4000000 in
theorem parseInt16 (t : ByteArray) (hok : Cl.okHex t.data.toList = true) (w : World) :
    Calls Tryz.prog 259 #[.string t, .int .i64 16, .int .i64 64] w fun e w' => e = .returned (.tuple #[.int .i64 (Cl.hexN 0 t.data.toList : Nat), .nilIface]) ∧ w' = Lib.bytesWorld w 5 t := by
  have hcon := parseInt16i t hok w
  obtain ⟨x, ex⟩ : ∃ x : Int, x = ((Cl.hexN 0 t.data.toList : Nat) : Int) := ⟨_, rfl⟩
  rw [← ex] at hcon ⊢
  have HCON := Lib.hid hcon
  clear hcon ex hok
  go_enter Tryz.func259, Tryz.ntmps259
  go_wp2_with (go_at_call 224; refine HCON.out.mono ?_; rintro e w' ⟨rfl, rfl⟩)
  go_ret2
  exact ⟨rfl, rfl⟩
/-- number: at a text of digits. -/
theorem number_any (t : ByteArray) (hok : Cl.okHex t.data.toList = true) (w : World) :
    Calls Tryz.prog 234 #[.string t] w fun e w' => e = .returned (.int .i64 (Cl.hexN 0 t.data.toList : Nat)) ∧ w' = Lib.bytesWorld w 5 t := by
  have hcon := parseInt16 t hok w
  have hv : Cl.hexN 0 t.data.toList < 1152921504606846976 := by
    simp only [Cl.okHex, Bool.and_eq_true, Bool.not_eq_true', decide_eq_true_eq] at hok
    have := Cl.hexN_lt t.data.toList 0 hok.2
    have hp : 16 ^ t.data.toList.length ≤ 16 ^ 15 := Nat.pow_le_pow_right (by omega) (by omega)
    omega
  obtain ⟨x, ex⟩ : ∃ x : Int, x = ((Cl.hexN 0 t.data.toList : Nat) : Int) := ⟨_, rfl⟩
  have hx0 : 0 ≤ x := by omega
  have hx1 : x < 1152921504606846976 := by omega
  rw [← ex] at hcon ⊢
  have HCON := Lib.hid hcon
  clear hcon ex hok hv
  go_enter Tryz.func234, Tryz.ntmps234
  go_wp2_with (go_at_call 259; refine HCON.out.mono ?_; rintro e w' ⟨rfl, rfl⟩)
  go_ret
  exact ⟨rfl, rfl⟩
end Go.Proofs.YtecclhmjmceheaaGreatDoor
namespace Go.Proofs
open Go.Shelf
def Tryz.layFields_ren : Go.Shelf.Ren := ⟨fun | 157 => 233 | 229 => 257 | 199 => 258 | 261 => 283 | 311 => 293 | 312 => 294 | n => n, fun | 9 => 9 | 31 => 47 | 3 => 3 | 5 => 5 | 4 => 4 | 119 => 237 | 0 => 0 | 40 => 210 | 152 => 261 | 21 => 21 | 154 => 263 | 51 => 116 | 141 => 265 | 196 => 278 | 193 => 275 | 198 => 281 | 49 => 279 | 194 => 276 | 201 => 284 | 226 => 293 | 46 => 53 | 227 => 294 | n => n, fun | 0 => 3 | 6 => 6 | n => n⟩
theorem Tryz.layFields : Go.Proofs.Lays.n157 Tryz.prog Tryz.layFields_ren := {
  mixed := by kernel_rfl
  f157 := Tryz.func233.trans (congrArg some (by kernel_rfl))
  f199 := Tryz.func258.trans (congrArg some (by kernel_rfl))
  f229 := Tryz.func257.trans (congrArg some (by kernel_rfl))
  f261 := Tryz.func283.trans (congrArg some (by kernel_rfl))
  f311 := Tryz.func293.trans (congrArg some (by kernel_rfl))
  f312 := Tryz.func294.trans (congrArg some (by kernel_rfl))
  t0 := Tryz.underlying0
  a0 := Tryz.isAgg0
  z0 := Tryz.sizeOf0
  v0 := Tryz.zeroValue0
  t3 := Tryz.underlying3
  a3 := Tryz.isAgg3
  z3 := Tryz.sizeOf3
  v3 := Tryz.zeroValue3
  t4 := Tryz.underlying4
  a4 := Tryz.isAgg4
  z4 := Tryz.sizeOf4
  v4 := Tryz.zeroValue4
  t5 := Tryz.underlying5
  a5 := Tryz.isAgg5
  z5 := Tryz.sizeOf5
  v5 := Tryz.zeroValue5
  t9 := Tryz.underlying9
  a9 := Tryz.isAgg9
  z9 := Tryz.sizeOf9
  v9 := Tryz.zeroValue9
  t21 := Tryz.underlying21
  a21 := Tryz.isAgg21
  z21 := Tryz.sizeOf21
  v21 := Tryz.zeroValue21
  t31 := Tryz.underlying47
  a31 := Tryz.isAgg47
  z31 := Tryz.sizeOf47
  v31 := Tryz.zeroValue47
  t40 := Tryz.underlying210
  a40 := Tryz.isAgg210
  z40 := Tryz.sizeOf210
  v40 := Tryz.zeroValue210
  t46 := Tryz.underlying53
  a46 := Tryz.isAgg53
  z46 := Tryz.sizeOf53
  v46 := Tryz.zeroValue53
  t49 := Tryz.underlying279
  a49 := Tryz.isAgg279
  z49 := Tryz.sizeOf279
  v49 := Tryz.zeroValue279
  t51 := Tryz.underlying116
  a51 := Tryz.isAgg116
  z51 := Tryz.sizeOf116
  v51 := Tryz.zeroValue116
  t119 := Tryz.underlying237
  a119 := Tryz.isAgg237
  z119 := Tryz.sizeOf237
  t141 := Tryz.underlying265
  a141 := Tryz.isAgg265
  z141 := Tryz.sizeOf265
  v141 := Tryz.zeroValue265
  t152 := Tryz.underlying261
  a152 := Tryz.isAgg261
  z152 := Tryz.sizeOf261
  v152 := Tryz.zeroValue261
  t154 := Tryz.underlying263
  a154 := Tryz.isAgg263
  z154 := Tryz.sizeOf263
  v154 := Tryz.zeroValue263
  t193 := Tryz.underlying275
  a193 := Tryz.isAgg275
  z193 := Tryz.sizeOf275
  v193 := Tryz.zeroValue275
  t194 := Tryz.underlying276
  a194 := Tryz.isAgg276
  z194 := Tryz.sizeOf276
  v194 := Tryz.zeroValue276
  t196 := Tryz.underlying278
  a196 := Tryz.isAgg278
  z196 := Tryz.sizeOf278
  v196 := Tryz.zeroValue278
  t198 := Tryz.underlying281
  a198 := Tryz.isAgg281
  z198 := Tryz.sizeOf281
  v198 := Tryz.zeroValue281
  t201 := Tryz.underlying284
  a201 := Tryz.isAgg284
  z201 := Tryz.sizeOf284
  v201 := Tryz.zeroValue284
  t226 := Tryz.underlying293
  a226 := Tryz.isAgg293
  z226 := Tryz.sizeOf293
  v226 := Tryz.zeroValue293
  t227 := Tryz.underlying294
  a227 := Tryz.isAgg294
  z227 := Tryz.sizeOf294
  v227 := Tryz.zeroValue294
  g0 := by kernel_rfl
  g6 := by kernel_rfl }
def Tryz.layIndex_ren : Go.Shelf.Ren := ⟨fun | 219 => 168 | 217 => 219 | 225 => 218 | 224 => 217 | 267 => 220 | 266 => 244 | 314 => 245 | n => n, fun | 9 => 9 | 3 => 3 | 4 => 4 | 5 => 5 | 46 => 53 | 146 => 117 | 51 => 116 | n => n, fun | 1 => 0 | n => n⟩
theorem Tryz.layIndex : Go.Proofs.Lays.n219 Tryz.prog Tryz.layIndex_ren := {
  mixed := by kernel_rfl
  f217 := Tryz.func219.trans (congrArg some (by kernel_rfl))
  f219 := Tryz.func168.trans (congrArg some (by kernel_rfl))
  f224 := Tryz.func217.trans (congrArg some (by kernel_rfl))
  f225 := Tryz.func218.trans (congrArg some (by kernel_rfl))
  f266 := Tryz.func244.trans (congrArg some (by kernel_rfl))
  f267 := Tryz.func220.trans (congrArg some (by kernel_rfl))
  f314 := Tryz.func245.trans (congrArg some (by kernel_rfl))
  t3 := Tryz.underlying3
  a3 := Tryz.isAgg3
  z3 := Tryz.sizeOf3
  v3 := Tryz.zeroValue3
  t4 := Tryz.underlying4
  a4 := Tryz.isAgg4
  z4 := Tryz.sizeOf4
  v4 := Tryz.zeroValue4
  t5 := Tryz.underlying5
  a5 := Tryz.isAgg5
  z5 := Tryz.sizeOf5
  v5 := Tryz.zeroValue5
  t9 := Tryz.underlying9
  a9 := Tryz.isAgg9
  z9 := Tryz.sizeOf9
  v9 := Tryz.zeroValue9
  t46 := Tryz.underlying53
  a46 := Tryz.isAgg53
  z46 := Tryz.sizeOf53
  v46 := Tryz.zeroValue53
  t51 := Tryz.underlying116
  a51 := Tryz.isAgg116
  z51 := Tryz.sizeOf116
  v51 := Tryz.zeroValue116
  t146 := Tryz.underlying117
  a146 := Tryz.isAgg117
  z146 := Tryz.sizeOf117
  v146 := Tryz.zeroValue117
  g1 := by kernel_rfl }
def Tryz.layPrefix_ren : Go.Shelf.Ren := ⟨fun | 103 => 126 | 210 => 162 | 206 => 56 | n => n, fun | 9 => 9 | 4 => 4 | 24 => 154 | 3 => 3 | n => n, fun | n => n⟩
theorem Tryz.layPrefix : Go.Proofs.Lays.n103 Tryz.prog Tryz.layPrefix_ren := {
  mixed := by kernel_rfl
  f103 := Tryz.func126.trans (congrArg some (by kernel_rfl))
  f206 := Tryz.func56.trans (congrArg some (by kernel_rfl))
  f210 := Tryz.func162.trans (congrArg some (by kernel_rfl))
  t3 := Tryz.underlying3
  a3 := Tryz.isAgg3
  z3 := Tryz.sizeOf3
  v3 := Tryz.zeroValue3
  t4 := Tryz.underlying4
  a4 := Tryz.isAgg4
  z4 := Tryz.sizeOf4
  v4 := Tryz.zeroValue4
  t9 := Tryz.underlying9
  a9 := Tryz.isAgg9
  z9 := Tryz.sizeOf9
  v9 := Tryz.zeroValue9
  t24 := Tryz.underlying154
  a24 := Tryz.isAgg154
  z24 := Tryz.sizeOf154
  v24 := Tryz.zeroValue154 }
end Go.Proofs
