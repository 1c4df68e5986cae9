/- Functions of the library: the library's contracts, laid over this translation. · The landed class: strings.Cut at one hyphen; the iterator over the pairs of a text. · Functions of the library: the library's contracts, laid over this translation. · strings.Cut at a closing brace and at :]; what a call needs of the library's variables. -/
import Derived.Shelf.Strings.Fields
import Derived.Shelf.Strings.Search2
import Derived.Shelf.Small.Wraps
import Derived.Shelf.Sort.Plain
import Derived.Test.YtdcielcniboloaaGreatDoorProg
import Derived.Test.YtdcielcniboloaaGreatDoorGp8
import Derived.Test.YtdcielcniboloaaGreatDoorGp3
import Derived.RangeFuncBox
import Derived.RangeFuncNested
import Derived.RangeFuncBound
import Derived.RangeFuncCalls
import Derived.RangeFuncLeaves
import Derived.OwnWalkIn
import Derived.TacticsInMore
import Derived.LoopNIn
import Derived.LoopIn
import Derived.IntWalk
import Derived.Lib.IndexLaws
import Derived.Shelf.Strings.Cut
import Derived.Test.YtdcielcniboloaaGreatDoorGp2
import Derived.Shelf.Vars
import Derived.Lib.Index
namespace Go.Proofs
open Go.Shelf
def Tryz.layFields_ren : Go.Shelf.Ren := ⟨fun | 157 => 258 | 229 => 280 | 199 => 281 | 261 => 306 | 311 => 315 | 312 => 316 | n => n, fun | 9 => 9 | 31 => 35 | 3 => 3 | 5 => 5 | 4 => 4 | 119 => 261 | 0 => 0 | 40 => 227 | 152 => 284 | 21 => 21 | 154 => 286 | 51 => 112 | 141 => 288 | 196 => 302 | 193 => 299 | 198 => 305 | 49 => 303 | 194 => 300 | 201 => 308 | 226 => 313 | 46 => 44 | 227 => 314 | n => n, fun | 0 => 4 | 6 => 7 | n => n⟩
theorem Tryz.layFields : Go.Proofs.Lays.n157 Tryz.prog Tryz.layFields_ren := {
  mixed := by kernel_rfl
  f157 := Tryz.func258.trans (congrArg some (by kernel_rfl))
  f199 := Tryz.func281.trans (congrArg some (by kernel_rfl))
  f229 := Tryz.func280.trans (congrArg some (by kernel_rfl))
  f261 := Tryz.func306.trans (congrArg some (by kernel_rfl))
  f311 := Tryz.func315.trans (congrArg some (by kernel_rfl))
  f312 := Tryz.func316.trans (congrArg some (by kernel_rfl))
  t0 := Tryz.underlying0
  a0 := Tryz.isAgg0
  z0 := Tryz.sizeOf0
  v0 := Tryz.zeroValue0
  t3 := Tryz.underlying3
  a3 := Tryz.isAgg3
  z3 := Tryz.sizeOf3
  v3 := Tryz.zeroValue3
  t4 := Tryz.underlying4
  a4 := Tryz.isAgg4
  z4 := Tryz.sizeOf4
  v4 := Tryz.zeroValue4
  t5 := Tryz.underlying5
  a5 := Tryz.isAgg5
  z5 := Tryz.sizeOf5
  v5 := Tryz.zeroValue5
  t9 := Tryz.underlying9
  a9 := Tryz.isAgg9
  z9 := Tryz.sizeOf9
  v9 := Tryz.zeroValue9
  t21 := Tryz.underlying21
  a21 := Tryz.isAgg21
  z21 := Tryz.sizeOf21
  v21 := Tryz.zeroValue21
  t31 := Tryz.underlying35
  a31 := Tryz.isAgg35
  z31 := Tryz.sizeOf35
  v31 := Tryz.zeroValue35
  t40 := Tryz.underlying227
  a40 := Tryz.isAgg227
  z40 := Tryz.sizeOf227
  v40 := Tryz.zeroValue227
  t46 := Tryz.underlying44
  a46 := Tryz.isAgg44
  z46 := Tryz.sizeOf44
  v46 := Tryz.zeroValue44
  t49 := Tryz.underlying303
  a49 := Tryz.isAgg303
  z49 := Tryz.sizeOf303
  v49 := Tryz.zeroValue303
  t51 := Tryz.underlying112
  a51 := Tryz.isAgg112
  z51 := Tryz.sizeOf112
  v51 := Tryz.zeroValue112
  t119 := Tryz.underlying261
  a119 := Tryz.isAgg261
  z119 := Tryz.sizeOf261
  t141 := Tryz.underlying288
  a141 := Tryz.isAgg288
  z141 := Tryz.sizeOf288
  v141 := Tryz.zeroValue288
  t152 := Tryz.underlying284
  a152 := Tryz.isAgg284
  z152 := Tryz.sizeOf284
  v152 := Tryz.zeroValue284
  t154 := Tryz.underlying286
  a154 := Tryz.isAgg286
  z154 := Tryz.sizeOf286
  v154 := Tryz.zeroValue286
  t193 := Tryz.underlying299
  a193 := Tryz.isAgg299
  z193 := Tryz.sizeOf299
  v193 := Tryz.zeroValue299
  t194 := Tryz.underlying300
  a194 := Tryz.isAgg300
  z194 := Tryz.sizeOf300
  v194 := Tryz.zeroValue300
  t196 := Tryz.underlying302
  a196 := Tryz.isAgg302
  z196 := Tryz.sizeOf302
  v196 := Tryz.zeroValue302
  t198 := Tryz.underlying305
  a198 := Tryz.isAgg305
  z198 := Tryz.sizeOf305
  v198 := Tryz.zeroValue305
  t201 := Tryz.underlying308
  a201 := Tryz.isAgg308
  z201 := Tryz.sizeOf308
  v201 := Tryz.zeroValue308
  t226 := Tryz.underlying313
  a226 := Tryz.isAgg313
  z226 := Tryz.sizeOf313
  v226 := Tryz.zeroValue313
  t227 := Tryz.underlying314
  a227 := Tryz.isAgg314
  z227 := Tryz.sizeOf314
  v227 := Tryz.zeroValue314
  g0 := by kernel_rfl
  g6 := by kernel_rfl }
def Tryz.layIndex_ren : Go.Shelf.Ren := ⟨fun | 219 => 201 | 217 => 237 | 225 => 236 | 224 => 235 | 267 => 238 | 266 => 268 | 314 => 269 | n => n, fun | 9 => 9 | 3 => 3 | 4 => 4 | 5 => 5 | 46 => 44 | 146 => 113 | 51 => 112 | n => n, fun | 1 => 0 | n => n⟩
theorem Tryz.layIndex : Go.Proofs.Lays.n219 Tryz.prog Tryz.layIndex_ren := {
  mixed := by kernel_rfl
  f217 := Tryz.func237.trans (congrArg some (by kernel_rfl))
  f219 := Tryz.func201.trans (congrArg some (by kernel_rfl))
  f224 := Tryz.func235.trans (congrArg some (by kernel_rfl))
  f225 := Tryz.func236.trans (congrArg some (by kernel_rfl))
  f266 := Tryz.func268.trans (congrArg some (by kernel_rfl))
  f267 := Tryz.func238.trans (congrArg some (by kernel_rfl))
  f314 := Tryz.func269.trans (congrArg some (by kernel_rfl))
  t3 := Tryz.underlying3
  a3 := Tryz.isAgg3
  z3 := Tryz.sizeOf3
  v3 := Tryz.zeroValue3
  t4 := Tryz.underlying4
  a4 := Tryz.isAgg4
  z4 := Tryz.sizeOf4
  v4 := Tryz.zeroValue4
  t5 := Tryz.underlying5
  a5 := Tryz.isAgg5
  z5 := Tryz.sizeOf5
  v5 := Tryz.zeroValue5
  t9 := Tryz.underlying9
  a9 := Tryz.isAgg9
  z9 := Tryz.sizeOf9
  v9 := Tryz.zeroValue9
  t46 := Tryz.underlying44
  a46 := Tryz.isAgg44
  z46 := Tryz.sizeOf44
  v46 := Tryz.zeroValue44
  t51 := Tryz.underlying112
  a51 := Tryz.isAgg112
  z51 := Tryz.sizeOf112
  v51 := Tryz.zeroValue112
  t146 := Tryz.underlying113
  a146 := Tryz.isAgg113
  z146 := Tryz.sizeOf113
  v146 := Tryz.zeroValue113
  g1 := by kernel_rfl }
def Tryz.layPrefix_ren : Go.Shelf.Ren := ⟨fun | 103 => 150 | 210 => 195 | 206 => 68 | n => n, fun | 9 => 9 | 4 => 4 | 24 => 176 | 3 => 3 | n => n, fun | n => n⟩
theorem Tryz.layPrefix : Go.Proofs.Lays.n103 Tryz.prog Tryz.layPrefix_ren := {
  mixed := by kernel_rfl
  f103 := Tryz.func150.trans (congrArg some (by kernel_rfl))
  f206 := Tryz.func68.trans (congrArg some (by kernel_rfl))
  f210 := Tryz.func195.trans (congrArg some (by kernel_rfl))
  t3 := Tryz.underlying3
  a3 := Tryz.isAgg3
  z3 := Tryz.sizeOf3
  v3 := Tryz.zeroValue3
  t4 := Tryz.underlying4
  a4 := Tryz.isAgg4
  z4 := Tryz.sizeOf4
  v4 := Tryz.zeroValue4
  t9 := Tryz.underlying9
  a9 := Tryz.isAgg9
  z9 := Tryz.sizeOf9
  v9 := Tryz.zeroValue9
  t24 := Tryz.underlying176
  a24 := Tryz.isAgg176
  z24 := Tryz.sizeOf176
  v24 := Tryz.zeroValue176 }
end Go.Proofs
namespace Go.Proofs.YtdcielcniboloaaGreatDoor
open Go.RowKit Go.Shelf
attribute [local go_sem] Oper.semAt_some
set_option linter.unusedVariables false
namespace Cl
/-- A field's two parts: ahead of its hyphen and behind it; without one, the field twice. -/
def cutAt (f : List UInt8) : List UInt8 × List UInt8 := if 0 ≤ Lib.indexByte f 45 then (f.take (Lib.indexByte f 45).toNat, f.drop ((Lib.indexByte f 45).toNat + 1)) else (f, f)
def okField (f : List UInt8) : Bool := okHex (cutAt f).1 && okHex (cutAt f).2 && decide (f.length ≤ 100)
def pairT (f : List UInt8) : Int × Int := ((hexN 0 (cutAt f).1 : Nat), (hexN 0 (cutAt f).2 : Nat))
/-- The pairs of a text. -/
def pairsT (l : List UInt8) : List (Int × Int) := (Lib.fields l).map pairT
def okText (l : List UInt8) : Bool := l.all (fun b => decide (b.toNat < 128)) && (Lib.fields l).all okField && decide (l.length ≤ 1000) && decide ((Lib.fields l).length ≤ 500)
end Cl
set_option maxRecDepth 100000 in
set_option maxHeartbeats 4000000 in
theorem cutS_any (s : ByteArray) (hs : s.size ≤ 100) (w : World) : Calls Tryz.prog 153 #[.string s, .string ⟨#[45]⟩] w fun e w' =>
    (∃ (a b : ByteArray) (q : Bool), e = .returned (.tuple #[.string a, .string b, .bool q]) ∧ a.data.toList = (Cl.cutAt s.data.toList).1 ∧ (q = true → b.data.toList = (Cl.cutAt s.data.toList).2) ∧ (q = false → a.data.toList = (Cl.cutAt s.data.toList).2)) ∧ ∃ d, w' = w.drewN d := by
  have mixed : Tryz.prog.follows .mixedOrders = true := by kernel_rfl
  have hcon := fun w => Any.stringslite_Index_one (P := Tryz.prog) Tryz.layIndex s 45 w
  change ∀ w, Calls Tryz.prog 201 _ _ _ at hcon
  have hge := Lib.indexByte_ge s.data.toList 45
  have hlt : 0 ≤ Lib.indexByte s.data.toList 45 → Lib.indexByte s.data.toList 45 < (s.size : Int) := fun hx => by
    have h1 := (Lib.indexByte_some (l := s.data.toList) (c := 45) (o := (Lib.indexByte s.data.toList 45).toNat) (by omega)).1
    have h2 := (List.getElem?_eq_some_iff.1 h1).1
    have := Lib.size_eq s
    omega
  have HCON := Lib.hid hcon
  clear hcon
  unfold Cl.cutAt
  obtain ⟨i, hi⟩ : ∃ i, Lib.indexByte s.data.toList 45 = i := ⟨_, rfl⟩
  rw [hi] at HCON hge hlt ⊢
  have hE : ∀ n : Nat, (s.extract 0 n).data.toList = s.data.toList.take n ∧ (s.extract n s.size).data.toList = s.data.toList.drop n := fun n => by
    have := Lib.size_eq s
    constructor
    · rw [ByteArray.data_extract, Array.toList_extract, List.extract_eq_take_drop]; simp
    · rw [ByteArray.data_extract, Array.toList_extract, List.extract_eq_take_drop]; exact List.take_of_length_le (by simp)
  have HE := Lib.hid hE
  clear hE
  by_cases hi0 : 0 ≤ i
  · obtain ⟨n, rfl⟩ : ∃ n : Nat, i = n := ⟨i.toNat, by omega⟩
    have h1 := hlt hi0
    have h2 : n < s.size := by omega
    have h3 : (n : Int) + 1 ≤ (s.size : Int) := by omega
    have hf : decide ((0 : Int) ≤ (n : Int)) = true := by simp
    rw [if_pos hi0]
    clear hlt hi
    go_enter Tryz.func153, Tryz.ntmps153
    go_wp2_with (first | (go_at_call 201; refine (HCON.out _).mono ?_; rintro e w' ⟨rfl, rfl⟩) | go_in)
    have h4 : ((n : Int) + 1).toNat = n + 1 := by omega
    have h5 : (n : Int) ≤ (s.size : Int) := by omega
    have h6 : IntKind.i64.wrap ((n : Int) + 1) = (n : Int) + 1 := IntWalk.i64_in _ (by omega)
    go_quiet (fail)
    go_wp2
    go_ret3
    exact ⟨⟨s.extract 0 n, s.extract (n + 1) s.size, true, rfl, (HE.out n).1, fun _ => (HE.out (n + 1)).2, fun h => by cases h⟩, nq, rfl⟩
  rw [if_neg hi0]
  have c1 : ¬ (0 : Int) ≤ i := hi0
  go_enter Tryz.func153, Tryz.ntmps153
  go_wp2_with (first | (go_at_call 201; refine (HCON.out _).mono ?_; rintro e w' ⟨rfl, rfl⟩) | go_in)
  go_ret3
  exact ⟨⟨s, ⟨#[]⟩, false, rfl, rfl, fun h => (by cases h), fun _ => rfl⟩, 0, rfl⟩
theorem cut_any (s : ByteArray) (hs : s.size ≤ 100) (w : World) : Calls Tryz.prog 104 #[.string s, .string ⟨#[45]⟩] w fun e w' =>
    (∃ (a b : ByteArray) (q : Bool), e = .returned (.tuple #[.string a, .string b, .bool q]) ∧ a.data.toList = (Cl.cutAt s.data.toList).1 ∧ (q = true → b.data.toList = (Cl.cutAt s.data.toList).2) ∧ (q = false → a.data.toList = (Cl.cutAt s.data.toList).2)) ∧ ∃ d, w' = w.drewN d := by
  have HC := Lib.hid (cutS_any s hs)
  go_enter Tryz.func104, Tryz.ntmps104
  go_wp2_with (go_at_call 153; refine (HC.out _).mono ?_; rintro e w' ⟨⟨a, b, q, rfl, h1, h2, h3⟩, d, rfl⟩)
  go_ret3
  exact ⟨⟨a, b, q, rfl, h1, h2, h3⟩, d, rfl⟩
theorem fields_any (s : ByteArray) (w : World) (hs : s.size ≤ 1000) (ha : s.data.toList.all (fun b => decide (b.toNat < 128)) = true) (htab : Lib.TabIs Tryz.prog w "strings.asciiSpace" .u8 Lib.asciiSpaceTab) :
    Calls Tryz.prog 258 #[.string s] w fun e w' => e = .returned (.slice (some ⟨w.heap.size, 0, none⟩) (Lib.fields s.data.toList).length (Lib.fields s.data.toList).length) ∧ w' = w.alloc (.cells ((Lib.fields s.data.toList).map fun l => Value.string ⟨l.toArray⟩).toArray 9) := by
  have hcon := Any.strings_Fields (P := Tryz.prog) Tryz.layFields (by kernel_rfl) (by kernel_rfl) s w (by omega) (fun j b hb => by
    rw [List.all_eq_true] at ha
    exact of_decide_eq_true (ha b (List.mem_of_getElem? hb))) htab
  change Calls Tryz.prog 258 _ _ _ at hcon
  exact hcon
theorem pairs_any (s : ByteArray) (w : World) : Calls Tryz.prog 219 #[.string s] w fun e w' => e = .returned (.func (.func 257) #[] #[.pointer (some ⟨w.heap.size, 0, none⟩)]) ∧ w.alloc (.cells #[.string s] 9) = w' := by
  go_enter Tryz.func219, Tryz.ntmps219
  go_wp2
  go_ret
  exact ⟨rfl, rfl⟩
/-- What a round of the caller's loop keeps: the texts. -/
def KpS (X Y : World) : Prop := ∀ (b : Nat) (cs : Array Value) (fr : Nat × Nat), X.heap[b]? = some (Obj.cells cs 9 fr) → Y.heap[b]? = some (Obj.cells cs 9 fr)
theorem kpS_t {X Y Z : World} (h : KpS X Y) (k : KpS Y Z) : KpS X Z := fun b cs fr x => k b cs fr (h b cs fr x)
theorem KpS.refl (X : World) : KpS X X := fun _ _ _ h => h
theorem KpS.grown {X Y : World} {row : Option Nat} (h : X.grownBy Y row) (hr : ∀ r, row = some r → ∀ cs fr, X.heap[r]? ≠ some (Obj.cells cs 9 fr)) : KpS X Y := fun b cs fr x => by
  rw [h.block b (Array.getElem?_eq_some_iff.1 x).1 (fun e => hr b e.symm cs fr x)]; exact x
theorem kpS_b {w : World} (W : World) (l : Nat) (o o' : Obj) (_ : w.heap.size ≤ l) (h : W.heap[l]? = some o) (hc : o.isCells = false) (_ : o.isWalk = false) : KpS W (W.putObj l o') :=
  KpS.grown (grownBy_putObj' W l o') (fun r e cs fr => by cases e; rw [h]; intro e2; cases e2; cases hc)
theorem grown_drewN (w : World) (n : Nat) (row : Option Nat) : w.grownBy (w.drewN n) row := ⟨rfl, rfl, rfl, Nat.le_refl _, fun _ _ _ => rfl⟩
theorem below_bytesW (w : World) (e : TypeId) (s : ByteArray) : Below w.heap.size w (Lib.bytesWorld w e s) :=
  ⟨rfl, rfl, rfl, by rw [Lib.bytesWorld_size]; omega, fun k hk => Lib.bytesWorld_at_old w e s k (by omega)⟩
theorem grown_of_below {w w' : World} (h : Below w.heap.size w w') : w.grownBy w' none := ⟨h.os, h.tape, h.output, h.size, fun k hk _ => h.block k hk⟩
set_option maxRecDepth 100000 in
set_option maxHeartbeats 4000000 in
/-- The iterator's closure, for every loop body that keeps the texts. -/
theorem pairs1_in (n : Nat) (hn : 1 ≤ n) (l Bs : Nat) (s : ByteArray) (hok : Cl.okText s.data.toList = true) (J Jx : List (Int × Int) → World → Prop) (B0 : Nat) (hJ : AbidesFrom B0 J)
    (hY : ∀ pre x W, J pre W → pre.length < 500 → YieldAt Fence.wide (n - 1) Tryz.prog l #[.int .i64 x.1, .int .i64 x.2] W fun e W' =>
      (e = .returned (.bool true) ∧ J (pre ++ [x]) W' ∧ KpS W W') ∨ (e = .returned (.bool false) ∧ Jx (pre ++ [x]) W'))
    (W : World) (hc : Boxed W Bs 9 (.string s)) (htab : Lib.TabIs Tryz.prog W "strings.asciiSpace" .u8 Lib.asciiSpaceTab) (h0 : J [] W) :
    CallsIn Fence.wide n Tryz.prog 257 #[.func (.yield l) #[] #[], .pointer (some ⟨Bs, 0, none⟩)] W fun e W' => (∃ v, e = .returned v) ∧
      ((∃ ys, ys = Cl.pairsT s.data.toList ∧ J ys W') ∨ (∃ pre, (pre <+: Cl.pairsT s.data.toList) ∧ Jx pre W')) := by
  simp only [Cl.okText, Bool.and_eq_true, decide_eq_true_eq] at hok
  obtain ⟨⟨⟨hasc, hfs⟩, hlen⟩, hfl⟩ := hok
  have hsz : s.size ≤ 1000 := by have := Lib.size_eq s; omega
  have hcc := hc.cell
  have HA := Lib.hid hasc
  have HF := Lib.hid hfs
  have HT := Lib.hid htab
  obtain ⟨fs, hfe⟩ : ∃ fs, Lib.fields s.data.toList = fs := ⟨_, rfl⟩
  obtain ⟨N, hN⟩ : ∃ N, fs.length = N := ⟨_, rfl⟩
  have HFE := Lib.hid hfe
  have HN := Lib.hid hN
  rw [hfe, hN] at hfl
  clear hasc hfs htab hlen hfe hN
  refine callsIn_of_wp Tryz.func257 rfl trivial ?_ rfl
  simp only [Tryz.ntmps257, List.size_toArray, List.length_cons, List.length_nil, Nat.reduceAdd, Nat.reduceSub, Array.replicate_succ, Array.replicate_zero, List.push_toArray, List.append_toArray, List.nil_append, List.cons_append]
  gi_wp2_with fail
  refine ⟨trivial, ?_⟩
  refine (callsIn_wide.2 (fields_any s W hsz HA.out HT.out)).mono ?_
  rintro e w' ⟨rfl, rfl⟩
  rw [HFE.out, HN.out]
  have HW0 := Lib.hid (hJ [] W _ none h0 (World.grownBy_alloc W (.cells (fs.map fun l => Value.string ⟨l.toArray⟩).toArray 9) none) (fun r e => by cases e))
  have HC0 := Lib.hid (heap_alloc_new W (.cells (fs.map fun l => Value.string ⟨l.toArray⟩).toArray 9))
  obtain ⟨W0, hW0⟩ : ∃ W0, W.alloc (.cells (fs.map fun l => Value.string ⟨l.toArray⟩).toArray 9) = W0 := ⟨_, rfl⟩
  rw [hW0] at HW0 HC0 ⊢
  obtain ⟨F, hF⟩ : ∃ F, W.heap.size = F := ⟨_, rfl⟩
  rw [hF] at HC0 ⊢
  have hF0 : F < W0.heap.size := by have := (Array.getElem?_eq_some_iff.1 HC0.out).1; omega
  clear hcc hc h0 hW0 hF
  gi_wp2
  gi_loopw [11] (fun i wr => ∃ (k : Nat) (pre : List (Int × Int)), k ≤ N ∧ i = .int .i64 k ∧ Hid (pre = (fs.take k).map Cl.pairT) ∧ J pre wr ∧ Hid (KpS W0 wr))
    (fun i _ => N - (intOf i).toNat)
  case atStart => exact ⟨0, [], Nat.zero_le _, rfl, Lib.hid (by simp), HW0.out, Lib.hid (KpS.refl _)⟩
  case round =>
    obtain ⟨k, pre, hk, rfl, HP, hJs, HK⟩ := hrel
    by_cases hlt : k < N
    · obtain ⟨f, hf⟩ : ∃ f, fs[k]? = some f := ⟨fs[k]'(by rw [HN.out]; exact hlt), List.getElem?_eq_getElem _⟩
      have hcell : wr.cell? ⟨F, k, none⟩ = some (.string ⟨f.toArray⟩) := by
        have := HK.out _ _ _ HC0.out
        simp [World.cell?, this, hf]
      have hFr : F < wr.heap.size := (Array.getElem?_eq_some_iff.1 (HK.out _ _ _ HC0.out)).1
      have hof : Cl.okField f = true := by have := HF.out; rw [HFE.out, List.all_eq_true] at this; exact this _ (List.mem_of_getElem? hf)
      simp only [Cl.okField, Bool.and_eq_true, decide_eq_true_eq] at hof
      have HX1 := Lib.hid hof.1.1
      have HX2 := Lib.hid hof.1.2
      have hfl2 : (⟨f.toArray⟩ : ByteArray).size ≤ 100 := by have := hof.2; simpa [ByteArray.size] using this
      have HPS : Hid (((fs.take (k + 1)).map Cl.pairT) = pre ++ [Cl.pairT f]) := Lib.hid (by rw [HP.out, List.take_add_one, hf]; simp)
      have HPL : Hid (pre.length = k) := Lib.hid (by rw [HP.out, List.length_map, List.length_take, HN.out]; omega)
      have HF2 := Lib.hid hf
      clear hof hf
      gi_wp2_with fail
      refine ⟨trivial, ?_⟩
      refine (callsIn_wide.2 (cut_any _ hfl2 _)).mono ?_
      rintro e w' ⟨⟨a, b, q, rfl, h1, h2, h3⟩, d, rfl⟩
      have HJ0 := Lib.hid (hJ _ _ _ none hJs (grown_drewN wr d none) (fun r e => by cases e))
      have HK0 := Lib.hid (kpS_t HK.out (KpS.grown (grown_drewN wr d none) (fun r e => by cases e)))
      have H1 : Hid (a.data.toList = (Cl.cutAt f).1) := Lib.hid h1
      clear h1 hJs hcell
      cases q
      · have H3 : Hid (a.data.toList = (Cl.cutAt f).2) := Lib.hid (h3 rfl)
        clear h2 h3
        gi_wp2_with fail
        refine ⟨trivial, ?_⟩
        refine (callsIn_wide.2 (number_any a (by rw [H1.out]; exact HX1.out) _)).mono ?_
        rintro e w1 ⟨rfl, rfl⟩
        have HJ1 := Lib.hid (hJ _ _ _ none HJ0.out (grown_of_below (below_bytesW _ 5 a )) (fun r e => by cases e))
        have HK1 := Lib.hid (kpS_t HK0.out (KpS.grown (grown_of_below (below_bytesW _ 5 a )) (fun r e => by cases e)))
        rw [H1.out]
        gi_wp2_with fail
        refine ⟨trivial, ?_⟩
        refine (callsIn_wide.2 (number_any a (by rw [H3.out]; exact HX2.out) _)).mono ?_
        rintro e w1 ⟨rfl, rfl⟩
        have HJ2 := Lib.hid (hJ _ _ _ none HJ1.out (grown_of_below (below_bytesW _ 5 a )) (fun r e => by cases e))
        have HK2 := Lib.hid (kpS_t HK1.out (KpS.grown (grown_of_below (below_bytesW _ 5 a )) (fun r e => by cases e)))
        rw [H3.out]
        obtain ⟨fn, tmps, assign, body, hy, hR⟩ := hY _ (((Cl.hexN 0 (Cl.cutAt f).1 : Nat) : Int), ((Cl.hexN 0 (Cl.cutAt f).2 : Nat) : Int)) _ HJ2.out (by rw [HPL.out]; omega)
        have HPT : Hid (Cl.pairT f = (((Cl.hexN 0 (Cl.cutAt f).1 : Nat) : Int), ((Cl.hexN 0 (Cl.cutAt f).2 : Nat) : Int))) := Lib.hid rfl
        dsimp only at hy
        generalize ((Cl.hexN 0 (Cl.cutAt f).1 : Nat) : Int) = x1 at *
        generalize ((Cl.hexN 0 (Cl.cutAt f).2 : Nat) : Int) = x2 at *
        gi_wp2
        refine hR.mono ?_
        rintro e W3 (⟨rfl, hJ3, hk3⟩ | ⟨rfl, hJx3⟩)
        · gi_wp2
          go_roundw
          case rel => exact ⟨k + 1, pre ++ [(x1, x2)], by omega, by go_num, Lib.hid (by rw [HPS.out, HPT.out]), hJ3, Lib.hid (kpS_t HK2.out hk3)⟩
          case measure => simp [intOf]; omega
        · gi_wp2
          refine bodyPost_ret (results_none rfl _ _ _) rfl ?_
          exact ⟨⟨_, rfl⟩, .inr ⟨_, by rw [← HPT.out, ← HPS.out, Cl.pairsT, HFE.out, List.map_take]; exact List.take_prefix _ _, hJx3⟩⟩
      · have H2 : Hid (b.data.toList = (Cl.cutAt f).2) := Lib.hid (h2 rfl)
        clear h2 h3
        gi_wp2_with fail
        refine ⟨trivial, ?_⟩
        refine (callsIn_wide.2 (number_any a (by rw [H1.out]; exact HX1.out) _)).mono ?_
        rintro e w1 ⟨rfl, rfl⟩
        have HJ1 := Lib.hid (hJ _ _ _ none HJ0.out (grown_of_below (below_bytesW _ 5 a )) (fun r e => by cases e))
        have HK1 := Lib.hid (kpS_t HK0.out (KpS.grown (grown_of_below (below_bytesW _ 5 a )) (fun r e => by cases e)))
        rw [H1.out]
        gi_wp2_with fail
        refine ⟨trivial, ?_⟩
        refine (callsIn_wide.2 (number_any b (by rw [H2.out]; exact HX2.out) _)).mono ?_
        rintro e w1 ⟨rfl, rfl⟩
        have HJ2 := Lib.hid (hJ _ _ _ none HJ1.out (grown_of_below (below_bytesW _ 5 b )) (fun r e => by cases e))
        have HK2 := Lib.hid (kpS_t HK1.out (KpS.grown (grown_of_below (below_bytesW _ 5 b )) (fun r e => by cases e)))
        rw [H2.out]
        obtain ⟨fn, tmps, assign, body, hy, hR⟩ := hY _ (((Cl.hexN 0 (Cl.cutAt f).1 : Nat) : Int), ((Cl.hexN 0 (Cl.cutAt f).2 : Nat) : Int)) _ HJ2.out (by rw [HPL.out]; omega)
        have HPT : Hid (Cl.pairT f = (((Cl.hexN 0 (Cl.cutAt f).1 : Nat) : Int), ((Cl.hexN 0 (Cl.cutAt f).2 : Nat) : Int))) := Lib.hid rfl
        dsimp only at hy
        generalize ((Cl.hexN 0 (Cl.cutAt f).1 : Nat) : Int) = x1 at *
        generalize ((Cl.hexN 0 (Cl.cutAt f).2 : Nat) : Int) = x2 at *
        gi_wp2
        refine hR.mono ?_
        rintro e W3 (⟨rfl, hJ3, hk3⟩ | ⟨rfl, hJx3⟩)
        · gi_wp2
          go_roundw
          case rel => exact ⟨k + 1, pre ++ [(x1, x2)], by omega, by go_num, Lib.hid (by rw [HPS.out, HPT.out]), hJ3, Lib.hid (kpS_t HK2.out hk3)⟩
          case measure => simp [intOf]; omega
        · gi_wp2
          refine bodyPost_ret (results_none rfl _ _ _) rfl ?_
          exact ⟨⟨_, rfl⟩, .inr ⟨_, by rw [← HPT.out, ← HPS.out, Cl.pairsT, HFE.out, List.map_take]; exact List.take_prefix _ _, hJx3⟩⟩
    · obtain rfl : k = N := by omega
      gi_wp2
      go_end0
      exact ⟨⟨_, rfl⟩, .inl ⟨_, by rw [HP.out, Cl.pairsT, HFE.out, List.take_of_length_le (by rw [HN.out]; exact Nat.le_refl _)], hJs⟩⟩
/-- class.pairs' closure, as the law of a range over a function wants it. -/
theorem pairs_stops (n : Nat) (hn : 1 ≤ n) (Bs : Nat) (s : ByteArray) (hok : Cl.okText s.data.toList = true) (w : World) (hc : Boxed w Bs 9 (.string s)) (htab : Lib.TabIs Tryz.prog w "strings.asciiSpace" .u8 Lib.asciiSpaceTab) :
    SeqStopsK Fence.wide n Tryz.prog 257 #[.pointer (some ⟨Bs, 0, none⟩)] (fun x : Int × Int => #[Value.int .i64 x.1, Value.int .i64 x.2]) KpS (fun ys => ys = Cl.pairsT s.data.toList)
      (fun pre => pre <+: Cl.pairsT s.data.toList) 500 w := fun l J Jx W hW hJ _ hY h0 =>
  pairs1_in n hn l Bs s hok J Jx _ hJ hY W ((hW.block Bs hc.lt).trans hc) (Joins.tab_stays (g := 4) (by kernel_rfl) htab hW (Nat.le_refl _)) h0
/-- The library's table of white space, as it was laid. -/
def Spaces (W : World) : Prop := Lib.TabIs Tryz.prog W "strings.asciiSpace" .u8 Lib.asciiSpaceTab
theorem Spaces.below {W W' : World} {B : Nat} (h : Spaces W) (hB : W.heap.size ≤ B) (hb : Below B W W') : Spaces W' := Joins.tab_stays (g := 4) (by kernel_rfl) h hb hB
end Go.Proofs.YtdcielcniboloaaGreatDoor
namespace Go.Proofs
open Go.Shelf
def Tryz.layCut_ren : Go.Shelf.Ren := ⟨fun | 145 => 104 | 220 => 153 | 219 => 201 | 217 => 237 | 225 => 236 | 224 => 235 | 267 => 238 | 266 => 268 | 314 => 269 | n => n, fun | 9 => 9 | 4 => 4 | 59 => 139 | 3 => 3 | 5 => 5 | 46 => 44 | 146 => 113 | 51 => 112 | n => n, fun | 1 => 0 | n => n⟩
theorem Tryz.layCut : Go.Proofs.Lays.n145 Tryz.prog Tryz.layCut_ren := {
  mixed := by kernel_rfl
  f145 := Tryz.func104.trans (congrArg some (by kernel_rfl))
  f217 := Tryz.func237.trans (congrArg some (by kernel_rfl))
  f219 := Tryz.func201.trans (congrArg some (by kernel_rfl))
  f220 := Tryz.func153.trans (congrArg some (by kernel_rfl))
  f224 := Tryz.func235.trans (congrArg some (by kernel_rfl))
  f225 := Tryz.func236.trans (congrArg some (by kernel_rfl))
  f266 := Tryz.func268.trans (congrArg some (by kernel_rfl))
  f267 := Tryz.func238.trans (congrArg some (by kernel_rfl))
  f314 := Tryz.func269.trans (congrArg some (by kernel_rfl))
  t3 := Tryz.underlying3
  a3 := Tryz.isAgg3
  z3 := Tryz.sizeOf3
  v3 := Tryz.zeroValue3
  t4 := Tryz.underlying4
  a4 := Tryz.isAgg4
  z4 := Tryz.sizeOf4
  v4 := Tryz.zeroValue4
  t5 := Tryz.underlying5
  a5 := Tryz.isAgg5
  z5 := Tryz.sizeOf5
  v5 := Tryz.zeroValue5
  t9 := Tryz.underlying9
  a9 := Tryz.isAgg9
  z9 := Tryz.sizeOf9
  v9 := Tryz.zeroValue9
  t46 := Tryz.underlying44
  a46 := Tryz.isAgg44
  z46 := Tryz.sizeOf44
  v46 := Tryz.zeroValue44
  t51 := Tryz.underlying112
  a51 := Tryz.isAgg112
  z51 := Tryz.sizeOf112
  v51 := Tryz.zeroValue112
  t59 := Tryz.underlying139
  a59 := Tryz.isAgg139
  z59 := Tryz.sizeOf139
  v59 := Tryz.zeroValue139
  t146 := Tryz.underlying113
  a146 := Tryz.isAgg113
  z146 := Tryz.sizeOf113
  v146 := Tryz.zeroValue113
  g1 := by kernel_rfl }
end Go.Proofs
namespace Go.Proofs.YtdcielcniboloaaGreatDoor
open Go.RowKit Go.Shelf
set_option linter.unusedVariables false
/-- The table of spaces, and some number in the library's variable MaxLen. -/
structure Ev (W : World) : Prop where
  spaces : Spaces W
  lt : 0 < W.heap.size
  max : ∃ m, W.cell? ⟨0, 0, none⟩ = some (.int .i64 m)
theorem Ev.below {W W' : World} {B : Nat} (h : Ev W) (hB : W.heap.size ≤ B) (hb : Below B W W') : Ev W' :=
  ⟨h.spaces.below hB hb, by have := hb.size; have := h.lt; omega, by
    obtain ⟨m, hm⟩ := h.max
    exact ⟨m, (hb.cell (p := ⟨0, 0, none⟩) (Nat.lt_of_lt_of_le h.lt hB)).trans hm⟩⟩
theorem Ev.drewN {W : World} (h : Ev W) (n : Nat) : Ev (W.drewN n) := h.below (Nat.le_refl _) (below_drewN (Below.refl _ _) n)
namespace Br
theorem nums_q (s : ByteArray) (k : Nat) (c : UInt8) : s.data.toList[k]? = some c ↔ (Utf.nums s)[k]? = some (c.toNat : Int) := by
  unfold Utf.nums
  rw [List.getElem?_map]
  cases s.data.toList[k]? with
  | none => simp
  | some b => simp only [Option.map_some, Option.some.injEq]; exact ⟨fun e => by rw [e], fun e => UInt8.toNat_inj.1 (by omega)⟩
theorem occ1 (s : List UInt8) (c : UInt8) (i : Nat) : Lib.occAt s [c] i = decide (s[i]? = some c) := by
  unfold Lib.occAt
  rw [Bool.eq_iff_iff, decide_eq_true_iff, List.isPrefixOf_iff_prefix]
  have h0 : s[i]? = (s.drop i)[0]? := by rw [List.getElem?_drop]; rfl
  rw [h0]
  cases s.drop i with
  | nil => simp
  | cons a t => simp; exact ⟨fun e => e.symm, fun e => e.symm⟩
theorem occ2 (s : List UInt8) (c d : UInt8) (i : Nat) : Lib.occAt s [c, d] i = decide (s[i]? = some c ∧ s[i + 1]? = some d) := by
  unfold Lib.occAt
  rw [Bool.eq_iff_iff, decide_eq_true_iff, List.isPrefixOf_iff_prefix]
  have h0 : s[i]? = (s.drop i)[0]? := by rw [List.getElem?_drop]; rfl
  have h1 : s[i + 1]? = (s.drop i)[1]? := by rw [List.getElem?_drop]
  rw [h0, h1]
  cases s.drop i with
  | nil => simp
  | cons a t =>
    cases t with
    | nil => simp
    | cons b u => simp; exact ⟨fun e => ⟨e.1.symm, e.2.symm⟩, fun e => ⟨e.1.symm, e.2.symm⟩⟩
theorem take_extract (s : ByteArray) (k : Nat) : (⟨(s.data.toList.take k).toArray⟩ : ByteArray) = s.extract 0 k := by
  apply ByteArray.ext
  rw [ByteArray.data_extract]
  apply Array.toList_inj.1
  rw [Array.toList_extract, List.extract_eq_take_drop]; simp
theorem cut_of1 (s : ByteArray) (c : UInt8) : (upTo (c.toNat : Int) (Utf.nums s) = s.size → Lib.cut s.data.toList [c] = (s.data.toList, [], false)) ∧ (upTo (c.toNat : Int) (Utf.nums s) ≠ s.size → ∃ b, Lib.cut s.data.toList [c] = (s.data.toList.take (upTo (c.toNat : Int) (Utf.nums s)), b, true)) := by
  have hl : s.data.toList.length = s.size := by simp
  have hle := upTo_le (c.toNat : Int) (Utf.nums s)
  rw [Utf.nums_length] at hle
  constructor
  · intro h
    have : Lib.index s.data.toList [c] = -1 := Lib.index_none (fun j _ => by
      rw [occ1, decide_eq_false]
      intro e
      have e2 := (nums_q s j c).1 e
      have hj : j < s.size := by rw [← Utf.nums_length]; exact (List.getElem?_eq_some_iff.1 e2).1
      exact upTo_no _ _ j (by omega) e2)
    unfold Lib.cut
    rw [this, if_neg (by decide)]
  · intro h
    have h3 := upTo_at (c.toNat : Int) (Utf.nums s) (by rw [Utf.nums_length]; omega)
    have : Lib.index s.data.toList [c] = (upTo (c.toNat : Int) (Utf.nums s) : Nat) := Lib.index_first (by omega) (by rw [occ1, decide_eq_true_iff]; exact (nums_q s _ c).2 h3) (fun j hj => by
      rw [occ1, decide_eq_false]
      intro e
      exact upTo_no _ _ j hj ((nums_q s j c).1 e))
    unfold Lib.cut
    rw [this, if_pos (by omega), Int.toNat_natCast]
    exact ⟨_, rfl⟩
theorem cut_of2 (s : ByteArray) (c d : UInt8) : (upTo2 (c.toNat : Int) (d.toNat : Int) (Utf.nums s) = s.size → Lib.cut s.data.toList [c, d] = (s.data.toList, [], false)) ∧ (upTo2 (c.toNat : Int) (d.toNat : Int) (Utf.nums s) ≠ s.size → ∃ b, Lib.cut s.data.toList [c, d] = (s.data.toList.take (upTo2 (c.toNat : Int) (d.toNat : Int) (Utf.nums s)), b, true)) := by
  have hl : s.data.toList.length = s.size := by simp
  have hle := upTo2_le (c.toNat : Int) (d.toNat : Int) (Utf.nums s)
  rw [Utf.nums_length] at hle
  constructor
  · intro h
    have : Lib.index s.data.toList [c, d] = -1 := Lib.index_none (fun j _ => by
      rw [occ2, decide_eq_false]
      rintro ⟨e, f⟩
      have e2 := (nums_q s j c).1 e
      have hj : j < s.size := by rw [← Utf.nums_length]; exact (List.getElem?_eq_some_iff.1 e2).1
      exact upTo2_no _ _ _ j (by omega) ⟨e2, (nums_q s (j + 1) d).1 f⟩)
    unfold Lib.cut
    rw [this, if_neg (by decide)]
  · intro h
    have h3 := upTo2_at (c.toNat : Int) (d.toNat : Int) (Utf.nums s) (by rw [Utf.nums_length]; omega)
    have : Lib.index s.data.toList [c, d] = (upTo2 (c.toNat : Int) (d.toNat : Int) (Utf.nums s) : Nat) := Lib.index_first (by omega) (by rw [occ2, decide_eq_true_iff]; exact ⟨(nums_q s _ c).2 h3.1, (nums_q s _ d).2 h3.2⟩) (fun j hj => by
      rw [occ2, decide_eq_false]
      rintro ⟨e, f⟩
      exact upTo2_no _ _ _ j hj ⟨(nums_q s j c).1 e, (nums_q s (j + 1) d).1 f⟩)
    unfold Lib.cut
    rw [this, if_pos (by omega), Int.toNat_natCast]
    exact ⟨_, rfl⟩
end Br
/-- What Cut hands back: the part ahead, and whether there is one. -/
def CutPost (k : Nat) (s : ByteArray) (W : World) (e : Ending) (w' : World) : Prop := ∃ b, e = .returned (.tuple #[.string (s.extract 0 k), .string b, .bool (decide (k ≠ s.size))]) ∧ ∃ n, w' = W.drewN n
theorem extract_all (s : ByteArray) : s.extract 0 s.size = s := by
  rw [← Br.take_extract]
  apply ByteArray.ext
  rw [List.take_of_length_le (by simp)]
theorem cut_1 (W : World) (s : ByteArray) (hs : s.size ≤ 100000) (c : UInt8) (hE : Ev W) : Calls Tryz.prog 104 #[.string s, .string ⟨#[c]⟩] W (CutPost (Br.upTo (c.toNat : Int) (Utf.nums s)) s W) := by
  obtain ⟨m, hm⟩ := hE.max
  have h9 := Any.strings_Cut (P := Tryz.prog) Tryz.layCut s ⟨#[c]⟩ m W (by omega) hm
  change Calls Tryz.prog 104 _ _ _ at h9
  refine h9.mono ?_
  rintro e w' ⟨he, hw⟩
  have hc := Br.cut_of1 s c
  by_cases h : Br.upTo (c.toNat : Int) (Utf.nums s) = s.size
  · rw [hc.1 h] at he
    refine ⟨⟨([] : List UInt8).toArray⟩, ?_, hw⟩
    rw [he, h, extract_all, decide_eq_false (by simp)]
  · obtain ⟨b, hb⟩ := hc.2 h
    rw [hb] at he
    refine ⟨⟨b.toArray⟩, ?_, hw⟩
    rw [he, decide_eq_true h, ← Br.take_extract]
theorem cut_2 (W : World) (s : ByteArray) (hs : s.size ≤ 100000) (c d : UInt8) (hE : Ev W) : Calls Tryz.prog 104 #[.string s, .string ⟨#[c, d]⟩] W (CutPost (Br.upTo2 (c.toNat : Int) (d.toNat : Int) (Utf.nums s)) s W) := by
  obtain ⟨m, hm⟩ := hE.max
  have h9 := Any.strings_Cut (P := Tryz.prog) Tryz.layCut s ⟨#[c, d]⟩ m W (by omega) hm
  change Calls Tryz.prog 104 _ _ _ at h9
  refine h9.mono ?_
  rintro e w' ⟨he, hw⟩
  have hc := Br.cut_of2 s c d
  by_cases h : Br.upTo2 (c.toNat : Int) (d.toNat : Int) (Utf.nums s) = s.size
  · rw [hc.1 h] at he
    refine ⟨⟨([] : List UInt8).toArray⟩, ?_, hw⟩
    rw [he, h, extract_all, decide_eq_false (by simp)]
  · obtain ⟨b, hb⟩ := hc.2 h
    rw [hb] at he
    refine ⟨⟨b.toArray⟩, ?_, hw⟩
    rw [he, decide_eq_true h, ← Br.take_extract]
end Go.Proofs.YtdcielcniboloaaGreatDoor
