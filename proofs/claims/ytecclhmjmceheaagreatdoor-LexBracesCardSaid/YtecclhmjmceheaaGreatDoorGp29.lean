/- The landed lex: escapes, bracket expressions. · Functions of the library: the library's contracts, laid over this translation. -/
import Derived.Test.YtecclhmjmceheaaGreatDoorGp22
import Derived.Test.YtecclhmjmceheaaGreatDoorGp28
import Derived.Shelf.Strings.IndexAnyAll
import Derived.Shelf.Strings.SlTrimAscii
import Derived.Shelf.Strconv.Atoi
import Derived.Shelf.Small.Strs
import Derived.Test.YtecclhmjmceheaaGreatDoorProg
namespace Go.Proofs.YtecclhmjmceheaaGreatDoor
open Go.RowKit
open Lx (Tk TR)
set_option linter.unusedVariables false
theorem box_kept {W W' : World} {o : Obj} (hb : Below (W.alloc o).heap.size (W.alloc o) W') : W'.heap[W.heap.size]? = some o := (hb.block _ (by simp)).trans (heap_alloc_new W o)
theorem box_on {w w' : World} {k B : Nat} {o : Obj} (h : w.heap[k]? = some o) (hk : k < B) (hb : Below B w w') : w'.heap[k]? = some o := (hb.block _ hk).trans h
theorem below_of_alloc {W W' : World} {o : Obj} (hb : Below (W.alloc o).heap.size (W.alloc o) W') : Below W.heap.size W W' := ((Below.refl _ W).alloc (Nat.le_refl _) o).trans (hb.mono (by simp))
theorem size_of_alloc {W W' : World} {o : Obj} (hb : Below (W.alloc o).heap.size (W.alloc o) W') : W.heap.size < W'.heap.size := by have := hb.size; simp at this; omega
theorem own_slice {W : World} {base : Nat} {v : Value} {l : List (Int × Int)} (h : RgOwn W base v l) : ∃ a c, v = .slice a l.length c := by
  unfold RgOwn at h
  rcases h.2 with ⟨e, e0⟩ | ⟨g, c, cur, e, _⟩
  · exact ⟨none, 0, by rw [e, e0]⟩
  · exact ⟨_, _, e⟩
/-- What a walk reads and writes of a box of eight cells. -/
theorem box_facts {w : World} {B : Nat} {u0 u1 u2 u3 u4 u5 u6 u7 : Value} {t : TypeId} (h : w.heap[B]? = some (.cells #[u0, u1, u2, u3, u4, u5, u6, u7] t (0, 0))) :
    w.cell? ⟨B, 0, none⟩ = some u0 ∧ w.cell? ⟨B, 1, none⟩ = some u1 ∧ w.cell? ⟨B, 2, none⟩ = some u2 ∧ w.cell? ⟨B, 3, none⟩ = some u3 ∧ w.cell? ⟨B, 4, none⟩ = some u4 ∧ w.cell? ⟨B, 5, none⟩ = some u5 ∧ w.cell? ⟨B, 6, none⟩ = some u6 ∧ w.cell? ⟨B, 7, none⟩ = some u7 ∧ w.frozen? ⟨B, 0, none⟩ = false ∧ w.frozen? ⟨B, 1, none⟩ = false ∧ w.frozen? ⟨B, 2, none⟩ = false ∧ w.frozen? ⟨B, 3, none⟩ = false ∧ w.frozen? ⟨B, 4, none⟩ = false ∧ w.frozen? ⟨B, 5, none⟩ = false ∧ w.frozen? ⟨B, 6, none⟩ = false ∧ w.frozen? ⟨B, 7, none⟩ = false := by
  refine ⟨?_, ?_, ?_, ?_, ?_, ?_, ?_, ?_, ?_, ?_, ?_, ?_, ?_, ?_, ?_, ?_⟩ <;> simp [World.cell?, World.frozen?, h]
theorem grown_set1 (W : World) (B o : Nat) (v : Value) : W.grownBy (W.setCell ⟨B, o, none⟩ v) (some B) :=
  ⟨rfl, rfl, rfl, by simp, fun k hk hne => heap_setCell_other _ _ _ _ (fun e => hne (by rw [e]))⟩
theorem own_set8 {w : World} {base : Nat} {v : Value} {l : List (Int × Int)} (h : RgOwn w base v l) {B : Nat} (hB : B < base) (v0 v1 v2 v3 v4 v5 v6 v7 : Value) : RgOwn ((((((((w.setCell ⟨B, 0, none⟩ v0).setCell ⟨B, 1, none⟩ v1).setCell ⟨B, 2, none⟩ v2).setCell ⟨B, 3, none⟩ v3).setCell ⟨B, 4, none⟩ v4).setCell ⟨B, 5, none⟩ v5).setCell ⟨B, 6, none⟩ v6).setCell ⟨B, 7, none⟩ v7) base v l :=
  h.kept (row := some B) ((((((((grown_set1 w B 0 v0).trans (grown_set1 _ B 1 v1)).trans (grown_set1 _ B 2 v2)).trans (grown_set1 _ B 3 v3)).trans (grown_set1 _ B 4 v4)).trans (grown_set1 _ B 5 v5)).trans (grown_set1 _ B 6 v6)).trans (grown_set1 _ B 7 v7)) (by
    cases e : v.ownBlock with
    | none => exact .inl rfl
    | some g => exact .inr (fun e2 => by
        have a1 := (World.ownsRow.lt h g e).1
        injection e2 with e3
        omega))
abbrev zeroTk : Obj := .cells #[.int .i64 0, .int .i64 0, .int .i64 0, .string ⟨#[]⟩, .int .i64 0, .int .i64 0, .bool false, .slice none 0 0] 35
set_option maxRecDepth 100000 in
set_option maxHeartbeats 8000000 in
theorem escape_any (W : World) (s : ByteArray) (hs : s.size ≤ 100000) (h1 : 1 ≤ s.size) (hE : Ev W) : Calls Tryz.prog 51 #[.string s] W (TokPost (Lx.escX s) W) := by
  obtain ⟨X, hX⟩ : ∃ X, Lx.escX s = X := ⟨_, rfl⟩
  rw [hX]
  have HE := Lib.hid hE
  have h1i : (1 : Int) ≤ (s.size : Int) := by omega
  have HSH := Lib.hid (fun w => short_any w (s.extract 1 s.size) (by rw [ByteArray.size_extract]; omega))
  rw [tail_drop, List.getElem?_drop, Nat.add_zero] at HSH
  unfold Lx.escX at hX
  have HST := Lib.hid (fun w (hw : Ev w) => bSet_any w s hs hw)
  have hsc := Br.set_cases s
  have HNU := Lib.hid (fun w => bNumber_any w s (by omega))
  have hnc := Br.num_cases (Utf.nums s)
  obtain ⟨sh, hsh⟩ : ∃ x, Lx.shortX ((Utf.nums s)[1]?.getD 0) = x := ⟨_, rfl⟩
  rw [hsh] at hX HSH
  have HX := Lib.hid hX.symm
  clear hsh hX hE
  go_enter Tryz.func51, Tryz.ntmps51
  go_wp2_with fail
  refine (HSH.out _).mono ?_
  intro e w1 hp
  obtain ⟨hb1, hp⟩ := hp
  have HBX := Lib.hid (box_kept hb1)
  have HSZ := size_of_alloc hb1
  have HB1 := Lib.hid (below_of_alloc hb1)
  clear hb1
  rcases hp with ⟨hx, rfl⟩ | ⟨t, hx, hc, rfl⟩
  · subst hx
    unfold tkV
    have hX2 : X = Lx.setX s := HX.out
    unfold Lx.setX at hX2
    obtain ⟨⟨cl, n, c⟩, hq⟩ : ∃ p, Br.set s = p := ⟨_, rfl⟩
    rw [hq] at HST hX2 hsc
    dsimp only at hX2 hsc
    have HX2 := Lib.hid hX2
    clear hq hX2 HX
    go_wp2_with fail
    refine (HST.out _ (HE.out.below (Nat.le_refl _) (HB1.out.alloc (by omega) _))).mono ?_
    rintro e w2 ⟨v, out, rfl, hi, ho, hb2⟩
    have HBX2 := Lib.hid (box_on (box_on HBX.out (Nat.lt_of_lt_of_le HSZ (Nat.le_refl _)) ((Below.refl _ w1).alloc (Nat.le_refl _) _)) (by simp; omega) hb2)
    have HB2 := Lib.hid ((HB1.out.alloc (by omega) _).trans (hb2.mono (by simp; omega)))
    have HI := Lib.hid hi
    obtain ⟨va, vc, rfl⟩ := own_slice ho
    have HO := Lib.hid (ho.lower (base' := W.heap.size + 1) (by simp; omega))
    clear hi ho hb2
    by_cases k0 : c = 0
    · subst k0
      obtain ⟨m, rfl⟩ : ∃ m : Nat, n = m := ⟨n.toNat, by rcases hsc with ⟨_, _, h | h | h | h⟩ | ⟨x, _, _, h, _⟩ <;> omega⟩
      have hX3 := HX2.out
      rw [if_pos rfl, Int.toNat_natCast] at hX3
      have HX3 := Lib.hid hX3
      clear hX3 hsc hnc
      obtain ⟨d0, d1, d2, d3, d4, d5, d6, d7, g0, g1, g2, g3, g4, g5, g6, g7⟩ := box_facts HBX2.out
      go_wp2
      (try simp only [Exit.inBlock, Exit.then])
      refine ret_tk rfl W.heap.size _ rfl (set8_blk _ _ _ _ _ _ _ _ _ _ HBX2.out) rfl rfl ?_
      refine ⟨set8_below HB2.out _ (Nat.le_refl _) _ _ _ _ _ _ _ _, .inr ⟨_, m, _, out, HX3.out, rfl, HI.out, ?_⟩⟩
      exact (own_set8 HO.out (by omega) _ _ _ _ _ _ _ _).lower (by omega)
    · have k1 : (c == 0) = false := by simpa using k0
      have hX3 := HX2.out
      rw [if_neg k0] at hX3
      by_cases k5 : c = 5
      · subst k5
        rw [if_pos rfl] at hX3
        unfold Lx.numX at hX3
        obtain ⟨⟨r, n2, c2⟩, hp⟩ : ∃ p, Br.num (Utf.nums s) = p := ⟨_, rfl⟩
        rw [hp] at HNU hX3 hnc
        dsimp only at HNU hX3 hnc
        have HX3 := Lib.hid hX3
        clear hX3 hsc hp k0
        go_wp2_with fail
        refine (HNU.out _).mono ?_
        rintro e w3 ⟨rfl, rfl⟩
        obtain ⟨d0, d1, d2, d3, d4, d5, d6, d7, g0, g1, g2, g3, g4, g5, g6, g7⟩ := box_facts HBX2.out
        by_cases k2 : c2 = 0
        · subst k2
          obtain ⟨m, rfl⟩ : ∃ m : Nat, n2 = m := ⟨n2.toNat, by omega⟩
          have hX3 := HX3.out
          rw [if_pos rfl, Int.toNat_natCast] at hX3
          have HX4 := Lib.hid hX3
          clear hX3 hnc
          go_wp2
          (try simp only [Exit.inBlock, Exit.then])
          refine ret_tk rfl W.heap.size _ rfl (set8_blk _ _ _ _ _ _ _ _ _ _ HBX2.out) rfl rfl ?_
          exact tokPost_plain (set8_below HB2.out _ (Nat.le_refl _) _ _ _ _ _ _ _ _) HX4.out rfl rfl
        · have hX3 := HX3.out
          rw [if_neg k2] at hX3
          have HX4 := Lib.hid hX3
          obtain ⟨rfl, rfl⟩ : r = 0 ∧ n2 = 0 := by omega
          clear hX3 hnc k2
          go_wp2
          (try simp only [Exit.inBlock, Exit.then])
          refine ret_tk rfl W.heap.size _ rfl (set8_blk _ _ _ _ _ _ _ _ _ _ HBX2.out) rfl rfl ?_
          exact ⟨set8_below HB2.out _ (Nat.le_refl _) _ _ _ _ _ _ _ _, .inl ⟨1, _, _, HX4.out, rfl⟩⟩
      · rw [if_neg k5] at hX3
        have k6 : (c == 5) = false := by simpa using k5
        have HX4 := Lib.hid hX3
        obtain ⟨d0, d1, d2, d3, d4, d5, d6, d7, g0, g1, g2, g3, g4, g5, g6, g7⟩ := box_facts HBX2.out
        clear hX3 hnc hsc k5 k0
        go_wp2
        (try simp only [Exit.inBlock, Exit.then])
        refine ret_tk rfl W.heap.size _ rfl (set8_blk _ _ _ _ _ _ _ _ _ _ HBX2.out) rfl rfl ?_
        exact ⟨set8_below HB2.out _ (Nat.le_refl _) _ _ _ _ _ _ _ _, .inl ⟨0, _, _, HX4.out, rfl⟩⟩
  · subst hx
    unfold tkV
    have HX2 : Hid (X = .ok t 2) := Lib.hid HX.out
    have HC := Lib.hid hc
    obtain ⟨d0, d1, d2, d3, d4, d5, d6, d7, g0, g1, g2, g3, g4, g5, g6, g7⟩ := box_facts HBX.out
    clear hsc hnc hc HX
    go_wp2
    (try simp only [Exit.inBlock, Exit.then])
    refine ret_tk rfl W.heap.size _ rfl ((heap_alloc_old _ _ (by rw [set8_size]; exact HSZ)).trans (set8_blk _ _ _ _ _ _ _ _ _ _ HBX.out)) rfl rfl ?_
    exact tokPost_plain ((set8_below HB1.out _ (Nat.le_refl _) _ _ _ _ _ _ _ _).alloc (by rw [set8_size]; exact Nat.le_of_lt HSZ) _) HX2.out HC.out rfl
end Go.Proofs.YtecclhmjmceheaaGreatDoor
namespace Go.Proofs
open Go.Shelf
def Tryz.layIndexAny_ren : Go.Shelf.Ren := ⟨fun | 153 => 127 | 152 => 163 | 226 => 164 | 227 => 165 | 228 => 166 | 137 => 215 | 119 => 216 | 224 => 217 | 225 => 218 | 217 => 219 | 266 => 244 | n => n, fun | 9 => 9 | 3 => 3 | 4 => 4 | 5 => 5 | 21 => 21 | 117 => 180 | 116 => 179 | 0 => 0 | 46 => 53 | 124 => 184 | n => n, fun | n => n⟩
theorem Tryz.layIndexAny : Go.Proofs.Lays.n153 Tryz.prog Tryz.layIndexAny_ren := {
  mixed := by kernel_rfl
  f119 := Tryz.func216.trans (congrArg some (by kernel_rfl))
  f137 := Tryz.func215.trans (congrArg some (by kernel_rfl))
  f152 := Tryz.func163.trans (congrArg some (by kernel_rfl))
  f153 := Tryz.func127.trans (congrArg some (by kernel_rfl))
  f217 := Tryz.func219.trans (congrArg some (by kernel_rfl))
  f224 := Tryz.func217.trans (congrArg some (by kernel_rfl))
  f225 := Tryz.func218.trans (congrArg some (by kernel_rfl))
  f226 := Tryz.func164.trans (congrArg some (by kernel_rfl))
  f227 := Tryz.func165.trans (congrArg some (by kernel_rfl))
  f228 := Tryz.func166.trans (congrArg some (by kernel_rfl))
  f266 := Tryz.func244.trans (congrArg some (by kernel_rfl))
  t0 := Tryz.underlying0
  a0 := Tryz.isAgg0
  z0 := Tryz.sizeOf0
  v0 := Tryz.zeroValue0
  t3 := Tryz.underlying3
  a3 := Tryz.isAgg3
  z3 := Tryz.sizeOf3
  v3 := Tryz.zeroValue3
  t4 := Tryz.underlying4
  a4 := Tryz.isAgg4
  z4 := Tryz.sizeOf4
  v4 := Tryz.zeroValue4
  t5 := Tryz.underlying5
  a5 := Tryz.isAgg5
  z5 := Tryz.sizeOf5
  v5 := Tryz.zeroValue5
  t9 := Tryz.underlying9
  a9 := Tryz.isAgg9
  z9 := Tryz.sizeOf9
  v9 := Tryz.zeroValue9
  t21 := Tryz.underlying21
  a21 := Tryz.isAgg21
  z21 := Tryz.sizeOf21
  v21 := Tryz.zeroValue21
  t46 := Tryz.underlying53
  a46 := Tryz.isAgg53
  z46 := Tryz.sizeOf53
  v46 := Tryz.zeroValue53
  t116 := Tryz.underlying179
  a116 := Tryz.isAgg179
  z116 := Tryz.sizeOf179
  t117 := Tryz.underlying180
  a117 := Tryz.isAgg180
  z117 := Tryz.sizeOf180
  v117 := Tryz.zeroValue180
  t124 := Tryz.underlying184
  a124 := Tryz.isAgg184
  z124 := Tryz.sizeOf184
  v124 := Tryz.zeroValue184 }
def Tryz.layTrim_ren : Go.Shelf.Ren := ⟨fun | 160 => 130 | 232 => 170 | 231 => 169 | 227 => 165 | 234 => 172 | 233 => 171 | 236 => 174 | 235 => 173 | 228 => 166 | 271 => 223 | 151 => 222 | 197 => 221 | 120 => 247 | 152 => 163 | 260 => 246 | 137 => 215 | 119 => 216 | 224 => 217 | 225 => 218 | 217 => 219 | 266 => 244 | n => n, fun | 9 => 9 | 4 => 4 | 3 => 3 | 5 => 5 | 117 => 180 | 116 => 179 | 0 => 0 | 124 => 184 | 21 => 21 | 105 => 211 | 46 => 53 | 119 => 237 | 139 => 256 | 138 => 255 | n => n, fun | 3 => 4 | 4 => 5 | n => n⟩
theorem Tryz.layTrim : Go.Proofs.Lays.n160 Tryz.prog Tryz.layTrim_ren := {
  mixed := by kernel_rfl
  f119 := Tryz.func216.trans (congrArg some (by kernel_rfl))
  f120 := Tryz.func247.trans (congrArg some (by kernel_rfl))
  f137 := Tryz.func215.trans (congrArg some (by kernel_rfl))
  f151 := Tryz.func222.trans (congrArg some (by kernel_rfl))
  f152 := Tryz.func163.trans (congrArg some (by kernel_rfl))
  f160 := Tryz.func130.trans (congrArg some (by kernel_rfl))
  f197 := Tryz.func221.trans (congrArg some (by kernel_rfl))
  f217 := Tryz.func219.trans (congrArg some (by kernel_rfl))
  f224 := Tryz.func217.trans (congrArg some (by kernel_rfl))
  f225 := Tryz.func218.trans (congrArg some (by kernel_rfl))
  f227 := Tryz.func165.trans (congrArg some (by kernel_rfl))
  f228 := Tryz.func166.trans (congrArg some (by kernel_rfl))
  f231 := Tryz.func169.trans (congrArg some (by kernel_rfl))
  f232 := Tryz.func170.trans (congrArg some (by kernel_rfl))
  f233 := Tryz.func171.trans (congrArg some (by kernel_rfl))
  f234 := Tryz.func172.trans (congrArg some (by kernel_rfl))
  f235 := Tryz.func173.trans (congrArg some (by kernel_rfl))
  f236 := Tryz.func174.trans (congrArg some (by kernel_rfl))
  f260 := Tryz.func246.trans (congrArg some (by kernel_rfl))
  f266 := Tryz.func244.trans (congrArg some (by kernel_rfl))
  f271 := Tryz.func223.trans (congrArg some (by kernel_rfl))
  t0 := Tryz.underlying0
  a0 := Tryz.isAgg0
  z0 := Tryz.sizeOf0
  v0 := Tryz.zeroValue0
  t3 := Tryz.underlying3
  a3 := Tryz.isAgg3
  z3 := Tryz.sizeOf3
  v3 := Tryz.zeroValue3
  t4 := Tryz.underlying4
  a4 := Tryz.isAgg4
  z4 := Tryz.sizeOf4
  v4 := Tryz.zeroValue4
  t5 := Tryz.underlying5
  a5 := Tryz.isAgg5
  z5 := Tryz.sizeOf5
  v5 := Tryz.zeroValue5
  t9 := Tryz.underlying9
  a9 := Tryz.isAgg9
  z9 := Tryz.sizeOf9
  v9 := Tryz.zeroValue9
  t21 := Tryz.underlying21
  a21 := Tryz.isAgg21
  z21 := Tryz.sizeOf21
  v21 := Tryz.zeroValue21
  t46 := Tryz.underlying53
  a46 := Tryz.isAgg53
  z46 := Tryz.sizeOf53
  v46 := Tryz.zeroValue53
  t105 := Tryz.underlying211
  a105 := Tryz.isAgg211
  z105 := Tryz.sizeOf211
  v105 := Tryz.zeroValue211
  t116 := Tryz.underlying179
  a116 := Tryz.isAgg179
  z116 := Tryz.sizeOf179
  t117 := Tryz.underlying180
  a117 := Tryz.isAgg180
  z117 := Tryz.sizeOf180
  v117 := Tryz.zeroValue180
  t119 := Tryz.underlying237
  a119 := Tryz.isAgg237
  z119 := Tryz.sizeOf237
  t124 := Tryz.underlying184
  a124 := Tryz.isAgg184
  z124 := Tryz.sizeOf184
  v124 := Tryz.zeroValue184
  t138 := Tryz.underlying255
  a138 := Tryz.isAgg255
  z138 := Tryz.sizeOf255
  v138 := Tryz.zeroValue255
  t139 := Tryz.underlying256
  a139 := Tryz.isAgg256
  z139 := Tryz.sizeOf256
  v139 := Tryz.zeroValue256
  g3 := by kernel_rfl
  g4 := by kernel_rfl }
def Tryz.layAtoi_ren : Go.Shelf.Ren := ⟨fun | 172 => 131 | 244 => 175 | 245 => 176 | 247 => 224 | 279 => 225 | 280 => 226 | 281 => 227 | 282 => 228 | 287 => 248 | 316 => 249 | 171 => 251 | 205 => 250 | 321 => 280 | 322 => 281 | 243 => 282 | 246 => 292 | 283 => 297 | 284 => 298 | 285 => 299 | 286 => 300 | 129 => 269 | 317 => 301 | 318 => 302 | 319 => 303 | 320 => 304 | 337 => 305 | 338 => 306 | n => n, fun | 9 => 9 | 3 => 3 | 75 => 85 | 76 => 86 | 4 => 4 | 5 => 5 | 167 => 214 | 37 => 63 | 0 => 0 | 85 => 215 | 2 => 2 | 168 => 217 | 53 => 119 | 175 => 231 | 46 => 53 | 210 => 235 | 127 => 122 | 145 => 260 | 143 => 258 | 21 => 21 | 171 => 289 | 173 => 291 | 212 => 296 | 51 => 116 | 20 => 20 | 213 => 297 | 232 => 298 | 233 => 299 | 80 => 89 | n => n, fun | 15 => 1 | 16 => 2 | 17 => 7 | 18 => 8 | 19 => 9 | n => n⟩
theorem Tryz.layAtoi : Go.Proofs.Lays.n172 Tryz.prog Tryz.layAtoi_ren := {
  mixed := by kernel_rfl
  f129 := Tryz.func269.trans (congrArg some (by kernel_rfl))
  f171 := Tryz.func251.trans (congrArg some (by kernel_rfl))
  f172 := Tryz.func131.trans (congrArg some (by kernel_rfl))
  f205 := Tryz.func250.trans (congrArg some (by kernel_rfl))
  f243 := Tryz.func282.trans (congrArg some (by kernel_rfl))
  f244 := Tryz.func175.trans (congrArg some (by kernel_rfl))
  f245 := Tryz.func176.trans (congrArg some (by kernel_rfl))
  f246 := Tryz.func292.trans (congrArg some (by kernel_rfl))
  f247 := Tryz.func224.trans (congrArg some (by kernel_rfl))
  f279 := Tryz.func225.trans (congrArg some (by kernel_rfl))
  f280 := Tryz.func226.trans (congrArg some (by kernel_rfl))
  f281 := Tryz.func227.trans (congrArg some (by kernel_rfl))
  f282 := Tryz.func228.trans (congrArg some (by kernel_rfl))
  f283 := Tryz.func297.trans (congrArg some (by kernel_rfl))
  f284 := Tryz.func298.trans (congrArg some (by kernel_rfl))
  f285 := Tryz.func299.trans (congrArg some (by kernel_rfl))
  f286 := Tryz.func300.trans (congrArg some (by kernel_rfl))
  f287 := Tryz.func248.trans (congrArg some (by kernel_rfl))
  f316 := Tryz.func249.trans (congrArg some (by kernel_rfl))
  f317 := Tryz.func301.trans (congrArg some (by kernel_rfl))
  f318 := Tryz.func302.trans (congrArg some (by kernel_rfl))
  f319 := Tryz.func303.trans (congrArg some (by kernel_rfl))
  f320 := Tryz.func304.trans (congrArg some (by kernel_rfl))
  f321 := Tryz.func280.trans (congrArg some (by kernel_rfl))
  f322 := Tryz.func281.trans (congrArg some (by kernel_rfl))
  f337 := Tryz.func305.trans (congrArg some (by kernel_rfl))
  f338 := Tryz.func306.trans (congrArg some (by kernel_rfl))
  t0 := Tryz.underlying0
  a0 := Tryz.isAgg0
  z0 := Tryz.sizeOf0
  v0 := Tryz.zeroValue0
  t2 := Tryz.underlying2
  a2 := Tryz.isAgg2
  z2 := Tryz.sizeOf2
  v2 := Tryz.zeroValue2
  t3 := Tryz.underlying3
  a3 := Tryz.isAgg3
  z3 := Tryz.sizeOf3
  v3 := Tryz.zeroValue3
  t4 := Tryz.underlying4
  a4 := Tryz.isAgg4
  z4 := Tryz.sizeOf4
  v4 := Tryz.zeroValue4
  t5 := Tryz.underlying5
  a5 := Tryz.isAgg5
  z5 := Tryz.sizeOf5
  v5 := Tryz.zeroValue5
  t9 := Tryz.underlying9
  a9 := Tryz.isAgg9
  z9 := Tryz.sizeOf9
  v9 := Tryz.zeroValue9
  t20 := Tryz.underlying20
  a20 := Tryz.isAgg20
  z20 := Tryz.sizeOf20
  v20 := Tryz.zeroValue20
  t21 := Tryz.underlying21
  a21 := Tryz.isAgg21
  z21 := Tryz.sizeOf21
  v21 := Tryz.zeroValue21
  t37 := Tryz.underlying63
  a37 := Tryz.isAgg63
  z37 := Tryz.sizeOf63
  v37 := Tryz.zeroValue63
  t46 := Tryz.underlying53
  a46 := Tryz.isAgg53
  z46 := Tryz.sizeOf53
  v46 := Tryz.zeroValue53
  t51 := Tryz.underlying116
  a51 := Tryz.isAgg116
  z51 := Tryz.sizeOf116
  v51 := Tryz.zeroValue116
  t53 := Tryz.underlying119
  a53 := Tryz.isAgg119
  z53 := Tryz.sizeOf119
  v53 := Tryz.zeroValue119
  t75 := Tryz.underlying85
  a75 := Tryz.isAgg85
  z75 := Tryz.sizeOf85
  v75 := Tryz.zeroValue85
  t76 := Tryz.underlying86
  a76 := Tryz.isAgg86
  z76 := Tryz.sizeOf86
  v76 := Tryz.zeroValue86
  t85 := Tryz.underlying215
  a85 := Tryz.isAgg215
  z85 := Tryz.sizeOf215
  v85 := Tryz.zeroValue215
  t127 := Tryz.underlying122
  a127 := Tryz.isAgg122
  z127 := Tryz.sizeOf122
  v127 := Tryz.zeroValue122
  t143 := Tryz.underlying258
  a143 := Tryz.isAgg258
  z143 := Tryz.sizeOf258
  v143 := Tryz.zeroValue258
  t145 := Tryz.underlying260
  a145 := Tryz.isAgg260
  z145 := Tryz.sizeOf260
  v145 := Tryz.zeroValue260
  t167 := Tryz.underlying214
  a167 := Tryz.isAgg214
  z167 := Tryz.sizeOf214
  v167 := Tryz.zeroValue214
  t168 := Tryz.underlying217
  a168 := Tryz.isAgg217
  z168 := Tryz.sizeOf217
  v168 := Tryz.zeroValue217
  t171 := Tryz.underlying289
  a171 := Tryz.isAgg289
  z171 := Tryz.sizeOf289
  v171 := Tryz.zeroValue289
  t173 := Tryz.underlying291
  a173 := Tryz.isAgg291
  z173 := Tryz.sizeOf291
  v173 := Tryz.zeroValue291
  t175 := Tryz.underlying231
  a175 := Tryz.isAgg231
  z175 := Tryz.sizeOf231
  v175 := Tryz.zeroValue231
  t210 := Tryz.underlying235
  a210 := Tryz.isAgg235
  z210 := Tryz.sizeOf235
  v210 := Tryz.zeroValue235
  t212 := Tryz.underlying296
  a212 := Tryz.isAgg296
  z212 := Tryz.sizeOf296
  v212 := Tryz.zeroValue296
  t213 := Tryz.underlying297
  a213 := Tryz.isAgg297
  z213 := Tryz.sizeOf297
  t232 := Tryz.underlying298
  a232 := Tryz.isAgg298
  z232 := Tryz.sizeOf298
  v232 := Tryz.zeroValue298
  t233 := Tryz.underlying299
  a233 := Tryz.isAgg299
  z233 := Tryz.sizeOf299
  v233 := Tryz.zeroValue299
  g15 := by kernel_rfl
  g16 := by kernel_rfl
  g17 := by kernel_rfl
  g18 := by kernel_rfl
  g19 := by kernel_rfl }
def Tryz.layIdxByte_ren : Go.Shelf.Ren := ⟨fun | 137 => 215 | 217 => 219 | 266 => 244 | n => n, fun | 9 => 9 | 5 => 5 | 3 => 3 | n => n, fun | n => n⟩
theorem Tryz.layIdxByte : Go.Proofs.Lays.n137 Tryz.prog Tryz.layIdxByte_ren := {
  mixed := by kernel_rfl
  f137 := Tryz.func215.trans (congrArg some (by kernel_rfl))
  f217 := Tryz.func219.trans (congrArg some (by kernel_rfl))
  f266 := Tryz.func244.trans (congrArg some (by kernel_rfl))
  t3 := Tryz.underlying3
  a3 := Tryz.isAgg3
  z3 := Tryz.sizeOf3
  v3 := Tryz.zeroValue3
  t5 := Tryz.underlying5
  a5 := Tryz.isAgg5
  z5 := Tryz.sizeOf5
  v5 := Tryz.zeroValue5
  t9 := Tryz.underlying9
  a9 := Tryz.isAgg9
  z9 := Tryz.sizeOf9
  v9 := Tryz.zeroValue9 }
end Go.Proofs
