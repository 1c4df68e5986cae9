/- The landed show: node. -/
import Derived.Test.YtecmeeobabadeaaDoorGp10
import Derived.StillTailTactics
namespace Go.Proofs.YtecmeeobabadeaaDoor
open Go.RowKit
set_option linter.unusedVariables false
theorem noneL_nums (T T2 : ByteArray) (h1 : Utf.nums T = Br.esc 0) (h2 : Utf.nums T2 = Br.esc 1114111) : Utf.nums (((((⟨#[91, 94]⟩ : ByteArray) ++ T) ++ (⟨#[45]⟩ : ByteArray)) ++ T2) ++ (⟨#[93]⟩ : ByteArray)) = Sh.noneL := by
  rw [Br.nums_append', Br.nums_append', Br.nums_append', Br.nums_append', h1, h2]
  unfold Sh.noneL
  show ((([91, 94] ++ Br.esc 0) ++ [45]) ++ Br.esc 1114111) ++ [93] = _
  simp
set_option maxRecDepth 100000 in
set_option maxHeartbeats 4000000 in
theorem node_1 (k : Nat) (hOK : ShOK k) (W0 W : World) (B : Nat) (O : List Int) (n : Nd) (cs : List Value) (hk : Td.kind n = 1) (hf : FitS (k + 1) n) (hp : PrOk W B O) (hl : O.length ≤ 4096) (hE : PrEv W0 B W) (hn : NdOn (fun b => b < B) W n cs) :
    Calls Tryd.prog 18 #[.pointer (some ⟨B, 0, none⟩), .agg cs.toArray] W (PrQ W B O (Sh.shL (k + 1) n)) := by
  obtain ⟨vs, a, cap, rfl, hset, hsub⟩ := hn.open
  obtain ⟨hfn, hfs⟩ := hf
  obtain ⟨sa, sc, rfl, _⟩ := id hset.1
  have hBlt := hp.lt
  rw [hk]
  obtain ⟨wb, hwb⟩ : ∃ wb, W.alloc (.cells #[.int .i64 1, .slice sa (Td.set n).length sc, .int .i64 (Td.num n), .string (Td.name n), .int .i64 (Td.mn n), .int .i64 (Td.mx n), .bool (Td.lazy n), .slice a (Td.subs n).length cap] 25) = wb := ⟨_, rfl⟩
  have hbb : Below W.heap.size W wb := by rw [← hwb]; exact (Below.refl _ _).alloc (Nat.le_refl _) _
  have hbx : wb.heap[W.heap.size]? = some (.cells #[.int .i64 1, .slice sa (Td.set n).length sc, .int .i64 (Td.num n), .string (Td.name n), .int .i64 (Td.mn n), .int .i64 (Td.mx n), .bool (Td.lazy n), .slice a (Td.subs n).length cap] 25 (0, 0)) := by rw [← hwb]; exact heap_alloc_new _ _
  obtain ⟨pb, kb⟩ := hp.kpb hbb
  have HKB := Lib.hid kb
  have HPB := Lib.hid pb
  have HWB := Lib.hid hwb
  have HBX := Lib.hid hbx
  have HEB := Lib.hid (hE.kp (by omega) kb)
  have HEV := Lib.hid hE
  have hsb := kb.size
  obtain ⟨d0, d1, d2, d3, d4, d5, d6, d7⟩ := box_cells hbx
  have HL : Hid (Sh.shL (k + 1) n = [40, 63, 58, 41]) := Lib.hid (by rw [Sh.shL, hk]; simp)
  rw [HL.out]
  have HW : Hid (Calls Tryd.prog 32 #[.pointer (some ⟨B, 0, none⟩), .string ⟨#[40, 63, 58, 41]⟩] wb (PrQ wb B O [40, 63, 58, 41])) := Lib.hid (write_any wb B O ⟨#[40, 63, 58, 41]⟩ pb hl (by decide))
  clear hbb hbx pb kb hwb hE hp hset
  go_enter Tryd.func18, Tryd.ntmps18
  go_wp2_with fail
  rw [HWB.out]
  refine HW.out.mono ?_
  rintro e w2 h2
  have HQ := Lib.hid (PrQ.from HKB.out h2)
  rcases h2 with ⟨_, ⟨_, rfl, _⟩ | ⟨_, O', _, _, rfl, _⟩⟩
  · go_wp2
    refine ⟨rfl, .tuple #[], by simp [results, Tryd.f18, go_sem], ?_⟩
    exact HQ.out
  · exact ⟨rfl, HQ.out⟩
set_option maxRecDepth 100000 in
set_option maxHeartbeats 4000000 in
theorem node_4 (k : Nat) (hOK : ShOK k) (W0 W : World) (B : Nat) (O : List Int) (n : Nd) (cs : List Value) (hk : Td.kind n = 4) (hf : FitS (k + 1) n) (hp : PrOk W B O) (hl : O.length ≤ 4096) (hE : PrEv W0 B W) (hn : NdOn (fun b => b < B) W n cs) :
    Calls Tryd.prog 18 #[.pointer (some ⟨B, 0, none⟩), .agg cs.toArray] W (PrQ W B O (Sh.shL (k + 1) n)) := by
  obtain ⟨vs, a, cap, rfl, hset, hsub⟩ := hn.open
  obtain ⟨hfn, hfs⟩ := hf
  obtain ⟨sa, sc, rfl, _⟩ := id hset.1
  have hBlt := hp.lt
  rw [hk]
  obtain ⟨wb, hwb⟩ : ∃ wb, W.alloc (.cells #[.int .i64 4, .slice sa (Td.set n).length sc, .int .i64 (Td.num n), .string (Td.name n), .int .i64 (Td.mn n), .int .i64 (Td.mx n), .bool (Td.lazy n), .slice a (Td.subs n).length cap] 25) = wb := ⟨_, rfl⟩
  have hbb : Below W.heap.size W wb := by rw [← hwb]; exact (Below.refl _ _).alloc (Nat.le_refl _) _
  have hbx : wb.heap[W.heap.size]? = some (.cells #[.int .i64 4, .slice sa (Td.set n).length sc, .int .i64 (Td.num n), .string (Td.name n), .int .i64 (Td.mn n), .int .i64 (Td.mx n), .bool (Td.lazy n), .slice a (Td.subs n).length cap] 25 (0, 0)) := by rw [← hwb]; exact heap_alloc_new _ _
  obtain ⟨pb, kb⟩ := hp.kpb hbb
  have HKB := Lib.hid kb
  have HPB := Lib.hid pb
  have HWB := Lib.hid hwb
  have HBX := Lib.hid hbx
  have HEB := Lib.hid (hE.kp (by omega) kb)
  have HEV := Lib.hid hE
  have hsb := kb.size
  obtain ⟨d0, d1, d2, d3, d4, d5, d6, d7⟩ := box_cells hbx
  have HL : Hid (Sh.shL (k + 1) n = [92, 67]) := Lib.hid (by rw [Sh.shL, hk]; simp)
  rw [HL.out]
  have HW : Hid (Calls Tryd.prog 32 #[.pointer (some ⟨B, 0, none⟩), .string ⟨#[92, 67]⟩] wb (PrQ wb B O [92, 67])) := Lib.hid (write_any wb B O ⟨#[92, 67]⟩ pb hl (by decide))
  clear hbb hbx pb kb hwb hE hp hset
  go_enter Tryd.func18, Tryd.ntmps18
  go_wp2_with fail
  rw [HWB.out]
  refine HW.out.mono ?_
  rintro e w2 h2
  have HQ := Lib.hid (PrQ.from HKB.out h2)
  rcases h2 with ⟨_, ⟨_, rfl, _⟩ | ⟨_, O', _, _, rfl, _⟩⟩
  · go_wp2
    refine ⟨rfl, .tuple #[], by simp [results, Tryd.f18, go_sem], ?_⟩
    exact HQ.out
  · exact ⟨rfl, HQ.out⟩
set_option maxRecDepth 100000 in
set_option maxHeartbeats 4000000 in
theorem node_2 (k : Nat) (hOK : ShOK k) (W0 W : World) (B : Nat) (O : List Int) (n : Nd) (cs : List Value) (hk : Td.kind n = 2) (hf : FitS (k + 1) n) (hp : PrOk W B O) (hl : O.length ≤ 4096) (hE : PrEv W0 B W) (hn : NdOn (fun b => b < B) W n cs) :
    Calls Tryd.prog 18 #[.pointer (some ⟨B, 0, none⟩), .agg cs.toArray] W (PrQ W B O (Sh.shL (k + 1) n)) := by
  obtain ⟨vs, a, cap, rfl, hset, hsub⟩ := hn.open
  obtain ⟨hfn, hfs⟩ := hf
  obtain ⟨sa, sc, rfl, _⟩ := id hset.1
  have hBlt := hp.lt
  rw [hk]
  obtain ⟨wb, hwb⟩ : ∃ wb, W.alloc (.cells #[.int .i64 2, .slice sa (Td.set n).length sc, .int .i64 (Td.num n), .string (Td.name n), .int .i64 (Td.mn n), .int .i64 (Td.mx n), .bool (Td.lazy n), .slice a (Td.subs n).length cap] 25) = wb := ⟨_, rfl⟩
  have hbb : Below W.heap.size W wb := by rw [← hwb]; exact (Below.refl _ _).alloc (Nat.le_refl _) _
  have hbx : wb.heap[W.heap.size]? = some (.cells #[.int .i64 2, .slice sa (Td.set n).length sc, .int .i64 (Td.num n), .string (Td.name n), .int .i64 (Td.mn n), .int .i64 (Td.mx n), .bool (Td.lazy n), .slice a (Td.subs n).length cap] 25 (0, 0)) := by rw [← hwb]; exact heap_alloc_new _ _
  obtain ⟨pb, kb⟩ := hp.kpb hbb
  have HKB := Lib.hid kb
  have HPB := Lib.hid pb
  have HWB := Lib.hid hwb
  have HBX := Lib.hid hbx
  have HEB := Lib.hid (hE.kp (by omega) kb)
  have HEV := Lib.hid hE
  have hsb := kb.size
  obtain ⟨d0, d1, d2, d3, d4, d5, d6, d7⟩ := box_cells hbx
  have HL : Hid (Sh.shL (k + 1) n = Sh.noneL) := Lib.hid (by rw [Sh.shL, hk]; simp)
  rw [HL.out]
  have HES := Lib.hid (fun (w0 : World) (r : Nat) (hr : r ≤ 1114111) (he : EvS w0) => escape_show w0 r hr he.tz)
  clear hbb hbx pb kb hwb hE hp hset
  go_enter Tryd.func18, Tryd.ntmps18
  go_wp2_with fail
  rw [HWB.out]
  refine (HES.out wb 0 (by decide) HEB.out.now).mono ?_
  rintro e w2 ⟨T, rfl, hT, hb⟩
  obtain ⟨p2, k2⟩ := HPB.out.kpb hb
  have HK2 := Lib.hid (HKB.out.trans k2)
  have HE2 := Lib.hid (HEB.out.kp (by omega) k2)
  have HP2 := Lib.hid p2
  have hz1 : T.size ≤ 10 := by rw [← Utf.nums_length, hT, Br.esc_len]; have := (Br.hexL6 (n := 0) (by decide)).2; omega
  have HT := Lib.hid hT
  have hs2 := k2.size
  have hA : ((⟨#[91, 94]⟩ : ByteArray) ++ T).size = 2 + T.size := ByteArray.size_append ..
  have hB2 : (((⟨#[91, 94]⟩ : ByteArray) ++ T) ++ (⟨#[45]⟩ : ByteArray)).size = 2 + T.size + 1 := by rw [ByteArray.size_append, hA]; rfl
  have n1 : ¬ 9223372036854775807 < 2 + T.size := by omega
  have n2 : ¬ 9223372036854775807 < 2 + T.size + 1 := by omega
  have n3 : ¬ 9223372036854775807 < ((⟨#[91, 94]⟩ : ByteArray) ++ T).size + 1 := by omega
  clear hT hb p2 k2 d0 d1 d2 d3 d4 d5 d6 d7
  go_wp2_with fail
  refine (HES.out w2 1114111 (by decide) HE2.out.now).mono ?_
  rintro e w3 ⟨T2, rfl, hT2, hb3⟩
  obtain ⟨p3, k3⟩ := HP2.out.kpb hb3
  have HK3 := Lib.hid (HK2.out.trans k3)
  have hz2 : T2.size ≤ 10 := by rw [← Utf.nums_length, hT2, Br.esc_len]; have := (Br.hexL6 (n := 1114111) (by decide)).2; omega
  have hC : ((((⟨#[91, 94]⟩ : ByteArray) ++ T) ++ (⟨#[45]⟩ : ByteArray)) ++ T2).size = 2 + T.size + 1 + T2.size := by rw [ByteArray.size_append, hB2]
  have n4 : ¬ 9223372036854775807 < 2 + T.size + 1 + T2.size := by omega
  have n5 : ¬ 9223372036854775807 < 2 + T.size + 1 + T2.size + 1 := by omega
  have n6 : ¬ 9223372036854775807 < (((⟨#[91, 94]⟩ : ByteArray) ++ T) ++ (⟨#[45]⟩ : ByteArray)).size + T2.size := by omega
  have n7 : ¬ 9223372036854775807 < ((((⟨#[91, 94]⟩ : ByteArray) ++ T) ++ (⟨#[45]⟩ : ByteArray)) ++ T2).size + 1 := by omega
  have HW := Lib.hid (write_any w3 B O (((((⟨#[91, 94]⟩ : ByteArray) ++ T) ++ (⟨#[45]⟩ : ByteArray)) ++ T2) ++ (⟨#[93]⟩ : ByteArray)) p3 hl (by rw [ByteArray.size_append, hC]; show _ + 1 ≤ _; omega))
  rw [noneL_nums T T2 HT.out hT2] at HW
  clear hT2 hb3 p3 k3
  go_wp2_with fail
  refine HW.out.mono ?_
  rintro e w4 h4
  have HQ := Lib.hid (PrQ.from HK3.out h4)
  rcases h4 with ⟨_, ⟨_, rfl, _⟩ | ⟨_, O', _, _, rfl, _⟩⟩
  · go_wp2
    refine ⟨rfl, .tuple #[], by simp [results, Tryd.f18, go_sem], ?_⟩
    exact HQ.out
  · exact ⟨rfl, HQ.out⟩
set_option maxRecDepth 100000 in
set_option maxHeartbeats 4000000 in
theorem node_3 (k : Nat) (hOK : ShOK k) (W0 W : World) (B : Nat) (O : List Int) (n : Nd) (cs : List Value) (hk : Td.kind n = 3) (hf : FitS (k + 1) n) (hp : PrOk W B O) (hl : O.length ≤ 4096) (hE : PrEv W0 B W) (hn : NdOn (fun b => b < B) W n cs) :
    Calls Tryd.prog 18 #[.pointer (some ⟨B, 0, none⟩), .agg cs.toArray] W (PrQ W B O (Sh.shL (k + 1) n)) := by
  obtain ⟨vs, a, cap, rfl, hset, hsub⟩ := hn.open
  obtain ⟨hfn, hfs⟩ := hf
  obtain ⟨sa, sc, rfl, _⟩ := id hset.1
  have hBlt := hp.lt
  rw [hk]
  obtain ⟨wb, hwb⟩ : ∃ wb, W.alloc (.cells #[.int .i64 3, .slice sa (Td.set n).length sc, .int .i64 (Td.num n), .string (Td.name n), .int .i64 (Td.mn n), .int .i64 (Td.mx n), .bool (Td.lazy n), .slice a (Td.subs n).length cap] 25) = wb := ⟨_, rfl⟩
  have hbb : Below W.heap.size W wb := by rw [← hwb]; exact (Below.refl _ _).alloc (Nat.le_refl _) _
  have hbx : wb.heap[W.heap.size]? = some (.cells #[.int .i64 3, .slice sa (Td.set n).length sc, .int .i64 (Td.num n), .string (Td.name n), .int .i64 (Td.mn n), .int .i64 (Td.mx n), .bool (Td.lazy n), .slice a (Td.subs n).length cap] 25 (0, 0)) := by rw [← hwb]; exact heap_alloc_new _ _
  obtain ⟨pb, kb⟩ := hp.kpb hbb
  have HKB := Lib.hid kb
  have HPB := Lib.hid pb
  have HWB := Lib.hid hwb
  have HBX := Lib.hid hbx
  have HEB := Lib.hid (hE.kp (by omega) kb)
  have HEV := Lib.hid hE
  have hsb := kb.size
  obtain ⟨d0, d1, d2, d3, d4, d5, d6, d7⟩ := box_cells hbx
  have HL : Hid (Sh.shL (k + 1) n = Sh.setL (Td.set n)) := Lib.hid (by rw [Sh.shL, hk]; simp)
  rw [HL.out]
  have HW := Lib.hid (set_show W0 wb B O _ (Td.set n) pb hl (hE.kp (by omega) kb) ⟨hset.kept kb.size (fun b hb hlt => kb.block b hlt (.inl hb)), (hfn.set hk).2⟩ (hfn.set hk).1)
  clear hbb hbx pb kb hwb hE hp hset
  go_enter Tryd.func18, Tryd.ntmps18
  go_wp2_with fail
  rw [HWB.out]
  refine HW.out.mono ?_
  rintro e w2 h2
  have HQ := Lib.hid (PrQ.from HKB.out h2)
  rcases h2 with ⟨_, ⟨_, rfl, _⟩ | ⟨_, O', _, _, rfl, _⟩⟩
  · go_wp2
    refine ⟨rfl, .tuple #[], by simp [results, Tryd.f18, go_sem], ?_⟩
    exact HQ.out
  · exact ⟨rfl, HQ.out⟩
set_option maxRecDepth 100000 in
set_option maxHeartbeats 4000000 in
theorem node_5 (k : Nat) (hOK : ShOK k) (W0 W : World) (B : Nat) (O : List Int) (n : Nd) (cs : List Value) (hk : Td.kind n = 5) (hf : FitS (k + 1) n) (hp : PrOk W B O) (hl : O.length ≤ 4096) (hE : PrEv W0 B W) (hn : NdOn (fun b => b < B) W n cs) :
    Calls Tryd.prog 18 #[.pointer (some ⟨B, 0, none⟩), .agg cs.toArray] W (PrQ W B O (Sh.shL (k + 1) n)) := by
  obtain ⟨vs, a, cap, rfl, hset, hsub⟩ := hn.open
  obtain ⟨hfn, hfs⟩ := hf
  obtain ⟨sa, sc, rfl, _⟩ := id hset.1
  have hBlt := hp.lt
  rw [hk]
  obtain ⟨wb, hwb⟩ : ∃ wb, W.alloc (.cells #[.int .i64 5, .slice sa (Td.set n).length sc, .int .i64 (Td.num n), .string (Td.name n), .int .i64 (Td.mn n), .int .i64 (Td.mx n), .bool (Td.lazy n), .slice a (Td.subs n).length cap] 25) = wb := ⟨_, rfl⟩
  have hbb : Below W.heap.size W wb := by rw [← hwb]; exact (Below.refl _ _).alloc (Nat.le_refl _) _
  have hbx : wb.heap[W.heap.size]? = some (.cells #[.int .i64 5, .slice sa (Td.set n).length sc, .int .i64 (Td.num n), .string (Td.name n), .int .i64 (Td.mn n), .int .i64 (Td.mx n), .bool (Td.lazy n), .slice a (Td.subs n).length cap] 25 (0, 0)) := by rw [← hwb]; exact heap_alloc_new _ _
  obtain ⟨pb, kb⟩ := hp.kpb hbb
  have HKB := Lib.hid kb
  have HPB := Lib.hid pb
  have HWB := Lib.hid hwb
  have HBX := Lib.hid hbx
  have HEB := Lib.hid (hE.kp (by omega) kb)
  have HEV := Lib.hid hE
  have hsb := kb.size
  obtain ⟨d0, d1, d2, d3, d4, d5, d6, d7⟩ := box_cells hbx
  have HL : Hid (Sh.shL (k + 1) n = Sh.aboutL (Td.num n)) := Lib.hid (by rw [Sh.shL, hk]; simp)
  rw [HL.out]
  have HW := Lib.hid (assertion_show wb (Td.num n) (hfn.about hk))
  clear hbb hbx pb kb hwb hE hp hset
  go_enter Tryd.func18, Tryd.ntmps18
  go_wp2_with fail
  rw [HWB.out]
  refine HW.out.mono ?_
  rintro e w2 ⟨T, rfl, hT, hz, rfl⟩
  have HWR := Lib.hid (write_any wb B O T HPB.out hl (by omega))
  rw [hT] at HWR
  clear hT
  go_wp2_with fail
  refine HWR.out.mono ?_
  rintro e w3 h3
  have HQ := Lib.hid (PrQ.from HKB.out h3)
  rcases h3 with ⟨_, ⟨_, rfl, _⟩ | ⟨_, O', _, _, rfl, _⟩⟩
  · go_wp2
    refine ⟨rfl, .tuple #[], by simp [results, Tryd.f18, go_sem], ?_⟩
    exact HQ.out
  · exact ⟨rfl, HQ.out⟩
end Go.Proofs.YtecmeeobabadeaaDoor
