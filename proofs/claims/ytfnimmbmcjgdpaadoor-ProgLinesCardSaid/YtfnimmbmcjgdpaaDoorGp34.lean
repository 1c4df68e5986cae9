/- burinlaw14.ProgLines: the walk. -/
import Derived.Test.YtfnimmbmcjgdpaaDoorGp32
import Derived.Test.YtfnimmbmcjgdpaaDoorGp33
namespace Go.Proofs.YtfnimmbmcjgdpaaDoor
open Go.RowKit
set_option linter.unusedVariables false
namespace Pgm
/-- What both Reads hand back, spelled alike. -/
structure RdAs (S : List UInt8) (l : List In) (a1 a2 c : Int) : Prop where
  yes : ∀ W e w', ReadPost S W e w' → ∃ v, e = .returned (.tuple #[.agg #[v, .int .i64 a1, .int .i64 a2], .int .i64 c]) ∧ InOwn w' W.heap.size v l ∧ Below W.heap.size W w'
  bd : ∀ i ∈ l, i.bd
  len : l.length ≤ 4000
theorem rd_as (S : List UInt8) : ∃ l a1 a2 c, RdAs S l a1 a2 c := by
  cases hd : readL S with
  | none =>
    refine ⟨[], 0, 0, 130, ⟨fun W e w' ⟨h, hb⟩ => ?_, fun i hi => (by cases hi), by simp⟩⟩
    rw [hd] at h
    rcases h with ⟨v, l3, st3, sl3, h1, h2, h3⟩ | ⟨_, h2⟩
    · cases h1
    · exact ⟨_, h2, InOwn.nil _ _, hb⟩
  | some p =>
    obtain ⟨l, st, sl⟩ := p
    have hok := (read_some hd).1
    refine ⟨l, st, sl, 0, ⟨fun W e w' ⟨h, hb⟩ => ?_, fun i hi => ?_, hok.2.1⟩⟩
    · rw [hd] at h
      rcases h with ⟨v, l3, st3, sl3, h1, h2, h3⟩ | ⟨h1, _⟩
      · injection h1 with h1; injection h1 with h1 h4; injection h4 with h4 h5
        subst h1; subst h4; subst h5
        exact ⟨v, h2, h3, hb⟩
      · cases h1
    · have hf := ok_fit hok i hi
      unfold Fit at hf
      exact ⟨⟨by omega, by omega⟩, ⟨by omega, by omega⟩, ⟨by omega, by omega⟩, ⟨by omega, by omega⟩, ⟨by omega, by omega⟩⟩
set_option maxRecDepth 100000 in
set_option maxHeartbeats 16000000 in
theorem walkProgLines (W : World) (u : Value) (l : List In) (st sl : Int) (s : ByteArray) (hr : InRow W u l) (hst : I64 st) (hsl : I64 sl) (hs : s.size ≤ 140737488351232) (hE : EvP W) :
    Calls Tryd.prog 5 #[.agg #[u, .int .i64 st, .int .i64 sl], .string s] W fun e w' => e = .returned (.bool true) ∧ Below W.heap.size W w' := by
  obtain ⟨A1, k1, e1, hl⟩ := (show ∃ A k, u = .slice A l.length k ∧ l.length ≤ 3518437208883 from by obtain ⟨A, k, e, hl, _⟩ := hr; exact ⟨A, k, e, hl⟩)
  obtain ⟨n, hn⟩ : ∃ n, l.length = n := ⟨_, rfl⟩
  rw [hn] at e1 hl
  subst e1
  obtain ⟨w0, hw0⟩ : ∃ w0, W.alloc (.cells #[.slice A1 n k1, .int .i64 st, .int .i64 sl] 46) = w0 := ⟨_, rfl⟩
  have hb0 : Below W.heap.size W w0 := by rw [← hw0]; exact (Below.refl _ _).alloc (Nat.le_refl _) _
  have hx0 : w0.heap[W.heap.size]? = some (.cells #[.slice A1 n k1, .int .i64 st, .int .i64 sl] 46 (0, 0)) := by rw [← hw0]; exact heap_alloc_new W _
  have HW0 := Lib.hid hw0
  have HB0 := Lib.hid hb0
  have HX0 := Lib.hid hx0
  have HE := Lib.hid hE
  have HWK := Lib.hid (fun w he => works14_any w he)
  have HEP : Hid (∀ w, Below W.heap.size W w → Calls Tryd.prog 19 #[.agg #[.slice A1 n k1, .int .i64 st, .int .i64 sl]] w fun e w' => e = .returned (.tuple #[.string (shS l st sl), .int .i64 (chk l st sl)]) ∧ Below w.heap.size w w') := Lib.hid (fun w h => show14 l st sl _ w (hr.below (Nat.le_refl _) h) (hE.below h))
  have HER : Hid (∀ w, Below W.heap.size W w → Calls Tryd.prog 20 #[.agg #[.slice A1 n k1, .int .i64 st, .int .i64 sl]] w fun e w' => e = .returned (.tuple #[.string (shS l st sl), .int .i64 (chk l st sl)]) ∧ Below w.heap.size w w') := Lib.hid (fun w h => refShow14_any l st sl _ w (hr.below (Nat.le_refl _) h))
  obtain ⟨T, hT⟩ : ∃ T, shS l st sl = T := ⟨_, rfl⟩
  obtain ⟨ck, hck⟩ : ∃ ck, chk l st sl = ck := ⟨_, rfl⟩
  rw [hT, hck] at HEP HER
  have htt : (T.toList == T.toList) = true := by simp
  have hkk : (ck == ck) = true := by simp
  have c0 : w0.cell? ⟨W.heap.size, 0, none⟩ = some (.slice A1 n k1) := blkp hx0 0
  have c1 : w0.cell? ⟨W.heap.size, 1, none⟩ = some (.int .i64 st) := blkp hx0 1
  have c2 : w0.cell? ⟨W.heap.size, 2, none⟩ = some (.int .i64 sl) := blkp hx0 2
  clear hb0 hx0 hw0 hE hr hst hsl hn hT hck
  have n0 : (0 : Int) ≤ (n : Int) := by omega
  by_cases hn100 : (100 : Int) < (n : Int)
  · clear hs
    go_enter Tryd.func5, Tryd.ntmps5
    go_wp2_with (rw [HW0.out])
    refine (HWK.out w0 (HE.out.below HB0.out)).mono ?_
    rintro e w1 ⟨rfl, hb1⟩
    have HB1 := Lib.hid (HB0.out.trans (hb1.mono HB0.out.size))
    clear hb1
    go_wp2
    go_ret
    exact ⟨rfl, HB1.out⟩
  by_cases hs3 : (3000 : Int) < (s.size : Int)
  · clear hs
    go_enter Tryd.func5, Tryd.ntmps5
    go_wp2_with (rw [HW0.out])
    refine (HWK.out w0 (HE.out.below HB0.out)).mono ?_
    rintro e w1 ⟨rfl, hb1⟩
    have HB1 := Lib.hid (HB0.out.trans (hb1.mono HB0.out.size))
    clear hb1
    go_wp2
    go_ret
    exact ⟨rfl, HB1.out⟩
  have hs1000 : s.size ≤ 3000 := by omega
  have HD1 := Lib.hid (fun w he => read14 w s (by omega) he)
  have HD2 := Lib.hid (fun w => refRd_any w s (by omega))
  obtain ⟨l2, b1, b2, c, hda⟩ := rd_as s.data.toList
  have HDA := Lib.hid hda
  have hcc : (c == c) = true := by simp
  clear hs hda hs1000
  go_enter Tryd.func5, Tryd.ntmps5
  go_wp2_with (rw [HW0.out])
  refine (HEP.out w0 HB0.out).mono ?_
  rintro e w1 ⟨rfl, hb1⟩
  have HB1 := Lib.hid (HB0.out.trans (hb1.mono HB0.out.size))
  have hx1 := (hb1.block _ (Array.getElem?_eq_some_iff.1 HX0.out).1).trans HX0.out
  have p0 : w1.cell? ⟨W.heap.size, 0, none⟩ = some (.slice A1 n k1) := blkp hx1 0
  have p1 : w1.cell? ⟨W.heap.size, 1, none⟩ = some (.int .i64 st) := blkp hx1 1
  have p2 : w1.cell? ⟨W.heap.size, 2, none⟩ = some (.int .i64 sl) := blkp hx1 2
  clear hb1 hx1 c0 c1 c2
  go_wp2_with fail
  refine (HER.out w1 HB1.out).mono ?_
  rintro e w2 ⟨rfl, hb2⟩
  have HB2 := Lib.hid (HB1.out.trans (hb2.mono HB1.out.size))
  clear hb2 p0 p1 p2
  go_wp2_with fail
  refine (HD1.out w2 (HE.out.below HB2.out)).mono ?_
  intro e w3 hpost
  obtain ⟨v3, rfl, ho3, hb3⟩ := HDA.out.yes _ _ _ hpost
  obtain ⟨a3, c3, e3⟩ := ho3.slice
  obtain ⟨L3, hL3⟩ : ∃ L3, l2.length = L3 := ⟨_, rfl⟩
  rw [hL3] at e3
  subst e3
  have HB3 := Lib.hid (HB2.out.trans (hb3.mono HB2.out.size))
  obtain ⟨w4, hw4⟩ : ∃ w4, w3.alloc (.cells #[.slice a3 L3 c3, .int .i64 b1, .int .i64 b2] 46) = w4 := ⟨_, rfl⟩
  have hb4 : Below w3.heap.size w3 w4 := by rw [← hw4]; exact (Below.refl _ _).alloc (Nat.le_refl _) _
  have hy4 : w4.heap[w3.heap.size]? = some (.cells #[.slice a3 L3 c3, .int .i64 b1, .int .i64 b2] 46 (0, 0)) := by rw [← hw4]; exact heap_alloc_new w3 _
  have HO4 := Lib.hid (ho3.below hb4 (Nat.le_refl _))
  have HB4 := Lib.hid (HB3.out.trans (hb4.mono HB3.out.size))
  have HY4 := Lib.hid hy4
  have HW4 := Lib.hid hw4
  clear hpost ho3 hb3 hb4 hy4 hw4
  go_wp2_with fail
  rw [HW4.out]
  refine (HD2.out w4).mono ?_
  intro e w5 hpost
  obtain ⟨v5, rfl, ho5, hb5⟩ := HDA.out.yes _ _ _ hpost
  obtain ⟨a5, c5, e5⟩ := ho5.slice
  rw [hL3] at e5
  subst e5
  have HB5 := Lib.hid (HB4.out.trans (hb5.mono HB4.out.size))
  have HO5 := Lib.hid (HO4.out.below hb5 (Nat.le_refl _))
  have hy5 := (hb5.block _ (Array.getElem?_eq_some_iff.1 HY4.out).1).trans HY4.out
  have q0 : w5.cell? ⟨w3.heap.size, 0, none⟩ = some (.slice a3 L3 c3) := blkp hy5 0
  have q1 : w5.cell? ⟨w3.heap.size, 1, none⟩ = some (.int .i64 b1) := blkp hy5 1
  have q2 : w5.cell? ⟨w3.heap.size, 2, none⟩ = some (.int .i64 b2) := blkp hy5 2
  have hly := (Array.getElem?_eq_some_iff.1 hy5).1
  obtain ⟨w6, hw6⟩ : ∃ w6, w5.alloc (.cells #[.slice a5 L3 c5, .int .i64 b1, .int .i64 b2] 46) = w6 := ⟨_, rfl⟩
  have hb6 : Below w5.heap.size w5 w6 := by rw [← hw6]; exact (Below.refl _ _).alloc (Nat.le_refl _) _
  have HB6 := Lib.hid (HB5.out.trans (hb6.mono HB5.out.size))
  have HO6 := Lib.hid (HO5.out.below hb6 (Nat.le_refl _))
  have hz6 := ho5.below hb6 (Nat.le_refl _)
  have HSP := Lib.hid (sameProg_any w6 _ _ l2 l2 b1 b2 b1 b2 (HO6.out.row (by have := HDA.out.len; omega) HDA.out.bd) (hz6.row (by have := HDA.out.len; omega) HDA.out.bd))
  rw [decide_eq_true (show b1 = b1 ∧ b2 = b2 ∧ l2 = l2 from ⟨rfl, rfl, rfl⟩)] at HSP
  have HY6 := Lib.hid ((hb6.block _ hly).trans hy5)
  have HW6 := Lib.hid hw6
  clear hpost ho5 hb5 hb6 hw6 hz6 hL3 hy5
  go_wp2_with fail
  rw [HW6.out]
  refine HSP.out.mono ?_
  rintro e w7 ⟨rfl, hb7⟩
  have HB7 := Lib.hid (HB6.out.trans (hb7.mono HB6.out.size))
  have HO7 := Lib.hid (HO6.out.below hb7 (Nat.le_refl _))
  have hy7 := (hb7.block _ (Array.getElem?_eq_some_iff.1 HY6.out).1).trans HY6.out
  have r0 : w7.cell? ⟨w3.heap.size, 0, none⟩ = some (.slice a3 L3 c3) := blkp hy7 0
  clear hb7 hy7 q0 q1 q2 hly
  go_wp2_with fail
  refine (spoili_own w7 W.heap.size _ l2 (HO7.out.mono HB2.out.size) HB7.out.size).mono ?_
  rintro e w8 ⟨rfl, hb8⟩
  have HB8 := Lib.hid (HB7.out.trans hb8)
  clear hb8 r0
  go_wp2_with fail
  refine (HWK.out w8 (HE.out.below HB8.out)).mono ?_
  rintro e w9 ⟨rfl, hb9⟩
  have HB9 := Lib.hid (HB8.out.trans (hb9.mono HB8.out.size))
  clear hb9
  go_wp2
  go_ret
  exact ⟨rfl, HB9.out⟩
end Pgm
end Go.Proofs.YtfnimmbmcjgdpaaDoor
