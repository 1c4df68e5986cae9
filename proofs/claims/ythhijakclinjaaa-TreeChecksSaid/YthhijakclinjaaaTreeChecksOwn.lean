/- burinlaw06.TreeChecks, walked. -/
import Derived.Test.YthhijakclinjaaaGp29
import Derived.Test.YthhijakclinjaaaGp10
import Derived.Test.YthhijakclinjaaaGp30
import Derived.Test.YthhijakclinjaaaGp14
import Derived.Test.YthhijakclinjaaaGp16
import Derived.BigQuiet
namespace Go.Proofs.Ythhijakclinjaaa
open Go.RowKit
set_option linter.unusedVariables false
set_option maxRecDepth 100000 in
set_option maxHeartbeats 16000000 in
theorem walkTreeChecks (W : World) (cs : List Value) (n : Nd) (s : ByteArray) (h : NdIs W n cs) (hs : s.size ≤ 140737488351232) : Calls Try.prog 3 #[.agg cs.toArray, .string s] W fun e w' => e = .returned (.bool true) ∧ Below W.heap.size W w' := by
  have mixed : Try.prog.follows .mixedOrders = true := by kernel_rfl
  have hb1 : Below W.heap.size W (W.alloc (.cells cs.toArray 25)) := (Below.refl W.heap.size W).alloc (Nat.le_refl _) _
  have hnw := heap_alloc_new W (.cells cs.toArray 25)
  obtain ⟨W1, hW1⟩ : ∃ W1, W.alloc (.cells cs.toArray 25) = W1 := ⟨_, rfl⟩
  have hsz : W1.heap.size = W.heap.size + 1 := by rw [← hW1]; simp
  rw [hW1] at hb1 hnw
  have HN := Lib.hid (h.kept hb1)
  have HB := Lib.hid hb1
  have HX := Lib.hid hnw
  have HSZ := Lib.hid hsz
  obtain ⟨u0, u1, u2, u3, u4, u5, u6, u7, sa, sc, a, c, hcs, F⟩ := h.form_of
  subst hcs
  obtain ⟨rfl, rfl, rfl, rfl, rfl, rfl, rfl, rfl⟩ := F
  have HW1 := Lib.hid hW1
  clear h hb1 hnw hsz hW1
  go_enter Try.func3, Try.ntmps3
  go_wp2_with fail
  rw [HW1.out]
  refine (refGreat_any W1 n _ 300 (by omega) (by omega) HN.out).mono ?_
  rintro e w2 ⟨b, rfl, hgr, hb2⟩
  have HN2 := Lib.hid (HN.out.kept hb2)
  have HX2 := Lib.hid ((hb2.block _ (Array.getElem?_eq_some_iff.1 HX.out).1).trans HX.out)
  have HB2 := Lib.hid (HB.out.trans (hb2.mono HB.out.size))
  have HGR := Lib.hid hgr
  have HS2 : Hid (W.heap.size < w2.heap.size) := Lib.hid (by have := hb2.size; rw [HSZ.out] at this; omega)
  clear hb2 hgr HN HX HB
  cases b with
  | true =>
    go_wp2_with fail
    refine (works6_any w2).mono ?_
    rintro e w3 ⟨rfl, hb3⟩
    have HB3 := Lib.hid (HB2.out.trans (hb3.mono HB2.out.size))
    clear hb3
    go_wp2
    go_ret
    exact ⟨rfl, HB3.out⟩
  | false =>
    have HSM := Lib.hid (Td.all_small n 300 (by omega) (HGR.out rfl) 1)
    have hs6 : W.heap.size < w2.heap.size := HS2.out
    have hx6 := HX2.out
    have hn2 := fun (p : GrownTo w2) => (p.h.block _ hs6).trans hx6
    have q : ∀ (p : GrownTo w2) (i : Nat) (v : Value), (#[Value.int .i64 (Td.kind n), .slice sa (Td.set n).length sc, .int .i64 (Td.num n), .string (Td.name n), .int .i64 (Td.mn n), .int .i64 (Td.mx n), .bool (Td.lazy n), .slice a (Td.subs n).length c] : Array Value)[i]? = some v → p.W'.cell? ⟨W.heap.size, i, none⟩ = some v := fun p i v hv => by
      simp only [World.cell?, hn2 p]
      simpa using hv
    have q0 := fun p => q p 0 _ rfl
    have q1 := fun p => q p 1 _ rfl
    have q2 := fun p => q p 2 _ rfl
    have q3 := fun p => q p 3 _ rfl
    have q4 := fun p => q p 4 _ rfl
    have q5 := fun p => q p 5 _ rfl
    have q6 := fun p => q p 6 _ rfl
    have q7 := fun p => q p 7 _ rfl
    obtain ⟨CK, hCK⟩ : ∃ CK, Td.checkN n = CK := ⟨_, rfl⟩
    obtain ⟨NB, hNB⟩ : ∃ NB, Td.nameB s = NB := ⟨_, rfl⟩
    have HNP := Lib.hid (fun p : GrownTo w2 => HN2.out.kept p.h)
    have H1 := Lib.hid (fun p : GrownTo w2 => trCheck_any p.W' n _ (HNP.out p) HSM.out)
    have H2 := Lib.hid (fun p : GrownTo w2 => refCheck6_any p.W' n _ (HNP.out p) HSM.out)
    have H3 := Lib.hid (fun p : GrownTo w2 => (trName_any p.W' s hs).mono (R' := fun e w' => e = .returned (.bool (Td.nameB s)) ∧ Below p.W'.heap.size p.W' w') (fun e w' ⟨he, hw⟩ => ⟨he, by rw [← hw]; exact Below.refl _ _⟩))
    have H4 := Lib.hid (fun p : GrownTo w2 => (refName_any p.W' s hs).mono (R' := fun e w' => e = .returned (.bool (Td.nameB s)) ∧ Below p.W'.heap.size p.W' w') (fun e w' ⟨he, hw⟩ => ⟨he, by rw [← hw]; exact Below.refl _ _⟩))
    have H5 := Lib.hid (fun p : GrownTo w2 => works6_any p.W')
    rw [hCK] at H1 H2
    rw [hNB] at H3 H4
    have hcc : (CK == CK) = true := by simp
    have hbb : (NB == NB) = true := by simp
    have HF := Lib.hid (And.intro q0 (And.intro q1 (And.intro q2 (And.intro q3 (And.intro q4 (And.intro q5 (And.intro q6 q7)))))))
    clear q q0 q1 q2 q3 q4 q5 q6 q7 hn2 hx6 hs6 hCK hNB
    go_wp2
    obtain ⟨q0, q1, q2, q3, q4, q5, q6, q7⟩ := HF.out
    refine wp_region_quiet_below (by assumption) (by kernel_rfl) ?_
    repeat (quiet_step (first
      | (go_at_call 11; exact calls_grownTo (H1.out _))
      | (go_at_call 12; exact calls_grownTo (H2.out _))
      | (go_at_call 13; exact calls_grownTo (H3.out _))
      | (go_at_call 14; exact calls_grownTo (H4.out _))
      | (go_at_call 10; exact calls_grownTo (H5.out _))))
    refine wpQuiet_nil ?_
    intro _ hw'
    obtain ⟨⟨wz, hbz⟩, hw''⟩ := hw'
    subst hw''
    have HBZ := Lib.hid (HB2.out.trans (hbz.mono HB2.out.size))
    clear hbz q0 q1 q2 q3 q4 q5 q6 q7
    go_wp2
    go_ret
    exact ⟨rfl, HBZ.out⟩
end Go.Proofs.Ythhijakclinjaaa
