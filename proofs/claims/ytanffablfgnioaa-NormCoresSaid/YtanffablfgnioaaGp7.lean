/- The landed norm: slices.Repeat of one node: the call. · The reference's tree (burinref06): All: the nodes of a tree, in an owned row of steps (nine cells each). -/
import Derived.Test.YtanffablfgnioaaGp6
import Derived.Deep.RegionLaw
import Derived.Laws.CopyOwn
import Derived.Test.YtanffablfgnioaaGp3
import Derived.Test.YtanffablfgnioaaGp2
import Derived.IntWalk
import Derived.WalkSmall
import Derived.Maps.Range
import Derived.Deep.RegionHeld3
import Derived.Deep.AppendLies
namespace Go.Proofs.Ytanffablfgnioaa
open Go.RowKit
set_option linter.unusedVariables false
set_option linter.unusedSimpArgs false
set_option maxRecDepth 100000 in
set_option maxHeartbeats 8000000 in
theorem repeatN_any (W : World) (b off c N : Nat) (z : List Value) (hN : N ≤ 1000000) (hz : z.length = 8) (h1 : ∀ v ∈ z, v.oneCell' = true)
    (hc : ∀ j v, z[j]? = some v → W.cell? ⟨b, off + j, none⟩ = some v) (hb : b < W.heap.size) :
    Calls Try.prog 60 #[.slice (some ⟨b, off, none⟩) 1 c, .int .i64 (N : Int)] W fun e w' =>
      ∃ g, e = .returned (.slice (some ⟨g, 0, none⟩) N N) ∧ W.heap.size ≤ g ∧ w'.heap[g]? = some (.cells (repsL z N).toArray 25 (0, 0)) ∧ Below W.heap.size W w' := by
  have mixed : Try.prog.follows .mixedOrders = true := by kernel_rfl
  obtain ⟨i0, hi0, hz0, hz1, hz2⟩ := info_parts Try.infoNodeR
  have HS : (Try.prog.info? 25).map (·.size) = some 8 := by rw [hi0]; simp [hz1]
  have HM : Hid (∀ w : World, Calls Try.prog 72 #[.int .u64 1, .int .u64 (N : Int)] w fun e w' => e = .returned (.tuple #[.int .u64 0, .int .u64 (N : Int)]) ∧ w' = w) := Lib.hid (fun w => by
    have h := mul_any w 1 N (by omega) (by omega)
    rw [Nat.one_mul, Nat.div_eq_of_lt (by omega), Nat.mod_eq_of_lt (by omega)] at h
    exact h)
  have hwN : IntKind.u64.wrap (N : Int) = (N : Int) := by rw [IntKind.wrap_u64]; omega
  have hwM : IntKind.i64.wrap (N : Int) = (N : Int) := by rw [IntKind.wrap_i64]; omega
  have hmk : ∀ w', (Instr.makeSlice 23 (.int .i64 (N : Int)) (.int .i64 (N : Int))).run Try.prog w' = .ok (.slice (some ⟨w'.heap.size, 0, none⟩) N N) (w'.alloc (.cells (madeCells (Value.agg #[.int .i64 0, .slice none 0 0, .int .i64 0, .string ⟨#[]⟩, .int .i64 0, .int .i64 0, .bool false, .slice none 0 0]).cells (N * 8)) 25)) := fun w' => by
    have := run_make (P := Try.prog) w' 23 25 i0 _ Try.underNodesR hi0 hz0 .i64 .i64 (N : Int) (N : Int) (by omega) (Int.le_refl _) (by rw [hz2]; omega) (by omega)
    rw [hz1, Int.toNat_natCast] at this
    exact this
  have hsz := size_madeCells (Value.agg #[.int .i64 0, .slice none 0 0, .int .i64 0, .string ⟨#[]⟩, .int .i64 0, .int .i64 0, .bool false, .slice none 0 0]).cells (N * 8)
  obtain ⟨C, hC⟩ : ∃ C, madeCells (Value.agg #[.int .i64 0, .slice none 0 0, .int .i64 0, .string ⟨#[]⟩, .int .i64 0, .int .i64 0, .bool false, .slice none 0 0]).cells (N * 8) = C := ⟨_, rfl⟩
  rw [hC] at hmk hsz
  have HC := Lib.hid hsz
  clear hC hsz
  go_enter Try.func60, Try.ntmps60
  go_wp2_with fail
  refine (HM.out _).mono ?_
  rintro e w1 ⟨rfl, rfl⟩
  have hcp0 : ∀ ty, (Builtin.copy_ #[23, 23] ty #[.slice (some ⟨w1.heap.size, 0, none⟩) N N, .slice (some ⟨b, off, none⟩) 1 c]).run Try.prog (w1.alloc (.cells C 25)) =
      .ok (goInt (Nat.min 1 N)) ((w1.alloc (.cells C 25)).setRow w1.heap.size (C.toList.take (0 * 8) ++ repsL z (Nat.min 1 N) ++ C.toList.drop (0 * 8 + (repsL z (Nat.min 1 N)).length)).toArray) := fun ty =>
    copy_rowS (P := Try.prog) _ _ _ ty 25 8 w1.heap.size (0 * 8) N N ⟨b, off, none⟩ 1 c C 25 (repsL z (Nat.min 1 N)) Try.underNodesR HS (heap_alloc_new _ _) (repsL_len z hz _)
      (fun j v hv => by
        have hv2 : z[j]? = some v := by
          obtain ⟨hj, -⟩ := List.getElem?_eq_some_iff.mp hv
          rw [repsL_len z hz] at hj
          have := Nat.min_le_left 1 N
          rw [repsL_get z hz _ j hj, Nat.mod_eq_of_lt (by have : Nat.min 1 N * 8 ≤ 1 * 8 := Nat.mul_le_mul_right 8 this; omega)] at hv
          exact hv
        rw [Addr.add_lit]
        exact ((((Below.refl w1.heap.size w1).alloc (Nat.le_refl _) (.cells C 25)).cell (p := ⟨b, off + j, none⟩) hb)).trans (hc j v hv2))
      (by have h2 := repsL_len z hz (Nat.min 1 N); have h3 := Nat.min_le_right 1 N; have h4 : Nat.min 1 N * 8 ≤ N * 8 := Nat.mul_le_mul_right 8 h3; have := HC.out; omega)
      (fun v hv => h1 v (repsL_mem hv))
  have HU0 : Hid (RepTo (C.toList.take (0 * 8) ++ repsL z (Nat.min 1 N) ++ C.toList.drop (0 * 8 + (repsL z (Nat.min 1 N)).length)).toArray z N (0 + Nat.min 1 N)) := Lib.hid (RepTo.step ⟨HC.out, by simp [repsL]⟩ hz (by rw [Nat.zero_add]; exact Nat.min_le_right 1 N))
  rw [Nat.zero_add (Nat.min 1 N)] at HU0
  obtain ⟨C1, hC1⟩ : ∃ C1, (C.toList.take (0 * 8) ++ repsL z (Nat.min 1 N) ++ C.toList.drop (0 * 8 + (repsL z (Nat.min 1 N)).length)).toArray = C1 := ⟨_, rfl⟩
  rw [hC1] at HU0
  simp only [hC1] at hcp0
  have HG0 : Hid (((w1.alloc (.cells C 25)).setRow w1.heap.size C1).heap[w1.heap.size]? = some (.cells C1 25 (0, 0))) := Lib.hid (setRow_heap _ _ _ _ _ _ (heap_alloc_new _ _))
  have HB0 : Hid (Below w1.heap.size w1 ((w1.alloc (.cells C 25)).setRow w1.heap.size C1)) := Lib.hid (below_setRow ((Below.refl w1.heap.size w1).alloc (Nat.le_refl _) _) (Nat.le_refl _) _)
  obtain ⟨m0, hm0⟩ : ∃ m0, Nat.min 1 N = m0 := ⟨_, rfl⟩
  rw [hm0] at HU0
  simp only [hm0] at hcp0
  have hm1 : m0 ≤ N ∧ (m0 = 1 ∨ N = 0) := by
    have : Nat.min 1 N = min 1 N := rfl
    omega
  obtain ⟨g, hg⟩ : ∃ g, w1.heap.size = g := ⟨_, rfl⟩
  rw [hg] at hcp0 HG0 HB0
  clear hC1 hm0 hc HC
  go_wp2_with (simp only [hcp0])
  go_loopw [8] (fun nv wr => ∃ (k : Nat) (cs : Array Value), k ≤ N ∧ (1 ≤ k ∨ N = 0) ∧ nv = .int .i64 (k : Int) ∧ Hid (wr.heap[g]? = some (.cells cs 25 (0, 0))) ∧ Hid (RepTo cs z N k) ∧ Hid (Below g w1 wr)) (fun nv _ => N - (intOf nv).toNat)
  case atStart => exact ⟨m0, C1, hm1.1, by omega, by go_num, HG0, HU0, HB0⟩
  case round =>
    obtain ⟨k, cs, hk, hk1, rfl, HG, HU, HB⟩ := hrel
    by_cases hkl : k < N
    · obtain ⟨k', hk'⟩ : ∃ k', Nat.min k (N - k) = k' := ⟨_, rfl⟩
      have hk2 : k' ≤ k ∧ k + k' ≤ N ∧ 1 ≤ k' := by
        have : Nat.min k (N - k) = min k (N - k) := rfl
        omega
      have hcp1 : ∀ w : World, w.heap[g]? = some (.cells cs 25 (0, 0)) → ∀ ty dc sc, (Builtin.copy_ #[23, 23] ty #[.slice (some ⟨g, k * 8, none⟩) (N - k) dc, .slice (some ⟨g, 0, none⟩) k sc]).run Try.prog w =
          .ok (goInt k') (w.setRow g (cs.toList.take (k * 8) ++ repsL z k' ++ cs.toList.drop (k * 8 + (repsL z k').length)).toArray) := fun w hw ty dc sc => by
        have h := copy_rowS (P := Try.prog) w 23 23 ty 25 8 g (k * 8) (N - k) dc ⟨g, 0, none⟩ k sc cs 25 (repsL z k') Try.underNodesR HS hw (by rw [hk']; exact repsL_len z hz _)
          (fun j v hv => by
            rw [Addr.add_lit, Nat.zero_add, cellrowN hw]
            exact HU.out.get hz hk2.1 j v hv)
          (by have h2 := repsL_len z hz k'; have := HU.out.size; omega)
          (fun v hv => h1 v (repsL_mem hv))
        rw [hk'] at h
        exact h
      have HUS := Lib.hid (HU.out.step hz hk2.2.1)
      obtain ⟨C2, hC2⟩ : ∃ C2, (cs.toList.take (k * 8) ++ repsL z k' ++ cs.toList.drop (k * 8 + (repsL z k').length)).toArray = C2 := ⟨_, rfl⟩
      rw [hC2] at HUS
      simp only [hC2] at hcp1
      have HG2 : Hid ((wr.drew.setRow g C2).heap[g]? = some (.cells C2 25 (0, 0))) := Lib.hid (setRow_heap _ _ _ _ _ _ HG.out)
      have HB2 : Hid (Below g w1 (wr.drew.setRow g C2)) := Lib.hid (below_setRow HB.out.drew (Nat.le_refl _) _)
      have k0 : (0 : Int) ≤ (k : Int) := by omega
      have k1 : (k : Int) ≤ (N : Int) := by omega
      have k2 : ¬ (N = k) := by omega
      have hcpD := hcp1 wr.drew HG.out 3 (N - k) N
      clear hC2 hk' hcp1 hcp0
      go_wp2
      go_region
      go_roundw
      case rel => exact ⟨.int .i64 ((k : Int) + (k' : Int)), _, _, _, _, _, _, _, _, _, _, _, _, _, ⟨k + k', C2, hk2.2.1, by omega, by go_num, HG2, HUS, HB2⟩, rfl⟩
      case measure => simp [intOf]; omega
    · obtain rfl : k = N := by omega
      go_wp2
      go_ret
      exact ⟨g, rfl, by omega, by rw [← HU.out.all]; exact HG.out, by rw [hg]; exact HB.out⟩
end Go.Proofs.Ytanffablfgnioaa
namespace Go.Proofs.Ytanffablfgnioaa
open Go.RowKit
set_option linter.unusedVariables false



















theorem Td.flat_succ (l : List Nd) (f : Nd → List (Nat × Nd)) (k : Nat) (m : Nd) (hk : l[k]? = some m) : (l.take (k + 1)).flatMap f = (l.take k).flatMap f ++ f m := by
  obtain ⟨h, rfl⟩ := List.getElem?_eq_some_iff.1 hk
  rw [List.take_succ_eq_append_getElem h, List.flatMap_append]; simp
theorem Td.flat_le (l : List Nd) (f : Nd → List (Nat × Nd)) (k : Nat) : ((l.take k).flatMap f).length ≤ (l.flatMap f).length := by
  have h : l.flatMap f = (l.take k).flatMap f ++ (l.drop k).flatMap f := by rw [← List.flatMap_append, List.take_append_drop]
  rw [h, List.length_append]; omega
theorem Td.all_len_pos (k d : Nat) (n : Nd) : 1 ≤ (Td.all (k + 1) d n).length := by rw [Td.all]; simp











































































































































end Go.Proofs.Ytanffablfgnioaa
