/- Rows of texts that come from without; the book's Few and Below. · burinbook.SameTexts at two rows that read alike, wherever they begin. · An argument that is a list of ranges, opened. · An argument that is a list of texts, opened. -/
import Derived.Test.YthhijakclinjaaaGp4
import Derived.IntWalk
import Derived.Test.YthhijakclinjaaaGp12
import Derived.Test.YthhijakclinjaaaGp2
import Derived.Deep.SlicePairs
import Derived.ProofKit
import Derived.SizedLaws
import Derived.Lib.RowBridge
import Derived.Test.YthhijakclinjaaaGp3
import Derived.Deep.Strs
namespace Go.Proofs.Ythhijakclinjaaa
open Go.RowKit
set_option linter.unusedVariables false
/-- A value that reads as a list of texts, wherever it begins. -/
def SRow (W : World) (v : Value) (L : List ByteArray) : Prop :=
  ∃ a cap, v = .slice a L.length cap ∧ L.length ≤ 8796093022208 ∧ ∀ j (hj : j < L.length), ∃ b off, a = some ⟨b, off, none⟩ ∧ b < W.heap.size ∧ W.cell? ⟨b, off + j, none⟩ = some (.string L[j]) ∧ L[j].size ≤ 140737488351232
theorem SRow.below {W W' : World} {v : Value} {L : List ByteArray} (h : SRow W v L) {B : Nat} (hB : W.heap.size ≤ B) (hb : Below B W W') : SRow W' v L := by
  obtain ⟨a, cap, hv, h1, hc⟩ := h
  refine ⟨a, cap, hv, h1, fun j hj => ?_⟩
  obtain ⟨b, off, ha, hlt, hcell, hs⟩ := hc j hj
  exact ⟨b, off, ha, Nat.lt_of_lt_of_le hlt hb.size, (hb.cell (p := ⟨b, off + j, none⟩) (by show b < B; omega)).trans hcell, hs⟩
def FewPost (L : List ByteArray) (many long : Int) (e : Ending) : Prop := ∃ b : Bool, e = .returned (.bool b) ∧ (b = true → (L.length : Int) ≤ many ∧ ∀ s ∈ L, (s.size : Int) ≤ long)
set_option maxRecDepth 100000 in
set_option maxHeartbeats 2000000 in
theorem few_any (W : World) (v : Value) (L : List ByteArray) (many long : Int) (h : SRow W v L) :
    Calls Try.prog 30 #[v, .int .i64 many, .int .i64 long] W fun e w' => FewPost L many long e ∧ W = w' := by
  obtain ⟨a, cap, rfl, hlen, hc⟩ := h
  obtain ⟨n, hn⟩ : ∃ n, L.length = n := ⟨_, rfl⟩
  have HN := Lib.hid hn
  have HC := Lib.hid hc
  rw [hn] at hlen ⊢
  clear hn hc
  by_cases hm : many < (n : Int)
  · go_enter Try.func30, Try.ntmps30
    go_wp2
    go_ret
    exact ⟨⟨false, rfl, (fun h => by cases h)⟩, rfl⟩
  go_enter Try.func30, Try.ntmps30
  go_wp2
  go_loop [7] (fun iv => ∃ k : Nat, k ≤ n ∧ iv = .int .i64 (k : Int) ∧ ∀ j (hj : j < L.length), j < k → (L[j].size : Int) ≤ long) (fun iv => n - (intOf iv).toNat)
  case atStart => exact ⟨0, Nat.zero_le _, rfl, fun j hj h => absurd h (by omega)⟩
  case round =>
    obtain ⟨k, hk, rfl, HA⟩ := hrel
    have HAA := Lib.hid HA
    clear HA
    by_cases hlt : k < n
    · obtain ⟨b, off, rfl, hb, hcell, hs⟩ := HC.out k (by rw [HN.out]; exact hlt)
      obtain ⟨s, hs0⟩ : ∃ s, L[k]'(by rw [HN.out]; exact hlt) = s := ⟨_, rfl⟩
      have HS0 := Lib.hid hs0
      rw [hs0] at hcell hs
      clear hs0
      by_cases hl : long < (s.size : Int)
      · go_wp2
        go_ret
        exact ⟨⟨false, rfl, (fun h => by cases h)⟩, rfl⟩
      · go_wp2
        go_round
        case rel =>
          refine ⟨k + 1, by omega, by go_num, fun j hj h => ?_⟩
          by_cases hjk : j < k
          · exact HAA.out j hj hjk
          · obtain rfl : j = k := by omega
            rw [HS0.out]; omega
        case measure => simp [intOf]; omega
    · obtain rfl : k = n := by omega
      go_wp2
      go_ret
      exact ⟨⟨true, rfl, fun _ => ⟨by have := HN.out; omega, fun s hs => by
        obtain ⟨j, hj, rfl⟩ := List.getElem_of_mem hs
        exact HAA.out j hj (by rw [← HN.out]; exact hj)⟩⟩, rfl⟩
set_option maxRecDepth 100000 in
set_option maxHeartbeats 2000000 in
theorem below_any (W : World) (n most : Int) (h0 : 1 ≤ most) (h1 : most ≤ 1000000000) (hn : I64 n) :
    Calls Try.prog 28 #[.int .i64 n, .int .i64 most] W fun e w' => ∃ k : Nat, e = .returned (.int .i64 (k : Int)) ∧ (k : Int) < most ∧ W = w' := by
  obtain ⟨hn0, hn1⟩ := hn
  have hm0 : ¬ most < 1 := by omega
  have hmz : ¬ most = 0 := by omega
  obtain ⟨r, hr⟩ : ∃ r, n.tmod most = r := ⟨_, rfl⟩
  have hr1 : r < most ∧ -most < r := by
    rw [← hr]
    have a1 := Int.tmod_lt_of_pos n (show 0 < most by omega)
    have a2 : -most < n.tmod most := by
      have a3 := Int.tmod_lt_of_pos (-n) (show 0 < most by omega)
      rw [Int.neg_tmod] at a3
      omega
    omega
  by_cases hneg : r < 0
  · obtain ⟨k, hk⟩ : ∃ k : Nat, r + most = (k : Int) := ⟨(r + most).toNat, by omega⟩
    have HK := Lib.hid hk
    go_enter Try.func28, Try.ntmps28
    go_wp2
    go_ret
    exact ⟨k, rfl, by have := HK.out; omega, rfl⟩
  · obtain ⟨k, hk⟩ : ∃ k : Nat, r = (k : Int) := ⟨r.toNat, by omega⟩
    have HK := Lib.hid hk
    go_enter Try.func28, Try.ntmps28
    go_wp2
    go_ret
    exact ⟨k, by rw [← HK.out]; rfl, by have := HK.out; omega, rfl⟩
end Go.Proofs.Ythhijakclinjaaa
namespace Go.Proofs.Ythhijakclinjaaa
open Go.RowKit
set_option linter.unusedVariables false
set_option maxRecDepth 100000 in
set_option maxHeartbeats 2000000 in
theorem same_txt_at (W : World) (a b : Option Addr) (n p q : Nat) (hn : n ≤ 8796093022208)
    (ha : ∀ j, j < n → ∃ g off s g' off' s', a = some ⟨g, off, none⟩ ∧ b = some ⟨g', off', none⟩ ∧ g < W.heap.size ∧ g' < W.heap.size ∧ W.cell? ⟨g, off + j, none⟩ = some (.string s) ∧ W.cell? ⟨g', off' + j, none⟩ = some (.string s') ∧ s.toList = s'.toList) :
    Calls Try.prog 16 #[.slice a n p, .slice b n q] W fun e W' => e = .returned (.bool true) ∧ ∃ d, W' = W.drewN d := by
  have HA := Lib.hid ha
  clear ha
  go_enter Try.func16, Try.ntmps16
  go_wp2
  go_loopw [5, 6] (fun s i wr => ∃ (k : Nat), k ≤ n ∧ i = .int .i64 k ∧ s = .bool true ∧ ∃ d, wr = W.drewN d) (fun s i _ => (n - (intOf i).toNat))
  case atStart => exact ⟨0, Nat.zero_le _, rfl, by simp, 0, rfl⟩
  case round =>
    obtain ⟨k, hk, rfl, rfl, d, rfl⟩ := hrel
    by_cases hlt : k < n
    · obtain ⟨g, off, x, g', off', y, rfl, rfl, hg, hg', hc1, hc3, hxy⟩ := HA.out k hlt
      have k0 : (0 : Int) ≤ (k : Int) := by omega
      have k1 : (k : Int) < (n : Int) := by omega
      have hq : (x.toList == y.toList) = true := by rw [hxy]; simp
      clear hxy
      go_wp2
      go_quiet (fail)
      go_wp2
      go_round
      case rel => exact ⟨k + 1, by omega, by go_num, rfl, _, rfl⟩
      case measure => simp [intOf]; omega
    · obtain rfl : k = n := by omega
      go_wp2
      go_ret
      exact ⟨rfl, _, rfl⟩
/-- A list of its own against one that came in. -/
theorem same_txt_in (W : World) (base : Nat) (v u : Value) (L : List ByteArray) (hv : TxOwn W base v L) (hu : SRow W u L) :
    Calls Try.prog 16 #[v, u] W fun e W' => e = .returned (.bool true) ∧ Below W.heap.size W W' := by
  obtain ⟨a, c, rfl⟩ := hv.slice
  obtain ⟨b, q, rfl, hl, hc⟩ := hu
  refine (same_txt_at W a b _ c q hl (fun j hj => ?_)).mono ?_
  · obtain ⟨g, c', e, hg, h1⟩ := hv.at j hj
    obtain ⟨g', off', hb', hg', h2, _⟩ := hc j hj
    injection e with e1 e2 e3
    exact ⟨g, 0, L[j], g', off', L[j], e1, hb', hg, hg', by simpa using h1, h2, rfl⟩
  · rintro e w' ⟨rfl, d, rfl⟩
    exact ⟨rfl, below_drewN (Below.refl _ _) d⟩
end Go.Proofs.Ythhijakclinjaaa
namespace Go.Proofs.Ythhijakclinjaaa
open Go.ChangeShapes Go.WideShapes Go.ChangeAt Go.RowKit
set_option linter.unusedVariables false
theorem laidOut : laidOutB Try.prog = true := by kernel_rfl
theorem rangeStruct : ∃ f0 f1 : Field, Try.prog.underlying 62 = some (.struct #[f0, f1]) ∧ f0.offset = 0 ∧ f1.offset = 1 ∧ f0.type = 3 ∧ f1.type = 3 := ⟨_, _, Try.underlying62, rfl, rfl, rfl, rfl⟩
theorem rangeCells : Try.prog.cellsOf 62 = 2 := by kernel_rfl
theorem intCells : Try.prog.cellsOf 3 = 1 := by kernel_rfl
theorem rangeBytes : Try.prog.bytesOf 62 = 16 := by kernel_rfl
theorem choose_pairs {α : Type} {n : Nat} {p : Nat → α → Prop} [Inhabited α] (h : ∀ i, i < n → ∃ x, p i x) : ∃ f : Nat → α, ∀ i, i < n → p i (f i) := by
  classical
  exact ⟨fun i => if hi : i < n then (h i hi).choose else default, fun i hi => by simp only [dif_pos hi]; exact (h i hi).choose_spec⟩
set_option maxRecDepth 100000 in
theorem open_ranges {H : Type} {enc : TypeId × Value → H} {W : World} {base : Nat} {v : Value} {d : DataW H} {p : List MemPlace} (hv : Value.okWide Try.prog W .any base 22 v)
    (h : DataW.Trod enc Try.prog W 0 (fun _ => true) true 22 v d p) (hs : ∀ elems spare, d = .slice elems spare → (elems.length + spare.length) * 16 ≤ 140737488351232) : ∃ l, RRow W v l := by
  obtain ⟨fuel, hf⟩ := h
  obtain ⟨f0, f1, he, o0, o1, t0, t1⟩ := rangeStruct
  obtain ⟨a0, len0, cap0, rfl⟩ := okWide_slice Try.underlying22 hv
  rcases Deep.open_slice_pairs Try.underlying22 he rangeCells o0 o1 (by rw [t0]; exact intCells) (by rw [t1]; exact intCells) hf with ⟨hcs, hx⟩ | ⟨a, len, cap, m, n, V0, V1, D0, D1, P0, P1, hcs, hb, hl, hm, hmm, hx, hi⟩
  · simp [Value.cells] at hcs
    obtain ⟨rfl, rfl, rfl⟩ := hcs
    exact ⟨[], RRow.nil W⟩
  · simp [Value.cells] at hcs
    obtain ⟨rfl, rfl, rfl⟩ := hcs
    simp only [if_true] at hmm
    subst hmm
    simp only [Prod.mk.injEq] at hx
    have hsz := hs _ _ hx.1
    simp only [List.length_map, List.length_range] at hsz
    have each : ∀ i, i < m → ∃ x : Int × Int, V0 i = .int .i64 x.1 ∧ V1 i = .int .i64 x.2 ∧ (Lit.int .i64 x.1).wf = true ∧ (Lit.int .i64 x.2).wf = true := by
      intro i him
      obtain ⟨_, _, h3, h4⟩ := hi i him
      rw [t0] at h3
      rw [t1] at h4
      obtain ⟨z0, e0, _, w0⟩ := DataW.trod_int Try.underlying3 h3
      obtain ⟨z1, e1, _, w1⟩ := DataW.trod_int Try.underlying3 h4
      exact ⟨(z0, z1), by simpa using e0, by simpa using e1, w0, w1⟩
    obtain ⟨f, hf2⟩ := choose_pairs each
    refine ⟨(List.range len0).map f, _, _, by rw [List.length_map, List.length_range], by rw [List.length_map, List.length_range]; omega, fun q hq => ?_, fun j hj => ?_⟩
    · obtain ⟨i, hir, rfl⟩ := List.mem_map.1 hq
      have hil := List.mem_range.1 hir
      obtain ⟨_, _, w0, w1⟩ := hf2 i (by omega)
      have h1 : IntKind.i64.min = -9223372036854775808 := rfl
      have h2 : IntKind.i64.max = 9223372036854775807 := rfl
      simp [Lit.wf, h1, h2] at w0 w1
      omega
    · rw [List.length_map, List.length_range] at hj
      obtain ⟨c0, c1, _, _⟩ := hi j (by omega)
      obtain ⟨b, off, spot⟩ := a
      have hspot : spot = none := by simpa [Addr.add] using World.cell?_spot (hi 0 (by omega)).1
      subst hspot
      obtain ⟨e0, e1, _, _⟩ := hf2 j (by omega)
      rw [e0, add_plain] at c0
      rw [e1, add_plain] at c1
      have hg : ((List.range len0).map f)[j]?.getD (0, 0) = f j := by simp [hj]
      rw [hg]
      exact ⟨b, off, rfl, World.block_lt_of_cell? W _ c0, c0, by rw [Nat.add_assoc]; exact c1⟩
end Go.Proofs.Ythhijakclinjaaa
namespace Go.Proofs.Ythhijakclinjaaa
open Go.ChangeShapes Go.WideShapes Go.ChangeAt Go.RowKit
set_option linter.unusedVariables false
/-- A list of texts that came in. -/
structure TxIn (W : World) (v : Value) (L : List ByteArray) : Prop where
  row : SRow W v L
  fits : ∀ a l c, v = .slice a l c → l ≤ c
set_option maxRecDepth 100000 in
theorem open_texts {H : Type} {enc : TypeId × Value → H} {W : World} {base : Nat} {v : Value} {d : DataW H} {p : List MemPlace} (hv : Value.okWide Try.prog W .any base 32 v)
    (h : DataW.Trod enc Try.prog W 0 (fun _ => true) true 32 v d p) (hs : ∀ n ∈ d.weights Try.prog 32, n ≤ reachBytes) : ∃ L, TxIn W v L := by
  obtain ⟨fuel, hf⟩ := h
  obtain ⟨a0, len0, cap0, rfl⟩ := okWide_slice Try.underlying32 hv
  have hc : Try.prog.cellsOf 9 = 1 := by kernel_rfl
  have hby : Try.prog.bytesOf 9 = 16 := by kernel_rfl
  rcases Deep.open_strs Try.underlying32 Try.underlying9 hc hf with ⟨hcs, hx⟩ | ⟨a, len, cap, m, Sx, hcs, hb, hl, hm, hmm, hx, hi⟩
  · simp [Value.cells] at hcs
    obtain ⟨rfl, rfl, rfl⟩ := hcs
    exact ⟨[], ⟨none, 0, rfl, by simp, fun j hj => absurd hj (by simp)⟩, fun a l c e => by cases e; exact Nat.le_refl _⟩
  · simp [Value.cells] at hcs
    obtain ⟨rfl, rfl, rfl⟩ := hcs
    simp only [if_true] at hmm
    subst hmm
    simp only [Prod.mk.injEq] at hx
    obtain ⟨hx, _⟩ := hx
    have hsz := hs ((((List.range len0).map fun i => (DataW.lit (.string (Sx i).data.toList) : DataW H)).length + ((List.range (m - len0)).map fun j => (DataW.lit (.string (Sx (len0 + j)).data.toList) : DataW H)).length) * Try.prog.bytesOf 9) (by rw [hx]; simp [DataW.weights, show Try.prog.underlying 32 = some (.slice 9) from Try.underlying32])
    rw [hby] at hsz
    simp only [List.length_map, List.length_range, reachBytes] at hsz
    refine ⟨(List.range len0).map Sx, ⟨some a, m, by rw [List.length_map, List.length_range], by rw [List.length_map, List.length_range]; omega, fun j hj => ?_⟩, fun a l c e => by cases e; omega⟩
    rw [List.length_map, List.length_range] at hj
    obtain ⟨c0, _⟩ := hi j (by omega)
    obtain ⟨b, off, spot⟩ := a
    have hspot : spot = none := by simpa [Addr.add] using World.cell?_spot (hi 0 (by omega)).1
    subst hspot
    rw [add_plain] at c0
    have hw := hs (Sx j).data.toList.length (by
      rw [hx]
      simp only [DataW.weights, show Try.prog.underlying 32 = some (.slice 9) from Try.underlying32, List.mem_cons, List.mem_append]
      exact .inr (.inl (weights_all (d := DataW.lit (.string (Sx j).data.toList)) (List.mem_map.2 ⟨j, List.mem_range.2 hj, rfl⟩) _ (by simp [DataW.weights]))))
    refine ⟨b, off, rfl, World.block_lt_of_cell? W _ c0, ?_, ?_⟩
    · simpa using c0
    · simpa [reachBytes] using hw
end Go.Proofs.Ythhijakclinjaaa
