/- A node that reads in certain blocks alone: whatever else turns, it stands. · Rows of texts that come from without; the book's Few and Below. · burinlaw06.TreeDeep, walked. -/
import Derived.Test.YthhijakclinjaaaGp6
import Derived.Test.YthhijakclinjaaaGp5
import Derived.IntWalk
import Derived.Test.YthhijakclinjaaaGp29
namespace Go.Proofs.Ythhijakclinjaaa
open Go.RowKit
set_option linter.unusedVariables false
theorem cell_of_blk {W W' : World} {b : Nat} (h : W'.heap[b]? = W.heap[b]?) (o : Nat) : W'.cell? ⟨b, o, none⟩ = W.cell? ⟨b, o, none⟩ := by simp [World.cell?, h]
/-- A list of ranges that lies in one of certain blocks. -/
def RRowOn (S : Nat → Prop) (W : World) (v : Value) (l : List (Int × Int)) : Prop := RRow W v l ∧ ∀ g off len cap, v = .slice (some ⟨g, off, none⟩) len cap → 0 < len → S g
theorem RRowOn.kept {S : Nat → Prop} {W W' : World} {v : Value} {l : List (Int × Int)} (h : RRowOn S W v l) (hs : W.heap.size ≤ W'.heap.size) (hk : ∀ b, S b → b < W.heap.size → W'.heap[b]? = W.heap[b]?) : RRowOn S W' v l := by
  obtain ⟨⟨a, cap, hv, h1, h2, h3⟩, h4⟩ := h
  refine ⟨⟨a, cap, hv, h1, h2, fun j hj => ?_⟩, h4⟩
  obtain ⟨b, off, ha, hb, c1, c2⟩ := h3 j hj
  have hS : S b := h4 b off l.length cap (by rw [hv, ha]) (by omega)
  have hh := hk b hS hb
  exact ⟨b, off, ha, Nat.lt_of_lt_of_le hb hs, (cell_of_blk hh _).trans c1, (cell_of_blk hh _).trans c2⟩
theorem RRowOn.mono {S S' : Nat → Prop} {W : World} {v : Value} {l : List (Int × Int)} (h : RRowOn S W v l) (hS : ∀ b, S b → S' b) : RRowOn S' W v l := ⟨h.1, fun g off len cap e hl => hS g (h.2 g off len cap e hl)⟩
theorem RRowOn.nil {S : Nat → Prop} {W : World} : RRowOn S W (.slice none 0 0) [] := ⟨RRow.nil W, fun g off len cap e _ => by cases e⟩
inductive NdOn (S : Nat → Prop) (W : World) : Nd → List Value → Prop where
  | mk {k num mn mx : Int} {set : List (Int × Int)} {name : ByteArray} {lz : Bool} {subs : List Nd} {vs : Value} {a : Option Addr} {cap : Nat} (cs : Nat → List Value)
      (hk : I64 k ∧ I64 num ∧ I64 mn ∧ I64 mx) (hset : RRowOn S W vs set) (hname : name.size ≤ 140737488351232) (hlen : subs.length ≤ 8796093022208)
      (hrow : ∀ j, j < subs.length → ∃ b off, a = some ⟨b, off, none⟩ ∧ S b ∧ b < W.heap.size ∧ (cs j).length = 8 ∧ ∀ i, i < 8 → W.cell? ⟨b, off + j * 8 + i, none⟩ = (cs j)[i]?)
      (hsub : ∀ j (h : j < subs.length), NdOn S W subs[j] (cs j)) :
      NdOn S W (.mk k set num name mn mx lz subs) [.int .i64 k, vs, .int .i64 num, .string name, .int .i64 mn, .int .i64 mx, .bool lz, .slice a subs.length cap]
theorem NdOn.is {S : Nat → Prop} {W : World} : ∀ {n : Nd} {cs : List Value}, NdOn S W n cs → NdIs W n cs := by
  intro n cs h
  induction h with
  | mk cs hk hset hname hlen hrow hsub ih =>
    exact .mk cs hk hset.1 hname hlen (fun j hj => by
      obtain ⟨b, off, ha, _, hb, hl, hc⟩ := hrow j hj
      exact ⟨b, off, ha, hb, hl, hc⟩) ih
theorem NdOn.kept {S : Nat → Prop} {W W' : World} (hs : W.heap.size ≤ W'.heap.size) (hk : ∀ b, S b → b < W.heap.size → W'.heap[b]? = W.heap[b]?) : ∀ {n : Nd} {cs : List Value}, NdOn S W n cs → NdOn S W' n cs := by
  intro n cs h
  induction h with
  | mk cs hkk hset hname hlen hrow hsub ih =>
    refine .mk cs hkk (hset.kept hs hk) hname hlen (fun j hj => ?_) ih
    obtain ⟨b, off, ha, hS, hb, hl, hc⟩ := hrow j hj
    exact ⟨b, off, ha, hS, Nat.lt_of_lt_of_le hb hs, hl, fun i hi => (cell_of_blk (hk b hS hb) _).trans (hc i hi)⟩
theorem NdOn.mono {S S' : Nat → Prop} {W : World} (hS : ∀ b, S b → S' b) : ∀ {n : Nd} {cs : List Value}, NdOn S W n cs → NdOn S' W n cs := by
  intro n cs h
  induction h with
  | mk cs hkk hset hname hlen hrow hsub ih =>
    refine .mk cs hkk (hset.mono hS) hname hlen (fun j hj => ?_) ih
    obtain ⟨b, off, ha, h1, hb, hl, hc⟩ := hrow j hj
    exact ⟨b, off, ha, hS b h1, hb, hl, hc⟩
theorem RRowOn.of {W : World} {v : Value} {l : List (Int × Int)} (h : RRow W v l) : RRowOn (· < W.heap.size) W v l := ⟨h, fun g off len cap e hl => by
  obtain ⟨a, c, hv, _, _, h3⟩ := h
  rw [hv] at e
  injection e with e1 e2 e3
  obtain ⟨b, off', ha, hb, _⟩ := h3 0 (by omega)
  rw [ha] at e1; injection e1 with e1; injection e1 with e1 _ _
  rw [← e1]; exact hb⟩
theorem NdOn.of {W : World} : ∀ {n : Nd} {cs : List Value}, NdIs W n cs → NdOn (· < W.heap.size) W n cs := by
  intro n cs h
  induction h with
  | mk cs hkk hset hname hlen hrow hsub ih =>
    refine .mk cs hkk (.of hset) hname hlen (fun j hj => ?_) ih
    obtain ⟨b, off, ha, hb, hl, hc⟩ := hrow j hj
    exact ⟨b, off, ha, hb, hb, hl, hc⟩
/-- The cells of nodes, one behind another, each in certain blocks. -/
def NdsOn (S : Nat → Prop) (W : World) (L : List Nd) (X : List (List Value)) : Prop := X.length = L.length ∧ ∀ j (h : j < L.length), ∃ x, X[j]? = some x ∧ NdOn S W L[j] x
theorem NdsOn.is {S : Nat → Prop} {W : World} {L : List Nd} {X : List (List Value)} (h : NdsOn S W L X) : NdsIs W L X := ⟨h.1, fun j hj => by
  obtain ⟨x, hx, hn⟩ := h.2 j hj
  exact ⟨x, hx, hn.is⟩⟩
theorem NdsOn.nil (S : Nat → Prop) (W : World) : NdsOn S W [] [] := ⟨rfl, fun j h => absurd h (by simp)⟩
theorem NdsOn.kept {S : Nat → Prop} {W W' : World} (hs : W.heap.size ≤ W'.heap.size) (hk : ∀ b, S b → b < W.heap.size → W'.heap[b]? = W.heap[b]?) {L : List Nd} {X : List (List Value)} (h : NdsOn S W L X) : NdsOn S W' L X := ⟨h.1, fun j hj => by
  obtain ⟨x, hx, hn⟩ := h.2 j hj
  exact ⟨x, hx, hn.kept hs hk⟩⟩
theorem NdsOn.mono {S S' : Nat → Prop} {W : World} (hS : ∀ b, S b → S' b) {L : List Nd} {X : List (List Value)} (h : NdsOn S W L X) : NdsOn S' W L X := ⟨h.1, fun j hj => by
  obtain ⟨x, hx, hn⟩ := h.2 j hj
  exact ⟨x, hx, hn.mono hS⟩⟩
theorem NdsOn.snoc {S : Nat → Prop} {W : World} {L : List Nd} {X : List (List Value)} (h : NdsOn S W L X) {n : Nd} {cs : List Value} (hn : NdOn S W n cs) : NdsOn S W (L ++ [n]) (X ++ [cs]) := by
  refine ⟨by simp [h.1], fun j hj => ?_⟩
  by_cases hlt : j < L.length
  · obtain ⟨x, hx, hx2⟩ := h.2 j hlt
    refine ⟨x, ?_, by rw [List.getElem_append_left hlt]; exact hx2⟩
    rw [List.getElem?_append_left (by rw [h.1]; exact hlt)]; exact hx
  · have e : j = L.length := by rw [List.length_append] at hj; simp at hj; omega
    subst e
    refine ⟨cs, ?_, ?_⟩
    · rw [List.getElem?_append_right (by rw [h.1]; exact Nat.le_refl _), h.1]; simp
    · rw [List.getElem_append_right (Nat.le_refl _)]; simpa using hn
/-- A node whose parts are a row that begins a block. -/
theorem NdOn.row {S : Nat → Prop} {W : World} {L : List Nd} {X : List (List Value)} (h : NdsOn S W L X) {g : Nat} (hS : S g) {cur : Array Value} {t : TypeId} {fr : Nat × Nat} (hg : W.heap[g]? = some (.cells cur t fr)) (hcur : ∀ j, j < X.flatten.length → cur[j]? = X.flatten[j]?)
    (hlen : L.length ≤ 8796093022208) {k num mn mx : Int} {set : List (Int × Int)} {name : ByteArray} {lz : Bool} {vs : Value} {cap : Nat} (hk : I64 k ∧ I64 num ∧ I64 mn ∧ I64 mx) (hset : RRowOn S W vs set) (hname : name.size ≤ 140737488351232) :
    NdOn S W (.mk k set num name mn mx lz L) [.int .i64 k, vs, .int .i64 num, .string name, .int .i64 mn, .int .i64 mx, .bool lz, .slice (some ⟨g, 0, none⟩) L.length cap] := by
  refine .mk (fun j => X.getD j []) hk hset hname hlen (fun j hj => ?_) (fun j hj => ?_)
  · obtain ⟨x, hx, hn⟩ := h.2 j hj
    have ex : X.getD j [] = x := by rw [List.getD, hx]; rfl
    refine ⟨g, 0, rfl, hS, (Array.getElem?_eq_some_iff.1 hg).1, by rw [ex]; exact hn.is.len, fun i hi => ?_⟩
    have hfl := flat8_at X h.is.len8 j i x hx hi
    have hxi : i < x.length := by rw [hn.is.len]; exact hi
    have hlt : j * 8 + i < X.flatten.length := by
      rw [List.getElem?_eq_getElem hxi] at hfl
      exact (List.getElem?_eq_some_iff.1 hfl).1
    rw [ex, ← hfl, ← hcur _ hlt, Nat.zero_add]
    simp [World.cell?, hg]
  · obtain ⟨x, hx, hn⟩ := h.2 j hj
    have ex : X.getD j [] = x := by rw [List.getD, hx]; rfl
    rw [ex]; exact hn
/-- All eight cells of a node's block written. -/
theorem set8_blk (w : World) (B : Nat) {u0 u1 u2 u3 u4 u5 u6 u7 : Value} (v0 v1 v2 v3 v4 v5 v6 v7 : Value) {t : TypeId} (h : w.heap[B]? = some (.cells #[u0, u1, u2, u3, u4, u5, u6, u7] t (0, 0))) :
    ((((((((w.setCell ⟨B, 0, none⟩ v0).setCell ⟨B, 1, none⟩ v1).setCell ⟨B, 2, none⟩ v2).setCell ⟨B, 3, none⟩ v3).setCell ⟨B, 4, none⟩ v4).setCell ⟨B, 5, none⟩ v5).setCell ⟨B, 6, none⟩ v6).setCell ⟨B, 7, none⟩ v7).heap[B]? = some (.cells #[v0, v1, v2, v3, v4, v5, v6, v7] t (0, 0)) := by
  have h0 := heap_setCell_same w B 0 _ t v0 h
  have h1 := heap_setCell_same _ B 1 _ t v1 h0
  have h2 := heap_setCell_same _ B 2 _ t v2 h1
  have h3 := heap_setCell_same _ B 3 _ t v3 h2
  have h4 := heap_setCell_same _ B 4 _ t v4 h3
  have h5 := heap_setCell_same _ B 5 _ t v5 h4
  have h6 := heap_setCell_same _ B 6 _ t v6 h5
  have h7 := heap_setCell_same _ B 7 _ t v7 h6
  simpa using h7
theorem set8_other (w : World) (B : Nat) (v0 v1 v2 v3 v4 v5 v6 v7 : Value) (k : Nat) (h : k ≠ B) : ((((((((w.setCell ⟨B, 0, none⟩ v0).setCell ⟨B, 1, none⟩ v1).setCell ⟨B, 2, none⟩ v2).setCell ⟨B, 3, none⟩ v3).setCell ⟨B, 4, none⟩ v4).setCell ⟨B, 5, none⟩ v5).setCell ⟨B, 6, none⟩ v6).setCell ⟨B, 7, none⟩ v7).heap[k]? = w.heap[k]? := by
  rw [heap_setCell_other _ _ _ _ (by exact h), heap_setCell_other _ _ _ _ (by exact h), heap_setCell_other _ _ _ _ (by exact h), heap_setCell_other _ _ _ _ (by exact h), heap_setCell_other _ _ _ _ (by exact h), heap_setCell_other _ _ _ _ (by exact h), heap_setCell_other _ _ _ _ (by exact h), heap_setCell_other _ _ _ _ (by exact h)]
theorem set8_size (w : World) (B : Nat) (v0 v1 v2 v3 v4 v5 v6 v7 : Value) : ((((((((w.setCell ⟨B, 0, none⟩ v0).setCell ⟨B, 1, none⟩ v1).setCell ⟨B, 2, none⟩ v2).setCell ⟨B, 3, none⟩ v3).setCell ⟨B, 4, none⟩ v4).setCell ⟨B, 5, none⟩ v5).setCell ⟨B, 6, none⟩ v6).setCell ⟨B, 7, none⟩ v7).heap.size = w.heap.size := by simp
theorem set8_below {n0 : Nat} {x w : World} (h : Below n0 x w) (B : Nat) (hB : n0 ≤ B) (v0 v1 v2 v3 v4 v5 v6 v7 : Value) : Below n0 x ((((((((w.setCell ⟨B, 0, none⟩ v0).setCell ⟨B, 1, none⟩ v1).setCell ⟨B, 2, none⟩ v2).setCell ⟨B, 3, none⟩ v3).setCell ⟨B, 4, none⟩ v4).setCell ⟨B, 5, none⟩ v5).setCell ⟨B, 6, none⟩ v6).setCell ⟨B, 7, none⟩ v7) :=
  (((((((h.setCell hB v0).setCell hB v1).setCell hB v2).setCell hB v3).setCell hB v4).setCell hB v5).setCell hB v6).setCell hB v7
end Go.Proofs.Ythhijakclinjaaa
namespace Go.Proofs.Ythhijakclinjaaa
open Go.RowKit
set_option linter.unusedVariables false
/-- A value that reads as a list of texts, wherever it begins. -/
def SRow (W : World) (v : Value) (L : List ByteArray) : Prop :=
  ∃ a cap, v = .slice a L.length cap ∧ L.length ≤ 8796093022208 ∧ ∀ j (hj : j < L.length), ∃ b off, a = some ⟨b, off, none⟩ ∧ b < W.heap.size ∧ W.cell? ⟨b, off + j, none⟩ = some (.string L[j]) ∧ L[j].size ≤ 140737488351232
theorem SRow.below {W W' : World} {v : Value} {L : List ByteArray} (h : SRow W v L) {B : Nat} (hB : W.heap.size ≤ B) (hb : Below B W W') : SRow W' v L := by
  obtain ⟨a, cap, hv, h1, hc⟩ := h
  refine ⟨a, cap, hv, h1, fun j hj => ?_⟩
  obtain ⟨b, off, ha, hlt, hcell, hs⟩ := hc j hj
  exact ⟨b, off, ha, Nat.lt_of_lt_of_le hlt hb.size, (hb.cell (p := ⟨b, off + j, none⟩) (by show b < B; omega)).trans hcell, hs⟩
def FewPost (L : List ByteArray) (many long : Int) (e : Ending) : Prop := ∃ b : Bool, e = .returned (.bool b) ∧ (b = true → (L.length : Int) ≤ many ∧ ∀ s ∈ L, (s.size : Int) ≤ long)
set_option maxRecDepth 100000 in
set_option maxHeartbeats 2000000 in
theorem few_any (W : World) (v : Value) (L : List ByteArray) (many long : Int) (h : SRow W v L) :
    Calls Try.prog 30 #[v, .int .i64 many, .int .i64 long] W fun e w' => FewPost L many long e ∧ W = w' := by
  obtain ⟨a, cap, rfl, hlen, hc⟩ := h
  obtain ⟨n, hn⟩ : ∃ n, L.length = n := ⟨_, rfl⟩
  have HN := Lib.hid hn
  have HC := Lib.hid hc
  rw [hn] at hlen ⊢
  clear hn hc
  by_cases hm : many < (n : Int)
  · go_enter Try.func30, Try.ntmps30
    go_wp2
    go_ret
    exact ⟨⟨false, rfl, (fun h => by cases h)⟩, rfl⟩
  go_enter Try.func30, Try.ntmps30
  go_wp2
  go_loop [7] (fun iv => ∃ k : Nat, k ≤ n ∧ iv = .int .i64 (k : Int) ∧ ∀ j (hj : j < L.length), j < k → (L[j].size : Int) ≤ long) (fun iv => n - (intOf iv).toNat)
  case atStart => exact ⟨0, Nat.zero_le _, rfl, fun j hj h => absurd h (by omega)⟩
  case round =>
    obtain ⟨k, hk, rfl, HA⟩ := hrel
    have HAA := Lib.hid HA
    clear HA
    by_cases hlt : k < n
    · obtain ⟨b, off, rfl, hb, hcell, hs⟩ := HC.out k (by rw [HN.out]; exact hlt)
      obtain ⟨s, hs0⟩ : ∃ s, L[k]'(by rw [HN.out]; exact hlt) = s := ⟨_, rfl⟩
      have HS0 := Lib.hid hs0
      rw [hs0] at hcell hs
      clear hs0
      by_cases hl : long < (s.size : Int)
      · go_wp2
        go_ret
        exact ⟨⟨false, rfl, (fun h => by cases h)⟩, rfl⟩
      · go_wp2
        go_round
        case rel =>
          refine ⟨k + 1, by omega, by go_num, fun j hj h => ?_⟩
          by_cases hjk : j < k
          · exact HAA.out j hj hjk
          · obtain rfl : j = k := by omega
            rw [HS0.out]; omega
        case measure => simp [intOf]; omega
    · obtain rfl : k = n := by omega
      go_wp2
      go_ret
      exact ⟨⟨true, rfl, fun _ => ⟨by have := HN.out; omega, fun s hs => by
        obtain ⟨j, hj, rfl⟩ := List.getElem_of_mem hs
        exact HAA.out j hj (by rw [← HN.out]; exact hj)⟩⟩, rfl⟩
set_option maxRecDepth 100000 in
set_option maxHeartbeats 2000000 in
theorem below_any (W : World) (n most : Int) (h0 : 1 ≤ most) (h1 : most ≤ 1000000000) (hn : I64 n) :
    Calls Try.prog 28 #[.int .i64 n, .int .i64 most] W fun e w' => ∃ k : Nat, e = .returned (.int .i64 (k : Int)) ∧ (k : Int) < most ∧ W = w' := by
  obtain ⟨hn0, hn1⟩ := hn
  have hm0 : ¬ most < 1 := by omega
  have hmz : ¬ most = 0 := by omega
  obtain ⟨r, hr⟩ : ∃ r, n.tmod most = r := ⟨_, rfl⟩
  have hr1 : r < most ∧ -most < r := by
    rw [← hr]
    have a1 := Int.tmod_lt_of_pos n (show 0 < most by omega)
    have a2 : -most < n.tmod most := by
      have a3 := Int.tmod_lt_of_pos (-n) (show 0 < most by omega)
      rw [Int.neg_tmod] at a3
      omega
    omega
  by_cases hneg : r < 0
  · obtain ⟨k, hk⟩ : ∃ k : Nat, r + most = (k : Int) := ⟨(r + most).toNat, by omega⟩
    have HK := Lib.hid hk
    go_enter Try.func28, Try.ntmps28
    go_wp2
    go_ret
    exact ⟨k, rfl, by have := HK.out; omega, rfl⟩
  · obtain ⟨k, hk⟩ : ∃ k : Nat, r = (k : Int) := ⟨r.toNat, by omega⟩
    have HK := Lib.hid hk
    go_enter Try.func28, Try.ntmps28
    go_wp2
    go_ret
    exact ⟨k, by rw [← HK.out]; rfl, by have := HK.out; omega, rfl⟩
end Go.Proofs.Ythhijakclinjaaa
namespace Go.Proofs.Ythhijakclinjaaa
open Go.RowKit
set_option linter.unusedVariables false
def repN : Nat → Nd
  | 0 => letN 97
  | i + 1 => .mk 9 [] 0 ⟨#[]⟩ 0 (-1) false [repN i]
theorem rep_subs (i : Nat) : Td.subs (repN (i + 1)) = [repN i] := rfl
theorem rep_all : ∀ (k d i : Nat), (Td.all k d (repN i)).length = min (i + 1) k
  | 0, d, i => by simp [Td.all]
  | k + 1, d, 0 => by
    rw [Td.all]
    show (1 : Nat) = _
    omega
  | k + 1, d, i + 1 => by
    rw [Td.all, rep_subs, List.flatMap_cons, List.flatMap_nil, List.append_nil, List.length_cons, rep_all k (d + 1) i]
    omega
theorem rep_dep : ∀ (k i : Nat), Td.dep k (repN i) = min (i + 1) k
  | 0, i => by simp [Td.dep]
  | k + 1, 0 => by
    rw [Td.dep]
    show (1 : Nat) = _
    omega
  | k + 1, i + 1 => by
    rw [Td.dep, rep_subs]
    show max 0 (Td.dep k (repN i)) + 1 = _
    rw [rep_dep k i]
    omega
theorem rep_fits : ∀ i : Nat, Td.fitsB (repN i) = true
  | 0 => fits_let 97 (by omega)
  | i + 1 => by
    rw [Td.told9 rfl]
    show (true && Td.sameB 1000 (.mk 9 [] 0 ⟨#[]⟩ 0 0 false []) (Td.zeroN 9)) = true
    rw [Td.same_zero, isE0]; rfl
theorem rep_kind : ∀ i : Nat, Td.kind (repN i) ≠ 6
  | 0 => by decide
  | i + 1 => (show (9 : Int) ≠ 6 by decide)
theorem rep_chk : ∀ (k d i : Nat), Td.chkF [] (Td.all k d (repN i)) = 0
  | 0, d, i => rfl
  | k + 1, d, 0 => by
    rw [Td.all, Td.chkF, if_neg (by rw [rep_fits]; decide), if_pos (rep_kind _)]; rfl
  | k + 1, d, i + 1 => by
    rw [Td.all, Td.chkF, if_neg (by rw [rep_fits]; decide), if_pos (rep_kind _), rep_subs, List.flatMap_cons, List.flatMap_nil, List.append_nil]
    exact rep_chk k (d + 1) i
theorem rep_check (k : Nat) : Td.checkN (repN k) = if 1000 ≤ k then 61 else 0 := by
  unfold Td.checkN
  rw [rep_dep]
  by_cases h : 1000 ≤ k
  · rw [if_pos (by omega), if_pos h]
  · rw [if_neg (by omega), if_neg h, rep_chk]
theorem rep_nul (k : Nat) (h : 1 ≤ k) : Td.nul 1000 (repN k) = true := by
  obtain ⟨i, rfl⟩ : ∃ i, k = i + 1 := ⟨k - 1, by omega⟩
  rfl
set_option maxRecDepth 100000 in
set_option maxHeartbeats 8000000 in
theorem walkTreeDeep (W : World) (many : Int) (hm : (Lit.int .i64 many).wf = true) : Calls Try.prog 7 #[.int .i64 many] W fun e w' => e = .returned (.bool true) ∧ Below W.heap.size W w' := by
  have hm2 : I64 many := by
    have q1 : IntKind.i64.min = -9223372036854775808 := rfl
    have q2 : IntKind.i64.max = 9223372036854775807 := rfl
    simp [Lit.wf, q1, q2] at hm
    exact hm
  have i97 : I64 97 := by unfold I64; omega
  go_enter Try.func7, Try.ntmps7
  go_wp2_with fail
  refine (works6_any W).mono ?_
  rintro e w0 ⟨rfl, hb0⟩
  have HB0 := Lib.hid hb0
  clear hb0
  go_wp2_with fail
  refine (below_any w0 many 201 (by omega) (by omega) hm2).mono ?_
  rintro e w1 ⟨q, rfl, hq, rfl⟩
  have hq2 : IntKind.i64.wrap (900 + (q : Int)) = ((900 + q : Nat) : Int) := by rw [IntKind.wrap_i64]; omega
  obtain ⟨k, hk⟩ : ∃ k, 900 + q = k := ⟨_, rfl⟩
  rw [hk] at hq2
  have hk0 : 900 ≤ k := by omega
  have hk1 : k ≤ 1100 := by omega
  clear hm hm2 hq hk
  go_wp2_with fail
  refine (let6_any w0 97 i97).mono ?_
  rintro e w2 ⟨rfl, hn2, hb2⟩
  have HB2 := Lib.hid (HB0.out.trans (hb2.mono HB0.out.size))
  have HN2 := Lib.hid (NdOn.of hn2)
  clear hn2 hb2
  have HX3 := Lib.hid (heap_alloc_new w2 (.cells #[.int .i64 3, .slice (some ⟨w0.heap.size + 1, 0, none⟩) 1 1, .int .i64 0, .string ⟨#[]⟩, .int .i64 0, .int .i64 0, .bool false, .slice none 0 0] 25))
  have HB3 := Lib.hid (HB2.out.alloc HB2.out.size (.cells #[.int .i64 3, .slice (some ⟨w0.heap.size + 1, 0, none⟩) 1 1, .int .i64 0, .string ⟨#[]⟩, .int .i64 0, .int .i64 0, .bool false, .slice none 0 0] 25))
  have HN3 : Hid (NdOn (· ≠ w2.heap.size) (w2.alloc (.cells #[.int .i64 3, .slice (some ⟨w0.heap.size + 1, 0, none⟩) 1 1, .int .i64 0, .string ⟨#[]⟩, .int .i64 0, .int .i64 0, .bool false, .slice none 0 0] 25)) (repN 0) _) := Lib.hid ((HN2.out.kept (by simp) (fun b hb _ => Below.heap_alloc _ _ _ hb)).mono (fun b hb => Nat.ne_of_lt hb))
  have hBW : W.heap.size ≤ w2.heap.size := HB2.out.size
  go_wp2
  go_loopw [13] (fun iv wr => ∃ (i : Nat) (cs : List Value), i ≤ k ∧ iv = .int .i64 (i : Int) ∧ Hid (NdOn (· ≠ w2.heap.size) wr (repN i) cs) ∧ Hid (wr.heap[w2.heap.size]? = some (.cells cs.toArray 25 (0, 0))) ∧ Hid (Below W.heap.size W wr)) (fun iv _ => k - (intOf iv).toNat)
  case atStart => exact ⟨0, _, Nat.zero_le _, rfl, HN3, HX3, HB3⟩
  case round =>
    obtain ⟨i, cs, hi, rfl, HN, HX, HB⟩ := hrel
    obtain ⟨u0, u1, u2, u3, u4, u5, u6, u7, sa, sc, a, c, hcs, F⟩ := HN.out.is.form_of
    subst hcs
    obtain ⟨rfl, rfl, rfl, rfl, rfl, rfl, rfl, rfl⟩ := F
    have b0 := blkc HX.out 0
    have b1 := blkc HX.out 1
    have b2 := blkc HX.out 2
    have b3 := blkc HX.out 3
    have b4 := blkc HX.out 4
    have b5 := blkc HX.out 5
    have b6 := blkc HX.out 6
    have b7 := blkc HX.out 7
    simp only [List.getElem?_toArray, List.getElem?_cons_zero, List.getElem?_cons_succ] at b0 b1 b2 b3 b4 b5 b6 b7
    have fz : ∀ j, wr.frozen? ⟨w2.heap.size, j, none⟩ = false := fun j => by simp [World.frozen?, HX.out]
    have f0 := fz 0
    have f1 := fz 1
    have f2 := fz 2
    have f3 := fz 3
    have f4 := fz 4
    have f5 := fz 5
    have f6 := fz 6
    have f7 := fz 7
    have hlt2 : w2.heap.size < wr.heap.size := (Array.getElem?_eq_some_iff.1 HX.out).1
    clear fz
    by_cases hlt : i < k
    · have ho := set8_other wr w2.heap.size (.int .i64 9) (.slice none 0 0) (.int .i64 0) (.string ⟨#[]⟩) (.int .i64 0) (.int .i64 (-1)) (.bool false) (.slice (some ⟨wr.heap.size, 0, none⟩) 1 1)
      have hs8 := set8_size wr w2.heap.size (.int .i64 9) (.slice none 0 0) (.int .i64 0) (.string ⟨#[]⟩) (.int .i64 0) (.int .i64 (-1)) (.bool false) (.slice (some ⟨wr.heap.size, 0, none⟩) 1 1)
      have hblk := set8_blk wr w2.heap.size (.int .i64 9) (.slice none 0 0) (.int .i64 0) (.string ⟨#[]⟩) (.int .i64 0) (.int .i64 (-1)) (.bool false) (.slice (some ⟨wr.heap.size, 0, none⟩) 1 1) HX.out
      obtain ⟨w8, hw8⟩ : ∃ w8, ((((((((wr.setCell ⟨w2.heap.size, 0, none⟩ (.int .i64 9)).setCell ⟨w2.heap.size, 1, none⟩ (.slice none 0 0)).setCell ⟨w2.heap.size, 2, none⟩ (.int .i64 0)).setCell ⟨w2.heap.size, 3, none⟩ (.string ⟨#[]⟩)).setCell ⟨w2.heap.size, 4, none⟩ (.int .i64 0)).setCell ⟨w2.heap.size, 5, none⟩ (.int .i64 (-1))).setCell ⟨w2.heap.size, 6, none⟩ (.bool false)).setCell ⟨w2.heap.size, 7, none⟩ (.slice (some ⟨wr.heap.size, 0, none⟩) 1 1)) = w8 := ⟨_, rfl⟩
      have hbl8 : Below W.heap.size W w8 := by rw [← hw8]; exact set8_below HB.out w2.heap.size hBW _ _ _ _ _ _ _ _
      rw [hw8] at ho hs8 hblk
      have hB' := hbl8.alloc hbl8.size (.cells #[.int .i64 (Td.kind (repN i)), .slice sa (Td.set (repN i)).length sc, .int .i64 (Td.num (repN i)), .string (Td.name (repN i)), .int .i64 (Td.mn (repN i)), .int .i64 (Td.mx (repN i)), .bool (Td.lazy (repN i)), .slice a (Td.subs (repN i)).length c] 25)
      have hX' : (w8.alloc (.cells #[.int .i64 (Td.kind (repN i)), .slice sa (Td.set (repN i)).length sc, .int .i64 (Td.num (repN i)), .string (Td.name (repN i)), .int .i64 (Td.mn (repN i)), .int .i64 (Td.mx (repN i)), .bool (Td.lazy (repN i)), .slice a (Td.subs (repN i)).length c] 25)).heap[w2.heap.size]? = some (.cells #[.int .i64 9, .slice none 0 0, .int .i64 0, .string ⟨#[]⟩, .int .i64 0, .int .i64 (-1), .bool false, .slice (some ⟨wr.heap.size, 0, none⟩) 1 1] 25 (0, 0)) := (Below.heap_alloc _ _ _ (by rw [hs8]; exact hlt2)).trans hblk
      have hN1 : NdOn (· ≠ w2.heap.size) (w8.alloc (.cells #[.int .i64 (Td.kind (repN i)), .slice sa (Td.set (repN i)).length sc, .int .i64 (Td.num (repN i)), .string (Td.name (repN i)), .int .i64 (Td.mn (repN i)), .int .i64 (Td.mx (repN i)), .bool (Td.lazy (repN i)), .slice a (Td.subs (repN i)).length c] 25)) (repN i) _ := HN.out.kept (by rw [World.size_alloc, hs8]; omega) (fun b hb hl => (Below.heap_alloc _ _ _ (by rw [hs8]; exact hl)).trans (ho b hb))
      have hg := heap_alloc_new w8 (.cells #[.int .i64 (Td.kind (repN i)), .slice sa (Td.set (repN i)).length sc, .int .i64 (Td.num (repN i)), .string (Td.name (repN i)), .int .i64 (Td.mn (repN i)), .int .i64 (Td.mx (repN i)), .bool (Td.lazy (repN i)), .slice a (Td.subs (repN i)).length c] 25)
      rw [hs8] at hg
      have hN' : NdOn (· ≠ w2.heap.size) (w8.alloc (.cells #[.int .i64 (Td.kind (repN i)), .slice sa (Td.set (repN i)).length sc, .int .i64 (Td.num (repN i)), .string (Td.name (repN i)), .int .i64 (Td.mn (repN i)), .int .i64 (Td.mx (repN i)), .bool (Td.lazy (repN i)), .slice a (Td.subs (repN i)).length c] 25)) (repN (i + 1)) [.int .i64 9, .slice none 0 0, .int .i64 0, .string ⟨#[]⟩, .int .i64 0, .int .i64 (-1), .bool false, .slice (some ⟨wr.heap.size, 0, none⟩) 1 1] :=
        NdOn.row ((NdsOn.nil _ _).snoc hN1) (by omega) hg (fun j hj => by simp) (by simp) ⟨by unfold I64; omega, i64_0, i64_0, by unfold I64; omega⟩ RRowOn.nil (Nat.zero_le _)
      have HN' := Lib.hid hN'
      have HX' := Lib.hid hX'
      have HB' := Lib.hid hB'
      have HW8 := Lib.hid hw8
      clear hN' hX' hB' hN1 hg hblk ho hbl8 hw8 hs8
      go_wp2
      rw [HW8.out]
      refine ⟨⟨i + 1, _, by omega, by go_num, HN', HX', HB'⟩, by simp [intOf]; omega⟩
    · obtain rfl : i = k := by omega
      have HNI := Lib.hid HN.out.is
      clear f0 f1 f2 f3 f4 f5 f6 f7 HN
      have hw1 : IntKind.i64.wrap ((i : Int) + 1) = (i : Int) + 1 := by rw [IntKind.wrap_i64]; omega
      by_cases h8 : i = 1000
      · have h9 : 1000 ≤ i := by omega
        have h9i : (1000 : Int) ≤ (i : Int) := by omega
        have hm2 : ¬ (1000 : Int) < (i : Int) := by omega
        have hm3 : (1000 : Int) < (i : Int) + 1 := by omega
        have hm4 : ((1001 : Int) == (i : Int) + 1) = true := by rw [beq_iff_eq]; omega
        clear h8
        go_wp2_with fail
        refine (trCheck_any wr (repN i) _ HNI.out (by rw [rep_all]; omega)).mono ?_
        rintro e x0 ⟨rfl, hb⟩
        rw [rep_check, if_pos h9]
        replace HNI := Lib.hid (HNI.out.kept hb)
        replace HX := Lib.hid ((hb.block _ (Array.getElem?_eq_some_iff.1 HX.out).1).trans HX.out)
        replace HB := Lib.hid (HB.out.trans (hb.mono HB.out.size))
        clear hb b0 b1 b2 b3 b4 b5 b6 b7
        have b0 := blkc HX.out 0
        have b1 := blkc HX.out 1
        have b2 := blkc HX.out 2
        have b3 := blkc HX.out 3
        have b4 := blkc HX.out 4
        have b5 := blkc HX.out 5
        have b6 := blkc HX.out 6
        have b7 := blkc HX.out 7
        simp only [List.getElem?_toArray, List.getElem?_cons_zero, List.getElem?_cons_succ] at b0 b1 b2 b3 b4 b5 b6 b7
        go_wp2_with fail
        refine (trSize_any x0 (repN i) _ HNI.out (by rw [rep_all]; omega)).mono ?_
        rintro e x1 ⟨rfl, hb⟩
        rw [rep_all, show min (i + 1) 1000 = 1000 from by omega]
        replace HNI := Lib.hid (HNI.out.kept hb)
        replace HX := Lib.hid ((hb.block _ (Array.getElem?_eq_some_iff.1 HX.out).1).trans HX.out)
        replace HB := Lib.hid (HB.out.trans (hb.mono HB.out.size))
        clear hb b0 b1 b2 b3 b4 b5 b6 b7
        have b0 := blkc HX.out 0
        have b1 := blkc HX.out 1
        have b2 := blkc HX.out 2
        have b3 := blkc HX.out 3
        have b4 := blkc HX.out 4
        have b5 := blkc HX.out 5
        have b6 := blkc HX.out 6
        have b7 := blkc HX.out 7
        simp only [List.getElem?_toArray, List.getElem?_cons_zero, List.getElem?_cons_succ] at b0 b1 b2 b3 b4 b5 b6 b7
        go_wp2_with fail
        refine (trDepth_any x1 (repN i) _ HNI.out).mono ?_
        rintro e x2 ⟨rfl, hb⟩
        rw [rep_dep, show min (i + 1) 1001 = 1001 from by omega]
        replace HNI := Lib.hid (HNI.out.kept hb)
        replace HX := Lib.hid ((hb.block _ (Array.getElem?_eq_some_iff.1 HX.out).1).trans HX.out)
        replace HB := Lib.hid (HB.out.trans (hb.mono HB.out.size))
        clear hb b0 b1 b2 b3 b4 b5 b6 b7
        have b0 := blkc HX.out 0
        have b1 := blkc HX.out 1
        have b2 := blkc HX.out 2
        have b3 := blkc HX.out 3
        have b4 := blkc HX.out 4
        have b5 := blkc HX.out 5
        have b6 := blkc HX.out 6
        have b7 := blkc HX.out 7
        simp only [List.getElem?_toArray, List.getElem?_cons_zero, List.getElem?_cons_succ] at b0 b1 b2 b3 b4 b5 b6 b7
        go_wp2_with fail
        refine (trNullable_any x2 (repN i) _ HNI.out).mono ?_
        rintro e x3 ⟨rfl, hb⟩
        rw [rep_nul i (by omega)]
        replace HNI := Lib.hid (HNI.out.kept hb)
        replace HX := Lib.hid ((hb.block _ (Array.getElem?_eq_some_iff.1 HX.out).1).trans HX.out)
        replace HB := Lib.hid (HB.out.trans (hb.mono HB.out.size))
        clear hb b0 b1 b2 b3 b4 b5 b6 b7
        go_wp2
        go_ret
        exact ⟨rfl, HB.out⟩
      by_cases h9 : 1000 ≤ i
      · have h9i : (1000 : Int) ≤ (i : Int) := by omega
        have hm2 : (1000 : Int) < (i : Int) := by omega
        have hm3 : (1000 : Int) < (i : Int) + 1 := by omega
        go_wp2_with fail
        refine (trCheck_any wr (repN i) _ HNI.out (by rw [rep_all]; omega)).mono ?_
        rintro e x0 ⟨rfl, hb⟩
        rw [rep_check, if_pos h9]
        replace HNI := Lib.hid (HNI.out.kept hb)
        replace HX := Lib.hid ((hb.block _ (Array.getElem?_eq_some_iff.1 HX.out).1).trans HX.out)
        replace HB := Lib.hid (HB.out.trans (hb.mono HB.out.size))
        clear hb b0 b1 b2 b3 b4 b5 b6 b7
        have b0 := blkc HX.out 0
        have b1 := blkc HX.out 1
        have b2 := blkc HX.out 2
        have b3 := blkc HX.out 3
        have b4 := blkc HX.out 4
        have b5 := blkc HX.out 5
        have b6 := blkc HX.out 6
        have b7 := blkc HX.out 7
        simp only [List.getElem?_toArray, List.getElem?_cons_zero, List.getElem?_cons_succ] at b0 b1 b2 b3 b4 b5 b6 b7
        go_wp2_with fail
        refine (trSize_any x0 (repN i) _ HNI.out (by rw [rep_all]; omega)).mono ?_
        rintro e x1 ⟨rfl, hb⟩
        rw [rep_all, show min (i + 1) 1000 = 1000 from by omega]
        replace HNI := Lib.hid (HNI.out.kept hb)
        replace HX := Lib.hid ((hb.block _ (Array.getElem?_eq_some_iff.1 HX.out).1).trans HX.out)
        replace HB := Lib.hid (HB.out.trans (hb.mono HB.out.size))
        clear hb b0 b1 b2 b3 b4 b5 b6 b7
        have b0 := blkc HX.out 0
        have b1 := blkc HX.out 1
        have b2 := blkc HX.out 2
        have b3 := blkc HX.out 3
        have b4 := blkc HX.out 4
        have b5 := blkc HX.out 5
        have b6 := blkc HX.out 6
        have b7 := blkc HX.out 7
        simp only [List.getElem?_toArray, List.getElem?_cons_zero, List.getElem?_cons_succ] at b0 b1 b2 b3 b4 b5 b6 b7
        go_wp2_with fail
        refine (trDepth_any x1 (repN i) _ HNI.out).mono ?_
        rintro e x2 ⟨rfl, hb⟩
        rw [rep_dep, show min (i + 1) 1001 = 1001 from by omega]
        replace HNI := Lib.hid (HNI.out.kept hb)
        replace HX := Lib.hid ((hb.block _ (Array.getElem?_eq_some_iff.1 HX.out).1).trans HX.out)
        replace HB := Lib.hid (HB.out.trans (hb.mono HB.out.size))
        clear hb b0 b1 b2 b3 b4 b5 b6 b7
        have b0 := blkc HX.out 0
        have b1 := blkc HX.out 1
        have b2 := blkc HX.out 2
        have b3 := blkc HX.out 3
        have b4 := blkc HX.out 4
        have b5 := blkc HX.out 5
        have b6 := blkc HX.out 6
        have b7 := blkc HX.out 7
        simp only [List.getElem?_toArray, List.getElem?_cons_zero, List.getElem?_cons_succ] at b0 b1 b2 b3 b4 b5 b6 b7
        go_wp2_with fail
        refine (trNullable_any x2 (repN i) _ HNI.out).mono ?_
        rintro e x3 ⟨rfl, hb⟩
        rw [rep_nul i (by omega)]
        replace HNI := Lib.hid (HNI.out.kept hb)
        replace HX := Lib.hid ((hb.block _ (Array.getElem?_eq_some_iff.1 HX.out).1).trans HX.out)
        replace HB := Lib.hid (HB.out.trans (hb.mono HB.out.size))
        clear hb b0 b1 b2 b3 b4 b5 b6 b7
        go_wp2
        go_ret
        exact ⟨rfl, HB.out⟩
      · have h9i : ¬ (1000 : Int) ≤ (i : Int) := by omega
        have hm2 : ¬ (1000 : Int) < (i : Int) := by omega
        have hm3 : ¬ (1000 : Int) < (i : Int) + 1 := by omega
        go_wp2_with fail
        refine (trCheck_any wr (repN i) _ HNI.out (by rw [rep_all]; omega)).mono ?_
        rintro e x0 ⟨rfl, hb⟩
        rw [rep_check, if_neg h9]
        replace HNI := Lib.hid (HNI.out.kept hb)
        replace HX := Lib.hid ((hb.block _ (Array.getElem?_eq_some_iff.1 HX.out).1).trans HX.out)
        replace HB := Lib.hid (HB.out.trans (hb.mono HB.out.size))
        clear hb b0 b1 b2 b3 b4 b5 b6 b7
        have b0 := blkc HX.out 0
        have b1 := blkc HX.out 1
        have b2 := blkc HX.out 2
        have b3 := blkc HX.out 3
        have b4 := blkc HX.out 4
        have b5 := blkc HX.out 5
        have b6 := blkc HX.out 6
        have b7 := blkc HX.out 7
        simp only [List.getElem?_toArray, List.getElem?_cons_zero, List.getElem?_cons_succ] at b0 b1 b2 b3 b4 b5 b6 b7
        go_wp2_with fail
        refine (trSize_any x0 (repN i) _ HNI.out (by rw [rep_all]; omega)).mono ?_
        rintro e x1 ⟨rfl, hb⟩
        rw [rep_all, show min (i + 1) 1000 = i + 1 from by omega]
        replace HNI := Lib.hid (HNI.out.kept hb)
        replace HX := Lib.hid ((hb.block _ (Array.getElem?_eq_some_iff.1 HX.out).1).trans HX.out)
        replace HB := Lib.hid (HB.out.trans (hb.mono HB.out.size))
        clear hb b0 b1 b2 b3 b4 b5 b6 b7
        have b0 := blkc HX.out 0
        have b1 := blkc HX.out 1
        have b2 := blkc HX.out 2
        have b3 := blkc HX.out 3
        have b4 := blkc HX.out 4
        have b5 := blkc HX.out 5
        have b6 := blkc HX.out 6
        have b7 := blkc HX.out 7
        simp only [List.getElem?_toArray, List.getElem?_cons_zero, List.getElem?_cons_succ] at b0 b1 b2 b3 b4 b5 b6 b7
        go_wp2_with fail
        refine (trDepth_any x1 (repN i) _ HNI.out).mono ?_
        rintro e x2 ⟨rfl, hb⟩
        rw [rep_dep, show min (i + 1) 1001 = i + 1 from by omega]
        replace HNI := Lib.hid (HNI.out.kept hb)
        replace HX := Lib.hid ((hb.block _ (Array.getElem?_eq_some_iff.1 HX.out).1).trans HX.out)
        replace HB := Lib.hid (HB.out.trans (hb.mono HB.out.size))
        clear hb b0 b1 b2 b3 b4 b5 b6 b7
        have b0 := blkc HX.out 0
        have b1 := blkc HX.out 1
        have b2 := blkc HX.out 2
        have b3 := blkc HX.out 3
        have b4 := blkc HX.out 4
        have b5 := blkc HX.out 5
        have b6 := blkc HX.out 6
        have b7 := blkc HX.out 7
        simp only [List.getElem?_toArray, List.getElem?_cons_zero, List.getElem?_cons_succ] at b0 b1 b2 b3 b4 b5 b6 b7
        go_wp2_with fail
        refine (trNullable_any x2 (repN i) _ HNI.out).mono ?_
        rintro e x3 ⟨rfl, hb⟩
        rw [rep_nul i (by omega)]
        replace HNI := Lib.hid (HNI.out.kept hb)
        replace HX := Lib.hid ((hb.block _ (Array.getElem?_eq_some_iff.1 HX.out).1).trans HX.out)
        replace HB := Lib.hid (HB.out.trans (hb.mono HB.out.size))
        clear hb b0 b1 b2 b3 b4 b5 b6 b7
        go_wp2
        go_ret
        exact ⟨rfl, HB.out⟩
end Go.Proofs.Ythhijakclinjaaa
