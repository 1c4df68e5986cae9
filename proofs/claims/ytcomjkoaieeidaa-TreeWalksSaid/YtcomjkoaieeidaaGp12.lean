/- Mathematics of TreeWalks: trees that fit are compared alike with any fuel, and are like themselves. · A node over a row of nodes that lies in one block. -/
import Derived.Test.YtcomjkoaieeidaaGp9
import Derived.Test.YtcomjkoaieeidaaGp11
import Derived.Test.YtcomjkoaieeidaaGp7
namespace Go.Proofs.Ytcomjkoaieeidaa
open Go.RowKit
set_option linter.unusedVariables false
namespace Td
theorem fit_mono : ∀ (k j : Nat) (n : Nd), fit k n → k ≤ j → fit j n
  | 0, _, _, h, _ => absurd h (by simp [fit])
  | k + 1, 0, _, _, hj => absurd hj (by omega)
  | k + 1, j + 1, n, h, hj => ⟨h.1, h.2.1, h.2.2.1, fun m hm => fit_mono k j m (h.2.2.2 m hm) (by omega)⟩
theorem all_congr {l : List (Nd × Nd)} {f g : Nd × Nd → Bool} (h : ∀ p ∈ l, f p = g p) : l.all f = l.all g := by
  induction l with
  | nil => rfl
  | cons x l ih => rw [List.all_cons, List.all_cons, h x (by simp), ih (fun p hp => h p (by simp [hp]))]
theorem same_fuel : ∀ (k j j' : Nat) (a b : Nd), fit k a → k ≤ j → k ≤ j' → sameB j a b = sameB j' a b
  | 0, _, _, _, _, h, _, _ => absurd h (by simp [fit])
  | k + 1, 0, _, _, _, _, h, _ => absurd h (by omega)
  | k + 1, j + 1, 0, _, _, _, _, h => absurd h (by omega)
  | k + 1, j + 1, j' + 1, a, b, h, h1, h2 => by
    rw [sameB, sameB]
    congr 1
    exact all_congr (fun p hp => same_fuel k j j' p.1 p.2 (h.2.2.2 p.1 (List.of_mem_zip hp).1) (by omega) (by omega))
theorem same1_self (a : Nd) : same1 a a = true := by simp [same1]
theorem zip_self {l : List Nd} {p : Nd × Nd} (h : p ∈ l.zip l) : p.1 = p.2 := by
  induction l with
  | nil => simp at h
  | cons x l ih =>
    rw [List.zip_cons_cons] at h
    rcases List.mem_cons.1 h with rfl | h
    · rfl
    · exact ih h
theorem same_self : ∀ (k j : Nat) (a : Nd), fit k a → k ≤ j → sameB j a a = true
  | 0, _, _, h, _ => absurd h (by simp [fit])
  | k + 1, 0, _, _, h => absurd h (by omega)
  | k + 1, j + 1, a, h, h1 => by
    rw [sameB, same1_self, Bool.true_and, List.all_eq_true]
    intro p hp
    rw [zip_self hp]
    have h2 := (List.of_mem_zip hp).2
    exact same_self k j p.2 (h.2.2.2 p.2 h2) (by omega)
theorem all_fit : ∀ (k d j : Nat) (n : Nd), fit j n → ∀ p ∈ all k d n, fit j p.2
  | 0, _, _, _, _, p, hp => by simp [all] at hp
  | k + 1, d, 0, n, h, p, hp => absurd h (by simp [fit])
  | k + 1, d, j + 1, n, h, p, hp => by
    rw [all] at hp
    rcases List.mem_cons.1 hp with rfl | hp
    · exact h
    · obtain ⟨m, hm, hp⟩ := List.mem_flatMap.1 hp
      exact fit_mono j (j + 1) p.2 (all_fit k (d + 1) j m (h.2.2.2 m hm) p hp) (by omega)
end Td
end Go.Proofs.Ytcomjkoaieeidaa
namespace Go.Proofs.Ytcomjkoaieeidaa
open Go.RowKit
set_option linter.unusedVariables false
theorem flat8_at : ∀ (X : List (List Value)), (∀ x ∈ X, x.length = 8) → ∀ (j q : Nat) (x : List Value), X[j]? = some x → q < 8 → X.flatten[j * 8 + q]? = x[q]?
  | [], _, j, q, x, hx, _ => by simp at hx
  | y :: X, h, 0, q, x, hx, hq => by
    simp at hx
    subst hx
    rw [List.flatten_cons, Nat.zero_mul, Nat.zero_add, List.getElem?_append_left (by rw [h y (by simp)]; exact hq)]
  | y :: X, h, j + 1, q, x, hx, hq => by
    have hy := h y (by simp)
    rw [List.flatten_cons, List.getElem?_append_right (by rw [hy]; omega), hy]
    have e : (j + 1) * 8 + q - 8 = j * 8 + q := by omega
    rw [e]
    exact flat8_at X (fun z hz => h z (List.mem_cons_of_mem _ hz)) j q x (by simpa using hx) hq
/-- The cells of nodes, one behind another. -/
def NdsIs (W : World) (L : List Nd) (X : List (List Value)) : Prop := X.length = L.length ∧ ∀ j (h : j < L.length), ∃ x, X[j]? = some x ∧ NdIs W L[j] x
theorem NdsIs.len8 {W : World} {L : List Nd} {X : List (List Value)} (h : NdsIs W L X) : ∀ x ∈ X, x.length = 8 := fun x hx => by
  obtain ⟨j, hj, rfl⟩ := List.getElem_of_mem hx
  obtain ⟨y, hy, hn⟩ := h.2 j (by rw [← h.1]; exact hj)
  rw [List.getElem?_eq_getElem hj] at hy
  rw [Option.some.inj hy]; exact hn.len
theorem NdsIs.kept {W W' : World} {L : List Nd} {X : List (List Value)} (h : NdsIs W L X) (hb : Below W.heap.size W W') : NdsIs W' L X := ⟨h.1, fun j hj => by
  obtain ⟨x, hx, hn⟩ := h.2 j hj
  exact ⟨x, hx, hn.kept hb⟩⟩
theorem NdsIs.nil (W : World) : NdsIs W [] [] := ⟨rfl, fun j h => absurd h (by simp)⟩
theorem NdsIs.snoc {W : World} {L : List Nd} {X : List (List Value)} (h : NdsIs W L X) {n : Nd} {cs : List Value} (hn : NdIs W n cs) : NdsIs W (L ++ [n]) (X ++ [cs]) := by
  refine ⟨by simp [h.1], fun j hj => ?_⟩
  by_cases hlt : j < L.length
  · obtain ⟨x, hx, hx2⟩ := h.2 j hlt
    refine ⟨x, ?_, by rw [List.getElem_append_left hlt]; exact hx2⟩
    rw [List.getElem?_append_left (by rw [h.1]; exact hlt)]; exact hx
  · have e : j = L.length := by rw [List.length_append] at hj; simp at hj; omega
    subst e
    refine ⟨cs, ?_, ?_⟩
    · rw [List.getElem?_append_right (by rw [h.1]; exact Nat.le_refl _), h.1]; simp
    · rw [List.getElem_append_right (Nat.le_refl _)]; simpa using hn
/-- A node whose parts are a row that begins a block. -/
theorem NdIs.row {W : World} {L : List Nd} {X : List (List Value)} (h : NdsIs W L X) {g : Nat} {cur : Array Value} {t : TypeId} {fr : Nat × Nat} (hg : W.heap[g]? = some (.cells cur t fr)) (hcur : ∀ j, j < X.flatten.length → cur[j]? = X.flatten[j]?)
    (hlen : L.length ≤ 8796093022208) {k num mn mx : Int} {set : List (Int × Int)} {name : ByteArray} {lz : Bool} {vs : Value} {cap : Nat} (hk : I64 k ∧ I64 num ∧ I64 mn ∧ I64 mx) (hset : RRow W vs set) (hname : name.size ≤ 140737488351232) :
    NdIs W (.mk k set num name mn mx lz L) [.int .i64 k, vs, .int .i64 num, .string name, .int .i64 mn, .int .i64 mx, .bool lz, .slice (some ⟨g, 0, none⟩) L.length cap] := by
  refine .mk (fun j => X.getD j []) hk hset hname hlen (fun j hj => ?_) (fun j hj => ?_)
  · obtain ⟨x, hx, hn⟩ := h.2 j hj
    have ex : X.getD j [] = x := by rw [List.getD, hx]; rfl
    refine ⟨g, 0, rfl, (Array.getElem?_eq_some_iff.1 hg).1, by rw [ex]; exact hn.len, fun i hi => ?_⟩
    have hfl := flat8_at X h.len8 j i x hx hi
    have hxi : i < x.length := by rw [hn.len]; exact hi
    have hlt : j * 8 + i < X.flatten.length := by
      rw [List.getElem?_eq_getElem hxi] at hfl
      exact (List.getElem?_eq_some_iff.1 hfl).1
    rw [ex, ← hfl, ← hcur _ hlt, Nat.zero_add]
    simp [World.cell?, hg]
  · obtain ⟨x, hx, hn⟩ := h.2 j hj
    have ex : X.getD j [] = x := by rw [List.getD, hx]; rfl
    rw [ex]; exact hn
end Go.Proofs.Ytcomjkoaieeidaa
