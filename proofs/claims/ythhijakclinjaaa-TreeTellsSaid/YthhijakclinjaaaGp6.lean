/- The eight cells of a node, each by its form. · A node over a row of nodes that lies in one block. -/
import Derived.Test.YthhijakclinjaaaGp5
namespace Go.Proofs.Ythhijakclinjaaa
open Go.RowKit
set_option linter.unusedVariables false
/-- A node's eight cells, each by its form. -/
structure NdForm (n : Nd) (u0 u1 u2 u3 u4 u5 u6 u7 : Value) (sa : Option Addr) (sc : Nat) (a : Option Addr) (c : Nat) : Prop where
  e0 : u0 = .int .i64 (Td.kind n)
  e1 : u1 = .slice sa (Td.set n).length sc
  e2 : u2 = .int .i64 (Td.num n)
  e3 : u3 = .string (Td.name n)
  e4 : u4 = .int .i64 (Td.mn n)
  e5 : u5 = .int .i64 (Td.mx n)
  e6 : u6 = .bool (Td.lazy n)
  e7 : u7 = .slice a (Td.subs n).length c
theorem NdIs.form {W : World} {n : Nd} {u0 u1 u2 u3 u4 u5 u6 u7 : Value} (h : NdIs W n [u0, u1, u2, u3, u4, u5, u6, u7]) : ∃ sa sc a c, NdForm n u0 u1 u2 u3 u4 u5 u6 u7 sa sc a c := by
  obtain ⟨vs, a, cap, C, hC⟩ := h.cells
  obtain ⟨sa, sc, hvs, _⟩ := hC.set
  have e := hC.eq
  simp only [List.cons.injEq, and_true] at e
  obtain ⟨e0, e1, e2, e3, e4, e5, e6, e7⟩ := e
  exact ⟨sa, sc, a, cap, e0, e1.trans hvs, e2, e3, e4, e5, e6, e7⟩
theorem NdIs.form_of {W : World} {n : Nd} {cs : List Value} (h : NdIs W n cs) : ∃ u0 u1 u2 u3 u4 u5 u6 u7 sa sc a c, cs = [u0, u1, u2, u3, u4, u5, u6, u7] ∧ NdForm n u0 u1 u2 u3 u4 u5 u6 u7 sa sc a c := by
  match cs, h.len with
  | [u0, u1, u2, u3, u4, u5, u6, u7], _ =>
    obtain ⟨sa, sc, a, c, hf⟩ := h.form
    exact ⟨u0, u1, u2, u3, u4, u5, u6, u7, sa, sc, a, c, rfl, hf⟩
end Go.Proofs.Ythhijakclinjaaa
namespace Go.Proofs.Ythhijakclinjaaa
open Go.RowKit
set_option linter.unusedVariables false
theorem flat8_at : ∀ (X : List (List Value)), (∀ x ∈ X, x.length = 8) → ∀ (j q : Nat) (x : List Value), X[j]? = some x → q < 8 → X.flatten[j * 8 + q]? = x[q]?
  | [], _, j, q, x, hx, _ => by simp at hx
  | y :: X, h, 0, q, x, hx, hq => by
    simp at hx
    subst hx
    rw [List.flatten_cons, Nat.zero_mul, Nat.zero_add, List.getElem?_append_left (by rw [h y (by simp)]; exact hq)]
  | y :: X, h, j + 1, q, x, hx, hq => by
    have hy := h y (by simp)
    rw [List.flatten_cons, List.getElem?_append_right (by rw [hy]; omega), hy]
    have e : (j + 1) * 8 + q - 8 = j * 8 + q := by omega
    rw [e]
    exact flat8_at X (fun z hz => h z (List.mem_cons_of_mem _ hz)) j q x (by simpa using hx) hq
/-- The cells of nodes, one behind another. -/
def NdsIs (W : World) (L : List Nd) (X : List (List Value)) : Prop := X.length = L.length ∧ ∀ j (h : j < L.length), ∃ x, X[j]? = some x ∧ NdIs W L[j] x
theorem NdsIs.len8 {W : World} {L : List Nd} {X : List (List Value)} (h : NdsIs W L X) : ∀ x ∈ X, x.length = 8 := fun x hx => by
  obtain ⟨j, hj, rfl⟩ := List.getElem_of_mem hx
  obtain ⟨y, hy, hn⟩ := h.2 j (by rw [← h.1]; exact hj)
  rw [List.getElem?_eq_getElem hj] at hy
  rw [Option.some.inj hy]; exact hn.len
theorem NdsIs.kept {W W' : World} {L : List Nd} {X : List (List Value)} (h : NdsIs W L X) (hb : Below W.heap.size W W') : NdsIs W' L X := ⟨h.1, fun j hj => by
  obtain ⟨x, hx, hn⟩ := h.2 j hj
  exact ⟨x, hx, hn.kept hb⟩⟩
theorem NdsIs.nil (W : World) : NdsIs W [] [] := ⟨rfl, fun j h => absurd h (by simp)⟩
theorem NdsIs.snoc {W : World} {L : List Nd} {X : List (List Value)} (h : NdsIs W L X) {n : Nd} {cs : List Value} (hn : NdIs W n cs) : NdsIs W (L ++ [n]) (X ++ [cs]) := by
  refine ⟨by simp [h.1], fun j hj => ?_⟩
  by_cases hlt : j < L.length
  · obtain ⟨x, hx, hx2⟩ := h.2 j hlt
    refine ⟨x, ?_, by rw [List.getElem_append_left hlt]; exact hx2⟩
    rw [List.getElem?_append_left (by rw [h.1]; exact hlt)]; exact hx
  · have e : j = L.length := by rw [List.length_append] at hj; simp at hj; omega
    subst e
    refine ⟨cs, ?_, ?_⟩
    · rw [List.getElem?_append_right (by rw [h.1]; exact Nat.le_refl _), h.1]; simp
    · rw [List.getElem_append_right (Nat.le_refl _)]; simpa using hn
/-- A node whose parts are a row that begins a block. -/
theorem NdIs.row {W : World} {L : List Nd} {X : List (List Value)} (h : NdsIs W L X) {g : Nat} {cur : Array Value} {t : TypeId} {fr : Nat × Nat} (hg : W.heap[g]? = some (.cells cur t fr)) (hcur : ∀ j, j < X.flatten.length → cur[j]? = X.flatten[j]?)
    (hlen : L.length ≤ 8796093022208) {k num mn mx : Int} {set : List (Int × Int)} {name : ByteArray} {lz : Bool} {vs : Value} {cap : Nat} (hk : I64 k ∧ I64 num ∧ I64 mn ∧ I64 mx) (hset : RRow W vs set) (hname : name.size ≤ 140737488351232) :
    NdIs W (.mk k set num name mn mx lz L) [.int .i64 k, vs, .int .i64 num, .string name, .int .i64 mn, .int .i64 mx, .bool lz, .slice (some ⟨g, 0, none⟩) L.length cap] := by
  refine .mk (fun j => X.getD j []) hk hset hname hlen (fun j hj => ?_) (fun j hj => ?_)
  · obtain ⟨x, hx, hn⟩ := h.2 j hj
    have ex : X.getD j [] = x := by rw [List.getD, hx]; rfl
    refine ⟨g, 0, rfl, (Array.getElem?_eq_some_iff.1 hg).1, by rw [ex]; exact hn.len, fun i hi => ?_⟩
    have hfl := flat8_at X h.len8 j i x hx hi
    have hxi : i < x.length := by rw [hn.len]; exact hi
    have hlt : j * 8 + i < X.flatten.length := by
      rw [List.getElem?_eq_getElem hxi] at hfl
      exact (List.getElem?_eq_some_iff.1 hfl).1
    rw [ex, ← hfl, ← hcur _ hlt, Nat.zero_add]
    simp [World.cell?, hg]
  · obtain ⟨x, hx, hn⟩ := h.2 j hj
    have ex : X.getD j [] = x := by rw [List.getD, hx]; rfl
    rw [ex]; exact hn
end Go.Proofs.Ythhijakclinjaaa
