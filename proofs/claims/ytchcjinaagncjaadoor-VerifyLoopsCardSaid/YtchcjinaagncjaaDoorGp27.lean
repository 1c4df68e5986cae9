/- Places in the order: mathematics. · The landed prog: Show. · The landed prog: strings.Cut, strconv.Atoi; number, opOf. -/
import Derived.Test.YtchcjinaagncjaaDoorGp10
import Derived.Test.YtchcjinaagncjaaDoorGp9
import Derived.Deep.RegionHeld3
import Derived.Lib.ConvBytes
namespace Go.Proofs.YtchcjinaagncjaaDoor.Pgm
set_option linter.unusedVariables false
/-- Where a number stands. -/
def pos : List Nat → Nat → Nat
  | [], _ => 0
  | a :: O, t => if a = t then 0 else pos O t + 1
theorem pos_lt : ∀ {O : List Nat} {t : Nat}, t ∈ O → pos O t < O.length
  | a :: O, t, h => by
    unfold pos
    split
    · simp
    · rename_i hne
      rcases List.mem_cons.1 h with e | h
      · exact absurd e.symm hne
      · have := pos_lt h; simp; omega
theorem pos_get : ∀ {O : List Nat} {t : Nat} (h : pos O t < O.length), O[pos O t] = t
  | [], _, h => absurd h (by simp)
  | a :: O, t, h => by
    by_cases e : a = t
    · subst e
      have : pos (a :: O) a = 0 := by unfold pos; rw [if_pos rfl]
      simp only [this, List.getElem_cons_zero]
    · have h1 : pos (a :: O) t = pos O t + 1 := by conv => lhs; unfold pos; rw [if_neg e]
      have h2 : pos O t < O.length := by rw [h1] at h; simpa using h
      simp only [h1, List.getElem_cons_succ]
      exact pos_get h2
theorem pos_at {O : List Nat} (hn : O.Nodup) {k : Nat} (hk : k < O.length) : pos O O[k] = k := by
  have h1 := pos_lt (List.getElem_mem hk)
  exact nodup_inj hn h1 hk (pos_get h1)
/-- What has been written of the places. -/
def plc (O : List Nat) (k t : Nat) : Int := if pos O t < k then (pos O t : Int) + 1 else 0
theorem plc_zero (O : List Nat) (t : Nat) : plc O 0 t = 0 := by unfold plc; rw [if_neg (Nat.not_lt_zero _)]
theorem plc_new {O : List Nat} (hn : O.Nodup) {k : Nat} (hk : k < O.length) : plc O k O[k] = 0 := by unfold plc; rw [pos_at hn hk, if_neg (Nat.lt_irrefl _)]
theorem plc_step {O : List Nat} (hn : O.Nodup) {k : Nat} (hk : k < O.length) (t : Nat) : (if t = O[k] then (k : Int) + 1 else plc O k t) = plc O (k + 1) t := by
  by_cases e : t = O[k]
  · subst e
    rw [if_pos rfl]; unfold plc
    rw [pos_at hn hk, if_pos (Nat.lt_succ_self _)]
  · rw [if_neg e]; unfold plc
    have : pos O t ≠ k := fun h => e (by
      have h2 := pos_get (O := O) (t := t) (by omega)
      subst h
      exact h2.symm)
    by_cases h3 : pos O t < k
    · rw [if_pos h3, if_pos (by omega)]
    · rw [if_neg h3, if_neg (by omega)]
theorem plc_all {l : List In} (h : (ordF l).length = l.length) {t : Nat} (ht : t < l.length) : plc (ordF l) l.length t = (pos (ordF l) t : Int) + 1 := by
  unfold plc
  rw [if_pos (by have := pos_lt (ordF_all h ht); omega)]
theorem pos_edge {l : List In} (hT : Tg l) (h : (ordF l).length = l.length) {a t : Nat} (ha : a < l.length) (he : t ∈ inst l a) : pos (ordF l) a < pos (ordF l) t := by
  have h1 := pos_lt (ordF_all h ha)
  have h2 := pos_lt (ordF_all h (inst_lt hT he))
  exact (ordF_inv l).edge h1 h2 (by rw [pos_get h1, pos_get h2]; exact he)
end Go.Proofs.YtchcjinaagncjaaDoor.Pgm
namespace Go.Proofs.YtchcjinaagncjaaDoor
open Go.RowKit
set_option linter.unusedVariables false
namespace Pgm
/-- A text as a string. -/
def txB (l : List UInt8) : ByteArray := ⟨l.toArray⟩
theorem txB_size (l : List UInt8) : (txB l).size = l.length := by show (txB l).data.size = _; simp [txB]





theorem wB_list (o : Nat) : (wB o).data.toList = wBytes (o : Int) := by simp [wB]
end Pgm
end Go.Proofs.YtchcjinaagncjaaDoor
namespace Go.Proofs.YtchcjinaagncjaaDoor
open Go.RowKit Go.Shelf
set_option linter.unusedVariables false
namespace Pgm
























































































theorem opAll_at (o q : Nat) (ho : o < 7) (hq : q < 9) : opAll[o * 9 + q]? = (opC o)[q]? := by
  have : o = 0 ∨ o = 1 ∨ o = 2 ∨ o = 3 ∨ o = 4 ∨ o = 5 ∨ o = 6 := by omega
  have h2 : q = 0 ∨ q = 1 ∨ q = 2 ∨ q = 3 ∨ q = 4 ∨ q = 5 ∨ q = 6 ∨ q = 7 ∨ q = 8 := by omega
  rcases this with rfl | rfl | rfl | rfl | rfl | rfl | rfl <;> rcases h2 with rfl | rfl | rfl | rfl | rfl | rfl | rfl | rfl | rfl <;> rfl
end Pgm
end Go.Proofs.YtchcjinaagncjaaDoor
