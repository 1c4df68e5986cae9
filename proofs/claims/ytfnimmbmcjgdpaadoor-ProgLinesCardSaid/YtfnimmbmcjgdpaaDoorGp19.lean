/- The reference's prog (burinref14): Cursor: word, num. -/
import Derived.Test.YtfnimmbmcjgdpaaDoorGp18
namespace Go.Proofs.YtfnimmbmcjgdpaaDoor
open Go.RowKit
set_option linter.unusedVariables false
namespace Pgm
/-- The cursor's box. -/
def CurAt (W : World) (C : Nat) (s : ByteArray) (p : Int) (bad : Bool) : Prop := W.heap[C]? = some (.cells #[.string s, .int .i64 p, .bool bad] 95 (0, 0))
theorem grown_drew {A B : World} {row : Option Nat} (h : A.grownBy B row) (d : Nat) : A.grownBy (B.drewN d) row := ⟨h.os, h.tape, h.output, h.size, h.block⟩
theorem grown_self14 (W : World) (row : Option Nat) : W.grownBy W row := ⟨rfl, rfl, rfl, Nat.le_refl _, fun _ _ _ => rfl⟩
theorem grown_set14 {V W : World} {C : Nat} (h : V.grownBy W (some C)) (o : Nat) (v : Value) : V.grownBy (W.setCell ⟨C, o, none⟩ v) (some C) :=
  ⟨h.os, h.tape, h.output, by simpa [World.setCell] using h.size, fun k hk hne => (Below.heap_setCell _ _ _ _ (fun e => hne (by rw [e]))).trans (h.block k hk hne)⟩
theorem CurAt.lt {W : World} {C : Nat} {s : ByteArray} {p : Int} {bad : Bool} (h : CurAt W C s p bad) : C < W.heap.size := (Array.getElem?_eq_some_iff.1 h).1
theorem CurAt.at_ {W : World} {C : Nat} {s : ByteArray} {p : Int} {bad : Bool} (h : CurAt W C s p bad) (q : Int) : CurAt (W.setCell ⟨C, 1, none⟩ (.int .i64 q)) C s q bad := by
  have := heap_setCell_same W C 1 _ _ (.int .i64 q) h
  simpa [CurAt] using this
theorem CurAt.bad_ {W : World} {C : Nat} {s : ByteArray} {p : Int} {bad : Bool} (h : CurAt W C s p bad) (q : Bool) : CurAt (W.setCell ⟨C, 2, none⟩ (.bool q)) C s p q := by
  have := heap_setCell_same W C 2 _ _ (.bool q) h
  simpa [CurAt] using this
/-- Does a word stand there? -/
def atW (S : List UInt8) (p : Nat) (t : List UInt8) : Bool := decide ((S.drop p).take t.length = t)
theorem ext_list (s : ByteArray) (p m : Nat) (h : p + m ≤ s.size) : s.extract p (p + m) = txB ((s.data.toList.drop p).take m) := by
  apply ByteArray.ext
  rw [ByteArray.data_extract]
  apply Array.ext'
  rw [Array.toList_extract, List.extract_eq_take_drop]
  simp [txB]
/-- What word does. -/
def WordPost (W : World) (C : Nat) (s : ByteArray) (p : Nat) (bad : Bool) (t : List UInt8) (e : Ending) (w' : World) : Prop :=
  (atW s.data.toList p t = true ∧ e = .returned (.bool true) ∧ CurAt w' C s ((p + t.length : Nat) : Int) bad ∧ W.grownBy w' (some C) ∧ p + t.length ≤ s.size) ∨
  (atW s.data.toList p t = false ∧ e = .returned (.bool false) ∧ CurAt w' C s (p : Int) bad ∧ W.grownBy w' (some C))
theorem size_list (s : ByteArray) : s.data.toList.length = s.size := by simp
theorem toList_tx (l : List UInt8) : (txB l).toList = l := by
  rw [ByteArray.toList_eq]
  simp [txB]
set_option maxRecDepth 100000 in
set_option maxHeartbeats 8000000 in
theorem word_any (W : World) (C : Nat) (s : ByteArray) (p : Nat) (bad : Bool) (t : List UInt8) (hs : s.size ≤ 1000000) (hp : p ≤ s.size) (ht : t.length ≤ 100) (hc : CurAt W C s (p : Int) bad) :
    Calls Tryd.prog 50 #[.pointer (some ⟨C, 0, none⟩), .string (txB t)] W (WordPost W C s p bad t) := by
  have hsl := size_list s
  have hts : (txB t).size = t.length := txB_size t
  have c0 : W.cell? ⟨C, 0, none⟩ = some (.string s) := blkp hc 0
  have c1 : W.cell? ⟨C, 1, none⟩ = some (.int .i64 (p : Int)) := blkp hc 1
  have hCl := hc.lt
  have HC := Lib.hid hc
  have sw : IntKind.i64.wrap ((s.size : Int) - (p : Int)) = (s.size : Int) - (p : Int) := by rw [IntKind.wrap_i64]; omega
  obtain ⟨m, hm⟩ : ∃ m, t.length = m := ⟨_, rfl⟩
  by_cases hlen : s.size < p + m
  · have hno : atW s.data.toList p t = false := by
      unfold atW
      rw [decide_eq_false_iff_not]
      intro e
      have := congrArg List.length e
      rw [List.length_take, List.length_drop] at this
      omega
    have HNO := Lib.hid hno
    obtain ⟨T, hT⟩ : ∃ T, txB t = T := ⟨_, rfl⟩
    rw [hT] at hts ⊢
    have hlt : (s.size : Int) - (p : Int) < (T.size : Int) := by omega
    have hltm : (s.size : Int) - (p : Int) < (m : Int) := by omega
    have hts2 : T.size = m := by omega
    clear hno hT hc hts
    go_enter Tryd.func50, Tryd.ntmps50
    go_wp2
    go_quiet (fail)
    go_wp2
    go_ret
    exact .inr ⟨HNO.out, rfl, HC.out, grown_drew (grown_self14 _ _) _⟩
  · have hex := ext_list s p m (by omega)
    have hnlt : ¬ (s.size : Int) - (p : Int) < ((txB t).size : Int) := by omega
    have k0 : (0 : Int) ≤ (p : Int) := by omega
    have k1 : ((p : Int)).toNat = p := by omega
    have k2 : (p : Int) ≤ (p : Int) + (m : Int) := by omega
    have k3 : (p : Int) + (m : Int) ≤ (s.size : Int) := by omega
    have k4 : ((p : Int) + (m : Int)).toNat = p + m := by omega
    have aw : IntKind.i64.wrap ((p : Int) + (m : Int)) = (p : Int) + (m : Int) := by rw [IntKind.wrap_i64]; omega
    have hts2 : (txB t).size = m := by omega
    by_cases hw : (s.data.toList.drop p).take m = t
    · have hyes : atW s.data.toList p t = true := by unfold atW; rw [hm]; exact decide_eq_true hw
      rw [hw] at hex
      have HNO := Lib.hid hyes
      obtain ⟨T, hT⟩ : ∃ T, txB t = T := ⟨_, rfl⟩
      rw [hT] at hts hts2 hnlt hex ⊢
      have htt : (T.toList == T.toList) = true := by simp
      have HQ : Hid (∀ d, CurAt ((W.drewN d).setCell ⟨C, 1, none⟩ (.int .i64 ((p : Int) + (m : Int)))) C s ((p + t.length : Nat) : Int) bad) := Lib.hid (fun d => by
        have := CurAt.at_ (show CurAt (W.drewN d) C s (p : Int) bad from HC.out) ((p : Int) + (m : Int))
        rw [show ((p + t.length : Nat) : Int) = (p : Int) + (m : Int) by omega]
        exact this)
      have hf1 : W.frozen? ⟨C, 1, none⟩ = false := by simp [World.frozen?, show W.heap[C]? = _ from hc]
      have HLE : Hid (p + t.length ≤ s.size) := Lib.hid (by omega)
      clear hyes hT hc hts hm hw hnlt
      go_enter Tryd.func50, Tryd.ntmps50
      go_wp2
      have hn9 : ¬ ((s.size : Int) - (p : Int) < (m : Int)) := by omega
      go_quiet (fail)
      go_wp2
      go_ret
      exact .inl ⟨HNO.out, rfl, HQ.out _, grown_set14 (grown_drew (grown_self14 _ _) _) _ _, HLE.out⟩
    · have hno : atW s.data.toList p t = false := by unfold atW; rw [hm]; exact decide_eq_false hw
      have hbq : ((txB ((s.data.toList.drop p).take m)).toList == (txB t).toList) = false := by
        rw [beq_eq_false_iff_ne, toList_tx, toList_tx]
        exact hw
      have hbq2 : ¬ (txB ((s.data.toList.drop p).take m)).toList = (txB t).toList := by rw [beq_eq_false_iff_ne] at hbq; exact hbq
      have HNO := Lib.hid hno
      obtain ⟨T, hT⟩ : ∃ T, txB t = T := ⟨_, rfl⟩
      obtain ⟨Y, hY⟩ : ∃ Y, txB ((s.data.toList.drop p).take m) = Y := ⟨_, rfl⟩
      rw [hT] at hts hts2 hnlt hbq hbq2 ⊢
      rw [hY] at hex hbq hbq2
      clear hno hT hY hc hts hm hw hnlt
      go_enter Tryd.func50, Tryd.ntmps50
      go_wp2
      have hn9 : ¬ ((s.size : Int) - (p : Int) < (m : Int)) := by omega
      go_quiet (fail)
      go_wp2
      go_ret
      exact .inr ⟨HNO.out, rfl, HC.out, grown_drew (grown_self14 _ _) _⟩
end Pgm
end Go.Proofs.YtfnimmbmcjgdpaaDoor
