/- The landed wire: fill, over octets and varints. -/
import Derived.Test.YtfnimmbmcjgdpaaDoorGp20
namespace Go.Proofs.YtfnimmbmcjgdpaaDoor
open Go.RowKit
set_option linter.unusedVariables false
namespace Pgm
theorem rdVs_snoc : ∀ (k : Nat) (s : List UInt8) (ns : List Int) (r : List UInt8), rdVs k s = some (ns, r) → rdVs (k + 1) s = match rdV r with
    | none => none
    | some (n, r2) => some (ns ++ [n], r2)
  | 0, s, ns, r, h => by
    injection h with h
    injection h with h1 h2
    subst h1; subst h2
    show (match rdV s with
      | none => none
      | some (n, r) => match rdVs 0 r with
        | none => none
        | some (ns, r2) => some (n :: ns, r2)) = _
    cases rdV s with
    | none => rfl
    | some p => rfl
  | k + 1, s, ns, r, h => by
    unfold rdVs at h
    split at h
    · cases h
    · rename_i n r1 h1
      split at h
      · cases h
      · rename_i l2 r2 h2
        injection h with h
        injection h with h3 h4
        subst h3; subst h4
        have ih := rdVs_snoc k r1 l2 r2 h2
        show (match rdV s with
          | none => none
          | some (n, r) => match rdVs (k + 1) r with
            | none => none
            | some (ns, r2) => some (n :: ns, r2)) = _
        rw [h1]
        dsimp only
        rw [ih]
        cases rdV r2 with
        | none => rfl
        | some p => rfl
theorem rdVs_more : ∀ (k j : Nat) (s : List UInt8), k ≤ j → rdVs k s = none → rdVs j s = none
  | 0, j, s, _, h => by cases h
  | k + 1, 0, s, hj, _ => by omega
  | k + 1, j + 1, s, hj, h => by
    unfold rdVs at h ⊢
    cases h1 : rdV s with
    | none => rfl
    | some p =>
      obtain ⟨i, r⟩ := p
      rw [h1] at h
      dsimp only at h ⊢
      cases h2 : rdVs k r with
      | none => rw [rdVs_more k j r (by omega) h2]
      | some q => rw [h2] at h; cases h
theorem rdVs_len {k : Nat} {s : List UInt8} {ns : List Int} {r : List UInt8} (h : rdVs k s = some (ns, r)) : r.length ≤ s.length ∧ ns.length = k := by
  obtain ⟨h1, _, h3⟩ := (rdVs_iff k s ns r).1 h
  refine ⟨?_, h1⟩
  rw [h3, List.length_append]; omega
/-- Numbers stored at places. -/
def stL (W : World) (l : List ((Nat × Nat) × Int)) : World := l.foldl (fun w p => w.setCell ⟨p.1.1, p.1.2, none⟩ (.int .i64 p.2)) W
theorem stL_snoc (W : World) (l : List ((Nat × Nat) × Int)) (p : (Nat × Nat) × Int) : stL W (l ++ [p]) = (stL W l).setCell ⟨p.1.1, p.1.2, none⟩ (.int .i64 p.2) := by unfold stL; simp
theorem stL_size : ∀ (l : List ((Nat × Nat) × Int)) (W : World), (stL W l).heap.size = W.heap.size
  | [], W => rfl
  | p :: l, W => by
    show (stL (W.setCell ⟨p.1.1, p.1.2, none⟩ (.int .i64 p.2)) l).heap.size = _
    rw [stL_size l, set_size]
theorem stL_block : ∀ (l : List ((Nat × Nat) × Int)) (W : World) (b : Nat), (∀ p ∈ l, b ≠ p.1.1) → (stL W l).heap[b]? = W.heap[b]?
  | [], W, b, _ => rfl
  | p :: l, W, b, h => by
    show (stL (W.setCell ⟨p.1.1, p.1.2, none⟩ (.int .i64 p.2)) l).heap[b]? = _
    rw [stL_block l _ b (fun q hq => h q (by simp [hq])), Below.heap_setCell _ _ _ _ (h p (by simp))]
theorem stL_pl : ∀ (l : List ((Nat × Nat) × Int)) (W : World) (b o : Nat), PlAt W b o → PlAt (stL W l) b o
  | [], W, b, o, h => h
  | p :: l, W, b, o, h => stL_pl l _ b o (h.set _ _ _)
theorem stL_below : ∀ (l : List ((Nat × Nat) × Int)) (W : World) (base : Nat), (∀ p ∈ l, base ≤ p.1.1) → Below base W (stL W l)
  | [], W, base, _ => Below.refl _ _
  | p :: l, W, base, h => (below_set _ (h p (by simp))).trans (stL_below l _ base (fun q hq => h q (by simp [hq])))
theorem grown_trans {A B C : World} {row : Option Nat} (h : A.grownBy B row) (k : B.grownBy C row) : A.grownBy C row :=
  ⟨k.os.trans h.os, k.tape.trans h.tape, k.output.trans h.output, Nat.le_trans h.size k.size, fun j hj hne => (k.block j (Nat.lt_of_lt_of_le hj h.size) hne).trans (h.block j hj hne)⟩
/-- What fill does with varints. -/
def FillPost (W : World) (R : Nat) (xs : List (Nat × Nat)) (s : List UInt8) (e : Ending) (w' : World) : Prop :=
  (∃ ns r, rdVs xs.length s = some (ns, r) ∧ e = .returned (.bool true) ∧ RdrAt w' R r ∧ (stL W (xs.zip ns)).grownBy w' (some R)) ∨
  (rdVs xs.length s = none ∧ e = .returned (.bool false) ∧ ∀ base, base ≤ R → (∀ p ∈ xs, base ≤ p.1) → Below base W w')
set_option maxRecDepth 100000 in
set_option maxHeartbeats 8000000 in
theorem fill_var (W : World) (R : Nat) (s : List UInt8) (a : Option Addr) (n c b : Nat) (xs : List (Nat × Nat)) (hl : s.length ≤ 800000) (hr : RdrAt W R s) (hn : xs.length = n) (hn9 : n ≤ 10) (hrow : PtrRow W a b xs) (hpl : ∀ p ∈ xs, PlAt W p.1 p.2 ∧ R ≠ p.1 ∧ b ≠ p.1) (hbR : b ≠ R) :
    Calls Tryd.prog 58 #[.func (.func 59) #[.pointer (some ⟨R, 0, none⟩)] #[], .slice a n c] W (FillPost W R xs s) := by
  have HN := Lib.hid hn
  have HROW := Lib.hid hrow
  have HPL := Lib.hid hpl
  have HBR := Lib.hid hbR
  have HR := Lib.hid hr
  have HLN := Lib.hid hl
  clear hr hrow hpl hbR hn hl
  go_enter Tryd.func58, Tryd.ntmps58
  go_wp2
  go_loopw [6, 9] (fun F K wr => ∃ (k : Nat) (ns : List Int) (r : List UInt8), k ≤ n ∧ K = .int .i64 (k : Int) ∧ Hid (rdVs k s = some (ns, r)) ∧ Hid (RdrAt wr R r) ∧ Hid ((stL W ((xs.take k).zip ns)).grownBy wr (some R))) (fun F K _ => n - (intOf K).toNat)
  case atStart => exact ⟨0, [], s, by omega, rfl, Lib.hid rfl, HR, Lib.hid (grown_self W R)⟩
  case round =>
    obtain ⟨k, ns, r, hk, rfl, HRD, HRR, HG⟩ := hrel
    obtain ⟨hrl, hnl⟩ := rdVs_len HRD.out
    by_cases hlt : k < n
    · have hkl : k < xs.length := by rw [HN.out]; exact hlt
      obtain ⟨p, hp⟩ : ∃ p, xs[k] = p := ⟨_, rfl⟩
      have hpm : p ∈ xs := by rw [← hp]; exact List.getElem_mem hkl
      obtain ⟨hp1, hp2, hp3⟩ := HPL.out p hpm
      have hzip : ∀ q ∈ (xs.take k).zip ns, q.1 ∈ xs := fun q hq => List.mem_of_mem_take (List.of_mem_zip hq).1
      obtain ⟨rfl, hbl, hpc⟩ := HROW.out.at_ hkl
      rw [hp] at hpc
      have hrow2 : PtrRow _ (some ⟨b, 0, none⟩) b xs := HROW.out.of (W' := wr) (by
        rw [HG.out.block b (by rw [stL_size]; exact hbl) (fun e => HBR.out (Option.some.inj e)), stL_block _ _ _ (fun q hq => (HPL.out q.1 (hzip q hq)).2.2)])
      obtain ⟨_, hbl2, hpc2⟩ := hrow2.at_ hkl
      rw [hp] at hpc2
      have hplr : PlAt wr p.1 p.2 := (stL_pl _ _ _ _ hp1).of (HG.out.block p.1 (by rw [stL_size]; exact hp1.lt) (fun e => hp2 (Option.some.inj e).symm))
      have HCV := Lib.hid (varint_any wr R p.1 p.2 r (by have := HLN.out; omega) HRR.out hplr hp2)
      have hsn := rdVs_snoc k s ns r HRD.out
      have HSN := Lib.hid hsn
      have HMO := Lib.hid (rdVs_more (k + 1) n s (by omega))
      have HTK : Hid (∀ z : Int, (xs.take (k + 1)).zip (ns ++ [z]) = (xs.take k).zip ns ++ [(p, z)]) := Lib.hid (fun z => by
        rw [List.take_add_one, List.getElem?_eq_getElem hkl, hp]
        rw [List.zip_append (by rw [List.length_take]; omega)]
        rfl)
      have HBW : Hid (∀ base, base ≤ R → (∀ q ∈ xs, base ≤ q.1) → Below base W wr) := Lib.hid (fun base h1 h2 => (stL_below _ _ base (fun q hq => h2 q.1 (hzip q hq))).trans (below_grown HG.out h1 (by rw [stL_size]; have := HR.out.lt; omega)))
      have hPM := Lib.hid hpm
      clear hp hp1 hp3 hzip hbl hpc hrow2 hplr hsn hpm hrl hnl hkl
      obtain ⟨p1, p2⟩ := p
      go_wp2_with fail
      refine HCV.out.mono ?_
      rintro e w2 (⟨z, r2, hz, rfl, hr2, hg2⟩ | ⟨hz, rfl, hb2⟩)
      · have HRD2 : Hid (rdVs (k + 1) s = some (ns ++ [z], r2)) := Lib.hid (by rw [HSN.out, hz])
        have HR2 := Lib.hid hr2
        have HG2 : Hid ((stL W ((xs.take (k + 1)).zip (ns ++ [z]))).grownBy w2 (some R)) := Lib.hid (by
          rw [HTK.out, stL_snoc]
          exact grown_trans (grown_cong HG.out rfl) hg2)
        clear hz hr2 hg2 hpc2 hbl2
        go_wp2
        go_roundw
        case rel => first | exact ⟨k + 1, _, _, by omega, by go_num, HRD2, HR2, HG2⟩ | ((repeat apply Exists.intro); exact ⟨⟨k + 1, _, _, by omega, by go_num, HRD2, HR2, HG2⟩, rfl⟩)
        case measure => simp [intOf]; omega
      · have HNO : Hid (rdVs n s = none) := Lib.hid (HMO.out (by rw [HSN.out, hz]))
        have HB2 := Lib.hid hb2
        clear hz hb2 hpc2 hbl2
        go_wp2
        go_ret
        exact .inr ⟨by rw [HN.out]; exact HNO.out, rfl, fun base h1 h2 => (HBW.out base h1 h2).trans (HB2.out base h1 (h2 _ hPM.out))⟩
    · obtain rfl : k = n := by omega
      have HG9 : Hid ((stL W (xs.zip ns)).grownBy wr (some R)) := Lib.hid (by
        have h1 := HG.out
        rwa [List.take_of_length_le (by rw [HN.out]; exact Nat.le_refl _)] at h1)
      clear hrl hnl
      go_wp2
      go_ret
      exact .inl ⟨_, _, by rw [HN.out]; exact HRD.out, rfl, HRR.out, HG9.out⟩
/-- What fill does with one octet. -/
def FillO (W : World) (R X : Nat) (s : List UInt8) (e : Ending) (w' : World) : Prop :=
  (∃ c r, s = c :: r ∧ e = .returned (.bool true) ∧ RdrAt w' R r ∧ (W.setCell ⟨X, 0, none⟩ (.int .i64 c.toNat)).grownBy w' (some R)) ∨ (s = [] ∧ e = .returned (.bool false) ∧ W = w')
set_option maxRecDepth 100000 in
set_option maxHeartbeats 8000000 in
theorem fill_oct (W : World) (R X : Nat) (s : List UInt8) (b c : Nat) (hl : s.length ≤ 800000) (hr : RdrAt W R s) (hrow : PtrRow W (some ⟨b, 0, none⟩) b [(X, 0)]) (hpl : PlAt W X 0) (hRX : R ≠ X) (hbX : b ≠ X) (hbR : b ≠ R) :
    Calls Tryd.prog 58 #[.func (.func 60) #[.pointer (some ⟨R, 0, none⟩)] #[], .slice (some ⟨b, 0, none⟩) 1 c] W (FillO W R X s) := by
  obtain ⟨_, hbl, hpc⟩ := hrow.at_ (j := 0) (by simp)
  simp only [List.getElem_cons_zero] at hpc
  cases s with
  | nil =>
    have HC := Lib.hid (octet_none W R X 0 hr)
    clear hr hrow hpl
    go_enter Tryd.func58, Tryd.ntmps58
    go_wp2
    refine wp_loop_rounds 1 ?_
    rw [rounds_succ]
    go_wp2_with (go_at_call 60; refine HC.out.mono ?_; rintro e w' ⟨rfl, rfl⟩)
    go_ret
    exact .inr ⟨rfl, rfl, rfl⟩
  | cons c0 r =>
    have HC := Lib.hid (octet_some W R X 0 c0 r (by simp at hl; omega) hr hpl hRX)
    obtain ⟨W2, hW2⟩ : ∃ W2, (W.setCell ⟨X, 0, none⟩ (.int .i64 c0.toNat)).setCell ⟨R, 0, none⟩ (.string (txB r)) = W2 := ⟨_, rfl⟩
    have hR2 : RdrAt W2 R r := by
      rw [← hW2]
      have h1 : (W.setCell ⟨X, 0, none⟩ (.int .i64 c0.toNat)).heap[R]? = some (.cells #[.string (txB (c0 :: r))] 107 (0, 0)) := (Below.heap_setCell _ _ _ _ hRX).trans hr
      have s5 := heap_setCell_same _ R 0 _ _ (.string (txB r)) h1
      simp only [List.setIfInBounds_toArray, List.set_cons_zero] at s5
      exact s5
    have hG2 : (W.setCell ⟨X, 0, none⟩ (.int .i64 c0.toNat)).grownBy W2 (some R) := by rw [← hW2]; exact grown_set' (grown_self _ _) _
    rw [hW2] at HC
    have HR2 := Lib.hid hR2
    have HG2 := Lib.hid hG2
    clear hr hrow hpl hW2 hR2 hG2
    go_enter Tryd.func58, Tryd.ntmps58
    go_wp2
    refine wp_loop_rounds 2 ?_
    rw [rounds_succ]
    go_wp2_with (go_at_call 60; refine HC.out.mono ?_; rintro e w' ⟨rfl, rfl⟩)
    rw [rounds_succ]
    go_wp2
    go_ret
    exact .inl ⟨_, _, rfl, rfl, HR2.out, HG2.out⟩
end Pgm
end Go.Proofs.YtfnimmbmcjgdpaaDoor
