/- The reference's tree (burinref06): Groups; an owned row of texts. -/
import Derived.Test.YthhijakclinjaaaGp5
import Derived.Laws.OwnMore
namespace Go.Proofs.Ythhijakclinjaaa
open Go.RowKit
set_option linter.unusedVariables false
theorem flat9_at : ∀ (X : List (List Value)), (∀ x ∈ X, x.length = 9) → ∀ (j q : Nat) (x : List Value), X[j]? = some x → q < 9 → X.flatten[j * 9 + q]? = x[q]?
  | [], _, j, q, x, hx, _ => by simp at hx
  | y :: X, h, 0, q, x, hx, hq => by
    simp at hx
    subst hx
    have hy := h y (by simp)
    rw [List.flatten_cons, List.getElem?_append_left (by omega)]; simp
  | y :: X, h, j + 1, q, x, hx, hq => by
    have hy := h y (by simp)
    rw [List.flatten_cons, List.getElem?_append_right (by omega)]
    have := flat9_at X (fun x hx => h x (List.mem_cons_of_mem _ hx)) j q x (by simpa using hx) hq
    rw [← this]; congr 1; omega
/-- A step of an owned row, laid open. -/
theorem StOwn.at {Wb W : World} {v : Value} {L : List (Nat × Nd)} (h : StOwn Wb W v L) (j : Nat) (hj : j < L.length) : ∃ g cap cs, v = .slice (some ⟨g, 0, none⟩) L.length cap ∧ Wb.heap.size ≤ g ∧ g < W.heap.size ∧
    W.cell? ⟨g, j * 9, none⟩ = some (.int .i64 (L[j].1 : Int)) ∧ NdIs Wb L[j].2 cs ∧ ∀ q, q < 8 → W.cell? ⟨g, j * 9 + 1 + q, none⟩ = cs[q]? := by
  obtain ⟨X, h1, h2, h3⟩ := h
  obtain ⟨g, cap, rfl, hb, hg⟩ := World.ownsRow.form h2 (by omega)
  obtain ⟨cs, hx, hn⟩ := h3 j hj
  have h9 : ∀ x ∈ X, x.length = 9 := fun x hx => by
    obtain ⟨i, hi, rfl⟩ := List.getElem_of_mem hx
    obtain ⟨c, e, hc⟩ := h3 i (by omega)
    rw [List.getElem?_eq_getElem hi] at e
    rw [Option.some.inj e]
    simp [hc.len]
  refine ⟨g, cap, cs, rfl, hb, hg, ?_, hn, fun q hq => ?_⟩
  · have := World.ownsRow.cellAt h2 (j * 9) (by omega)
    rw [this]
    have h5 := flat9_at X h9 j 0 _ hx (by omega)
    simpa using h5
  · have := World.ownsRow.cellAt h2 (j * 9 + 1 + q) (by omega)
    rw [this]
    have h5 := flat9_at X h9 j (1 + q) _ hx (by omega)
    rw [show j * 9 + 1 + q = j * 9 + (1 + q) from by omega, h5, show 1 + q = q + 1 from by omega]; simp
theorem StOwn.slice {Wb W : World} {v : Value} {L : List (Nat × Nd)} (h : StOwn Wb W v L) : ∃ a cap, v = .slice a L.length cap := by
  obtain ⟨X, h1, h2, h3⟩ := h
  rcases h2.2 with ⟨e, e0⟩ | ⟨g, cap, cur, e, _⟩
  · exact ⟨none, 0, by rw [e, e0]⟩
  · exact ⟨_, _, e⟩
theorem StOwn.nil (W : World) : StOwn W W (.slice none 0 0) [] := ⟨[], rfl, World.ownsRow_nil _ _ _ _, fun j h => absurd h (by simp)⟩
/-- A row of texts that a call owns. -/
def TxOwn (W : World) (base : Nat) (v : Value) (T : List ByteArray) : Prop := W.ownsRow base 9 1 v T.length (T.map Value.string)
theorem Try.infoText : (Try.prog.info? 9).map (fun i => (i.zero, i.size, i.bytes)) = some (some (.string ⟨#[]⟩), 1, 16) := by kernel_rfl
theorem Try.underText : Try.prog.underlying 32 = some (.slice 9) := by kernel_rfl
namespace Td
/-- The names of the groups among nodes. -/
def groups (l : List (Nat × Nd)) : List ByteArray := (l.filter (fun p => kind p.2 == 6)).map (fun p => name p.2)
theorem groups_succ (l : List (Nat × Nd)) (k : Nat) (h : k < l.length) : groups (l.take (k + 1)) = groups (l.take k) ++ (if kind l[k].2 = 6 then [name l[k].2] else []) := by
  unfold groups
  rw [List.take_succ_eq_append_getElem h, List.filter_append, List.map_append]
  congr 1
  by_cases h6 : kind l[k].2 = 6 <;> simp [h6]
theorem groups_le (l : List (Nat × Nd)) (k : Nat) : (groups (l.take k)).length ≤ k := by
  unfold groups
  rw [List.length_map]
  exact Nat.le_trans (List.length_filter_le _ _) (by rw [List.length_take]; omega)
end Td
set_option maxRecDepth 100000 in
set_option maxHeartbeats 4000000 in
theorem refGroups_any (W : World) (n : Nd) (cs : List Value) (h : NdIs W n cs) (hlen : (Td.all 1000 1 n).length ≤ 1000000) :
    Calls Try.prog 17 #[.agg cs.toArray] W fun e w' => ∃ v, e = .returned v ∧ TxOwn w' W.heap.size v (Td.groups (Td.all 1000 1 n)) ∧ Below W.heap.size W w' := by
  obtain ⟨i0, hi, hz0, hz1, hz2⟩ := info_parts Try.infoText
  have H1 := Lib.hid (h.kept ((Below.refl W.heap.size W).alloc (Nat.le_refl _) (.cells cs.toArray 25)))
  have HB := Lib.hid ((Below.refl W.heap.size W).alloc (Nat.le_refl _) (.cells cs.toArray 25))
  have HZ := Lib.hid (show (W.alloc (.cells cs.toArray 25)).heap.size = W.heap.size + 1 from by simp)
  obtain ⟨vs, a, cap, C, hC⟩ := h.cells
  have hcs := hC.eq
  subst hcs
  obtain ⟨L, hL⟩ : ∃ L, Td.all 1000 1 n = L := ⟨_, rfl⟩
  have HL := Lib.hid hL
  rw [hL] at hlen ⊢
  obtain ⟨N, hN⟩ : ∃ N, L.length = N := ⟨_, rfl⟩
  have HN := Lib.hid hN
  rw [hN] at hlen
  clear hC h hL hN
  go_enter Try.func17, Try.ntmps17
  go_wp2_with fail
  refine (refAll_any 1000 1 _ _ _ [] n _ rfl (Below.refl _ _) (StOwn.nil _) H1.out (by rw [HL.out, HN.out]; simpa using hlen)).mono ?_
  rintro e w1 ⟨v1, rfl, hs, hg, ha⟩
  rw [List.nil_append, HL.out] at hs
  obtain ⟨a1, cap1, hv⟩ := hs.slice
  rw [HN.out] at hv
  subst hv
  have HS := Lib.hid hs
  have HB1 : Hid (Below W.heap.size W w1) := Lib.hid (HB.out.grown hg (by rw [HZ.out]; omega) (fun k hk => by simp [Value.ownBlock] at hk))
  have hsz : W.heap.size + 1 ≤ w1.heap.size := by have := hg.size; rw [HZ.out] at this; exact this
  have HSZ := Lib.hid hsz
  clear hs hg ha hsz
  go_wp2
  go_loopw [4, 5] (fun ov iv wr => ∃ i : Nat, i ≤ N ∧ iv = .int .i64 (i : Int) ∧ Hid (TxOwn wr w1.heap.size ov (Td.groups (L.take i))) ∧ Hid (Below w1.heap.size w1 wr)) (fun _ iv _ => N - (intOf iv).toNat)
  case atStart => exact ⟨0, Nat.zero_le _, rfl, Lib.hid (World.ownsRow_nil _ _ _ _), Lib.hid (Below.refl _ _)⟩
  case round =>
    rename_i ov _ wr
    obtain ⟨i, hi', rfl, HT, HBr⟩ := hrel
    by_cases hlt : i < N
    · obtain ⟨g, cap2, cs, hv, hb, hg, _, hn, hc⟩ := HS.out.at i (by rw [HN.out]; exact hlt)
      simp only [Value.slice.injEq] at hv
      obtain ⟨rfl, hx1, hx2⟩ := hv
      clear hx1 hx2
      obtain ⟨m, hm⟩ : ∃ m, (L[i]'(by rw [HN.out]; exact hlt)).2 = m := ⟨_, rfl⟩
      rw [hm] at hn
      obtain ⟨vs', a', cap', C', hC'⟩ := hn.cells
      have hcs' := hC'.eq
      subst hcs'
      have c0 : wr.cell? ⟨g, i * 9 + 1, none⟩ = some (.int .i64 (Td.kind m)) := (HBr.out.cell (p := ⟨g, i * 9 + 1, none⟩) hg).trans (hc 0 (by omega))
      have c3 : wr.cell? ⟨g, i * 9 + 4, none⟩ = some (.string (Td.name m)) := (HBr.out.cell (p := ⟨g, i * 9 + 4, none⟩) hg).trans (hc 3 (by omega))
      have hgr : g < wr.heap.size := Nat.lt_of_lt_of_le hg HBr.out.size
      have hS2 : Hid (Td.groups (L.take (i + 1)) = Td.groups (L.take i) ++ (if Td.kind m = 6 then [Td.name m] else [])) := Lib.hid (by rw [Td.groups_succ L i (by rw [HN.out]; exact hlt), hm])
      clear hc hn hC' hm hb
      by_cases k6 : Td.kind m = 6
      · rw [if_pos k6] at hS2
        have hown := HT.out
        unfold TxOwn at hown
        have hgl := Td.groups_le L i
        obtain ⟨T, hTT⟩ : ∃ T, Td.groups (L.take i) = T := ⟨_, rfl⟩
        rw [hTT] at hown hgl hS2
        obtain ⟨q, hq⟩ : ∃ q, T.length = q := ⟨_, rfl⟩
        have HQ := Lib.hid hq
        rw [hq] at hown hgl
        have hblt : w1.heap.size ≤ wr.heap.size := HBr.out.size
        have HOWN := Lib.hid hown
        have hnew := heap_alloc_new wr (.cells #[.string (Td.name m)] 9)
        have HNEW := Lib.hid hnew
        clear hTT hq hown hnew HT
        go_wp2_with (at_builtin; (refine wpList_append_lies _ (by rfl) _ _ 32 (by rfl) w1.heap.size 9 i0 (.string ⟨#[]⟩) 1 16 Try.underText hi hz0 hz1 hz2 rfl (by decide) _ q (T.map Value.string) (by rfl) (HOWN.out.alloc _) ⟨wr.heap.size, 0, none⟩ 1 1 [.string (Td.name m)] (by rfl) rfl (World.news_of_block HNEW.out) (by simp [Value.oneCell']) (by omega) (by unfold maxLen; omega) (by omega) (by simp; omega) (wr.heap.size + 1) (by simp) ?_))
        intro g1 capz wz hown' hgrow _ _
        have HT2 : Hid (TxOwn wz w1.heap.size (.slice (some ⟨g1, 0, none⟩) (q + 1) capz) (Td.groups (L.take (i + 1)))) := Lib.hid (by
          rw [hS2.out]; unfold TxOwn; rw [List.length_append, HQ.out, List.map_append]; exact hown')
        have HB2 : Hid (Below w1.heap.size w1 wz) := Lib.hid ((HBr.out.alloc hblt _).grown hgrow (by simp; omega) (fun k hk => (HOWN.out.lt k hk).1))
        clear hown' hgrow
        go_wp2
        go_roundw
        case rel => exact ⟨i + 1, by omega, by go_num, HT2, HB2⟩
        case measure => simp [intOf]; omega
      · rw [if_neg k6, List.append_nil] at hS2
        go_wp2
        go_roundw
        case rel => exact ⟨i + 1, by omega, by go_num, Lib.hid (by rw [hS2.out]; exact HT.out), HBr⟩
        case measure => simp [intOf]; omega
    · obtain rfl : i = N := by omega
      go_wp2
      go_ret
      refine ⟨_, rfl, ?_, HB1.out.trans (HBr.out.mono (by have := HSZ.out; omega))⟩
      have h1 := HT.out
      rw [List.take_of_length_le (by rw [HN.out]; exact Nat.le_refl _)] at h1
      exact ⟨h1.1, h1.2.imp id (fun ⟨g, cap, cur, e, hb, r⟩ => ⟨g, cap, cur, e, by have := HSZ.out; omega, r⟩)⟩
end Go.Proofs.Ythhijakclinjaaa
