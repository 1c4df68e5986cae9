/- slices.Clone at ranges and at nodes. · slices.Clone, at lists of ranges and at rows of nodes that read. -/
import Derived.Test.YtcomjkoaieeidaaGp13
import Derived.Test.YtcomjkoaieeidaaGp7
import Derived.Deep.AppendLies
import Derived.Lib.SliceRun
import Derived.Lib.Walk
import Derived.Test.YtcomjkoaieeidaaGp4
namespace Go.Proofs.Ytcomjkoaieeidaa
open Go.RowKit
set_option linter.unusedVariables false
theorem Try.cloneInfoR : (Try.prog.info? 50).map (fun i => (i.zero, i.size, i.bytes)) = some (some (.agg #[.int .i64 0, .int .i64 0]), 2, 16) := by kernel_rfl
theorem Try.cloneUnderR : Try.prog.underlying 22 = some (.slice 50) := by kernel_rfl
theorem Try.cloneInfoN : (Try.prog.info? 25).map (fun i => (i.zero, i.size, i.bytes)) = some (some (.agg #[.int .i64 0, .slice none 0 0, .int .i64 0, .string ⟨#[]⟩, .int .i64 0, .int .i64 0, .bool false, .slice none 0 0]), 8, 104) := by kernel_rfl
theorem Try.cloneUnderN : Try.prog.underlying 23 = some (.slice 25) := by kernel_rfl
set_option maxRecDepth 100000 in
set_option maxHeartbeats 4000000 in
theorem cloneR_some (W : World) (p : Addr) (m c : Nat) (news : List Value) (hl : news.length = m * 2) (hm : m * 16 ≤ 140737488355328)
    (hn : ∀ j u, news[j]? = some u → W.cell? (p.add j) = some u) (h1 : ∀ u ∈ news, u.oneCell' = true) :
    Calls Try.prog 26 #[.slice (some p) m c] W fun e W' => ∃ v, e = .returned v ∧ W'.ownsRow W.heap.size 50 2 v m news ∧ Below W.heap.size W W' := by
  have mixed : Try.prog.follows .mixedOrders = true := by kernel_rfl
  obtain ⟨i0, hi0, hz0, hz1, hz2⟩ := info_parts Try.cloneInfoR
  have q22 : ∀ (w : World) (a : Option Addr) (n c n' c' : Nat), (binOp .eql 22 (.slice a n c) (.slice none n' c')).run Try.prog w = .ok (.bool a.isNone) w := fun w a n c n' c' => Lib.run_eql_slice_nil w _ _ a n c n' c' Try.cloneUnderR
  have HN := Lib.hid hn
  clear hn
  go_enter Try.func26, Try.ntmps26
  go_wp2_with (at_builtin; refine wpList_append_own _ rfl _ _ 22 rfl W.heap.size 50 i0 _ 2 16 Try.cloneUnderR hi0 hz0 hz1 hz2 rfl (by decide) _ _ _ rfl (World.ownsRow_made W #[] 0 (Nat.le_refl _) (Nat.zero_le _) rfl) p m c news rfl ?qc1 ?qc2 ?qc3 ?qc4 ?qc5 ?qc6 ?_)
  case qc1 => omega
  case qc2 =>
    intro j u hj
    exact Lib.cell?_alloc_some _ (HN.out j u hj)
  case qc3 => exact h1
  case qc4 => unfold maxLen; omega
  case qc5 => omega
  case qc6 => simp
  intro v' w1 hown hgrow hnil
  go_wp2
  go_ret
  refine ⟨v', rfl, by simpa using hown, ?_⟩
  exact ((Below.refl _ W).alloc (Nat.le_refl _) _).grown hgrow (by simp) (by intro k hk; simp [Value.ownBlock] at hk; omega)
set_option maxRecDepth 100000 in
set_option maxHeartbeats 4000000 in
theorem cloneR_nil (W : World) (m c : Nat) :
    Calls Try.prog 26 #[.slice none m c] W fun e W' => e = .returned (.slice none 0 0) ∧ W' = W := by
  have q22 : ∀ (w : World) (a : Option Addr) (n c n' c' : Nat), (binOp .eql 22 (.slice a n c) (.slice none n' c')).run Try.prog w = .ok (.bool a.isNone) w := fun w a n c n' c' => Lib.run_eql_slice_nil w _ _ a n c n' c' Try.cloneUnderR
  go_enter Try.func26, Try.ntmps26
  go_wp2
  go_ret
  exact ⟨rfl, rfl⟩
set_option maxRecDepth 100000 in
set_option maxHeartbeats 4000000 in
theorem cloneN_some (W : World) (p : Addr) (m c : Nat) (news : List Value) (hl : news.length = m * 8) (hm : m * 104 ≤ 140737488355328)
    (hn : ∀ j u, news[j]? = some u → W.cell? (p.add j) = some u) (h1 : ∀ u ∈ news, u.oneCell' = true) :
    Calls Try.prog 27 #[.slice (some p) m c] W fun e W' => ∃ v, e = .returned v ∧ W'.ownsRow W.heap.size 25 8 v m news ∧ Below W.heap.size W W' := by
  have mixed : Try.prog.follows .mixedOrders = true := by kernel_rfl
  obtain ⟨i0, hi0, hz0, hz1, hz2⟩ := info_parts Try.cloneInfoN
  have q22 : ∀ (w : World) (a : Option Addr) (n c n' c' : Nat), (binOp .eql 23 (.slice a n c) (.slice none n' c')).run Try.prog w = .ok (.bool a.isNone) w := fun w a n c n' c' => Lib.run_eql_slice_nil w _ _ a n c n' c' Try.cloneUnderN
  have HN := Lib.hid hn
  clear hn
  go_enter Try.func27, Try.ntmps27
  go_wp2_with (at_builtin; refine wpList_append_own _ rfl _ _ 23 rfl W.heap.size 25 i0 _ 8 104 Try.cloneUnderN hi0 hz0 hz1 hz2 rfl (by decide) _ _ _ rfl (World.ownsRow_made W #[] 0 (Nat.le_refl _) (Nat.zero_le _) rfl) p m c news rfl ?qc1 ?qc2 ?qc3 ?qc4 ?qc5 ?qc6 ?_)
  case qc1 => omega
  case qc2 =>
    intro j u hj
    exact Lib.cell?_alloc_some _ (HN.out j u hj)
  case qc3 => exact h1
  case qc4 => unfold maxLen; omega
  case qc5 => omega
  case qc6 => simp
  intro v' w1 hown hgrow hnil
  go_wp2
  go_ret
  refine ⟨v', rfl, by simpa using hown, ?_⟩
  exact ((Below.refl _ W).alloc (Nat.le_refl _) _).grown hgrow (by simp) (by intro k hk; simp [Value.ownBlock] at hk; omega)
set_option maxRecDepth 100000 in
set_option maxHeartbeats 4000000 in
theorem cloneN_nil (W : World) (m c : Nat) :
    Calls Try.prog 27 #[.slice none m c] W fun e W' => e = .returned (.slice none 0 0) ∧ W' = W := by
  have q22 : ∀ (w : World) (a : Option Addr) (n c n' c' : Nat), (binOp .eql 23 (.slice a n c) (.slice none n' c')).run Try.prog w = .ok (.bool a.isNone) w := fun w a n c n' c' => Lib.run_eql_slice_nil w _ _ a n c n' c' Try.cloneUnderN
  go_enter Try.func27, Try.ntmps27
  go_wp2
  go_ret
  exact ⟨rfl, rfl⟩
end Go.Proofs.Ytcomjkoaieeidaa
namespace Go.Proofs.Ytcomjkoaieeidaa
open Go.RowKit
set_option linter.unusedVariables false
theorem clR_any (W : World) (v : Value) (l : List (Int × Int)) (h : RRow W v l) :
    Calls Try.prog 26 #[v] W fun e W' => ∃ v', e = .returned v' ∧ RRowOn (fun b => W.heap.size ≤ b) W' v' l ∧ Below W.heap.size W W' := by
  obtain ⟨a, cap, rfl, hl, hw, hc⟩ := h
  cases a with
  | none =>
    have e : l = [] := by
      cases l with
      | nil => rfl
      | cons x l => obtain ⟨b, off, e, _⟩ := hc 0 (by simp); cases e
    subst e
    refine (cloneR_nil W _ cap).mono ?_
    rintro e w ⟨rfl, rfl⟩
    exact ⟨_, rfl, RRowOn.nil, Below.refl _ _⟩
  | some p =>
    refine (cloneR_some W p l.length cap (flat2 l) (by rw [flat2_len]) (by omega) ?_ (flat2_one l)).mono ?_
    · intro j u hj
      have hlt := (List.getElem?_eq_some_iff.1 hj).1
      rw [flat2_len] at hlt
      obtain ⟨b, off, e, _⟩ := hc 0 (by omega)
      injection e with e
      subst e
      exact rg_news (fun i hi => by
        obtain ⟨b', off', e, _, h1, h2⟩ := hc i hi
        injection e with e; injection e with e1 e2 _
        subst e1; subst e2
        exact ⟨h1, h2⟩) j u hj
    · rintro e w ⟨v, rfl, hown, hb⟩
      have ho : RgOwn w W.heap.size v l := hown
      refine ⟨v, rfl, ⟨ho.row hl hw, fun g off len c e hlen => ?_⟩, hb⟩
      subst e
      exact (World.ownsRow.lt hown g rfl).1
theorem one8 {S : Nat → Prop} {W : World} {n : Nd} {cs : List Value} (h : NdOn S W n cs) : ∀ u ∈ cs, u.oneCell' = true := by
  cases h with
  | mk c hk hset hname hlen hrow hsub =>
    obtain ⟨⟨a, cap, rfl, _⟩, _⟩ := hset
    intro u hu
    simp only [List.mem_cons, List.not_mem_nil, or_false] at hu
    rcases hu with rfl | rfl | rfl | rfl | rfl | rfl | rfl | rfl <;> rfl
theorem clN_any (W : World) (a : Option Addr) (cap m : Nat) (c : Nat → List Value) (hm : m ≤ 1000000)
    (hrow : ∀ j, j < m → ∃ b off, a = some ⟨b, off, none⟩ ∧ (c j).length = 8 ∧ ∀ i, i < 8 → W.cell? ⟨b, off + j * 8 + i, none⟩ = (c j)[i]?) (h1 : ∀ j, j < m → ∀ u ∈ c j, u.oneCell' = true) :
    Calls Try.prog 27 #[.slice a m cap] W fun e W' => ∃ v', e = .returned v' ∧ W'.ownsRow W.heap.size 25 8 v' m ((List.range m).map c).flatten ∧ Below W.heap.size W W' := by
  cases a with
  | none =>
    have e : m = 0 := by
      rcases Nat.eq_zero_or_pos m with h | h
      · exact h
      · obtain ⟨b, off, e, _⟩ := hrow 0 h; cases e
    subst e
    refine (cloneN_nil W _ cap).mono ?_
    rintro e w ⟨rfl, rfl⟩
    exact ⟨_, rfl, by simpa using World.ownsRow_nil _ _ _ _, Below.refl _ _⟩
  | some p =>
    have h8 : ∀ x ∈ (List.range m).map c, x.length = 8 := fun x hx => by
      obtain ⟨j, hj, rfl⟩ := List.mem_map.1 hx
      obtain ⟨_, _, _, h, _⟩ := hrow j (List.mem_range.1 hj)
      exact h
    have hfl : ((List.range m).map c).flatten.length = m * 8 := by
      have key : ∀ (X : List (List Value)), (∀ x ∈ X, x.length = 8) → X.flatten.length = X.length * 8 := by
        intro X
        induction X with
        | nil => intro _; rfl
        | cons y X ih =>
          intro h
          rw [List.flatten_cons, List.length_append, h y (by simp), ih (fun x hx => h x (by simp [hx])), List.length_cons]
          omega
      rw [key _ h8, List.length_map, List.length_range]
    refine (cloneN_some W p m cap ((List.range m).map c).flatten hfl (by omega) ?_ ?_).mono ?_
    · intro q u hq
      have hlt := (List.getElem?_eq_some_iff.1 hq).1
      rw [hfl] at hlt
      have hj : q / 8 < m := by omega
      obtain ⟨b, off, e, hc8, hc⟩ := hrow (q / 8) hj
      injection e with e
      subst e
      have hx : ((List.range m).map c)[q / 8]? = some (c (q / 8)) := by simp [hj]
      have hf := flat8_at _ h8 (q / 8) (q % 8) _ hx (Nat.mod_lt _ (by omega))
      rw [show q / 8 * 8 + q % 8 = q by omega] at hf
      rw [hf] at hq
      have := hc (q % 8) (Nat.mod_lt _ (by omega))
      rw [hq, show off + q / 8 * 8 + q % 8 = off + q by omega] at this
      rw [Addr.add_lit]
      exact this
    · intro u hu
      obtain ⟨x, hx, hux⟩ := List.mem_flatten.1 hu
      obtain ⟨j, hj, rfl⟩ := List.mem_map.1 hx
      exact h1 j (List.mem_range.1 hj) u hux
    · rintro e w ⟨v, rfl, hown, hb⟩
      exact ⟨v, rfl, hown, hb⟩
end Go.Proofs.Ytcomjkoaieeidaa
