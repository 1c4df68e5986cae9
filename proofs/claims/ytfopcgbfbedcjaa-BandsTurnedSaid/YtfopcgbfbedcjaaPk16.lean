/- slices.Backward at a list of ranges: the iterator that it returns. · The reference's bands (burinref05): the contract of Turn. · The landed bands: Turn, a range over a function in every round of a loop. -/
import Derived.Test.YtfopcgbfbedcjaaPk15
import Derived.Shelf.Abstract
import Derived.OwnWalkIn
import Derived.TacticsInMore
import Derived.LoopNIn
import Derived.LoopIn
import Derived.Test.YtfopcgbfbedcjaaPk5
import Derived.Test.YtfopcgbfbedcjaaPk2
import Derived.Deep.AppendLies
namespace Go.Proofs.Ytfopcgbfbedcjaa
open Go.RowKit Go.Shelf
attribute [local go_sem] Oper.semAt_some
set_option linter.unusedVariables false
/-- The elements of a list from behind, each with its place. -/
def backF (q : List (Int × Int)) : Nat → List (Int × Int × Int)
  | 0 => []
  | k + 1 => ((k : Int), (q[k]?.getD (0, 0)).1, (q[k]?.getD (0, 0)).2) :: backF q k
theorem backF_snd (q : List (Int × Int)) : ∀ k, k ≤ q.length → (backF q k).map Prod.snd = (q.take k).reverse
  | 0, _ => rfl
  | k + 1, h => by
    rw [backF, List.map_cons, backF_snd q k (by omega), List.take_succ_eq_append_getElem (by omega), List.reverse_append, List.getElem?_eq_getElem (by omega)]
    rfl
theorem backF_len (q : List (Int × Int)) : ∀ k, (backF q k).length = k
  | 0 => rfl
  | k + 1 => by rw [backF, List.length_cons, backF_len q k]
def encB (x : Int × Int × Int) : Array Value := #[.int .i64 x.1, .agg #[.int .i64 x.2.1, .int .i64 x.2.2]]
theorem back_any (a : Option Addr) (m c : Nat) (w : World) : Calls Try.prog 31 #[.slice a m c] w fun e w' =>
    e = .returned (.func (.func 51) #[] #[.pointer (some ⟨w.heap.size, 0, none⟩)]) ∧ w.alloc (.cells #[.slice a m c] 22) = w' := by
  go_enter Try.func31, Try.ntmps31
  go_wp2
  go_ret
  exact ⟨rfl, rfl⟩
/-- What a round of the caller's loop keeps: the closure's box, and what lay before. -/
def KpR (B0 Bs : Nat) (v : Value) (X Y : World) : Prop := (∀ k, k < B0 → Y.heap[k]? = X.heap[k]?) ∧ (Boxed X Bs 22 v → Boxed Y Bs 22 v)
theorem kpR_t {B0 Bs : Nat} {v : Value} {X Y Z : World} (h : KpR B0 Bs v X Y) (k : KpR B0 Bs v Y Z) : KpR B0 Bs v X Z := ⟨fun j hj => (k.1 j hj).trans (h.1 j hj), fun x => k.2 (h.2 x)⟩
theorem kpR_b {B0 Bs : Nat} {v : Value} {w : World} (hB : B0 ≤ w.heap.size) (W : World) (l : Nat) (o o' : Obj) (hl : w.heap.size ≤ l) (h : W.heap[l]? = some o) (hc : o.isCells = false) (_ : o.isWalk = false) : KpR B0 Bs v W (W.putObj l o') :=
  ⟨fun k hk => World.putObj_heap_other (by omega), fun hb => boxed_own2 hb (grownBy_putObj' W l o') (fun r e => by cases e; exact ⟨o, h, hc⟩)⟩
theorem KpR.below {B0 Bs : Nat} {v : Value} {X Y : World} (h : Below X.heap.size X Y) (hB : B0 ≤ X.heap.size) : KpR B0 Bs v X Y := ⟨fun k hk => h.block k (by omega), fun hb => (h.block Bs hb.lt).trans hb⟩
set_option maxRecDepth 100000 in
set_option maxHeartbeats 2000000 in
theorem back1_in (n : Nat) (hn : 1 ≤ n) (l Bs B0 m uc : Nat) (ua : Option Addr) (q : List (Int × Int)) (hm : m ≤ 8796093022208) (J Jx : List (Int × Int × Int) → World → Prop) (hJd : ∀ p W k, J p W → J p (W.drewN k))
    (hY : ∀ pre x W, J pre W → pre.length < m → YieldAt Fence.wide (n - 1) Try.prog l (encB x) W fun e W' =>
      (e = .returned (.bool true) ∧ J (pre ++ [x]) W' ∧ KpR B0 Bs (.slice ua m uc) W W') ∨ (e = .returned (.bool false) ∧ Jx (pre ++ [x]) W'))
    (W : World) (hc : Boxed W Bs 22 (.slice ua m uc))
    (hrow : ∀ j, j < m → ∃ b off, ua = some ⟨b, off, none⟩ ∧ b < B0 ∧ W.cell? ⟨b, off + j * 2, none⟩ = some (.int .i64 (q[j]?.getD (0, 0)).1) ∧ W.cell? ⟨b, off + j * 2 + 1, none⟩ = some (.int .i64 (q[j]?.getD (0, 0)).2)) (h0 : J [] W) :
    CallsIn Fence.wide n Try.prog 51 #[.func (.yield l) #[] #[], .pointer (some ⟨Bs, 0, none⟩)] W fun e W' => (∃ v, e = .returned v) ∧
      ((∃ ys, ys = backF q m ∧ J ys W') ∨ (∃ pre, (pre <+: backF q m) ∧ Jx pre W')) := by
  have hcc := hc.cell
  have HR := Lib.hid hrow
  clear hrow
  refine callsIn_of_wp Try.func51 rfl trivial ?_ rfl
  simp only [Try.ntmps51, List.size_toArray, List.length_cons, List.length_nil, Nat.reduceAdd, Nat.reduceSub, Array.replicate_succ, Array.replicate_zero, List.push_toArray, List.append_toArray, List.nil_append, List.cons_append]
  gi_wp2
  gi_loopw [3] (fun i wr => ∃ (k : Nat) (pre : List (Int × Int × Int)), k ≤ m ∧ pre.length + k = m ∧ i = .int .i64 ((k : Int) - 1) ∧ Hid (backF q m = pre ++ backF q k) ∧ J pre wr ∧ Hid (∀ j, j < B0 → wr.heap[j]? = W.heap[j]?) ∧ Boxed wr Bs 22 (.slice ua m uc))
    (fun i _ => (intOf i + 1).toNat)
  case atStart => exact ⟨m, [], Nat.le_refl _, by simp, rfl, Lib.hid rfl, h0, Lib.hid (fun _ _ => rfl), hc⟩
  case round =>
    obtain ⟨k, pre, hk, hpk, rfl, HP, hJs, HO, hnx⟩ := hrel
    have hcx : wr.cell? ⟨Bs, 0, none⟩ = some (.slice ua m uc) := hnx.cell
    by_cases hz : k = 0
    · subst hz
      have HP2 : Hid (backF q m = pre) := Lib.hid (by rw [HP.out, backF, List.append_nil])
      gi_wp2
      go_end0
      exact ⟨⟨_, rfl⟩, .inl ⟨_, HP2.out.symm, hJs⟩⟩
    · obtain ⟨j, rfl⟩ : ∃ j, k = j + 1 := ⟨k - 1, by omega⟩
      obtain ⟨b, off, rfl, hb, hx1, hx2⟩ := HR.out j (by omega)
      have hcell : ∀ o, wr.cell? ⟨b, o, none⟩ = W.cell? ⟨b, o, none⟩ := fun o => by unfold World.cell?; rw [HO.out b hb]
      rw [← hcell] at hx1 hx2
      have HPS : Hid (backF q m = (pre ++ [((j : Int), (q[j]?.getD (0, 0)).1, (q[j]?.getD (0, 0)).2)]) ++ backF q j) := Lib.hid (by rw [HP.out, backF]; simp)
      obtain ⟨p, hp⟩ : ∃ p, q[j]?.getD (0, 0) = p := ⟨_, rfl⟩
      rw [hp] at hx1 hx2 HPS
      obtain ⟨p1, p2⟩ := p
      dsimp only at hx1 hx2 HPS
      have e1 : ((j + 1 : Nat) : Int) - 1 = (j : Int) := by omega
      rw [e1]
      have j0 : (0 : Int) ≤ (j : Int) := by omega
      have j1 : (j : Int) < (m : Int) := by omega
      obtain ⟨fn, tmps, assign, body, hy, hR⟩ := hY pre ((j : Int), p1, p2) wr hJs (by omega)
      unfold encB at hy
      dsimp only at hy
      clear hp hcell e1
      gi_wp2
      refine hR.mono ?_
      rintro e W3 (⟨rfl, hJ3, hk3⟩ | ⟨rfl, hJx3⟩)
      · gi_wp2
        go_roundw
        case rel => exact ⟨j, pre ++ [((j : Int), p1, p2)], by omega, by simp; omega, rfl, HPS, hJ3, Lib.hid (fun i hi => (hk3.1 i hi).trans (HO.out i hi)), hk3.2 hnx⟩
        case measure => simp [intOf]
      · gi_wp2
        refine bodyPost_ret (results_none rfl _ _ _) rfl ?_
        exact ⟨⟨_, rfl⟩, .inr ⟨_, ⟨backF q j, HPS.out.symm⟩, hJx3⟩⟩
theorem back_stops (n : Nat) (hn : 1 ≤ n) (Bs B0 m uc : Nat) (ua : Option Addr) (q : List (Int × Int)) (hm : m ≤ 8796093022208) (w : World) (hB0 : B0 ≤ w.heap.size) (hc : Boxed w Bs 22 (.slice ua m uc))
    (hrow : ∀ j, j < m → ∃ b off, ua = some ⟨b, off, none⟩ ∧ b < B0 ∧ w.cell? ⟨b, off + j * 2, none⟩ = some (.int .i64 (q[j]?.getD (0, 0)).1) ∧ w.cell? ⟨b, off + j * 2 + 1, none⟩ = some (.int .i64 (q[j]?.getD (0, 0)).2)) :
    SeqStopsK Fence.wide n Try.prog 51 #[.pointer (some ⟨Bs, 0, none⟩)] encB (KpR B0 Bs (.slice ua m uc)) (fun ys => ys = backF q m)
      (fun pre => pre <+: backF q m) m w := fun l J Jx W hW hJ _ hY h0 =>
  back1_in n hn l Bs B0 m uc ua q hm J Jx (fun p W k h => hJ p _ _ none h (grown_drewN2 _ _ _) (fun r e => by cases e)) hY W ((hW.block Bs hc.lt).trans hc)
    (fun j hj => by
      obtain ⟨b, off, h1, h2, h3, h4⟩ := hrow j hj
      exact ⟨b, off, h1, h2, (hW.cell (p := ⟨b, off + j * 2, none⟩) (by show b < _; omega)).trans h3, (hW.cell (p := ⟨b, off + j * 2 + 1, none⟩) (by show b < _; omega)).trans h4⟩) h0
end Go.Proofs.Ytfopcgbfbedcjaa
namespace Go.Proofs.Ytfopcgbfbedcjaa
open Go.RowKit
set_option linter.unusedVariables false
theorem turn_succ (L : List (List (Int × Int))) (i : Nat) (hi : i < L.length) (q : List (Int × Int)) (hq : L[i]?.getD [] = q) : Bd.turnL (L.take (i + 1)) = Bd.turnL (L.take i) ++ [q.reverse] := by
  unfold Bd.turnL
  rw [List.take_succ_eq_append_getElem hi, List.map_append]
  rw [List.getElem?_eq_getElem hi] at hq
  rw [← hq]; rfl
theorem rev_succ (q : List (Int × Int)) (k : Nat) (hk : k < q.length) (p : Int × Int) (hp : q[k]?.getD (0, 0) = p) : (q.drop k).reverse = (q.drop (k + 1)).reverse ++ [p] := by
  rw [List.drop_eq_getElem_cons hk, List.reverse_cons]
  rw [List.getElem?_eq_getElem hk] at hp
  rw [← hp]; rfl
set_option maxRecDepth 100000 in
set_option maxHeartbeats 4000000 in
theorem refTurn_any (W : World) (v : Value) (L : List (List (Int × Int))) (h : QRow W v L) (hL : L.length ≤ 1000000) (hq : ∀ q ∈ L, q.length ≤ 1000000) :
    Calls Try.prog 18 #[v] W fun e w' => ∃ v', e = .returned v' ∧ QOwn w' W.heap.size v' (Bd.turnL L) ∧ Below W.heap.size W w' := by
  obtain ⟨i0, hi0, hz0, hz1, hz2⟩ := info_parts Try.infoRange
  obtain ⟨i1, hi1, hy0, hy1, hy2⟩ := info_parts Try.infoSeq
  have HQ := Lib.hid h
  obtain ⟨a, cap, rfl, hl, hc⟩ := h
  have HC := Lib.hid hc
  have HLQ := Lib.hid hq
  obtain ⟨n, hn⟩ : ∃ n, L.length = n := ⟨_, rfl⟩
  have HN := Lib.hid hn
  rw [hn] at hl HC hL HQ ⊢
  clear hc hn hq
  go_enter Try.func18, Try.ntmps18
  go_wp2
  go_loopw [3, 4] (fun V I wr => ∃ (i : Nat) (us : List Value), i ≤ n ∧ I = .int .i64 i ∧ Hid (QOwnU wr W.heap.size V us (Bd.turnL (L.take i))) ∧ us.length = i ∧ Hid (Below W.heap.size W wr)) (fun _ I _ => n - (intOf I).toNat)
  case atStart => exact ⟨0, [], Nat.zero_le _, rfl, Lib.hid QOwnU.nil, rfl, Lib.hid (Below.refl _ _)⟩
  case round =>
    obtain ⟨i, us, hi, rfl, HO, hul, HB⟩ := hrel
    obtain ⟨wo, rfl⟩ : ∃ wo : World, wo = wr := ⟨_, rfl⟩
    have hsz := HB.out.size
    by_cases hlt : i < n
    · obtain ⟨g, off, u, rfl, hg, hc1, hu⟩ := HC.out i hlt
      obtain ⟨q, eq⟩ : ∃ q, L[i]?.getD [] = q := ⟨_, rfl⟩
      rw [eq] at hu
      have hqm : q.length ≤ 1000000 := by
        refine HLQ.out q ?_
        rw [← eq, List.getElem?_eq_getElem (by rw [HN.out]; exact hlt)]; exact List.getElem_mem _
      have HTS := Lib.hid (turn_succ L i (by rw [HN.out]; exact hlt) q eq)
      obtain ⟨ua, uc, rfl, hql, hqw, hqc⟩ := hu
      have HQC := Lib.hid hqc
      obtain ⟨m, hm⟩ : ∃ m, q.length = m := ⟨_, rfl⟩
      have HM := Lib.hid hm
      rw [hm] at hql HQC hqm hc1
      rw [← HB.out.cell (p := ⟨g, off + i, none⟩) hg] at hc1
      have HCI := Lib.hid hc1
      have k0 : (0 : Int) ≤ (i : Int) := by omega
      have k1 : (i : Int) < (n : Int) := by omega
      clear eq hqc hm hqw
      go_wp2
      go_loopw [5, 6] (fun S K wr => ∃ k : Nat, k ≤ m ∧ K = .int .i64 ((k : Int) - 1) ∧ Hid (RgOwn wr wo.heap.size S (q.drop k).reverse) ∧ Hid (Below wo.heap.size wo wr)) (fun _ K _ => (intOf K + 1).toNat)
      case atStart => exact ⟨m, Nat.le_refl _, rfl, Lib.hid (by rw [List.drop_eq_nil_of_le (by rw [HM.out]; exact Nat.le_refl _)]; exact RgOwn.nil), Lib.hid (Below.refl _ _)⟩
      case round =>
        obtain ⟨k, hk, rfl, HS, HE⟩ := hrel
        obtain ⟨wq, rfl⟩ : ∃ wq : World, wq = wr := ⟨_, rfl⟩
        have hsq := HE.out.size
        have hown := HS.out
        have hdl : (q.drop k).reverse.length = m - k := by rw [List.length_reverse, List.length_drop, HM.out]
        rcases Nat.eq_zero_or_pos k with rfl | hkp
        · rw [List.drop_zero] at hown
          rw [List.drop_zero, Nat.sub_zero] at hdl
          obtain ⟨sa, sc, rfl⟩ := hown.slice
          have c0 : ¬ (0 : Int) ≤ ((0 : Nat) : Int) - 1 := by omega
          have hq1 := HO.out
          have hlt3 : ∀ b, (Value.slice sa q.reverse.length sc).ownBlock = some b → wo.heap.size ≤ b := fun b hb => (hown.lt hb).1
          have hua : ∀ x, x < us.length → ∀ b, (us[x]?.getD nilV).ownBlock = some b → (Value.slice sa q.reverse.length sc).ownBlock ≠ some b := fun x hx b hb e => by
            have h1 := (hq1.2.2.1 x hx).lt hb
            have h2 := hlt3 b e
            omega
          have huv : ∀ b, (Value.slice sa q.reverse.length sc).ownBlock = some b → u3.ownBlock ≠ some b := fun b hb e => by
            have h1 := hq1.2.1.lt b e
            have h2 := hlt3 b hb
            omega
          have hqq := hq1.below HE.out
          have hou := hqq.2.1
          rw [hul] at hou
          rw [hdl] at hown hua huv hlt3 ⊢
          have HUA := Lib.hid hua
          have HUV := Lib.hid huv
          have HW := Lib.hid hown
          have HQQ := Lib.hid hqq
          have HDL := Lib.hid hdl
          clear hua huv hqq hq1 hlt3 hown hdl
          go_wp2_with (at_builtin; (refine wpList_append_lies _ (by rfl) _ _ 26 (by rfl) W.heap.size 22 i1 nilV 1 24 Try.underlying26 hi1 hy0 hy1 hy2 rfl (by decide) _ i us (by rfl) (hou.alloc _) ⟨wq.heap.size, 0, none⟩ 1 1 [.slice sa m sc] (by rfl) rfl (World.news_of_block (cs := #[.slice sa m sc]) (heap_alloc_new wq _)) (by simp [Value.oneCell']) (by omega) (by unfold maxLen; omega) (by omega) (by simp; omega) (wq.heap.size + 1) (by simp) ?_))
          intro gg cap1 wz hown1 hgrow hat hlt1
          have hO5 := QOwnU.snoc (u := .slice sa m sc) (q := q.reverse) (HQQ.out.alloc (.cells #[.slice sa m sc] 22)) (by
              have := (HW.out.lower (base' := W.heap.size) hsz).alloc (.cells #[.slice sa m sc] 22)
              exact this) HUA.out HUV.out (by rw [hul]; exact hown1) hgrow (hat.imp id (fun h => by rw [h]; simp))
          have hB5 := ((HB.out.trans (HE.out.mono hsz)).alloc (by omega) _).grown hgrow (by simp; omega) (fun q hq => (hou.lt q hq).1)
          rw [← HTS.out, hul] at hO5
          have HO5 := Lib.hid hO5
          have HB5 := Lib.hid hB5
          clear hO5 hB5 hown1 hgrow hat hlt1 hou
          go_wp2
          go_roundw
          case rel => exact ⟨i + 1, us ++ [.slice sa m sc], by omega, by go_num, HO5, by simp [hul], HB5⟩
          case measure => (simp [intOf]; try omega)
        · obtain ⟨j, rfl⟩ : ∃ j, k = j + 1 := ⟨k - 1, by omega⟩
          obtain ⟨b, off2, rfl, hb, hx1, hx2⟩ := HQC.out j (by omega)
          obtain ⟨p, hp⟩ : ∃ p, q[j]?.getD (0, 0) = p := ⟨_, rfl⟩
          have HRS := Lib.hid (rev_succ q j (by rw [HM.out]; omega) p hp)
          rw [hp] at hx1 hx2
          clear hp
          have hbo : b < wo.heap.size := by omega
          rw [← HB.out.cell (p := ⟨b, off2 + j * 2, none⟩) hb, ← HE.out.cell (p := ⟨b, off2 + j * 2, none⟩) hbo] at hx1
          rw [← HB.out.cell (p := ⟨b, off2 + j * 2 + 1, none⟩) hb, ← HE.out.cell (p := ⟨b, off2 + j * 2 + 1, none⟩) hbo] at hx2
          have hcg := HCI.out
          have hgo : g < wo.heap.size := by omega
          rw [← HE.out.cell (p := ⟨g, off + i, none⟩) hgo] at hcg
          obtain ⟨p1, p2⟩ := p
          dsimp only at hx1 hx2
          unfold RgOwn at hown
          rw [hdl] at hown
          obtain ⟨M, hM⟩ : ∃ M, (q.drop (j + 1)).reverse = M := ⟨_, rfl⟩
          rw [hM] at hown HRS hdl
          have HDL := Lib.hid hdl
          have e1 : ((j + 1 : Nat) : Int) - 1 = (j : Int) := by omega
          rw [e1]
          have j0 : (0 : Int) ≤ (j : Int) := by omega
          have j1 : (j : Int) < (m : Int) := by omega
          have hbq : b < wq.heap.size := by omega
          clear hM e1 hdl
          go_wp2_with (at_builtin; (refine wpList_append_own _ (by rfl) _ _ 22 (by rfl) wo.heap.size 44 i0 (.agg #[.int .i64 0, .int .i64 0]) 2 16 Try.underlying22 hi0 hz0 hz1 hz2 rfl (by decide) _ (m - (j + 1)) (flat2 M) (by rfl) (hown.alloc _) ⟨wq.heap.size, 0, none⟩ 1 1 [.int .i64 p1, .int .i64 p2] (by rfl) rfl (World.news_of_block (cs := #[.int .i64 p1, .int .i64 p2]) (heap_alloc_new wq _)) (by simp [Value.oneCell']) (by unfold maxLen; omega) (by omega) (by simp; omega) ?_))
          intro v1 w1 hown1 hgrow _
          have hO2 : RgOwn w1 wo.heap.size v1 (q.drop j).reverse := by
            rw [HRS.out]; unfold RgOwn; rw [List.length_append, HDL.out, flat2_snoc]; exact hown1
          have hB2 := (HE.out.alloc hsq _).grown hgrow (by simp; omega) (fun q hq => (hown.lt q hq).1)
          have HO2 := Lib.hid hO2
          have HB2 := Lib.hid hB2
          clear hO2 hown1 hgrow hown hB2
          go_wp2
          go_roundw
          case rel => exact ⟨j, by omega, by go_num, HO2, HB2⟩
          case measure => (simp [intOf]; try omega)
    · obtain rfl : i = n := by omega
      have hO := HO.out
      rw [List.take_of_length_le (by rw [HN.out]; exact Nat.le_refl _)] at hO
      have HO2 := Lib.hid hO
      clear hO
      go_wp2
      go_ret
      exact ⟨_, rfl, ⟨us, HO2.out⟩, HB.out⟩
end Go.Proofs.Ytfopcgbfbedcjaa
namespace Go.Proofs.Ytfopcgbfbedcjaa
open Go.RowKit Go.Shelf
attribute [local go_sem] Oper.semAt_some
set_option linter.unusedVariables false
theorem rg_one_news2 (W : World) (x y : Int) : ∀ j u, [Value.int .i64 x, Value.int .i64 y][j]? = some u → (W.alloc (.cells #[.int .i64 x, .int .i64 y] 44)).cell? ((⟨W.heap.size, 0, none⟩ : Addr).add j) = some u :=
  World.news_of_block (cs := #[.int .i64 x, .int .i64 y]) (t := 44) (fr := (0, 0)) (heap_alloc_new W _)
theorem KpR.grown {B0 Bs : Nat} {v : Value} {X Y : World} {row : Option Nat} (h : X.grownBy Y row) (hB : B0 ≤ X.heap.size) (hr : ∀ r, row = some r → B0 ≤ r ∧ r ≠ Bs) : KpR B0 Bs v X Y :=
  ⟨fun k hk => h.block k (by omega) (fun e => by have := (hr k e.symm).1; omega), fun hb => hb.kept h (fun e => (hr Bs e.symm).2 rfl)⟩
theorem QOwnU.shut {w w' : World} {B base : Nat} {v : Value} {us : List Value} {L : List (List (Int × Int))} (h : QOwnU w base v us L) (hs : Shut B w w') : QOwnU w' base v us L :=
  ⟨h.1, ownsRow_shut h.2.1 hs, fun j hj => ownsRow_shut (h.2.2.1 j hj) hs, h.2.2.2⟩
/-- What the inner loop of Turn holds: the box of what is turned, and what has come. -/
def TurnJ (w0 : World) (pre : List (Int × Int × Int)) (W : World) : Prop :=
  (w0.heap.size + 2 ≤ W.heap.size ∧ ∃ v, Boxed W w0.heap.size 22 v ∧ RgOwn W (w0.heap.size + 2) v (pre.map Prod.snd)) ∧ Below w0.heap.size w0 W
theorem TurnJ.own {w0 : World} (B : Nat) (hB : w0.heap.size ≤ B) : OwnFrom B (TurnJ w0) :=
  OwnFrom.and (Own.from (fun s A C row hs hg hr => by
    obtain ⟨h0, v, h1, h2⟩ := hs
    exact ⟨Nat.le_trans h0 hg.size, v, boxed_own2 h1 hg hr, rgOwn_own2 h2 hg hr⟩) _) (ownFrom_below (Nat.le_refl _) hB)
/-- The activation of Turn between two rounds. -/
structure TurnI (W : World) (A : Option Addr) (n cap : Nat) (L : List (List (Int × Int))) (a : Act) (w : World) : Prop where mk0 ::
  has : ∃ (i : Nat) (us : List Value) (Ds : List Nat) (V x5 x6 x12 x13 x14 x15 x16 x23 x24 x25 x26 x27 : Value),
    a = { tmps := #[.slice A n cap, undef, .slice none 0 0, V, undef, x5, x6, undef, undef, .slice A n cap, .int .i64 n, .int .i64 i, x12, x13, x14, x15, x16, undef, undef, undef, undef, undef, undef, x23, x24, x25, x26, x27, undef], defers := Ds.map markOf } ∧
    i ≤ n ∧ QOwnU w W.heap.size V us (Bd.turnL (L.take i)) ∧ us.length = i ∧ Below W.heap.size W w ∧ Marks W.heap.size w Ds
theorem TurnI.mk {W w : World} {A : Option Addr} {n cap : Nat} {L : List (List (Int × Int))} {tmps : Array Value} (i : Nat) (us : List Value) (Ds : List Nat) {ds : List Deferred} (V x5 x6 x12 x13 x14 x15 x16 x23 x24 x25 x26 x27 : Value)
    (ht : tmps = #[.slice A n cap, undef, .slice none 0 0, V, undef, x5, x6, undef, undef, .slice A n cap, .int .i64 n, .int .i64 i, x12, x13, x14, x15, x16, undef, undef, undef, undef, undef, undef, x23, x24, x25, x26, x27, undef]) (hd : ds = Ds.map markOf)
    (h1 : i ≤ n) (h2 : QOwnU w W.heap.size V us (Bd.turnL (L.take i))) (h3 : us.length = i) (h4 : Below W.heap.size W w) (h5 : Marks W.heap.size w Ds) : TurnI W A n cap L { tmps := tmps, defers := ds } w :=
  ⟨i, us, Ds, V, x5, x6, x12, x13, x14, x15, x16, x23, x24, x25, x26, x27, by rw [ht, hd], h1, h2, h3, h4, h5⟩
set_option maxRecDepth 100000 in
set_option maxHeartbeats 4000000 in
theorem turn_in (fu : Nat) (hfu : 3 ≤ fu) (W : World) (v : Value) (L : List (List (Int × Int))) (h : QRow W v L) (hL : L.length ≤ 1000000000) (hq : ∀ q ∈ L, q.length ≤ 1000000) :
    CallsIn Fence.wide fu Try.prog 17 #[v] W fun e w' => ∃ v', e = .returned v' ∧ QOwn w' W.heap.size v' (Bd.turnL L) ∧ Below W.heap.size W w' := by
  obtain ⟨i0, hi0, hz0, hz1, hz2⟩ := info_parts Try.infoRange
  obtain ⟨i1, hi1, hy0, hy1, hy2⟩ := info_parts Try.infoSeq
  have h1 : 1 ≤ fu := by omega
  obtain ⟨A, cap, rfl, hl, hc⟩ := h
  have HC := Lib.hid hc
  have HLQ := Lib.hid hq
  obtain ⟨n, hn⟩ : ∃ n, L.length = n := ⟨_, rfl⟩
  have HN := Lib.hid hn
  rw [hn] at hl HC hL ⊢
  clear hc hn hq
  refine callsIn_of_wp_marks Try.func17 rfl trivial ?_ rfl
  simp only [Try.ntmps17, List.size_toArray, List.length_cons, List.length_nil, Nat.reduceAdd, Nat.reduceSub, Array.replicate_succ, Array.replicate_zero, List.push_toArray, List.append_toArray, List.nil_append, List.cons_append]
  gi_wp2
  refine wpIn_loop (I := TurnI W A n cap L) (μ := fun a _ => n - (intOf (a.tmps.getD 11 undef)).toNat) (TurnI.mk 0 [] [] _ _ _ _ _ _ _ _ _ _ _ _ _ rfl rfl (Nat.zero_le _) QOwnU.nil rfl (Below.refl _ _) (Marks.nil _ _)) ?_
  rintro a0 wr ⟨i, us, Ds, V, x5, x6, x12, x13, x14, x15, x16, x23, x24, x25, x26, x27, rfl, hi, ho, hul, hb, hm⟩
  have HO := Lib.hid ho
  have HB := Lib.hid hb
  have HM := Lib.hid hm
  have hsz := HB.out.size
  clear ho hb hm
  by_cases hlt : i < n
  · obtain ⟨g, off, u, rfl, hg, hc1, hu⟩ := HC.out i hlt
    obtain ⟨q, eq⟩ : ∃ q, L[i]?.getD [] = q := ⟨_, rfl⟩
    rw [eq] at hu
    have hqm : q.length ≤ 1000000 := by
      refine HLQ.out q ?_
      rw [← eq, List.getElem?_eq_getElem (by rw [HN.out]; exact hlt)]; exact List.getElem_mem _
    have HTS := Lib.hid (turn_succ L i (by rw [HN.out]; exact hlt) q eq)
    rw [← HB.out.cell (p := ⟨g, off + i, none⟩) hg] at hc1
    obtain ⟨ua, uc, rfl, hql, hqw, hqc⟩ := hu
    have HQC := Lib.hid hqc
    obtain ⟨m, hm⟩ : ∃ m, q.length = m := ⟨_, rfl⟩
    have HMQ := Lib.hid hm
    rw [hm] at hql HQC hqm hc1
    have k0 : (0 : Int) ≤ (i : Int) := by omega
    have k1 : (i : Int) < (n : Int) := by omega
    clear eq hqc hqw hm
    gi_wp2_with fail
    refine ⟨trivial, ?_⟩
    refine (callsIn_wide.2 (back_any _ _ _ _)).mono ?_
    rintro e w' ⟨rfl, rfl⟩
    gi_wp2
    have hBw : Below wr.heap.size wr ((wr.alloc (.cells #[.slice none 0 0] 22)).alloc (.cells #[.slice ua m uc] 22)) := ((Below.refl _ wr).alloc (Nat.le_refl _) _).alloc (by simp) _
    have b0 := Boxed.new wr 22 (.slice none 0 0)
    have bS := Boxed.new (wr.alloc (.cells #[.slice none 0 0] 22)) 22 (.slice ua m uc)
    rw [World.size_alloc] at bS
    refine wpIn_rangeFunc_ownH rfl h1 (gf := 51) (lb := #[.pointer (some ⟨wr.heap.size + 1, 0, none⟩)]) rfl trivial (enters_of Try.func51 (by kernel_rfl) rfl)
      (back_stops (fu - 1) (by omega) (wr.heap.size + 1) wr.heap.size m uc ua q hql _ (by simp; omega) bS (fun j hj => by
        obtain ⟨b, o2, h1, h2, h3, h4⟩ := HQC.out j hj
        have hbw : b < wr.heap.size := by omega
        exact ⟨b, o2, h1, hbw, (hBw.cell (p := ⟨b, o2 + j * 2, none⟩) hbw).trans ((HB.out.cell (p := ⟨b, o2 + j * 2, none⟩) h2).trans h3), (hBw.cell (p := ⟨b, o2 + j * 2 + 1, none⟩) hbw).trans ((HB.out.cell (p := ⟨b, o2 + j * 2 + 1, none⟩) h2).trans h4)⟩))
      kpR_t (kpR_b (by simp; omega)) (Below.refl _ _) (fun _ => rfl)
      (TurnJ wr) (fun _ _ _ => False) (TurnJ.own _ (by simp; omega)) (fun _ _ _ _ _ hs _ _ => hs)
      ⟨⟨by simp, _, b0.alloc _, RgOwn.nil⟩, hBw⟩
      (fun x a' W' => ∃ Bx, wr.heap.size + 2 ≤ Bx ∧ W'.heap[Bx]? = some (.cells #[.int .i64 x.2.1, .int .i64 x.2.2] 44 (0, 0)) ∧
        a' = { tmps := #[.slice (some ⟨g, off, none⟩) n cap, undef, .slice none 0 0, V, undef, .slice ua m uc, .pointer (some ⟨wr.heap.size, 0, none⟩), undef, .pointer (some ⟨Bx, 0, none⟩), .slice (some ⟨g, off, none⟩) n cap, .int .i64 n, .int .i64 i, .bool true, .pointer (some ⟨g, off + i, none⟩), .slice ua m uc, .slice ua m uc, .func (.func 51) #[] #[.pointer (some ⟨wr.heap.size + 1, 0, none⟩)], .int .i64 x.1, .agg #[.int .i64 x.2.1, .int .i64 x.2.2], undef, undef, undef, undef, x23, x24, x25, x26, x27, undef], defers := [] })
      (fun x a' s X Y row hs hgr hr => by
        obtain ⟨Bx, e1, e2, e3⟩ := hs
        exact ⟨Bx, e1, (hgr.block Bx (Array.getElem?_eq_some_iff.1 e2).1 (fun e => by
          obtain ⟨_, o, ho, hco⟩ := hr Bx e.symm
          rw [e2] at ho; cases ho; cases hco)).trans e2, e3⟩)
      ?assign ?body ?done ?stop
    case assign =>
      rintro l pre ⟨x0, x1, x2⟩ W' K ⟨⟨hs0, v, hv, hr⟩, hB'⟩ hK
      unfold encB
      dsimp only
      gi_wp2
      exact hK _ _ ((KeepsOthers.alloc _ _).from _) (KpR.below ((Below.refl _ _).alloc (Nat.le_refl _) _) (by omega)) ⟨⟨by simp; omega, v, hv.alloc _, hr.alloc _⟩, hB'.alloc (by omega) _⟩ ⟨W'.heap.size, hs0, heap_alloc_new _ _, rfl⟩
    case body =>
      rintro l pre x a' W' hl hrec ⟨⟨hs0, v, hv, hr⟩, hB'⟩ ⟨Bx, hBx, bX, rfl⟩ hlen
      have c0 := hv.cell
      obtain ⟨x0, x1, x2⟩ := x
      dsimp only at bX
      have cx1 : W'.cell? ⟨Bx, 0, none⟩ = some (.int .i64 x1) := by simp [World.cell?, bX]
      have cx2 : W'.cell? ⟨Bx, 1, none⟩ = some (.int .i64 x2) := by simp [World.cell?, bX]
      obtain ⟨a1, cap1, rfl⟩ := hr.slice
      rw [List.length_map] at *
      obtain ⟨gg, cap2, W2, hrun, hown, hgrow, hat, hlt2⟩ := run_append_lies (P := Try.prog) (W'.alloc (.cells #[.int .i64 x1, .int .i64 x2] 44)) 22 22 (wr.heap.size + 2) 44 i0 (.agg #[.int .i64 0, .int .i64 0]) 2 16 Try.underlying22 hi0 hz0 hz1 hz2 rfl (by omega) _ pre.length (flat2 (pre.map Prod.snd)) (by have := hr.alloc (.cells #[.int .i64 x1, .int .i64 x2] 44); unfold RgOwn at this; rw [List.length_map] at this; exact this)
        ⟨W'.heap.size, 0, none⟩ 1 1 [.int .i64 x1, .int .i64 x2] (by rfl) (rg_one_news2 W' x1 x2) (by simp [Value.oneCell']) (by omega) (by unfold maxLen; omega) (by omega) (by simp; omega) (W'.heap.size + 1) (by simp)
      have hrow : ∀ {B : Nat}, (Value.slice a1 pre.length cap1).ownBlock = some B → wr.heap.size + 2 ≤ B ∧ ∃ cur, W'.heap[B]? = some (.cells cur 44 (0, 0)) := fun {B} e => by
        rcases hr.2 with ⟨hx, _⟩ | ⟨g', cap', cur', hx, hg', hgb, _⟩
        · rw [hx] at e; simp [Value.ownBlock] at e
        · rw [hx] at e; simp [Value.ownBlock] at e; subst e; exact ⟨hg', cur', hgb⟩
      have hneW : ∀ B, B < wr.heap.size + 2 → some B ≠ (Value.slice a1 pre.length cap1).ownBlock := fun B hB' e => by
        have := (hrow e.symm).1; omega
      have hv2 : Boxed W2 wr.heap.size 22 (.slice a1 pre.length cap1) := (hv.alloc _).kept hgrow (hneW _ (by omega))
      have hcb := hv2.cell
      have hfb := hv2.frozen
      gi_wp2_with (gi_at_builtin; refine wpListIn_append_run2 rfl _ _ 22 rfl _ _ (.slice (some ⟨gg, 0, none⟩) (pre.length + 1) cap2) W2 rfl rfl hrun ?_)
      have hoa : ∀ {B : Nat} {o : Obj}, W'.heap[B]? = some o → (W'.alloc (.cells #[.int .i64 x1, .int .i64 x2] 44)).heap[B]? = some o := fun {B o} h => (Below.heap_alloc _ _ _ (Array.getElem?_eq_some_iff.1 h).1).trans h
      have hgw : wr.heap.size + 2 ≤ gg := by
        rcases hat with e | e
        · exact (hrow e).1
        · omega
      have ko : KeepsOthers W' (W2.setCell ⟨wr.heap.size, 0, none⟩ (.slice (some ⟨gg, 0, none⟩) (pre.length + 1) cap2)) :=
        ((KeepsOthers.alloc W' _).trans (KeepsOthers.of_grownBy hgrow (fun j o hj ho => by
          obtain ⟨_, cur, hc⟩ := hrow hj
          rw [hoa hc] at ho; cases ho; rfl))).trans (KeepsOthers.setCell _ _ _)
      have hkp : KpR wr.heap.size (wr.heap.size + 1) (.slice ua m uc) W' (W2.setCell ⟨wr.heap.size, 0, none⟩ (.slice (some ⟨gg, 0, none⟩) (pre.length + 1) cap2)) :=
        kpR_t (kpR_t (KpR.below ((Below.refl _ _).alloc (Nat.le_refl _) _) (by omega)) (KpR.grown hgrow (by simp; omega) (fun r e => by have := (hrow e).1; omega)))
          (KpR.grown (grownBy_setCell' W2 _ _) (by have := hgrow.size; simp at this; omega) (fun r e => by cases e; omega))
      have hfl : flat2 ((pre ++ [(x0, x1, x2)]).map Prod.snd) = flat2 (pre.map Prod.snd) ++ [Value.int .i64 x1, Value.int .i64 x2] := by rw [List.map_append]; exact flat2_snoc _ _
      have hown2 : RgOwn W2 (wr.heap.size + 2) (.slice (some ⟨gg, 0, none⟩) (pre.length + 1) cap2) ((pre ++ [(x0, x1, x2)]).map Prod.snd) := by unfold RgOwn; rw [hfl, List.length_map, List.length_append]; exact hown
      have hB2 : Below wr.heap.size wr W2 := (hB'.alloc (by omega) _).grown hgrow (by simp; omega) (fun q hq => by have := (hrow hq).1; omega)
      exact ⟨ko.from _, hkp, ⟨by have := hgrow.size; simp at this ⊢; omega, _, hv2.set _, World.ownsRow.kept hown2 (grownBy_setCell' W2 _ _) (.inr (by simp [Value.ownBlock]; omega))⟩, hB2.setCell (p := ⟨wr.heap.size, 0, none⟩) (Nat.le_refl _) _⟩
    case done =>
      rintro D ys W' hD rfl ⟨⟨hs0, v, hv, hr⟩, hB'⟩ hK
      have hrv : RgOwn W' (wr.heap.size + 2) v q.reverse := by
        rw [backF_snd q m (by have := HMQ.out; omega), ← HMQ.out, List.take_length] at hr
        exact hr
      have c0 := hv.cell
      obtain ⟨sa, sc, rfl⟩ := hrv.slice
      have hml : q.reverse.length = m := by rw [List.length_reverse]; exact HMQ.out
      rw [hml] at hv c0 hrv
      have hq0 := HO.out.below hB'
      have hqa := hq0.alloc (.cells #[.slice sa m sc] 22)
      have hou := hqa.2.1
      rw [hul] at hou
      have hmk := HM.out.cons hB' (by simp at hD; omega) hsz hK
      obtain ⟨gg, cap2, W2, hrun, hown, hgrow, hat, hlt2⟩ := run_append_lies (P := Try.prog) (W'.alloc (.cells #[.slice sa m sc] 22)) 26 26 W.heap.size 22 i1 nilV 1 24 Try.underlying26 hi1 hy0 hy1 hy2 rfl (by decide) V i us hou
        ⟨W'.heap.size, 0, none⟩ 1 1 [.slice sa m sc] (by rfl) (World.news_of_block (cs := #[.slice sa m sc]) (t := 22) (fr := (0, 0)) (heap_alloc_new W' _)) (by simp [Value.oneCell']) (by omega) (by unfold maxLen; omega) (by omega) (by simp; omega) (W'.heap.size + 1) (by simp)
      have hua : ∀ j, j < us.length → ∀ b, (us[j]?.getD nilV).ownBlock = some b → (Value.slice sa m sc).ownBlock ≠ some b := fun j hj b e e2 => by
        have a1 := ((HO.out.2.2.1 j hj).lt e).2
        have a2 := (hrv.lt e2).1
        omega
      have huv : ∀ b, (Value.slice sa m sc).ownBlock = some b → V.ownBlock ≠ some b := fun b e e2 => by
        have a1 := (HO.out.2.1.lt b e2).2
        have a2 := (hrv.lt e).1
        omega
      have hsn := QOwnU.snoc (q := q.reverse) hqa (RgOwn.alloc (RgOwn.lower hrv (by omega)) _) hua huv (by rw [hul]; exact hown) hgrow (hat.imp id (fun h => by rw [h]; simp))
      rw [← HTS.out, hul] at hsn
      have hko : KeepsOthers W' W2 := (KeepsOthers.alloc W' _).trans (KeepsOthers.of_grownBy hgrow (fun j o hj ho => by
        rcases hou.2 with ⟨hx, _⟩ | ⟨g', cap', cur', hx, hg', hgb, _⟩
        · rw [hx] at hj; simp [Value.ownBlock] at hj
        · rw [hx] at hj; simp [Value.ownBlock] at hj; subst hj; rw [hgb] at ho; cases ho; rfl))
      have hB2 : Below W.heap.size W W2 := ((HB.out.trans (hB'.mono hsz)).alloc (by omega) _).grown hgrow (by simp; omega) (fun q hq => (hou.lt q hq).1)
      have HSN := Lib.hid (And.intro hsn (And.intro hB2 (hmk.keep hko)))
      clear hsn hB2 hmk hko hua huv
      gi_wp2_with (gi_at_builtin; refine wpListIn_append_run2 rfl _ _ 26 rfl _ _ (.slice (some ⟨gg, 0, none⟩) (i + 1) cap2) W2 rfl rfl hrun ?_)
      exact ⟨TurnI.mk (i + 1) (us ++ [.slice sa m sc]) (D :: Ds) _ _ _ _ _ _ _ _ _ _ _ _ _ rfl rfl (by omega) HSN.out.1 (by simp [hul]) HSN.out.2.1 HSN.out.2.2, by simp [intOf]; omega⟩
    case stop =>
      rintro D c pre W' _ _ h _
      exact h.elim
  · obtain rfl : i = n := by omega
    have hO := HO.out
    rw [List.take_of_length_le (by rw [HN.out]; exact Nat.le_refl _)] at hO
    have HO2 := Lib.hid hO
    clear hO
    gi_wp2
    refine leaves_marks (B := W.heap.size) Ds wr HM.out hsz (fun w' hs => ?_)
    refine ⟨_, results_tmp rfl _ _ _, ?_⟩
    exact ⟨_, rfl, ⟨us, HO2.out.shut hs⟩, HB.out.trans hs.below⟩
theorem turn_any (W : World) (v : Value) (L : List (List (Int × Int))) (h : QRow W v L) (hL : L.length ≤ 1000000000) (hq : ∀ q ∈ L, q.length ≤ 1000000) :
    Calls Try.prog 17 #[v] W fun e w' => ∃ v', e = .returned v' ∧ QOwn w' W.heap.size v' (Bd.turnL L) ∧ Below W.heap.size W w' :=
  callsIn_wide.1 (turn_in 3 (by omega) W v L h hL hq)
end Go.Proofs.Ytfopcgbfbedcjaa
