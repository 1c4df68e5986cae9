/- The landed fold: the contract of Family, a loop made with a jump. · The plain mathematics of the landed Close: the ranges of what is in a pair, the families of a list. -/
import Derived.Test.YtecclhmjmceheaaGreatDoorGp25
import Derived.ScopeJumps
import Derived.WalkMore
import Derived.Test.YtecclhmjmceheaaGreatDoorGp24
import Derived.Test.YtecclhmjmceheaaGreatDoorGp7
namespace Go.Proofs.YtecclhmjmceheaaGreatDoor
open Go.RowKit
set_option linter.unusedVariables false
/-- What the walk is handed as the table of blocks: read at each place it is that block. -/
def IdxOk (V : Value) : Prop := ∀ i : Nat, i < 14 → ∀ w : World, (Instr.index 206 V (.int .i64 (i : Int))).run Tryz.prog w =
  .ok (.agg #[.int .i64 (Fd.blocksL[i]?.getD (0, 0, 0)).1, .int .i64 (Fd.blocksL[i]?.getD (0, 0, 0)).2.1, .int .i64 (Fd.blocksL[i]?.getD (0, 0, 0)).2.2]) w
theorem blks_idx : IdxOk blksV := by
  intro i hi w
  have h : i = 0 ∨ i = 1 ∨ i = 2 ∨ i = 3 ∨ i = 4 ∨ i = 5 ∨ i = 6 ∨ i = 7 ∨ i = 8 ∨ i = 9 ∨ i = 10 ∨ i = 11 ∨ i = 12 ∨ i = 13 := by omega
  rcases h with rfl | rfl | rfl | rfl | rfl | rfl | rfl | rfl | rfl | rfl | rfl | rfl | rfl | rfl
  all_goals (show _ = _; kernel_rfl)
structure WalkIs (r : Int) (v : Nat) (T : List Int) : Prop where
  eq : Fd.walkL r v = T
structure ScanOf (x : Int) (L T : List Int) : Prop where
  eq : Fd.scan x L = T
theorem blocks_ok (W : World) : Calls Tryz.prog 209 #[] W fun e w' => ∃ V, e = .returned V ∧ Hid (IdxOk V) ∧ Below W.heap.size W w' :=
  (blocks_any W).mono fun _ _ ⟨h1, h2⟩ => ⟨blksV, h1, Lib.hid blks_idx, h2⟩
theorem partner_at (p q s x m : Int) (hb : (p, q, s) ∈ Fd.blocksL) (hm : Fd.partner (p, q, s) x = m) (W : World) :
    Calls Tryz.prog 210 #[.agg #[.int .i64 p, .int .i64 q, .int .i64 s], .int .i64 x] W fun e w' => e = .returned (.int .i64 m) ∧ ∃ q os', w' = Go.Sort.grow (W.drewN q) os' := by
  rw [← hm]; exact partner_any W (p, q, s) x hb
theorem wp_scope_jumps1 {P : Program} {a : Act} {w : World} {Q : Exit → Act → World → Prop} {c rest : Code} (l : Nat) (J : Act → World → Prop) (μ : Act → World → Nat) (hf : findLabel c l = some (Code.skip.seq rest))
    (pass : ∀ a w, J a w → rest.wp P (Exit.jump l (fun a' w' => J a' w' ∧ μ a' w' < μ a w) Q) a w)
    (first : (∀ a w, J a w → rest.wp P (Exit.jump l J Q) a w) → c.wp P (Exit.jump l J Q) a w) : (Code.scope c).wp P Q a w :=
  wp_scope_jumps l J μ hf (first fun a w h => Code.wp_mono (fun e a' w' q => by cases e <;> first | exact q | exact ⟨q.1, q.2.1⟩) (pass a w h)) (fun a w h => wp_seq (wp_skip (pass a w h)))
theorem below_growN (w : World) (n : Nat) (os : Array Obj) : Below w.heap.size w (Go.Sort.grow (w.drewN n) os) :=
  ⟨rfl, rfl, rfl, by simp [Go.Sort.grow], fun k hk => by rw [Go.Sort.heap_grow_old _ _ (by exact hk)]; rfl⟩
theorem iown_one (W : World) (r : Int) : IOwn (W.alloc (.cells #[.int .i64 r] 3)) W.heap.size (.slice (some ⟨W.heap.size, 0, none⟩) 1 1) [r] :=
  ⟨rfl, .inr ⟨W.heap.size, 1, #[.int .i64 r], rfl, Nat.le_refl _, heap_alloc_new _ _, Nat.le_refl _, by decide, rfl, rfl⟩⟩
theorem fold_pre (x : Int) (v : Nat) (L : List Int) (hv : v < L.length) (h : L[v]?.getD 0 = x) : ∀ bs : List Fd.Blk, v < (bs.foldl (Fd.addB x) L).length ∧ (bs.foldl (Fd.addB x) L)[v]?.getD 0 = x := by
  intro bs
  induction bs generalizing L with
  | nil => exact ⟨hv, h⟩
  | cons b bs ih =>
    rw [List.foldl_cons]
    refine ih _ ?_ ?_
    · have := (Fd.addB_len x L b).1; omega
    · unfold Fd.addB; split
      · exact h
      · rw [List.getElem?_append_left hv]; exact h
theorem blk_take_succ (x : Int) (L : List Int) (i : Nat) (hi : i < 14) : (Fd.blocksL.take (i + 1)).foldl (Fd.addB x) L = Fd.addB x ((Fd.blocksL.take i).foldl (Fd.addB x) L) (Fd.blocksL[i]?.getD (0, 0, 0)) := by
  rw [List.take_succ_eq_append_getElem (by rw [Fd.blocks_len]; exact hi), List.foldl_append, List.getElem?_eq_getElem (by rw [Fd.blocks_len]; exact hi)]; rfl
theorem addB_yes {x m : Int} {o : List Int} {b : Fd.Blk} (hm : Fd.partner b x = m) (h : o.contains m = true) : Fd.addB x o b = o := by
  unfold Fd.addB; rw [hm, if_pos ((Fd.joinB_iff _ _).2 (by simpa using h))]
theorem addB_no {x m : Int} {o : List Int} {b : Fd.Blk} (hm : Fd.partner b x = m) (h : o.contains m = false) : Fd.addB x o b = o ++ [m] := by
  unfold Fd.addB; rw [hm, if_neg (fun h1 => by rw [Fd.joinB_iff] at h1; simp at h; exact h h1)]
theorem walk_at (r : Int) (N v : Nat) (hv : v < N) (hg : ∀ v, v < N → v < (Fd.walkL r v).length) (h : ¬ v + 1 < (Fd.walkL r (v + 1)).length) : v + 1 = N := by
  rcases Nat.lt_or_ge (v + 1) N with h1 | h1
  · exact absurd (hg _ h1) h
  · omega
theorem flat1_snoc' (l : List Int) (x : Int) : flat1 (l ++ [x]) = flat1 l ++ [Value.int .i64 x] := by simp [flat1]
def FamJ (W : World) (r : Int) (N : Nat) (a : Act) (w : World) : Prop :=
  ∃ (v : Nat) (V u0 u1 u2 u5 u6 u7 u8 u9 u10 u11 u12 u13 u14 u15 u16 u17 u18 u19 u20 u21 u22 u23 u24 u25 u26 u27 u28 u29 u30 u31 u32 u33 u34 u35 u36 u37 : Value), a = { tmps := #[u0, u1, u2, V, .int .i64 (v : Int), u5, u6, u7, u8, u9, u10, u11, u12, u13, u14, u15, u16, u17, u18, u19, u20, u21, u22, u23, u24, u25, u26, u27, u28, u29, u30, u31, u32, u33, u34, u35, u36, u37], defers := [] } ∧ v < N ∧ Hid (IOwn w W.heap.size V (Fd.walkL r v)) ∧ Hid (Below W.heap.size W w)
def famMu (N : Nat) (a : Act) (_ : World) : Nat := N - (intOf (a.tmps.getD 4 undef)).toNat
set_option maxRecDepth 100000 in
set_option maxHeartbeats 4000000 in
theorem fam_any (W : World) (r : Int) :
    Calls Tryz.prog 159 #[.int .i64 r] W fun e w' => ∃ v, e = .returned v ∧ IOwn w' W.heap.size v (Fd.fam r) ∧ Below W.heap.size W w' := by
  obtain ⟨i0, hi0, hz0, hz1, hz2⟩ := info_parts Tryz.infoInt
  obtain ⟨N, n1, n3, hNl, hNg, hNp⟩ := Fd.walk_cases r
  have HNL := Lib.hid hNl
  have HNG := Lib.hid hNg
  have HNP := Lib.hid (Fd.sorted_fam hNp)
  have HI0 := Lib.hid (iown_one W r)
  have HB0 := Lib.hid ((Below.refl W.heap.size W).alloc (Nat.le_refl _) (.cells #[.int .i64 r] 3))
  clear hNl hNg hNp
  obtain ⟨F, hF⟩ : ∃ F, Fd.fam r = F := ⟨_, rfl⟩
  rw [hF] at HNP ⊢
  clear hF
  have mixed : Tryz.prog.follows .mixedOrders = true := by kernel_rfl
  go_enter Tryz.func159, Tryz.ntmps159
  go_wp2
  refine wp_scope_jumps1 0 (FamJ W r N) (famMu N) rfl ?_ ?_
  · rintro a w ⟨v, V, u0, u1, u2, u5, u6, u7, u8, u9, u10, u11, u12, u13, u14, u15, u16, u17, u18, u19, u20, u21, u22, u23, u24, u25, u26, u27, u28, u29, u30, u31, u32, u33, u34, u35, u36, u37, rfl, hv, HO, HB⟩
    have hmu : ∀ T w, famMu N ⟨T, []⟩ w = N - (intOf (T.getD 4 undef)).toNat := fun _ _ => rfl
    rw [hmu]
    clear hmu
    show Code.wp _ _ (Exit.jump 0 (fun a' w' => FamJ W r N a' w' ∧ famMu N a' w' < N - ((v : Int)).toNat) _) _ _
    go_wp2_with fail
    refine (blocks_ok _).mono ?_
    rintro e w1 ⟨A, rfl, HIX, hb⟩
    have hvl := HNG.out v hv
    have hwl := Fd.walk_len r v
    have hvv : v * 14 ≤ 3 * 14 := Nat.mul_le_mul_right _ (by omega)
    have HNX : ScanOf ((Fd.walkL r v)[v]?.getD 0) (Fd.walkL r v) (Fd.walkL r (v + 1)) := ⟨rfl⟩
    have HO1 := Lib.hid (HO.out.below (hb.mono (Nat.le_refl _)))
    have HB1 := Lib.hid (HB.out.trans (hb.mono HB.out.size))
    obtain ⟨L2, hL2⟩ : ∃ L2, Fd.walkL r (v + 1) = L2 := ⟨_, rfl⟩
    have HW2 : WalkIs r (v + 1) L2 := ⟨hL2⟩
    have hwl2 := Fd.walk_len r (v + 1)
    have hvv2 : (v + 1) * 14 ≤ 4 * 14 := Nat.mul_le_mul_right _ (by omega)
    have hwa := walk_at r N v hv HNG.out
    rw [hL2] at HNX hwl2 hwa
    have hl2 : L2.length ≤ 60 := by omega
    have hl1 := hwl2.1
    have HWA := Lib.hid hwa
    obtain ⟨L, hL⟩ : ∃ L, Fd.walkL r v = L := ⟨_, rfl⟩
    rw [hL] at hvl hwl HNX HO1
    obtain ⟨x, hx⟩ : ∃ x, L[v]?.getD 0 = x := ⟨_, rfl⟩
    rw [hx] at HNX
    have HPR := Lib.hid (fold_pre x v L hvl hx)
    have HLL : L.length ≤ 43 := by omega
    clear HO HB hb hL hx hwl hL2 hwl2 hwa hvv hvv2
    go_wp2
    go_hide hQ
    have HQ := Lib.hid hQ
    clear hQ
    go_loopw [3, 11] (fun O I wr => ∃ i : Nat, i ≤ 14 ∧ I = .int .i64 i ∧ Hid (IOwn wr W.heap.size O ((Fd.blocksL.take i).foldl (Fd.addB x) L)) ∧ Hid (Below W.heap.size W wr)) (fun _ I _ => 14 - (intOf I).toNat)
    case atStart => exact ⟨0, by omega, rfl, HO1, HB1⟩
    case round =>
      obtain ⟨i, hi, rfl, HOi, HBi⟩ := hrel
      obtain ⟨wo, rfl⟩ : ∃ wo : World, wo = wr := ⟨_, rfl⟩
      have hsz := HBi.out.size
      by_cases hlt : i < 14
      · have HST := Lib.hid (blk_take_succ x L i hlt)
        have hpr := HPR.out (Fd.blocksL.take i)
        have hol := Fd.scan_len x (Fd.blocksL.take i) L
        have hti : (Fd.blocksL.take i).length ≤ 14 := by rw [List.length_take, Fd.blocks_len]; omega
        have hbm := blk_idx i hlt
        have hix := HIX.out i hlt
        obtain ⟨o, ho⟩ : ∃ o, (Fd.blocksL.take i).foldl (Fd.addB x) L = o := ⟨_, rfl⟩
        rw [ho] at HOi HST hpr hol
        obtain ⟨b, hbb⟩ : ∃ b, Fd.blocksL[i]?.getD (0, 0, 0) = b := ⟨_, rfl⟩
        rw [hbb] at HST hbm hix
        obtain ⟨hpv, hpx⟩ := hpr
        have hol2 : o.length ≤ 60 := by omega
        clear ho hbb hol hti
        obtain ⟨p, q, s⟩ := b
        dsimp only at hix
        have hown := HOi.out
        obtain ⟨oa, oc, rfl, ho1, ho2, hoc⟩ := hown.row
        obtain ⟨g, rfl, hg, hcell⟩ := hoc v hpv
        rw [hpx] at hcell
        obtain ⟨m, hm⟩ : ∃ m, Fd.partner (p, q, s) x = m := ⟨_, rfl⟩
        have HPA := Lib.hid (partner_at p q s x m hbm hm)
        have HAY := Lib.hid (fun h => addB_yes (o := o) hm h)
        have HAN := Lib.hid (fun h => addB_no (o := o) hm h)
        obtain ⟨n, hn⟩ : ∃ n, o.length = n := ⟨_, rfl⟩
        have HN := Lib.hid hn
        rw [hn] at hpv hol2 ho1 ⊢
        rw [hn] at HOi
        have k0 : (0 : Int) ≤ (v : Int) := by omega
        have k1 : (v : Int) < (n : Int) := by omega
        clear hm hbm hn hoc hpx hown
        go_wp2
        have f1 := fun n os => cell_grown (w := wo.alloc (.cells #[.int .i64 p, .int .i64 q, .int .i64 s] 205)) (a := ⟨g, v, none⟩) (v := .int .i64 x) (by simp; omega) ((World.cell?_alloc_lt wo _ ⟨g, v, none⟩ hg).trans hcell) n os
        have f2 := fun n os => cell_grown (w := wo.alloc (.cells #[.int .i64 p, .int .i64 q, .int .i64 s] 205)) (a := ⟨wo.heap.size, 0, none⟩) (v := .int .i64 p) (by simp) (by simp) n os
        have f3 := fun n os => cell_grown (w := wo.alloc (.cells #[.int .i64 p, .int .i64 q, .int .i64 s] 205)) (a := ⟨wo.heap.size, 1, none⟩) (v := .int .i64 q) (by simp) (by simp) n os
        have f4 := fun n os => cell_grown (w := wo.alloc (.cells #[.int .i64 p, .int .i64 q, .int .i64 s] 205)) (a := ⟨wo.heap.size, 2, none⟩) (v := .int .i64 s) (by simp) (by simp) n os
        go_quiet_grown (first | (go_at_call 210; refine Calls.grown_of (HPA.out _)))
        clear f1 f2 f3 f4
        have hgr := (HBi.out.alloc hsz (.cells #[.int .i64 p, .int .i64 q, .int .i64 s] 205)).trans ((below_growN (wo.alloc (.cells #[.int .i64 p, .int .i64 q, .int .i64 s] 205)) nq osq).mono (by simp; omega))
        have hog := (HOi.out.alloc (.cells #[.int .i64 p, .int .i64 q, .int .i64 s] 205)).below (below_growN (wo.alloc (.cells #[.int .i64 p, .int .i64 q, .int .i64 s] 205)) nq osq)
        obtain ⟨ws, hws⟩ : ∃ ws, Go.Sort.grow ((wo.alloc (.cells #[.int .i64 p, .int .i64 q, .int .i64 s] 205)).drewN nq) osq = ws := ⟨_, rfl⟩
        rw [hws] at hgr hog ⊢
        have HBS := Lib.hid hgr
        have HOS := Lib.hid hog
        have hhi := has_ints ws _ o m hog.row (by rw [HN.out]; omega)
        obtain ⟨C, hC⟩ : ∃ C, o.contains m = C := ⟨_, rfl⟩
        rw [hC] at hhi
        have HC := Lib.hid hC
        have HHI := Lib.hid hhi
        have hsz2 := hgr.size
        clear hws hgr hog hC hhi hix hcell hg
        go_wp2_with fail
        refine HHI.out.mono ?_
        rintro e w2 ⟨rfl, hw2⟩
        subst hw2
        cases C
        · have HS2 : Hid ((Fd.blocksL.take (i + 1)).foldl (Fd.addB x) L = o ++ [m]) := Lib.hid (by rw [HST.out, HAN.out HC.out])
          have hown := HOS.out
          unfold IOwn at hown
          rw [HN.out] at hown
          go_wp2_with (at_builtin; (refine wpList_append_own _ (by rfl) _ _ 164 (by rfl) W.heap.size 3 i0 (.int .i64 0) 1 8 Tryz.underlying164 hi0 hz0 hz1 hz2 rfl (by decide) _ n (flat1 o) (by rfl) (hown.alloc _) ⟨w2.heap.size, 0, none⟩ 1 1 [.int .i64 m] (by rfl) rfl (World.news_of_block (cs := #[.int .i64 m]) (heap_alloc_new w2 _)) (by simp [Value.oneCell']) (by unfold maxLen; omega) (by omega) (by simp; omega) ?_))
          intro v1 w3 hown1 hgrow _
          have hO2 : IOwn w3 W.heap.size v1 ((Fd.blocksL.take (i + 1)).foldl (Fd.addB x) L) := by rw [HS2.out]; unfold IOwn; rw [List.length_append, HN.out, flat1_snoc']; simpa [flat1] using hown1
          have hB2 := (HBS.out.alloc hsz2 _).grown hgrow (by simp; omega) (fun q hq => (hown.lt q hq).1)
          have HO2 := Lib.hid hO2
          have HB2 := Lib.hid hB2
          clear hO2 hown1 hgrow hown hB2
          go_wp2
          go_roundw
          case rel => exact ⟨i + 1, by omega, by go_num, HO2, HB2⟩
          case measure => simp [intOf]; omega
        · have HS2 : Hid ((Fd.blocksL.take (i + 1)).foldl (Fd.addB x) L = o) := Lib.hid (by rw [HST.out, HAY.out HC.out])
          go_wp2
          go_roundw
          case rel => exact ⟨i + 1, by omega, by go_num, by rw [HS2.out]; exact HOS, HBS⟩
          case measure => simp [intOf]; omega
      · obtain rfl : i = 14 := by omega
        have hO := HOi.out
        rw [List.take_of_length_le (by rw [Fd.blocks_len]; exact Nat.le_refl _)] at hO
        have hO2 : IOwn wo W.heap.size u3 L2 := by rw [← HNX.eq]; exact hO
        obtain ⟨oa, oc, rfl, ho1, ho2, _⟩ := hO2.row
        obtain ⟨n, hn⟩ : ∃ n, L2.length = n := ⟨_, rfl⟩
        have HN := Lib.hid hn
        rw [hn] at hO2 HWA ho1 hl1 hl2 ⊢
        have HO2 := Lib.hid hO2
        clear hO hO2 hn
        obtain rfl := HQ.out
        clear HQ
        by_cases hgo : v + 1 < n
        · have hvN : v + 1 < N := by
            rcases Nat.lt_or_ge (v + 1) N with h | h
            · exact h
            · exfalso
              have e : v + 1 = N := by omega
              have := HNL.out
              rw [← e, HW2.eq, HN.out] at this
              omega
          go_wp2
          go_step3
          refine ⟨rfl, ⟨v + 1, .slice oa n oc, _, _, _, _, _, _, _, _, _, _, _, _, _, _, _, _, _, _, _, _, _, _, _, _, _, _, _, _, _, _, _, _, _, _, _, _, rfl, hvN, by rw [HW2.eq]; exact HO2, HBi⟩, ?_⟩
          show N - (((v + 1 : Nat) : Int)).toNat < N - ((v : Int)).toNat
          omega
        · have e : v + 1 = N := HWA.out hgo
          subst e
          have hso := sort_ints wo W.heap.size _ L2 F (by have := HO2.out; rwa [← HN.out] at this) (by rw [HN.out]; omega) (by rw [HN.out]; omega) (by rw [← HW2.eq]; exact HNP.out)
          rw [HN.out] at hso
          have HSO := Lib.hid hso
          clear hso HNL HNG HNP HWA HW2
          go_wp2_with fail
          refine HSO.out.mono ?_
          rintro e w3 ⟨rfl, ho3, hb3⟩
          have HO3 := Lib.hid ho3
          have HB3 := Lib.hid (HBi.out.trans hb3)
          clear ho3 hb3
          go_wp2
          simp only [Exit.jump]
          go_ret
          exact ⟨_, rfl, HO3.out, HB3.out⟩
  · intro hp
    have HP := Lib.hid hp
    clear hp
    go_wp2
    go_step3
    iterate 2 go_step
    refine HP.out _ _ ?_
    exact ⟨0, _, _, _, _, _, _, _, _, _, _, _, _, _, _, _, _, _, _, _, _, _, _, _, _, _, _, _, _, _, _, _, _, _, _, _, _, _, rfl, by omega, HI0, HB0⟩
end Go.Proofs.YtecclhmjmceheaaGreatDoor
namespace Go.Proofs.YtecclhmjmceheaaGreatDoor.Fd
open Go.Proofs.YtecclhmjmceheaaGreatDoor.Rg
set_option linter.unusedVariables false
def pairedOf (bs : List Blk) : List R := bs.flatMap fun b => [(b.1, b.2.1), (b.1 + b.2.2, b.2.1 + b.2.2)]
def pairedL : List R := pairedOf blocksL
theorem pairedOf_len (bs : List Blk) : (pairedOf bs).length = bs.length * 2 := by
  induction bs with
  | nil => rfl
  | cons b bs ih => unfold pairedOf at *; rw [List.flatMap_cons, List.length_append, ih]; simp; omega
theorem pairedOf_succ (i : Nat) (hi : i < 14) : pairedOf (blocksL.take (i + 1)) = pairedOf (blocksL.take i) ++ [((blocksL[i]?.getD (0, 0, 0)).1, (blocksL[i]?.getD (0, 0, 0)).2.1), ((blocksL[i]?.getD (0, 0, 0)).1 + (blocksL[i]?.getD (0, 0, 0)).2.2, (blocksL[i]?.getD (0, 0, 0)).2.1 + (blocksL[i]?.getD (0, 0, 0)).2.2)] := by
  unfold pairedOf
  rw [List.take_succ_eq_append_getElem (by rw [blocks_len]; exact hi), List.flatMap_append, List.getElem?_eq_getElem (by rw [blocks_len]; exact hi)]
  simp
theorem paired_bd : ∀ p ∈ pairedL, 0 ≤ p.1 ∧ p.1 ≤ 10000 ∧ 0 ≤ p.2 ∧ p.2 ≤ 10000 := by decide +kernel
theorem paired_all : (membersE.all fun x => hasB pairedL x) = true := by decide +kernel
theorem paired_has {x : Int} (h : x ∈ members) : hasB pairedL x = true := by
  rw [← membersE_eq] at h; exact List.all_eq_true.1 paired_all x h
def famsUp (lo : Int) : Nat → List R
  | 0 => []
  | k + 1 => famsUp lo k ++ (fam (lo + k)).map one
def famsR (x : R) : List R := famsUp x.1 (x.2 - x.1 + 1).toNat
def famsL (B : List R) : List R := B.flatMap famsR
theorem famsUp_len (lo : Int) : ∀ k, (famsUp lo k).length ≤ 3 * k
  | 0 => Nat.le_refl _
  | k + 1 => by
    have h1 := famsUp_len lo k
    have h2 := (fam_len (lo + k)).2
    rw [famsUp, List.length_append, List.length_map]; omega
theorem famsUp_mem (lo : Int) : ∀ k p, p ∈ famsUp lo k ↔ ∃ j : Nat, j < k ∧ ∃ q ∈ fam (lo + j), p = one q
  | 0, p => by simp [famsUp]
  | k + 1, p => by
    rw [famsUp, List.mem_append, famsUp_mem lo k, List.mem_map]
    constructor
    · rintro (⟨j, hj, h⟩ | ⟨q, hq, rfl⟩)
      · exact ⟨j, by omega, h⟩
      · exact ⟨k, by omega, q, hq, rfl⟩
    · rintro ⟨j, hj, q, hq, rfl⟩
      by_cases e : j = k
      · subst e; exact .inr ⟨q, hq, rfl⟩
      · exact .inl ⟨j, by omega, q, hq, rfl⟩
theorem famsL_mem (B : List R) (p : R) : p ∈ famsL B ↔ ∃ x ∈ B, ∃ r, x.1 ≤ r ∧ r ≤ x.2 ∧ ∃ q ∈ fam r, p = one q := by
  unfold famsL famsR
  rw [List.mem_flatMap]
  constructor
  · rintro ⟨x, hx, hp⟩
    rw [famsUp_mem] at hp
    obtain ⟨j, hj, q, hq, e⟩ := hp
    exact ⟨x, hx, x.1 + j, by omega, by omega, q, hq, e⟩
  · rintro ⟨x, hx, r, h1, h2, q, hq, e⟩
    refine ⟨x, hx, ?_⟩
    rw [famsUp_mem]
    refine ⟨(r - x.1).toNat, by omega, q, ?_, e⟩
    rwa [show x.1 + (((r - x.1).toNat : Nat) : Int) = r by omega]
theorem famsL_len : ∀ (B : List R) (lo : Int) (k : Nat), NormFrom lo B → lo ≤ 1114113 → ((famsL (B.take k)).length : Int) ≤ 3 * (1114113 - lo)
  | [], lo, k, _, h => by simp [famsL]; omega
  | p :: B, lo, 0, _, h => by simp [famsL]; omega
  | p :: B, lo, k + 1, ⟨h1, h2, h3, h4⟩, h => by
    have ih := famsL_len B (p.2 + 2) k h4 (by omega)
    have hu := famsUp_len p.1 (p.2 - p.1 + 1).toNat
    have e : famsL ((p :: B).take (k + 1)) = famsR p ++ famsL (B.take k) := by simp [famsL]
    rw [e, List.length_append]
    unfold famsR
    push_cast
    omega
theorem famsL_take {B : List R} (h : NormL B) (k : Nat) : (famsL (B.take k)).length ≤ 3342339 := by
  have := famsL_len B 0 k h (by omega)
  omega
theorem famsL_succ (B : List R) (j : Nat) (hj : j < B.length) : famsL (B.take (j + 1)) = famsL (B.take j) ++ famsR (B[j]?.getD (0, 0)) := by
  unfold famsL
  rw [List.take_succ_eq_append_getElem hj, List.flatMap_append, List.getElem?_eq_getElem hj]
  simp
theorem famsL_wide {B : List R} (h : NormL B) : ∀ p ∈ famsL B, -9223372036854775808 ≤ p.1 ∧ p.1 ≤ 9223372036854775807 ∧ -9223372036854775808 ≤ p.2 ∧ p.2 ≤ 9223372036854775807 := by
  intro p hp
  obtain ⟨x, hx, r, h1, h2, q, hq, rfl⟩ := (famsL_mem B p).1 hp
  have hn := norm_lo B 0 h x hx
  have hb := fam_bd hq
  show -9223372036854775808 ≤ q ∧ q ≤ 9223372036854775807 ∧ -9223372036854775808 ≤ q ∧ q ≤ 9223372036854775807
  omega
/-- What the landed Close hands back: the list, and what is in a pair with its families. -/
theorem close_ok {l B out : List R} (hB : Made 2 l pairedL B) (ho : Made 1 l (famsL B) out) (q : Int) : hasB out q = clB l q := by
  by_cases hq : 0 ≤ q ∧ q ≤ 1114111
  · rw [ho.has q hq.1 hq.2]
    rw [show opB 1 (hasB l q) (hasB (famsL B) q) = (hasB l q || hasB (famsL B) q) by simp [opB]]
    rw [Bool.eq_iff_iff, Bool.or_eq_true]
    unfold clB
    rw [Bool.and_eq_true, decide_eq_true_eq]
    constructor
    · rintro (h | h)
      · exact ⟨hq, List.any_eq_true.2 ⟨q, fam_self q, h⟩⟩
      · obtain ⟨_, p, hp, h1, h2⟩ := (hasB_iff _ _).1 h
        obtain ⟨x, hx, r, hr1, hr2, q', hq', rfl⟩ := (famsL_mem B p).1 hp
        have e : q = q' := by
          have h1' : q' ≤ q := h1
          have h2' : q ≤ q' := h2
          omega
        subst e
        have hxn := norm_lo B 0 hB.norm x hx
        have hbr : hasB B r = true := (hasB_iff _ _).2 ⟨by omega, x, hx, hr1, hr2⟩
        rw [hB.has r (by omega) (by omega)] at hbr
        have hlr : hasB l r = true := by
          have : (hasB l r && hasB pairedL r) = true := by simpa [opB] using hbr
          exact (Bool.and_eq_true _ _ ▸ this).1
        exact ⟨hq, List.any_eq_true.2 ⟨r, by rw [fam_same hq']; exact fam_self r, hlr⟩⟩
    · rintro ⟨_, hany⟩
      obtain ⟨y, hy, hly⟩ := List.any_eq_true.1 hany
      by_cases e : y = q
      · subst e; exact .inl hly
      · refine .inr ?_
        have hym : y ∈ members := by
          rcases fam_cases y with ⟨_, h1⟩ | ⟨h1, _⟩
          · exfalso
            have hsq := fam_self q
            rw [← fam_same hy, h1] at hsq
            exact e (List.mem_singleton.1 hsq).symm
          · exact h1
        have hyb : 0 ≤ y ∧ y ≤ 1114111 := ((hasB_iff l y).1 hly).1
        have hby : hasB B y = true := by
          rw [hB.has y hyb.1 hyb.2]
          rw [hly, paired_has hym]; rfl
        obtain ⟨_, x, hx, h1, h2⟩ := (hasB_iff _ _).1 hby
        refine (hasB_iff _ _).2 ⟨hq, one q, (famsL_mem B _).2 ⟨x, hx, y, h1, h2, q, by rw [fam_same hy]; exact fam_self q, rfl⟩, Int.le_refl _, Int.le_refl _⟩
  · have e1 : ∀ m, hasB m q = false := fun m => by unfold hasB; rw [decide_eq_false hq, Bool.false_and]
    unfold clB
    rw [e1, decide_eq_false hq, Bool.false_and]
end Go.Proofs.YtecclhmjmceheaaGreatDoor.Fd
