/- The reference's bands (burinref05): the contract of Split. -/
import Derived.Test.YtfopcgbfbedcjaaGp16
import Derived.Test.YtfopcgbfbedcjaaGp11
namespace Go.Proofs.Ytfopcgbfbedcjaa
open Go.RowKit
set_option linter.unusedVariables false
theorem irow_lits5 (W : World) (T : List Int) (n : Nat) (cs : Array Value) (t : TypeId) (hT : T.length = n) (hc : cs = (T.map (Value.int .i64)).toArray) (hn : n ≤ 1000) : IRow (W.alloc (.cells cs t)) (.slice (some ⟨W.heap.size, 0, none⟩) n n) T := by
  subst hc; subst hT
  refine ⟨_, T.length, rfl, Nat.le_refl _, by omega, fun j hj => ⟨W.heap.size, rfl, by simp, ?_⟩⟩
  simp [hj]
set_option maxRecDepth 100000 in
set_option maxHeartbeats 8000000 in
theorem refSplit_any (W : World) (lo hi : Int) : Calls Try.prog 12 #[.int .i64 lo, .int .i64 hi] W (SeqPost (Bd.splitL lo hi) W) := by
  obtain ⟨i1, hi1, hy0, hy1, hy2⟩ := info_parts Try.infoSeq
  have hee := irow_lits5 W Bd.endsT 10 _ 3 rfl rfl (by decide)
  obtain ⟨_, _, _, _, _, hec⟩ := hee
  have HEC : Hid (∀ j, j < 10 → (W.alloc (.cells ((Bd.endsT.map (Value.int .i64)).toArray) 3)).cell? ⟨W.heap.size, j, none⟩ = some (.int .i64 (Bd.endsT[j]?.getD 0))) := Lib.hid (fun j hj => by
    have hee := irow_lits5 W Bd.endsT 10 _ 3 rfl rfl (by decide)
    obtain ⟨a, c, e1, _, _, h⟩ := hee
    obtain ⟨b, hb, _, hcell⟩ := h j hj
    injection e1 with e1 _ _
    rw [← e1] at hb
    injection hb with hb; injection hb with hb; subst hb
    exact hcell)
  clear hec
  have D0 := Lib.hid ((Below.refl W.heap.size W).alloc (Nat.le_refl _) (.cells ((Bd.endsT.map (Value.int .i64)).toArray) 3))
  obtain ⟨W0, hW0⟩ : ∃ W0, W.alloc (.cells ((Bd.endsT.map (Value.int .i64)).toArray) 3) = W0 := ⟨_, rfl⟩
  rw [hW0] at HEC D0
  have hs0 : W0.heap.size = W.heap.size + 1 := by rw [← hW0]; simp
  have HW0 := Lib.hid hW0
  clear hW0
  obtain ⟨LL, hLL⟩ : ∃ LL, Bd.splitL lo hi = LL := ⟨_, rfl⟩
  rw [hLL]
  have HLL := Lib.hid hLL
  clear hLL
  go_enter Try.func12, Try.ntmps12
  go_wp2
  have hwe := HW0.out
  unfold Bd.endsT at hwe
  simp only [List.map_cons, List.map_nil] at hwe
  rw [hwe]
  clear hwe
  go_loopw [5, 7] (fun V I wr => ∃ (k : Nat) (us : List Value), k ≤ 5 ∧ I = .int .i64 ((k * 2 : Nat) : Int) ∧ Hid (QOwnU wr W0.heap.size V us (Bd.splitK lo hi k)) ∧ Hid (Below W0.heap.size W0 wr)) (fun _ I _ => 12 - (intOf I).toNat)
  case atStart => exact ⟨0, [], Nat.zero_le _, rfl, Lib.hid QOwnU.nil, Lib.hid (Below.refl _ _)⟩
  case round =>
    obtain ⟨k, us, hk, rfl, HO, HB⟩ := hrel
    obtain ⟨wo, rfl⟩ : ∃ wo : World, wo = wr := ⟨_, rfl⟩
    have hsz := HB.out.size
    by_cases hlt : k < 5
    · have ce1 := HEC.out (k * 2) (by omega)
      have ce2 := HEC.out (k * 2 + 1) (by omega)
      have hca := Bd.cls_at k hlt
      have hbd := Bd.cls_bd k hlt
      have hok := Bd.cls_ok k hlt
      have hst := Bd.splitSt lo hi k hlt _ rfl
      rw [hca.1] at ce1
      rw [hca.2] at ce2
      obtain ⟨c, hc⟩ : ∃ c, Bd.clsT[k]?.getD (0, 0, 0) = c := ⟨_, rfl⟩
      rw [hc] at ce1 ce2 hbd hok hst
      clear hc hca
      have hsk := Bd.splitK_len lo hi k (by omega)
      have heq := hst.eq
      unfold Bd.part at heq
      obtain ⟨A, B, w⟩ := c
      dsimp only at ce1 ce2 hbd hok heq
      obtain ⟨p1, p2, p3, p4⟩ := hbd
      rw [← HB.out.cell (p := ⟨W.heap.size, k * 2, none⟩) (by show W.heap.size < _; omega)] at ce1
      rw [← HB.out.cell (p := ⟨W.heap.size, k * 2 + 1, none⟩) (by show W.heap.size < _; omega)] at ce2
      have HOK := Lib.hid hok
      have hbw : W.heap.size < wo.heap.size := by omega
      have b1 : (0 : Int) ≤ (k : Int) * 2 := by omega
      have b2 : (k : Int) * 2 < 10 := by omega
      have b3 : (0 : Int) ≤ (k : Int) * 2 + 1 := by omega
      have b4 : (k : Int) * 2 + 1 < 10 := by omega
      have b5 : k * 2 < 10 := by omega
      have b6 : k * 2 + 1 < 10 := by omega
      have w1 : IntKind.i64.wrap ((k : Int) * 2 + 1) = (k : Int) * 2 + 1 := IntWalk.i64_in _ (by omega)
      have w3 : ((k : Int) * 2).toNat = k * 2 := by omega
      have w4 : ((k : Int) * 2 + 1).toNat = k * 2 + 1 := by omega
      obtain ⟨S1, hS1⟩ : ∃ S1, Bd.splitK lo hi k = S1 := ⟨_, rfl⟩
      rw [hS1] at HO heq hsk
      clear hst hok hS1
      by_cases c1 : A < lo
      · rw [show max lo A = lo by omega] at heq
        by_cases c2 : hi < B
        · rw [show min hi B = hi by omega] at heq
          by_cases c3 : lo ≤ hi
          · rw [if_pos c3] at heq
            have hcl := HOK.out lo hi (by omega) (by omega) c3
            have hln := Bd.oneL_len c3
            have HON := Lib.hid (fun w' => one_all (hi - lo).toNat w' w lo hi (Nat.le_refl _) hcl)
            obtain ⟨Lb, hLb⟩ : ∃ Lb, Bd.oneL lo hi = Lb := ⟨_, rfl⟩
            rw [hLb] at heq hln HON
            have HEQ := Lib.hid heq
            clear heq hcl hLb
            go_wp2
            go_quiet (fail)
            clear w1 w3 w4
            go_wp2_with fail
            refine (HON.out _).mono ?_
            rintro e w6 ⟨v2, us2, rfl, q2, hb2⟩
            have hbq : Below wo.heap.size wo (wo.drewN nq) := below_drewN (Below.refl _ _) nq
            have q1 := (HO.out.below hbq)
            have n1 := q1.1
            have n2 := q2.1
            have hold : ∀ b, u5.ownBlock = some b → b < (wo.drewN nq).heap.size := fun b e => (q1.2.1.lt b e).2
            have holdi : ∀ j, j < us.length → ∀ b, (us[j]?.getD nilV).ownBlock = some b → b < (wo.drewN nq).heap.size := fun j hj b e => ((q1.2.2.1 j hj).lt e).2
            have q16 := q1.below hb2
            have hown := q16.2.1
            obtain ⟨b, c, rfl, hnews, hcells⟩ := q2.news (by omega)
            have hd6 := (HB.out.trans (hbq.mono hsz)).trans (hb2.mono (by show W0.heap.size ≤ wo.heap.size; omega))
            have hs6 := hd6.size
            have u1 : us.length ≤ 5570560 := by omega
            have u2 : us2.length ≤ 1114112 := by omega
            have u3 : 0 < us2.length := by omega
            obtain ⟨k1, hk1⟩ : ∃ k1, us.length = k1 := ⟨_, rfl⟩
            obtain ⟨k2, hk2⟩ : ∃ k2, us2.length = k2 := ⟨_, rfl⟩
            have HQ16 := Lib.hid q16
            have HQ2 := Lib.hid q2
            have HH1 := Lib.hid hold
            have HH2 := Lib.hid holdi
            have HD6 := Lib.hid hd6
            have HK1 := Lib.hid hk1
            have HK2 := Lib.hid hk2
            rw [hk1] at hown u1
            rw [hk2] at u2 u3 ⊢
            clear hold holdi q16 q2 q1 hd6 n1 n2 hk1 hb2 hln hbq
            go_wp2_with (at_builtin; (refine wpList_append_lies _ (by rfl) _ _ 26 (by rfl) W0.heap.size 22 i1 nilV 1 24 Try.underlying26 hi1 hy0 hy1 hy2 rfl (by decide) u5 k1 us (by rfl) hown ⟨b, 0, none⟩ k2 c us2 (by rfl) (by rw [hk2]; omega) hnews hcells (by omega) (by unfold maxLen; omega) (by omega) hs6 w6.heap.size rfl ?_))
            intro gg cap1 wz hown1 hgrow hat hlt1
            rw [← HK1.out, ← HK2.out, ← hs0] at hown1
            have hjn := QOwnU.join HQ16.out HQ2.out (by show W0.heap.size ≤ wo.heap.size; omega) HH1.out HH2.out hown1 hgrow (hat.imp id (fun h => by omega))
            rw [HK1.out, HK2.out, ← HEQ.out] at hjn
            have HJN := Lib.hid hjn
            have HDZ := Lib.hid (HD6.out.grown hgrow hs6 (fun q hq => (hown.lt q hq).1))
            clear hjn hown1 hgrow hat hlt1 hown hnews hcells hk2
            go_wp2
            go_roundw
            case rel => exact ⟨k + 1, _, by omega, by go_num, HJN, HDZ⟩
            case measure => simp [intOf]; omega
          · rw [if_neg c3, List.append_nil] at heq
            have HEQ := Lib.hid heq
            clear heq
            go_wp2
            go_quiet (fail)
            clear w1 w3 w4
            go_wp2
            go_roundw
            case rel => exact ⟨k + 1, us, by omega, by go_num, by rw [HEQ.out]; exact HO, Lib.hid (below_drewN HB.out _)⟩
            case measure => simp [intOf]; omega
        · rw [show min hi B = B by omega] at heq
          by_cases c3 : lo ≤ B
          · rw [if_pos c3] at heq
            have hcl := HOK.out lo B (by omega) (by omega) c3
            have hln := Bd.oneL_len c3
            have HON := Lib.hid (fun w' => one_all (B - lo).toNat w' w lo B (Nat.le_refl _) hcl)
            obtain ⟨Lb, hLb⟩ : ∃ Lb, Bd.oneL lo B = Lb := ⟨_, rfl⟩
            rw [hLb] at heq hln HON
            have HEQ := Lib.hid heq
            clear heq hcl hLb
            go_wp2
            go_quiet (fail)
            clear w1 w3 w4
            go_wp2_with fail
            refine (HON.out _).mono ?_
            rintro e w6 ⟨v2, us2, rfl, q2, hb2⟩
            have hbq : Below wo.heap.size wo (wo.drewN nq) := below_drewN (Below.refl _ _) nq
            have q1 := (HO.out.below hbq)
            have n1 := q1.1
            have n2 := q2.1
            have hold : ∀ b, u5.ownBlock = some b → b < (wo.drewN nq).heap.size := fun b e => (q1.2.1.lt b e).2
            have holdi : ∀ j, j < us.length → ∀ b, (us[j]?.getD nilV).ownBlock = some b → b < (wo.drewN nq).heap.size := fun j hj b e => ((q1.2.2.1 j hj).lt e).2
            have q16 := q1.below hb2
            have hown := q16.2.1
            obtain ⟨b, c, rfl, hnews, hcells⟩ := q2.news (by omega)
            have hd6 := (HB.out.trans (hbq.mono hsz)).trans (hb2.mono (by show W0.heap.size ≤ wo.heap.size; omega))
            have hs6 := hd6.size
            have u1 : us.length ≤ 5570560 := by omega
            have u2 : us2.length ≤ 1114112 := by omega
            have u3 : 0 < us2.length := by omega
            obtain ⟨k1, hk1⟩ : ∃ k1, us.length = k1 := ⟨_, rfl⟩
            obtain ⟨k2, hk2⟩ : ∃ k2, us2.length = k2 := ⟨_, rfl⟩
            have HQ16 := Lib.hid q16
            have HQ2 := Lib.hid q2
            have HH1 := Lib.hid hold
            have HH2 := Lib.hid holdi
            have HD6 := Lib.hid hd6
            have HK1 := Lib.hid hk1
            have HK2 := Lib.hid hk2
            rw [hk1] at hown u1
            rw [hk2] at u2 u3 ⊢
            clear hold holdi q16 q2 q1 hd6 n1 n2 hk1 hb2 hln hbq
            go_wp2_with (at_builtin; (refine wpList_append_lies _ (by rfl) _ _ 26 (by rfl) W0.heap.size 22 i1 nilV 1 24 Try.underlying26 hi1 hy0 hy1 hy2 rfl (by decide) u5 k1 us (by rfl) hown ⟨b, 0, none⟩ k2 c us2 (by rfl) (by rw [hk2]; omega) hnews hcells (by omega) (by unfold maxLen; omega) (by omega) hs6 w6.heap.size rfl ?_))
            intro gg cap1 wz hown1 hgrow hat hlt1
            rw [← HK1.out, ← HK2.out, ← hs0] at hown1
            have hjn := QOwnU.join HQ16.out HQ2.out (by show W0.heap.size ≤ wo.heap.size; omega) HH1.out HH2.out hown1 hgrow (hat.imp id (fun h => by omega))
            rw [HK1.out, HK2.out, ← HEQ.out] at hjn
            have HJN := Lib.hid hjn
            have HDZ := Lib.hid (HD6.out.grown hgrow hs6 (fun q hq => (hown.lt q hq).1))
            clear hjn hown1 hgrow hat hlt1 hown hnews hcells hk2
            go_wp2
            go_roundw
            case rel => exact ⟨k + 1, _, by omega, by go_num, HJN, HDZ⟩
            case measure => simp [intOf]; omega
          · rw [if_neg c3, List.append_nil] at heq
            have HEQ := Lib.hid heq
            clear heq
            go_wp2
            go_quiet (fail)
            clear w1 w3 w4
            go_wp2
            go_roundw
            case rel => exact ⟨k + 1, us, by omega, by go_num, by rw [HEQ.out]; exact HO, Lib.hid (below_drewN HB.out _)⟩
            case measure => simp [intOf]; omega
      · rw [show max lo A = A by omega] at heq
        by_cases c2 : hi < B
        · rw [show min hi B = hi by omega] at heq
          by_cases c3 : A ≤ hi
          · rw [if_pos c3] at heq
            have hcl := HOK.out A hi (by omega) (by omega) c3
            have hln := Bd.oneL_len c3
            have HON := Lib.hid (fun w' => one_all (hi - A).toNat w' w A hi (Nat.le_refl _) hcl)
            obtain ⟨Lb, hLb⟩ : ∃ Lb, Bd.oneL A hi = Lb := ⟨_, rfl⟩
            rw [hLb] at heq hln HON
            have HEQ := Lib.hid heq
            clear heq hcl hLb
            go_wp2
            go_quiet (fail)
            clear w1 w3 w4
            go_wp2_with fail
            refine (HON.out _).mono ?_
            rintro e w6 ⟨v2, us2, rfl, q2, hb2⟩
            have hbq : Below wo.heap.size wo (wo.drewN nq) := below_drewN (Below.refl _ _) nq
            have q1 := (HO.out.below hbq)
            have n1 := q1.1
            have n2 := q2.1
            have hold : ∀ b, u5.ownBlock = some b → b < (wo.drewN nq).heap.size := fun b e => (q1.2.1.lt b e).2
            have holdi : ∀ j, j < us.length → ∀ b, (us[j]?.getD nilV).ownBlock = some b → b < (wo.drewN nq).heap.size := fun j hj b e => ((q1.2.2.1 j hj).lt e).2
            have q16 := q1.below hb2
            have hown := q16.2.1
            obtain ⟨b, c, rfl, hnews, hcells⟩ := q2.news (by omega)
            have hd6 := (HB.out.trans (hbq.mono hsz)).trans (hb2.mono (by show W0.heap.size ≤ wo.heap.size; omega))
            have hs6 := hd6.size
            have u1 : us.length ≤ 5570560 := by omega
            have u2 : us2.length ≤ 1114112 := by omega
            have u3 : 0 < us2.length := by omega
            obtain ⟨k1, hk1⟩ : ∃ k1, us.length = k1 := ⟨_, rfl⟩
            obtain ⟨k2, hk2⟩ : ∃ k2, us2.length = k2 := ⟨_, rfl⟩
            have HQ16 := Lib.hid q16
            have HQ2 := Lib.hid q2
            have HH1 := Lib.hid hold
            have HH2 := Lib.hid holdi
            have HD6 := Lib.hid hd6
            have HK1 := Lib.hid hk1
            have HK2 := Lib.hid hk2
            rw [hk1] at hown u1
            rw [hk2] at u2 u3 ⊢
            clear hold holdi q16 q2 q1 hd6 n1 n2 hk1 hb2 hln hbq
            go_wp2_with (at_builtin; (refine wpList_append_lies _ (by rfl) _ _ 26 (by rfl) W0.heap.size 22 i1 nilV 1 24 Try.underlying26 hi1 hy0 hy1 hy2 rfl (by decide) u5 k1 us (by rfl) hown ⟨b, 0, none⟩ k2 c us2 (by rfl) (by rw [hk2]; omega) hnews hcells (by omega) (by unfold maxLen; omega) (by omega) hs6 w6.heap.size rfl ?_))
            intro gg cap1 wz hown1 hgrow hat hlt1
            rw [← HK1.out, ← HK2.out, ← hs0] at hown1
            have hjn := QOwnU.join HQ16.out HQ2.out (by show W0.heap.size ≤ wo.heap.size; omega) HH1.out HH2.out hown1 hgrow (hat.imp id (fun h => by omega))
            rw [HK1.out, HK2.out, ← HEQ.out] at hjn
            have HJN := Lib.hid hjn
            have HDZ := Lib.hid (HD6.out.grown hgrow hs6 (fun q hq => (hown.lt q hq).1))
            clear hjn hown1 hgrow hat hlt1 hown hnews hcells hk2
            go_wp2
            go_roundw
            case rel => exact ⟨k + 1, _, by omega, by go_num, HJN, HDZ⟩
            case measure => simp [intOf]; omega
          · rw [if_neg c3, List.append_nil] at heq
            have HEQ := Lib.hid heq
            clear heq
            go_wp2
            go_quiet (fail)
            clear w1 w3 w4
            go_wp2
            go_roundw
            case rel => exact ⟨k + 1, us, by omega, by go_num, by rw [HEQ.out]; exact HO, Lib.hid (below_drewN HB.out _)⟩
            case measure => simp [intOf]; omega
        · rw [show min hi B = B by omega] at heq
          by_cases c3 : A ≤ B
          · rw [if_pos c3] at heq
            have hcl := HOK.out A B (by omega) (by omega) c3
            have hln := Bd.oneL_len c3
            have HON := Lib.hid (fun w' => one_all (B - A).toNat w' w A B (Nat.le_refl _) hcl)
            obtain ⟨Lb, hLb⟩ : ∃ Lb, Bd.oneL A B = Lb := ⟨_, rfl⟩
            rw [hLb] at heq hln HON
            have HEQ := Lib.hid heq
            clear heq hcl hLb
            go_wp2
            go_quiet (fail)
            clear w1 w3 w4
            go_wp2_with fail
            refine (HON.out _).mono ?_
            rintro e w6 ⟨v2, us2, rfl, q2, hb2⟩
            have hbq : Below wo.heap.size wo (wo.drewN nq) := below_drewN (Below.refl _ _) nq
            have q1 := (HO.out.below hbq)
            have n1 := q1.1
            have n2 := q2.1
            have hold : ∀ b, u5.ownBlock = some b → b < (wo.drewN nq).heap.size := fun b e => (q1.2.1.lt b e).2
            have holdi : ∀ j, j < us.length → ∀ b, (us[j]?.getD nilV).ownBlock = some b → b < (wo.drewN nq).heap.size := fun j hj b e => ((q1.2.2.1 j hj).lt e).2
            have q16 := q1.below hb2
            have hown := q16.2.1
            obtain ⟨b, c, rfl, hnews, hcells⟩ := q2.news (by omega)
            have hd6 := (HB.out.trans (hbq.mono hsz)).trans (hb2.mono (by show W0.heap.size ≤ wo.heap.size; omega))
            have hs6 := hd6.size
            have u1 : us.length ≤ 5570560 := by omega
            have u2 : us2.length ≤ 1114112 := by omega
            have u3 : 0 < us2.length := by omega
            obtain ⟨k1, hk1⟩ : ∃ k1, us.length = k1 := ⟨_, rfl⟩
            obtain ⟨k2, hk2⟩ : ∃ k2, us2.length = k2 := ⟨_, rfl⟩
            have HQ16 := Lib.hid q16
            have HQ2 := Lib.hid q2
            have HH1 := Lib.hid hold
            have HH2 := Lib.hid holdi
            have HD6 := Lib.hid hd6
            have HK1 := Lib.hid hk1
            have HK2 := Lib.hid hk2
            rw [hk1] at hown u1
            rw [hk2] at u2 u3 ⊢
            clear hold holdi q16 q2 q1 hd6 n1 n2 hk1 hb2 hln hbq
            go_wp2_with (at_builtin; (refine wpList_append_lies _ (by rfl) _ _ 26 (by rfl) W0.heap.size 22 i1 nilV 1 24 Try.underlying26 hi1 hy0 hy1 hy2 rfl (by decide) u5 k1 us (by rfl) hown ⟨b, 0, none⟩ k2 c us2 (by rfl) (by rw [hk2]; omega) hnews hcells (by omega) (by unfold maxLen; omega) (by omega) hs6 w6.heap.size rfl ?_))
            intro gg cap1 wz hown1 hgrow hat hlt1
            rw [← HK1.out, ← HK2.out, ← hs0] at hown1
            have hjn := QOwnU.join HQ16.out HQ2.out (by show W0.heap.size ≤ wo.heap.size; omega) HH1.out HH2.out hown1 hgrow (hat.imp id (fun h => by omega))
            rw [HK1.out, HK2.out, ← HEQ.out] at hjn
            have HJN := Lib.hid hjn
            have HDZ := Lib.hid (HD6.out.grown hgrow hs6 (fun q hq => (hown.lt q hq).1))
            clear hjn hown1 hgrow hat hlt1 hown hnews hcells hk2
            go_wp2
            go_roundw
            case rel => exact ⟨k + 1, _, by omega, by go_num, HJN, HDZ⟩
            case measure => simp [intOf]; omega
          · rw [if_neg c3, List.append_nil] at heq
            have HEQ := Lib.hid heq
            clear heq
            go_wp2
            go_quiet (fail)
            clear w1 w3 w4
            go_wp2
            go_roundw
            case rel => exact ⟨k + 1, us, by omega, by go_num, by rw [HEQ.out]; exact HO, Lib.hid (below_drewN HB.out _)⟩
            case measure => simp [intOf]; omega
    · obtain rfl : k = 5 := by omega
      have hO := HO.out
      have e1 : Bd.splitK lo hi 5 = LL := HLL.out
      rw [e1] at hO
      have HO2 := Lib.hid (hO.lower D0.out.size)
      have HE := Lib.hid (D0.out.trans (HB.out.mono D0.out.size))
      clear hO e1
      go_wp2
      go_ret
      exact ⟨_, us, rfl, HO2.out, HE.out⟩
end Go.Proofs.Ytfopcgbfbedcjaa
