/- The reference's bands (burinref05): the contract of Split. · The reference's bands (burinref05): the contract of Of. -/
import Derived.Test.YtfopcgbfbedcjaaR5E
import Derived.Test.YtfopcgbfbedcjaaPk5
import Derived.Test.YtfopcgbfbedcjaaPk2
namespace Go.Proofs.Ytfopcgbfbedcjaa
open Go.RowKit
set_option linter.unusedVariables false
theorem irow_lits5 (W : World) (T : List Int) (n : Nat) (cs : Array Value) (t : TypeId) (hT : T.length = n) (hc : cs = (T.map (Value.int .i64)).toArray) (hn : n ≤ 1000) : IRow (W.alloc (.cells cs t)) (.slice (some ⟨W.heap.size, 0, none⟩) n n) T := by
  subst hc; subst hT
  refine ⟨_, T.length, rfl, Nat.le_refl _, by omega, fun j hj => ⟨W.heap.size, rfl, by simp, ?_⟩⟩
  simp [hj]
set_option maxRecDepth 100000 in
set_option maxHeartbeats 8000000 in
theorem refSplit_any (W : World) (lo hi : Int) : Calls Try.prog 12 #[.int .i64 lo, .int .i64 hi] W (SeqPost (Bd.splitL lo hi) W) := by
  obtain ⟨i1, hi1, hy0, hy1, hy2⟩ := info_parts Try.infoSeq
  have hee := irow_lits5 W Bd.endsT 10 _ 3 rfl rfl (by decide)
  obtain ⟨_, _, _, _, _, hec⟩ := hee
  have HEC : Hid (∀ j, j < 10 → (W.alloc (.cells ((Bd.endsT.map (Value.int .i64)).toArray) 3)).cell? ⟨W.heap.size, j, none⟩ = some (.int .i64 (Bd.endsT[j]?.getD 0))) := Lib.hid (fun j hj => by
    have hee := irow_lits5 W Bd.endsT 10 _ 3 rfl rfl (by decide)
    obtain ⟨a, c, e1, _, _, h⟩ := hee
    obtain ⟨b, hb, _, hcell⟩ := h j hj
    injection e1 with e1 _ _
    rw [← e1] at hb
    injection hb with hb; injection hb with hb; subst hb
    exact hcell)
  clear hec
  have D0 := Lib.hid ((Below.refl W.heap.size W).alloc (Nat.le_refl _) (.cells ((Bd.endsT.map (Value.int .i64)).toArray) 3))
  obtain ⟨W0, hW0⟩ : ∃ W0, W.alloc (.cells ((Bd.endsT.map (Value.int .i64)).toArray) 3) = W0 := ⟨_, rfl⟩
  rw [hW0] at HEC D0
  have hs0 : W0.heap.size = W.heap.size + 1 := by rw [← hW0]; simp
  have HW0 := Lib.hid hW0
  clear hW0
  obtain ⟨LL, hLL⟩ : ∃ LL, Bd.splitL lo hi = LL := ⟨_, rfl⟩
  rw [hLL]
  have HLL := Lib.hid hLL
  clear hLL
  go_enter Try.func12, Try.ntmps12
  go_wp2
  have hwe := HW0.out
  unfold Bd.endsT at hwe
  simp only [List.map_cons, List.map_nil] at hwe
  rw [hwe]
  clear hwe
  go_loopw [5, 7] (fun V I wr => ∃ (k : Nat) (us : List Value), k ≤ 5 ∧ I = .int .i64 ((k * 2 : Nat) : Int) ∧ Hid (QOwnU wr W0.heap.size V us (Bd.splitK lo hi k)) ∧ Hid (Below W0.heap.size W0 wr)) (fun _ I _ => 12 - (intOf I).toNat)
  case atStart => exact ⟨0, [], Nat.zero_le _, rfl, Lib.hid QOwnU.nil, Lib.hid (Below.refl _ _)⟩
  case round =>
    obtain ⟨k, us, hk, rfl, HO, HB⟩ := hrel
    obtain ⟨wo, rfl⟩ : ∃ wo : World, wo = wr := ⟨_, rfl⟩
    have hsz := HB.out.size
    by_cases hlt : k < 5
    · have ce1 := HEC.out (k * 2) (by omega)
      have ce2 := HEC.out (k * 2 + 1) (by omega)
      have hca := Bd.cls_at k hlt
      have hbd := Bd.cls_bd k hlt
      have hok := Bd.cls_ok k hlt
      have hst := Bd.splitSt lo hi k hlt _ rfl
      rw [hca.1] at ce1
      rw [hca.2] at ce2
      obtain ⟨c, hc⟩ : ∃ c, Bd.clsT[k]?.getD (0, 0, 0) = c := ⟨_, rfl⟩
      rw [hc] at ce1 ce2 hbd hok hst
      clear hc hca
      have hsk := Bd.splitK_len lo hi k (by omega)
      have heq := hst.eq
      unfold Bd.part at heq
      obtain ⟨A, B, w⟩ := c
      dsimp only at ce1 ce2 hbd hok heq
      obtain ⟨p1, p2, p3, p4⟩ := hbd
      rw [← HB.out.cell (p := ⟨W.heap.size, k * 2, none⟩) (by show W.heap.size < _; omega)] at ce1
      rw [← HB.out.cell (p := ⟨W.heap.size, k * 2 + 1, none⟩) (by show W.heap.size < _; omega)] at ce2
      have HOK := Lib.hid hok
      have hbw : W.heap.size < wo.heap.size := by omega
      have b1 : (0 : Int) ≤ (k : Int) * 2 := by omega
      have b2 : (k : Int) * 2 < 10 := by omega
      have b3 : (0 : Int) ≤ (k : Int) * 2 + 1 := by omega
      have b4 : (k : Int) * 2 + 1 < 10 := by omega
      have b5 : k * 2 < 10 := by omega
      have b6 : k * 2 + 1 < 10 := by omega
      have w1 : IntKind.i64.wrap ((k : Int) * 2 + 1) = (k : Int) * 2 + 1 := IntWalk.i64_in _ (by omega)
      have w3 : ((k : Int) * 2).toNat = k * 2 := by omega
      have w4 : ((k : Int) * 2 + 1).toNat = k * 2 + 1 := by omega
      obtain ⟨S1, hS1⟩ : ∃ S1, Bd.splitK lo hi k = S1 := ⟨_, rfl⟩
      rw [hS1] at HO heq hsk
      clear hst hok hS1
      by_cases c1 : A < lo
      · rw [show max lo A = lo by omega] at heq
        by_cases c2 : hi < B
        · rw [show min hi B = hi by omega] at heq
          by_cases c3 : lo ≤ hi
          · rw [if_pos c3] at heq
            have hcl := HOK.out lo hi (by omega) (by omega) c3
            have hln := Bd.oneL_len c3
            have HON := Lib.hid (fun w' => one_all (hi - lo).toNat w' w lo hi (Nat.le_refl _) hcl)
            obtain ⟨Lb, hLb⟩ : ∃ Lb, Bd.oneL lo hi = Lb := ⟨_, rfl⟩
            rw [hLb] at heq hln HON
            have HEQ := Lib.hid heq
            clear heq hcl hLb
            go_wp2
            go_quiet (fail)
            clear w1 w3 w4
            go_wp2_with fail
            refine (HON.out _).mono ?_
            rintro e w6 ⟨v2, us2, rfl, q2, hb2⟩
            have hbq : Below wo.heap.size wo (wo.drewN nq) := below_drewN (Below.refl _ _) nq
            have q1 := (HO.out.below hbq)
            have n1 := q1.1
            have n2 := q2.1
            have hold : ∀ b, u5.ownBlock = some b → b < (wo.drewN nq).heap.size := fun b e => (q1.2.1.lt b e).2
            have holdi : ∀ j, j < us.length → ∀ b, (us[j]?.getD nilV).ownBlock = some b → b < (wo.drewN nq).heap.size := fun j hj b e => ((q1.2.2.1 j hj).lt e).2
            have q16 := q1.below hb2
            have hown := q16.2.1
            obtain ⟨b, c, rfl, hnews, hcells⟩ := q2.news (by omega)
            have hd6 := (HB.out.trans (hbq.mono hsz)).trans (hb2.mono (by show W0.heap.size ≤ wo.heap.size; omega))
            have hs6 := hd6.size
            have u1 : us.length ≤ 5570560 := by omega
            have u2 : us2.length ≤ 1114112 := by omega
            have u3 : 0 < us2.length := by omega
            obtain ⟨k1, hk1⟩ : ∃ k1, us.length = k1 := ⟨_, rfl⟩
            obtain ⟨k2, hk2⟩ : ∃ k2, us2.length = k2 := ⟨_, rfl⟩
            have HQ16 := Lib.hid q16
            have HQ2 := Lib.hid q2
            have HH1 := Lib.hid hold
            have HH2 := Lib.hid holdi
            have HD6 := Lib.hid hd6
            have HK1 := Lib.hid hk1
            have HK2 := Lib.hid hk2
            rw [hk1] at hown u1
            rw [hk2] at u2 u3 ⊢
            clear hold holdi q16 q2 q1 hd6 n1 n2 hk1 hb2 hln hbq
            go_wp2_with (at_builtin; (refine wpList_append_lies _ (by rfl) _ _ 26 (by rfl) W0.heap.size 22 i1 nilV 1 24 Try.underlying26 hi1 hy0 hy1 hy2 rfl (by decide) u5 k1 us (by rfl) hown ⟨b, 0, none⟩ k2 c us2 (by rfl) (by rw [hk2]; omega) hnews hcells (by omega) (by unfold maxLen; omega) (by omega) hs6 w6.heap.size rfl ?_))
            intro gg cap1 wz hown1 hgrow hat hlt1
            rw [← HK1.out, ← HK2.out, ← hs0] at hown1
            have hjn := QOwnU.join HQ16.out HQ2.out (by show W0.heap.size ≤ wo.heap.size; omega) HH1.out HH2.out hown1 hgrow (hat.imp id (fun h => by omega))
            rw [HK1.out, HK2.out, ← HEQ.out] at hjn
            have HJN := Lib.hid hjn
            have HDZ := Lib.hid (HD6.out.grown hgrow hs6 (fun q hq => (hown.lt q hq).1))
            clear hjn hown1 hgrow hat hlt1 hown hnews hcells hk2
            go_wp2
            go_roundw
            case rel => exact ⟨k + 1, _, by omega, by go_num, HJN, HDZ⟩
            case measure => simp [intOf]; omega
          · rw [if_neg c3, List.append_nil] at heq
            have HEQ := Lib.hid heq
            clear heq
            go_wp2
            go_quiet (fail)
            clear w1 w3 w4
            go_wp2
            go_roundw
            case rel => exact ⟨k + 1, us, by omega, by go_num, by rw [HEQ.out]; exact HO, Lib.hid (below_drewN HB.out _)⟩
            case measure => simp [intOf]; omega
        · rw [show min hi B = B by omega] at heq
          by_cases c3 : lo ≤ B
          · rw [if_pos c3] at heq
            have hcl := HOK.out lo B (by omega) (by omega) c3
            have hln := Bd.oneL_len c3
            have HON := Lib.hid (fun w' => one_all (B - lo).toNat w' w lo B (Nat.le_refl _) hcl)
            obtain ⟨Lb, hLb⟩ : ∃ Lb, Bd.oneL lo B = Lb := ⟨_, rfl⟩
            rw [hLb] at heq hln HON
            have HEQ := Lib.hid heq
            clear heq hcl hLb
            go_wp2
            go_quiet (fail)
            clear w1 w3 w4
            go_wp2_with fail
            refine (HON.out _).mono ?_
            rintro e w6 ⟨v2, us2, rfl, q2, hb2⟩
            have hbq : Below wo.heap.size wo (wo.drewN nq) := below_drewN (Below.refl _ _) nq
            have q1 := (HO.out.below hbq)
            have n1 := q1.1
            have n2 := q2.1
            have hold : ∀ b, u5.ownBlock = some b → b < (wo.drewN nq).heap.size := fun b e => (q1.2.1.lt b e).2
            have holdi : ∀ j, j < us.length → ∀ b, (us[j]?.getD nilV).ownBlock = some b → b < (wo.drewN nq).heap.size := fun j hj b e => ((q1.2.2.1 j hj).lt e).2
            have q16 := q1.below hb2
            have hown := q16.2.1
            obtain ⟨b, c, rfl, hnews, hcells⟩ := q2.news (by omega)
            have hd6 := (HB.out.trans (hbq.mono hsz)).trans (hb2.mono (by show W0.heap.size ≤ wo.heap.size; omega))
            have hs6 := hd6.size
            have u1 : us.length ≤ 5570560 := by omega
            have u2 : us2.length ≤ 1114112 := by omega
            have u3 : 0 < us2.length := by omega
            obtain ⟨k1, hk1⟩ : ∃ k1, us.length = k1 := ⟨_, rfl⟩
            obtain ⟨k2, hk2⟩ : ∃ k2, us2.length = k2 := ⟨_, rfl⟩
            have HQ16 := Lib.hid q16
            have HQ2 := Lib.hid q2
            have HH1 := Lib.hid hold
            have HH2 := Lib.hid holdi
            have HD6 := Lib.hid hd6
            have HK1 := Lib.hid hk1
            have HK2 := Lib.hid hk2
            rw [hk1] at hown u1
            rw [hk2] at u2 u3 ⊢
            clear hold holdi q16 q2 q1 hd6 n1 n2 hk1 hb2 hln hbq
            go_wp2_with (at_builtin; (refine wpList_append_lies _ (by rfl) _ _ 26 (by rfl) W0.heap.size 22 i1 nilV 1 24 Try.underlying26 hi1 hy0 hy1 hy2 rfl (by decide) u5 k1 us (by rfl) hown ⟨b, 0, none⟩ k2 c us2 (by rfl) (by rw [hk2]; omega) hnews hcells (by omega) (by unfold maxLen; omega) (by omega) hs6 w6.heap.size rfl ?_))
            intro gg cap1 wz hown1 hgrow hat hlt1
            rw [← HK1.out, ← HK2.out, ← hs0] at hown1
            have hjn := QOwnU.join HQ16.out HQ2.out (by show W0.heap.size ≤ wo.heap.size; omega) HH1.out HH2.out hown1 hgrow (hat.imp id (fun h => by omega))
            rw [HK1.out, HK2.out, ← HEQ.out] at hjn
            have HJN := Lib.hid hjn
            have HDZ := Lib.hid (HD6.out.grown hgrow hs6 (fun q hq => (hown.lt q hq).1))
            clear hjn hown1 hgrow hat hlt1 hown hnews hcells hk2
            go_wp2
            go_roundw
            case rel => exact ⟨k + 1, _, by omega, by go_num, HJN, HDZ⟩
            case measure => simp [intOf]; omega
          · rw [if_neg c3, List.append_nil] at heq
            have HEQ := Lib.hid heq
            clear heq
            go_wp2
            go_quiet (fail)
            clear w1 w3 w4
            go_wp2
            go_roundw
            case rel => exact ⟨k + 1, us, by omega, by go_num, by rw [HEQ.out]; exact HO, Lib.hid (below_drewN HB.out _)⟩
            case measure => simp [intOf]; omega
      · rw [show max lo A = A by omega] at heq
        by_cases c2 : hi < B
        · rw [show min hi B = hi by omega] at heq
          by_cases c3 : A ≤ hi
          · rw [if_pos c3] at heq
            have hcl := HOK.out A hi (by omega) (by omega) c3
            have hln := Bd.oneL_len c3
            have HON := Lib.hid (fun w' => one_all (hi - A).toNat w' w A hi (Nat.le_refl _) hcl)
            obtain ⟨Lb, hLb⟩ : ∃ Lb, Bd.oneL A hi = Lb := ⟨_, rfl⟩
            rw [hLb] at heq hln HON
            have HEQ := Lib.hid heq
            clear heq hcl hLb
            go_wp2
            go_quiet (fail)
            clear w1 w3 w4
            go_wp2_with fail
            refine (HON.out _).mono ?_
            rintro e w6 ⟨v2, us2, rfl, q2, hb2⟩
            have hbq : Below wo.heap.size wo (wo.drewN nq) := below_drewN (Below.refl _ _) nq
            have q1 := (HO.out.below hbq)
            have n1 := q1.1
            have n2 := q2.1
            have hold : ∀ b, u5.ownBlock = some b → b < (wo.drewN nq).heap.size := fun b e => (q1.2.1.lt b e).2
            have holdi : ∀ j, j < us.length → ∀ b, (us[j]?.getD nilV).ownBlock = some b → b < (wo.drewN nq).heap.size := fun j hj b e => ((q1.2.2.1 j hj).lt e).2
            have q16 := q1.below hb2
            have hown := q16.2.1
            obtain ⟨b, c, rfl, hnews, hcells⟩ := q2.news (by omega)
            have hd6 := (HB.out.trans (hbq.mono hsz)).trans (hb2.mono (by show W0.heap.size ≤ wo.heap.size; omega))
            have hs6 := hd6.size
            have u1 : us.length ≤ 5570560 := by omega
            have u2 : us2.length ≤ 1114112 := by omega
            have u3 : 0 < us2.length := by omega
            obtain ⟨k1, hk1⟩ : ∃ k1, us.length = k1 := ⟨_, rfl⟩
            obtain ⟨k2, hk2⟩ : ∃ k2, us2.length = k2 := ⟨_, rfl⟩
            have HQ16 := Lib.hid q16
            have HQ2 := Lib.hid q2
            have HH1 := Lib.hid hold
            have HH2 := Lib.hid holdi
            have HD6 := Lib.hid hd6
            have HK1 := Lib.hid hk1
            have HK2 := Lib.hid hk2
            rw [hk1] at hown u1
            rw [hk2] at u2 u3 ⊢
            clear hold holdi q16 q2 q1 hd6 n1 n2 hk1 hb2 hln hbq
            go_wp2_with (at_builtin; (refine wpList_append_lies _ (by rfl) _ _ 26 (by rfl) W0.heap.size 22 i1 nilV 1 24 Try.underlying26 hi1 hy0 hy1 hy2 rfl (by decide) u5 k1 us (by rfl) hown ⟨b, 0, none⟩ k2 c us2 (by rfl) (by rw [hk2]; omega) hnews hcells (by omega) (by unfold maxLen; omega) (by omega) hs6 w6.heap.size rfl ?_))
            intro gg cap1 wz hown1 hgrow hat hlt1
            rw [← HK1.out, ← HK2.out, ← hs0] at hown1
            have hjn := QOwnU.join HQ16.out HQ2.out (by show W0.heap.size ≤ wo.heap.size; omega) HH1.out HH2.out hown1 hgrow (hat.imp id (fun h => by omega))
            rw [HK1.out, HK2.out, ← HEQ.out] at hjn
            have HJN := Lib.hid hjn
            have HDZ := Lib.hid (HD6.out.grown hgrow hs6 (fun q hq => (hown.lt q hq).1))
            clear hjn hown1 hgrow hat hlt1 hown hnews hcells hk2
            go_wp2
            go_roundw
            case rel => exact ⟨k + 1, _, by omega, by go_num, HJN, HDZ⟩
            case measure => simp [intOf]; omega
          · rw [if_neg c3, List.append_nil] at heq
            have HEQ := Lib.hid heq
            clear heq
            go_wp2
            go_quiet (fail)
            clear w1 w3 w4
            go_wp2
            go_roundw
            case rel => exact ⟨k + 1, us, by omega, by go_num, by rw [HEQ.out]; exact HO, Lib.hid (below_drewN HB.out _)⟩
            case measure => simp [intOf]; omega
        · rw [show min hi B = B by omega] at heq
          by_cases c3 : A ≤ B
          · rw [if_pos c3] at heq
            have hcl := HOK.out A B (by omega) (by omega) c3
            have hln := Bd.oneL_len c3
            have HON := Lib.hid (fun w' => one_all (B - A).toNat w' w A B (Nat.le_refl _) hcl)
            obtain ⟨Lb, hLb⟩ : ∃ Lb, Bd.oneL A B = Lb := ⟨_, rfl⟩
            rw [hLb] at heq hln HON
            have HEQ := Lib.hid heq
            clear heq hcl hLb
            go_wp2
            go_quiet (fail)
            clear w1 w3 w4
            go_wp2_with fail
            refine (HON.out _).mono ?_
            rintro e w6 ⟨v2, us2, rfl, q2, hb2⟩
            have hbq : Below wo.heap.size wo (wo.drewN nq) := below_drewN (Below.refl _ _) nq
            have q1 := (HO.out.below hbq)
            have n1 := q1.1
            have n2 := q2.1
            have hold : ∀ b, u5.ownBlock = some b → b < (wo.drewN nq).heap.size := fun b e => (q1.2.1.lt b e).2
            have holdi : ∀ j, j < us.length → ∀ b, (us[j]?.getD nilV).ownBlock = some b → b < (wo.drewN nq).heap.size := fun j hj b e => ((q1.2.2.1 j hj).lt e).2
            have q16 := q1.below hb2
            have hown := q16.2.1
            obtain ⟨b, c, rfl, hnews, hcells⟩ := q2.news (by omega)
            have hd6 := (HB.out.trans (hbq.mono hsz)).trans (hb2.mono (by show W0.heap.size ≤ wo.heap.size; omega))
            have hs6 := hd6.size
            have u1 : us.length ≤ 5570560 := by omega
            have u2 : us2.length ≤ 1114112 := by omega
            have u3 : 0 < us2.length := by omega
            obtain ⟨k1, hk1⟩ : ∃ k1, us.length = k1 := ⟨_, rfl⟩
            obtain ⟨k2, hk2⟩ : ∃ k2, us2.length = k2 := ⟨_, rfl⟩
            have HQ16 := Lib.hid q16
            have HQ2 := Lib.hid q2
            have HH1 := Lib.hid hold
            have HH2 := Lib.hid holdi
            have HD6 := Lib.hid hd6
            have HK1 := Lib.hid hk1
            have HK2 := Lib.hid hk2
            rw [hk1] at hown u1
            rw [hk2] at u2 u3 ⊢
            clear hold holdi q16 q2 q1 hd6 n1 n2 hk1 hb2 hln hbq
            go_wp2_with (at_builtin; (refine wpList_append_lies _ (by rfl) _ _ 26 (by rfl) W0.heap.size 22 i1 nilV 1 24 Try.underlying26 hi1 hy0 hy1 hy2 rfl (by decide) u5 k1 us (by rfl) hown ⟨b, 0, none⟩ k2 c us2 (by rfl) (by rw [hk2]; omega) hnews hcells (by omega) (by unfold maxLen; omega) (by omega) hs6 w6.heap.size rfl ?_))
            intro gg cap1 wz hown1 hgrow hat hlt1
            rw [← HK1.out, ← HK2.out, ← hs0] at hown1
            have hjn := QOwnU.join HQ16.out HQ2.out (by show W0.heap.size ≤ wo.heap.size; omega) HH1.out HH2.out hown1 hgrow (hat.imp id (fun h => by omega))
            rw [HK1.out, HK2.out, ← HEQ.out] at hjn
            have HJN := Lib.hid hjn
            have HDZ := Lib.hid (HD6.out.grown hgrow hs6 (fun q hq => (hown.lt q hq).1))
            clear hjn hown1 hgrow hat hlt1 hown hnews hcells hk2
            go_wp2
            go_roundw
            case rel => exact ⟨k + 1, _, by omega, by go_num, HJN, HDZ⟩
            case measure => simp [intOf]; omega
          · rw [if_neg c3, List.append_nil] at heq
            have HEQ := Lib.hid heq
            clear heq
            go_wp2
            go_quiet (fail)
            clear w1 w3 w4
            go_wp2
            go_roundw
            case rel => exact ⟨k + 1, us, by omega, by go_num, by rw [HEQ.out]; exact HO, Lib.hid (below_drewN HB.out _)⟩
            case measure => simp [intOf]; omega
    · obtain rfl : k = 5 := by omega
      have hO := HO.out
      have e1 : Bd.splitK lo hi 5 = LL := HLL.out
      rw [e1] at hO
      have HO2 := Lib.hid (hO.lower D0.out.size)
      have HE := Lib.hid (D0.out.trans (HB.out.mono D0.out.size))
      clear hO e1
      go_wp2
      go_ret
      exact ⟨_, us, rfl, HO2.out, HE.out⟩
end Go.Proofs.Ytfopcgbfbedcjaa
namespace Go.Proofs.Ytfopcgbfbedcjaa
open Go.RowKit
set_option linter.unusedVariables false
/-- At a step of a region that draws its order: an append whose run is known. -/
theorem step_append_run {P : Program} {ops : Array Oper} {o : Oper} {a : Act} {w : World} {K : Act → World → Prop} {Q : Exit → Act → World → Prop} {E : Prop} (hgd : o.guard = none) (s x : Operand) (t : TypeId)
    (ho : o.op = .call { callee := .builtin .append, args := #[s, x], argTypes := #[t, t] }) (vs vx v' : Value) (w' : World) (hs : a.eval s = vs) (hx : a.eval x = vx)
    (hr : (Builtin.append_ #[t, t] o.type #[vs, vx]).run P w = .ok v' w') (h : K (a.put o.dst v') w') : if Region.wanted o (yielded ops a.tmps) = true then Oper.wp P o a w K Q else E := by
  rw [if_pos (by simp [Region.wanted, hgd])]
  unfold Oper.wp execOp
  simp only [ho, resolve, invoke, builtin, Sem.run_bind, Sem.run_pure, Result.andThen_ok, List.map_toArray, List.map_cons, List.map_nil, hs, hx, hr]
  exact h
theorem held_two {wr w w' : World} {A B : Addr} {va vb : Value} (hb : Below w.heap.size w w') (hw : w.heap.size = wr.heap.size) (hA : A.block < wr.heap.size) (hB : B.block < wr.heap.size)
    (h : w.cell? A = some va ∧ w.cell? B = some vb) : w'.cell? A = some va ∧ w'.cell? B = some vb :=
  ⟨(hb.cell (by omega)).trans h.1, (hb.cell (by omega)).trans h.2⟩
theorem QOwnU.isNil {W : World} {base : Nat} {v : Value} {us : List Value} (h : QOwnU W base v us []) : us = [] ∧ ∃ A c, v = .slice A 0 c := by
  have h0 : us = [] := List.eq_nil_of_length_eq_zero h.1
  subst h0
  rcases h.2.1.2 with ⟨rfl, _⟩ | ⟨g, cap, cur, rfl, _⟩
  · exact ⟨rfl, _, _, rfl⟩
  · exact ⟨rfl, _, _, rfl⟩
/-- What Of hands back. -/
def OfPost (l : List (Int × Int)) (W : World) (e : Ending) (w' : World) : Prop := ∃ B, Rg.Made 1 l [] B ∧ SeqPost (Bd.ofL B) W e w'
set_option maxRecDepth 100000 in
set_option maxHeartbeats 8000000 in
theorem refOf_any (W : World) (va : Value) (l : List (Int × Int)) (ha : RRow W va l) : Calls Try.prog 14 #[va] W (OfPost l W) := by
  have mixed : Try.prog.follows .mixedOrders = true := by kernel_rfl
  obtain ⟨i1, hi1, hy0, hy1, hy2⟩ := info_parts Try.infoSeq
  have HA := Lib.hid ha
  clear ha
  go_enter Try.func14, Try.ntmps14
  go_wp2_with fail
  refine (refNorm _ _ l HA.out).mono ?_
  rintro e w1 ⟨vm, B, rfl, hm, ho, hb⟩
  have HM := Lib.hid hm
  have HNB := Lib.hid hm.norm
  obtain ⟨ba, bc, rfl, hbl, hbw, hbc⟩ := ho.normRow hm.norm
  have hln := Rg.norm_len B 0 hm.norm (by omega)
  have HBC := Lib.hid hbc
  have D1 := Lib.hid hb
  obtain ⟨n, hn⟩ : ∃ n, B.length = n := ⟨_, rfl⟩
  have HN := Lib.hid hn
  rw [hn] at hbl HBC hln ⊢
  clear hm hbw hbc ho hb hn HA
  go_wp2
  go_loopw [3, 5] (fun V I wr => ∃ (k : Nat) (us : List Value), k ≤ n ∧ I = .int .i64 k ∧ Hid (QOwnU wr w1.heap.size V us (Bd.ofL (B.take k))) ∧ Hid (Below w1.heap.size w1 wr)) (fun _ I _ => n - (intOf I).toNat)
  case atStart => exact ⟨0, [], Nat.zero_le _, rfl, Lib.hid (by rw [List.take_zero]; exact QOwnU.nil), Lib.hid (Below.refl _ _)⟩
  case round =>
    obtain ⟨k, us, hk, rfl, HO, HB⟩ := hrel
    obtain ⟨wo, rfl⟩ : ∃ wo : World, wo = wr := ⟨_, rfl⟩
    have hsz := HB.out.size
    by_cases hlt : k < n
    · obtain ⟨g, off, rfl, hg, hc1, hc2⟩ := HBC.out k hlt
      rw [← HB.out.cell (p := ⟨g, off + k * 2, none⟩) hg] at hc1
      rw [← HB.out.cell (p := ⟨g, off + k * 2 + 1, none⟩) hg] at hc2
      obtain ⟨g1, g2, g3⟩ := Rg.norm_get HNB.out k (by rw [HN.out]; exact hlt)
      have hgw : g < wo.heap.size := by omega
      obtain ⟨p, hp⟩ : ∃ p, B[k]?.getD (0, 0) = p := ⟨_, rfl⟩
      have hsu := Bd.ofL_succ B k (by rw [HN.out]; exact hlt) p hp
      rw [hp] at hc1 hc2 g1 g2 g3
      clear hp
      obtain ⟨p1, p2⟩ := p
      dsimp only at hc1 hc2 g1 g2 g3 hsu
      have hlk := Bd.ofL_len B 0 k HNB.out (Int.le_refl 0) (by omega)
      have hls := Bd.splitL_len g1 g2 g3
      have HSP := Lib.hid (fun w' => refSplit_any w' p1 p2)
      obtain ⟨L2, hL2⟩ : ∃ L2, Bd.splitL p1 p2 = L2 := ⟨_, rfl⟩
      obtain ⟨L1, hL1⟩ : ∃ L1, Bd.ofL (B.take k) = L1 := ⟨_, rfl⟩
      rw [hL2] at hls HSP hsu
      rw [hL1] at hlk HO hsu
      have HSU := Lib.hid hsu
      clear hL2 hL1 hsu
      have k0 : (0 : Int) ≤ (k : Int) := by omega
      have k1 : (k : Int) < (n : Int) := by omega
      have hn1 := HO.out.1
      have HDR := Lib.hid (below_drewN (Below.refl wo.heap.size wo) 1)
      rcases Nat.eq_zero_or_pos L2.length with hz | hpos
      · have hz2 : L2 = [] := List.eq_nil_of_length_eq_zero hz
        subst hz2
        rw [List.append_nil] at HSU
        clear hz hls
        go_wp2
        have hs0 : wo.drew.cell? ⟨g, off + k * 2, none⟩ = some (.int .i64 p1) ∧ wo.drew.cell? ⟨g, off + k * 2 + 1, none⟩ = some (.int .i64 p2) := ⟨hc1, hc2⟩
        go_region_held3 (fun w' => w'.cell? ⟨g, off + k * 2, none⟩ = some (.int .i64 p1) ∧ w'.cell? ⟨g, off + k * 2 + 1, none⟩ = some (.int .i64 p2))
          (first | assumption | go_keep)
          (first
            | (go_at_call 12; refine (HSP.out _).mono ?_; rintro e w6 ⟨v2, us2, rfl, q2, hb2⟩; have hs6 := held_two (wr := wo) hb2 rfl hgw hgw hs0; obtain ⟨hu2, A2, c2, rfl⟩ := q2.isNil; have hq6 := (HO.out.below HDR.out).below hb2)
            | (refine step_append_run (by rfl) _ _ 26 (by rfl) u3 (.slice A2 0 c2) u3 w6 (by rfl) (by rfl) (run_append_nothing w1.heap.size 26 26 22 i1 1 Try.underlying26 hi1 u3 us.length us hq6.2.1 A2 c2) ?_))
        have HQ6 := Lib.hid hq6
        have HB6 := Lib.hid ((HB.out.trans (HDR.out.mono hsz)).trans (hb2.mono (by show w1.heap.size ≤ wo.heap.size; omega)))
        clear hq6 hb2 q2 hs6 hs0
        go_wp2
        go_roundw
        case rel => exact ⟨k + 1, us, by omega, by go_num, by rw [HSU.out]; exact HQ6, HB6⟩
        case measure => simp [intOf]; omega
      · have HNE : Hid (u3.ownBlock ≠ some g) := Lib.hid (fun e => by have := (HO.out.2.1.lt g e).1; omega)
        have HHO := Lib.hid (fun b (e : u3.ownBlock = some b) => (HO.out.2.1.lt b e).2)
        have HHI := Lib.hid (fun j (hj : j < us.length) b (e : (us[j]?.getD nilV).ownBlock = some b) => ((HO.out.2.2.1 j hj).lt e).2)
        have ub : us.length ≤ 1114113 := by omega
        clear hn1
        go_wp2
        have hs0 : wo.drew.cell? ⟨g, off + k * 2, none⟩ = some (.int .i64 p1) ∧ wo.drew.cell? ⟨g, off + k * 2 + 1, none⟩ = some (.int .i64 p2) := ⟨hc1, hc2⟩
        go_region_held3 (fun w' => w'.cell? ⟨g, off + k * 2, none⟩ = some (.int .i64 p1) ∧ w'.cell? ⟨g, off + k * 2 + 1, none⟩ = some (.int .i64 p2))
          (first | assumption | exact ⟨hgrow.cell (a := ⟨g, off + k * 2, none⟩) hs6.1 (Ne.symm HNE.out), hgrow.cell (a := ⟨g, off + k * 2 + 1, none⟩) hs6.2 (Ne.symm HNE.out)⟩)
          (first
            | (go_at_call 12; refine (HSP.out _).mono ?_; rintro e w6 ⟨v2, us2, rfl, q2, hb2⟩; have hs6 := held_two (wr := wo) hb2 rfl hgw hgw hs0; have hn2 := q2.1; obtain ⟨b, c, rfl, hnews, hcells⟩ := q2.news (by rw [hn2]; exact hpos); have hq6 := (HO.out.below HDR.out).below hb2; have hown := hq6.2.1; have hz6 := hb2.size; have hz7 : w1.heap.size ≤ w6.heap.size := Nat.le_trans hsz hz6)
            | (refine step_append_lies _ (by rfl) _ _ 26 (by rfl) w1.heap.size 22 i1 nilV 1 24 Try.underlying26 hi1 hy0 hy1 hy2 rfl (by decide) u3 us.length us (by rfl) hown ⟨b, 0, none⟩ L2.length c us2 (by rfl) (by omega) hnews hcells (by omega) (by unfold maxLen; omega) (by omega) hz7 w6.heap.size rfl ?_; intro gg cap1 wz hown1 hgrow hat hlt1))
        rw [← hn2] at hown1
        have hjn := QOwnU.join hq6 q2 hsz HHO.out HHI.out hown1 hgrow (hat.imp id (fun h => by omega))
        rw [← HSU.out, hn2] at hjn
        have HJN := Lib.hid hjn
        have HDZ := Lib.hid (((HB.out.trans (HDR.out.mono hsz)).trans (hb2.mono hsz)).grown hgrow hz7 (fun q hq => (hown.lt q hq).1))
        clear hjn hown1 hgrow hat hlt1 hown hnews hcells q2 hq6 hb2 hs6 hs0
        go_wp2
        go_roundw
        case rel => exact ⟨k + 1, _, by omega, by go_num, HJN, HDZ⟩
        case measure => simp [intOf]; omega
    · obtain rfl : k = n := by omega
      have hO := HO.out
      rw [List.take_of_length_le (by rw [HN.out]; exact Nat.le_refl _)] at hO
      have HO2 := Lib.hid (hO.lower D1.out.size)
      have HE := Lib.hid (D1.out.trans (HB.out.mono D1.out.size))
      clear hO
      go_wp2
      go_ret
      exact ⟨B, HM.out, _, us, rfl, HO2.out, HE.out⟩
end Go.Proofs.Ytfopcgbfbedcjaa
