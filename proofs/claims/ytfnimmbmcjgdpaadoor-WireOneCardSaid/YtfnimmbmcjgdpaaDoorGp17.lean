/- The landed wire: sum, appendVarints. -/
import Derived.Test.YtfnimmbmcjgdpaaDoorGp16
import Derived.ArgAppend
namespace Go.Proofs.YtfnimmbmcjgdpaaDoor
open Go.RowKit
set_option linter.unusedVariables false
namespace Pgm
theorem at_list' (s : ByteArray) (k : Nat) (h : k < s.size) : s.data.toList[k]? = some (s[k]'h) := by
  have : k < s.data.toList.length := by simpa using h
  rw [List.getElem?_eq_getElem this]
  simp
  rfl
theorem xorL_take (s : ByteArray) (k : Nat) (h : k < s.size) : bits .xor .u8 ((xorL (s.data.toList.take k)).toNat : Int) ((s[k]'h).toNat : Int) = ((xorL (s.data.toList.take (k + 1))).toNat : Int) := by
  have h1 := (xorL (s.data.toList.take k)).toNat_lt
  have h2 := (s[k]'h).toNat_lt
  rw [u8_xor_nat _ _ (by omega) (by omega)]
  rw [List.take_add_one, at_list' s k h]
  show _ = ((xorL (s.data.toList.take k ++ [s[k]'h])).toNat : Int)
  rw [xorL_snoc, UInt8.toNat_xor]
set_option maxRecDepth 100000 in
set_option maxHeartbeats 4000000 in
theorem sum_any (W : World) (s : ByteArray) (hs : s.size ≤ 1000000) : Calls Tryd.prog 55 #[.string s] W fun e w' => e = .returned (.int .u8 ((xorL s.data.toList).toNat : Int)) ∧ W = w' := by
  obtain ⟨X, hX⟩ : ∃ X : Nat → Int, X = fun k => ((xorL (s.data.toList.take k)).toNat : Int) := ⟨_, rfl⟩
  have HX0 : Hid (X 0 = 0) := Lib.hid (by rw [hX]; rfl)
  have HXN : Hid (X s.size = ((xorL s.data.toList).toNat : Int)) := Lib.hid (by
    rw [hX]
    dsimp only
    rw [List.take_of_length_le (by simp)])
  have HXS : Hid (∀ k (h : k < s.size), bits .xor .u8 (X k) ((s[k]'h).toNat : Int) = X (k + 1)) := Lib.hid (fun k h => by rw [hX]; exact xorL_take s k h)
  obtain ⟨Z, hZ⟩ : ∃ Z, ((xorL s.data.toList).toNat : Int) = Z := ⟨_, rfl⟩
  rw [hZ] at HXN ⊢
  obtain ⟨n, hn⟩ : ∃ n, s.size = n := ⟨_, rfl⟩
  have HN := Lib.hid hn
  clear hX hZ
  go_enter Tryd.func55, Tryd.ntmps55
  go_wp2
  go_loopw [3, 4, 7] (fun V U K wr => ∃ k : Nat, k ≤ n ∧ K = .int .i64 (k : Int) ∧ V = .int .u8 (X k) ∧ wr = W) (fun V U K _ => n - (intOf K).toNat)
  case atStart => exact ⟨0, by omega, rfl, by rw [HX0.out], rfl⟩
  case round =>
    obtain ⟨k, hk, rfl, rfl, rfl⟩ := hrel
    by_cases hlt : k < n
    · have hkl : k < s.size := by omega
      have hki : (k : Int) < (s.size : Int) := by omega
      have hkn : (k : Int) < (n : Int) := by omega
      have hxr := HXS.out k hkl
      have k0 : (0 : Int) ≤ (k : Int) := by omega
      have k1 : ((k : Int)).toNat = k := by omega
      go_wp2
      go_roundw
      case rel => first | exact ⟨k + 1, by omega, by go_num, rfl, trivial⟩ | exact ⟨k + 1, by omega, by go_num, rfl, rfl⟩ | ((repeat apply Exists.intro); exact ⟨⟨k + 1, by omega, by go_num, rfl, rfl⟩, rfl⟩)
      case measure => simp [intOf]; omega
    · obtain rfl : k = n := by omega
      have hz : X k = Z := by rw [← HXN.out, HN.out]
      have hk2 : ¬ (k : Int) < (s.size : Int) := by omega
      go_wp2
      go_ret
      exact ⟨rfl, rfl⟩
/-- A row of bytes to which one may append: owned, or full. -/
def ByApp (W : World) (base : Nat) (v : Value) (T : List UInt8) : Prop :=
  ByOwn W base v T ∨ (∃ g n fz, v = .slice (some ⟨g, 0, none⟩) n n ∧ n = T.length ∧ W.heap[g]? = some (.cells (Lib.byteCells T).toArray 5 fz))
theorem app1 (wr : World) (base : Nat) (u : Value) (T : List UInt8) (HU : ByApp wr base u T) (hb : base ≤ wr.heap.size) (hT : T.length ≤ 1000000) (c : UInt8) (z : Int) (hz : (c.toNat : Int) = z) (W2 : World) (hW2 : wr.alloc (.cells #[.int .u8 z] 5) = W2) :
    ∃ v3 W3, (Builtin.append_ #[55, 55] 55 #[u, .slice (some ⟨wr.heap.size, 0, none⟩) 1 1]).run Tryd.prog W2 = .ok v3 W3 ∧ ByOwn W3 base v3 (T ++ [c]) ∧ Below base wr W3 ∧ Lib.OthersKept 5 none wr W3 := by
  subst hz
  have hb2 : Below wr.heap.size wr W2 := by rw [← hW2]; exact (Below.refl _ _).alloc (Nat.le_refl _) _
  have hnew : W2.heap[wr.heap.size]? = some (.cells #[.int .u8 c.toNat] 5 (0, 0)) := by rw [← hW2]; exact heap_alloc_new wr _
  have hk2 : Lib.OthersKept 5 none wr W2 := by rw [← hW2]; exact (Lib.OthersKept.refl _ _ _).alloc _
  rcases HU with HU | ⟨g, n, fz, rfl, hn, hg⟩
  · have hu2 : ByOwn W2 base u T := World.ownsRow.kept HU (row := none) ⟨hb2.os, hb2.tape, hb2.output, hb2.size, fun j hj _ => hb2.block j hj⟩ (by cases hv : u.ownBlock <;> simp)
    obtain ⟨v3, W3, hrun, ho3, hb3, hk3⟩ := append_by W2 base u _ hu2 (by have := hb2.size; omega) hT c wr.heap.size hnew 1
    exact ⟨v3, W3, hrun, ho3, (hb2.mono hb).trans hb3, hk2.trans hk3⟩
  · obtain ⟨i0, hi, hz0, hz1, hz2⟩ := info_parts infoBy
    have hg2 : W2.heap[g]? = some (.cells (Lib.byteCells T).toArray 5 fz) := (hb2.block g (Array.getElem?_eq_some_iff.1 hg).1).trans hg
    obtain ⟨v3, W3, hrun, hown, hgrow⟩ := run_append_arg_grows (P := Tryd.prog) W2 55 55 5 i0 _ 1 1 underBys hi hz0 hz1 hz2 rfl (by omega) ⟨g, 0, none⟩ n n (Lib.byteCells T) (by rw [cells_len]; omega)
      (fun j u hj => by rw [Addr.add_lit, Nat.zero_add]; simp [World.cell?, hg2, hj]) ⟨wr.heap.size, 0, none⟩ 1 1 [.int .u8 c.toNat] rfl (World.news_of_block hnew) (by omega) (by unfold maxLen; omega) (by omega)
    refine ⟨v3, W3, hrun, ?_, (hb2.mono hb).trans ((Below.refl base W2).grown hgrow (by have := hb2.size; omega) (fun j hj => by cases hj)), hk2.trans ((Lib.OthersKept.refl _ _ W2).grown hgrow (fun j hj => by cases hj))⟩
    unfold ByOwn
    rw [List.length_append, cells_app, ← hn]
    refine ⟨hown.1, ?_⟩
    rcases hown.2 with h0 | ⟨g', cap, cur, e1, e2, e3⟩
    · exact .inl h0
    · exact .inr ⟨g', cap, cur, e1, by have := hb2.size; omega, e3⟩
theorem vs_take (ns : List Int) (k : Nat) (h : k < ns.length) : (ns.take (k + 1)).flatMap vL = (ns.take k).flatMap vL ++ vL ns[k] := by
  rw [List.take_add_one, List.getElem?_eq_getElem h, List.flatMap_append]
  simp
theorem vs_take_len (ns : List Int) (k : Nat) : ((ns.take k).flatMap vL).length ≤ 2 * k := by
  have h1 := (vs_len (ns.take k)).2
  have h2 : (ns.take k).length ≤ k := List.length_take_le _ _
  omega
set_option maxRecDepth 100000 in
set_option maxHeartbeats 8000000 in
theorem varints_any (W : World) (base : Nat) (v : Value) (T : List UInt8) (a : Option Addr) (m c : Nat) (ns : List Int) (h : ByApp W base v T) (hb : base ≤ W.heap.size) (hT : T.length ≤ 500000)
    (hm : ns.length = m) (hm1 : 1 ≤ m) (hm9 : m ≤ 10) (hrow : IntsAt W a ns) (hn : ∀ n ∈ ns, 0 ≤ n ∧ n < 16384) : Calls Tryd.prog 53 #[v, .slice a m c] W (LinePost W base (T ++ ns.flatMap vL)) := by
  have HR := Lib.hid hrow
  have HN := Lib.hid hn
  have HM := Lib.hid hm
  have HO : Hid (ByApp W base v (T ++ (ns.take 0).flatMap vL) ∧ (0 < 0 → ByOwn W base v (T ++ (ns.take 0).flatMap vL))) := Lib.hid ⟨by simpa using h, fun h => absurd h (by omega)⟩
  clear hrow hn hm h
  go_enter Tryd.func53, Tryd.ntmps53
  go_wp2
  go_loopw [0, 6, 9] (fun V N K wr => ∃ (k : Nat) (u : Value), k ≤ m ∧ K = .int .i64 (k : Int) ∧ u = V ∧ Hid (ByApp wr base u (T ++ (ns.take k).flatMap vL) ∧ (0 < k → ByOwn wr base u (T ++ (ns.take k).flatMap vL))) ∧ Hid (Below base W wr) ∧ Hid (Lib.OthersKept 5 none W wr)) (fun V N K _ => m - (intOf K).toNat)
  case atStart => exact ⟨0, _, by omega, rfl, rfl, HO, Lib.hid (Below.refl _ _), Lib.hid (Lib.OthersKept.refl _ _ _)⟩
  case round =>
    obtain ⟨k, u, hk, rfl, rfl, HU, HB, HK⟩ := hrel
    have hnl := vs_take_len ns k
    have hlen : (T ++ (ns.take k).flatMap vL).length ≤ 600000 := by rw [List.length_append]; omega
    by_cases hlt : k < m
    · have hkl : k < ns.length := by rw [HM.out]; exact hlt
      obtain ⟨b, off, rfl, hbl, hcell⟩ := (HR.out.kept HK.out).cell hkl
      have hnn := HN.out ns[k] (List.getElem_mem hkl)
      have HNT := Lib.hid (vs_take ns k hkl)
      obtain ⟨x, hx⟩ : ∃ x, ns[k] = x := ⟨_, rfl⟩
      rw [hx] at hcell hnn HNT
      obtain ⟨x0, x1⟩ := hnn
      have hbs := HB.out.size
      by_cases hsm : x < 128
      · have hxv : vL x = [UInt8.ofNat x.toNat] := by unfold vL; rw [if_pos hsm]
        have hz : ((UInt8.ofNat x.toNat).toNat : Int) = x := by rw [ofNat_toNat8 (by omega)]; omega
        have e1 : IntKind.u8.wrap x = x := by rw [IntKind.wrap_u8]; omega
        obtain ⟨W2, hW2⟩ : ∃ W2, wr.alloc (.cells #[.int .u8 x] 5) = W2 := ⟨_, rfl⟩
        obtain ⟨v3, W3, hrun, ho3, hb3, hk3⟩ := app1 wr base u _ HU.out.1 (by omega) (by omega) _ _ hz W2 hW2
        have HRUN := Lib.hid hrun
        have HB3 := Lib.hid (HB.out.trans hb3)
        have HK3 := Lib.hid (HK.out.trans hk3)
        have hoo : ByOwn W3 base v3 (T ++ (ns.take (k + 1)).flatMap vL) := by rw [HNT.out, hxv, ← List.append_assoc]; exact ho3
        have HO3 : Hid (ByApp W3 base v3 (T ++ (ns.take (k + 1)).flatMap vL) ∧ (0 < k + 1 → ByOwn W3 base v3 (T ++ (ns.take (k + 1)).flatMap vL))) := Lib.hid ⟨.inl hoo, fun _ => hoo⟩
        have HW2 := Lib.hid hW2
        have hsm2 : ¬ (128 : Int) ≤ x := by omega
        clear hx hz hxv hoo hrun ho3 hb3 hk3 hW2 hnl hbs hlen
        go_wp2
        refine wp_loop_rounds 1 ?_
        rw [rounds_succ]
        go_wp2_with (at_builtin; (rw [HW2.out]; refine wpList_append_run rfl _ _ 55 rfl _ _ _ W3 rfl rfl HRUN.out ?_))
        go_wp2
        go_roundw
        case rel => first | exact ⟨k + 1, _, by omega, by go_num, rfl, HO3, HB3, HK3⟩ | ((repeat apply Exists.intro); exact ⟨⟨k + 1, _, by omega, by go_num, rfl, HO3, HB3, HK3⟩, rfl⟩)
        case measure => simp [intOf]; omega
      · obtain ⟨d, hd⟩ : ∃ d : Int, x % 128 = d := ⟨_, rfl⟩
        obtain ⟨q, hq⟩ : ∃ q : Int, x / 128 = q := ⟨_, rfl⟩
        have hxv : vL x = [UInt8.ofNat (d + 128).toNat] ++ [UInt8.ofNat q.toNat] := by
          unfold vL
          rw [if_neg hsm, show 128 + x.toNat % 128 = (d + 128).toNat by omega, show x.toNat / 128 = q.toNat by omega]; rfl
        have hz : ((UInt8.ofNat (d + 128).toNat).toNat : Int) = d + 128 := by rw [ofNat_toNat8 (by omega)]; omega
        have hz2 : ((UInt8.ofNat q.toNat).toNat : Int) = q := by rw [ofNat_toNat8 (by omega)]; omega
        have hrem : x.tmod 128 = d := by rw [Int.tmod_eq_emod_of_nonneg (by omega)]; exact hd
        have e1 : IntKind.u8.wrap (d + 128) = d + 128 := by rw [IntKind.wrap_u8]; omega
        have e2 : IntKind.i64.wrap (d + 128) = d + 128 := by rw [IntKind.wrap_i64]; omega
        have e3 : IntKind.u8.wrap q = q := by rw [IntKind.wrap_u8]; omega
        obtain ⟨W2, hW2⟩ : ∃ W2, wr.alloc (.cells #[.int .u8 (d + 128)] 5) = W2 := ⟨_, rfl⟩
        obtain ⟨v3, W3, hrun, ho3, hb3, hk3⟩ := app1 wr base u _ HU.out.1 (by omega) (by omega) _ _ hz W2 hW2
        have hs3 := hb3.size
        obtain ⟨W4, hW4⟩ : ∃ W4, W3.alloc (.cells #[.int .u8 q] 5) = W4 := ⟨_, rfl⟩
        obtain ⟨v5, W5, hrun5, ho5, hb5, hk5⟩ := app1 W3 base v3 _ (.inl ho3) (by omega) (by rw [List.length_append, List.length_singleton]; omega) _ _ hz2 W4 hW4
        have HRUN := Lib.hid hrun
        have HRUN5 := Lib.hid hrun5
        have HB5 := Lib.hid (HB.out.trans (hb3.trans hb5))
        have HK5 := Lib.hid (HK.out.trans (hk3.trans hk5))
        have hoo : ByOwn W5 base v5 (T ++ (ns.take (k + 1)).flatMap vL) := by rw [HNT.out, hxv, ← List.append_assoc, ← List.append_assoc]; exact ho5
        have HO5 : Hid (ByApp W5 base v5 (T ++ (ns.take (k + 1)).flatMap vL) ∧ (0 < k + 1 → ByOwn W5 base v5 (T ++ (ns.take (k + 1)).flatMap vL))) := Lib.hid ⟨.inl hoo, fun _ => hoo⟩
        have HW2 := Lib.hid hW2
        have HW4 := Lib.hid hW4
        have hsm2 : (128 : Int) ≤ x := by omega
        have hq2 : ¬ (128 : Int) ≤ q := by omega
        clear hx hz hz2 hxv hoo hrun ho3 hb3 hk3 hW2 hnl hbs hlen hrun5 ho5 hb5 hk5 hW4 hs3 hsm hd
        go_wp2
        refine wp_loop_rounds 2 ?_
        rw [rounds_succ]
        go_wp2_with (at_builtin; (rw [HW2.out]; refine wpList_append_run rfl _ _ 55 rfl _ _ _ W3 rfl rfl HRUN.out ?_))
        go_wp2
        rw [rounds_succ]
        go_wp2_with (at_builtin; (rw [HW4.out]; refine wpList_append_run rfl _ _ 55 rfl _ _ _ W5 rfl rfl HRUN5.out ?_))
        go_wp2
        go_roundw
        case rel => first | exact ⟨k + 1, _, by omega, by go_num, rfl, HO5, HB5, HK5⟩ | ((repeat apply Exists.intro); exact ⟨⟨k + 1, _, by omega, by go_num, rfl, HO5, HB5, HK5⟩, rfl⟩)
        case measure => simp [intOf]; omega
    · obtain rfl : k = m := by omega
      have hfull : ns.take k = ns := List.take_of_length_le (by rw [HM.out]; exact Nat.le_refl _)
      rw [hfull] at HU
      go_wp2
      go_ret
      exact ⟨_, rfl, HU.out.2 (by omega), HB.out, HK.out⟩
end Pgm
end Go.Proofs.YtfnimmbmcjgdpaaDoor
