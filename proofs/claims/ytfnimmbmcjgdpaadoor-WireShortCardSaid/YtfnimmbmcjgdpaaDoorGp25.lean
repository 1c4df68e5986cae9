/- The landed wire: Decode. -/
import Derived.Test.YtfnimmbmcjgdpaaDoorGp24
namespace Go.Proofs.YtfnimmbmcjgdpaaDoor
open Go.RowKit Go.Shelf
set_option linter.unusedVariables false
namespace Pgm
/-- What is so of the memory where Decode gives up. -/
def DecW (W : World) (w : World) : Prop := w.heap[W.heap.size]? = some (.cells #[.slice none 0 0, .int .i64 0, .int .i64 0] 46 (0, 0)) ∧ Below W.heap.size W w
def DecJ (W : World) (D : Prop) (a : Act) (w : World) : Prop := ∃ u0 u1 u3 u4 u5 u6 u7 u8 u9 u10 u11 u12 u13 u14 u15 u16 u17 u18 u19 u20 u21 u22 u23 u24 u25 u26 u27 u28 u29 u30 u31 u32 u33 u34 u35 u36 u37 u38 u39 u40 u41 u42 u43 u44 u45 u46 u47 u48 u49 u50 u51 u52 u53 u54 u55 u56 u57 u58 u59 u60 u61 u62 u63 : Value, a = { tmps := #[u0, u1, .pointer (some ⟨W.heap.size, 0, none⟩), u3, u4, u5, u6, u7, u8, u9, u10, u11, u12, u13, u14, u15, u16, u17, u18, u19, u20, u21, u22, u23, u24, u25, u26, u27, u28, u29, u30, u31, u32, u33, u34, u35, u36, u37, u38, u39, u40, u41, u42, u43, u44, u45, u46, u47, u48, u49, u50, u51, u52, u53, u54, u55, u56, u57, u58, u59, u60, u61, u62, u63], defers := [] } ∧ Hid (DecW W w ∧ D)
theorem InOwn.of {W W' : World} {base : Nat} {v : Value} {l : List In} (h : InOwn W base v l) (hk : ∀ g, v.ownBlock = some g → W'.heap[g]? = W.heap[g]?) : InOwn W' base v l := by
  refine ⟨h.1, ?_⟩
  rcases h.2 with e | ⟨g, cap, cur, e, h1, h2, h3⟩
  · exact .inl e
  · exact .inr ⟨g, cap, cur, e, h1, (hk g (by rw [e]; rfl)).trans h2, h3⟩
theorem dec_run {W : World} {n0 : Nat} {B : Nat} {V : World} {x : In} {v : Value} {l : List In} {a1 a2 : Int} (hv : InOwn V B v l) (hB : B ≤ V.heap.size) (hl : l.length ≤ 100000) (X : Nat) (hX : V.heap[X]? = some (.cells #[.int .i64 x.op, .int .i64 x.lo, .int .i64 x.hi, .int .i64 x.x, .int .i64 x.y] 81 (0, 0))) (V2 : World) (hV2 : V.alloc (.cells #[.int .i64 x.op, .int .i64 x.lo, .int .i64 x.hi, .int .i64 x.x, .int .i64 x.y] 81) = V2) :
    ∃ a' L' c' W5, (Builtin.append_ #[44, 44] 44 #[v, .slice (some ⟨V.heap.size, 0, none⟩) 1 1]).run Tryd.prog V2 = .ok (.slice a' L' c') W5 ∧ InOwn W5 B (.slice a' L' c') (l ++ [x]) ∧ Below B V W5 := by
  have hb2 : Below V.heap.size V V2 := by rw [← hV2]; exact (Below.refl _ _).alloc (Nat.le_refl _) _
  have hnew : V2.heap[V.heap.size]? = some (.cells #[.int .i64 x.op, .int .i64 x.lo, .int .i64 x.hi, .int .i64 x.x, .int .i64 x.y] 81 (0, 0)) := by rw [← hV2]; exact heap_alloc_new V _
  have hv2 : InOwn V2 B v l := hv.below hb2 (Nat.le_refl _)
  obtain ⟨v', W5, hrun, ho, hb, hg⟩ := append_in V2 B v l hv2 (by have := hb2.size; omega) (by omega) x V.heap.size (fun j u hj => by
    rw [Addr.add_lit, Nat.zero_add]
    simp only [World.cell?, hnew]
    simpa [In.cs] using hj) 1
  obtain ⟨a', c', rfl⟩ := ho.slice
  exact ⟨_, _, _, W5, hrun, ho, (hb2.mono hB).trans hb⟩
set_option maxRecDepth 100000 in
set_option maxHeartbeats 32000000 in
theorem decode15 (W : World) (s : ByteArray) (hs : s.size ≤ 700000) (hE : EvO W) : Calls Tryd.prog 28 #[.string s] W (DecPost s.data.toList W) := by
  obtain ⟨S, hS⟩ : ∃ S, s.data.toList = S := ⟨_, rfl⟩
  have hSl : S.length = s.size := by rw [← hS]; simp
  have HCP := Lib.hid (fun w => cutmagic w s)
  have HSM := Lib.hid (fun w => sum_any w s (by omega))
  rw [hS] at HCP HSM ⊢
  have HE := Lib.hid hE
  have HSL := Lib.hid hSl
  obtain ⟨W1, hW1⟩ : ∃ W1, W.alloc (.cells #[.slice none 0 0, .int .i64 0, .int .i64 0] 46) = W1 := ⟨_, rfl⟩
  have hx1 : W1.heap[W.heap.size]? = some (.cells #[.slice none 0 0, .int .i64 0, .int .i64 0] 46 (0, 0)) := by rw [← hW1]; exact heap_alloc_new W _
  have hb1 : Below W.heap.size W W1 := by rw [← hW1]; exact (Below.refl _ _).alloc (Nat.le_refl _) _
  have hs1 : W1.heap.size = W.heap.size + 1 := by rw [← hW1]; simp
  obtain ⟨W2, hW2⟩ : ∃ W2, W1.alloc (.cells #[.slice none 0 0, .int .i64 0, .int .i64 0] 46) = W2 := ⟨_, rfl⟩
  have hx2 : W2.heap[W.heap.size]? = some (.cells #[.slice none 0 0, .int .i64 0, .int .i64 0] 46 (0, 0)) := by rw [← hW2]; exact (Below.heap_alloc _ _ _ (by omega)).trans hx1
  have hy2 : W2.heap[W1.heap.size]? = some (.cells #[.slice none 0 0, .int .i64 0, .int .i64 0] 46 (0, 0)) := by rw [← hW2]; exact heap_alloc_new W1 _
  have hb2 : Below W.heap.size W W2 := by rw [← hW2]; exact hb1.alloc (by omega) _
  have hs2 : W2.heap.size = W1.heap.size + 1 := by rw [← hW2]; simp
  obtain ⟨W3, hW3⟩ : ∃ W3, W2.alloc (.cells #[.int .i64 0] 3) = W3 := ⟨_, rfl⟩
  have hx3 : W3.heap[W.heap.size]? = some (.cells #[.slice none 0 0, .int .i64 0, .int .i64 0] 46 (0, 0)) := by rw [← hW3]; exact (Below.heap_alloc _ _ _ (by omega)).trans hx2
  have hy3 : W3.heap[W1.heap.size]? = some (.cells #[.slice none 0 0, .int .i64 0, .int .i64 0] 46 (0, 0)) := by rw [← hW3]; exact (Below.heap_alloc _ _ _ (by omega)).trans hy2
  have hz3 : W3.heap[W2.heap.size]? = some (.cells #[.int .i64 0] 3 (0, 0)) := by rw [← hW3]; exact heap_alloc_new W2 _
  have hb3 : Below W.heap.size W W3 := by rw [← hW3]; exact hb2.alloc (by omega) _
  have hs3 : W3.heap.size = W2.heap.size + 1 := by rw [← hW3]; simp
  have HW1 := Lib.hid hW1
  have HW2 := Lib.hid hW2
  have HW3 := Lib.hid hW3
  have HS := Lib.hid (And.intro hs1 (And.intro hs2 hs3))
  have HB3 := Lib.hid hb3
  have HX3 := Lib.hid hx3
  rw [hs1] at hy3
  rw [hs2, hs1] at hz3
  have HY3 := Lib.hid hy3
  have HZ3 := Lib.hid hz3
  have hmf : ∀ (fn : Fn) (first cap : Array Value) (w : World), (Instr.makeFunc fn first cap).run Tryd.prog w = .ok (.func fn first cap) w := fun _ _ _ _ => rfl
  clear hx1 hx2 hy2 hx3 hy3 hz3 hb1 hb2 hb3 hs1 hs2 hs3 hS hSl hW1 hW2 hW3 hE
  go_enter Tryd.func28, Tryd.ntmps28
  go_wp2
  refine wp_scope_jumps2 0 (DecJ W (decL S = none)) (fun _ _ => 0) rfl ?_ ?_
  · rintro a w ⟨u0, u1, u3, u4, u5, u6, u7, u8, u9, u10, u11, u12, u13, u14, u15, u16, u17, u18, u19, u20, u21, u22, u23, u24, u25, u26, u27, u28, u29, u30, u31, u32, u33, u34, u35, u36, u37, u38, u39, u40, u41, u42, u43, u44, u45, u46, u47, u48, u49, u50, u51, u52, u53, u54, u55, u56, u57, u58, u59, u60, u61, u62, u63, rfl, HJ⟩
    obtain ⟨⟨hx, hb⟩, hn⟩ := HJ.out
    have HX := Lib.hid hx
    have HB := Lib.hid hb
    have HN := Lib.hid hn
    have r0 : w.cell? ⟨W.heap.size, 0, none⟩ = some (.slice none 0 0) := blkp hx 0
    have r1 : w.cell? ⟨W.heap.size, 1, none⟩ = some (.int .i64 0) := blkp hx 1
    have r2 : w.cell? ⟨W.heap.size, 2, none⟩ = some (.int .i64 0) := blkp hx 2
    have f0 := frzp hx 0
    have f1 := frzp hx 1
    have f2 := frzp hx 2
    clear hx hb hn
    go_wp2
    simp only [Exit.jump]
    refine ret_box2 rfl W.heap.size #[.slice none 0 0, .int .i64 0, .int .i64 0] (load_prog (box3_set _ _ _ HX.out).2 rfl) rfl rfl ?_
    obtain ⟨g1, g2⟩ := box3_set (.slice none 0 0) (.int .i64 0) (.int .i64 0) HX.out
    exact ⟨.inr ⟨HN.out, rfl⟩, HB.out.grown g1 HB.out.size (fun j hj => by injection hj; omega)⟩
  · go_wp2_with fail
    rw [HW1.out, HW2.out, HW3.out]
    by_cases hm : S.take 3 = magicL
    · rw [if_pos hm, decide_eq_true hm] at HCP
      have HM := Lib.hid hm
      obtain ⟨T, hT⟩ : ∃ T, S.drop 3 = T := ⟨_, rfl⟩
      have hTl : T.length ≤ 700000 := by rw [← hT, List.length_drop]; have := HSL.out; omega
      rw [hT] at HCP
      have HT := Lib.hid hT
      obtain ⟨W4, hW4⟩ : ∃ W4, W3.alloc (.cells #[.string (txB T)] 107) = W4 := ⟨_, rfl⟩
      obtain ⟨R, hR⟩ : ∃ R, W3.heap.size = R := ⟨_, rfl⟩
      obtain ⟨q1, q2, q3⟩ := HS.out
      have hRB : R = W.heap.size + 3 := by omega
      have hx4 : W4.heap[W.heap.size]? = some (.cells #[.slice none 0 0, .int .i64 0, .int .i64 0] 46 (0, 0)) := by rw [← hW4]; exact (Below.heap_alloc _ _ _ (by omega)).trans HX3.out
      have hy4 : W4.heap[W.heap.size + 1]? = some (.cells #[.slice none 0 0, .int .i64 0, .int .i64 0] 46 (0, 0)) := by rw [← hW4]; exact (Below.heap_alloc _ _ _ (by omega)).trans HY3.out
      have hz4 : W4.heap[W.heap.size + 1 + 1]? = some (.cells #[.int .i64 0] 3 (0, 0)) := by rw [← hW4]; exact (Below.heap_alloc _ _ _ (by omega)).trans HZ3.out
      have hr4 : RdrAt W4 R T := by rw [← hW4, ← hR]; exact heap_alloc_new W3 _
      have hb4 : Below W.heap.size W W4 := by rw [← hW4]; exact HB3.out.alloc HB3.out.size _
      have hs4 : W4.heap.size = R + 1 := by rw [← hW4, ← hR]; simp
      obtain ⟨W5, hW5⟩ : ∃ W5, W4.alloc (.cells #[.pointer (some ⟨W.heap.size + 1, 1, none⟩), .pointer (some ⟨W.heap.size + 1, 2, none⟩), .pointer (some ⟨W.heap.size + 1 + 1, 0, none⟩)] 102) = W5 := ⟨_, rfl⟩
      have hx5 : W5.heap[W.heap.size]? = some (.cells #[.slice none 0 0, .int .i64 0, .int .i64 0] 46 (0, 0)) := by rw [← hW5]; exact (Below.heap_alloc _ _ _ (by omega)).trans hx4
      have hy5 : W5.heap[W.heap.size + 1]? = some (.cells #[.slice none 0 0, .int .i64 0, .int .i64 0] 46 (0, 0)) := by rw [← hW5]; exact (Below.heap_alloc _ _ _ (by omega)).trans hy4
      have hz5 : W5.heap[W.heap.size + 1 + 1]? = some (.cells #[.int .i64 0] 3 (0, 0)) := by rw [← hW5]; exact (Below.heap_alloc _ _ _ (by omega)).trans hz4
      have hr5 : RdrAt W5 R T := by rw [← hW5]; exact (Below.heap_alloc _ _ _ (by omega)).trans hr4
      have hb5 : Below W.heap.size W W5 := by rw [← hW5]; exact hb4.alloc (by omega) _
      have hs5 : W5.heap.size = R + 2 := by rw [← hW5]; simp; omega
      have hp5 : PtrRow W5 (some ⟨W4.heap.size, 0, none⟩) W4.heap.size [(W.heap.size + 1, 1), (W.heap.size + 1, 2), (W.heap.size + 1 + 1, 0)] := by rw [← hW5]; exact ptr_new (W := W4) (fun _ _ => trivial) rfl
      have HF := Lib.hid (fill_var W5 R T (some ⟨W4.heap.size, 0, none⟩) 3 3 W4.heap.size _ (by omega) hr5 rfl (by omega) hp5 (by
        intro p hp
        simp only [List.mem_cons, List.not_mem_nil, or_false] at hp
        rcases hp with rfl | rfl | rfl
        · exact ⟨⟨_, _, hy5, 0, rfl⟩, by dsimp only; omega, by dsimp only; omega⟩
        · exact ⟨⟨_, _, hy5, 0, rfl⟩, by dsimp only; omega, by dsimp only; omega⟩
        · exact ⟨⟨_, _, hz5, 0, rfl⟩, by dsimp only; omega, by dsimp only; omega⟩) (by omega))
      have HJ4 := fun h => Lib.hid (show DecW W W4 ∧ decL S = none from ⟨⟨hx4, hb4⟩, h⟩)
      have HX5 := Lib.hid hx5
      have HY5 := Lib.hid hy5
      have HZ5 := Lib.hid hz5
      have HB5 := Lib.hid hb5
      have HRB := Lib.hid hRB
      have HS5 := Lib.hid hs5
      have HWR := Lib.hid hR
      have HW5 := Lib.hid hW5
      clear q1 q2 q3 hx4 hy4 hz4 hr4 hb4 hs4 hx5 hy5 hz5 hr5 hb5 hs5 hp5 hm hT hRB
      by_cases hxo : xorL S = 0
      · have hxz : ((xorL S).toNat : Int) = 0 := by rw [hxo]; rfl
        rw [hxz] at HSM
        have HXO := Lib.hid hxo
        clear hxz hxo HJ4
        refine (HCP.out W3).mono ?_
        rintro e w ⟨rfl, rfl⟩
        go_wp2_with fail
        refine (HSM.out _).mono ?_
        rintro e w ⟨rfl, rfl⟩
        go_wp2_with fail
        refine HF.out.mono ?_
        rintro e w6 (⟨ns, r0, hns, rfl, hr6, hg6⟩ | ⟨hns, rfl, hb6⟩)
        · skip
          obtain ⟨hin1, hin2, hin3⟩ := (rdVs_iff _ _ _ _).1 hns
          obtain ⟨a1, a2, a3, rfl⟩ : ∃ a1 a2 a3, ns = [a1, a2, a3] := ⟨_, _, _, list3 hin1⟩
          have h1b := hin2 a1 (by simp)
          have h2b := hin2 a2 (by simp)
          have h3b := hin2 a3 (by simp)
          obtain ⟨m, rfl⟩ : ∃ m : Nat, a3 = (m : Int) := ⟨a3.toNat, by omega⟩
          have hm16 : m < 16384 := by omega
          have hr0l : r0.length ≤ 700000 := by have := congrArg List.length hin3; rw [List.length_append] at this; omega
          have hRB := HRB.out
          have hS5 := HS5.out
          obtain ⟨hP, hC⟩ := st3 (a1 := a1) (a2 := a2) (a3 := (m : Int)) HY5.out HZ5.out (by omega)
          have hst : ∀ j, j ≠ W.heap.size + 1 → j ≠ W.heap.size + 1 + 1 → (stL W5 [((W.heap.size + 1, 1), a1), ((W.heap.size + 1, 2), a2), ((W.heap.size + 1 + 1, 0), (m : Int))]).heap[j]? = W5.heap[j]? := fun j h1 h2 => stL_block _ _ _ (by
            intro p hp
            simp only [List.mem_cons, List.not_mem_nil, or_false] at hp
            rcases hp with rfl | rfl | rfl <;> dsimp only <;> omega)
          have hss := stL_size [((W.heap.size + 1, 1), a1), ((W.heap.size + 1, 2), a2), ((W.heap.size + 1 + 1, 0), (m : Int))] W5
          have hg6' : (stL W5 [((W.heap.size + 1, 1), a1), ((W.heap.size + 1, 2), a2), ((W.heap.size + 1 + 1, 0), (m : Int))]).grownBy w6 (some R) := hg6
          have hx6 : w6.heap[W.heap.size]? = some (.cells #[.slice none 0 0, .int .i64 0, .int .i64 0] 46 (0, 0)) := (hg6'.block _ (by rw [hss]; omega) (fun e => by injection e; omega)).trans ((hst _ (by omega) (by omega)).trans HX5.out)
          have hy6 : w6.heap[W.heap.size + 1]? = some (.cells #[.slice none 0 0, .int .i64 a1, .int .i64 a2] 46 (0, 0)) := (hg6'.block _ (by rw [hss]; omega) (fun e => by injection e; omega)).trans hP
          have hz6 : w6.heap[W.heap.size + 1 + 1]? = some (.cells #[.int .i64 (m : Int)] 3 (0, 0)) := (hg6'.block _ (by rw [hss]; omega) (fun e => by injection e; omega)).trans hC
          have hb6 : Below W.heap.size W w6 := HB5.out.trans ((stL_below _ W5 W.heap.size (by
            intro p hp
            simp only [List.mem_cons, List.not_mem_nil, or_false] at hp
            rcases hp with rfl | rfl | rfl <;> dsimp only <;> omega)).trans (below_grown hg6' (by omega) (by rw [hss]; omega)))
          have hs6 : R + 2 ≤ w6.heap.size := by have := hg6'.size; rw [hss] at this; omega
          have c6 : w6.cell? ⟨W.heap.size + 1 + 1, 0, none⟩ = some (.int .i64 (m : Int)) := blkp hz6 0
          have HNS : Hid (rdVs 3 (S.drop 3) = some ([a1, a2, (m : Int)], r0)) := Lib.hid (by rw [HT.out]; exact hns)
          have HB1 := Lib.hid (And.intro h1b h2b)
          have HX6 := Lib.hid hx6
          have HY6 := Lib.hid hy6
          have HB6 := Lib.hid hb6
          have HR6 := Lib.hid hr6
          have HR0L := Lib.hid hr0l
          have HMM := Lib.hid hm16
          clear hin1 hin2 hin3 h1b h2b h3b hm16 hRB hS5 hP hC hst hss hg6 hg6' hx6 hy6 hz6 hb6 hs6 hns hr6 hr0l hW4 hW5 hR hTl
          go_wp2
          clear c6
          go_loopw [9, 33] (fun Xv K wr => ∃ (k : Nat) (l : List In) (r : List UInt8) (v : Value), k ≤ m ∧ K = .int .i64 (k : Int) ∧ Hid (rdIs k r0 = some (l, r)) ∧ Hid (InOwn wr (R + 1) v l) ∧ Hid (wr.heap[W.heap.size]? = some (.cells #[.slice none 0 0, .int .i64 0, .int .i64 0] 46 (0, 0))) ∧ Hid (wr.heap[W.heap.size + 1]? = some (.cells #[v, .int .i64 a1, .int .i64 a2] 46 (0, 0))) ∧ Hid (RdrAt wr R r) ∧ Hid (Below W.heap.size W wr)) (fun Xv K _ => m - (intOf K).toNat)
          case atStart => exact ⟨0, [], r0, .slice none 0 0, by omega, rfl, Lib.hid rfl, Lib.hid (InOwn.nil _ _), HX6, HY6, HR6, HB6⟩
          case round =>
            obtain ⟨k, l, r, v, hk, rfl, HRD, HO, HX, HY, HRR, HB⟩ := hrel
            obtain ⟨hll, hrl⟩ := rdIs_len HRD.out
            have hRB := HRB.out
            have hm16 := HMM.out
            have hr0l := HR0L.out
            by_cases hlt : k < m
            · obtain ⟨X, hX⟩ : ∃ X, wr.heap.size = X := ⟨_, rfl⟩
              have hRX : R < X := by rw [← hX]; exact HRR.out.lt
              obtain ⟨V1, hV1⟩ : ∃ V1, wr.alloc (.cells #[.int .i64 0, .int .i64 0, .int .i64 0, .int .i64 0, .int .i64 0] 81) = V1 := ⟨_, rfl⟩
              have hs1 : V1.heap.size = X + 1 := by rw [← hV1, ← hX]; simp
              have hx1 : V1.heap[X]? = some (.cells #[.int .i64 0, .int .i64 0, .int .i64 0, .int .i64 0, .int .i64 0] 81 (0, 0)) := by rw [← hV1, ← hX]; exact heap_alloc_new wr _
              obtain ⟨V2, hV2⟩ : ∃ V2, V1.alloc (.cells #[.pointer (some ⟨X, 0, none⟩)] 102) = V2 := ⟨_, rfl⟩
              have hs2 : V2.heap.size = X + 2 := by rw [← hV2]; simp; omega
              have hx2 : V2.heap[X]? = some (.cells #[.int .i64 0, .int .i64 0, .int .i64 0, .int .i64 0, .int .i64 0] 81 (0, 0)) := by rw [← hV2]; exact (Below.heap_alloc _ _ _ (by omega)).trans hx1
              have hold2 : ∀ j, j < X → V2.heap[j]? = wr.heap[j]? := fun j hj => by rw [← hV2, ← hV1]; exact (Below.heap_alloc _ _ _ (by simp; omega)).trans (Below.heap_alloc _ _ _ (by omega))
              have hb2 : Below W.heap.size W V2 := by
                rw [← hV2, ← hV1]
                exact (HB.out.alloc HB.out.size _).alloc (by have := HB.out.size; simp; omega) _
              have hp2 : PtrRow V2 (some ⟨V1.heap.size, 0, none⟩) V1.heap.size [(X, 0)] := by rw [← hV2]; exact ptr_new (W := V1) (fun _ _ => trivial) rfl
              have hr2 : RdrAt V2 R r := (hold2 R hRX).trans HRR.out
              have HF1 := Lib.hid (fill_oct V2 R X r V1.heap.size 1 (by omega) hr2 hp2 ⟨_, _, hx2, 0, rfl⟩ (by omega) (by omega) (by omega))
              have HXX := Lib.hid hX
              have HSN := Lib.hid (rdIs_snoc k r0 l r HRD.out)
              have HMO := Lib.hid (rdIs_more (k + 1) m r0 (by omega))
              have HNO : Hid (rdIs m r0 = none → decL S = none) := Lib.hid (fun h => dec_no4 HNS.out (by rw [Int.toNat_natCast]; exact h))
              have HX2 := Lib.hid ((hold2 _ (by omega)).trans HX.out)
              have HB2 := Lib.hid hb2
              have HOLD2 := Lib.hid hold2
              have HS2 := Lib.hid hs2
              have HXI2 := Lib.hid hx2
              have HRX := Lib.hid hRX
              clear hs1 hx1 hs2 hx2 hold2 hb2 hp2 hr2 hRX hRB hrl hll hm16 hr0l
              go_wp2_with fail
              refine HF1.out.mono ?_
              rintro e w7 (⟨c, r1, rfl, rfl, hr7, hg7⟩ | ⟨rfl, rfl, rfl⟩)
              · have hRX := HRX.out
                have hRB := HRB.out
                have hs2 := HS2.out
                have hx7 : w7.heap[X]? = some (.cells #[.int .i64 (c.toNat : Int), .int .i64 0, .int .i64 0, .int .i64 0, .int .i64 0] 81 (0, 0)) := by
                  refine (hg7.block X (by rw [set_size]; omega) (fun e => by injection e; omega)).trans ?_
                  have := heap_setCell_same V2 X 0 _ _ (.int .i64 (c.toNat : Int)) HXI2.out
                  simpa using this
                have hold7 : ∀ j, j < X → j ≠ R → w7.heap[j]? = wr.heap[j]? := fun j hj hne => (hg7.block j (by rw [set_size]; omega) (fun e => hne (Option.some.inj e))).trans ((Below.heap_setCell _ _ _ _ (by show j ≠ X; omega)).trans (HOLD2.out j hj))
                have hb7 : Below W.heap.size W w7 := HB2.out.trans ((below_set _ (by omega)).trans (below_grown hg7 (by omega) (by rw [set_size]; omega)))
                have hs7 : X + 2 ≤ w7.heap.size := by have := hg7.size; rw [set_size] at this; omega
                have HOWN := Lib.hid (ownp_any w7 X (c.toNat : Int) 0 0 0 0 hx7)
                have HX7 := Lib.hid hx7
                have HOLD7 := Lib.hid hold7
                have HB7 := Lib.hid hb7
                have HS7 := Lib.hid hs7
                have HR7 := Lib.hid hr7
                clear hg7 hx7 hold7 hb7 hs7 hr7 hs2 hRX hRB
                go_wp2_with fail
                refine HOWN.out.mono ?_
                rintro e w8 ⟨a8, n8, c8, b8, rfl, hn8, hb8, hp8, hbb8⟩
                have hRX := HRX.out
                have hRB := HRB.out
                have hs7 := HS7.out
                have hs8 := hbb8.size
                have hx8 : w8.heap[X]? = some (.cells #[.int .i64 (c.toNat : Int), .int .i64 0, .int .i64 0, .int .i64 0, .int .i64 0] 81 (0, 0)) := (hbb8.block _ (by omega)).trans HX7.out
                have hr8 : RdrAt w8 R r1 := (hbb8.block _ (by omega)).trans HR7.out
                have hr1l : r1.length ≤ 700000 := by
                  have h1 := (rdIs_len HRD.out).2
                  have h2 := HR0L.out
                  rw [List.length_cons] at h1
                  omega
                have hpls : ∀ p ∈ plL X (c.toNat : Int), PlAt w8 p.1 p.2 ∧ R ≠ p.1 ∧ b8 ≠ p.1 := by
                  intro p hp
                  unfold plL at hp
                  obtain ⟨q, hq, rfl⟩ := List.mem_map.1 hp
                  have hq5 : q = 1 ∨ q = 2 ∨ q = 3 ∨ q = 4 := by
                    unfold offL at hq
                    (repeat' split at hq) <;> simp at hq <;> omega
                  refine ⟨⟨_, _, hx8, 0, ?_⟩, by dsimp only; omega, by dsimp only; omega⟩
                  dsimp only
                  rcases hq5 with rfl | rfl | rfl | rfl <;> rfl
                have HF2 := Lib.hid (fill_var w8 R r1 a8 n8 c8 b8 (plL X (c.toNat : Int)) (by omega) hr8 (by rw [pl_len, hn8]) (by rw [hn8]; have := own_le3 (c.toNat : Int); omega) hp8 hpls (by omega))
                have HOLD8 : Hid (∀ j, j < X → j ≠ R → w8.heap[j]? = wr.heap[j]?) := Lib.hid (fun j hj hne => (hbb8.block j (by omega)).trans (HOLD7.out j hj hne))
                have HB8 := Lib.hid (HB7.out.trans (hbb8.mono (by omega)))
                have HX8 := Lib.hid hx8
                have HS8 : Hid (X + 2 ≤ w8.heap.size) := Lib.hid (by omega)
                clear hn8 hb8 hp8 hbb8 hRX hRB hs7 hs8 hx8 hr8 hpls hr1l
                go_wp2_with fail
                refine HF2.out.mono ?_
                rintro e w9 (⟨ns, r2, hns, rfl, hr9, hg9⟩ | ⟨hns, rfl, hb9⟩)
                · rw [pl_len] at hns
                  have hRX := HRX.out
                  have hRB := HRB.out
                  have hs8 := HS8.out
                  have hss := stL_size ((plL X (c.toNat : Int)).zip ns) w8
                  have hzip : ∀ q ∈ (plL X (c.toNat : Int)).zip ns, q.1.1 = X := fun q hq => by
                    have := (List.of_mem_zip hq).1
                    unfold plL at this
                    obtain ⟨z, _, hz⟩ := List.mem_map.1 this
                    rw [← hz]
                  have hx9 := (hg9.block X (by rw [hss]; omega) (fun e => by injection e; omega)).trans (st_own HX8.out (rdVs_len hns).2)
                  have hold9 : ∀ j, j < X → j ≠ R → w9.heap[j]? = wr.heap[j]? := fun j hj hne => (hg9.block j (by rw [hss]; omega) (fun e => hne (Option.some.inj e))).trans ((stL_block _ _ _ (fun q hq => by rw [hzip q hq]; omega)).trans (HOLD8.out j hj hne))
                  have hb9 : Below W.heap.size W w9 := HB8.out.trans ((stL_below _ _ _ (fun q hq => by rw [hzip q hq]; omega)).trans (below_grown hg9 (by omega) (by rw [hss]; omega)))
                  have hs9 : X + 2 ≤ w9.heap.size := by have := hg9.size; rw [hss] at this; omega
                  have hri : rdI (c :: r1) = some (mkIn (c.toNat : Int) ns, r2) := by
                    show (match rdVs (ownN (c.toNat : Int)) r1 with
                      | none => none
                      | some (ns, r2) => some (mkIn (c.toNat : Int) ns, r2)) = _
                    rw [hns]
                  have HRD9 : Hid (rdIs (k + 1) r0 = some (l ++ [mkIn (c.toNat : Int) ns], r2)) := Lib.hid (by rw [HSN.out, hri])
                  obtain ⟨i, hi⟩ : ∃ i, mkIn (c.toNat : Int) ns = i := ⟨_, rfl⟩
                  rw [hi] at hx9 HRD9
                  have ho9 : InOwn w9 (R + 1) v l := InOwn.of HO.out (fun g hg => hold9 g (by have := (InOwn.lt HO.out g hg).2; have := HXX.out; omega) (by have := (InOwn.lt HO.out g hg).1; omega))
                  have hy9 := (hold9 (W.heap.size + 1) (by omega) (by omega)).trans HY.out
                  have hz9 := (hold9 W.heap.size (by omega) (by omega)).trans HX.out
                  obtain ⟨V10, hV10⟩ : ∃ V10, w9.alloc (.cells #[.int .i64 i.op, .int .i64 i.lo, .int .i64 i.hi, .int .i64 i.x, .int .i64 i.y] 81) = V10 := ⟨_, rfl⟩
                  obtain ⟨a', L', c', W11, hrun, ho11, hb11⟩ := dec_run (n0 := 0) (a1 := a1) (a2 := a2) (W := W) ho9 (by omega) (by have := (rdIs_len HRD.out).1; have := HMM.out; omega) X hx9 V10 hV10
                  have d0 : w9.cell? ⟨W.heap.size + 1, 0, none⟩ = some v := blkp hy9 0
                  have x0 := blkp hx9 0
                  have x1 := blkp hx9 1
                  have x2 := blkp hx9 2
                  have x3 := blkp hx9 3
                  have x4 := blkp hx9 4
                  simp only [List.getElem?_toArray, List.getElem?_cons_zero, List.getElem?_cons_succ] at x0 x1 x2 x3 x4
                  have hy11 : W11.heap[W.heap.size + 1]? = some (.cells #[v, .int .i64 a1, .int .i64 a2] 46 (0, 0)) := (hb11.block _ (by omega)).trans hy9
                  have y0 : W11.cell? ⟨W.heap.size + 1, 0, none⟩ = some v := blkp hy11 0
                  have yf := frzp hy11 0
                  obtain ⟨W12, hW12⟩ : ∃ W12, W11.setCell ⟨W.heap.size + 1, 0, none⟩ (.slice a' L' c') = W12 := ⟨_, rfl⟩
                  have hother : ∀ j, j ≠ W.heap.size + 1 → W12.heap[j]? = W11.heap[j]? := fun j hj => by rw [← hW12]; exact Below.heap_setCell _ _ _ _ hj
                  have HO12 : Hid (InOwn W12 (R + 1) (.slice a' L' c') (l ++ [i])) := Lib.hid (InOwn.of ho11 (fun g hg => hother g (by have := (InOwn.lt ho11 g hg).1; omega)))
                  have HX12 : Hid (W12.heap[W.heap.size]? = some (.cells #[.slice none 0 0, .int .i64 0, .int .i64 0] 46 (0, 0))) := Lib.hid ((hother _ (by omega)).trans ((hb11.block _ (by omega)).trans hz9))
                  have HY12 : Hid (W12.heap[W.heap.size + 1]? = some (.cells #[.slice a' L' c', .int .i64 a1, .int .i64 a2] 46 (0, 0))) := Lib.hid (by
                    rw [← hW12]
                    have := heap_setCell_same W11 (W.heap.size + 1) 0 _ _ (.slice a' L' c') hy11
                    simpa using this)
                  have HR12 : Hid (RdrAt W12 R r2) := Lib.hid ((hother _ (by omega)).trans ((hb11.block _ (by omega)).trans hr9))
                  have HB12 : Hid (Below W.heap.size W W12) := Lib.hid (by
                    rw [← hW12]
                    exact (hb9.trans (hb11.mono (by omega))).trans (below_set _ (by omega)))
                  have HRUN := Lib.hid hrun
                  have HV10 := Lib.hid hV10
                  have hWs : W.heap.size + 1 < w9.heap.size := by omega
                  have hXs : X < w9.heap.size := by omega
                  have hm17 := HMM.out
                  clear hi hri hns hr9 hg9 hss hzip hx9 hold9 hb9 hs9 ho9 hy9 hz9 hV10 hrun ho11 hb11 hy11 hother hRX hRB hs8
                  go_wp2_with (at_builtin; (rw [HV10.out]; refine wpList_append_run rfl _ _ 44 rfl _ _ _ W11 rfl rfl HRUN.out ?_))
                  go_wp2
                  go_roundw
                  case rel => first | exact ⟨k + 1, _, _, _, by omega, by go_num, HRD9, HO12, HX12, HY12, HR12, HB12⟩ | ((repeat apply Exists.intro); exact ⟨⟨k + 1, _, _, _, by omega, by go_num, HRD9, HO12, HX12, HY12, HR12, HB12⟩, rfl⟩)
                  case measure => simp [intOf]; omega
                · rw [pl_len] at hns
                  have hri : rdI (c :: r1) = none := by
                    show (match rdVs (ownN (c.toNat : Int)) r1 with
                      | none => none
                      | some (ns, r2) => some (mkIn (c.toNat : Int) ns, r2)) = _
                    rw [hns]
                  have HJ9 : Hid (DecW W w9 ∧ decL S = none) := Lib.hid (by
                    have hRX := HRX.out
                    have hRB := HRB.out
                    have hbb := hb9 (W.heap.size + 1) (by omega) (fun p hp => by
                      unfold plL at hp
                      obtain ⟨z, _, rfl⟩ := List.mem_map.1 hp
                      dsimp only; omega)
                    exact ⟨⟨(hbb.block _ (by omega)).trans ((HOLD8.out _ (by omega) (by omega)).trans HX.out), HB8.out.trans (hbb.mono (by omega))⟩, HNO.out (HMO.out (by rw [HSN.out, hri]))⟩)
                  clear hns hb9 hri
                  go_wp2
                  go_step3
                  exact ⟨rfl, _, _, _, _, _, _, _, _, _, _, _, _, _, _, _, _, _, _, _, _, _, _, _, _, _, _, _, _, _, _, _, _, _, _, _, _, _, _, _, _, _, _, _, _, _, _, _, _, _, _, _, _, _, _, _, _, _, _, _, _, _, _, _, rfl, HJ9⟩
              · have HJ2 : Hid (DecW W V2 ∧ decL S = none) := Lib.hid ⟨⟨HX2.out, HB2.out⟩, HNO.out (HMO.out (by rw [HSN.out]; rfl))⟩
                go_wp2
                go_step3
                exact ⟨rfl, _, _, _, _, _, _, _, _, _, _, _, _, _, _, _, _, _, _, _, _, _, _, _, _, _, _, _, _, _, _, _, _, _, _, _, _, _, _, _, _, _, _, _, _, _, _, _, _, _, _, _, _, _, _, _, _, _, _, _, _, _, _, _, rfl, HJ2⟩
            · obtain rfl : k = m := by omega
              have hz : r.length = 1 ∨ ¬ r.length = 1 := Classical.em _
              have HDI := Lib.hid (dec_is HM.out HXO.out HNS.out (by rw [Int.toNat_natCast]; exact HRD.out))
              have hsz : (txB r).size = r.length := txB_size r
              have cr : wr.cell? ⟨R, 0, none⟩ = some (.string (txB r)) := blkp HRR.out 0
              have p0 : wr.cell? ⟨W.heap.size + 1, 0, none⟩ = some v := blkp HY.out 0
              have p1 : wr.cell? ⟨W.heap.size + 1, 1, none⟩ = some (.int .i64 a1) := blkp HY.out 1
              have p2 : wr.cell? ⟨W.heap.size + 1, 2, none⟩ = some (.int .i64 a2) := blkp HY.out 2
              obtain ⟨TR, hTR⟩ : ∃ TR, txB r = TR := ⟨_, rfl⟩
              rw [hTR] at cr hsz
              have HCK := Lib.hid (check_any l a1 a2 v wr (HO.out.row (by omega) (rdIs_bd _ _ _ _ HRD.out)) (HE.out.below (Nat.le_refl _) HB.out))
              have HLL := Lib.hid hll
              clear hrl hm16 hr0l hTR hll hRB
              rcases hz with hz | hz
              · rw [hz] at hsz
                have hsz2 : (TR.size : Int) = 1 := by omega
                by_cases hok : Ok l a1 a2
                · rw [if_pos ⟨hz, hok⟩] at HDI
                  rw [chk_ok hok] at HCK
                  clear hok hz
                  go_wp2_with fail
                  refine HCK.out.mono ?_
                  rintro e wz ⟨rfl, hbz⟩
                  have hRB2 := HRB.out
                  have hsB := HB.out.size
                  have hyz := (hbz.block _ (Array.getElem?_eq_some_iff.1 HY.out).1).trans HY.out
                  have hxz := (hbz.block _ (Array.getElem?_eq_some_iff.1 HX.out).1).trans HX.out
                  have hoz := HO.out.below hbz (Nat.le_refl _)
                  obtain ⟨a9, c9, e9⟩ := hoz.slice
                  obtain ⟨L9, hL9⟩ : ∃ L9, l.length = L9 := ⟨_, rfl⟩
                  rw [hL9] at e9
                  subst e9
                  have z0 : wz.cell? ⟨W.heap.size + 1, 0, none⟩ = some (.slice a9 L9 c9) := blkp hyz 0
                  have z1 : wz.cell? ⟨W.heap.size + 1, 1, none⟩ = some (.int .i64 a1) := blkp hyz 1
                  have z2 : wz.cell? ⟨W.heap.size + 1, 2, none⟩ = some (.int .i64 a2) := blkp hyz 2
                  have r0' : wz.cell? ⟨W.heap.size, 0, none⟩ = some (.slice none 0 0) := blkp hxz 0
                  have r1' : wz.cell? ⟨W.heap.size, 1, none⟩ = some (.int .i64 0) := blkp hxz 1
                  have r2' : wz.cell? ⟨W.heap.size, 2, none⟩ = some (.int .i64 0) := blkp hxz 2
                  have f0 := frzp hxz 0
                  have f1 := frzp hxz 1
                  have f2 := frzp hxz 2
                  have HXZ := Lib.hid hxz
                  have HBZ := Lib.hid (HB.out.trans (hbz.mono hsB))
                  have HOZ := Lib.hid hoz
                  clear hbz hyz hxz hoz hL9 cr p0 p1 p2 hRB2 hsB
                  go_wp2
                  simp only [Exit.jump]
                  refine ret_box2 rfl W.heap.size #[.slice a9 L9 c9, .int .i64 a1, .int .i64 a2] (load_prog (box3_set _ _ _ HXZ.out).2 rfl) rfl rfl ?_
                  obtain ⟨g1, g2⟩ := box3_set (.slice a9 L9 c9) (.int .i64 a1) (.int .i64 a2) HXZ.out
                  refine ⟨.inl ⟨_, l, a1, a2, HDI.out, rfl, ?_⟩, HBZ.out.grown g1 HBZ.out.size (fun j hj => by injection hj; omega)⟩
                  have hRB2 := HRB.out
                  exact InOwn.mono (InOwn.of HOZ.out (fun g hg => by
                    have h1 := (InOwn.lt HOZ.out g hg).1
                    have h2 := (InOwn.lt HOZ.out g hg).2
                    exact g1.block g h2 (fun e => by injection e; omega))) (by omega)
                · rw [if_neg (fun h => hok h.2)] at HDI
                  rw [chk_not hok] at HCK
                  clear hok hz
                  go_wp2_with fail
                  refine HCK.out.mono ?_
                  rintro e wz ⟨rfl, hbz⟩
                  have HJZ : Hid (DecW W wz ∧ decL S = none) := Lib.hid ⟨⟨(hbz.block _ (Array.getElem?_eq_some_iff.1 HX.out).1).trans HX.out, HB.out.trans (hbz.mono HB.out.size)⟩, HDI.out⟩
                  clear hbz
                  go_wp2
                  go_step3
                  exact ⟨rfl, _, _, _, _, _, _, _, _, _, _, _, _, _, _, _, _, _, _, _, _, _, _, _, _, _, _, _, _, _, _, _, _, _, _, _, _, _, _, _, _, _, _, _, _, _, _, _, _, _, _, _, _, _, _, _, _, _, _, _, _, _, _, _, rfl, HJZ⟩
              · rw [if_neg (fun h => hz h.1)] at HDI
                have hsz2 : ¬ (TR.size : Int) = 1 := by omega
                have hsz3 : ((TR.size : Int) == 1) = false := by rw [beq_eq_false_iff_ne]; exact hsz2
                have hsz4 : ¬ TR.size = 1 := by omega
                have hsz5 : (TR.size == 1) = false := by rw [beq_eq_false_iff_ne]; exact hsz4
                have HJY : Hid (DecW W wr ∧ decL S = none) := Lib.hid ⟨⟨HX.out, HB.out⟩, HDI.out⟩
                clear hz hsz
                go_wp2
                go_step3
                exact ⟨rfl, _, _, _, _, _, _, _, _, _, _, _, _, _, _, _, _, _, _, _, _, _, _, _, _, _, _, _, _, _, _, _, _, _, _, _, _, _, _, _, _, _, _, _, _, _, _, _, _, _, _, _, _, _, _, _, _, _, _, _, _, _, _, _, rfl, HJY⟩
        · have HJ6 : Hid (DecW W w6 ∧ decL S = none) := Lib.hid (by
            have hbb := hb6 (W.heap.size + 1) (by rw [HRB.out]; omega) (by
              intro p hp
              simp only [List.mem_cons, List.not_mem_nil, or_false] at hp
              rcases hp with rfl | rfl | rfl <;> dsimp only <;> omega)
            exact ⟨⟨(hbb.block _ (by omega)).trans HX5.out, HB5.out.trans (hbb.mono (by omega))⟩, dec_no3 (by rw [HT.out]; exact hns)⟩)
          clear hns hb6
          go_wp2
          go_step3
          exact ⟨rfl, _, _, _, _, _, _, _, _, _, _, _, _, _, _, _, _, _, _, _, _, _, _, _, _, _, _, _, _, _, _, _, _, _, _, _, _, _, _, _, _, _, _, _, _, _, _, _, _, _, _, _, _, _, _, _, _, _, _, _, _, _, _, _, rfl, HJ6⟩
      · have HJ4 := HJ4 (dec_no2 hxo)
        have hxn : (((xorL S).toNat : Int) == 0) = false := by
          rw [beq_eq_false_iff_ne]
          intro e
          exact hxo (UInt8.toNat_inj.1 (by show _ = 0; omega))
        have hxn2 : ¬ ((xorL S).toNat : Int) = 0 := by rw [beq_eq_false_iff_ne] at hxn; exact hxn
        obtain ⟨z, hz⟩ : ∃ z, ((xorL S).toNat : Int) = z := ⟨_, rfl⟩
        rw [hz] at hxn hxn2 HSM
        clear hxo hz
        refine (HCP.out W3).mono ?_
        rintro e w ⟨rfl, rfl⟩
        go_wp2_with fail
        refine (HSM.out _).mono ?_
        rintro e w ⟨rfl, rfl⟩
        go_wp2
        go_step3
        exact ⟨rfl, _, _, _, _, _, _, _, _, _, _, _, _, _, _, _, _, _, _, _, _, _, _, _, _, _, _, _, _, _, _, _, _, _, _, _, _, _, _, _, _, _, _, _, _, _, _, _, _, _, _, _, _, _, _, _, _, _, _, _, _, _, _, _, rfl, HJ4⟩
    · have hnone := dec_no1 hm
      rw [if_neg hm, decide_eq_false hm] at HCP
      obtain ⟨W4, hW4⟩ : ∃ W4, W3.alloc (.cells #[.string s] 107) = W4 := ⟨_, rfl⟩
      have HJ : Hid (DecW W W4 ∧ decL S = none) := Lib.hid ⟨⟨by rw [← hW4]; exact (Below.heap_alloc _ _ _ (by have := HS.out; omega)).trans HX3.out, by rw [← hW4]; exact HB3.out.alloc HB3.out.size _⟩, hnone⟩
      clear hnone hm
      refine (HCP.out W3).mono ?_
      rintro e w ⟨rfl, rfl⟩
      go_wp2
      go_step3
      exact ⟨rfl, _, _, _, _, _, _, _, _, _, _, _, _, _, _, _, _, _, _, _, _, _, _, _, _, _, _, _, _, _, _, _, _, _, _, _, _, _, _, _, _, _, _, _, _, _, _, _, _, _, _, _, _, _, _, _, _, _, _, _, _, _, _, _, rfl, HJ⟩
end Pgm
end Go.Proofs.YtfnimmbmcjgdpaaDoor
