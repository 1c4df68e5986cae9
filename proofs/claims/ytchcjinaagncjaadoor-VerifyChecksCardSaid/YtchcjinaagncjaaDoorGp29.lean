/- burinref16: Reached. -/
import Derived.Test.YtchcjinaagncjaaDoorGp25
import Derived.Test.YtchcjinaagncjaaDoorGp20
import Derived.Deep.LoopGhost
namespace Go.Proofs.YtchcjinaagncjaaDoor
open Go.RowKit
set_option linter.unusedVariables false
set_option linter.unusedSimpArgs false
namespace Pgm
/-- What the reference's list holds while its place i is looked at. -/
structure RF (l : List In) (s : Nat) (L : List Nat) (i : Nat) : Prop where
  nd : L.Nodup
  lt : ∀ j ∈ L, j < l.length
  snd : ∀ j ∈ L, Rch l s j
  st : s ∈ L
  cls : ∀ k (hk : k < L.length), k < i → ∀ t ∈ tin l L[k], t ∈ L
theorem RF.len {l : List In} {s : Nat} {L : List Nat} {i : Nat} (h : RF l s L i) : L.length ≤ l.length := by
  have := nodup_le (M := List.range l.length) h.nd fun j hj => List.mem_range.2 (h.lt j hj)
  simpa using this
theorem RF.start {l : List In} {s : Nat} (hs : s < l.length) : RF l s [s] 0 := by
  refine ⟨by simp, fun j hj => ?_, fun j hj => ?_, by simp, fun k hk h => absurd h (Nat.not_lt_zero _)⟩
  · rw [List.mem_singleton] at hj; omega
  · rw [List.mem_singleton] at hj; subst hj; exact .start
theorem RF.more {l : List In} {s : Nat} {L : List Nat} {i : Nat} (hT : Tg l) (h : RF l s L i) {x t : Nat} (hi : i ≤ L.length) (hx : x ∈ L) (ht : t ∈ tin l x) (hn : t ∉ L) : RF l s (L ++ [t]) i := by
  refine ⟨?_, fun j hj => ?_, fun j hj => ?_, by simp [h.st], fun k hk hki u hu => ?_⟩
  · rw [List.nodup_append]
    refine ⟨h.nd, by simp, ?_⟩
    intro a ha b hb
    rw [List.mem_singleton] at hb
    subst hb
    exact fun e => hn (e ▸ ha)
  · rcases List.mem_append.1 hj with h9 | h9
    · exact h.lt j h9
    · rw [List.mem_singleton] at h9; subst h9; exact tin_lt hT ht
  · rcases List.mem_append.1 hj with h9 | h9
    · exact h.snd j h9
    · rw [List.mem_singleton] at h9; subst h9; exact .step (h.snd x hx) ht
  · have hkl : k < L.length := by omega
    rw [List.getElem_append_left hkl] at hu
    exact List.mem_append.2 (.inl (h.cls k hkl hki u hu))
theorem RF.next {l : List In} {s : Nat} {L : List Nat} {i : Nat} (h : RF l s L i) (hi : i < L.length) (ha : ∀ t ∈ tin l L[i], t ∈ L) : RF l s L (i + 1) :=
  ⟨h.nd, h.lt, h.snd, h.st, fun k hk hki u hu => by
    rcases Nat.lt_or_ge k i with h9 | h9
    · exact h.cls k hk h9 u hu
    · obtain rfl : k = i := by omega
      exact ha u hu⟩
theorem RF.fin {l : List In} {s : Nat} {L : List Nat} (h : RF l s L L.length) (i : Nat) : i ∈ L ↔ Rch l s i := by
  refine ⟨h.snd i, fun hr => ?_⟩
  induction hr with
  | start => exact h.st
  | step _ ht ih =>
    obtain ⟨k, hk, e⟩ := List.mem_iff_getElem.1 ih
    exact h.cls k hk hk _ (e ▸ ht)
theorem ld_tin {l : List In} (hT : Tg l) {k : Nat} (hk : k < l.length) {q : Nat} (hq : q < (ldL l[k]).length) : ∃ t : Nat, (ldL l[k])[q] = (t : Int) ∧ t < l.length ∧ t ∈ tin l k := by
  have hm := (ldL_mem l[k] _).1 (List.getElem_mem hq)
  obtain ⟨h1, h2⟩ := hT _ (List.getElem_mem hk) _ hm
  refine ⟨(ldL l[k])[q].toNat, by omega, by omega, ?_⟩
  rw [tin_at hk]
  exact List.mem_map.2 ⟨_, hm, rfl⟩
theorem tin_ld {l : List In} (hT : Tg l) {k : Nat} (hk : k < l.length) {t : Nat} (h : t ∈ tin l k) : ∃ q, ∃ hq : q < (ldL l[k]).length, (ldL l[k])[q] = (t : Int) := by
  rw [tin_at hk] at h
  obtain ⟨z, h1, h2⟩ := List.mem_map.1 h
  obtain ⟨q, hq, e⟩ := List.mem_iff_getElem.1 ((ldL_mem l[k] z).2 h1)
  have := hT _ (List.getElem_mem hk) z h1
  exact ⟨q, hq, by rw [e]; omega⟩
set_option maxRecDepth 100000 in
set_option maxHeartbeats 8000000 in
theorem rreached_any (l : List In) (s : Nat) (sl : Int) (vs : Value) (W : World) (hr : InRow W vs l) (hT : Tg l) (hn4 : l.length ≤ 4000) (hs : s < l.length) :
    Calls Tryd.prog 31 #[.agg #[vs, .int .i64 (s : Int), .int .i64 sl]] W fun e w' => ∃ v, e = .returned v ∧ IOwn w' W.heap.size v ((rchL l s).map Int.ofNat) ∧ Below W.heap.size W w' := by
  have HRW : Hid (∀ w, Below W.heap.size W w → InRow w vs l) := Lib.hid (fun w h => hr.below (Nat.le_refl _) h)
  obtain ⟨a, cap, rfl, hlm, hbd, hcc⟩ := hr
  obtain ⟨n, hn⟩ : ∃ n, l.length = n := ⟨_, rfl⟩
  obtain ⟨W1, hW1⟩ : ∃ W1, W.alloc (.cells #[.slice a n cap, .int .i64 (s : Int), .int .i64 sl] 46) = W1 := ⟨_, rfl⟩
  have hx1 : W1.heap[W.heap.size]? = some (.cells #[.slice a n cap, .int .i64 (s : Int), .int .i64 sl] 46 (0, 0)) := by rw [← hW1]; exact heap_alloc_new W _
  have hb1 : Below W.heap.size W W1 := by rw [← hW1]; exact (Below.refl _ _).alloc (Nat.le_refl _) _
  have hs1 : W1.heap.size = W.heap.size + 1 := by rw [← hW1]; simp
  obtain ⟨W2, hW2⟩ : ∃ W2, W1.alloc (.cells #[.int .i64 (s : Int)] 3) = W2 := ⟨_, rfl⟩
  have hb2 : Below W1.heap.size W1 W2 := by rw [← hW2]; exact (Below.refl _ _).alloc (Nat.le_refl _) _
  have ho2 : IOwn W2 W.heap.size (.slice (some ⟨W.heap.size + 1, 0, none⟩) 1 1) ([s].map Int.ofNat) := by
    have := World.ownsRow_lit (base := W.heap.size) (e := 3) (size := 1) W1 #[.int .i64 (s : Int)] 1 hb1.size (by unfold maxLen; omega) (by simp)
    rw [hW2, hs1] at this
    exact this
  have hx2 := (hb2.block W.heap.size (by omega)).trans hx1
  have c0 := blkp hx1 0
  have c1 := blkp hx1 1
  simp only [List.getElem?_toArray, List.getElem?_cons_zero, List.getElem?_cons_succ] at c0 c1
  rw [hn] at HRW
  have HX2 := Lib.hid hx2
  have HB2 := Lib.hid (hb1.trans (hb2.mono hb1.size))
  have HW1 := Lib.hid hW1
  have HW2 := Lib.hid hW2
  have HO2 := Lib.hid ho2
  have HN := Lib.hid hn
  have HT := Lib.hid hT
  have HSL := Lib.hid hs
  have HRF := Lib.hid (RF.start hs)
  have hnb : n ≤ 4000 := by omega
  have n0 : (0 : Int) ≤ (n : Int) := by omega
  rw [hn]
  clear hW1 hW2 hx1 hx2 hb1 hb2 hs1 ho2 hcc hbd hT hlm hs hn4 hn
  go_enter Tryd.func31, Tryd.ntmps31
  go_wp2
  rw [HW1.out, HW2.out]
  clear c0 c1
  obtain ⟨B, hB⟩ : ∃ B, W.heap.size = B := ⟨_, rfl⟩
  have HBS := Lib.hid hB
  rw [hB] at HO2 HX2 HB2 HRW
  rw [hB]
  clear hB
  go_loopg [3, 4] n (fun N V K wr => ∃ (L : List Nat) (m i : Nat), Hid (L.length = m) ∧ i ≤ m ∧ m ≤ n ∧ N = n - i ∧ K = .int .i64 (i : Int) ∧ Hid (RF l s L i) ∧ (∃ a c, V = .slice a m c) ∧ Hid (IOwn wr B V (L.map Int.ofNat)) ∧ Hid (wr.heap[B]? = some (.cells #[.slice a n cap, .int .i64 (s : Int), .int .i64 sl] 46 (0, 0))) ∧ Hid (Below B W wr))
  case atStart => exact ⟨[s], 1, 0, Lib.hid rfl, by omega, by have := HSL.out; rw [HN.out] at this; omega, rfl, rfl, HRF, ⟨_, _, rfl⟩, HO2, HX2, HB2⟩
  case round =>
    obtain ⟨L, m, i, HM, him, hmn, rfl, rfl, HRF, ⟨av, cv, rfl⟩, HO, HX, HB⟩ := hrel
    obtain ⟨wo, rfl⟩ : ∃ wo : World, wo = wr := ⟨_, rfl⟩
    have hBl : B < wo.heap.size := (Array.getElem?_eq_some_iff.1 HX.out).1
    by_cases hlt : i < m
    · have hiL : i < L.length := by rw [HM.out]; exact hlt
      obtain ⟨x, hx⟩ : ∃ x, L[i] = x := ⟨_, rfl⟩
      have HXL : Hid (x ∈ L) := Lib.hid (by rw [← hx]; exact List.getElem_mem _)
      have HXI : Hid (L[i]? = some x) := Lib.hid (by rw [List.getElem?_eq_getElem hiL, hx])
      have hxl := HRF.out.lt x HXL.out
      have hrd : Nrd wo av (L.map Int.ofNat) B := by
        obtain ⟨a', c', e', h'⟩ := io_rd HO.out
        injection e' with e1 _ _
        subst e1
        exact h'
      obtain ⟨g, hav, hg1, hg2, hg3⟩ := hrd i (by rw [List.length_map]; exact hiL)
      rw [List.getElem_map, hx] at hg3
      subst hav
      have hg3' : wo.cell? ⟨g, i, none⟩ = some (.int .i64 (x : Int)) := hg3
      obtain ⟨a', cap', hvs', hl', hbd', hc'⟩ := HRW.out wo HB.out
      obtain ⟨b, off, ha, hbl, hcc⟩ := hc' x hxl
      injection hvs' with e1 e2 e3
      subst e1
      subst ha
      clear e2 e3
      obtain ⟨y, hy⟩ : ∃ y, l[x] = y := ⟨_, rfl⟩
      have HYX : Hid (l[x]? = some y) := Lib.hid (by rw [List.getElem?_eq_getElem hxl, hy])
      rw [hy] at hcc
      have q0 := hcc 0 (by omega)
      have q1 := hcc 1 (by omega)
      have q2 := hcc 2 (by omega)
      have q3 := hcc 3 (by omega)
      have q4 := hcc 4 (by omega)
      simp only [In.cs, List.getElem?_cons_zero, List.getElem?_cons_succ, Nat.add_zero] at q0 q1 q2 q3 q4
      have c0 := blkp HX.out 0
      simp only [List.getElem?_toArray, List.getElem?_cons_zero] at c0
      have hxn : x < n := by rw [← HN.out]; exact hxl
      have x0 : (0 : Int) ≤ (x : Int) := by omega
      have x1 : (x : Int) < (n : Int) := by omega
      have i0 : (0 : Int) ≤ (i : Int) := by omega
      have i1 : (i : Int) < (m : Int) := by omega
      have HLD := Lib.hid (fun w => leads_any y w)
      clear hc' hcc hy hbd' hl' hrd hg3 hx hiL
      go_wp2_with fail
      go_region_with (go_at_call 50; refine (HLD.out _).mono ?_; rintro e w5 ⟨v5, rfl, ho5, hb5⟩; obtain ⟨a5, c5, rfl, hrd5⟩ := io_rd ho5; have hb55 : Below wo.heap.size wo w5 := (by first | exact hb5 | exact ((Below.refl wo.heap.size wo).drew).trans hb5); have hrd55 : Nrd w5 a5 (ldL y) wo.heap.size := (by exact hrd5))
      all_goals
        have HR5 := Lib.hid hrd55
        have HO5 := Lib.hid (io_keep HO.out fun g' e => hb55.block g' (World.ownsRow.lt HO.out g' e).2)
        have HX5 := Lib.hid ((hb55.block B hBl).trans HX.out)
        have HB5 := Lib.hid (HB.out.trans (hb55.mono (Nat.le_of_lt hBl)))
        have hlen := ldL_len y
        obtain ⟨mm, hmm⟩ : ∃ mm, (ldL y).length = mm := ⟨_, rfl⟩
        have HME := Lib.hid hmm
        have HNE : Hid (∀ bb, a5 = some ⟨bb, 0, none⟩ → 0 < mm → (Value.slice (some ⟨g, 0, none⟩) m cv).ownBlock ≠ some bb) := Lib.hid (fun bb hbb h0 e => by
          obtain ⟨b', h1, h2, h3, h4⟩ := hrd55 0 (by rw [hmm]; exact h0)
          rw [hbb] at h1
          injection h1 with h1
          injection h1 with h1 _ _
          have e2 : g = bb := by simpa [Value.ownBlock] using e
          omega)
        have HIN : Hid (∀ q (hq : q < (ldL y).length), ∃ t : Nat, (ldL y)[q] = (t : Int) ∧ t < n ∧ t ∈ tin l x) := Lib.hid (fun q hq => by
          have h9 := HYX.out
          rw [List.getElem?_eq_getElem (show x < l.length by rw [HN.out]; exact hxn)] at h9
          obtain rfl := Option.some.inj h9
          obtain ⟨t, h1, h2, h3⟩ := ld_tin HT.out (show x < l.length by rw [HN.out]; exact hxn) hq
          exact ⟨t, h1, by rw [← HN.out]; exact h2, h3⟩)
        have HTI : Hid (∀ t, t ∈ tin l x → ∃ q, ∃ hq : q < (ldL y).length, (ldL y)[q] = (t : Int)) := Lib.hid (fun t ht => by
          have h9 := HYX.out
          rw [List.getElem?_eq_getElem (show x < l.length by rw [HN.out]; exact hxn)] at h9
          obtain rfl := Option.some.inj h9
          exact tin_ld HT.out (show x < l.length by rw [HN.out]; exact hxn) ht)
        have HQ0 : Hid (∀ j (hj : j < (ldL y).length), j < 0 → (ldL y)[j].toNat ∈ L) := Lib.hid (fun j hj h => absurd h (Nat.not_lt_zero _))
        rw [hmm] at hlen
        simp only [hmm]
        clear ho5 hrd5 hrd55 hb5 hb55 hmm q0 q1 q2 q3 q4 c0 hg3'
        go_wp2
        go_loopw [3, 6] (fun V Q wq => ∃ (L' : List Nat) (m' q : Nat), q ≤ mm ∧ m' ≤ n ∧ i < m' ∧ Q = .int .i64 (q : Int) ∧ (∃ a c, V = .slice a m' c) ∧ Hid (L'.length = m') ∧ Hid (RF l s L' i) ∧ Hid (x ∈ L') ∧ Hid (L'[i]? = some x) ∧ Hid (∀ j (hj : j < (ldL y).length), j < q → (ldL y)[j].toNat ∈ L') ∧ Hid (IOwn wq B V (L'.map Int.ofNat)) ∧ Hid (Nrd wq a5 (ldL y) wo.heap.size) ∧ Hid (∀ bb, a5 = some ⟨bb, 0, none⟩ → 0 < mm → V.ownBlock ≠ some bb) ∧ Hid (wq.heap[B]? = some (.cells #[.slice (some ⟨b, off, none⟩) n cap, .int .i64 (s : Int), .int .i64 sl] 46 (0, 0))) ∧ Hid (Below B W wq)) (fun V Q _ => mm - (intOf Q).toNat)
        case atStart => exact ⟨L, m, 0, by omega, hmn, hlt, rfl, ⟨_, _, rfl⟩, HM, HRF, HXL, HXI, HQ0, HO5, HR5, HNE, HX5, HB5⟩
        case round =>
          obtain ⟨L', m', q, hq, hm', him', rfl, ⟨av', cv', rfl⟩, HM', HRF', HXL', HXI', HQ, HO', HR', HN', HX', HB'⟩ := hrel
          by_cases hql : q < mm
          · have hqe : q < (ldL y).length := by rw [HME.out]; exact hql
            obtain ⟨t, ht, htn, htt⟩ := HIN.out q hqe
            obtain ⟨b3, ha3, hlo3, hlt3, hc3⟩ := HR'.out q hqe
            rw [ht] at hc3
            subst ha3
            have hrd : Nrd wr av' (L'.map Int.ofNat) B := by
              obtain ⟨a', c', e', h'⟩ := io_rd HO'.out
              injection e' with e1 _ _
              subst e1
              exact h'
            have HH : Hid (Calls Tryd.prog 55 #[.slice av' m' cv', .int .i64 (t : Int)] wr fun e w' => e = .returned (.bool (decide (t ∈ L'))) ∧ w' = wr) := Lib.hid (by
              have := has16_any wr av' cv' _ B hrd (by rw [List.length_map, HM'.out]; omega) (t : Int)
              rw [List.length_map, HM'.out, nat_mem] at this
              exact this)
            have HQN : Hid (∀ M : List Nat, (∀ j ∈ L', j ∈ M) → t ∈ M → ∀ j (hj : j < (ldL y).length), j < q + 1 → (ldL y)[j].toNat ∈ M) := Lib.hid (fun M hM htM j hj hjq => by
              rcases Nat.lt_or_ge j q with h9 | h9
              · exact hM _ (HQ.out j hj h9)
              · obtain rfl : j = q := by omega
                rw [ht]; exact htM)
            have qq0 : (0 : Int) ≤ (q : Int) := by omega
            have qq1 : (q : Int) < (mm : Int) := by omega
            have hbs : B ≤ wr.heap.size := Nat.le_of_lt (Array.getElem?_eq_some_iff.1 HX'.out).1
            clear hrd ht
            by_cases htL : t ∈ L'
            · have HQ2 := Lib.hid (HQN.out L' (fun j h => h) htL)
              rw [decide_eq_true htL] at HH
              go_wp2_with fail
              refine HH.out.mono ?_
              rintro e w ⟨rfl, hw⟩
              subst hw
              go_wp2
              go_roundw
              case rel => first | exact ⟨L', m', q + 1, by omega, hm', him', by go_num, ⟨_, _, rfl⟩, HM', HRF', HXL', HXI', HQ2, HO', HR', HN', HX', HB'⟩ | ((repeat apply Exists.intro); exact ⟨⟨L', m', q + 1, by omega, hm', him', by go_num, ⟨_, _, rfl⟩, HM', HRF', HXL', HXI', HQ2, HO', HR', HN', HX', HB'⟩, rfl⟩)
              case measure => simp [intOf]; omega
            · have HRF2 := Lib.hid (HRF'.out.more HT.out (by rw [HM'.out]; omega) HXL'.out htt htL)
              have HM2 : Hid ((L' ++ [t]).length = m' + 1) := Lib.hid (by rw [List.length_append, HM'.out]; rfl)
              have hmn2 : m' + 1 ≤ n := by have := HRF2.out.len; rw [HM2.out, HN.out] at this; exact this
              have HXL2 : Hid (x ∈ L' ++ [t]) := Lib.hid (List.mem_append.2 (.inl HXL'.out))
              have HXI2 : Hid ((L' ++ [t])[i]? = some x) := Lib.hid (by rw [List.getElem?_append_left (by rw [HM'.out]; exact him')]; exact HXI'.out)
              have HQ2 := Lib.hid (HQN.out (L' ++ [t]) (fun j h => List.mem_append.2 (.inl h)) (by simp))
              obtain ⟨g4, d4, W6, hrun, ho6, hb6, hat, hk6⟩ := app_two wr B _ _ HO'.out hbs m' (by rw [List.length_map]; exact HM'.out) (by omega) (t : Int)
              have hlV := World.ownsRow.lt HO'.out
              have HX6 : Hid (W6.heap[B]? = some (.cells #[.slice (some ⟨b, off, none⟩) n cap, .int .i64 (s : Int), .int .i64 sl] 46 (0, 0))) := Lib.hid (by
                obtain ⟨a9, d9, w9, hrun9, ho9, hb9, hk9⟩ := app_one wr B _ _ HO'.out hbs m' (by rw [List.length_map]; exact HM'.out) (by omega) (t : Int)
                have e9 := hrun.symm.trans hrun9
                injection e9 with _ e9
                rw [e9]
                exact hk9 _ _ _ _ HX'.out (by decide))
              have HR6 : Hid (Nrd W6 (some ⟨b3, 0, none⟩) (ldL y) wo.heap.size) := Lib.hid (fun j hj => by
                obtain ⟨b', h1, h2, h3, h4⟩ := HR'.out j hj
                refine ⟨b', h1, h2, by have := hb6.size; omega, ?_⟩
                rw [← h4]
                have hne := HN'.out b' h1 (by omega)
                simp only [World.cell?, hk6 b' h3 hne])
              have HN6 : Hid (∀ bb, some (⟨b3, 0, none⟩ : Addr) = some ⟨bb, 0, none⟩ → 0 < mm → (Value.slice (some ⟨g4, 0, none⟩) (m' + 1) d4).ownBlock ≠ some bb) := Lib.hid (fun bb h1 h2 e => by
                have e2 : g4 = bb := by simpa [Value.ownBlock] using e
                rcases hat with h9 | h9
                · exact HN'.out bb h1 h2 (h9.trans (by rw [e2]))
                · injection h1 with h1
                  injection h1 with h1 _ _
                  omega)
              have HO6 : Hid (IOwn W6 B (.slice (some ⟨g4, 0, none⟩) (m' + 1) d4) ((L' ++ [t]).map Int.ofNat)) := Lib.hid (by rw [List.map_append]; exact ho6)
              have HB6 := Lib.hid (HB'.out.trans hb6)
              have HRUN := Lib.hid hrun
              rw [decide_eq_false htL] at HH
              clear hrun ho6 hb6 hat hk6 hlV htL hbs
              go_wp2_with fail
              refine HH.out.mono ?_
              rintro e w ⟨rfl, hw⟩
              subst hw
              go_wp2_with (at_builtin; (refine wpList_append_run rfl _ _ 30 rfl _ _ _ W6 rfl rfl HRUN.out ?_))
              go_roundw
              case rel => first | exact ⟨L' ++ [t], m' + 1, q + 1, by omega, hmn2, by omega, by go_num, ⟨_, _, rfl⟩, HM2, HRF2, HXL2, HXI2, HQ2, HO6, HR6, HN6, HX6, HB6⟩ | ((repeat apply Exists.intro); exact ⟨⟨L' ++ [t], m' + 1, q + 1, by omega, hmn2, by omega, by go_num, ⟨_, _, rfl⟩, HM2, HRF2, HXL2, HXI2, HQ2, HO6, HR6, HN6, HX6, HB6⟩, rfl⟩)
              case measure => simp [intOf]; omega
          · obtain rfl : q = mm := by omega
            have HRF2 := Lib.hid (HRF'.out.next (by rw [HM'.out]; exact him') (fun t ht => by
              have hx2 := HXI'.out
              rw [List.getElem?_eq_getElem (by rw [HM'.out]; exact him')] at hx2
              rw [Option.some.inj hx2] at ht
              obtain ⟨j, hj, e⟩ := HTI.out t ht
              have := HQ.out j hj (by rw [← HME.out]; exact hj)
              rw [e] at this
              simpa using this))
            go_wp2
            go_roundg (n - (i + 1))
            case rel => exact ⟨L', m', i + 1, HM', by omega, hm', rfl, by go_num, HRF2, ⟨_, _, rfl⟩, HO', HX', HB'⟩
            case measure => omega
    · obtain rfl : i = m := by omega
      have HF : Hid (∀ K, K ≤ n → ((List.range K).filter fun j => decide (j ∈ L)) = (List.range K).filter fun j => decide (j ∈ L)) := Lib.hid (fun _ _ => rfl)
      have HFN : Hid (((List.range n).filter fun j => decide (j ∈ L)) = rchL l s) := Lib.hid (by
        have := rchL_is (l := l) (s := s) (K := fun j => decide (j ∈ L)) (fun j _ => by
          rw [decide_eq_true_iff]
          have h9 := HRF.out
          rw [← HM.out] at h9
          exact h9.fin j)
        rw [HN.out] at this
        exact this)
      go_wp2
      go_loopw [7, 8] (fun V Q wq => ∃ k : Nat, k ≤ n ∧ Q = .int .i64 (k : Int) ∧ Hid (IOwn wq B V (((List.range k).filter fun j => decide (j ∈ L)).map Int.ofNat)) ∧ (∃ a c, V = .slice a ((List.range k).filter fun j => decide (j ∈ L)).length c) ∧ Hid (Nrd wq av (L.map Int.ofNat) B) ∧ Hid (∀ bb, av = some ⟨bb, 0, none⟩ → 0 < i → V.ownBlock ≠ some bb) ∧ Hid (wq.heap[B]? = some (.cells #[.slice a n cap, .int .i64 (s : Int), .int .i64 sl] 46 (0, 0))) ∧ Hid (Below B W wq)) (fun V Q _ => n - (intOf Q).toNat)
      case atStart =>
        refine ⟨0, by omega, rfl, Lib.hid IOwn.nil, ⟨none, 0, rfl⟩, Lib.hid ?_, Lib.hid (fun bb _ _ => by simp [Value.ownBlock]), HX, HB⟩
        obtain ⟨a', c', e', h'⟩ := io_rd HO.out
        injection e' with e1 _ _
        subst e1
        exact h'
      case round =>
        obtain ⟨k, hk, rfl, HV, ⟨av', cv', rfl⟩, HR, HNE, HX, HB⟩ := hrel
        have c0 := blkp HX.out 0
        simp only [List.getElem?_toArray, List.getElem?_cons_zero] at c0
        by_cases hlt : k < n
        · have HH : Hid (Calls Tryd.prog 55 #[.slice av i cv, .int .i64 (k : Int)] wr fun e w' => e = .returned (.bool (decide (k ∈ L))) ∧ w' = wr) := Lib.hid (by
            have := has16_any wr av cv _ B HR.out (by rw [List.length_map, HM.out]; omega) (k : Int)
            rw [List.length_map, HM.out, nat_mem] at this
            exact this)
          have HFS := Lib.hid (filter_step (fun j => decide (j ∈ L)) k)
          have hfl : ((List.range k).filter fun j => decide (j ∈ L)).length ≤ k := by
            have := List.length_filter_le (fun j => decide (j ∈ L)) (List.range k)
            rwa [List.length_range] at this
          have k0 : (0 : Int) ≤ (k : Int) := by omega
          have k1 : (k : Int) < (n : Int) := by omega
          have hbs : B ≤ wr.heap.size := Nat.le_of_lt (Array.getElem?_eq_some_iff.1 HX.out).1
          by_cases hkL : k ∈ L
          · rw [decide_eq_true hkL, if_pos rfl] at HFS
            rw [decide_eq_true hkL] at HH
            obtain ⟨N9, hL9⟩ : ∃ N9, ((List.range k).filter fun j => decide (j ∈ L)).length = N9 := ⟨_, rfl⟩
            have HL9 := Lib.hid hL9
            obtain ⟨g4, d4, W6, hrun, ho6, hb6, hat, hk6⟩ := app_two wr B _ _ HV.out hbs N9 (by rw [List.length_map, hL9]) (by omega) (k : Int)
            have HX6 : Hid (W6.heap[B]? = some (.cells #[.slice a n cap, .int .i64 (s : Int), .int .i64 sl] 46 (0, 0))) := Lib.hid (by
              obtain ⟨a9, d9, w9, hrun9, ho9, hb9, hk9⟩ := app_one wr B _ _ HV.out hbs N9 (by rw [List.length_map, hL9]) (by omega) (k : Int)
              have e9 := hrun.symm.trans hrun9
              injection e9 with _ e9
              rw [e9]
              exact hk9 _ _ _ _ HX.out (by decide))
            have HR6 : Hid (Nrd W6 av (L.map Int.ofNat) B) := Lib.hid (fun j hj => by
              obtain ⟨b', h1, h2, h3, h4⟩ := HR.out j hj
              refine ⟨b', h1, h2, by have := hb6.size; omega, ?_⟩
              rw [← h4]
              have hne := HNE.out b' h1 (by rw [List.length_map, HM.out] at hj; omega)
              simp only [World.cell?, hk6 b' h3 hne])
            have HNE6 : Hid (∀ bb, av = some ⟨bb, 0, none⟩ → 0 < i → (Value.slice (some ⟨g4, 0, none⟩) (N9 + 1) d4).ownBlock ≠ some bb) := Lib.hid (fun bb h1 h2 e => by
              have e2 : g4 = bb := by simpa [Value.ownBlock] using e
              rcases hat with h9 | h9
              · exact HNE.out bb h1 h2 (h9.trans (by rw [e2]))
              · obtain ⟨b', q1, q2, q3, q4⟩ := HR.out 0 (by rw [List.length_map, HM.out]; exact h2)
                rw [h1] at q1
                injection q1 with q1
                injection q1 with q1 _ _
                omega)
            rw [hL9] at hrun ⊢
            have HRUN := Lib.hid hrun
            have HO6 : Hid (IOwn W6 B (.slice (some ⟨g4, 0, none⟩) (N9 + 1) d4) (((List.range (k + 1)).filter fun j => decide (j ∈ L)).map Int.ofNat)) := Lib.hid (by rw [HFS.out, List.map_append]; exact ho6)
            have HB6 := Lib.hid (HB.out.trans hb6)
            have HLL : Hid (((List.range (k + 1)).filter fun j => decide (j ∈ L)).length = N9 + 1) := Lib.hid (by rw [HFS.out, List.length_append, HL9.out]; rfl)
            clear hrun ho6 hb6 hat hk6 hL9 hfl hkL hbs
            go_wp2_with fail
            refine HH.out.mono ?_
            rintro e w ⟨rfl, hw⟩
            subst hw
            go_wp2_with (at_builtin; (refine wpList_append_run rfl _ _ 30 rfl _ _ _ W6 rfl rfl HRUN.out ?_))
            go_roundw
            case rel => first | exact ⟨k + 1, by omega, by go_num, HO6, ⟨_, _, by rw [HLL.out]⟩, HR6, HNE6, HX6, HB6⟩ | ((repeat apply Exists.intro); exact ⟨⟨k + 1, by omega, by go_num, HO6, ⟨_, _, by rw [HLL.out]⟩, HR6, HNE6, HX6, HB6⟩, rfl⟩)
            case measure => simp [intOf]; omega
          · rw [decide_eq_false hkL, if_neg (by decide), List.append_nil] at HFS
            rw [decide_eq_false hkL] at HH
            have HV6 : Hid (IOwn wr B (.slice av' ((List.range k).filter fun j => decide (j ∈ L)).length cv') (((List.range (k + 1)).filter fun j => decide (j ∈ L)).map Int.ofNat)) := Lib.hid (by rw [HFS.out]; exact HV.out)
            clear hkL hfl
            go_wp2_with fail
            refine HH.out.mono ?_
            rintro e w ⟨rfl, hw⟩
            subst hw
            go_wp2
            go_roundw
            case rel => first | exact ⟨k + 1, by omega, by go_num, HV6, ⟨_, _, by rw [HFS.out]⟩, HR, HNE, HX, HB⟩ | ((repeat apply Exists.intro); exact ⟨⟨k + 1, by omega, by go_num, HV6, ⟨_, _, by rw [HFS.out]⟩, HR, HNE, HX, HB⟩, rfl⟩)
            case measure => simp [intOf]; omega
        · obtain rfl : k = n := by omega
          rw [HFN.out] at HV
          rw [HFN.out]
          go_wp2
          go_ret
          exact ⟨_, rfl, by rw [HBS.out]; exact HV.out, by rw [HBS.out]; exact HB.out⟩
end Pgm
end Go.Proofs.YtchcjinaagncjaaDoor
