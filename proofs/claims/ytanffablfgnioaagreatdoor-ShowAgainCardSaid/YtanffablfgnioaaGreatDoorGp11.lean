/- The landed show: a tree that Check takes can be printed; what is printed is bytes. · The landed show: pattern. · The landed tree: descend, nodes and its iterator: all nodes that are not too deep, in order. -/
import Derived.Test.YtanffablfgnioaaGreatDoorGp10
import Derived.Laws.BytesArg
import Derived.Test.YtanffablfgnioaaGreatDoorGp2
import Derived.RangeFuncBox
import Derived.RangeFuncNested
import Derived.RangeFuncBound
import Derived.RangeFuncCalls
import Derived.RangeFuncLeaves
import Derived.Shelf.Abstract
import Derived.OwnWalkIn
import Derived.TacticsInMore
import Derived.LoopNIn
import Derived.LoopIn
namespace Go.Proofs.YtanffablfgnioaaGreatDoor
open Go.RowKit
set_option linter.unusedVariables false
theorem chk_all : ∀ (l : List (Nat × Nd)) (T : List ByteArray), Td.chkF T l = 0 → ∀ p ∈ l, Td.fitsB p.2 = true
  | [], T, _, p, hp => by cases hp
  | x :: l, T, h, p, hp => by
    rw [Td.chkF] at h
    by_cases h1 : Td.fitsB x.2 = false
    · rw [if_pos h1] at h; cases h
    rw [if_neg h1] at h
    have hx : Td.fitsB x.2 = true := by cases e : Td.fitsB x.2; exact absurd e h1; rfl
    rcases List.mem_cons.1 hp with rfl | hp
    · exact hx
    by_cases h2 : Td.kind x.2 ≠ 6
    · rw [if_pos h2] at h; exact chk_all l T h p hp
    rw [if_neg h2] at h
    by_cases h3 : Td.num x.2 ≠ (T.length : Int) + 1
    · rw [if_pos h3] at h; cases h
    rw [if_neg h3] at h
    by_cases h4 : 31 < Td.num x.2
    · rw [if_pos h4] at h; cases h
    rw [if_neg h4] at h
    by_cases h5 : Td.hit T (Td.name x.2) = true
    · rw [if_pos h5] at h; cases h
    rw [if_neg h5] at h
    exact chk_all l _ h p hp
theorem ck_wide : ∀ (l : List (Int × Int)) (pv : Option Int), Rg.checkF pv l = 0 → ∀ p ∈ l, 0 ≤ p.1 ∧ p.1 ≤ p.2 ∧ p.2 ≤ 1114111
  | [], pv, _, p, hp => by cases hp
  | x :: l, pv, h, p, hp => by
    rw [Rg.checkF] at h
    by_cases h1 : Rg.check1 pv x = 0
    · rw [if_pos h1] at h
      rcases List.mem_cons.1 hp with rfl | hp
      · unfold Rg.check1 at h1
        by_cases a : p.1 < 0 ∨ p.2 < 0 ∨ p.1 > 1114111 ∨ p.2 > 1114111
        · rw [if_pos a] at h1; cases h1
        rw [if_neg a] at h1
        by_cases b : p.1 > p.2 ∨ (∃ h, pv = some h ∧ p.1 - 1 ≤ h)
        · rw [if_pos b] at h1; cases h1
        · have : ¬ p.1 > p.2 := fun c => b (.inl c)
          omega
      · exact ck_wide l _ h p hp
    · rw [if_neg h1] at h; exact absurd h h1
theorem name_short {s : ByteArray} (h : (s.toList.isEmpty || Td.nameB s) = true) : s.size ≤ 100 := by
  rcases Bool.or_eq_true _ _ ▸ h with h | h
  · have h9 : s.toList = [] := List.isEmpty_iff.1 h
    rw [ByteArray.toList_eq] at h9
    have h8 : s.data.toList.length = s.size := by simp
    rw [h9] at h8
    rw [← h8]; decide
  · unfold Td.nameB at h
    rw [Bool.and_eq_true, decide_eq_true_eq] at h
    omega
theorem fitN_of {n : Nd} (h : Td.fitsB n = true) : FitN n := by
  unfold Td.fitsB at h
  obtain ⟨K, hK⟩ : ∃ K, Td.kind n = K := ⟨_, rfl⟩
  rw [hK] at h
  unfold Td.fitsV at h
  by_cases k1 : K = 1 ∨ K = 2 ∨ K = 4
  · exact ⟨by omega, fun e => by omega, fun e => by omega, fun e => by omega, fun e => by omega⟩
  rw [if_neg k1] at h
  by_cases k3 : K = 3
  · rw [if_pos k3] at h
    simp only [Bool.and_eq_true, beq_iff_eq, Bool.not_eq_true'] at h
    refine ⟨by omega, fun _ => ⟨fun e => ?_, ck_wide _ _ h.2.1⟩, fun e => by omega, fun e => by omega, fun e => by omega⟩
    rw [e] at h
    exact absurd h.1 (by decide)
  rw [if_neg k3] at h
  by_cases k5 : K = 5
  · rw [if_pos k5] at h
    simp only [Bool.and_eq_true, decide_eq_true_eq] at h
    exact ⟨by omega, fun e => by omega, fun _ => ⟨h.2.1, h.2.2.1⟩, fun e => by omega, fun e => by omega⟩
  rw [if_neg k5] at h
  by_cases k6 : K = 6
  · rw [if_pos k6] at h
    simp only [Bool.and_eq_true] at h
    refine ⟨by omega, fun e => by omega, fun e => by omega, fun _ => ⟨name_short h.2.2.1, ?_⟩, fun e => by omega⟩
    have := h.2.2.2.2.2
    rw [beq_iff_eq] at this
    omega
  rw [if_neg k6] at h
  by_cases k7 : K = 7 ∨ K = 8
  · exact ⟨by omega, fun e => by omega, fun e => by omega, fun e => by omega, fun e => by omega⟩
  rw [if_neg k7] at h
  by_cases k9 : K = 9
  · rw [if_pos k9] at h
    simp only [Bool.and_eq_true, decide_eq_true_eq, Bool.or_eq_true, beq_iff_eq] at h
    obtain ⟨_, _, _, a1, a2, a3, a4⟩ := h
    exact ⟨by omega, fun e => by omega, fun e => by omega, fun e => by omega, fun _ => ⟨by omega, a1, a2, a3⟩⟩
  rw [if_neg k9] at h
  cases h
theorem max_mem : ∀ (l : List Nat) (a x : Nat), (x ∈ l ∨ x ≤ a) → x ≤ l.foldl max a
  | [], a, x, h => by rcases h with h | h; cases h; exact h
  | y :: l, a, x, h => by
    refine max_mem l (max a y) x ?_
    rcases h with h | h
    · rcases List.mem_cons.1 h with rfl | h
      · exact .inr (by omega)
      · exact .inl h
    · exact .inr (by omega)
theorem fitS_of : ∀ (k d : Nat) (n : Nd), Td.dep (k + 1) n ≤ k → (∀ p ∈ Td.all k d n, Td.fitsB p.2 = true) → FitS k n
  | 0, d, n, h, _ => by rw [Td.dep] at h; omega
  | k + 1, d, n, h, ha => by
    rw [Td.all] at ha
    refine ⟨fitN_of (ha (d, n) (by simp)), fun m hm => fitS_of k (d + 1) m ?_ (fun p hp => ha p (List.mem_cons_of_mem _ (List.mem_flatMap.2 ⟨m, hm, hp⟩)))⟩
    rw [Td.dep] at h
    have := max_mem ((Td.subs n).map (Td.dep (k + 1))) 0 (Td.dep (k + 1) m) (.inl (List.mem_map_of_mem hm))
    omega
theorem fit_check {n : Nd} (h : Td.checkN n = 0) : FitS 1000 n := by
  unfold Td.checkN at h
  by_cases hd : 1000 < Td.dep 1001 n
  · rw [if_pos hd] at h; cases h
  · rw [if_neg hd] at h
    exact fitS_of 1000 1 n (show Td.dep 1001 n ≤ 1000 by omega) (chk_all _ _ h)
theorem bytes_app {x y : List Int} (hx : Utf.Bytes x) (hy : Utf.Bytes y) : Utf.Bytes (x ++ y) := fun a ha => (List.mem_append.1 ha).elim (hx a) (hy a)
theorem bytes_cons {a : Int} {y : List Int} (ha : 0 ≤ a ∧ a < 256) (hy : Utf.Bytes y) : Utf.Bytes (a :: y) := fun b hb => by
  rcases List.mem_cons.1 hb with rfl | hb
  · exact ha
  · exact hy b hb
theorem bytes_nil : Utf.Bytes [] := fun a h => by cases h
theorem bytes_lit {l : List Int} (h : (l.all fun x => decide (0 ≤ x ∧ x < 256)) = true) : Utf.Bytes l := fun x hx => of_decide_eq_true (List.all_eq_true.1 h x hx)
theorem bytes_dec (n : Nat) : Utf.Bytes (Lx.decL n) := fun x hx => by
  have := List.all_eq_true.1 (Lx.decL_dec n) x hx
  unfold Lx.decB at this
  simp at this
  omega
theorem bytes_esc (n : Nat) : Utf.Bytes (Br.esc n) := by
  unfold Br.esc
  refine bytes_cons (by decide) (bytes_cons (by decide) (bytes_cons (by decide) (bytes_app (fun x hx => ?_) (bytes_lit (by decide)))))
  have := Br.hexL_all n x hx
  omega
theorem bytes_char (r : Int) : Utf.Bytes (Sh.charL r) := by
  unfold Sh.charL
  split
  · exact bytes_cons (by omega) bytes_nil
  · exact bytes_esc _
theorem bytes_flat {α : Type} {f : α → List Int} : ∀ (l : List α), (∀ x ∈ l, Utf.Bytes (f x)) → Utf.Bytes (l.flatMap f) := fun l h a ha => by
  obtain ⟨x, hx, hax⟩ := List.mem_flatMap.1 ha
  exact h x hx a hax
theorem bytes_set (l : List (Int × Int)) : Utf.Bytes (Sh.setL l) := by
  unfold Sh.setL
  split
  · exact bytes_char _
  · refine bytes_cons (by decide) (bytes_app (bytes_flat l (fun x _ => ?_)) (bytes_lit (by decide)))
    unfold Sh.rgL
    refine bytes_app (bytes_esc _) ?_
    split
    · exact bytes_cons (by decide) (bytes_esc _)
    · exact bytes_nil
theorem bytes_times (lo hi : Int) (lz : Bool) : Utf.Bytes (Sh.timesL lo hi lz) := by
  unfold Sh.timesL
  refine bytes_app ?_ (by split <;> exact bytes_lit (by decide))
  unfold Sh.countL
  split
  · exact bytes_lit (by decide)
  split
  · exact bytes_lit (by decide)
  split
  · exact bytes_lit (by decide)
  split
  · exact bytes_cons (by decide) (bytes_app (bytes_dec _) (bytes_lit (by decide)))
  split
  · exact bytes_cons (by decide) (bytes_app (bytes_dec _) (bytes_lit (by decide)))
  · exact bytes_cons (by decide) (bytes_app (bytes_dec _) (bytes_cons (by decide) (bytes_app (bytes_dec _) (bytes_lit (by decide)))))
theorem bytes_wrap {b : Bool} {x : List Int} (h : Utf.Bytes x) : Utf.Bytes (Sh.wrapL b x) := by
  unfold Sh.wrapL
  split
  · exact bytes_app (bytes_app (bytes_lit (by decide)) h) (bytes_lit (by decide))
  · exact h
theorem bytes_alt : ∀ (l : List (List Int)), (∀ x ∈ l, Utf.Bytes x) → Utf.Bytes (Sh.altL l)
  | [], _ => bytes_nil
  | [x], h => h x (by simp)
  | x :: y :: l, h => bytes_app (h x (by simp)) (bytes_cons (by decide) (bytes_alt (y :: l) (fun z hz => h z (List.mem_cons_of_mem _ hz))))
theorem bytes_about (n : Int) : Utf.Bytes (Sh.aboutL n) := by
  unfold Sh.aboutL
  repeat' split
  all_goals exact bytes_lit (by decide)
theorem bytes_open (nm : ByteArray) : Utf.Bytes (Sh.openL nm) := by
  unfold Sh.openL
  split
  · exact bytes_lit (by decide)
  · exact bytes_app (bytes_app (bytes_lit (by decide)) (Utf.nums_bytes nm)) (bytes_lit (by decide))
theorem bytes_sh : ∀ (k : Nat) (n : Nd), Utf.Bytes (Sh.shL k n)
  | 0, n => bytes_nil
  | k + 1, n => by
    rw [Sh.shL]
    split
    · exact bytes_lit (by decide)
    split
    · unfold Sh.noneL
      exact bytes_cons (by decide) (bytes_cons (by decide) (bytes_app (bytes_esc _) (bytes_cons (by decide) (bytes_app (bytes_esc _) (bytes_lit (by decide))))))
    split
    · exact bytes_set _
    split
    · exact bytes_lit (by decide)
    split
    · exact bytes_about _
    split
    · exact bytes_app (bytes_app (bytes_open _) (bytes_flat _ (fun m _ => bytes_sh k m))) (bytes_lit (by decide))
    split
    · exact bytes_flat _ (fun m _ => bytes_wrap (bytes_sh k m))
    split
    · exact bytes_alt _ (fun x hx => by
        obtain ⟨m, _, rfl⟩ := List.mem_map.1 hx
        exact bytes_wrap (bytes_sh k m))
    · exact bytes_app (bytes_flat _ (fun m _ => bytes_wrap (bytes_sh k m))) (bytes_times _ _ _)
/-- Bytes as a text. -/
def txtB (l : List Int) : ByteArray := ⟨(l.map fun x => UInt8.ofNat x.toNat).toArray⟩
theorem txtB_nums {l : List Int} (h : Utf.Bytes l) : Utf.nums (txtB l) = l := by
  unfold Utf.nums txtB
  simp only [List.map_map]
  refine (List.map_congr_left (fun x hx => ?_)).trans (List.map_id _)
  have := h x hx
  show ((UInt8.ofNat x.toNat).toNat : Int) = x
  rw [UInt8.toNat_ofNat']
  omega
end Go.Proofs.YtanffablfgnioaaGreatDoor
namespace Go.Proofs.YtanffablfgnioaaGreatDoor
open Go.RowKit
set_option linter.unusedVariables false
theorem assertS_nil (w : World) : (Instr.typeAssert .nilIface 20 68 true).run Tryz.prog w = .ok (.tuple #[.agg #[], .bool false]) w := by kernel_rfl
theorem assertS_run (w : World) : (Instr.typeAssert (.iface 68 (.agg #[])) 20 68 true).run Tryz.prog w = .ok (.tuple #[.agg #[], .bool true]) w := by kernel_rfl
set_option maxRecDepth 100000 in
set_option maxHeartbeats 4000000 in
theorem catchS_idle (sb eb : Nat) (w : World) : CallsD Tryz.prog 25 #[.pointer (some ⟨sb, 0, none⟩), .pointer (some ⟨eb, 0, none⟩)] .returning w fun e u' w' => e = .returned (.tuple #[]) ∧ u' = .returning ∧ Below w.heap.size w w' := by
  have hta := assertS_nil
  refine callsD_of_wpS Tryz.func25 rfl fun c₀ cs hu => ?_
  simp only [Tryz.ntmps25, List.size_toArray, List.length_cons, List.length_nil, Nat.reduceAdd, Nat.reduceSub, Array.replicate_succ, Array.replicate_zero, List.push_toArray, List.append_toArray, List.nil_append, List.cons_append]
  apply wpS_seq
  apply wpS_region
  simp [wpOpsS, go_sem, recoverD, hu, Exit.thenS]
  refine wpS_of_wp ?_
  go_wp2
  have hb9 : Below w.heap.size w (w.alloc (.cells #[] 68)) := (Below.refl _ _).alloc (Nat.le_refl _) _
  cases c₀
  simp_all [bodyPostS, results, Tryz.f25]
set_option maxRecDepth 100000 in
set_option maxHeartbeats 8000000 in
theorem catchS_long (sb eb base : Nat) (w : World) (older : List PanicEntry) {s0 e0 : Value} (hs : w.heap[sb]? = some (.cells #[s0] 9 (0, 0))) (he : w.heap[eb]? = some (.cells #[e0] 27 (0, 0)))
    (hne : sb ≠ eb) (hbs : base ≤ sb ∧ base ≤ eb ∧ base ≤ w.heap.size) :
    CallsD Tryz.prog 25 #[.pointer (some ⟨sb, 0, none⟩), .pointer (some ⟨eb, 0, none⟩)] (.panicking ({ v := .iface 68 (.agg #[]), recovered := false } :: older)) w fun e u' w' => e = .returned (.tuple #[]) ∧
      u' = .panicking ({ v := .iface 68 (.agg #[]), recovered := true } :: older) ∧ w'.heap[sb]? = some (.cells #[.string ⟨#[]⟩] 9 (0, 0)) ∧ w'.heap[eb]? = some (.cells #[.int .i64 2] 27 (0, 0)) ∧ Below base w w' := by
  have hta := fun w => assertS_run w
  refine callsD_of_wpS Tryz.func25 rfl fun c₀ cs hu => ?_
  simp only [Tryz.ntmps25, List.size_toArray, List.length_cons, List.length_nil, Nat.reduceAdd, Nat.reduceSub, Array.replicate_succ, Array.replicate_zero, List.push_toArray, List.append_toArray, List.nil_append, List.cons_append]
  apply wpS_seq
  apply wpS_region
  simp [wpOpsS, go_sem, recoverD, hu, Exit.thenS]
  refine wpS_of_wp ?_
  obtain ⟨w1, hw1⟩ : ∃ w1, w.alloc (.cells #[] 68) = w1 := ⟨_, rfl⟩
  have hb1 : Below w.heap.size w w1 := by rw [← hw1]; exact (Below.refl _ _).alloc (Nat.le_refl _) _
  have hs1 := (hb1.block _ (Array.getElem?_eq_some_iff.1 hs).1).trans hs
  have he1 := (hb1.block _ (Array.getElem?_eq_some_iff.1 he).1).trans he
  have y0 := cell_box hs1
  have y1 := cell_box he1
  have z0 := frozen_box hs1
  have z1 := frozen_box he1
  have hq0 : (w1.setCell ⟨sb, 0, none⟩ (.string ⟨#[]⟩)).heap[sb]? = some (.cells #[.string ⟨#[]⟩] 9 (0, 0)) := by
    have h9 := heap_setCell_same w1 sb 0 _ _ (.string ⟨#[]⟩) hs1
    simpa using h9
  have hq1 : (w1.setCell ⟨sb, 0, none⟩ (.string ⟨#[]⟩)).heap[eb]? = some (.cells #[e0] 27 (0, 0)) := (heap_setCell_other w1 ⟨sb, 0, none⟩ eb _ (fun e => hne e.symm)).trans he1
  have hr0 : ((w1.setCell ⟨sb, 0, none⟩ (.string ⟨#[]⟩)).setCell ⟨eb, 0, none⟩ (.int .i64 2)).heap[sb]? = some (.cells #[.string ⟨#[]⟩] 9 (0, 0)) := (heap_setCell_other _ ⟨eb, 0, none⟩ sb _ hne).trans hq0
  have hr1 : ((w1.setCell ⟨sb, 0, none⟩ (.string ⟨#[]⟩)).setCell ⟨eb, 0, none⟩ (.int .i64 2)).heap[eb]? = some (.cells #[.int .i64 2] 27 (0, 0)) := by
    have h9 := heap_setCell_same _ eb 0 _ _ (.int .i64 2) hq1
    simpa using h9
  have hbl : Below base w ((w1.setCell ⟨sb, 0, none⟩ (.string ⟨#[]⟩)).setCell ⟨eb, 0, none⟩ (.int .i64 2)) := ((hb1.mono hbs.2.2).setCell (p := ⟨sb, 0, none⟩) hbs.1 _).setCell (p := ⟨eb, 0, none⟩) hbs.2.1 _
  have HU := Lib.hid hu
  have HR0 := Lib.hid hr0
  have HR1 := Lib.hid hr1
  have HBL := Lib.hid hbl
  have x2 := cell_box hq1
  have z2 := frozen_box hq1
  clear hb1 hs1 he1 hq0 hq1 hr0 hr1 hbl hs he hu hbs
  go_wp2
  cases c₀
  have hu := HU.out
  simp only at hu
  subst hu
  simp [bodyPostS, results, Tryz.f25]
  exact ⟨HR0.out, HR1.out, HBL.out⟩
/-- What is printed, read as a text. -/
theorem pr_text {W : World} {B : Nat} {O : List Int} (h : PrOk W B O) (hb : Utf.Bytes O) : ∃ v, W.heap[B]? = some (.cells #[v] 46 (0, 0)) ∧ (convert 44 9 v).run Tryz.prog W = .ok (.string (txtB O)) W := by
  obtain ⟨v, h1, h2⟩ := h
  refine ⟨v, h1, ?_⟩
  rcases h2.2 with ⟨rfl, e0⟩ | ⟨g, cap, cur, rfl, hg, hgc, hnc, hcm, hsz, htk⟩
  · have e1 : O = [] := List.length_eq_zero_iff.1 e0
    subst e1
    show (convert 44 9 (.slice none 0 0)).run Tryz.prog W = .ok (.string ⟨#[]⟩) W
    exact run_convert_bytes_nil (P := Tryz.prog) (w := W) 44 5 (by kernel_rfl) (by kernel_rfl) 0 0 9 (by kernel_rfl)
  · have hl : (O.map fun x => UInt8.ofNat x.toNat).length = O.length := List.length_map ..
    have h9 := run_convert_bytes_back (P := Tryz.prog) W 44 9 5 ⟨g, 0, none⟩ cap (O.map fun x => UInt8.ofNat x.toNat) (by kernel_rfl) (by kernel_rfl) (by kernel_rfl) (fun j hj => by
      have hjO : j < O.length := by omega
      have hx := hb O[j] (List.getElem_mem hjO)
      have h3 : (((O.map fun x => UInt8.ofNat x.toNat)[j]).toNat : Int) = O[j] := by
        rw [List.getElem_map, UInt8.toNat_ofNat']
        omega
      rw [h3, Addr.add_lit, Nat.zero_add]
      have h4 : cur.toList[j]? = some (.int .u8 O[j]) := by
        have h5 := congrArg (fun l => l[j]?) htk
        simp only [Nat.mul_one] at h5
        rw [List.getElem?_take_of_lt hjO, List.getElem?_map, List.getElem?_eq_getElem hjO] at h5
        exact h5
      rw [Array.getElem?_toList] at h4
      simp [World.cell?, hgc, h4])
    rw [hl] at h9
    exact h9
/-- What a pattern is printed as, or that it is too long. -/
def ShT (X : List Int) (T : ByteArray) (c : Int) : Prop := (X.length ≤ 4096 ∧ Utf.nums T = X ∧ c = 0) ∨ (4096 < X.length ∧ T = ⟨#[]⟩ ∧ c = 2)
set_option maxRecDepth 100000 in
set_option maxHeartbeats 8000000 in
theorem pattern_show (W0 W : World) (B k : Nat) (n : Nd) (cs : List Value) (hf : FitS k n) (hp : PrOk W B []) (hE : PrEv W0 B W) (hn : NdOn (fun b => b < B) W n cs) :
    Calls Tryz.prog 12 #[.pointer (some ⟨B, 0, none⟩), .agg cs.toArray] W fun e w' => ∃ T c, e = .returned (.tuple #[.string T, .int .i64 c]) ∧ ShT (Sh.shL k n) T c ∧ Below B W w' := by
  have hmf : ∀ (fn : Fn) (first cap : Array Value) (w : World), (Instr.makeFunc fn first cap).run Tryz.prog w = .ok (.func fn first cap) w := fun _ _ _ _ => rfl
  obtain ⟨u0, u1, u2, u3, u4, u5, u6, u7, sa, sc, aa, ac, rfl, F⟩ := hn.is.form_of
  have hBlt := hp.lt
  obtain ⟨nb, hnb⟩ : ∃ nb, W.heap.size = nb := ⟨_, rfl⟩
  obtain ⟨w1, hw1⟩ : ∃ w1, ((W.alloc (.cells #[u0, u1, u2, u3, u4, u5, u6, u7] 26)).alloc (.cells #[.string ⟨#[]⟩] 9)).alloc (.cells #[.int .i64 0] 27) = w1 := ⟨_, rfl⟩
  have hb1 : Below W.heap.size W w1 := by rw [← hw1]; exact (((Below.refl _ _).alloc (Nat.le_refl _) _).alloc (by simp) _).alloc (by simp; omega) _
  have old : ∀ {w : World} {b : Nat} {o x : Obj}, w.heap[b]? = some o → (w.alloc x).heap[b]? = some o := fun h => (Below.heap_alloc _ _ _ (Array.getElem?_eq_some_iff.1 h).1).trans h
  have hn1 : w1.heap[nb]? = some (.cells #[u0, u1, u2, u3, u4, u5, u6, u7] 26 (0, 0)) := by rw [← hw1, ← hnb]; exact old (old (heap_alloc_new _ _))
  have hs1 : w1.heap[nb + 1]? = some (.cells #[.string ⟨#[]⟩] 9 (0, 0)) := by
    rw [← hw1, ← hnb]
    have h9 := heap_alloc_new (W.alloc (.cells #[u0, u1, u2, u3, u4, u5, u6, u7] 26)) (.cells #[.string ⟨#[]⟩] 9)
    rw [World.size_alloc] at h9
    exact old h9
  have he1 : w1.heap[nb + 2]? = some (.cells #[.int .i64 0] 27 (0, 0)) := by
    rw [← hw1, ← hnb]
    have h9 := heap_alloc_new ((W.alloc (.cells #[u0, u1, u2, u3, u4, u5, u6, u7] 26)).alloc (.cells #[.string ⟨#[]⟩] 9)) (.cells #[.int .i64 0] 27)
    rw [World.size_alloc, World.size_alloc] at h9
    exact h9
  obtain ⟨p1, k1⟩ := hp.kpb hb1
  have HND := Lib.hid (node_show k W0 w1 B [] n _ hf p1 (by decide) (hE.kp (by omega) k1) (hn.kp k1))
  obtain ⟨X, hX⟩ : ∃ X, Sh.shL k n = X := ⟨_, rfl⟩
  have HBY : Hid (Utf.Bytes X) := Lib.hid (by rw [← hX]; exact bytes_sh k n)
  rw [hX] at HND ⊢
  have HK1 := Lib.hid k1
  have HN1 := Lib.hid hn1
  have HS1 := Lib.hid hs1
  have HE1 := Lib.hid he1
  have HW1 := Lib.hid hw1
  have HNB := Lib.hid hnb
  obtain ⟨d0, d1, d2, d3, d4, d5, d6, d7⟩ := box_cells hn1
  have hnB : B < nb := by omega
  obtain ⟨rfl, rfl, rfl, rfl, rfl, rfl, rfl, rfl⟩ := F
  clear hb1 hn1 hs1 he1 hw1 hnb p1 k1 hn hE hp hf hX old
  go_enter_defers Tryz.func12, Tryz.ntmps12
  go_wp2_with fail
  rw [HW1.out, HNB.out]
  refine HND.out.mono ?_
  rintro e w2 ⟨k2, h2⟩
  have hs2 := k2.kept HS1.out (noP_of (by decide) (by decide))
  have he2 := k2.kept HE1.out (noP_of (by decide) (by decide))
  have HK2 := Lib.hid (HK1.out.trans k2)
  have hz2 : nb + 2 < w2.heap.size := (Array.getElem?_eq_some_iff.1 he2).1
  have hBW : B ≤ W.heap.size := by rw [HNB.out]; omega
  rcases h2 with ⟨l2, rfl, p2⟩ | ⟨l2, O', a1, a2, rfl, a3⟩
  · rw [List.nil_append] at p2
    rw [List.length_nil, Nat.zero_add] at l2
    obtain ⟨v, hbx, hcv⟩ := pr_text p2 HBY.out
    have HT : Hid (ShT X (txtB X) 0) := Lib.hid (.inl ⟨l2, txtB_nums HBY.out, rfl⟩)
    obtain ⟨T, hT⟩ : ∃ T, txtB X = T := ⟨_, rfl⟩
    rw [hT] at hcv HT
    have q0 := cell_box hbx
    have qs := cell_box hs2
    have zs := frozen_box hs2
    have hs3 : (w2.setCell ⟨nb + 1, 0, none⟩ (.string T)).heap[nb + 1]? = some (.cells #[.string T] 9 (0, 0)) := by
      have h9 := heap_setCell_same w2 (nb + 1) 0 _ _ (.string T) hs2
      simpa using h9
    have he3 : (w2.setCell ⟨nb + 1, 0, none⟩ (.string T)).heap[nb + 2]? = some (.cells #[.int .i64 0] 27 (0, 0)) := (heap_setCell_other w2 ⟨nb + 1, 0, none⟩ (nb + 2) _ (by show nb + 2 ≠ nb + 1; omega)).trans he2
    have qe := cell_box he3
    have ze := frozen_box he3
    obtain ⟨w3, hw3⟩ : ∃ w3, (w2.setCell ⟨nb + 1, 0, none⟩ (.string T)).setCell ⟨nb + 2, 0, none⟩ (.int .i64 0) = w3 := ⟨_, rfl⟩
    have hs4 : w3.heap[nb + 1]? = some (.cells #[.string T] 9 (0, 0)) := by rw [← hw3]; exact (heap_setCell_other _ ⟨nb + 2, 0, none⟩ (nb + 1) _ (by show nb + 1 ≠ nb + 2; omega)).trans hs3
    have he4 : w3.heap[nb + 2]? = some (.cells #[.int .i64 0] 27 (0, 0)) := by
      rw [← hw3]
      have h9 := heap_setCell_same _ (nb + 2) 0 _ _ (.int .i64 0) he3
      simpa using h9
    have HB3 : Hid (Below B W w3) := Lib.hid (by rw [← hw3]; exact ((HK2.out.below hBW).setCell (p := ⟨nb + 1, 0, none⟩) (by show B ≤ nb + 1; omega) _).setCell (p := ⟨nb + 2, 0, none⟩) (by show B ≤ nb + 2; omega) _)
    have HW3 := Lib.hid hw3
    have HS4 := Lib.hid hs4
    have HE4 := Lib.hid he4
    clear hbx hs3 he3 hw3 hs4 he4 hs2 he2 p2 l2 k2 hT
    go_wp2
    rw [HW3.out]
    refine leaves_cons (f := 25) (args := #[.pointer (some ⟨nb + 1, 0, none⟩), .pointer (some ⟨nb + 2, 0, none⟩)]) (by simp) (by simp [go_sem]) ?_
    refine (catchS_idle (nb + 1) (nb + 2) w3).mono ?_
    rintro e u' w4 ⟨rfl, rfl, hb4⟩
    have hl4 := (Array.getElem?_eq_some_iff.1 HE4.out).1
    have qa := cell_box ((hb4.block _ (by omega)).trans HS4.out)
    have qe := cell_box ((hb4.block _ hl4).trans HE4.out)
    have HFIN : Hid (Below B W w4) := Lib.hid (HB3.out.trans (hb4.mono (by omega)))
    clear hb4 q0 qs zs ze hcv
    simp [Leaves, settle, results, Tryz.f12, go_sem, qa, qe]
    exact ⟨_, _, ⟨rfl, rfl⟩, HT.out, HFIN.out⟩
  · refine leaves_cons (f := 25) (args := #[.pointer (some ⟨nb + 1, 0, none⟩), .pointer (some ⟨nb + 2, 0, none⟩)]) (by simp) (by simp [go_sem]) ?_
    refine (catchS_long (nb + 1) (nb + 2) B w2 [] hs2 he2 (by omega) (by omega)).mono ?_
    rintro e u' w3 ⟨rfl, rfl, hs3, he3, hb3⟩
    have qa := cell_box hs3
    have qe := cell_box he3
    have HFIN : Hid (Below B W w3) := Lib.hid ((HK2.out.below hBW).trans hb3)
    have HT : Hid (ShT X ⟨#[]⟩ 2) := Lib.hid (.inr ⟨by rw [List.length_nil, Nat.zero_add] at l2; exact l2, rfl, rfl⟩)
    clear hs3 he3 hb3 a3 l2
    simp [Leaves, settle, results, Tryz.f12, go_sem, qa, qe]
    exact ⟨_, _, ⟨rfl, rfl⟩, HT.out, HFIN.out⟩
end Go.Proofs.YtanffablfgnioaaGreatDoor
namespace Go.Proofs.YtanffablfgnioaaGreatDoor
open Go.RowKit Go.Shelf
attribute [local go_sem] Oper.semAt_some
set_option linter.unusedVariables false
/-- A node with its depth, as the iterator hands it over: its cells read in the world Wb. -/
abbrev NdX (Wb : World) := { x : Nat × Nd × List Value // NdIs Wb x.2.1 x.2.2 }
def encN {Wb : World} (x : NdX Wb) : Array Value := #[.int .i64 (x.1.1 : Int), .agg x.1.2.2.toArray]
def ndP {Wb : World} (x : NdX Wb) : Nat × Nd := (x.1.1, x.1.2.1)
/-- What a round of the caller's loop keeps: all that lay below n0, and all nodes from n1 on. -/
structure KpN (n0 n1 : Nat) (X Y : World) : Prop where
  below : Below n0 X Y
  own : ∀ (k : Nat) (cs : Array Value) (fr : Nat × Nat), n1 ≤ k → X.heap[k]? = some (Obj.cells cs 26 fr) → Y.heap[k]? = some (Obj.cells cs 26 fr)
theorem kpN_t {n0 n1 : Nat} {X Y Z : World} (h : KpN n0 n1 X Y) (k : KpN n0 n1 Y Z) : KpN n0 n1 X Z := ⟨h.below.trans k.below, fun i cs fr hi hx => k.own i cs fr hi (h.own i cs fr hi hx)⟩
theorem KpN.refl (n0 n1 : Nat) (X : World) : KpN n0 n1 X X := ⟨Below.refl _ _, fun _ _ _ _ h => h⟩
theorem kpN_b {n0 n1 : Nat} {w : World} (hn : n0 ≤ w.heap.size) (W : World) (l : Nat) (o o' : Obj) (hl : w.heap.size ≤ l) (h : W.heap[l]? = some o) (hc : o.isCells = false) (hw : o.isWalk = false) : KpN n0 n1 W (W.putObj l o') :=
  ⟨belowK_b hn W l o o' hl h hc hw, fun k cs fr _ hk => by
    have hne : k ≠ l := fun e => by subst e; rw [h] at hk; cases hk; cases hc
    rw [(grownBy_putObj' W l o').block k (Array.getElem?_eq_some_iff.1 hk).1 (fun e => hne (by cases e; rfl))]; exact hk⟩
theorem KpN.of_below {n0 n1 : Nat} {X Y : World} (h : Below X.heap.size X Y) (hn : n0 ≤ X.heap.size) : KpN n0 n1 X Y := ⟨h.mono hn, fun k cs fr _ hk => (h.block k (Array.getElem?_eq_some_iff.1 hk).1).trans hk⟩
theorem KpN.alloc {n0 n1 : Nat} (X : World) (o : Obj) (hn : n0 ≤ X.heap.size) : KpN n0 n1 X (X.alloc o) := .of_below ((Below.refl X.heap.size X).alloc (Nat.le_refl _) o) hn
theorem KpN.set {n0 n1 : Nat} (X : World) (p : Addr) (v : Value) (h0 : n0 ≤ p.block) (h1 : p.block < n1) : KpN n0 n1 X (X.setCell p v) :=
  ⟨(Below.refl n0 X).setCell h0 v, fun k cs fr hk hx => (Below.heap_setCell _ _ _ _ (by omega)).trans hx⟩
/-- A step that turns one block, of another type. -/
theorem KpN.grown {n0 n1 : Nat} {X Y : World} {row : Option Nat} (h : X.grownBy Y row) (hn : n0 ≤ X.heap.size) (hr : ∀ r, row = some r → n0 ≤ r ∧ ∀ cs fr, X.heap[r]? ≠ some (Obj.cells cs 26 fr)) : KpN n0 n1 X Y :=
  ⟨(Below.refl n0 X).grown h hn (fun k hk => (hr k hk).1), fun k cs fr _ hx => by
    rw [h.block k (Array.getElem?_eq_some_iff.1 hx).1 (fun e => (hr k e.symm).2 cs fr hx)]; exact hx⟩
theorem yield_wide {m : Nat} (m' : Nat) {P : Program} {l : Nat} {args : Array Value} {W : World} {R : Ending → World → Prop} (h : YieldAt Fence.wide m P l args W R) : YieldAt Fence.wide m' P l args W R := by
  obtain ⟨fn, tmps, assign, body, hy, h1, h2⟩ := h
  exact ⟨fn, tmps, assign, body, hy, h1, fun c cs _ => h2 c cs (fun d h => by cases h)⟩
def StopsAt (Wb : World) (n0 n1 : Nat) (k d : Nat) (nd : Nd) (J Jx : List (NdX Wb) → World → Prop) (pre : List (NdX Wb)) (W : World) (e : Ending) (W' : World) : Prop :=
  (e = .returned (.bool true) ∧ (∃ xs : List (NdX Wb), xs.map ndP = Td.all k d nd ∧ J (pre ++ xs) W') ∧ KpN n0 n1 W W') ∨
  (e = .returned (.bool false) ∧ ∃ q : List (NdX Wb), q.map ndP <+: Td.all k d nd ∧ Jx (pre ++ q) W')
def DescOk (Wb : World) (l n1 N M : Nat) (J Jx : List (NdX Wb) → World → Prop) (Pd : Nd → Prop) (k : Nat) : Prop :=
  ∀ (d : Nat) (nd : Nd) (cs : List Value) (pre : List (NdX Wb)) (W : World), d + k = M + 1 → NdIs Wb nd cs → Pd nd → Below Wb.heap.size Wb W → J pre W → pre.length + (Td.all k d nd).length ≤ N → n1 ≤ W.heap.size →
    Calls Tryz.prog 41 #[.agg cs.toArray, .int .i64 (d : Int), .int .i64 (M : Int), .func (.yield l) #[] #[]] W (StopsAt Wb Wb.heap.size n1 k d nd J Jx pre W)
theorem blkc {W : World} {B : Nat} {cs : Array Value} {t : TypeId} (h : W.heap[B]? = some (.cells cs t (0, 0))) (i : Nat) : W.cell? ⟨B, i, none⟩ = cs[i]? := by simp [World.cell?, h]
theorem kp_box {n0 n1 : Nat} {X Y : World} (h : KpN n0 n1 X Y) {B : Nat} {cs : Array Value} (hB : n1 ≤ B) (hx : X.heap[B]? = some (.cells cs 26 (0, 0))) (i : Nat) : Y.cell? ⟨B, i, none⟩ = cs[i]? := by
  have := h.own B cs (0, 0) hB hx
  simp [World.cell?, this]
set_option maxRecDepth 100000 in
set_option maxHeartbeats 4000000 in
theorem desc_step (Wb : World) (l n1 N M : Nat) (hM : M ≤ 100000) (J Jx : List (NdX Wb) → World → Prop) (B0 : Nat) (hJ : AbidesFrom B0 J)
    (Pd : Nd → Prop) (hPd : ∀ n, Pd n → ∀ m ∈ Td.subs n, Pd m)
    (hY : ∀ pre (x : NdX Wb) W, J pre W → Pd x.1.2.1 → pre.length < N → YieldAt Fence.wide 0 Tryz.prog l (encN x) W fun e W' => (e = .returned (.bool true) ∧ J (pre ++ [x]) W' ∧ KpN Wb.heap.size n1 W W') ∨ (e = .returned (.bool false) ∧ Jx (pre ++ [x]) W'))
    (k : Nat) (ih : 1 ≤ k → DescOk Wb l n1 N M J Jx Pd k) : DescOk Wb l n1 N M J Jx Pd (k + 1) := by
  intro d nd cs pre W hd hnd hpn hb hJ0 hN hn1
  have HPS := Lib.hid (hPd nd hpn)
  have hbs := hb.size
  have hJa : ∀ pre W o, J pre W → J pre (W.alloc o) := fun pre W o h => hJ pre W _ none h (World.grownBy_alloc W o none) (fun r e => by cases e)
  obtain ⟨x, hx⟩ : ∃ x : NdX Wb, x = ⟨(d, nd, cs), hnd⟩ := ⟨_, rfl⟩
  have hallp : 1 ≤ (Td.all (k + 1) d nd).length := Td.all_len_pos k d nd
  have hy := yield_wide (100000) (hY pre x (W.alloc (.cells cs.toArray 26)) (hJa _ _ _ hJ0) (by rw [hx]; exact hpn) (by omega))
  have hxe : encN x = #[.int .i64 (d : Int), .agg cs.toArray] := by rw [hx]; rfl
  rw [hxe] at hy
  have HXP : Hid (ndP x = (d, nd)) := Lib.hid (by rw [hx]; rfl)
  have HALL : Hid (Td.all (k + 1) d nd = (d, nd) :: (Td.subs nd).flatMap (Td.all k (d + 1))) := Lib.hid (by rw [Td.all])
  have HBB := Lib.hid hb
  have HJA := Lib.hid hJa
  have HN := Lib.hid hN
  have IH := Lib.hid ih
  have HND := Lib.hid hnd
  obtain ⟨vs, a, cap, C, hC⟩ := hnd.cells
  have hcs := hC.eq
  have hlen := hC.len
  have HSUB := Lib.hid hC.sub
  have HNEW := Lib.hid (heap_alloc_new W (.cells cs.toArray 26))
  have HKA : Hid (KpN Wb.heap.size n1 W (W.alloc (.cells cs.toArray 26))) := Lib.hid (KpN.alloc W _ (by omega))
  clear hx hxe ih hJa hJ hY hC hb hJ0 hN hallp hnd hPd hpn
  subst hcs
  obtain ⟨L, hL⟩ : ∃ L, (Td.subs nd).length = L := ⟨_, rfl⟩
  rw [hL] at hlen HSUB HNEW hy HKA
  rw [hL]
  have HL := Lib.hid hL
  clear hL
  refine (callsIn_wide (n := 100001)).1 ?_
  refine callsIn_of_wp Tryz.func41 rfl trivial ?_ rfl
  simp only [Tryz.ntmps41, List.size_toArray, List.length_cons, List.length_nil, Nat.reduceAdd, Nat.reduceSub, Array.replicate_succ, Array.replicate_zero, List.push_toArray, List.append_toArray, List.nil_append, List.cons_append]
  obtain ⟨fn, tmps, assign, body, hyy, hR⟩ := hy
  gi_wp2
  refine hR.mono ?_
  clear hR hyy
  rintro e W3 (⟨rfl, hJ3, hk3⟩ | ⟨rfl, hJx3⟩)
  · have hbx : W3.cell? ⟨W.heap.size, 7, none⟩ = some (.slice a L cap) := by
      have := kp_box hk3 hn1 HNEW.out 7
      simpa using this
    have HJ3 := Lib.hid hJ3
    have HK3 := Lib.hid (kpN_t HKA.out hk3)
    have HB3 := Lib.hid (HBB.out.trans HK3.out.below)
    clear hJ3 hk3
    by_cases hk0 : k = 0
    · subst hk0
      have hdM : (d : Int) = (M : Int) := by omega
      have hdM' : d = M := by omega
      subst hdM'
      have HE : Hid (Td.all 1 d nd = [(d, nd)]) := Lib.hid (by rw [HALL.out]; simp [Td.all])
      gi_wp2
      go_ret
      exact .inl ⟨rfl, ⟨[x], by rw [HE.out]; simp [HXP.out], HJ3.out⟩, HK3.out⟩
    · have hdM : ¬ (d : Int) = (M : Int) := by omega
      have hdw : IntKind.i64.wrap ((d : Int) + 1) = ((d + 1 : Nat) : Int) := by rw [IntKind.wrap_i64]; omega
      have HIH := Lib.hid (IH.out (by omega))
      have hn3 : n1 ≤ W3.heap.size := by have := HK3.out.below.size; omega
      gi_wp2
      rw [show ((d : Int) == (M : Int)) = false from beq_eq_false_iff_ne.2 (by omega)]
      gi_loopw [10, 22] (fun bx iv wr => ∃ (i : Nat) (xs : List (NdX Wb)), i ≤ L ∧ iv = .int .i64 (i : Int) ∧ Hid (xs.map ndP = ((Td.subs nd).take i).flatMap (Td.all k (d + 1))) ∧ Hid (J (pre ++ (x :: xs)) wr) ∧ Hid (KpN Wb.heap.size n1 W wr)) (fun _ iv _ => L - (intOf iv).toNat)
      case atStart => exact ⟨0, [], Nat.zero_le _, rfl, Lib.hid (by simp), HJ3, HK3⟩
      case round =>
        obtain ⟨i, xs, hi, rfl, HXS, HJS, HKS⟩ := hrel
        by_cases hlt : i < L
        · obtain ⟨b, off, m, u0, u1, u2, u3, u4, u5, u6, u7, rfl, hbl, hm, hnd, q0, q1, q2, q3, q4, q5, q6, q7⟩ := HSUB.out i hlt
          have hbw : Below Wb.heap.size Wb wr := HBB.out.trans HKS.out.below
          have kc : ∀ o v, Wb.cell? ⟨b, o, none⟩ = some v → wr.cell? ⟨b, o, none⟩ = some v := fun o v h => (hbw.cell (p := ⟨b, o, none⟩) hbl).trans h
          replace q0 := kc _ _ q0; replace q1 := kc _ _ q1; replace q2 := kc _ _ q2; replace q3 := kc _ _ q3
          replace q4 := kc _ _ q4; replace q5 := kc _ _ q5; replace q6 := kc _ _ q6; replace q7 := kc _ _ q7
          have hbl2 : b < wr.heap.size := Nat.lt_of_lt_of_le hbl hbw.size
          obtain ⟨f1, f2, f3, f4, F1⟩ := hnd.form
          obtain ⟨rfl, rfl, rfl, rfl, rfl, rfl, rfl, rfl⟩ := F1
          have HFM := Lib.hid (Td.flat_succ (Td.subs nd) (Td.all k (d + 1)) i m hm)
          have hle : (pre ++ (x :: xs)).length + (Td.all k (d + 1) m).length ≤ N := by
            have h1 := HN.out
            have h2 := congrArg List.length HXS.out
            have h3 := congrArg List.length HFM.out
            have h4 := Td.flat_le (Td.subs nd) (Td.all k (d + 1)) (i + 1)
            rw [HALL.out, List.length_cons] at h1
            rw [List.length_map] at h2
            rw [List.length_append] at h3
            rw [List.length_append, List.length_cons]
            omega
          have hwr : n1 ≤ wr.heap.size := by have := HKS.out.below.size; omega
          have hcall := fun o => HIH.out (d + 1) m _ (pre ++ (x :: xs)) (wr.alloc o) (by omega) hnd (HPS.out m (List.mem_of_getElem? hm)) (hbw.alloc hbw.size o) (HJA.out _ _ o HJS.out) hle (by simp; omega)
          have HC := Lib.hid hcall
          have HKW : Hid (∀ o, KpN Wb.heap.size n1 wr (wr.alloc o)) := Lib.hid (fun o => KpN.alloc wr o hbw.size)
          clear kc hm hnd hbw hle hcall
          gi_wp2_with fail
          refine ⟨trivial, ?_⟩
          refine (callsIn_wide.2 (HC.out _)).mono ?_
          rintro e w5 (⟨rfl, ⟨ys, hys, hj5⟩, hk5⟩ | ⟨rfl, q, hq, hx5⟩)
          · have HYS : Hid ((xs ++ ys).map ndP = ((Td.subs nd).take (i + 1)).flatMap (Td.all k (d + 1))) := Lib.hid (by rw [List.map_append, HXS.out, hys, HFM.out])
            have HJ5 : Hid (J (pre ++ (x :: (xs ++ ys))) w5) := Lib.hid (by rw [List.append_assoc] at hj5; exact hj5)
            have HK5 := Lib.hid (kpN_t HKS.out (kpN_t (HKW.out _) hk5))
            clear hys hj5 hk5 q0 q1 q2 q3 q4 q5 q6 q7
            gi_wp2
            go_roundw
            case rel => exact ⟨i + 1, xs ++ ys, by omega, by go_num, HYS, HJ5, HK5⟩
            case measure => simp [intOf]; omega
          · have HQ : Hid ((x :: (xs ++ q)).map ndP <+: Td.all (k + 1) d nd) := Lib.hid (by
              rw [HALL.out, List.map_cons, HXP.out, List.map_append, HXS.out]
              refine List.cons_prefix_cons.2 ⟨rfl, ?_⟩
              refine List.IsPrefix.trans (List.prefix_append_right_inj _ |>.2 hq) ?_
              rw [← HFM.out]
              exact ⟨((Td.subs nd).drop (i + 1)).flatMap (Td.all k (d + 1)), by rw [← List.flatMap_append, List.take_append_drop]⟩)
            have HX5 : Hid (Jx (pre ++ (x :: (xs ++ q))) w5) := Lib.hid (by rw [List.append_assoc] at hx5; exact hx5)
            clear hq hx5 q0 q1 q2 q3 q4 q5 q6 q7
            gi_wp2
            go_ret
            exact .inr ⟨rfl, _, HQ.out, HX5.out⟩
        · obtain rfl : i = L := by omega
          have HE : Hid ((x :: xs).map ndP = Td.all (k + 1) d nd) := Lib.hid (by
            have := HXS.out
            rw [List.take_of_length_le (by rw [HL.out]; exact Nat.le_refl _)] at this
            rw [HALL.out, List.map_cons, HXP.out, this])
          gi_wp2
          go_ret
          exact .inl ⟨rfl, ⟨_, HE.out, HJS.out⟩, HKS.out⟩
  · have HX3 := Lib.hid hJx3
    have HQ : Hid ([x].map ndP <+: Td.all (k + 1) d nd) := Lib.hid (by
      rw [HALL.out, List.map_cons, HXP.out]
      exact List.cons_prefix_cons.2 ⟨rfl, List.nil_prefix⟩)
    clear hJx3
    gi_wp2
    go_ret
    exact .inr ⟨rfl, _, HQ.out, HX3.out⟩
end Go.Proofs.YtanffablfgnioaaGreatDoor
