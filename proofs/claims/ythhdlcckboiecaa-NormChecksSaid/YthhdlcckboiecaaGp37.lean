/- burinlaw11: mathematics of NormAgain and NormCores. · Mathematics of burinref11's Check and Slots. · burinref11.Slots. -/
import Derived.Test.YthhdlcckboiecaaGp35
import Derived.Test.YthhdlcckboiecaaGp31
import Derived.Test.YthhdlcckboiecaaGp33
import Derived.Test.YthhdlcckboiecaaGp34
import Derived.Test.YthhdlcckboiecaaGp28
namespace Go.Proofs.Ythhdlcckboiecaa
open Go.RowKit
open Go.Proofs.Ythhdlcckboiecaa.Nm
set_option linter.unusedVariables false
set_option linter.unusedSimpArgs false
namespace Nm
theorem fit_hgt : ∀ (k : Nat) (n : Nd), Td.fit k n → hgt n ≤ k
  | 0, n, h => h.elim
  | k + 1, n, h => hgt_le (fun m hm => fit_hgt k m (h.2.2.2 m hm))
end Nm
end Go.Proofs.Ythhdlcckboiecaa
namespace Go.Proofs.Ythhdlcckboiecaa
open Go.RowKit
open Go.Proofs.Ythhdlcckboiecaa.Nm
set_option linter.unusedVariables false
set_option linter.unusedSimpArgs false
namespace Nm
/-- What burinref11's plain asks of one node. -/
def Qn (n : Nd) : Prop := Td.fitsB n = true ∧ fitK n = true
theorem fitsB_of_alone {n : Nd} (h : Td.fitsB (alone n) = true) (hk : fitK n = true) : Td.fitsB n = true := by
  obtain ⟨K, s, num, nm, mn, mx, lz, l⟩ := n
  by_cases h6 : K = 6
  · subst h6
    have h1 : 1 ≤ num := by
      unfold fitK at hk
      simp [Td.kind, Td.num, Td.name] at hk
      exact of_decide_eq_true hk.1.1
    unfold alone Td.fitsB at h
    unfold Td.fitsB
    simp only [Td.kind, Td.num, Td.mn, Td.mx, Td.subs, Td.set, Td.name, Td.lazy, List.length_replicate, if_true] at h ⊢
    unfold Td.fitsV at h ⊢
    simp at h ⊢
    simp [h1]
    exact h
  · unfold alone Td.fitsB at h
    unfold Td.fitsB
    simp only [Td.kind, Td.num, Td.mn, Td.mx, Td.subs, Td.set, Td.name, Td.lazy, List.length_replicate, if_neg h6] at h ⊢
    exact h
theorem fitB_iff (n : Nd) : fitB n = true ↔ Qn n := by
  constructor
  · intro h
    unfold fitB at h
    simp only [Bool.and_eq_true, decide_eq_true_eq] at h
    exact ⟨fitsB_of_alone (fits_alone h.2) h.1, h.1⟩
  · rintro ⟨h1, h2⟩
    exact fitB_of h1 h2
theorem checkC_yes {n : Nd} (hh : hgt n ≤ 2000) (hc : cnt n ≤ 4000) (h : AllN Qn n) : checkC n = 0 := by
  unfold checkC
  rw [dep_st 2001 n (by omega), if_neg (by omega), all_cnt 2001 1 n (by omega), if_neg (by omega), if_pos]
  exact List.all_eq_true.2 (fun p hp => (fitB_iff _).2 (h.all 2000 1 p hp))
theorem checkC_no {n : Nd} (hh : hgt n ≤ 2000) (hc : cnt n ≤ 4000) (h : ¬ AllN Qn n) : checkC n = 60 := by
  unfold checkC
  rw [dep_st 2001 n (by omega), if_neg (by omega), all_cnt 2001 1 n (by omega), if_neg (by omega), if_neg]
  intro ha
  exact h (allN_of 2000 1 n hh (fun p hp => (fitB_iff _).1 (List.all_eq_true.1 ha p hp)))
/-- What a part's kind may not be. -/
def ChP (K k : Int) : Prop := ¬ ((K = 7 ∧ (k = 7 ∨ k = 1)) ∨ (K = 8 ∧ k = 8) ∨ (K = 9 ∧ k = 1))
def OwP (n : Nd) : Prop := (Td.kind n = 6 → Td.num n ≤ 31 ∧ Td.name n = ⟨#[]⟩) ∧ Td.fitsB n = true ∧ (Td.kind n = 9 → Td.mn n = 0 ∧ Td.mx n ≠ 0)
theorem grp_num {n : Nd} (h : Td.fitsB n = true) (h6 : Td.kind n = 6) : 1 ≤ Td.num n := by
  rcases fits_cases h with ⟨k, h1, rfl⟩ | ⟨s, h1, h2, rfl⟩ | ⟨a, h1, h2, rfl⟩ | ⟨a, nm, m', h1, rfl⟩ | ⟨k, l, h1, h2, rfl⟩ | ⟨a, b, lz, m', h1, h2, h3, rfl⟩ <;> simp [Td.kind, Td.num] at h6 ⊢ <;> omega
theorem Qn_iff (n : Nd) : Qn n ↔ OwP n ∧ ∀ m ∈ Td.subs n, ChP (Td.kind n) (Td.kind m) := by
  unfold Qn OwP ChP fitK
  by_cases h6 : Td.kind n = 6
  · constructor
    · rintro ⟨h1, h2⟩
      simp [h6] at h2 ⊢
      exact ⟨⟨h2.1.2, h2.2⟩, h1⟩
    · rintro ⟨⟨h1, h2, h3⟩, h4⟩
      have := grp_num h2 h6
      have := h1 h6
      simp [h6]
      exact ⟨h2, ⟨by omega, by omega⟩, this.2⟩
  by_cases h7 : Td.kind n = 7
  · simp [h7]
  by_cases h8 : Td.kind n = 8
  · simp [h8]
  by_cases h9 : Td.kind n = 9
  · simp [h9]
    constructor
    · rintro ⟨h1, ⟨h2, h3⟩, h4⟩; exact ⟨⟨h1, h2, h3⟩, h4⟩
    · rintro ⟨⟨h1, h2, h3⟩, h4⟩; exact ⟨h1, ⟨h2, h3⟩, h4⟩
  · simp [h6, h7, h8, h9]
theorem allQ_iff (n : Nd) : AllN Qn n ↔ OwP n ∧ ∀ m ∈ Td.subs n, ChP (Td.kind n) (Td.kind m) ∧ AllN Qn m := by
  constructor
  · intro h
    obtain ⟨h1, h2⟩ := (Qn_iff n).1 h.here
    exact ⟨h1, fun m hm => ⟨h2 m hm, h.sub hm⟩⟩
  · rintro ⟨h1, h2⟩
    exact .mk ((Qn_iff n).2 ⟨h1, fun m hm => (h2 m hm).1⟩) (fun m hm => (h2 m hm).2)
inductive Occ (x : Nd) : Nd → Prop where
  | here : Occ x x
  | sub {m n : Nd} (hm : m ∈ Td.subs n) (h : Occ x m) : Occ x n
theorem Occ.inAll {x n : Nd} (h : Occ x n) : ∀ (k d : Nat), hgt n ≤ k → ∃ d', (d', x) ∈ Td.all k d n := by
  induction h with
  | here =>
    intro k d hk
    have := hgt_pos x
    obtain ⟨j, rfl⟩ : ∃ j, k = j + 1 := ⟨k - 1, by omega⟩
    exact ⟨d, by rw [Td.all]; simp⟩
  | @sub m n hm h ih =>
    intro k d hk
    have := hgt_sub hm
    obtain ⟨j, rfl⟩ : ∃ j, k = j + 1 := ⟨k - 1, by omega⟩
    obtain ⟨d', hd⟩ := ih j (d + 1) (by omega)
    exact ⟨d', by rw [Td.all]; exact List.mem_cons_of_mem _ (List.mem_flatMap.2 ⟨m, hm, hd⟩)⟩
theorem occ_of : ∀ (k d : Nat) (n : Nd) (p : Nat × Nd), p ∈ Td.all k d n → Occ p.2 n
  | 0, _, _, p, h => by cases h
  | k + 1, d, n, p, h => by
    rw [Td.all] at h
    rcases List.mem_cons.1 h with rfl | h
    · exact .here
    · obtain ⟨m, hm, hp⟩ := List.mem_flatMap.1 h
      exact .sub hm (occ_of k (d + 1) m p hp)
structure SlIs (n : Nd) (s : Int) : Prop where
  two : 2 ≤ s
  all : ∀ x, Occ x n → Td.kind x = 6 → 2 + 2 * Td.num x ≤ s
  one : s = 2 ∨ ∃ x, Occ x n ∧ Td.kind x = 6 ∧ s = 2 + 2 * Td.num x
theorem SlIs.le {n : Nd} {s t : Int} (h : SlIs n s) (g : SlIs n t) : s ≤ t := by
  rcases h.one with h1 | ⟨x, hx, h6, h1⟩
  · have := g.two; omega
  · have := g.all x hx h6; omega
theorem topF : ∀ (l : List (Nat × Nd)) (a : Int), a ≤ l.foldl (fun a p => if Td.kind p.2 = 6 then max a (Td.num p.2) else a) a ∧ (∀ p ∈ l, Td.kind p.2 = 6 → Td.num p.2 ≤ l.foldl (fun a p => if Td.kind p.2 = 6 then max a (Td.num p.2) else a) a) ∧ (l.foldl (fun a p => if Td.kind p.2 = 6 then max a (Td.num p.2) else a) a = a ∨ ∃ p ∈ l, Td.kind p.2 = 6 ∧ l.foldl (fun a p => if Td.kind p.2 = 6 then max a (Td.num p.2) else a) a = Td.num p.2)
  | [], a => ⟨Int.le_refl _, by simp, .inl rfl⟩
  | x :: l, a => by
    rw [List.foldl_cons]
    by_cases h6 : Td.kind x.2 = 6
    · simp only [h6, if_true]
      obtain ⟨h1, h2, h3⟩ := topF l (max a (Td.num x.2))
      refine ⟨by omega, fun p hp hk => ?_, ?_⟩
      · rcases List.mem_cons.1 hp with rfl | hp
        · omega
        · exact h2 p hp hk
      · rcases h3 with h3 | ⟨p, hp, hk, h3⟩
        · rw [h3]
          by_cases hm : Td.num x.2 ≤ a
          · exact .inl (by omega)
          · exact .inr ⟨x, by simp, h6, by omega⟩
        · exact .inr ⟨p, List.mem_cons_of_mem _ hp, hk, h3⟩
    · simp only [h6, if_false]
      obtain ⟨h1, h2, h3⟩ := topF l a
      refine ⟨h1, fun p hp hk => ?_, ?_⟩
      · rcases List.mem_cons.1 hp with rfl | hp
        · exact absurd hk h6
        · exact h2 p hp hk
      · rcases h3 with h3 | ⟨p, hp, hk, h3⟩
        · exact .inl h3
        · exact .inr ⟨p, List.mem_cons_of_mem _ hp, hk, h3⟩
theorem slIs_top {n : Nd} (hh : hgt n ≤ 2000) : SlIs n (2 + 2 * topG (Td.all 2000 1 n)) := by
  obtain ⟨h1, h2, h3⟩ := topF (Td.all 2000 1 n) 0
  unfold topG
  refine ⟨by omega, fun x hx h6 => ?_, ?_⟩
  · obtain ⟨d, hd⟩ := hx.inAll 2000 1 hh
    have := h2 _ hd h6
    have e : ((d, x) : Nat × Nd).2 = x := rfl
    rw [e] at this
    omega
  · rcases h3 with h3 | ⟨p, hp, h6, h3⟩
    · exact .inl (by rw [h3]; rfl)
    · exact .inr ⟨p.2, occ_of _ _ _ _ hp, h6, by rw [h3]⟩
theorem slIs_eq {n : Nd} {s : Int} (hh : hgt n ≤ 2000) (h : SlIs n s) : s = 2 + 2 * topG (Td.all 2000 1 n) := Int.le_antisymm (h.le (slIs_top hh)) ((slIs_top hh).le h)
theorem slIs_bd {n : Nd} {s G : Int} (h : SlIs n s) (hG : 0 ≤ G) (hb : ∀ x, Occ x n → Td.num x ≤ G) : s ≤ 2 + 2 * G := by
  rcases h.one with h1 | ⟨x, hx, h6, h1⟩
  · omega
  · have := hb x hx; omega
end Nm
end Go.Proofs.Ythhdlcckboiecaa
namespace Go.Proofs.Ythhdlcckboiecaa
open Go.RowKit
open Go.Proofs.Ythhdlcckboiecaa.Nm
set_option linter.unusedVariables false
set_option linter.unusedSimpArgs false
def SlP (n : Nd) (i : Nat) (s : Int) : Prop := 2 ≤ s ∧ (Td.kind n = 6 → 2 + 2 * Td.num n ≤ s) ∧ (∀ j m, j < i → (Td.subs n)[j]? = some m → ∀ x, Occ x m → Td.kind x = 6 → 2 + 2 * Td.num x ≤ s) ∧ (s = 2 ∨ ∃ x, Occ x n ∧ Td.kind x = 6 ∧ s = 2 + 2 * Td.num x)
theorem SlP.keep {n m : Nd} {i : Nat} {s z : Int} (h : SlP n i s) (hm : (Td.subs n)[i]? = some m) (hz : SlIs m z) (hl : z ≤ s) : SlP n (i + 1) s := by
  obtain ⟨h1, h2, h3, h4⟩ := h
  refine ⟨h1, h2, fun j m' hj hm' x hx h6 => ?_, h4⟩
  by_cases e : j = i
  · subst e
    rw [hm] at hm'
    injection hm' with e; subst e
    have := hz.all x hx h6; omega
  · exact h3 j m' (by omega) hm' x hx h6
theorem SlP.new {n m : Nd} {i : Nat} {s z : Int} (h : SlP n i s) (hm : (Td.subs n)[i]? = some m) (hz : SlIs m z) (hl : s < z) : SlP n (i + 1) z := by
  obtain ⟨h1, h2, h3, h4⟩ := h
  refine ⟨by omega, fun h6 => by have := h2 h6; omega, fun j m' hj hm' x hx h6 => ?_, ?_⟩
  · by_cases e : j = i
    · subst e
      rw [hm] at hm'
      injection hm' with e; subst e
      exact hz.all x hx h6
    · have := h3 j m' (by omega) hm' x hx h6; omega
  · rcases hz.one with h | ⟨x, hx, h6, h⟩
    · omega
    · exact .inr ⟨x, .sub (List.mem_of_getElem? hm) hx, h6, h⟩
theorem SlP.done {n : Nd} {L : Nat} {s : Int} (hL : (Td.subs n).length = L) (h : SlP n L s) : SlIs n s := by
  obtain ⟨h1, h2, h3, h4⟩ := h
  refine ⟨h1, fun x hx h6 => ?_, h4⟩
  cases hx with
  | here => exact h2 h6
  | sub hm hx =>
    obtain ⟨j, hj, e⟩ := List.getElem_of_mem hm
    exact h3 j _ (by omega) (by rw [List.getElem?_eq_getElem hj, e]) x hx h6
def BigN : Int := 1099511627776
def SlOk (k : Nat) : Prop := ∀ (W : World) (n : Nd) (cs : List Value), hgt n ≤ k → (∀ x, Occ x n → Td.num x ≤ BigN) → NdIs W n cs → Calls Try.prog 10 #[.agg cs.toArray] W fun e w' => ∃ s : Int, e = .returned (.int .i64 s) ∧ SlIs n s ∧ Below W.heap.size W w'
set_option maxRecDepth 100000 in
set_option maxHeartbeats 8000000 in
theorem sl_step (k : Nat) (ih : SlOk k) : SlOk (k + 1) := by
  intro W n cs hh hc h
  have HSH := Lib.hid (fun m (hm : m ∈ Td.subs n) => hgt_sub hm)
  have HHH := Lib.hid hh
  have hnb : Td.num n ≤ 1099511627776 := hc n .here
  have HCC := Lib.hid hc
  have IH := Lib.hid ih
  obtain ⟨vs, a, cap, C, hC⟩ := h.cells
  obtain ⟨sa, sk, sc, rfl⟩ : ∃ a k c, vs = .slice a k c := by obtain ⟨a, c, h, -⟩ := hC.set; exact ⟨a, _, c, h⟩
  have hcs := hC.eq
  have hLb0 := hC.len
  have HSUB := Lib.hid hC.sub
  have HN0 := Lib.hid h
  subst hcs
  obtain ⟨L, hL⟩ : ∃ L, (Td.subs n).length = L := ⟨_, rfl⟩
  have HL := Lib.hid hL
  rw [hL] at HSUB HN0 hLb0 ⊢
  obtain ⟨W1, hW1⟩ : ∃ W1, W.alloc (.cells #[.int .i64 (Td.kind n), .slice sa sk sc, .int .i64 (Td.num n), .string (Td.name n), .int .i64 (Td.mn n), .int .i64 (Td.mx n), .bool (Td.lazy n), .slice a L cap] 25) = W1 := ⟨_, rfl⟩
  have HX1 : Hid (W1.heap[W.heap.size]? = some (.cells #[.int .i64 (Td.kind n), .slice sa sk sc, .int .i64 (Td.num n), .string (Td.name n), .int .i64 (Td.mn n), .int .i64 (Td.mx n), .bool (Td.lazy n), .slice a L cap] 25 (0, 0))) := Lib.hid (by rw [← hW1]; exact heap_alloc_new _ _)
  have HB1 : Hid (Below W.heap.size W W1) := Lib.hid (by rw [← hW1]; exact (Below.refl _ _).alloc (Nat.le_refl _) _)
  have hs1 : W.heap.size < W1.heap.size := by rw [← hW1]; simp
  have HS1 := Lib.hid hs1
  obtain ⟨p0, p1, p2, p3, p4, p5, p6, p7⟩ := nbox_cells HX1.out
  rw [← hW1] at p0 p1 p2 p3 p4 p5 p6 p7
  have HW1 := Lib.hid hW1
  clear hW1 hC h hL hh hc ih hs1
  have HPS : Hid (SlP n 0 (if Td.kind n = 6 ∧ 0 < Td.num n then 2 + 2 * Td.num n else 2)) := Lib.hid (by
    refine ⟨by split <;> omega, fun h6 => ?_, fun j m hj => absurd hj (Nat.not_lt_zero _), ?_⟩
    · by_cases h0 : 0 < Td.num n
      · rw [if_pos ⟨h6, h0⟩]; omega
      · rw [if_neg (fun h => h0 h.2)]; omega
    · by_cases h6 : Td.kind n = 6 ∧ 0 < Td.num n
      · rw [if_pos h6]; exact .inr ⟨n, .here, h6.1, rfl⟩
      · rw [if_neg h6]; exact .inl rfl)
  obtain ⟨K, hK⟩ : ∃ K, Td.kind n = K := ⟨_, rfl⟩
  obtain ⟨M, hM⟩ : ∃ M, Td.num n = M := ⟨_, rfl⟩
  rw [hK, hM] at HPS HX1 HW1
  rw [hK, hM]
  rw [hM] at hnb
  rw [hK, hM] at p0 p1 p2 p3 p4 p5 p6 p7
  rw [hK, hM] at HN0
  clear hK hM HN0
  go_enter Try.func10, Try.ntmps10
  by_cases k6 : K = 6
  · subst k6
    by_cases km : 0 < M
    · have w3 : IntKind.i64.wrap (2 * M) = 2 * M := by rw [IntKind.wrap_i64]; omega
      have w4 : IntKind.i64.wrap (2 + 2 * M) = 2 + 2 * M := by rw [IntKind.wrap_i64]; omega
      have HPS1 : Hid (SlP n 0 (2 + 2 * M)) := Lib.hid (by have := HPS.out; rwa [if_pos ⟨rfl, km⟩] at this)
      clear HPS
      go_wp2
      rw [HW1.out]
      clear p0 p1 p2 p3 p4 p5 p6 p7 HW1
      go_loopw [3, 4] (fun kv iv wr => ∃ (i : Nat) (s : Int), i ≤ L ∧ iv = .int .i64 (i : Int) ∧ kv = .int .i64 s ∧ Hid (SlP n i s) ∧ Hid (Below W1.heap.size W1 wr)) (fun _ iv _ => L - (intOf iv).toNat)
      case atStart => exact ⟨0, _, by omega, rfl, rfl, HPS1, Lib.hid (Below.refl _ _)⟩
      case round =>
        obtain ⟨i, s, hi, rfl, rfl, HSP, HBW⟩ := hrel
        have p7 := (nbox_cells ((HBW.out.block _ HS1.out).trans HX1.out)).2.2.2.2.2.2.2
        by_cases hlt : i < L
        · obtain ⟨b, off, m, u0, u1, u2, u3, u4, u5, u6, u7, rfl, hb, hm, hnd, q0, q1, q2, q3, q4, q5, q6, q7⟩ := HSUB.out i hlt
          have hBW := HB1.out.trans (HBW.out.mono HB1.out.size)
          have kc : ∀ o v, W.cell? ⟨b, o, none⟩ = some v → wr.cell? ⟨b, o, none⟩ = some v := fun o v h => (hBW.cell (p := ⟨b, o, none⟩) hb).trans h
          replace q0 := kc _ _ q0; replace q1 := kc _ _ q1; replace q2 := kc _ _ q2; replace q3 := kc _ _ q3
          replace q4 := kc _ _ q4; replace q5 := kc _ _ q5; replace q6 := kc _ _ q6; replace q7 := kc _ _ q7
          obtain ⟨f1, f2, f3, f4, F1⟩ := hnd.form
          obtain ⟨rfl, rfl, rfl, rfl, rfl, rfl, rfl, rfl⟩ := F1
          have hmem : m ∈ Td.subs n := List.mem_of_getElem? hm
          have HM := Lib.hid hm
          have HC := Lib.hid (IH.out wr m _ (by have := HSH.out m hmem; have := HHH.out; omega) (fun x hx => HCC.out x (.sub hmem hx)) (hnd.kept hBW))
          have k0 : (0 : Int) ≤ (i : Int) := by omega
          have k1 : (i : Int) < (L : Int) := by omega
          have w2 : IntKind.i64.wrap ((i : Int) + 1) = ((i + 1 : Nat) : Int) := by rw [IntKind.wrap_i64]; omega
          clear kc hm hmem hnd hb hBW
          go_wp2_with fail
          refine HC.out.mono ?_
          rintro e w4 ⟨z, rfl, hz, hb4⟩
          have HB4 := Lib.hid (HBW.out.trans (hb4.mono HBW.out.size))
          have HZ := Lib.hid hz
          clear hb4 hz q0 q1 q2 q3 q4 q5 q6 q7 p7
          by_cases hsz : s < z
          · have HNEW := Lib.hid (HSP.out.new HM.out HZ.out hsz)
            go_wp2
            go_roundw
            case rel => exact ⟨i + 1, z, by omega, rfl, rfl, HNEW, HB4⟩
            case measure => simp [intOf]; omega
          · have HNEW := Lib.hid (HSP.out.keep HM.out HZ.out (by omega))
            go_wp2
            go_roundw
            case rel => exact ⟨i + 1, s, by omega, rfl, rfl, HNEW, HB4⟩
            case measure => simp [intOf]; omega
        · obtain rfl : i = L := by omega
          have HSD := Lib.hid (HSP.out.done HL.out)
          have HBZ := Lib.hid (HB1.out.trans (HBW.out.mono HB1.out.size))
          go_wp2
          go_ret
          exact ⟨s, rfl, HSD.out, HBZ.out⟩
    · have HPS1 : Hid (SlP n 0 2) := Lib.hid (by have := HPS.out; rwa [if_neg (fun h => km h.2)] at this)
      clear HPS
      go_wp2
      rw [HW1.out]
      clear p0 p1 p2 p3 p4 p5 p6 p7 HW1
      go_loopw [3, 4] (fun kv iv wr => ∃ (i : Nat) (s : Int), i ≤ L ∧ iv = .int .i64 (i : Int) ∧ kv = .int .i64 s ∧ Hid (SlP n i s) ∧ Hid (Below W1.heap.size W1 wr)) (fun _ iv _ => L - (intOf iv).toNat)
      case atStart => exact ⟨0, _, by omega, rfl, rfl, HPS1, Lib.hid (Below.refl _ _)⟩
      case round =>
        obtain ⟨i, s, hi, rfl, rfl, HSP, HBW⟩ := hrel
        have p7 := (nbox_cells ((HBW.out.block _ HS1.out).trans HX1.out)).2.2.2.2.2.2.2
        by_cases hlt : i < L
        · obtain ⟨b, off, m, u0, u1, u2, u3, u4, u5, u6, u7, rfl, hb, hm, hnd, q0, q1, q2, q3, q4, q5, q6, q7⟩ := HSUB.out i hlt
          have hBW := HB1.out.trans (HBW.out.mono HB1.out.size)
          have kc : ∀ o v, W.cell? ⟨b, o, none⟩ = some v → wr.cell? ⟨b, o, none⟩ = some v := fun o v h => (hBW.cell (p := ⟨b, o, none⟩) hb).trans h
          replace q0 := kc _ _ q0; replace q1 := kc _ _ q1; replace q2 := kc _ _ q2; replace q3 := kc _ _ q3
          replace q4 := kc _ _ q4; replace q5 := kc _ _ q5; replace q6 := kc _ _ q6; replace q7 := kc _ _ q7
          obtain ⟨f1, f2, f3, f4, F1⟩ := hnd.form
          obtain ⟨rfl, rfl, rfl, rfl, rfl, rfl, rfl, rfl⟩ := F1
          have hmem : m ∈ Td.subs n := List.mem_of_getElem? hm
          have HM := Lib.hid hm
          have HC := Lib.hid (IH.out wr m _ (by have := HSH.out m hmem; have := HHH.out; omega) (fun x hx => HCC.out x (.sub hmem hx)) (hnd.kept hBW))
          have k0 : (0 : Int) ≤ (i : Int) := by omega
          have k1 : (i : Int) < (L : Int) := by omega
          have w2 : IntKind.i64.wrap ((i : Int) + 1) = ((i + 1 : Nat) : Int) := by rw [IntKind.wrap_i64]; omega
          clear kc hm hmem hnd hb hBW
          go_wp2_with fail
          refine HC.out.mono ?_
          rintro e w4 ⟨z, rfl, hz, hb4⟩
          have HB4 := Lib.hid (HBW.out.trans (hb4.mono HBW.out.size))
          have HZ := Lib.hid hz
          clear hb4 hz q0 q1 q2 q3 q4 q5 q6 q7 p7
          by_cases hsz : s < z
          · have HNEW := Lib.hid (HSP.out.new HM.out HZ.out hsz)
            go_wp2
            go_roundw
            case rel => exact ⟨i + 1, z, by omega, rfl, rfl, HNEW, HB4⟩
            case measure => simp [intOf]; omega
          · have HNEW := Lib.hid (HSP.out.keep HM.out HZ.out (by omega))
            go_wp2
            go_roundw
            case rel => exact ⟨i + 1, s, by omega, rfl, rfl, HNEW, HB4⟩
            case measure => simp [intOf]; omega
        · obtain rfl : i = L := by omega
          have HSD := Lib.hid (HSP.out.done HL.out)
          have HBZ := Lib.hid (HB1.out.trans (HBW.out.mono HB1.out.size))
          go_wp2
          go_ret
          exact ⟨s, rfl, HSD.out, HBZ.out⟩
  · have HPS1 : Hid (SlP n 0 2) := Lib.hid (by have := HPS.out; rwa [if_neg (fun h => k6 h.1)] at this)
    clear HPS
    go_wp2
    rw [HW1.out]
    clear p0 p1 p2 p3 p4 p5 p6 p7 HW1
    go_loopw [3, 4] (fun kv iv wr => ∃ (i : Nat) (s : Int), i ≤ L ∧ iv = .int .i64 (i : Int) ∧ kv = .int .i64 s ∧ Hid (SlP n i s) ∧ Hid (Below W1.heap.size W1 wr)) (fun _ iv _ => L - (intOf iv).toNat)
    case atStart => exact ⟨0, _, by omega, rfl, rfl, HPS1, Lib.hid (Below.refl _ _)⟩
    case round =>
      obtain ⟨i, s, hi, rfl, rfl, HSP, HBW⟩ := hrel
      have p7 := (nbox_cells ((HBW.out.block _ HS1.out).trans HX1.out)).2.2.2.2.2.2.2
      by_cases hlt : i < L
      · obtain ⟨b, off, m, u0, u1, u2, u3, u4, u5, u6, u7, rfl, hb, hm, hnd, q0, q1, q2, q3, q4, q5, q6, q7⟩ := HSUB.out i hlt
        have hBW := HB1.out.trans (HBW.out.mono HB1.out.size)
        have kc : ∀ o v, W.cell? ⟨b, o, none⟩ = some v → wr.cell? ⟨b, o, none⟩ = some v := fun o v h => (hBW.cell (p := ⟨b, o, none⟩) hb).trans h
        replace q0 := kc _ _ q0; replace q1 := kc _ _ q1; replace q2 := kc _ _ q2; replace q3 := kc _ _ q3
        replace q4 := kc _ _ q4; replace q5 := kc _ _ q5; replace q6 := kc _ _ q6; replace q7 := kc _ _ q7
        obtain ⟨f1, f2, f3, f4, F1⟩ := hnd.form
        obtain ⟨rfl, rfl, rfl, rfl, rfl, rfl, rfl, rfl⟩ := F1
        have hmem : m ∈ Td.subs n := List.mem_of_getElem? hm
        have HM := Lib.hid hm
        have HC := Lib.hid (IH.out wr m _ (by have := HSH.out m hmem; have := HHH.out; omega) (fun x hx => HCC.out x (.sub hmem hx)) (hnd.kept hBW))
        have k0 : (0 : Int) ≤ (i : Int) := by omega
        have k1 : (i : Int) < (L : Int) := by omega
        have w2 : IntKind.i64.wrap ((i : Int) + 1) = ((i + 1 : Nat) : Int) := by rw [IntKind.wrap_i64]; omega
        clear kc hm hmem hnd hb hBW
        go_wp2_with fail
        refine HC.out.mono ?_
        rintro e w4 ⟨z, rfl, hz, hb4⟩
        have HB4 := Lib.hid (HBW.out.trans (hb4.mono HBW.out.size))
        have HZ := Lib.hid hz
        clear hb4 hz q0 q1 q2 q3 q4 q5 q6 q7 p7
        by_cases hsz : s < z
        · have HNEW := Lib.hid (HSP.out.new HM.out HZ.out hsz)
          go_wp2
          go_roundw
          case rel => exact ⟨i + 1, z, by omega, rfl, rfl, HNEW, HB4⟩
          case measure => simp [intOf]; omega
        · have HNEW := Lib.hid (HSP.out.keep HM.out HZ.out (by omega))
          go_wp2
          go_roundw
          case rel => exact ⟨i + 1, s, by omega, rfl, rfl, HNEW, HB4⟩
          case measure => simp [intOf]; omega
      · obtain rfl : i = L := by omega
        have HSD := Lib.hid (HSP.out.done HL.out)
        have HBZ := Lib.hid (HB1.out.trans (HBW.out.mono HB1.out.size))
        go_wp2
        go_ret
        exact ⟨s, rfl, HSD.out, HBZ.out⟩
theorem rslots_any : ∀ k, SlOk k
  | 0 => fun W n cs h _ _ => by have := hgt_pos n; omega
  | k + 1 => sl_step k (rslots_any k)
end Go.Proofs.Ythhdlcckboiecaa
