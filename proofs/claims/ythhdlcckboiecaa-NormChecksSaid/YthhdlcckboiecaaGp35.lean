/- The landed norm: a core passes its Check: mathematics. · burinlaw11: letter; the example's trees. -/
import Derived.Test.YthhdlcckboiecaaGp32
import Derived.Test.YthhdlcckboiecaaGp34
import Derived.Test.YthhdlcckboiecaaGp33
import Derived.Test.YthhdlcckboiecaaGp12
namespace Go.Proofs.Ythhdlcckboiecaa
open Go.RowKit
open Go.Proofs.Ythhdlcckboiecaa.Nm
set_option linter.unusedVariables false
set_option linter.unusedSimpArgs false
namespace Nm
theorem chkF_leaves : ∀ (l : List (Nat × Nd)) (T : List ByteArray), (∀ p ∈ l, Td.fitsB p.2 = true ∧ Td.kind p.2 ≠ 6) → Td.chkF T l = 0
  | [], T, _ => rfl
  | x :: l, T, h => by
    have hx := h x (by simp)
    rw [Td.chkF, if_neg (by rw [hx.1]; decide), if_pos hx.2]
    exact chkF_leaves l T (fun p hp => h p (List.mem_cons_of_mem _ hp))
theorem hgt_leaf : hgt leaf1 = 1 := by rw [hgt_eq]; rfl
theorem alone_subs (n : Nd) : Td.subs (alone n) = List.replicate (Td.subs n).length leaf1 := by cases n; rfl
theorem alone_kind (n : Nd) : Td.kind (alone n) = Td.kind n := by cases n; rfl
theorem alone_num (n : Nd) : Td.num (alone n) = if Td.kind n = 6 then 1 else Td.num n := by cases n; rfl
theorem alone_hgt (n : Nd) : hgt (alone n) ≤ 2 := by
  refine hgt_le (fun m hm => ?_)
  rw [alone_subs] at hm
  rw [List.eq_of_mem_replicate hm, hgt_leaf]
  omega
theorem chk_alone {n : Nd} (h : Td.fitsB (alone n) = true) : Td.checkN (alone n) = 0 := by
  have hh := alone_hgt n
  unfold Td.checkN
  rw [dep_st 1001 _ (by omega), if_neg (by omega), Td.all]
  have hl : ∀ p ∈ (Td.subs (alone n)).flatMap (Td.all 999 2), Td.fitsB p.2 = true ∧ Td.kind p.2 ≠ 6 := fun p hp => by
    obtain ⟨m, hm, hp⟩ := List.mem_flatMap.1 hp
    rw [alone_subs] at hm
    rw [List.eq_of_mem_replicate hm, Td.all] at hp
    have : p = (2, leaf1) := by simpa [leaf1, Td.subs] using hp
    rw [this]
    exact ⟨fitsB_leaf (.inl rfl), by simp [leaf1, Td.kind]⟩
  rw [Td.chkF, if_neg (by rw [h]; decide)]
  by_cases h6 : Td.kind (alone n) = 6
  · have h6' := h6
    rw [alone_kind] at h6'
    rw [if_neg (show ¬ Td.kind (1, alone n).2 ≠ 6 from fun h => h h6), if_neg (show ¬ Td.num (alone n) ≠ _ by rw [alone_num, if_pos h6']; simp), if_neg (show ¬ 31 < Td.num (alone n) by rw [alone_num, if_pos h6']; omega), if_neg (by simp [Td.hit])]
    exact chkF_leaves _ _ hl
  · rw [if_pos h6]
    exact chkF_leaves _ _ hl
theorem fits_alone {n : Nd} (h : Td.checkN (alone n) = 0) : Td.fitsB (alone n) = true := by
  unfold Td.checkN at h
  have hh := alone_hgt n
  rw [dep_st 1001 _ (by omega), if_neg (by omega), Td.all, Td.chkF] at h
  by_cases hf : Td.fitsB (alone n) = false
  · rw [if_pos hf] at h; cases h
  · simpa using hf
theorem fitB_of {n : Nd} (h : Td.fitsB n = true) (hk : fitK n = true) : fitB n = true := by
  unfold fitB
  rw [hk, Bool.true_and, decide_eq_true_eq]
  refine chk_alone ?_
  rcases fits_cases h with ⟨k, h1, rfl⟩ | ⟨s, h1, h2, rfl⟩ | ⟨a, h1, h2, rfl⟩ | ⟨a, nm, m', h1, rfl⟩ | ⟨k, l, h1, h2, rfl⟩ | ⟨a, b, lz, m', h1, h2, h3, rfl⟩
  · have e : alone (Nd.mk k [] 0 ⟨#[]⟩ 0 0 false []) = Nd.mk k [] 0 ⟨#[]⟩ 0 0 false [] := by
      unfold alone
      simp only [List.length_nil, List.replicate_zero]
      rw [if_neg (by omega)]
    rw [e]; exact fitsB_leaf h1
  · exact fitsB_set h1 h2
  · exact fitsB_about h1 h2
  · have hn := (fitK_group hk rfl).2.2
    have hn' : nm = ⟨#[]⟩ := hn
    subst hn'
    exact fitsB_group (a := 1) (m := leaf1) (by omega)
  · have e : alone (Nd.mk k [] 0 ⟨#[]⟩ 0 0 false l) = Nd.mk k [] 0 ⟨#[]⟩ 0 0 false (List.replicate l.length leaf1) := by
      show Nd.mk k [] (if k = 6 then 1 else 0) ⟨#[]⟩ 0 0 false (List.replicate l.length leaf1) = _
      rw [if_neg (by omega)]
    rw [e]; exact fitsB_many h1 (by rw [List.length_replicate]; exact h2)
  · exact fitsB_rep (m := leaf1) h1 h2 h3
theorem her_of {c : Nd} (hc : cnt c ≤ 999999) : Her c := fun k m hm => by
  have key : ∀ (k d : Nat) (x : Nd), cnt x ≤ 999999 → ∀ m ∈ (Td.all k d x).map (·.2), (Td.subs m).length ≤ 999999 := fun k => by
    induction k with
    | zero => intro d x _ m hm; simp [Td.all] at hm
    | succ k ih =>
      intro d x hx m hm
      rw [cnt_subs] at hx
      rw [Td.all, List.map_cons, List.map_flatMap] at hm
      rcases List.mem_cons.1 hm with e | hm
      · have := len_sumC (Td.subs x)
        rw [e]
        show (Td.subs x).length ≤ 999999
        omega
      · obtain ⟨y, hy, hm⟩ := List.mem_flatMap.1 hm
        exact ih (d + 1) y (by have := sumC_mem hy; omega) m hm
  exact key k 1 c hc m hm
end Nm
end Go.Proofs.Ythhdlcckboiecaa
namespace Go.Proofs.Ythhdlcckboiecaa
open Go.RowKit
open Go.Proofs.Ythhdlcckboiecaa.Nm
set_option linter.unusedVariables false
set_option linter.unusedSimpArgs false
set_option maxRecDepth 100000 in
set_option maxHeartbeats 4000000 in
theorem let11_any (W : World) (c : Int) (hc : I64 c) : Calls Try.prog 12 #[.int .i64 c] W fun e w' => e = .returned (.agg #[.int .i64 3, .slice (some ⟨W.heap.size + 1, 0, none⟩) 1 1, .int .i64 0, .string ⟨#[]⟩, .int .i64 0, .int .i64 0, .bool false, .slice none 0 0]) ∧
    NdIs w' (letN c) [.int .i64 3, .slice (some ⟨W.heap.size + 1, 0, none⟩) 1 1, .int .i64 0, .string ⟨#[]⟩, .int .i64 0, .int .i64 0, .bool false, .slice none 0 0] ∧ Below W.heap.size W w' := by
  go_enter Try.func12, Try.ntmps12
  go_wp2
  refine ⟨rfl, .agg #[.int .i64 3, .slice (some ⟨W.heap.size + 1, 0, none⟩) 1 1, .int .i64 0, .string ⟨#[]⟩, .int .i64 0, .int .i64 0, .bool false, .slice none 0 0], by simp [results, Try.f12, go_sem], rfl, ?_, ((Below.refl W.heap.size W).alloc (Nat.le_refl _) _).alloc (by simp) _⟩
  refine .mk (fun _ => []) ⟨by unfold I64; omega, i64_0, i64_0, i64_0⟩ ⟨_, 1, rfl, by simp, ?_, ?_⟩ (Nat.zero_le _) (by simp) (fun j hj => absurd hj (by simp)) (fun j hj => absurd hj (by simp))
  · intro p hp
    have e : p = (c, c) := by simpa using hp
    subst e
    unfold I64 at hc
    exact ⟨hc.1, hc.2, hc.1, hc.2⟩
  · intro j hj
    have e : j = 0 := by simpa using hj
    subst e
    have key : ∀ X : World, (X.alloc (.cells #[.int .i64 c, .int .i64 c] 42)).cell? ⟨X.heap.size, 0, none⟩ = some (.int .i64 c) ∧ (X.alloc (.cells #[.int .i64 c, .int .i64 c] 42)).cell? ⟨X.heap.size, 1, none⟩ = some (.int .i64 c) := fun X => by constructor <;> simp
    have h9 := key (W.alloc (.cells #[.int .i64 3, .slice (some ⟨W.heap.size + 1, 0, none⟩) 1 1, .int .i64 0, .string ⟨#[]⟩, .int .i64 0, .int .i64 0, .bool false, .slice none 0 0] 25))
    rw [World.size_alloc] at h9
    exact ⟨W.heap.size + 1, 0, rfl, by simp, h9.1, h9.2⟩
def la : Nd := letN 97
def rep24 : Nd := .mk 9 [] 0 ⟨#[]⟩ 2 4 false [la]
def opt2 : Nd := .mk 9 [] 0 ⟨#[]⟩ 0 2 false [la]
def wantN : Nd := .mk 7 [] 0 ⟨#[]⟩ 0 0 false [la, la, opt2]
def catab : Nd := .mk 7 [] 0 ⟨#[]⟩ 0 0 false [la, letN 98]
def cat2 : Nd := .mk 7 [] 0 ⟨#[]⟩ 0 0 false [catab, letN 99]
def cat3 : Nd := .mk 7 [] 0 ⟨#[]⟩ 0 0 false [la, letN 98, letN 99]
theorem core_let (c : Int) : coreI (letN c) = letN c := by rw [coreI_eq]; rfl
theorem core_rep24 : coreI rep24 = wantN := by
  rw [coreI_eq]
  show coreS rep24 [coreI la] = wantN
  rw [show coreI la = la from core_let 97]; rfl
theorem core_catab : coreI catab = catab := by
  rw [coreI_eq]
  show coreS catab [coreI la, coreI (letN 98)] = catab
  rw [show coreI la = la from core_let 97, core_let]; rfl
theorem core_cat2 : coreI cat2 = cat3 := by
  rw [coreI_eq]
  show coreS cat2 [coreI catab, coreI (letN 99)] = cat3
  rw [core_catab, core_let]; rfl
theorem fitsl (c : Int) (h : 0 ≤ c ∧ c ≤ 1114111) : Td.fitsB (letN c) = true := fitsB_set (by simp) (by
  have h2 : Rg.check1 none (c, c) = 0 := by
    unfold Rg.check1
    rw [if_neg (by dsimp only; omega), if_neg (by simp)]
  unfold Rg.checkF
  rw [if_pos h2]; rfl)
theorem chk_rep24 : Td.checkN rep24 = 0 := by
  unfold Td.checkN
  rw [show Td.dep 1001 rep24 = 2 from rfl, if_neg (by omega), show Td.all 1000 1 rep24 = [(1, rep24), (2, la)] from rfl]
  refine chkF_leaves _ _ (fun p hp => ?_)
  simp only [List.mem_cons, List.not_mem_nil, or_false] at hp
  rcases hp with rfl | rfl
  · exact ⟨fitsB_rep (by omega) (by omega) (.inr (by omega)), by simp [rep24, Td.kind]⟩
  · exact ⟨fitsl 97 (by omega), by simp [la, letN, Td.kind]⟩
theorem chk_cat2 : Td.checkN cat2 = 0 := by
  unfold Td.checkN
  rw [show Td.dep 1001 cat2 = 3 from rfl, if_neg (by omega), show Td.all 1000 1 cat2 = [(1, cat2), (2, catab), (3, la), (3, letN 98), (2, letN 99)] from rfl]
  refine chkF_leaves _ _ (fun p hp => ?_)
  simp only [List.mem_cons, List.not_mem_nil, or_false] at hp
  rcases hp with rfl | rfl | rfl | rfl | rfl
  · exact ⟨fitsB_many (.inl rfl) (by simp), by simp [cat2, Td.kind]⟩
  · exact ⟨fitsB_many (.inl rfl) (by simp), by simp [catab, Td.kind]⟩
  · exact ⟨fitsl 97 (by omega), by simp [la, letN, Td.kind]⟩
  · exact ⟨fitsl 98 (by omega), by simp [letN, Td.kind]⟩
  · exact ⟨fitsl 99 (by omega), by simp [letN, Td.kind]⟩
theorem coreF_rep24 : CoreF rep24 = (wantN, 0) := by
  unfold CoreF
  rw [chk_rep24, if_neg (by simp), if_neg (by rw [show wtN 1000 rep24 = 9 from rfl]; omega), core_rep24]
theorem coreF_cat2 : CoreF cat2 = (cat3, 0) := by
  unfold CoreF
  rw [chk_cat2, if_neg (by simp), if_neg (by rw [show wtN 1000 cat2 = 5 from rfl]; omega), core_cat2]
theorem checkC_want : checkC wantN = 0 := by
  unfold checkC
  rw [show Td.dep 2001 wantN = 3 from rfl, if_neg (by omega), show (Td.all 2001 1 wantN).length = 5 from rfl, if_neg (by omega), if_pos]
  rw [show Td.all 2000 1 wantN = [(1, wantN), (2, la), (2, la), (2, opt2), (3, la)] from rfl]
  have f1 : fitB la = true := fitB_of (fitsl 97 (by omega)) (fitK_other (by simp [la, letN, Td.kind]))
  have f2 : fitB opt2 = true := fitB_of (fitsB_rep (by omega) (by omega) (.inr (by omega))) (fitK_rep' rfl rfl (by simp [opt2, Td.mx]) (fun x hx => by
    have : x = la := by simpa [opt2, Td.subs] using hx
    rw [this]; simp [la, letN, Td.kind]))
  have f3 : fitB wantN = true := fitB_of (fitsB_many (.inl rfl) (by simp)) (fitK_cat' rfl (fun x hx => by
    have : x = la ∨ x = la ∨ x = opt2 := by simpa [wantN, Td.subs] using hx
    rcases this with rfl | rfl | rfl <;> simp [la, letN, opt2, Td.kind]))
  simp [f1, f2, f3]
theorem slots_cat3 : topG (Td.all 2000 1 cat3) = 0 := rfl
theorem same_want : Td.sameB 9 wantN wantN = true := by decide +kernel
end Go.Proofs.Ythhdlcckboiecaa
