/- The landed show: a tree that Check takes can be printed; what is printed is bytes. · A region that draws its order, whose operations only read and whose callees make memory of their own: walked once, in the class of the worlds that have turned nothing old. -/
import Derived.Test.YtecmeeobabadeaaDoorGp12
import Derived.Test.YtecmeeobabadeaaDoorGp16
import Derived.Test.YtecmeeobabadeaaDoorGp1
import Derived.Deep.QuietTactic
namespace Go.Proofs.YtecmeeobabadeaaDoor
open Go.RowKit
set_option linter.unusedVariables false
theorem chk_all : ∀ (l : List (Nat × Nd)) (T : List ByteArray), Td.chkF T l = 0 → ∀ p ∈ l, Td.fitsB p.2 = true
  | [], T, _, p, hp => by cases hp
  | x :: l, T, h, p, hp => by
    rw [Td.chkF] at h
    by_cases h1 : Td.fitsB x.2 = false
    · rw [if_pos h1] at h; cases h
    rw [if_neg h1] at h
    have hx : Td.fitsB x.2 = true := by cases e : Td.fitsB x.2; exact absurd e h1; rfl
    rcases List.mem_cons.1 hp with rfl | hp
    · exact hx
    by_cases h2 : Td.kind x.2 ≠ 6
    · rw [if_pos h2] at h; exact chk_all l T h p hp
    rw [if_neg h2] at h
    by_cases h3 : Td.num x.2 ≠ (T.length : Int) + 1
    · rw [if_pos h3] at h; cases h
    rw [if_neg h3] at h
    by_cases h4 : 31 < Td.num x.2
    · rw [if_pos h4] at h; cases h
    rw [if_neg h4] at h
    by_cases h5 : Td.hit T (Td.name x.2) = true
    · rw [if_pos h5] at h; cases h
    rw [if_neg h5] at h
    exact chk_all l _ h p hp
theorem ck_wide : ∀ (l : List (Int × Int)) (pv : Option Int), Rg.checkF pv l = 0 → ∀ p ∈ l, 0 ≤ p.1 ∧ p.1 ≤ p.2 ∧ p.2 ≤ 1114111
  | [], pv, _, p, hp => by cases hp
  | x :: l, pv, h, p, hp => by
    rw [Rg.checkF] at h
    by_cases h1 : Rg.check1 pv x = 0
    · rw [if_pos h1] at h
      rcases List.mem_cons.1 hp with rfl | hp
      · unfold Rg.check1 at h1
        by_cases a : p.1 < 0 ∨ p.2 < 0 ∨ p.1 > 1114111 ∨ p.2 > 1114111
        · rw [if_pos a] at h1; cases h1
        rw [if_neg a] at h1
        by_cases b : p.1 > p.2 ∨ (∃ h, pv = some h ∧ p.1 - 1 ≤ h)
        · rw [if_pos b] at h1; cases h1
        · have : ¬ p.1 > p.2 := fun c => b (.inl c)
          omega
      · exact ck_wide l _ h p hp
    · rw [if_neg h1] at h; exact absurd h h1
theorem name_short {s : ByteArray} (h : (s.toList.isEmpty || Td.nameB s) = true) : s.size ≤ 100 := by
  rcases Bool.or_eq_true _ _ ▸ h with h | h
  · have h9 : s.toList = [] := List.isEmpty_iff.1 h
    rw [ByteArray.toList_eq] at h9
    have h8 : s.data.toList.length = s.size := by simp
    rw [h9] at h8
    rw [← h8]; decide
  · unfold Td.nameB at h
    rw [Bool.and_eq_true, decide_eq_true_eq] at h
    omega
theorem fitN_of {n : Nd} (h : Td.fitsB n = true) : FitN n := by
  unfold Td.fitsB at h
  obtain ⟨K, hK⟩ : ∃ K, Td.kind n = K := ⟨_, rfl⟩
  rw [hK] at h
  unfold Td.fitsV at h
  by_cases k1 : K = 1 ∨ K = 2 ∨ K = 4
  · exact ⟨by omega, fun e => by omega, fun e => by omega, fun e => by omega, fun e => by omega⟩
  rw [if_neg k1] at h
  by_cases k3 : K = 3
  · rw [if_pos k3] at h
    simp only [Bool.and_eq_true, beq_iff_eq, Bool.not_eq_true'] at h
    refine ⟨by omega, fun _ => ⟨fun e => ?_, ck_wide _ _ h.2.1⟩, fun e => by omega, fun e => by omega, fun e => by omega⟩
    rw [e] at h
    exact absurd h.1 (by decide)
  rw [if_neg k3] at h
  by_cases k5 : K = 5
  · rw [if_pos k5] at h
    simp only [Bool.and_eq_true, decide_eq_true_eq] at h
    exact ⟨by omega, fun e => by omega, fun _ => ⟨h.2.1, h.2.2.1⟩, fun e => by omega, fun e => by omega⟩
  rw [if_neg k5] at h
  by_cases k6 : K = 6
  · rw [if_pos k6] at h
    simp only [Bool.and_eq_true] at h
    refine ⟨by omega, fun e => by omega, fun e => by omega, fun _ => ⟨name_short h.2.2.1, ?_⟩, fun e => by omega⟩
    have := h.2.2.2.2.2
    rw [beq_iff_eq] at this
    omega
  rw [if_neg k6] at h
  by_cases k7 : K = 7 ∨ K = 8
  · exact ⟨by omega, fun e => by omega, fun e => by omega, fun e => by omega, fun e => by omega⟩
  rw [if_neg k7] at h
  by_cases k9 : K = 9
  · rw [if_pos k9] at h
    simp only [Bool.and_eq_true, decide_eq_true_eq, Bool.or_eq_true, beq_iff_eq] at h
    obtain ⟨_, _, _, a1, a2, a3, a4⟩ := h
    exact ⟨by omega, fun e => by omega, fun e => by omega, fun e => by omega, fun _ => ⟨by omega, a1, a2, a3⟩⟩
  rw [if_neg k9] at h
  cases h
theorem max_mem : ∀ (l : List Nat) (a x : Nat), (x ∈ l ∨ x ≤ a) → x ≤ l.foldl max a
  | [], a, x, h => by rcases h with h | h; cases h; exact h
  | y :: l, a, x, h => by
    refine max_mem l (max a y) x ?_
    rcases h with h | h
    · rcases List.mem_cons.1 h with rfl | h
      · exact .inr (by omega)
      · exact .inl h
    · exact .inr (by omega)
theorem fitS_of : ∀ (k d : Nat) (n : Nd), Td.dep (k + 1) n ≤ k → (∀ p ∈ Td.all k d n, Td.fitsB p.2 = true) → FitS k n
  | 0, d, n, h, _ => by rw [Td.dep] at h; omega
  | k + 1, d, n, h, ha => by
    rw [Td.all] at ha
    refine ⟨fitN_of (ha (d, n) (by simp)), fun m hm => fitS_of k (d + 1) m ?_ (fun p hp => ha p (List.mem_cons_of_mem _ (List.mem_flatMap.2 ⟨m, hm, hp⟩)))⟩
    rw [Td.dep] at h
    have := max_mem ((Td.subs n).map (Td.dep (k + 1))) 0 (Td.dep (k + 1) m) (.inl (List.mem_map_of_mem hm))
    omega
theorem fit_check {n : Nd} (h : Td.checkN n = 0) : FitS 1000 n := by
  unfold Td.checkN at h
  by_cases hd : 1000 < Td.dep 1001 n
  · rw [if_pos hd] at h; cases h
  · rw [if_neg hd] at h
    exact fitS_of 1000 1 n (show Td.dep 1001 n ≤ 1000 by omega) (chk_all _ _ h)
theorem bytes_app {x y : List Int} (hx : Utf.Bytes x) (hy : Utf.Bytes y) : Utf.Bytes (x ++ y) := fun a ha => (List.mem_append.1 ha).elim (hx a) (hy a)
theorem bytes_cons {a : Int} {y : List Int} (ha : 0 ≤ a ∧ a < 256) (hy : Utf.Bytes y) : Utf.Bytes (a :: y) := fun b hb => by
  rcases List.mem_cons.1 hb with rfl | hb
  · exact ha
  · exact hy b hb
theorem bytes_nil : Utf.Bytes [] := fun a h => by cases h
theorem bytes_lit {l : List Int} (h : (l.all fun x => decide (0 ≤ x ∧ x < 256)) = true) : Utf.Bytes l := fun x hx => of_decide_eq_true (List.all_eq_true.1 h x hx)
theorem bytes_dec (n : Nat) : Utf.Bytes (Lx.decL n) := fun x hx => by
  have := List.all_eq_true.1 (Lx.decL_dec n) x hx
  unfold Lx.decB at this
  simp at this
  omega
theorem bytes_esc (n : Nat) : Utf.Bytes (Br.esc n) := by
  unfold Br.esc
  refine bytes_cons (by decide) (bytes_cons (by decide) (bytes_cons (by decide) (bytes_app (fun x hx => ?_) (bytes_lit (by decide)))))
  have := Br.hexL_all n x hx
  omega
theorem bytes_char (r : Int) : Utf.Bytes (Sh.charL r) := by
  unfold Sh.charL
  split
  · exact bytes_cons (by omega) bytes_nil
  · exact bytes_esc _
theorem bytes_flat {α : Type} {f : α → List Int} : ∀ (l : List α), (∀ x ∈ l, Utf.Bytes (f x)) → Utf.Bytes (l.flatMap f) := fun l h a ha => by
  obtain ⟨x, hx, hax⟩ := List.mem_flatMap.1 ha
  exact h x hx a hax
theorem bytes_set (l : List (Int × Int)) : Utf.Bytes (Sh.setL l) := by
  unfold Sh.setL
  split
  · exact bytes_char _
  · refine bytes_cons (by decide) (bytes_app (bytes_flat l (fun x _ => ?_)) (bytes_lit (by decide)))
    unfold Sh.rgL
    refine bytes_app (bytes_esc _) ?_
    split
    · exact bytes_cons (by decide) (bytes_esc _)
    · exact bytes_nil
theorem bytes_times (lo hi : Int) (lz : Bool) : Utf.Bytes (Sh.timesL lo hi lz) := by
  unfold Sh.timesL
  refine bytes_app ?_ (by split <;> exact bytes_lit (by decide))
  unfold Sh.countL
  split
  · exact bytes_lit (by decide)
  split
  · exact bytes_lit (by decide)
  split
  · exact bytes_lit (by decide)
  split
  · exact bytes_cons (by decide) (bytes_app (bytes_dec _) (bytes_lit (by decide)))
  split
  · exact bytes_cons (by decide) (bytes_app (bytes_dec _) (bytes_lit (by decide)))
  · exact bytes_cons (by decide) (bytes_app (bytes_dec _) (bytes_cons (by decide) (bytes_app (bytes_dec _) (bytes_lit (by decide)))))
theorem bytes_wrap {b : Bool} {x : List Int} (h : Utf.Bytes x) : Utf.Bytes (Sh.wrapL b x) := by
  unfold Sh.wrapL
  split
  · exact bytes_app (bytes_app (bytes_lit (by decide)) h) (bytes_lit (by decide))
  · exact h
theorem bytes_alt : ∀ (l : List (List Int)), (∀ x ∈ l, Utf.Bytes x) → Utf.Bytes (Sh.altL l)
  | [], _ => bytes_nil
  | [x], h => h x (by simp)
  | x :: y :: l, h => bytes_app (h x (by simp)) (bytes_cons (by decide) (bytes_alt (y :: l) (fun z hz => h z (List.mem_cons_of_mem _ hz))))
theorem bytes_about (n : Int) : Utf.Bytes (Sh.aboutL n) := by
  unfold Sh.aboutL
  repeat' split
  all_goals exact bytes_lit (by decide)
theorem bytes_open (nm : ByteArray) : Utf.Bytes (Sh.openL nm) := by
  unfold Sh.openL
  split
  · exact bytes_lit (by decide)
  · exact bytes_app (bytes_app (bytes_lit (by decide)) (Utf.nums_bytes nm)) (bytes_lit (by decide))
theorem bytes_sh : ∀ (k : Nat) (n : Nd), Utf.Bytes (Sh.shL k n)
  | 0, n => bytes_nil
  | k + 1, n => by
    rw [Sh.shL]
    split
    · exact bytes_lit (by decide)
    split
    · unfold Sh.noneL
      exact bytes_cons (by decide) (bytes_cons (by decide) (bytes_app (bytes_esc _) (bytes_cons (by decide) (bytes_app (bytes_esc _) (bytes_lit (by decide))))))
    split
    · exact bytes_set _
    split
    · exact bytes_lit (by decide)
    split
    · exact bytes_about _
    split
    · exact bytes_app (bytes_app (bytes_open _) (bytes_flat _ (fun m _ => bytes_sh k m))) (bytes_lit (by decide))
    split
    · exact bytes_flat _ (fun m _ => bytes_wrap (bytes_sh k m))
    split
    · exact bytes_alt _ (fun x hx => by
        obtain ⟨m, _, rfl⟩ := List.mem_map.1 hx
        exact bytes_wrap (bytes_sh k m))
    · exact bytes_app (bytes_flat _ (fun m _ => bytes_wrap (bytes_sh k m))) (bytes_times _ _ _)
/-- Bytes as a text. -/
def txtB (l : List Int) : ByteArray := ⟨(l.map fun x => UInt8.ofNat x.toNat).toArray⟩
theorem txtB_nums {l : List Int} (h : Utf.Bytes l) : Utf.nums (txtB l) = l := by
  unfold Utf.nums txtB
  simp only [List.map_map]
  refine (List.map_congr_left (fun x hx => ?_)).trans (List.map_id _)
  have := h x hx
  show ((UInt8.ofNat x.toNat).toNat : Int) = x
  rw [UInt8.toNat_ofNat']
  omega
end Go.Proofs.YtecmeeobabadeaaDoor
namespace Go.Proofs.YtecmeeobabadeaaDoor
open Go.RowKit
set_option linter.unusedVariables false
/-- A world that has turned nothing of w's. -/
structure GrownTo (w : World) where
  W' : World
  h : Below w.heap.size w W'
instance grownToSome (w : World) : Inhabited (GrownTo w) := ⟨⟨w, Below.refl _ _⟩⟩
theorem wp_region_quiet_below {P : Program} {id : Nat} {Q : Exit → Act → World → Prop} {a : Act} {w : World} {l : List Oper} (hm : P.follows .mixedOrders = true) (hB : Region.lexB .any l.toArray = true)
    (h : wpQuiet P l.toArray (fun w' => ∃ p : GrownTo w, w' = p.W') (fun a' => ∀ w', (∃ p : GrownTo w, w' = p.W') → Q .normal a' w') l a) : (Code.region id l.toArray true).wp P Q a w :=
  wp_region_quiet (C := fun w' => ∃ p : GrownTo w, w' = p.W') hm hB ⟨⟨w.drew, below_drewNr (Below.refl _ _) 1⟩, rfl⟩ (by simpa using h)
theorem calls_grownTo {P : Program} {f : FuncId} {args : Array Value} {w : World} {p : GrownTo w} {v : Value}
    (h : Calls P f args p.W' fun e w' => e = .returned v ∧ Below p.W'.heap.size p.W' w') : Calls P f args p.W' fun e w'' => e = .returned v ∧ ∃ p' : GrownTo w, w'' = p'.W' :=
  h.mono fun _ w' ⟨he, hb⟩ => ⟨he, ⟨w', p.h.trans (hb.mono p.h.size)⟩, rfl⟩
theorem cell_grownTo {w : World} {a : Addr} {v : Value} (hb : a.block < w.heap.size) (h : w.cell? a = some v) (p : GrownTo w) : p.W'.cell? a = some v :=
  (p.h.cell hb).trans h
end Go.Proofs.YtecmeeobabadeaaDoor
