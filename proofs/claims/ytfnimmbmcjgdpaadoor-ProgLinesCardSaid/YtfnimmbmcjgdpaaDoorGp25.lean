/- A range over a function whose iterator turns elder blocks (maps, rows of its own): the caller's word abides what the iterator may do (Fr); what the iterator leaves is told (S, with the world). -/
import Derived.RangeFuncBox
import Derived.RangeFuncCalls
import Derived.RangeFuncNested
namespace Go.Proofs.YtfnimmbmcjgdpaaDoor
open Go Go.RowKit
set_option linter.unusedVariables false
/-- An iterator that hands over x only where R x holds, and turns what Fr lets. -/
def SeqFr {α : Type} (F : Fence) (n : Nat) (P : Program) (g : Nat) (lb : Array Value) (encs : α → Array Value) (Fr Kp Kf : World → World → Prop) (R : α → World → Prop) (S : List α → World → Prop) (Sp : List α → Prop) (N : Nat) (w : World) : Prop :=
  ∀ (l : Nat) (J Jx : List α → World → Prop) (W : World), Below w.heap.size w W → w.heap.size + 2 ≤ W.heap.size → (∀ s A B, J s A → Fr A B → J s B) → (∀ s A B, Jx s A → Fr A B → Jx s B) →
    (∀ pre x W1, J pre W1 → R x W1 → pre.length < N → YieldAt F (n - 1) P l (encs x) W1 fun e W' => (e = .returned (.bool true) ∧ J (pre ++ [x]) W' ∧ Kp W1 W') ∨ (e = .returned (.bool false) ∧ Jx (pre ++ [x]) W' ∧ Kf W1 W')) →
    J [] W → CallsIn F n P g (#[.func (.yield l) #[] #[]] ++ lb) W fun e W' => (∃ v, e = .returned v) ∧ ((∃ xs, S xs W' ∧ J xs W') ∨ (∃ pre, Sp pre ∧ Jx pre W'))
/-- Fr leaves alone what a range over a function lays for itself. -/
def FrKeeps (Fr : World → World → Prop) : Prop := ∀ (A B : World) (k : Nat) (o : Obj), Fr A B → A.heap[k]? = some o → ((∃ r, o = .loop r) ∨ ∃ d, o = .deferred d) → B.heap[k]? = some o
/-- What a round owes: B where the loop began, W where the round began, V where its body began. -/
def roundPostF {α : Type} (B : Nat) (Kp Kf : World → World → Prop) (I : List α → World → Prop) (Ix : Code → List α → World → Prop) (xs : List α) (W V : World) : Exit → Act → World → Prop
  | .normal, _, W' => KeepsFrom B V W' ∧ Kp W W' ∧ I xs W'
  | .ret, _, W' => KeepsFrom B V W' ∧ Kf W W' ∧ Ix .ret xs W'
  | .exit id, _, W' => KeepsFrom B V W' ∧ Kf W W' ∧ Ix (.exit id) xs W'
  | .goto t, _, W' => KeepsFrom B V W' ∧ Kf W W' ∧ Ix (.goto t) xs W'
  | .panic _, _, _ => False
  | .outgrown, _, _ => False
theorem range_fr {F : Fence} {n : Nat} {P : Program} {α : Type} {g : Operand} {ps : Array Tmp} {assign body : Code} {Q : Exit → Act → World → Prop} {a : Act} {w : World}
    (hro : F.round = none) (h1 : 1 ≤ n) {gf : Nat} {lb : Array Value} (hg : a.eval g = .func (.func gf) #[] lb) (hFg : F.fn gf) (eg : ∀ args w, (callFunc gf args).run P w = .ok (.enter gf args) w)
    {encs : α → Array Value} {Fr Kp Kf : World → World → Prop} {R : α → World → Prop} {S : List α → World → Prop} {Sp : List α → Prop} {N : Nat} {w0 : World} (hseq : SeqFr F (n - 1) P gf lb encs Fr Kp Kf R S Sp N w0) (hFr : FrKeeps Fr) (hS : OwnFrom w.heap.size S)
    (hKt : ∀ {A B C : World}, Kp A B → Kp B C → Kp A C) (hKb : ∀ (W : World) (l : Nat) (o o' : Obj), l = w.heap.size + 1 → W.heap[l]? = some o → o.isCells = false → o.isWalk = false → Kp W (W.putObj l o')) (hKf : ∀ (A W : World) (l : Nat) (o o' : Obj), l = w.heap.size + 1 → Kf A W → W.heap[l]? = some o → o.isCells = false → o.isWalk = false → Kf A (W.putObj l o')) (hb0 : Below w0.heap.size w0 w) (hps : ∀ x, (encs x).size = ps.size)
    (I : List α → World → Prop) (Ix : Code → List α → World → Prop) (hI : OwnFrom w.heap.size I) (hIx : ∀ c, OwnFrom w.heap.size (Ix c)) (hIF : ∀ s A B, I s A → Fr A B → I s B) (hIxF : ∀ c s A B, Ix c s A → Fr A B → Ix c s B) (h0 : I [] w)
    (hround : ∀ (l : Nat) (pre : List α) (x : α) (W : World), l = w.heap.size + 1 → (∃ r, W.heap[l]? = some (.loop r)) → I pre W → R x W → pre.length < N →
      assign.wpIn (F.inRound l) (n - 1 - 1) P (Exit.then (fun a' Wa => KeepsFrom w.heap.size W Wa ∧ ∀ o : Obj, o.isCells = false → o.isWalk = false → body.wpIn (F.inRound l) (n - 1 - 1) P (roundPostF w.heap.size Kp Kf I Ix (pre ++ [x]) W (Wa.putObj l o)) a' (Wa.putObj l o)) (fun _ _ _ => False))
        { tmps := (ps.zip (encs x)).foldl (fun t (p, v) => t.setIfInBounds p v) a.tmps, defers := [] } W)
    (hdone : ∀ (D : Nat) (xs : List α) (W : World), w.heap.size ≤ D → S xs W → I xs W → W.heap[D]? = some (.deferred (some [])) → Q .normal { a with defers := { target := .collected D, args := #[] } :: a.defers } W)
    (hstop : ∀ (D : Nat) (c : Code) (pre : List α) (W : World), w.heap.size ≤ D → Sp pre → Ix c pre W → W.heap[D]? = some (.deferred (some [])) → c.wpIn F n P Q { a with defers := { target := .collected D, args := #[] } :: a.defers } W) :
    (Code.rangeFunc g ps assign body).wpIn F n P Q a w := by
  refine wpIn_rangeFunc ?_
  intro fn hfn
  rw [hro]
  obtain ⟨rec, hrec⟩ : ∃ rec : LoopState → Option Code → Loop, rec = fun st pe => { state := st, pending := pe, fn, tmps := a.tmps, params := ps, assign, body, defers := w.heap.size } := ⟨_, rfl⟩
  -- the two blocks of book-keeping
  have blocks : ∀ V : World, V = (w.alloc (.deferred (some []))).alloc (.loop (rec .ready none)) → V.heap.size = w.heap.size + 2 ∧ V.heap[w.heap.size + 1]? = some (.loop (rec .ready none)) ∧ V.heap[w.heap.size]? = some (.deferred (some [])) ∧ Below w.heap.size w V ∧ I [] V := by
    rintro V rfl
    have e := World.alloc_heap_new (w.alloc (.deferred (some []))) (.loop (rec .ready none))
    rw [World.size_alloc] at e
    exact ⟨by simp, e, (Below.heap_alloc _ _ _ (by simp)).trans (World.alloc_heap_new w _), ((Below.refl _ w).alloc (Nat.le_refl _) _).alloc (by simp) _, hI.alloc _ (hI.alloc _ h0)⟩
  obtain ⟨V, hV⟩ : ∃ V, (w.alloc (.deferred (some []))).alloc (.loop (rec .ready none)) = V := ⟨_, rfl⟩
  obtain ⟨hVs, hVl, hVd, hVb, hVi⟩ := blocks V hV.symm
  refine ⟨w.heap.size + 1, [{ target := .collected w.heap.size, args := #[] }], V, { target := .fn (.func gf) lb, args := #[.func (.yield (w.heap.size + 1)) #[] #[]] }, V, gf,
    #[.func (.yield (w.heap.size + 1)) #[] #[]] ++ lb, V, ?_, ?_, ?_, ?_, fun _ => h1, ?_⟩
  · rw [← hV, hrec]; exact run_enterLoop_outer _ _ _ _ _
  · simp only [resolve, hg]; simp [go_sem]
  · intro f' hf'; simp [Target.leads] at hf'; subst hf'; exact hFg
  · simp [invoke, go_sem, eg]
  refine (hseq (w.heap.size + 1)
    (fun pre W => I pre W ∧ W.heap[w.heap.size + 1]? = some (.loop (rec .ready none)) ∧ W.heap[w.heap.size]? = some (.deferred (some [])))
    (fun pre W => ∃ c, Ix c pre W ∧ W.heap[w.heap.size + 1]? = some (.loop (rec .done (some c))) ∧ W.heap[w.heap.size]? = some (.deferred (some [])))
    V (hb0.trans (hVb.mono hb0.size)) (by have := hb0.size; omega)
    (fun s A B hs hf => ⟨hIF s A B hs.1 hf, hFr A B _ _ hf hs.2.1 (.inl ⟨_, rfl⟩), hFr A B _ _ hf hs.2.2 (.inr ⟨_, rfl⟩)⟩)
    (fun s A B hs hf => by
      obtain ⟨c, hc, hl, hk⟩ := hs
      exact ⟨c, hIxF c s A B hc hf, hFr A B _ _ hf hl (.inl ⟨_, rfl⟩), hFr A B _ _ hf hk (.inr ⟨_, rfl⟩)⟩)
    ?_ ⟨hVi, hVl, hVd⟩).mono ?_
  · rintro pre x W ⟨hi, hl, hk⟩ hx hlen
    have hlt : w.heap.size + 1 < W.heap.size := (Array.getElem?_eq_some_iff.1 hl).1
    have hy := run_yield (P := P) (args := encs x) hl (by rw [hrec]; exact hps x)
    rw [hrec] at hy
    refine ⟨fn, _, assign, body, hy, roundIn_of_wpIn hfn (wpIn_mono (hround (w.heap.size + 1) pre x W rfl ⟨_, hl⟩ hi hx hlen) ?_)⟩
    intro e a' Wa hp
    cases e with
    | normal =>
      obtain ⟨hka, hb⟩ := hp
      have la := hka.same _ _ (by omega) hl rfl
      have ka := hka.same _ _ (Nat.le_refl _) hk rfl
      have lta : w.heap.size + 1 < Wa.heap.size := (Array.getElem?_eq_some_iff.1 la).1
      refine ⟨_, run_beginRound la (by rw [hrec]), wpIn_mono (hb _ rfl rfl) ?_⟩
      have l2 : (Wa.putObj (w.heap.size + 1) (.loop { rec .ready none with state := .busy })).heap[w.heap.size + 1]? = some (.loop { rec .ready none with state := .busy }) := World.putObj_heap_same lta
      have k2 : (Wa.putObj (w.heap.size + 1) (.loop { rec .ready none with state := .busy })).heap[w.heap.size]? = some (.deferred (some [])) := (World.putObj_heap_other (by omega)).trans ka
      have fin : ∀ (jump : Option Code) (W3 : World), KeepsFrom w.heap.size (Wa.putObj (w.heap.size + 1) (.loop { rec .ready none with state := .busy })) W3 →
          (Instr.endRound (w.heap.size + 1) jump).run P W3 = .ok (.bool jump.isNone) (W3.putObj (w.heap.size + 1) (.loop (rec (if jump.isNone then .ready else .done) jump))) ∧
          W3.heap[w.heap.size + 1]? = some (.loop { rec .ready none with state := .busy }) ∧
          (W3.putObj (w.heap.size + 1) (.loop (rec (if jump.isNone then .ready else .done) jump))).heap[w.heap.size + 1]? = some (.loop (rec (if jump.isNone then .ready else .done) jump)) ∧
          (W3.putObj (w.heap.size + 1) (.loop (rec (if jump.isNone then .ready else .done) jump))).heap[w.heap.size]? = some (.deferred (some [])) := fun jump W3 h3 => by
        have l3 := h3.same _ _ (by omega) l2 rfl
        have r3 := run_endRound (P := P) jump l3
        rw [hrec] at r3 ⊢
        exact ⟨r3, by rw [hrec] at l3; exact l3, World.putObj_heap_same (Array.getElem?_eq_some_iff.1 l3).1, (World.putObj_heap_other (by omega)).trans (h3.same _ _ (Nat.le_refl _) k2 rfl)⟩
      rintro e3 a3 W3 hq
      cases e3 with
      | normal =>
        obtain ⟨h3, kp3, i3⟩ := hq
        obtain ⟨r, l3, l4, k4⟩ := fin none W3 h3
        exact ⟨_, _, r, .inl ⟨rfl, ⟨hI.putObj _ i3 (by omega) l3 rfl, l4, k4⟩, hKt kp3 (hKb _ _ _ _ rfl l3 rfl rfl)⟩⟩
      | ret =>
        obtain ⟨h3, kp3, i3⟩ := hq
        obtain ⟨r, l3, l4, k4⟩ := fin (some .ret) W3 h3
        exact ⟨_, _, r, .inr ⟨rfl, ⟨.ret, (hIx _).putObj _ i3 (by omega) l3 rfl, l4, k4⟩, hKf _ _ _ _ _ rfl kp3 l3 rfl rfl⟩⟩
      | exit id =>
        obtain ⟨h3, kp3, i3⟩ := hq
        obtain ⟨r, l3, l4, k4⟩ := fin (some (.exit id)) W3 h3
        exact ⟨_, _, r, .inr ⟨rfl, ⟨.exit id, (hIx _).putObj _ i3 (by omega) l3 rfl, l4, k4⟩, hKf _ _ _ _ _ rfl kp3 l3 rfl rfl⟩⟩
      | goto t =>
        obtain ⟨h3, kp3, i3⟩ := hq
        obtain ⟨r, l3, l4, k4⟩ := fin (some (.goto t)) W3 h3
        exact ⟨_, _, r, .inr ⟨rfl, ⟨.goto t, (hIx _).putObj _ i3 (by omega) l3 rfl, l4, k4⟩, hKf _ _ _ _ _ rfl kp3 l3 rfl rfl⟩⟩
      | panic ch => exact hq.elim
      | outgrown => exact hq.elim
    | ret => exact hp.elim
    | exit id => exact hp.elim
    | goto t => exact hp.elim
    | panic ch => exact hp.elim
    | outgrown => exact hp.elim
  · rintro e W2 ⟨⟨v, rfl⟩, (⟨xs, hSx, hi, hl, hk⟩ | ⟨pre, hSp, c, hi, hl, hk⟩)⟩
    · exact ⟨none, _, by have := run_endLoop (P := P) hl (by rw [hrec]; simp); rw [hrec] at this; exact this, hdone _ xs _ (Nat.le_refl _) (hS.putObj _ hSx (by omega) hl rfl) (hI.putObj _ hi (by omega) hl rfl) ((World.putObj_heap_other (by omega)).trans hk)⟩
    · exact ⟨some c, _, by have := run_endLoop (P := P) hl (by rw [hrec]; simp); rw [hrec] at this; exact this, hstop _ c pre _ (Nat.le_refl _) hSp ((hIx c).putObj _ hi (by omega) hl rfl) ((World.putObj_heap_other (by omega)).trans hk)⟩
end Go.Proofs.YtfnimmbmcjgdpaaDoor
