/- Mathematics of ParsePart: a part by itself. · Mathematics of ParsePart: the three patterns. · A tree in a box of its own. -/
import Derived.Test.YtdcielcniboloaaGreatDoorGp43
import Derived.Test.YtdcielcniboloaaGreatDoorGp6
import Derived.Test.YtdcielcniboloaaGreatDoorGp15
namespace Go.Proofs.YtdcielcniboloaaGreatDoor
open Lx (Tk TR LR)
open Ps (TL)
set_option linter.unusedVariables false
namespace Ps
/-- A text that is read as a tree: its tokens, and the tree of them. -/
structure TreeOf (s : ByteArray) (f : Int) (x : Nd) (T : TL) (g : Int) : Prop where
  lex : Lx.lexR s 0 false [] = .ok T
  kinds : ∀ p ∈ T, 1 ≤ p.2.kind ∧ p.2.kind ≤ 13
  alt : ∃ f', altP (3 * (T.length + 1) + 3) (T ++ [endT s.size]) f 0 [] = .ok x [endT s.size] f' g
  check : Td.checkN x = 0
  wd : Wd x 0 g
  names : Td.groups (Td.all 1000 1 x) = opN T
  num : g = (opN T).length
  snd : ∀ p ∈ T, Snd p.2
  size : ∀ k, sz k x ≤ 4 * (T.length + 1) + 1
  len : T.length ≤ s.size
theorem snd_all {T : TL} (h : ∀ p ∈ T, Snd p.2) (n : Nat) : ∀ p ∈ T ++ [endT n], Snd p.2 := fun p hp => by
  rcases List.mem_append.1 hp with hp | hp
  · exact h p hp
  · simp at hp; subst hp; exact snd_end n
theorem tree_of {s : ByteArray} {f : Int} (hs : s.size ≤ 4096) {x : Nd} {a c : Int} (h : parseF s f = (some x, a, c)) : ∃ T g, TreeOf s f x T g := by
  obtain ⟨_, _, T0, r1, _, rc, rg, _⟩ := (parse_right s f hs).yes x a c h
  unfold parseF at h
  cases hR : Lx.lexR s 0 false [] with
  | bad o c => rw [hR] at h; cases h
  | ok T =>
    rw [hR] at h r1
    dsimp only at h
    injection r1 with r1
    subst r1
    have hris := (Lx.lex_rises hR).1
    have hfin := Lx.lex_fine hR
    have hkinds := Lx.Ris.kinds hris
    have hsnd := lex_snd hR
    have hE : Ends (T ++ [endT s.size]) := ends_of s.size hkinds
    have hsf := (sf_all (3 * (T.length + 1) + 3)).1 (T ++ [endT s.size]) f 0 []
    have hen := (ends_all (3 * (T.length + 1) + 3)).1 (T ++ [endT s.size]) f 0 [] hE
    have hst := stop_alt (3 * (T.length + 1) + 3) (T ++ [endT s.size]) f 0 []
    have hsz := (sz_all (3 * (T.length + 1) + 3)).1 (T ++ [endT s.size]) f 0 [] 0 (fun k => by simp [szL])
    have hgn := (gn_all (3 * (T.length + 1) + 3)).1 (T ++ [endT s.size]) f 0 [] [] (fun p hp h9 => by
      rcases List.mem_append.1 hp with hp | hp
      · exact (hfin p hp).2.2.2.2.1 h9
      · simp at hp; subst hp; exact .inl rfl) GnL.nil
    cases hA : altP (3 * (T.length + 1) + 3) (T ++ [endT s.size]) f 0 [] with
    | bad a c => rw [hA] at h; cases h
    | ok y L' f' g' =>
      rw [hA] at hsf hen hst h
      have h2 := hsz y L' f' g' hA
      obtain ⟨m, _, g2, g3⟩ := hgn y L' f' g' hA
      unfold patF at h
      dsimp only at h
      by_cases h11 : kd L' = 11
      · rw [if_pos h11] at h; cases h
      rw [if_neg h11] at h
      by_cases hc : Td.checkN y = 0
      · rw [if_pos hc] at h
        injection h with h0 h
        injection h0 with h0
        subst h0
        have hk0 : kd L' = 0 := by
          have h9 : kd L' = 11 ∨ kd L' = 0 := hst
          omega
        have hl' := end_of hkinds rfl hsf (Ends.ne hen) hk0
        subst hl'
        have e1 : opN [endT s.size] = [] := rfl
        rw [opN_append, e1, List.append_nil, List.append_nil] at g2
        exact ⟨T, g', hR, hkinds, ⟨f', hA⟩, hc, ((wd_all _).1 _ _ _ _ 0 (snd_all hsnd s.size) (Int.le_refl _) (Int.le_refl _) (WdL.nil 0) _ _ _ _ hA).1, rg, by rw [g2]; omega, hsnd, fun k => by
          have := h2 k
          simp only [List.length_append, List.length_singleton] at this
          omega, by have := lex_len (s.size + 2) 0 false [] T hR; simpa using this⟩
      · rw [if_neg hc] at h; injection h with h; cases h
theorem shT_shT (d e : Int) (L : TL) : shT d (shT e L) = shT (e + d) L := by
  unfold shT
  rw [List.map_map]
  exact List.map_congr_left (fun p _ => by show (p.1 + e + d, p.2) = (p.1 + (e + d), p.2); rw [Int.add_assoc])
theorem shT_zero (L : TL) : shT 0 L = L := by
  unfold shT
  exact (List.map_congr_left (fun p _ => by rw [Int.add_zero]; rfl)).trans (List.map_id _)
theorem fl_open (f : Int) : Fl f (turnP f Lx.openT) := fun b hb => by
  rw [has_turn f _ hb]
  have h0 : hasP 0 b = false := by rcases hb with rfl | rfl | rfl | rfl <;> rfl
  show hasP f b = ((hasP f b || hasP 0 b) && !hasP 0 b)
  rw [h0]; simp
/-- A part between brackets: its tree, and what stands behind the bracket. -/
theorem atom_part {s : ByteArray} {f : Int} {x : Nd} {T : TL} {g : Int} (h : TreeOf s f x T g) (d p q : Int) (Z : TL) (hZ : Ends Z) (hZ9 : ∀ p ∈ Z, p.2.kind = 9 → 0 ≤ p.2.num) (G : Int) (hG : G = 0 ∨ g = 0) (f2 : Int) (hf : Fl f f2) :
    atomP (3 * (T.length + 1) + 4) ((p, Lx.openT) :: (shT d T ++ ((q, Lx.closeT) :: Z))) f2 G = .ok x Z f2 (G + g) := by
  obtain ⟨f', hA⟩ := h.alt
  have hsw := (swap_all (endT s.size) ((q - d, Lx.closeT) :: shT (-d) Z) rfl (.inr rfl) (3 * (T.length + 1) + 3)).1 T f 0 [] (fun p hp => (h.kinds p hp).1)
  rw [hA] at hsw
  obtain ⟨D, e1, _, e3⟩ := hsw
  have eD : D = [] := by
    cases D with
    | nil => rfl
    | cons a D =>
      have := congrArg List.length e1
      simp at this
  subst eD
  rw [List.nil_append] at e3
  have hEnd : Ends (T ++ ((q - d, Lx.closeT) :: shT (-d) Z)) := by
    obtain ⟨A, z, rfl, hz, hA2⟩ := hZ
    refine ⟨T ++ ((q - d, Lx.closeT) :: shT (-d) A), (z.1 + -d, z.2), by rw [shT_append]; simp [shT], hz, fun p hp => ?_⟩
    rcases List.mem_append.1 hp with hp | hp
    · exact h.kinds p hp
    · rcases List.mem_cons.1 hp with rfl | hp
      · exact ⟨by show (1 : Int) ≤ 11; decide, by show (11 : Int) ≤ 13; decide⟩
      · obtain ⟨p', hp', rfl⟩ := List.mem_map.1 hp
        exact hA2 p' hp'
  have hfl : Fl f (turnP f2 Lx.openT) := fun b hb => (hf b hb).trans (fl_open f2 b hb)
  have hsim := (sim_all d (3 * (T.length + 1) + 3)).1 _ f (turnP f2 Lx.openT) 0 [] hEnd hfl
  rw [e3] at hsim
  obtain ⟨f3, e4, _, _⟩ := hsim
  have e5 : shT d (T ++ ((q - d, Lx.closeT) :: shT (-d) Z)) = shT d T ++ ((q, Lx.closeT) :: Z) := by
    rw [shT_append, shT_cons, shT_shT, show -d + d = 0 by omega, shT_zero, show q - d + d = q by omega]
  have e6 : shT d ((q - d, Lx.closeT) :: shT (-d) Z) = (q, Lx.closeT) :: Z := by
    rw [shT_cons, shT_shT, show -d + d = 0 by omega, shT_zero, show q - d + d = q by omega]
  rw [e5, e6] at e4
  have e7 : altP (3 * (T.length + 1) + 3) (shT d T ++ ((q, Lx.closeT) :: Z)) (turnP f2 Lx.openT) G [] = .ok x ((q, Lx.closeT) :: Z) f3 (G + g) := by
    rcases hG with rfl | rfl
    · rw [e4, Int.zero_add]
    · have hfr := (free_all (3 * (T.length + 1) + 3)).1 (shT d T ++ ((q, Lx.closeT) :: Z)) (turnP f2 Lx.openT) 0 G [] (fun p hp h9 => by
        rcases List.mem_append.1 hp with hp | hp
        · obtain ⟨p', hp', rfl⟩ := List.mem_map.1 hp
          have := ((h.snd p' hp').2.2.2 h9).1
          show 0 ≤ p'.2.num
          omega
        · rcases List.mem_cons.1 hp with rfl | hp
          · exact Int.le_refl 0
          · exact hZ9 p hp h9)
      rw [e4] at hfr
      rw [hfr.2 rfl, Int.add_zero]
  rw [atomP_eq]
  have k9 : kd ((p, Lx.openT) :: (shT d T ++ ((q, Lx.closeT) :: Z))) = 9 := rfl
  rw [if_pos k9]
  have e8 : altP (3 * (T.length + 1) + 3) ((p, Lx.openT) :: (shT d T ++ ((q, Lx.closeT) :: Z))).tail (turnP f2 (hd ((p, Lx.openT) :: (shT d T ++ ((q, Lx.closeT) :: Z))))) (G + (hd ((p, Lx.openT) :: (shT d T ++ ((q, Lx.closeT) :: Z)))).num) [] = .ok x ((q, Lx.closeT) :: Z) f3 (G + g) := by
    rw [← e7]
    show altP _ _ _ (G + 0) [] = altP _ _ _ G []
    rw [Int.add_zero]
    rfl
  rw [e8]
  rfl
theorem seq_atom {n : Nat} {p : Int × Tk} {L : TL} {f g : Int} (hp : p.2.kind = 9) {x : Nd} {Z : TL} {f1 g1 : Int} (h : atomP n (p :: L) f g = .ok x Z f1 g1) : seqP (n + 1) (p :: L) f g [] = seqP n (repT Z) f1 g1 [repN f1 x Z] := by
  rw [seqP_eq n (p :: L) f g []]
  have hk : kd (p :: L) = 9 := hp
  rw [hk, if_neg (by decide), if_neg (by decide), if_neg (by decide), h]
  rfl
theorem seq_end (n : Nat) {p : Int × Tk} (L : TL) (f g : Int) (x : Nd) (hp : p.2.kind = 0 ∨ p.2.kind = 12) : seqP (n + 1) (p :: L) f g [x] = .ok x (p :: L) f g := by
  rw [seqP_eq n (p :: L) f g [x]]
  have hk : kd (p :: L) = p.2.kind := rfl
  rw [hk, if_pos (by omega)]
  rfl
theorem alt_last {n : Nat} {L : TL} {f g : Int} {S : List Nd} {x : Nd} {z : Int × Tk} {f1 g1 : Int} (hz : z.2.kind = 0) (h : seqP n L f g [] = .ok x [z] f1 g1) : altP (n + 1) L f g S = .ok (joinN 8 (S ++ [x])) [z] f1 g1 := by
  rw [altP_eq, h]
  dsimp only
  have hk : kd [z] = 0 := hz
  rw [hk, if_neg (by decide)]
theorem alt_bar {n : Nat} {L M : TL} {f g : Int} {S : List Nd} {x : Nd} {z : Int × Tk} {f1 g1 : Int} (hz : z.2.kind = 12) (h : seqP n L f g [] = .ok x (z :: M) f1 g1) : altP (n + 1) L f g S = altP n M f1 g1 (S ++ [x]) := by
  rw [altP_eq, h]
  dsimp only
  have hk : kd (z :: M) = 12 := hz
  rw [hk, if_pos rfl]
  rfl
theorem dep_sz : ∀ (k : Nat) (n : Nd), Td.dep k n ≤ sz k n
  | 0, n => Nat.le_refl _
  | k + 1, n => by
    rw [Td.dep, sz]
    have e : ∀ (l : List Nd) (a : Nat), (l.map (Td.dep k)).foldl max a ≤ a + (l.map (sz k)).sum := by
      intro l
      induction l with
      | nil => intro a; simp
      | cons m l ih =>
        intro a
        have h1 := dep_sz k m
        have h2 := ih (max a (Td.dep k m))
        rw [List.map_cons, List.map_cons, List.foldl_cons, List.sum_cons]
        omega
    have := e (Td.subs n) 0
    omega
theorem foldl_max_mono {l : List Nd} {u v : Nd → Nat} (h : ∀ m, u m ≤ v m) : ∀ {a b : Nat}, a ≤ b → (l.map u).foldl max a ≤ (l.map v).foldl max b := by
  induction l with
  | nil => intro a b h; exact h
  | cons m l ih =>
    intro a b hab
    rw [List.map_cons, List.map_cons, List.foldl_cons, List.foldl_cons]
    have := h m
    exact ih (by omega)
theorem dep_mono : ∀ (k : Nat) (n : Nd), Td.dep k n ≤ Td.dep (k + 1) n
  | 0, n => Nat.zero_le _
  | k + 1, n => by
    rw [Td.dep, Td.dep]
    have := foldl_max_mono (l := Td.subs n) (fun m => dep_mono k m) (Nat.le_refl 0)
    omega
theorem chk_snd : ∀ (L M : List (Nat × Nd)) (T : List ByteArray), L.map (·.2) = M.map (·.2) → Td.chkF T L = Td.chkF T M
  | [], [], T, _ => rfl
  | [], _ :: _, T, h => by cases h
  | _ :: _, [], T, h => by cases h
  | p :: L, q :: M, T, h => by
    injection h with h1 h2
    have h1' : p.2 = q.2 := h1
    rw [Td.chkF, Td.chkF, h1', chk_snd L M T h2, chk_snd L M (T ++ [Td.name q.2]) h2]
theorem all_snd : ∀ (k d e : Nat) (n : Nd), (Td.all k d n).map (·.2) = (Td.all k e n).map (·.2)
  | 0, d, e, n => rfl
  | k + 1, d, e, n => by
    rw [Td.all, Td.all, List.map_cons, List.map_cons]
    congr 1
    have h : ∀ l : List Nd, (l.flatMap (Td.all k (d + 1))).map (·.2) = (l.flatMap (Td.all k (e + 1))).map (·.2) := by
      intro l
      induction l with
      | nil => rfl
      | cons m l ih => rw [List.flatMap_cons, List.flatMap_cons, List.map_append, List.map_append, ih, all_snd k (d + 1) (e + 1) m]
    exact h _
theorem chk_app : ∀ (A B : List (Nat × Nd)) (T : List ByteArray), Td.chkF T A = 0 → (∀ p ∈ B, Td.fitsB p.2 = true ∧ Td.kind p.2 ≠ 6) → Td.chkF T (A ++ B) = 0
  | [], B, T, _, hB => by
    rw [List.nil_append]
    induction B with
    | nil => rfl
    | cons p B ih =>
      have hp := hB p (by simp)
      rw [Td.chkF, if_neg (by rw [hp.1]; decide), if_pos hp.2]
      exact ih (fun q hq => hB q (by simp [hq]))
  | p :: A, B, T, hA, hB => by
    rw [List.cons_append]
    rw [Td.chkF] at hA ⊢
    by_cases c1 : Td.fitsB p.2 = false
    · rw [if_pos c1] at hA; cases hA
    rw [if_neg c1] at hA ⊢
    by_cases c2 : Td.kind p.2 ≠ 6
    · rw [if_pos c2] at hA ⊢; exact chk_app A B T hA hB
    rw [if_neg c2] at hA ⊢
    by_cases c3 : Td.num p.2 ≠ (T.length : Int) + 1
    · rw [if_pos c3] at hA; cases hA
    rw [if_neg c3] at hA ⊢
    by_cases c4 : 31 < Td.num p.2
    · rw [if_pos c4] at hA; cases hA
    rw [if_neg c4] at hA ⊢
    by_cases c5 : Td.hit T (Td.name p.2) = true
    · rw [if_pos c5] at hA; cases hA
    rw [if_neg c5] at hA ⊢
    exact chk_app A B _ hA hB
theorem no_groups : ∀ {L : List (Nat × Nd)}, Td.groups L = [] → ∀ p ∈ L, Td.kind p.2 ≠ 6 := by
  intro L h p hp e
  unfold Td.groups at h
  have h1 := List.map_eq_nil_iff.1 h
  have : p ∈ L.filter fun p => Td.kind p.2 == 6 := List.mem_filter.2 ⟨hp, by simpa using e⟩
  rw [h1] at this
  cases this
/-- A tree that is right, and not deep, one step further down. -/
theorem chk_down {x : Nd} (hd : Td.dep 1001 x ≤ 999) (hc : Td.checkN x = 0) : Td.chkF [] (Td.all 999 2 x) = 0 := by
  unfold Td.checkN at hc
  rw [if_neg (by omega)] at hc
  rw [← hc]
  refine chk_snd _ _ _ ?_
  have hd2 : Td.dep (999 + 1) x ≤ 999 := by
    have : Td.dep 1000 x ≤ Td.dep 1001 x := dep_mono 1000 x
    show Td.dep 1000 x ≤ 999
    omega
  rw [show (1000 : Nat) = 999 + 1 from rfl, all_stable 999 x hd2 1 1]
  exact all_snd 999 2 1 x
end Ps
end Go.Proofs.YtdcielcniboloaaGreatDoor
namespace Go.Proofs.YtdcielcniboloaaGreatDoor
open Lx (Tk TR LR)
open Ps (TL)
set_option linter.unusedVariables false
namespace Ps
/-- A text between (?: and a closing bracket. -/
def partB (s : ByteArray) : ByteArray := Lx.openB ++ (s ++ Lx.closeB)
theorem part_size (s : ByteArray) : (partB s).size = s.size + 4 := by
  unfold partB
  rw [ByteArray.size_append, ByteArray.size_append]
  show 3 + (s.size + 1) = _
  omega
/-- All tokens, with the bracket its own. -/
def ClosedX (s : ByteArray) : Prop := ∃ B tk, Lx.lexR (partB s) 0 false [] = .ok B ∧ B.getLast? = some ((s.size : Int) + 3, tk) ∧ tk.kind = 11
theorem part_lex {s : ByteArray} {T : TL} (h : Lx.lexR s 0 false [] = .ok T) (hc : ClosedX s) : Lx.lexR (partB s) 0 false [] = .ok ((0, Lx.openT) :: (shT 3 T ++ [((s.size : Int) + 3, Lx.closeT)])) := by
  obtain ⟨B, tk, h1, h2, h3⟩ := hc
  have e1 := Lx.lex_open (s ++ Lx.closeB)
  rw [show Lx.openB ++ (s ++ Lx.closeB) = partB s from rfl, h1] at e1
  cases hR : Lx.lexR (s ++ Lx.closeB) 0 false [] with
  | bad o c => rw [hR] at e1; cases e1
  | ok B' =>
    rw [hR] at e1
    have e1 : B = [((0 : Int), Lx.openT)] ++ shift ((3 : Nat) : Int) B' := LR.ok.inj e1
    have hne : B' ≠ [] := by
      intro e
      have h2' : some ((0 : Int), Lx.openT) = some ((s.size : Int) + 3, tk) := by rw [← h2, e1, e]; rfl
      have h4 := congrArg Prod.snd (Option.some.inj h2')
      rw [← (show Lx.openT = tk from h4)] at h3
      exact absurd h3 (show ¬ (9 : Int) = 11 by decide)
    have hl : ∃ tk : Tk, B'.getLast? = some ((s.size : Int), tk) ∧ tk.kind = 11 := by
      have h5 : B.getLast? = (shift 3 B').getLast? := by
        rw [e1, List.getLast?_append]
        have : (shift (3 : Int) B').getLast? ≠ none := by
          rw [ne_eq, List.getLast?_eq_none_iff]
          unfold shift
          simpa using hne
        cases hq : (shift (3 : Int) B').getLast? with
        | none => exact absurd hq this
        | some v =>
          rfl
      rw [h2] at h5
      unfold shift at h5
      rw [List.getLast?_map] at h5
      cases hq : B'.getLast? with
      | none => rw [hq] at h5; cases h5
      | some v =>
        rw [hq] at h5
        have h6 := Option.some.inj h5
        have h7 := congrArg Prod.fst h6
        have h8 := congrArg Prod.snd h6
        have h7' : (s.size : Int) + 3 = v.1 + 3 := h7
        have h8' : tk = v.2 := h8
        exact ⟨v.2, by rw [show (s.size : Int) = v.1 by omega], by rw [← h8']; exact h3⟩
    have e2 := Lx.lex_closed h hR hl
    rw [h1, e1, e2]
    show LR.ok ((0, Lx.openT) :: shT 3 (T ++ [((s.size : Int), Lx.closeT)])) = _
    rw [shT_append]
    rfl
theorem part_last (s : ByteArray) : (Utf.nums (partB s))[(partB s).size - 1]? = some 41 := by
  have h := Utf.nums_length s
  rw [part_size]
  unfold partB
  rw [Br.nums_append', Br.nums_append', List.getElem?_append_right (by show 3 ≤ _; omega), List.getElem?_append_right (by show (Utf.nums s).length ≤ s.size + 4 - 1 - 3; omega)]
  show [(41 : Int)][s.size + 4 - 1 - 3 - (Utf.nums s).length]? = _
  rw [show s.size + 4 - 1 - 3 - (Utf.nums s).length = 0 by omega]
  rfl
/-- Behind a part another text has its own tokens. -/
theorem part_join {s : ByteArray} {T : TL} (h : Lx.lexR s 0 false [] = .ok T) (hc : ClosedX s) (u : ByteArray) : Lx.lexR (partB s ++ u) 0 false [] = Lx.behind (s.size + 4) ((0, Lx.openT) :: (shT 3 T ++ [((s.size : Int) + 3, Lx.closeT)])) (Lx.lexR u 0 false []) := by
  have e := Lx.lex_joined (partB s) u (part_last s) (by rw [part_size]; omega) (part_lex h hc) ⟨Lx.closeT, by
    rw [part_size, show (((s.size + 4 : Nat) : Int) - 1) = (s.size : Int) + 3 by omega, ← List.cons_append, List.getLast?_append]; rfl, rfl⟩
  rw [part_size] at e
  exact e
/-- A leaf of tokens that is read as a tree. -/
theorem parse_of {u : ByteArray} {f : Int} {L : TL} {x : Nd} {n : Nat} (hl : Lx.lexR u 0 false [] = .ok L) (hn : n ≤ 3 * (L.length + 1) + 3) (h : ∃ f1 g1, altP n (L ++ [endT u.size]) f 0 [] = .ok x [endT u.size] f1 g1) (hc : Td.checkN x = 0) : parseF u f = (some x, 0, 0) := by
  obtain ⟨f1, g1, h⟩ := h
  unfold parseF
  rw [hl]
  dsimp only
  rw [alt_fuel hn (by rw [h]; trivial), h]
  unfold patF
  dsimp only
  rw [if_neg (show ¬ kd [endT u.size] = 11 from (by decide : ¬ (0 : Int) = 11)), if_pos hc]
theorem ends_end (n : Nat) : Ends [endT n] := ⟨[], endT n, rfl, rfl, fun p hp => by cases hp⟩
theorem ends_cons {p : Int × Tk} {Z : TL} (hp : 1 ≤ p.2.kind ∧ p.2.kind ≤ 13) (h : Ends Z) : Ends (p :: Z) := by
  obtain ⟨A, z, rfl, hz, hA⟩ := h
  exact ⟨p :: A, z, rfl, hz, fun q hq => by
    rcases List.mem_cons.1 hq with rfl | hq
    · exact hp
    · exact hA q hq⟩
theorem ends_app {T Z : TL} (hT : ∀ p ∈ T, 1 ≤ p.2.kind ∧ p.2.kind ≤ 13) (h : Ends Z) : Ends (T ++ Z) := by
  obtain ⟨A, z, rfl, hz, hA⟩ := h
  refine ⟨T ++ A, z, (List.append_assoc _ _ _).symm, hz, fun q hq => ?_⟩
  rcases List.mem_append.1 hq with hq | hq
  · exact hT q hq
  · exact hA q hq
theorem sh_kinds {T : TL} (h : ∀ p ∈ T, 1 ≤ p.2.kind ∧ p.2.kind ≤ 13) (d : Int) : ∀ p ∈ shT d T, 1 ≤ p.2.kind ∧ p.2.kind ≤ 13 := fun p hp => by
  obtain ⟨q, hq, rfl⟩ := List.mem_map.1 hp
  exact h q hq
theorem part_parse {s : ByteArray} {f : Int} {x : Nd} {T : TL} {g : Int} (h : TreeOf s f x T g) (hc : ClosedX s) : parseF (partB s) f = (some x, 0, 0) := by
  have hl := part_lex h.lex hc
  have ha := atom_part h 3 0 ((s.size : Int) + 3) [endT (partB s).size] (ends_end _) (fun p hp h9 => by simp at hp; subst hp; exact Int.le_refl 0) 0 (.inl rfl) f (Fl.refl f)
  refine parse_of (n := 3 * (T.length + 1) + 6) hl (by simp [shT]; omega) ?_ h.check
  have e : ((0, Lx.openT) :: (shT 3 T ++ [((s.size : Int) + 3, Lx.closeT)])) ++ [endT (partB s).size] = (0, Lx.openT) :: (shT 3 T ++ (((s.size : Int) + 3, Lx.closeT) :: [endT (partB s).size])) := by simp
  rw [e]
  have hs := seq_atom (n := 3 * (T.length + 1) + 4) rfl ha
  have hr : repT [endT (partB s).size] = [endT (partB s).size] := rfl
  have hn : repN f x [endT (partB s).size] = x := rfl
  rw [hr, hn, seq_end _ [] f _ x (.inl rfl)] at hs
  exact ⟨_, _, alt_last rfl hs⟩
def timesB : ByteArray := ⟨#[123, 50, 44, 51, 125]⟩
theorem times_lex : Lx.lexR timesB 0 false [] = .ok [(0, { kind := 8, mn := 2, mx := 3 })] := by kernel_rfl
def repX (lz : Bool) (x : Nd) : Nd := .mk 9 [] 0 ⟨#[]⟩ 2 3 lz [x]
def altX (x y : Nd) : Nd := .mk 8 [] 0 ⟨#[]⟩ 0 0 false [x, y]
theorem chk_one {z : Nd} (hf : Td.fitsB z = true) (h6 : Td.kind z ≠ 6) {L : List (Nat × Nd)} (hL : (Td.subs z).flatMap (Td.all 999 2) = L) (hd : Td.dep 1001 z ≤ 1000) (hc : Td.chkF [] L = 0) : Td.checkN z = 0 := by
  unfold Td.checkN
  rw [if_neg (by omega)]
  rw [show (1000 : Nat) = 999 + 1 from rfl, Td.all, hL, Td.chkF, if_neg (by rw [hf]; decide), if_pos h6]
  exact hc
theorem TreeOf.dep {s : ByteArray} {f : Int} {x : Nd} {T : TL} {g : Int} (h : TreeOf s f x T g) (hs : s.size ≤ 100) (k : Nat) : Td.dep k x ≤ 405 := by
  have h1 := dep_sz k x
  have h2 := h.size k
  have h3 := h.len
  omega
theorem rep_check {s : ByteArray} {f : Int} {x : Nd} {T : TL} {g : Int} (h : TreeOf s f x T g) (hs : s.size ≤ 100) (lz : Bool) : Td.checkN (repX lz x) = 0 := by
  refine chk_one ?_ (show (9 : Int) ≠ 6 by decide) (L := Td.all 999 2 x) (by show [x].flatMap _ = _; simp) ?_ (chk_down (by have := h.dep hs 1001; omega) h.check)
  · rw [fits_noname rfl]; rfl
  · have := h.dep hs 1000
    rw [Td.dep]
    show ([x].map (Td.dep 1000)).foldl max 0 + 1 ≤ 1000
    simp
    omega
theorem alt_check {s t : ByteArray} {f : Int} {x y : Nd} {T U : TL} {g : Int} (h : TreeOf s f x T g) (hs : s.size ≤ 100) (k : TreeOf t f y U 0) (ht : t.size ≤ 100) : Td.checkN (altX x y) = 0 := by
  have d1 := h.dep hs
  have d2 := k.dep ht
  refine chk_one ?_ (show (8 : Int) ≠ 6 by decide) (L := Td.all 999 2 x ++ Td.all 999 2 y) (by show [x, y].flatMap _ = _; simp) ?_ ?_
  · rw [fits_noname rfl]; rfl
  · have e1 := d1 1000
    have e2 := d2 1000
    rw [Td.dep]
    show ([x, y].map (Td.dep 1000)).foldl max 0 + 1 ≤ 1000
    simp
    omega
  · refine chk_app _ _ _ (chk_down (by have := d1 1001; omega) h.check) (fun p hp => ⟨k.wd.1 999 2 p hp, ?_⟩)
    have h0 : opN U = [] := by
      have := k.num
      exact List.length_eq_zero_iff.1 (by omega)
    have hg : Td.groups (Td.all 999 2 y) = [] := by
      have := k.names
      rw [h0, groups_gL] at this
      rw [groups_gL]
      have h5 := gL_stable 999 y (by have := d2 1000; show Td.dep 1000 y ≤ 999; omega) 1
      rw [← h5]; exact this
    exact no_groups hg p hp
theorem rep_parse {s : ByteArray} {f : Int} {x : Nd} {T : TL} {g : Int} (h : TreeOf s f x T g) (hs : s.size ≤ 100) (hc : ClosedX s) : parseF (partB s ++ timesB) f = (some (repX (hasP f 8) x), 0, 0) := by
  have hl := part_join h.lex hc timesB
  rw [times_lex] at hl
  obtain ⟨r, hr⟩ : ∃ r : Int × Tk, ((((s.size + 4 : Nat) : Int)), ({ kind := 8, mn := 2, mx := 3 } : Tk)) = r := ⟨_, rfl⟩
  have hk : r.2.kind = 8 := by rw [← hr]
  have hl2 : Lx.lexR (partB s ++ timesB) 0 false [] = .ok (((0, Lx.openT) :: (shT 3 T ++ [((s.size : Int) + 3, Lx.closeT)])) ++ [r]) := by
    rw [hl]
    show LR.ok (_ ++ [((0 : Int) + ((s.size + 4 : Nat) : Int), ({ kind := 8, mn := 2, mx := 3 } : Tk))]) = _
    rw [Int.zero_add, hr]
  have hE : Ends (r :: [endT (partB s ++ timesB).size]) := ends_cons (by rw [hk]; decide) (ends_end _)
  have ha := atom_part h 3 0 ((s.size : Int) + 3) (r :: [endT (partB s ++ timesB).size]) hE (fun p hp h9 => by
    rcases List.mem_cons.1 hp with rfl | hp
    · omega
    · simp at hp; subst hp; exact Int.le_refl 0) 0 (.inl rfl) f (Fl.refl f)
  refine parse_of (n := 3 * (T.length + 1) + 6) hl2 (by simp [shT]; omega) ?_ (rep_check h hs _)
  have e : (((0, Lx.openT) :: (shT 3 T ++ [((s.size : Int) + 3, Lx.closeT)])) ++ [r]) ++ [endT (partB s ++ timesB).size] = (0, Lx.openT) :: (shT 3 T ++ (((s.size : Int) + 3, Lx.closeT) :: (r :: [endT (partB s ++ timesB).size]))) := by simp
  rw [e]
  have hq := seq_atom (n := 3 * (T.length + 1) + 4) rfl ha
  have hr2 : repT (r :: [endT (partB s ++ timesB).size]) = [endT (partB s ++ timesB).size] := by
    unfold repT
    rw [if_pos (show kd (r :: [endT (partB s ++ timesB).size]) = 8 from hk)]
    rfl
  have hn : repN f x (r :: [endT (partB s ++ timesB).size]) = repX (hasP f 8) x := by
    unfold repN
    rw [if_pos (show kd (r :: [endT (partB s ++ timesB).size]) = 8 from hk)]
    show Nd.mk 9 [] 0 ⟨#[]⟩ r.2.mn r.2.mx (r.2.lazy != hasP f 8) [x] = _
    rw [← hr]
    show Nd.mk 9 [] 0 ⟨#[]⟩ 2 3 (false != hasP f 8) [x] = _
    rw [Bool.false_bne]
    rfl
  rw [hr2, hn, seq_end _ [] f _ _ (.inl rfl)] at hq
  exact ⟨_, _, alt_last rfl hq⟩
def barB : ByteArray := ⟨#[124]⟩
def barT : Tk := { kind := 12 }
theorem bar_lex (v : ByteArray) : Lx.lexR (barB ++ v) 0 false [] = Lx.behind 1 [(0, barT)] (Lx.lexR v 0 false []) := by
  have hz : (barB ++ v).size = 1 + v.size := ByteArray.size_append ..
  have hnu : Utf.nums (barB ++ v) = 124 :: Utf.nums v := by rw [Br.nums_append']; rfl
  have ht : Lx.turnB false ((Utf.nums (barB ++ v)).drop 0) = false := by rw [List.drop_zero, hnu]; rfl
  have hx : Lx.oneX false ((barB ++ v).extract 0 (barB ++ v).size) = .ok barT 1 := by
    have e : (barB ++ v).extract 0 (barB ++ v).size = barB ++ v := by apply Br.nums_inj'; rw [Br.nums_tail, List.drop_zero]
    rw [e]
    show Lx.tokX (barB ++ v) = _
    unfold Lx.tokX
    dsimp only
    rw [hnu]
    rfl
  rw [Lx.lexR_tok (by omega) ht hx]
  have := Lx.lexR_shift barB v v.size 0 false [(0, barT)] [] (by omega)
  rw [show barB.size = 1 from rfl] at this
  simpa [shift] using this
theorem alt_parse {s t : ByteArray} {f : Int} {x y : Nd} {T U : TL} {g : Int} (h : TreeOf s f x T g) (hs : s.size ≤ 100) (hc : ClosedX s) (k : TreeOf t f y U 0) (ht : t.size ≤ 100) (hd : ClosedX t) :
    parseF (partB s ++ (barB ++ partB t)) f = (some (altX x y), 0, 0) := by
  have hl := part_join h.lex hc (barB ++ partB t)
  rw [bar_lex, part_lex k.lex hd] at hl
  obtain ⟨W, hW⟩ : ∃ W, partB s ++ (barB ++ partB t) = W := ⟨_, rfl⟩
  obtain ⟨D, hD⟩ : ∃ D : Int, (s.size : Int) + 5 = D := ⟨_, rfl⟩
  have hl2 : Lx.lexR W 0 false [] = .ok (((0, Lx.openT) :: (shT 3 T ++ [((s.size : Int) + 3, Lx.closeT)])) ++ (((s.size : Int) + 4, barT) :: (D, Lx.openT) :: (shT (D + 3) U ++ [((t.size : Int) + 3 + D, Lx.closeT)]))) := by
    rw [← hW, hl]
    show LR.ok (_ ++ shT ((s.size + 4 : Nat) : Int) ([(0, barT)] ++ shT ((1 : Nat) : Int) ((0, Lx.openT) :: (shT 3 U ++ [((t.size : Int) + 3, Lx.closeT)])))) = _
    congr 2
    rw [shT_append, shT_shT, shT_cons, shT_cons, shT_append, shT_shT]
    rw [show ((1 : Nat) : Int) + ((s.size + 4 : Nat) : Int) = D by omega, show (3 : Int) + D = D + 3 by omega]
    show (0 + ((s.size + 4 : Nat) : Int), barT) :: (0 + D, Lx.openT) :: (shT (D + 3) U ++ [((t.size : Int) + 3 + D, Lx.closeT)]) = _
    rw [Int.zero_add, Int.zero_add, show ((s.size + 4 : Nat) : Int) = (s.size : Int) + 4 by omega]
  rw [hW]
  have hE2 : Ends [endT W.size] := ends_end _
  have hE : Ends (((s.size : Int) + 4, barT) :: (D, Lx.openT) :: (shT (D + 3) U ++ ((t.size : Int) + 3 + D, Lx.closeT) :: [endT W.size])) :=
    ends_cons (by show (1 : Int) ≤ 12 ∧ (12 : Int) ≤ 13; decide) (ends_cons (by show (1 : Int) ≤ 9 ∧ (9 : Int) ≤ 13; decide) (ends_app (sh_kinds k.kinds _) (ends_cons (by show (1 : Int) ≤ 11 ∧ (11 : Int) ≤ 13; decide) hE2)))
  have ha := atom_part h 3 0 ((s.size : Int) + 3) _ hE (fun p hp h9 => by
    rcases List.mem_cons.1 hp with rfl | hp
    · exact Int.le_refl 0
    rcases List.mem_cons.1 hp with rfl | hp
    · exact Int.le_refl 0
    rcases List.mem_append.1 hp with hp | hp
    · obtain ⟨q, hq, rfl⟩ := List.mem_map.1 hp
      have := ((k.snd q hq).2.2.2 h9).1
      show 0 ≤ q.2.num
      omega
    rcases List.mem_cons.1 hp with rfl | hp
    · exact Int.le_refl 0
    · simp at hp; subst hp; exact Int.le_refl 0) 0 (.inl rfl) f (Fl.refl f)
  have hb := atom_part k (D + 3) D ((t.size : Int) + 3 + D) [endT W.size] hE2 (fun p hp h9 => by simp at hp; subst hp; exact Int.le_refl 0) (0 + g) (.inr rfl) f (Fl.refl f)
  have hq := seq_atom rfl ha
  have hr1 : ∀ Z : TL, repT (((s.size : Int) + 4, barT) :: Z) = ((s.size : Int) + 4, barT) :: Z := fun Z => rfl
  have hn1 : ∀ Z : TL, repN f x (((s.size : Int) + 4, barT) :: Z) = x := fun Z => rfl
  rw [hr1, hn1, seq_end _ _ f _ x (.inr rfl)] at hq
  have hq2 := seq_atom rfl hb
  rw [show repT [endT W.size] = [endT W.size] from rfl, show repN f y [endT W.size] = y from rfl, seq_end _ [] f _ y (.inl rfl)] at hq2
  obtain ⟨M, hM⟩ : ∃ M, 3 * (T.length + U.length + 6) + 2 = M := ⟨_, rfl⟩
  refine parse_of (n := M + 1) hl2 (by simp [shT]; omega) ?_ (alt_check h hs k ht)
  have e : (((0, Lx.openT) :: (shT 3 T ++ [((s.size : Int) + 3, Lx.closeT)])) ++ (((s.size : Int) + 4, barT) :: (D, Lx.openT) :: (shT (D + 3) U ++ [((t.size : Int) + 3 + D, Lx.closeT)]))) ++ [endT W.size] =
      (0, Lx.openT) :: (shT 3 T ++ (((s.size : Int) + 3, Lx.closeT) :: (((s.size : Int) + 4, barT) :: (D, Lx.openT) :: (shT (D + 3) U ++ ((t.size : Int) + 3 + D, Lx.closeT) :: [endT W.size])))) := by simp
  rw [e]
  have hq' := seq_fuel (n := 3 * (T.length + 1) + 4 + 1) (m := M) (by omega) (by rw [hq]; trivial)
  rw [hq] at hq'
  rw [alt_bar rfl hq', List.nil_append]
  obtain ⟨M', rfl⟩ : ∃ M', M = M' + 1 := ⟨M - 1, by omega⟩
  have hq2' := seq_fuel (n := 3 * (U.length + 1) + 4 + 1) (m := M') (by omega) (by rw [hq2]; trivial)
  rw [hq2] at hq2'
  exact ⟨_, _, alt_last rfl hq2'⟩
end Ps
end Go.Proofs.YtdcielcniboloaaGreatDoor
namespace Go.Proofs.YtdcielcniboloaaGreatDoor
open Go.RowKit
set_option linter.unusedVariables false
abbrev ndBox (x : Nd) (sa : Option Addr) (sc : Nat) (aa : Option Addr) (ac : Nat) : Obj := .cells #[.int .i64 (Td.kind x), .slice sa (Td.set x).length sc, .int .i64 (Td.num x), .string (Td.name x), .int .i64 (Td.mn x), .int .i64 (Td.mx x), .bool (Td.lazy x), .slice aa (Td.subs x).length ac] 26
/-- A tree in a box of its own. -/
structure Bx (w : World) (b : Nat) (x : Nd) (sa : Option Addr) (sc : Nat) (aa : Option Addr) (ac : Nat) : Prop where
  blk : w.heap[b]? = some (.cells #[.int .i64 (Td.kind x), .slice sa (Td.set x).length sc, .int .i64 (Td.num x), .string (Td.name x), .int .i64 (Td.mn x), .int .i64 (Td.mx x), .bool (Td.lazy x), .slice aa (Td.subs x).length ac] 26 (0, 0))
  nd : NdIs w x [.int .i64 (Td.kind x), .slice sa (Td.set x).length sc, .int .i64 (Td.num x), .string (Td.name x), .int .i64 (Td.mn x), .int .i64 (Td.mx x), .bool (Td.lazy x), .slice aa (Td.subs x).length ac]
theorem Bx.kept {w w' : World} {b : Nat} {x : Nd} {sa : Option Addr} {sc : Nat} {aa : Option Addr} {ac : Nat} (h : Bx w b x sa sc aa ac) (hb : Below w.heap.size w w') : Bx w' b x sa sc aa ac :=
  ⟨(hb.block _ (Array.getElem?_eq_some_iff.1 h.blk).1).trans h.blk, h.nd.kept hb⟩
theorem Bx.new {w : World} {x : Nd} {sa : Option Addr} {sc : Nat} {aa : Option Addr} {ac : Nat} (h : NdIs w x [.int .i64 (Td.kind x), .slice sa (Td.set x).length sc, .int .i64 (Td.num x), .string (Td.name x), .int .i64 (Td.mn x), .int .i64 (Td.mx x), .bool (Td.lazy x), .slice aa (Td.subs x).length ac]) : Bx (w.alloc (ndBox x sa sc aa ac)) w.heap.size x sa sc aa ac :=
  ⟨heap_alloc_new _ _, h.kept ((Below.refl _ _).alloc (Nat.le_refl _) _)⟩
theorem Bx.at {w : World} {b : Nat} {x : Nd} {sa : Option Addr} {sc : Nat} {aa : Option Addr} {ac : Nat} (h : Bx w b x sa sc aa ac) (q : Nat) : w.cell? ⟨b, q, none⟩ = ([.int .i64 (Td.kind x), .slice sa (Td.set x).length sc, .int .i64 (Td.num x), .string (Td.name x), .int .i64 (Td.mn x), .int .i64 (Td.mx x), .bool (Td.lazy x), .slice aa (Td.subs x).length ac] : List Value)[q]? := by
  unfold World.cell?
  dsimp only
  rw [h.blk]
  simp
end Go.Proofs.YtdcielcniboloaaGreatDoor
