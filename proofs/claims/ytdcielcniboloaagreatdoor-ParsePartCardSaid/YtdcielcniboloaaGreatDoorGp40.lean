/- Mathematics of ParseRight: what is read is right. · The reference's tree (burinref06): Nullable. · The landed tree: nullable, with slices.ContainsFunc, IndexFunc and the closures; Nullable. · The landed tree: nullable, Nullable. · burinlaw06.letter, works. · burinbook.LendRanges. · burinbook.KeptRanges and SpoilRanges. · What the laws of ranges use: lent lists as rows, the reference's Check on rows. · What the rows' listed variables give the walks: a start that meets the list. · What the rows' listed variables, and the world's shape, give the walks. · The closed facts of a row, part by part. -/
import Derived.Test.YtdcielcniboloaaGreatDoorGp39
import Derived.Test.YtdcielcniboloaaGreatDoorGp25
import Derived.Test.YtdcielcniboloaaGreatDoorGp6
import Derived.IntWalk
import Derived.Test.YtdcielcniboloaaGreatDoorGp15
import Derived.Test.YtdcielcniboloaaGreatDoorGp26
import Derived.BigQuiet
import Derived.Test.YtdcielcniboloaaGreatDoorGp16
import Derived.Test.YtdcielcniboloaaGreatDoorGp30
import Derived.Test.YtdcielcniboloaaGreatDoorGp5
import Derived.Test.YtdcielcniboloaaGreatDoorGp9
import Derived.LaidMore
import Derived.Stop.Joined
import Derived.Stop.LaidErr
import Derived.Lib.LaidTab
import Derived.ProofKit
import Derived.Lay
import Derived.HandedShaped
import Derived.Handed
import Derived.JoinedOf
import Derived.KernelRfl
namespace Go.Proofs.YtdcielcniboloaaGreatDoor
open Go.RowKit
open Lx (Tk TR LR)
open Ps (TL)
set_option linter.unusedVariables false
namespace Ps
theorem opN_append : ∀ (A B : TL), opN (A ++ B) = opN A ++ opN B
  | [], B => rfl
  | p :: A, B => by
    rw [List.cons_append, opN, opN, opN_append A B]
    split <;> rfl
theorem end_of {T : TL} {z : Int × Tk} {L : TL} (hT : ∀ p ∈ T, 1 ≤ p.2.kind ∧ p.2.kind ≤ 13) (hz : z.2.kind = 0) (h : Sf L (T ++ [z])) (hne : L ≠ []) (h0 : kd L = 0) : L = [z] := by
  obtain ⟨k, rfl⟩ := h
  by_cases hk : k < T.length
  · rw [List.drop_append_of_le_length (by omega)] at h0
    rw [List.drop_eq_getElem_cons hk] at h0
    have := hT T[k] (List.getElem_mem hk)
    have h1 : T[k].2.kind = 0 := h0
    omega
  · by_cases hk2 : k = T.length
    · subst hk2; simp
    · exfalso; apply hne; apply List.drop_eq_nil_of_le; simp; omega
end Ps
structure RightX (s : ByteArray) (f : Int) : Prop where
  no : ∀ a c, parseF s f = (none, a, c) → c ≠ 0 ∧ 0 ≤ a ∧ a ≤ s.size
  yes : ∀ x a c, parseF s f = (some x, a, c) → a = 0 ∧ c = 0 ∧ ∃ T, Lx.lexR s 0 false [] = .ok T ∧ T.length ≤ s.size ∧ Td.checkN x = 0 ∧ Td.groups (Td.all 1000 1 x) = Ps.opN T ∧ (Td.all 1000 1 x).length ≤ 1000000
theorem lex_len {s : ByteArray} : ∀ (f k : Nat) (q : Bool) (T T' : List (Int × Tk)), Lx.lexF s f k q T = .ok T' → T'.length + k ≤ T.length + max s.size k
  | 0, _, _, _, _, h => by cases h
  | f + 1, k, q, T, T', h => by
    rw [Lx.lexF_eq] at h
    by_cases h1 : s.size ≤ k
    · rw [if_pos h1] at h
      injection h with h
      subst h
      omega
    · rw [if_neg h1] at h
      by_cases h2 : Lx.turnB q ((Utf.nums s).drop k) = true
      · rw [if_pos h2] at h
        have := lex_len f (k + 2) _ T T' h
        have h3 := h2
        unfold Lx.turnB at h3
        simp at h3
        have h4 : k + 1 < s.size := by
          rw [← Utf.nums_length]
          by_cases hlt : k + 1 < (Utf.nums s).length
          · exact hlt
          · exfalso
            have h5 := h3.2
            rw [List.getElem?_eq_none (by omega)] at h5
            cases q <;> simp at h5
        omega
      · rw [if_neg h2] at h
        have hz : (s.extract k s.size).size = s.size - k := by rw [ByteArray.size_extract]; omega
        have ho := Lx.one_ok q (s.extract k s.size) (by omega)
        cases hx : Lx.oneX q (s.extract k s.size) with
        | bad n c => rw [hx] at h; cases h
        | ok t n =>
          rw [hx] at h ho
          obtain ⟨o1, o2, _, _⟩ := ho
          have := lex_len f (k + n) q _ T' h
          simp at this
          omega
theorem parse_right (s : ByteArray) (f : Int) (hs : s.size ≤ 4096) : RightX s f := by
  cases hR : Lx.lexR s 0 false [] with
  | bad o c =>
    have hb := Lx.lexF_bad s (s.size + 2) 0 false [] o c (by omega) hR
    refine ⟨fun a c' h => ?_, fun x a c' h => ?_⟩
    · unfold parseF at h; rw [hR] at h
      injection h with _ h; injection h with h1 h2
      subst h1 h2
      exact ⟨hb.2.2, hb.1, hb.2.1⟩
    · unfold parseF at h; rw [hR] at h; cases h
  | ok T =>
    have hris := (Lx.lex_rises hR).1
    have hfin := Lx.lex_fine hR
    have hkinds := Lx.Ris.kinds hris
    have hlen : T.length ≤ s.size := by have := lex_len (s.size + 2) 0 false [] T hR; simpa using this
    have hE : Ps.Ends (T ++ [endT s.size]) := Ps.ends_of s.size hkinds
    have hL : (T ++ [endT s.size]).length = T.length + 1 := by simp
    have hbad := (Ps.bad_all (3 * (T.length + 1) + 3)).1 (T ++ [endT s.size]) f 0 [] hE (by rw [hL]; exact Nat.le_refl _)
    have hsf := (Ps.sf_all (3 * (T.length + 1) + 3)).1 (T ++ [endT s.size]) f 0 []
    have hen := (Ps.ends_all (3 * (T.length + 1) + 3)).1 (T ++ [endT s.size]) f 0 [] hE
    have hst := Ps.stop_alt (3 * (T.length + 1) + 3) (T ++ [endT s.size]) f 0 []
    have hsz := (Ps.sz_all (3 * (T.length + 1) + 3)).1 (T ++ [endT s.size]) f 0 [] 0 (fun k => by simp [Ps.szL])
    have hgn := (Ps.gn_all (3 * (T.length + 1) + 3)).1 (T ++ [endT s.size]) f 0 [] [] (fun p hp h9 => by
      rcases List.mem_append.1 hp with hp | hp
      · exact (hfin p hp).2.2.2.2.1 h9
      · simp at hp; subst hp; exact .inl rfl) Ps.GnL.nil
    have hpl : ∀ p ∈ T ++ [endT s.size], 0 ≤ p.1 ∧ p.1 ≤ (s.size : Int) := fun p hp => by
      rcases List.mem_append.1 hp with hp | hp
      · have := Lx.Ris.places hris p hp; omega
      · simp at hp; subst hp; exact ⟨by show (0 : Int) ≤ (s.size : Int); omega, Int.le_refl _⟩
    have hpf : parseF s f = patF (Ps.altP (3 * (T.length + 1) + 3) (T ++ [endT s.size]) f 0 []) := by unfold parseF; rw [hR]
    cases hA : Ps.altP (3 * (T.length + 1) + 3) (T ++ [endT s.size]) f 0 [] with
    | bad a c =>
      rw [hA] at hbad hpf
      obtain ⟨hc, p, hp, rfl⟩ := hbad
      have hpp := hpl p hp
      refine ⟨fun a' c' h => ?_, fun x a' c' h => ?_⟩
      · rw [hpf] at h
        injection h with _ h; injection h with h1 h2
        subst h1 h2
        exact ⟨by omega, hpp.1, hpp.2⟩
      · rw [hpf] at h; cases h
    | ok x L' f' g' =>
      rw [hA] at hsf hen hst hpf
      have h2 := hsz x L' f' g' hA 1000
      obtain ⟨m, g1, g2, _⟩ := hgn x L' f' g' hA
      have hne := Ps.Ends.ne hen
      unfold patF at hpf
      dsimp only at hpf
      by_cases h11 : Ps.kd L' = 11
      · rw [if_pos h11] at hpf
        obtain ⟨p, hp, hp2⟩ := Ps.pl_mem hne
        have hpp := hpl p (Ps.Sf.mem hsf p hp)
        rw [hp2] at hpp
        refine ⟨fun a' c' h => ?_, fun x a' c' h => ?_⟩
        · rw [hpf] at h
          injection h with _ h; injection h with h1 h2
          subst h1 h2
          exact ⟨by decide, hpp.1, hpp.2⟩
        · rw [hpf] at h; cases h
      rw [if_neg h11] at hpf
      by_cases hc : Td.checkN x = 0
      · rw [if_pos hc] at hpf
        refine ⟨fun a' c' h => (by rw [hpf] at h; cases h), fun x' a' c' h => ?_⟩
        rw [hpf] at h
        injection h with h0 h; injection h with h1 h3
        injection h0 with h0
        subst h0 h1 h3
        have hk0 : Ps.kd L' = 0 := by
          have h9 : Ps.kd L' = 11 ∨ Ps.kd L' = 0 := hst
          omega
        have hl' := Ps.end_of hkinds rfl hsf hne hk0
        refine ⟨rfl, rfl, T, hR, hlen, hc, ?_, ?_⟩
        · have hdep : Td.dep 1001 x ≤ 1000 := by
            unfold Td.checkN at hc
            split at hc
            · cases hc
            · omega
          rw [Ps.groups_gL]
          obtain ⟨k0, hk⟩ := g1
          have h5 := Ps.gL_stable 1000 x hdep k0
          rw [hk (1000 + k0) (by omega)] at h5
          rw [← h5, List.nil_append]
          rw [hl', Ps.opN_append] at g2
          have e1 : Ps.opN [endT s.size] = [] := rfl
          rw [e1, List.append_nil, List.append_nil] at g2
          exact g2.symm
        · rw [Ps.all_sz]
          omega
      · rw [if_neg hc] at hpf
        refine ⟨fun a' c' h => ?_, fun x a' c' h => (by rw [hpf] at h; cases h)⟩
        rw [hpf] at h
        injection h with _ h; injection h with h1 h3
        subst h1 h3
        exact ⟨hc, Int.le_refl _, by omega⟩
end Go.Proofs.YtdcielcniboloaaGreatDoor
namespace Go.Proofs.YtdcielcniboloaaGreatDoor
open Go.RowKit
set_option linter.unusedVariables false
namespace Td
end Td



















































































































end Go.Proofs.YtdcielcniboloaaGreatDoor
namespace Go.Proofs.YtdcielcniboloaaGreatDoor
open Go.RowKit
set_option linter.unusedVariables false































































































































































end Go.Proofs.YtdcielcniboloaaGreatDoor
namespace Go.Proofs.YtdcielcniboloaaGreatDoor
open Go.RowKit
set_option linter.unusedVariables false
end Go.Proofs.YtdcielcniboloaaGreatDoor
namespace Go.Proofs.YtdcielcniboloaaGreatDoor
open Go.RowKit
set_option linter.unusedVariables false
def letN (c : Int) : Nd := .mk 3 [(c, c)] 0 ⟨#[]⟩ 0 0 false []
def letC (g : Nat) : List Value := [.int .i64 3, .slice (some ⟨g, 0, none⟩) 1 1, .int .i64 0, .string ⟨#[]⟩, .int .i64 0, .int .i64 0, .bool false, .slice none 0 0]




















theorem trDepth_any (W : World) (nd : Nd) (cs : List Value) (h : NdIs W nd cs) :
    Calls Tryz.prog 22 #[.agg cs.toArray] W fun e W' => e = .returned (.int .i64 ((Td.dep 1001 nd : Nat) : Int)) ∧ Below W.heap.size W W' := callsIn_wide.1 (depth_in 3 (by omega) W nd cs h)
theorem trGroups_any (W : World) (nd : Nd) (cs : List Value) (h : NdIs W nd cs) (hlen : (Td.all 1000 1 nd).length ≤ 1000000) :
    Calls Tryz.prog 17 #[.agg cs.toArray] W fun e W' => ∃ v, e = .returned v ∧ TxOwn W' W.heap.size v (Td.groups (Td.all 1000 1 nd)) ∧ Below W.heap.size W W' := callsIn_wide.1 (groups_in 3 (by omega) W nd cs h hlen)
end Go.Proofs.YtdcielcniboloaaGreatDoor
namespace Go.Proofs.YtdcielcniboloaaGreatDoor
open Go.RowKit
set_option linter.unusedVariables false











































end Go.Proofs.YtdcielcniboloaaGreatDoor
namespace Go.Proofs.YtdcielcniboloaaGreatDoor
open Go.RowKit
set_option linter.unusedVariables false


























end Go.Proofs.YtdcielcniboloaaGreatDoor
namespace Go.Proofs.YtdcielcniboloaaGreatDoor
open Go.RowKit
set_option linter.unusedVariables false
theorem RRow.wide {W : World} {v : Value} {l : List (Int × Int)} (h : RRow W v l) : l.length ≤ 8796093022208 ∧ Wide64 l := by
  obtain ⟨a, cap, hv, hl, hw, hc⟩ := h
  exact ⟨hl, hw⟩
/-- A lent list: it reads as l, and the mark lies behind it. -/
structure Lent (W : World) (g n cap : Nat) (l : List (Int × Int)) : Prop where
  len : l.length = n
  row : RRow W (.slice (some ⟨g, 0, none⟩) n cap) l
  cap : n + 1 ≤ cap
  lo : W.cell? ⟨g, n * 2, none⟩ = some (.int .i64 7)
  hi : W.cell? ⟨g, n * 2 + 1, none⟩ = some (.int .i64 0)
  lt : g < W.heap.size
theorem Lent.below {W W' : World} {g n cap : Nat} {l : List (Int × Int)} (h : Lent W g n cap l) (hb : Below W.heap.size W W') : Lent W' g n cap l :=
  ⟨h.len, h.row.below (Nat.le_refl _) hb, h.cap, (hb.cell (p := ⟨g, n * 2, none⟩) h.lt).trans h.lo, (hb.cell (p := ⟨g, n * 2 + 1, none⟩) h.lt).trans h.hi, Nat.lt_of_lt_of_le h.lt hb.size⟩










end Go.Proofs.YtdcielcniboloaaGreatDoor
namespace Go.Proofs.YtdcielcniboloaaGreatDoor
open Go.RowKit
set_option linter.unusedVariables false
theorem own8 : ownKnob Tryz.prog.godebug = none := by kernel_rfl
def laid8 : List (String × DataW Unit) := Rows.parseRightRow.laid
/-- The cells of the library's table utf8.first. -/
def firstCells : Array Value := #[.int .u8 240, .int .u8 240, .int .u8 240, .int .u8 240, .int .u8 240, .int .u8 240, .int .u8 240, .int .u8 240, .int .u8 240, .int .u8 240, .int .u8 240, .int .u8 240, .int .u8 240, .int .u8 240, .int .u8 240, .int .u8 240, .int .u8 240, .int .u8 240, .int .u8 240, .int .u8 240, .int .u8 240, .int .u8 240, .int .u8 240, .int .u8 240, .int .u8 240, .int .u8 240, .int .u8 240, .int .u8 240, .int .u8 240, .int .u8 240, .int .u8 240, .int .u8 240, .int .u8 240, .int .u8 240, .int .u8 240, .int .u8 240, .int .u8 240, .int .u8 240, .int .u8 240, .int .u8 240, .int .u8 240, .int .u8 240, .int .u8 240, .int .u8 240, .int .u8 240, .int .u8 240, .int .u8 240, .int .u8 240, .int .u8 240, .int .u8 240, .int .u8 240, .int .u8 240, .int .u8 240, .int .u8 240, .int .u8 240, .int .u8 240, .int .u8 240, .int .u8 240, .int .u8 240, .int .u8 240, .int .u8 240, .int .u8 240, .int .u8 240, .int .u8 240, .int .u8 240, .int .u8 240, .int .u8 240, .int .u8 240, .int .u8 240, .int .u8 240, .int .u8 240, .int .u8 240, .int .u8 240, .int .u8 240, .int .u8 240, .int .u8 240, .int .u8 240, .int .u8 240, .int .u8 240, .int .u8 240, .int .u8 240, .int .u8 240, .int .u8 240, .int .u8 240, .int .u8 240, .int .u8 240, .int .u8 240, .int .u8 240, .int .u8 240, .int .u8 240, .int .u8 240, .int .u8 240, .int .u8 240, .int .u8 240, .int .u8 240, .int .u8 240, .int .u8 240, .int .u8 240, .int .u8 240, .int .u8 240, .int .u8 240, .int .u8 240, .int .u8 240, .int .u8 240, .int .u8 240, .int .u8 240, .int .u8 240, .int .u8 240, .int .u8 240, .int .u8 240, .int .u8 240, .int .u8 240, .int .u8 240, .int .u8 240, .int .u8 240, .int .u8 240, .int .u8 240, .int .u8 240, .int .u8 240, .int .u8 240, .int .u8 240, .int .u8 240, .int .u8 240, .int .u8 240, .int .u8 240, .int .u8 240, .int .u8 240, .int .u8 240, .int .u8 241, .int .u8 241, .int .u8 241, .int .u8 241, .int .u8 241, .int .u8 241, .int .u8 241, .int .u8 241, .int .u8 241, .int .u8 241, .int .u8 241, .int .u8 241, .int .u8 241, .int .u8 241, .int .u8 241, .int .u8 241, .int .u8 241, .int .u8 241, .int .u8 241, .int .u8 241, .int .u8 241, .int .u8 241, .int .u8 241, .int .u8 241, .int .u8 241, .int .u8 241, .int .u8 241, .int .u8 241, .int .u8 241, .int .u8 241, .int .u8 241, .int .u8 241, .int .u8 241, .int .u8 241, .int .u8 241, .int .u8 241, .int .u8 241, .int .u8 241, .int .u8 241, .int .u8 241, .int .u8 241, .int .u8 241, .int .u8 241, .int .u8 241, .int .u8 241, .int .u8 241, .int .u8 241, .int .u8 241, .int .u8 241, .int .u8 241, .int .u8 241, .int .u8 241, .int .u8 241, .int .u8 241, .int .u8 241, .int .u8 241, .int .u8 241, .int .u8 241, .int .u8 241, .int .u8 241, .int .u8 241, .int .u8 241, .int .u8 241, .int .u8 241, .int .u8 241, .int .u8 241, .int .u8 2, .int .u8 2, .int .u8 2, .int .u8 2, .int .u8 2, .int .u8 2, .int .u8 2, .int .u8 2, .int .u8 2, .int .u8 2, .int .u8 2, .int .u8 2, .int .u8 2, .int .u8 2, .int .u8 2, .int .u8 2, .int .u8 2, .int .u8 2, .int .u8 2, .int .u8 2, .int .u8 2, .int .u8 2, .int .u8 2, .int .u8 2, .int .u8 2, .int .u8 2, .int .u8 2, .int .u8 2, .int .u8 2, .int .u8 2, .int .u8 19, .int .u8 3, .int .u8 3, .int .u8 3, .int .u8 3, .int .u8 3, .int .u8 3, .int .u8 3, .int .u8 3, .int .u8 3, .int .u8 3, .int .u8 3, .int .u8 3, .int .u8 35, .int .u8 3, .int .u8 3, .int .u8 52, .int .u8 4, .int .u8 4, .int .u8 4, .int .u8 68, .int .u8 241, .int .u8 241, .int .u8 241, .int .u8 241, .int .u8 241, .int .u8 241, .int .u8 241, .int .u8 241, .int .u8 241, .int .u8 241, .int .u8 241]
/-- A world with the library's table utf8.first laid. -/
def pinW (w : World) : World := { w with heap := w.heap.setIfInBounds 5 (.cells firstCells 261 (0, 0)) }
/-- What a listed part reads as, with its places told. -/
structure MetB (P : Program) (w : World) (l : List (String × DataW Unit)) (ps : List MemPlace) : Prop where
  vars : DataW.LaidVars P w l ps
  nodup : ps.Nodup
  rows : ∀ b off, MemPlace.cell b off ∈ ps → (∃ c t, w.heap[b]? = some (.cells c t (0, 0))) ∧ ∀ u v, w.cell? ⟨b, off, none⟩ = some (.iface u v) → Value.okWide P w .any 0 u v
theorem MetB.app {P : Program} {w : World} {l l' : List (String × DataW Unit)} {ps qs : List MemPlace} (h : MetB P w l ps) (k : MetB P w l' qs) (hd : ∀ x ∈ ps, ∀ y ∈ qs, x ≠ y) : MetB P w (l ++ l') (ps ++ qs) :=
  ⟨LaidVars_app h.vars k.vars, List.nodup_append.2 ⟨h.nodup, k.nodup, fun x hx y hy => hd x hx y hy⟩, fun b off hm => (List.mem_append.1 hm).elim (h.rows b off) (k.rows b off)⟩
theorem met_of_run {P : Program} {w : World} {l : List (String × DataW Unit)} (p : MemPlace → Bool) (fuel : Nat) (h : (DataW.laidRun P w fuel (l.map (·.1))).map (·.1) = some l)
    (hr : (DataW.laidRun P w fuel (l.map (·.1))).map (fun x => decide x.2.Nodup && laidRowsB P w x.2 && x.2.all p) = some true) : ∃ ps, MetB P w l ps ∧ ∀ x ∈ ps, p x = true := by
  cases hx : DataW.laidRun P w fuel (l.map (·.1)) with
  | none => simp [hx] at h
  | some x =>
    obtain ⟨l', ps⟩ := x
    simp only [hx, Option.map_some, Option.some.injEq] at h hr
    subst h
    simp only [Bool.and_eq_true] at hr
    refine ⟨ps, ⟨DataW.LaidVars_of_laidRun hx, of_decide_eq_true hr.1.1, fun b off hp => ?_⟩, List.all_eq_true.1 hr.2⟩
    have := List.all_eq_true.1 hr.1.2 _ hp
    simp only [Bool.and_eq_true] at this
    obtain ⟨h1, h2⟩ := this
    refine ⟨?_, fun u v hc => ?_⟩
    · split at h1
      · rename_i c t hh
        exact ⟨c, t, hh⟩
      · cases h1
    · rw [hc] at h2
      exact Value.okWide_of_okWideB h2
def plA (m : MemPlace) : Bool := m.block != 4 && m.block != 5
def plB (m : MemPlace) : Bool := m.block == 4
def plC (m : MemPlace) : Bool := m.block == 5
theorem door8a (os : Os) (args : Array Value) : ∃ ps, MetB Tryz.prog ((pinW (World.doorLaid Tryz.prog 96 os)).forCall (fun _ _ => 0) ⟨#[], args, []⟩).memory (laid8.take 7) ps ∧ ∀ x ∈ ps, plA x = true :=
  met_of_run plA 257 (by kernel_rfl) (by kernel_rfl)
theorem door8b (os : Os) (args : Array Value) : ∃ ps, MetB Tryz.prog ((pinW (World.doorLaid Tryz.prog 96 os)).forCall (fun _ _ => 0) ⟨#[], args, []⟩).memory ([("strings.asciiSpace", Rows.laid_strings_asciiSpace)]) ps ∧ ∀ x ∈ ps, plB x = true :=
  met_of_run plB 257 (by kernel_rfl) (by kernel_rfl)
theorem door8c (os : Os) (args : Array Value) : ∃ ps, MetB Tryz.prog ((pinW (World.doorLaid Tryz.prog 96 os)).forCall (fun _ _ => 0) ⟨#[], args, []⟩).memory ([("unicode/utf8.first", Rows.laid_unicode_utf8_first)]) ps ∧ ∀ x ∈ ps, plC x = true :=
  met_of_run plC 257 (by kernel_rfl) (by kernel_rfl)
theorem door8 (os : Os) (args : Array Value) : laidMetH Tryz.prog laid8 ((pinW (World.doorLaid Tryz.prog 96 os)).forCall (fun _ _ => 0) ⟨#[], args, []⟩).memory := by
  rw [MakeChecks.laidMetH_plain _ _ _ (by kernel_rfl)]
  obtain ⟨ps, h1, k1⟩ := door8a os args
  obtain ⟨qs, h2, k2⟩ := door8b os args
  obtain ⟨rs, h3, k3⟩ := door8c os args
  have e : laid8 = laid8.take 7 ++ ([("strings.asciiSpace", Rows.laid_strings_asciiSpace)] ++ [("unicode/utf8.first", Rows.laid_unicode_utf8_first)]) := rfl
  rw [e]
  have hbc : ∀ x ∈ qs, ∀ y ∈ rs, x ≠ y := fun x hx y hy h => by
    have a := k2 x hx
    have b := k3 y hy
    rw [h] at a
    unfold plB at a
    unfold plC at b
    simp only [beq_iff_eq] at a b
    rw [a] at b
    cases b
  have h9 := h1.app (h2.app h3 hbc) (fun x hx y hy h => by
    have a := k1 x hx
    unfold plA at a
    simp only [Bool.and_eq_true, bne_iff_ne, ne_eq] at a
    rw [h] at a
    rcases List.mem_append.1 hy with hy | hy
    · have b := k2 y hy
      unfold plB at b
      simp only [beq_iff_eq] at b
      exact a.1 b
    · have b := k3 y hy
      unfold plC at b
      simp only [beq_iff_eq] at b
      exact a.2 b)
  exact ⟨_, h9.vars, h9.nodup, h9.rows⟩
end Go.Proofs.YtdcielcniboloaaGreatDoor
namespace Go.Proofs.YtdcielcniboloaaGreatDoor
open Go.RowKit
set_option linter.unusedVariables false
theorem laid_tab8 : (Rows.laid_strings_asciiSpace : DataW Unit) = Lib.tabData .u8 Lib.asciiSpaceTab := by kernel_rfl
theorem spaces_of8 {W : World} (h : laidMetH Tryz.prog laid8 W) : Spaces W := by
  rw [MakeChecks.laidMetH_plain _ _ _ (by kernel_rfl)] at h
  have h' : laidMet Tryz.prog [("strings.asciiSpace", Rows.laid_strings_asciiSpace), ("unicode/utf8.first", Rows.laid_unicode_utf8_first)] W := h.tail.tail.tail.tail.tail.tail.tail
  rw [laid_tab8] at h'
  exact Lib.tabIs_of_head (g := 4) (by kernel_rfl) (by kernel_rfl) (t := 261) (n := 256) Tryz.underlying261 Tryz.underlying5 (by kernel_rfl) (by kernel_rfl) h'
theorem ev_of {W : World} (h : laidMetH Tryz.prog laid8 W) (hs : W.ShapedOpen Tryz.prog) : Ev W := by
  have hm : ∃ m, W.cell? ⟨0, 0, none⟩ = some (.int .i64 m) :=
    cell_of_shapedOpen_int (zero := #[.int .i64 0]) (t := 3) hs (of_decide_eq_true (by kernel_rfl)) (by kernel_rfl) rfl (by kernel_rfl) (by kernel_rfl) Tryz.underlying3
  refine ⟨spaces_of8 h, ?_, hm⟩
  obtain ⟨m, hm⟩ := hm
  rcases Nat.lt_or_ge 0 W.heap.size with h9 | h9
  · exact h9
  · simp [World.cell?, Array.getElem?_eq_none h9] at hm
section
variable {H : Type} {enc : TypeId × Value → H}
/-- The kit's law for rows that ask something of the world, the world's shape told, too. -/
theorem returnsInHanded_of_change_and_shaped {a : Assume} {C : Checked} {os : Os} {f : FuncId} {fn : Func} {s : ChangeSpec} {conds : List PathCond} {apart fresh handsOn again : Bool} {X : World → Array Value → Prop}
    (hX : ∀ (w w' : World) (args : Array Value), w.heap = w'.heap → X w args → X w' args)
    (own : ownKnob C.prog.godebug = none) (started : os.Started) (noInit : C.prog.inits.idxOf? f = none) (hfn : C.prog.funcs[f]? = some fn)
    (witness : ∃ (w : World) (tape : Tape) (i : Input), w.os = os ∧ (w.forCall tape i).Shaped C.prog ∧ i.vars = [] ∧ Input.okWide C.prog (w.forCall tape i) .any w.heap.size f i ∧
      ((s.pre enc C.prog fn conds apart (w.forCall tape i).memory i.args ∧ X (w.forCall tape i).memory i.args) ∧ sizedMet enc C.prog fn (OpenSpec.ofChange s) apart (w.forCall tape i).memory i.args) ∧ a.holds C.prog (lone (Frame.enter C.prog f i.args .normal) [] (w.forCall tape i)))
    (contract : ∀ (W : World) (base : Nat) (args : Array Value) (ds gs : List (DataW H)) (before : List MemPlace),
      (∀ (j : Nat) t v, fn.params[j]? = some t → args[j]? = some v → Value.okWide C.prog W .any base t v) →
      DataW.Whole enc C.prog fn.params.toList s.vars apart W args.toList ds gs before →
      conds.all (PathCond.test C.prog ⟨fn.params.toList, ds, s.plain.varTypes C.prog, gs⟩) = true →
      (DataW.weightsEach C.prog (fn.params.toList ++ s.plain.varTypes C.prog) (ds ++ gs)).all (· ≤ reachBytes) = true → X W args →
      W.ShapedOpen C.prog →
      a.holds C.prog (lone (Frame.enter C.prog f args .normal) [] W) →
      Calls C.prog f args W fun e W' => ∃ v, e = .returned v ∧ s.post enc C.prog fn apart fresh handsOn again W args v W') :
    ReturnsInHanded a C os f .any (fun w args => (s.pre enc C.prog fn conds apart w args ∧ X w args) ∧ sizedMet enc C.prog fn (OpenSpec.ofChange s) apart w args) (s.post enc C.prog fn apart fresh handsOn again) := by
  refine returnsInHanded_of_calls own started noInit witness ?_
  intro w tape i _ hsh _ hok hpre hholds
  obtain ⟨_, _, _, fn', hfn', _, _, _, _, hval⟩ := hok
  have e : fn' = fn := Option.some.inj (hfn'.symm.trans hfn)
  subst e
  obtain ⟨⟨⟨ds, gs, before, hw, hc⟩, hx⟩, hz⟩ := hpre
  have hw' := DataW.Whole.of_heap (w' := w.forCall tape i) (by rfl) hw
  refine (contract (w.forCall tape i) w.heap.size i.args ds gs before hval hw' hc (hz.weights hw) (hX _ _ _ (by rfl) hx) hsh hholds).mono fun e W' ⟨v, he, hp⟩ => ?_
  subst he
  exact ChangeSpec.post_blind hp
end
end Go.Proofs.YtdcielcniboloaaGreatDoor
namespace Go.Proofs.YtdcielcniboloaaGreatDoor
open Go.ChangeShapes Go.WideShapes
set_option linter.unusedVariables false
def j1B (P : Program) (f : FuncId) (fn : Func) (s : ChangeSpec) (c : OpenClaim) : Bool := c.inPlace == P.inPlace f
def j2B (P : Program) (f : FuncId) (fn : Func) (s : ChangeSpec) (c : OpenClaim) : Bool := c.unfollowed == P.unfollowed f
def j3B (P : Program) (f : FuncId) (fn : Func) (s : ChangeSpec) (c : OpenClaim) : Bool := c.recurses == P.recurses f
def j4B (P : Program) (f : FuncId) (fn : Func) (s : ChangeSpec) (c : OpenClaim) : Bool := c.named == P.varsNamed f
def j5B (P : Program) (f : FuncId) (fn : Func) (s : ChangeSpec) (c : OpenClaim) : Bool := c.wf (OpenSpec.ofChange s) && laidOutB P && mapsRowed P && fn.params.all (P.readableRec ·) && namedTie P c.named s.vars && (c.stops == []) && (P.stops == []) && (c.knobs == []) && (P.stopKnobs == [])
def j6B (P : Program) (f : FuncId) (fn : Func) (s : ChangeSpec) (c : OpenClaim) : Bool := (c.maps == (fn.params.toList ++ s.plain.varTypes P).any (P.mapsRec ·)) && (c.ifaces == (fn.params.toList ++ s.plain.varTypes P).any (P.ifacesRec ·)) && (c.mapsOut == P.mapsAmong fn.resultTypes.toList) && (c.loops == (fn.params.toList ++ s.plain.varTypes P).any (P.loopsFrom ·)) && (c.wideKeys == (fn.params.toList ++ s.plain.varTypes P ++ fn.resultTypes.toList).any (P.wideKeysFrom ·))
def j7B (P : Program) (f : FuncId) (fn : Func) (s : ChangeSpec) (c : OpenClaim) : Bool := s.vars.all (P.varReadable ·) && fn.resultTypes.all (fun t => P.readableRec t && decide (t < P.types.size)) && (c.ifacesOut == fn.resultTypes.toList.any (P.ifacesRec ·)) && (c.loopsOut == fn.resultTypes.toList.any (P.loopsFrom ·)) && (c.plainKeys == P.plainKeys) && c.shortTexts.isNone && P.stopsHeard
def j8B (P : Program) (f : FuncId) (fn : Func) (s : ChangeSpec) (c : OpenClaim) : Bool := P.mayEnter
def j9B (P : Program) (f : FuncId) (fn : Func) (s : ChangeSpec) (c : OpenClaim) : Bool := (c.lifted == P.liftsFinal) && (P.make == some c.make)
def j10B (P : Program) (f : FuncId) (fn : Func) (s : ChangeSpec) (c : OpenClaim) : Bool := (c.kinds == (if c.domain.isEmpty then [] else fn.params.toList.map fun t => match P.underlying t with | some (.int k) => some k | _ => none)) && (c.pinned == c.pinnedBy)
def j11B (P : Program) (f : FuncId) (fn : Func) (s : ChangeSpec) (c : OpenClaim) : Bool := (c.veiled == (fn.params.toList ++ s.plain.varTypes P ++ fn.resultTypes.toList).any (P.veiledRec ·)) && c.veiledFits P fn.params.toList (fn.params.toList ++ s.plain.varTypes P ++ fn.resultTypes.toList)
theorem joined_of (P : Program) (f : FuncId) (fn : Func) (s : ChangeSpec) (c : OpenClaim) (h1 : j1B P f fn s c = true) (h2 : j2B P f fn s c = true) (h3 : j3B P f fn s c = true) (h4 : j4B P f fn s c = true) (h5 : j5B P f fn s c = true) (h6 : j6B P f fn s c = true) (h7 : j7B P f fn s c = true) (h8 : j8B P f fn s c = true) (h9 : j9B P f fn s c = true) (h10 : j10B P f fn s c = true) (h11 : j11B P f fn s c = true) : joinedFacts P f fn s c = true := by
  unfold j1B j2B j3B j4B j5B j6B j7B j8B j9B j10B j11B at *
  unfold joinedFacts
  simp only [Bool.and_eq_true] at *
  obtain ⟨⟨⟨⟨⟨⟨⟨⟨h5x1, h5x2⟩, h5x3⟩, h5x4⟩, h5x5⟩, h5x6⟩, h5x7⟩, h5x8⟩, h5x9⟩ := h5
  obtain ⟨⟨⟨⟨h6x1, h6x2⟩, h6x3⟩, h6x4⟩, h6x5⟩ := h6
  obtain ⟨⟨⟨⟨⟨⟨h7x1, h7x2⟩, h7x3⟩, h7x4⟩, h7x5⟩, h7x6⟩, h7x7⟩ := h7
  obtain ⟨h9x1, h9x2⟩ := h9
  obtain ⟨h10x1, h10x2⟩ := h10
  obtain ⟨h11x1, h11x2⟩ := h11
  and_intros <;> assumption
end Go.Proofs.YtdcielcniboloaaGreatDoor
