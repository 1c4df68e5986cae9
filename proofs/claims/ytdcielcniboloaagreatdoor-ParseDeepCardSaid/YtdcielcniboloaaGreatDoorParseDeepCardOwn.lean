/- Functions of the library: the library's contracts, laid over this translation. · Mathematics of ParseDeep: brackets count for nothing. · strings.Repeat over this translation. · Rows of texts that come from without; the book's Few and Below. · burinlaw09.ParseDeep, walked. -/
import Derived.Shelf.Strings.Repeat
import Derived.Test.YtdcielcniboloaaGreatDoorProg
import Derived.Test.YtdcielcniboloaaGreatDoorGp44
import Derived.Test.YtdcielcniboloaaGreatDoorGp6
import Derived.IntWalk
import Derived.Test.YtdcielcniboloaaGreatDoorGp39
import Derived.Test.YtdcielcniboloaaGreatDoorGp25
import Derived.Test.YtdcielcniboloaaGreatDoorGp29
import Derived.Test.YtdcielcniboloaaGreatDoorGp40
namespace Go.Proofs
open Go.Shelf
def Tryz.layRepeat_ren : Go.Shelf.Ren := ⟨fun | 105 => 21 | 212 => 39 | 99 => 35 | 165 => 40 | 166 => 41 | 170 => 42 | 169 => 43 | 263 => 77 | 264 => 78 | 206 => 68 | 240 => 79 | 241 => 80 | 276 => 113 | 277 => 114 | n => n, fun | 9 => 9 | 3 => 3 | 4 => 4 | 20 => 20 | 0 => 0 | 46 => 44 | 109 => 69 | 5 => 5 | 72 => 74 | 76 => 78 | 51 => 112 | 146 => 113 | 53 => 115 | 148 => 116 | 70 => 71 | 37 => 72 | 75 => 77 | 127 => 118 | 164 => 145 | 80 => 81 | n => n, fun | n => n⟩
theorem Tryz.layRepeat : Go.Proofs.Lays.n105 Tryz.prog Tryz.layRepeat_ren := {
  mixed := by kernel_rfl
  f99 := Tryz.func35.trans (congrArg some (by kernel_rfl))
  f105 := Tryz.func21.trans (congrArg some (by kernel_rfl))
  f165 := Tryz.func40.trans (congrArg some (by kernel_rfl))
  f166 := Tryz.func41.trans (congrArg some (by kernel_rfl))
  f169 := Tryz.func43.trans (congrArg some (by kernel_rfl))
  f170 := Tryz.func42.trans (congrArg some (by kernel_rfl))
  f206 := Tryz.func68.trans (congrArg some (by kernel_rfl))
  f212 := Tryz.func39.trans (congrArg some (by kernel_rfl))
  f240 := Tryz.func79.trans (congrArg some (by kernel_rfl))
  f241 := Tryz.func80.trans (congrArg some (by kernel_rfl))
  f263 := Tryz.func77.trans (congrArg some (by kernel_rfl))
  f264 := Tryz.func78.trans (congrArg some (by kernel_rfl))
  f276 := Tryz.func113.trans (congrArg some (by kernel_rfl))
  f277 := Tryz.func114.trans (congrArg some (by kernel_rfl))
  t0 := Tryz.underlying0
  a0 := Tryz.isAgg0
  z0 := Tryz.sizeOf0
  v0 := Tryz.zeroValue0
  t3 := Tryz.underlying3
  a3 := Tryz.isAgg3
  z3 := Tryz.sizeOf3
  v3 := Tryz.zeroValue3
  t4 := Tryz.underlying4
  a4 := Tryz.isAgg4
  z4 := Tryz.sizeOf4
  v4 := Tryz.zeroValue4
  t5 := Tryz.underlying5
  a5 := Tryz.isAgg5
  z5 := Tryz.sizeOf5
  v5 := Tryz.zeroValue5
  t9 := Tryz.underlying9
  a9 := Tryz.isAgg9
  z9 := Tryz.sizeOf9
  v9 := Tryz.zeroValue9
  t20 := Tryz.underlying20
  a20 := Tryz.isAgg20
  z20 := Tryz.sizeOf20
  v20 := Tryz.zeroValue20
  t37 := Tryz.underlying72
  a37 := Tryz.isAgg72
  z37 := Tryz.sizeOf72
  v37 := Tryz.zeroValue72
  t46 := Tryz.underlying44
  a46 := Tryz.isAgg44
  z46 := Tryz.sizeOf44
  v46 := Tryz.zeroValue44
  t51 := Tryz.underlying112
  a51 := Tryz.isAgg112
  z51 := Tryz.sizeOf112
  v51 := Tryz.zeroValue112
  t53 := Tryz.underlying115
  a53 := Tryz.isAgg115
  z53 := Tryz.sizeOf115
  v53 := Tryz.zeroValue115
  t70 := Tryz.underlying71
  a70 := Tryz.isAgg71
  z70 := Tryz.sizeOf71
  v70 := Tryz.zeroValue71
  t72 := Tryz.underlying74
  a72 := Tryz.isAgg74
  z72 := Tryz.sizeOf74
  v72 := Tryz.zeroValue74
  t75 := Tryz.underlying77
  a75 := Tryz.isAgg77
  z75 := Tryz.sizeOf77
  v75 := Tryz.zeroValue77
  t76 := Tryz.underlying78
  a76 := Tryz.isAgg78
  z76 := Tryz.sizeOf78
  v76 := Tryz.zeroValue78
  t109 := Tryz.underlying69
  a109 := Tryz.isAgg69
  z109 := Tryz.sizeOf69
  v109 := Tryz.zeroValue69
  t127 := Tryz.underlying118
  a127 := Tryz.isAgg118
  z127 := Tryz.sizeOf118
  v127 := Tryz.zeroValue118
  t146 := Tryz.underlying113
  a146 := Tryz.isAgg113
  z146 := Tryz.sizeOf113
  v146 := Tryz.zeroValue113
  t148 := Tryz.underlying116
  a148 := Tryz.isAgg116
  z148 := Tryz.sizeOf116
  v148 := Tryz.zeroValue116
  t164 := Tryz.underlying145
  a164 := Tryz.isAgg145
  z164 := Tryz.sizeOf145
  v164 := Tryz.zeroValue145 }
end Go.Proofs
namespace Go.Proofs.YtdcielcniboloaaGreatDoor
open Lx (Tk TR LR)
open Ps (TL)
set_option linter.unusedVariables false
namespace Ps
def grpT : Tk := { kind := 9, num := 1 }
def aT : Tk := { kind := 1, num := 97 }
def brT (b : Bool) : Tk := if b then grpT else Lx.openT
/-- Brackets, one in another, around a letter. -/
inductive Nest : List Bool → TL → Prop
  | zero (p : Int) : Nest [] [(p, aT)]
  | succ (b : Bool) {os : List Bool} {A : TL} (p q : Int) : Nest os A → Nest (b :: os) ((p, brT b) :: (A ++ [(q, Lx.closeT)]))
def letN : Nd := .mk 3 [(97, 97)] 0 ⟨#[]⟩ 0 0 false []
/-- Their tree: g groups are open. -/
def nestN : List Bool → Int → Nd
  | [], _ => letN
  | true :: os, g => .mk 6 [] (g + 1) ⟨#[]⟩ 0 0 false [nestN os (g + 1)]
  | false :: os, g => nestN os g
def nestG : List Bool → Int
  | [] => 0
  | true :: os => nestG os + 1
  | false :: os => nestG os
theorem Nest.kd {os : List Bool} {A : TL} (h : Nest os A) (Z : TL) : kd (A ++ Z) = 9 ∨ kd (A ++ Z) = 1 := by
  cases h with
  | zero p => exact .inr rfl
  | succ b p q h => cases b <;> exact .inl rfl
theorem atom_nest {os : List Bool} {A : TL} (h : Nest os A) : ∀ (Z : TL) (f g : Int), Fl 0 f → atomP (3 * os.length + 1) (A ++ Z) f g = .ok (nestN os g) Z f (g + nestG os) := by
  induction h with
  | zero p =>
    intro Z f g hf
    rw [atomP_eq]
    rw [if_neg (show ¬ kd ([(p, aT)] ++ Z) = 9 from (by decide : ¬ (1 : Int) = 9))]
    rw [← leafOf_fl hf]
    show PR.ok (leafOf 0 aT) Z f g = PR.ok letN Z f (g + 0)
    rw [Int.add_zero]
    rfl
  | @succ b os A p q h ih =>
    intro Z f g hf
    have hfl : Fl 0 (turnP f (brT b)) := fun c hc => by
      rw [has_turn f _ hc, ← hf c hc]
      have h0 : hasP 0 c = false := by rcases hc with rfl | rfl | rfl | rfl <;> rfl
      have e1 : (brT b).mn = 0 := by cases b <;> rfl
      have e2 : (brT b).mx = 0 := by cases b <;> rfl
      rw [e1, e2, h0]; rfl
    have ha := ih ((q, Lx.closeT) :: Z) (turnP f (brT b)) (g + (brT b).num) hfl
    obtain ⟨n, hn⟩ : ∃ n, 3 * os.length + 1 = n := ⟨_, rfl⟩
    rw [hn] at ha
    have hk := h.kd ((q, Lx.closeT) :: Z)
    have hs : seqP (n + 1) (A ++ ((q, Lx.closeT) :: Z)) (turnP f (brT b)) (g + (brT b).num) [] = .ok (nestN os (g + (brT b).num)) ((q, Lx.closeT) :: Z) (turnP f (brT b)) (g + (brT b).num + nestG os) := by
      rw [seqP_eq n (A ++ ((q, Lx.closeT) :: Z)) _ _ [], if_neg (by omega), if_neg (by omega), if_neg (by omega), ha]
      dsimp only
      rw [show repT ((q, Lx.closeT) :: Z) = (q, Lx.closeT) :: Z from rfl]
      obtain ⟨m, rfl⟩ : ∃ m, n = m + 1 := ⟨n - 1, by omega⟩
      rw [seqP_eq m]
      rw [if_pos (.inr (.inl (show Ps.kd ((q, Lx.closeT) :: Z) = 11 from rfl)))]
      rfl
    have hA : altP (n + 2) (A ++ ((q, Lx.closeT) :: Z)) (turnP f (brT b)) (g + (brT b).num) [] = .ok (nestN os (g + (brT b).num)) ((q, Lx.closeT) :: Z) (turnP f (brT b)) (g + (brT b).num + nestG os) := by
      rw [altP_eq, hs]
      dsimp only
      rw [if_neg (show ¬ Ps.kd ((q, Lx.closeT) :: Z) = 12 from (by decide : ¬ (11 : Int) = 12))]
      rfl
    have hl : 3 * (b :: os).length + 1 = (n + 2) + 1 := by rw [List.length_cons]; omega
    have hL : (p, brT b) :: (A ++ [(q, Lx.closeT)]) ++ Z = (p, brT b) :: (A ++ ((q, Lx.closeT) :: Z)) := by simp
    rw [hl, hL, atomP_eq, if_pos (show Ps.kd ((p, brT b) :: (A ++ ((q, Lx.closeT) :: Z))) = 9 by cases b <;> rfl)]
    show (match altP (n + 2) (A ++ ((q, Lx.closeT) :: Z)) (turnP f (brT b)) (g + (brT b).num) [] with
      | .bad a e => PR.bad a e
      | .ok x L' f' g' => if Ps.kd L' = 11 then PR.ok (if (brT b).num = 0 then x else .mk 6 [] (g + (brT b).num) (brT b).name 0 0 false [x]) L'.tail f g' else PR.bad (pl L') 82) = _
    rw [hA]
    dsimp only
    rw [if_pos (show Ps.kd ((q, Lx.closeT) :: Z) = 11 from rfl)]
    cases b with
    | true =>
      show PR.ok (if (1 : Int) = 0 then _ else Nd.mk 6 [] (g + 1) ⟨#[]⟩ 0 0 false [nestN os (g + 1)]) Z f (g + 1 + nestG os) = PR.ok (Nd.mk 6 [] (g + 1) ⟨#[]⟩ 0 0 false [nestN os (g + 1)]) Z f (g + (nestG os + 1))
      rw [if_neg (by decide), show g + 1 + nestG os = g + (nestG os + 1) by omega]
    | false =>
      show PR.ok (if (0 : Int) = 0 then nestN os (g + 0) else _) Z f (g + 0 + nestG os) = PR.ok (nestN os g) Z f (g + nestG os)
      rw [if_pos rfl, Int.add_zero]
theorem nest_of (p : Int) : ∀ (os : List Bool) (A C : TL), A.map (·.2) = os.map brT → C.map (·.2) = List.replicate os.length Lx.closeT → Nest os (A ++ (p, aT) :: C)
  | [], A, C, hA, hC => by
    have e1 := List.map_eq_nil_iff.1 hA
    have e2 := List.map_eq_nil_iff.1 hC
    subst e1 e2
    exact .zero p
  | b :: os, A, C, hA, hC => by
    cases A with
    | nil => cases hA
    | cons a A =>
      injection hA with h1 h2
      have hne : C ≠ [] := by rintro rfl; cases hC
      obtain ⟨C', c, rfl⟩ : ∃ C' c, C = C' ++ [c] := ⟨C.dropLast, C.getLast hne, (List.dropLast_concat_getLast hne).symm⟩
      rw [List.map_append, List.length_cons, List.replicate_succ'] at hC
      have h3 := List.append_inj' hC rfl
      have h4 : c.2 = Lx.closeT := by simpa using h3.2
      have h5 := nest_of p os A C' h2 h3.1
      obtain ⟨a1, a2⟩ := a
      obtain ⟨c1, c2⟩ := c
      have h1' : a2 = brT b := h1
      have h4' : c2 = Lx.closeT := h4
      subst h1' h4'
      have := Nest.succ b a1 c1 h5
      simpa using this
def grpB : ByteArray := ⟨#[40]⟩
def aB : ByteArray := ⟨#[97]⟩
def brB (b : Bool) : ByteArray := if b then grpB else Lx.openB
/-- A token at the front of a text: the rest has its own tokens. -/
theorem lex_front {P y : ByteArray} {t : Tk} (h0 : 0 < P.size) (h92 : (Utf.nums P)[0]?.getD 0 ≠ 92) (ht : Lx.tokX (P ++ y) = .ok t P.size) : Lx.lexR (P ++ y) 0 false [] = Lx.behind P.size [(0, t)] (Lx.lexR y 0 false []) := by
  have hz : (P ++ y).size = P.size + y.size := ByteArray.size_append ..
  have hl := Utf.nums_length P
  have hnu : (Utf.nums (P ++ y))[0]?.getD 0 = (Utf.nums P)[0]?.getD 0 := by rw [Br.nums_append', List.getElem?_append_left (by omega)]
  have htn : Lx.turnB false ((Utf.nums (P ++ y)).drop 0) = false := by
    rw [List.drop_zero]
    unfold Lx.turnB
    rw [hnu, decide_eq_false h92]; rfl
  have hx : Lx.oneX false ((P ++ y).extract 0 (P ++ y).size) = .ok t P.size := by
    have e : (P ++ y).extract 0 (P ++ y).size = P ++ y := by apply Br.nums_inj'; rw [Br.nums_tail, List.drop_zero]
    rw [e]
    exact ht
  rw [Lx.lexR_tok (by omega) htn hx]
  have := Lx.lexR_shift P y y.size 0 false [(0, t)] [] (by omega)
  simpa [shift] using this
theorem lex_grp {y : ByteArray} (h : (Utf.nums y)[0]?.getD 0 ≠ 63) : Lx.lexR (grpB ++ y) 0 false [] = Lx.behind 1 [(0, grpT)] (Lx.lexR y 0 false []) := by
  refine lex_front (P := grpB) (by decide) (by decide) ?_
  have hnu : Utf.nums (grpB ++ y) = 40 :: Utf.nums y := by rw [Br.nums_append']; rfl
  unfold Lx.tokX
  dsimp only
  rw [hnu]
  show Lx.openX (grpB ++ y) = _
  unfold Lx.openX
  rw [hnu, if_pos (by rw [List.getElem?_cons_succ]; exact h)]
  rfl
theorem lex_a (y : ByteArray) : Lx.lexR (aB ++ y) 0 false [] = Lx.behind 1 [(0, aT)] (Lx.lexR y 0 false []) := by
  refine lex_front (P := aB) (by decide) (by decide) ?_
  have hnu : Utf.nums (aB ++ y) = 97 :: Utf.nums y := by rw [Br.nums_append']; rfl
  unfold Lx.tokX
  dsimp only
  rw [hnu]
  show Lx.charX (97 :: Utf.nums y) = _
  unfold Lx.charX
  have e := Utf.dec_enc 97 (by decide) (Utf.nums y)
  rw [show Utf.encN 97 ++ Utf.nums y = 97 :: Utf.nums y from rfl] at e
  rw [e]
  rfl
theorem lex_close (y : ByteArray) : Lx.lexR (Lx.closeB ++ y) 0 false [] = Lx.behind 1 [(0, Lx.closeT)] (Lx.lexR y 0 false []) := by
  refine lex_front (P := Lx.closeB) (by decide) (by decide) ?_
  have hnu : Utf.nums (Lx.closeB ++ y) = 41 :: Utf.nums y := by rw [Br.nums_append']; rfl
  unfold Lx.tokX
  dsimp only
  rw [hnu]
  rfl
/-- Texts one behind another. -/
def catB (l : List ByteArray) : ByteArray := l.foldr (· ++ ·) ⟨#[]⟩
theorem catB_cons (a : ByteArray) (l : List ByteArray) : catB (a :: l) = a ++ catB l := rfl
theorem closes_lex : ∀ k : Nat, ∃ C, Lx.lexR (catB (List.replicate k Lx.closeB)) 0 false [] = .ok C ∧ C.map (·.2) = List.replicate k Lx.closeT
  | 0 => ⟨[], rfl, rfl⟩
  | k + 1 => by
    obtain ⟨C, h1, h2⟩ := closes_lex k
    refine ⟨[(0, Lx.closeT)] ++ shT 1 C, ?_, ?_⟩
    · rw [List.replicate_succ, catB_cons, lex_close, h1]; rfl
    · rw [List.map_append]
      unfold shT
      rw [List.map_map, List.replicate_succ, ← h2]
      rfl
theorem opens_first : ∀ (os : List Bool) (y : ByteArray), (Utf.nums y)[0]?.getD 0 ≠ 63 → (Utf.nums (catB (os.map brB) ++ y))[0]?.getD 0 ≠ 63
  | [], y, h => by
    have : catB (([] : List Bool).map brB) ++ y = y := by apply Br.nums_inj'; rw [Br.nums_append']; rfl
    rw [this]; exact h
  | b :: os, y, _ => by
    rw [List.map_cons, catB_cons, Br.nums_append', Br.nums_append']
    cases b
    · exact (by decide : (40 : Int) ≠ 63)
    · exact (by decide : (40 : Int) ≠ 63)
theorem opens_lex : ∀ (os : List Bool) (y : ByteArray) (T : TL), (Utf.nums y)[0]?.getD 0 ≠ 63 → Lx.lexR y 0 false [] = .ok T → ∃ A d, Lx.lexR (catB (os.map brB) ++ y) 0 false [] = .ok (A ++ shT d T) ∧ A.map (·.2) = os.map brT
  | [], y, T, h, hT => by
    have e : catB (([] : List Bool).map brB) ++ y = y := by apply Br.nums_inj'; rw [Br.nums_append']; rfl
    exact ⟨[], 0, by rw [e, hT, shT_zero]; rfl, rfl⟩
  | b :: os, y, T, h, hT => by
    obtain ⟨A, d, h1, h2⟩ := opens_lex os y T h hT
    have hf := opens_first os y h
    have ha : catB ((b :: os).map brB) ++ y = brB b ++ (catB (os.map brB) ++ y) := by
      rw [List.map_cons, catB_cons, ByteArray.append_assoc]
    have hb : ∃ e : Nat, Lx.lexR (brB b ++ (catB (os.map brB) ++ y)) 0 false [] = Lx.behind e [(0, brT b)] (Lx.lexR (catB (os.map brB) ++ y) 0 false []) := by
      cases b
      · exact ⟨3, Lx.lex_open _⟩
      · exact ⟨1, lex_grp hf⟩
    obtain ⟨e, hb⟩ := hb
    refine ⟨[(0, brT b)] ++ shT e A, d + e, ?_, ?_⟩
    · rw [ha, hb, h1]
      show LR.ok ([(0, brT b)] ++ shT (e : Int) (A ++ shT d T)) = _
      rw [shT_append, shT_shT, List.append_assoc]
    · rw [List.map_append]
      unfold shT
      rw [List.map_map, List.map_cons (f := brT), ← h2]
      rfl
/-- Brackets around a letter, as a text. -/
def nestB (os : List Bool) : ByteArray := catB (os.map brB) ++ (aB ++ catB (List.replicate os.length Lx.closeB))
theorem nest_parse (os : List Bool) (hc : Td.checkN (nestN os 0) = 0) : parseF (nestB os) 0 = (some (nestN os 0), 0, 0) := by
  obtain ⟨C, c1, c2⟩ := closes_lex os.length
  have ha : Lx.lexR (aB ++ catB (List.replicate os.length Lx.closeB)) 0 false [] = .ok ([(0, aT)] ++ shT 1 C) := by rw [lex_a, c1]; rfl
  have hf : (Utf.nums (aB ++ catB (List.replicate os.length Lx.closeB)))[0]?.getD 0 ≠ 63 := by
    rw [Br.nums_append']
    exact (by decide : (97 : Int) ≠ 63)
  obtain ⟨A, d, h1, h2⟩ := opens_lex os _ _ hf ha
  have hL : A ++ shT d ([(0, aT)] ++ shT 1 C) = A ++ (0 + d, aT) :: shT (1 + d) C := by
    rw [shT_append, shT_shT]; rfl
  rw [hL] at h1
  have hC : (shT (1 + d) C).map (·.2) = List.replicate os.length Lx.closeT := by
    unfold shT
    rw [List.map_map, ← c2]
    rfl
  have hN := nest_of (0 + d) os A (shT (1 + d) C) h2 hC
  have hat := atom_nest hN [endT (nestB os).size] 0 0 (Fl.refl 0)
  refine parse_of (n := 3 * os.length + 3) h1 ?_ ⟨0, 0 + nestG os, ?_⟩ hc
  · have e1 : A.length = os.length := by have := congrArg List.length h2; simpa using this
    have e2 : (shT (1 + d) C).length = os.length := by have := congrArg List.length hC; simpa using this
    rw [List.length_append, List.length_cons, e1, e2]
    omega
  · have hk := hN.kd [endT (nestB os).size]
    have hs : seqP (3 * os.length + 2) ((A ++ (0 + d, aT) :: shT (1 + d) C) ++ [endT (nestB os).size]) 0 0 [] = .ok (nestN os 0) [endT (nestB os).size] 0 (0 + nestG os) := by
      rw [seqP_eq (3 * os.length + 1) _ 0 0 [], if_neg (by omega), if_neg (by omega), if_neg (by omega), hat]
      dsimp only
      rw [show repT [endT (nestB os).size] = [endT (nestB os).size] from rfl]
      rw [seqP_eq (3 * os.length)]
      rfl
    exact alt_last rfl hs
theorem nest_falses (k : Nat) (g : Int) : nestN (List.replicate k false) g = letN := by
  induction k with
  | zero => rfl
  | succ k ih => rw [List.replicate_succ]; exact ih
end Ps
end Go.Proofs.YtdcielcniboloaaGreatDoor
namespace Go.Proofs
open Go.Shelf Go.RowKit
theorem Tryz.extraRep : Builder.Extra Tryz.prog Tryz.layRepeat_ren where
  sizeBuilder := by kernel_rfl
  liesBuilder := by kernel_rfl
  t5 := Tryz.layRepeat.t5
  a5 := Tryz.layRepeat.a5
  z5 := Tryz.layRepeat.z5
  v5 := Tryz.layRepeat.v5
  infoByte := by kernel_rfl
  cellsByte := by kernel_rfl
  sizeByte := by kernel_rfl
  neB5 := by decide
end Go.Proofs
namespace Go.Proofs.YtdcielcniboloaaGreatDoor
open Go.Shelf Go.RowKit
set_option linter.unusedVariables false
theorem repeatL_cat (s : ByteArray) : ∀ c : Nat, (⟨(Lib.repeatL s.data.toList c).toArray⟩ : ByteArray) = Ps.catB (List.replicate c s)
  | 0 => rfl
  | c + 1 => by
    rw [List.replicate_succ, Ps.catB_cons, ← repeatL_cat s c]
    apply Br.nums_inj'
    rw [Br.nums_append']
    unfold Utf.nums
    rw [Lib.repeatL]
    simp
theorem strRepeat_any (w : World) (s : ByteArray) (c : Nat) (hs : s.size ≤ 1000) (hc : c ≤ 100000) : Calls Tryz.prog 21 #[.string s, .int .i64 (c : Int)] w fun e w' => e = .returned (.string (Ps.catB (List.replicate c s))) ∧ Below w.heap.size w w' := by
  have hm : s.size * c ≤ 1000 * 100000 := Nat.mul_le_mul hs hc
  have h := Any.strings_Repeat Tryz.layRepeat Tryz.extraRep s c w (by omega) (by omega)
  change Calls Tryz.prog 21 _ _ _ at h
  rw [repeatL_cat] at h
  exact h
end Go.Proofs.YtdcielcniboloaaGreatDoor
namespace Go.Proofs.YtdcielcniboloaaGreatDoor
open Go.RowKit
set_option linter.unusedVariables false
/-- A value that reads as a list of texts, wherever it begins. -/
def SRow (W : World) (v : Value) (L : List ByteArray) : Prop :=
  ∃ a cap, v = .slice a L.length cap ∧ L.length ≤ 8796093022208 ∧ ∀ j (hj : j < L.length), ∃ b off, a = some ⟨b, off, none⟩ ∧ b < W.heap.size ∧ W.cell? ⟨b, off + j, none⟩ = some (.string L[j]) ∧ L[j].size ≤ 140737488351232
theorem SRow.below {W W' : World} {v : Value} {L : List ByteArray} (h : SRow W v L) {B : Nat} (hB : W.heap.size ≤ B) (hb : Below B W W') : SRow W' v L := by
  obtain ⟨a, cap, hv, h1, hc⟩ := h
  refine ⟨a, cap, hv, h1, fun j hj => ?_⟩
  obtain ⟨b, off, ha, hlt, hcell, hs⟩ := hc j hj
  exact ⟨b, off, ha, Nat.lt_of_lt_of_le hlt hb.size, (hb.cell (p := ⟨b, off + j, none⟩) (by show b < B; omega)).trans hcell, hs⟩
set_option maxRecDepth 100000 in
set_option maxHeartbeats 2000000 in
theorem below_any (W : World) (n most : Int) (h0 : 1 ≤ most) (h1 : most ≤ 1000000000) (hn : I64 n) :
    Calls Tryz.prog 20 #[.int .i64 n, .int .i64 most] W fun e w' => ∃ k : Nat, e = .returned (.int .i64 (k : Int)) ∧ (k : Int) < most ∧ W = w' := by
  obtain ⟨hn0, hn1⟩ := hn
  have hm0 : ¬ most < 1 := by omega
  have hmz : ¬ most = 0 := by omega
  obtain ⟨r, hr⟩ : ∃ r, n.tmod most = r := ⟨_, rfl⟩
  have hr1 : r < most ∧ -most < r := by
    rw [← hr]
    have a1 := Int.tmod_lt_of_pos n (show 0 < most by omega)
    have a2 : -most < n.tmod most := by
      have a3 := Int.tmod_lt_of_pos (-n) (show 0 < most by omega)
      rw [Int.neg_tmod] at a3
      omega
    omega
  by_cases hneg : r < 0
  · obtain ⟨k, hk⟩ : ∃ k : Nat, r + most = (k : Int) := ⟨(r + most).toNat, by omega⟩
    have HK := Lib.hid hk
    go_enter Tryz.func20, Tryz.ntmps20
    go_wp2
    go_ret
    exact ⟨k, rfl, by have := HK.out; omega, rfl⟩
  · obtain ⟨k, hk⟩ : ∃ k : Nat, r = (k : Int) := ⟨r.toNat, by omega⟩
    have HK := Lib.hid hk
    go_enter Tryz.func20, Tryz.ntmps20
    go_wp2
    go_ret
    exact ⟨k, by rw [← HK.out]; rfl, by have := HK.out; omega, rfl⟩
end Go.Proofs.YtdcielcniboloaaGreatDoor
namespace Go.Proofs.YtdcielcniboloaaGreatDoor
open Go.RowKit
open Lx (Tk TR LR)
open Ps (TL)
set_option linter.unusedVariables false
namespace Ps
/-- Five groups, one in another, and more brackets. -/
def osG (m : Nat) : List Bool := [true, false, true, false, true, false, true, false, true, false] ++ List.replicate m false
def gN1 (g : Int) (x : Nd) : Nd := .mk 6 [] g ⟨#[]⟩ 0 0 false [x]
def treeG : Nd := gN1 1 (gN1 2 (gN1 3 (gN1 4 (gN1 5 letN))))
theorem nest_osG (m : Nat) : nestN (osG m) 0 = treeG := by
  show gN1 (0 + 1) (gN1 (0 + 1 + 1) (gN1 (0 + 1 + 1 + 1) (gN1 (0 + 1 + 1 + 1 + 1) (gN1 (0 + 1 + 1 + 1 + 1 + 1) (nestN (List.replicate m false) _))))) = treeG
  rw [nest_falses]
  rfl
theorem let_check : Td.checkN letN = 0 := by kernel_rfl
theorem treeG_check : Td.checkN treeG = 0 := by kernel_rfl
theorem treeG_dep : Td.dep 1001 treeG = 6 := by kernel_rfl
theorem treeG_groups : (Td.groups (Td.all 1000 1 treeG)).length = 5 := by kernel_rfl
theorem treeG_all : (Td.all 1000 1 treeG).length ≤ 1000000 := by
  have h : (Td.all 1000 1 treeG).length = 6 := by kernel_rfl
  omega
theorem catB_app (l m : List ByteArray) : catB (l ++ m) = catB l ++ catB m := by
  induction l with
  | nil => apply Br.nums_inj'; rw [Br.nums_append']; rfl
  | cons a l ih => rw [List.cons_append, catB_cons, catB_cons, ih, ByteArray.append_assoc]
theorem catB_size (s : ByteArray) (k : Nat) : (catB (List.replicate k s)).size = k * s.size := by
  induction k with
  | zero => rw [Nat.zero_mul]; rfl
  | succ k ih => rw [List.replicate_succ, catB_cons, ByteArray.size_append, ih, Nat.succ_mul]; omega
theorem deep_one (K : Nat) : (catB (List.replicate K ⟨#[40, 63, 58]⟩) ++ (⟨#[97]⟩ : ByteArray)) ++ catB (List.replicate K ⟨#[41]⟩) = nestB (List.replicate K false) := by
  unfold nestB
  rw [List.map_replicate, List.length_replicate, ByteArray.append_assoc]
  rfl
theorem deep_two (K m : Nat) (h : K = m + 5) : ((catB (List.replicate 5 ⟨#[40, 40, 63, 58]⟩) ++ catB (List.replicate m ⟨#[40, 63, 58]⟩)) ++ (⟨#[97]⟩ : ByteArray)) ++ catB (List.replicate (K + 5) ⟨#[41]⟩) = nestB (osG m) := by
  unfold nestB osG
  have e : K + 5 = ([true, false, true, false, true, false, true, false, true, false] ++ List.replicate m false).length := by
    rw [List.length_append, List.length_replicate]; show K + 5 = 10 + m; omega
  rw [← e, List.map_append, List.map_replicate, catB_app, ByteArray.append_assoc]
  rfl
end Ps
set_option maxRecDepth 100000 in
set_option maxHeartbeats 16000000 in
theorem walkParseDeep (W : World) (many : Int) (hfw : (Lit.int .i64 many).wf = true) (hE : Ev W) : Calls Tryz.prog 7 #[.int .i64 many] W fun e w' => e = .returned (.bool true) ∧ Below W.heap.size W w' := by
  have HE := Lib.hid hE
  clear hE
  have hI : I64 many := by
    have h := hfw
    unfold I64
    simp [Lit.wf] at h
    have e1 : IntKind.i64.min = -9223372036854775808 := by decide
    have e2 : IntKind.i64.max = 9223372036854775807 := by decide
    first | exact h | (rw [e1, e2] at h; exact h)
  have HBL := Lib.hid (fun w => below_any w many 116 (by omega) (by omega) hI)
  clear hI
  go_enter Tryz.func7, Tryz.ntmps7
  go_wp2_with fail
  refine (works9_any _ HE.out).mono ?_
  rintro e w1 ⟨rfl, hb⟩
  have HB := Lib.hid hb
  clear hb
  go_wp2_with fail
  refine (HBL.out _).mono ?_
  rintro e w' ⟨j, rfl, hj, rfl⟩
  obtain ⟨m, hm⟩ : ∃ m, 895 + j = m := ⟨_, rfl⟩
  obtain ⟨K, hK⟩ : ∃ K, m + 5 = K := ⟨_, rfl⟩
  obtain ⟨K5, hK5⟩ : ∃ K5, K + 5 = K5 := ⟨_, rfl⟩
  have hw1 : IntKind.i64.wrap (900 + (j : Int)) = (K : Int) := by rw [IntKind.wrap_i64]; omega
  have hw2 : IntKind.i64.wrap ((K : Int) - 5) = (m : Int) := by rw [IntKind.wrap_i64]; omega
  have hw3 : IntKind.i64.wrap ((K : Int) + 5) = (K5 : Int) := by rw [IntKind.wrap_i64]; omega
  have e1 := Ps.deep_one K
  have e2 := Ps.deep_two K m hK.symm
  rw [hK5] at e2
  have p1 := Ps.nest_parse (List.replicate K false) (by rw [Ps.nest_falses]; exact Ps.let_check)
  have p2 := Ps.nest_parse (Ps.osG m) (by rw [Ps.nest_osG]; exact Ps.treeG_check)
  rw [Ps.nest_falses] at p1
  rw [Ps.nest_osG] at p2
  have s1 := Ps.catB_size ⟨#[40, 63, 58]⟩ K
  have s2 := Ps.catB_size ⟨#[41]⟩ K
  have s3 := Ps.catB_size ⟨#[40, 63, 58]⟩ m
  have s4 := Ps.catB_size ⟨#[41]⟩ K5
  have s5 := Ps.catB_size ⟨#[40, 40, 63, 58]⟩ 5
  rw [show (⟨#[40, 63, 58]⟩ : ByteArray).size = 3 from rfl] at s1 s3
  rw [show (⟨#[41]⟩ : ByteArray).size = 1 from rfl] at s2 s4
  rw [show (⟨#[40, 40, 63, 58]⟩ : ByteArray).size = 4 from rfl] at s5
  have hz1 : (Ps.nestB (List.replicate K false)).size ≤ 4096 := by
    rw [← e1, ByteArray.size_append, ByteArray.size_append, s1, s2]
    show K * 3 + 1 + K * 1 ≤ 4096
    omega
  have hz2 : (Ps.nestB (Ps.osG m)).size ≤ 4096 := by
    rw [← e2, ByteArray.size_append, ByteArray.size_append, ByteArray.size_append, s3, s4, s5]
    show 5 * 4 + m * 3 + 1 + K5 * 1 ≤ 4096
    omega
  have HP1 := Lib.hid (fun w (hw : Ev w) => parse_any w (Ps.nestB (List.replicate K false)) hz1 0 hw)
  have HP2 := Lib.hid (fun w (hw : Ev w) => parse_any w (Ps.nestB (Ps.osG m)) hz2 0 hw)
  rw [p1] at HP1
  rw [p2] at HP2
  obtain ⟨A, hA⟩ : ∃ A, Ps.catB (List.replicate K ⟨#[40, 63, 58]⟩) = A := ⟨_, rfl⟩
  obtain ⟨C, hC⟩ : ∃ A, Ps.catB (List.replicate K ⟨#[41]⟩) = A := ⟨_, rfl⟩
  obtain ⟨D, hD⟩ : ∃ A, Ps.catB (List.replicate 5 ⟨#[40, 40, 63, 58]⟩) = A := ⟨_, rfl⟩
  obtain ⟨F, hF⟩ : ∃ A, Ps.catB (List.replicate m ⟨#[40, 63, 58]⟩) = A := ⟨_, rfl⟩
  obtain ⟨G, hG⟩ : ∃ A, Ps.catB (List.replicate K5 ⟨#[41]⟩) = A := ⟨_, rfl⟩
  have HR1 := Lib.hid (fun w => strRepeat_any w ⟨#[40, 63, 58]⟩ K (by decide) (by omega))
  have HR2 := Lib.hid (fun w => strRepeat_any w ⟨#[41]⟩ K (by decide) (by omega))
  have HR3 := Lib.hid (fun w => strRepeat_any w ⟨#[40, 40, 63, 58]⟩ 5 (by decide) (by omega))
  have HR4 := Lib.hid (fun w => strRepeat_any w ⟨#[40, 63, 58]⟩ m (by decide) (by omega))
  have HR5 := Lib.hid (fun w => strRepeat_any w ⟨#[41]⟩ K5 (by decide) (by omega))
  rw [hA] at HR1 e1 s1
  rw [hC] at HR2 e1 s2
  rw [hD] at HR3 e2 s5
  rw [hF] at HR4 e2 s3
  rw [hG] at HR5 e2 s4
  have t1 : (A ++ (⟨#[97]⟩ : ByteArray)).size = A.size + 1 := ByteArray.size_append ..
  have t2 : (D ++ F).size = D.size + F.size := ByteArray.size_append ..
  have t3 : ((D ++ F) ++ (⟨#[97]⟩ : ByteArray)).size = (D ++ F).size + 1 := ByteArray.size_append ..
  have n1 : ¬ 9223372036854775807 < A.size + 1 := by omega
  have n2 : ¬ 9223372036854775807 < (A ++ (⟨#[97]⟩ : ByteArray)).size + C.size := by omega
  have n3 : ¬ 9223372036854775807 < D.size + F.size := by omega
  have n4 : ¬ 9223372036854775807 < (D ++ F).size + 1 := by omega
  have n5 : ¬ 9223372036854775807 < ((D ++ F) ++ (⟨#[97]⟩ : ByteArray)).size + G.size := by omega
  have n6 : ¬ 9223372036854775807 < D.size + F.size + 1 := by omega
  have n7 : ¬ 9223372036854775807 < D.size + F.size + 1 + G.size := by omega
  have n8 : ¬ 9223372036854775807 < A.size + 1 + C.size := by omega
  have HC1 := Lib.hid e1
  have HC2 := Lib.hid e2
  clear e1 e2 p1 p2 s1 s2 s3 s4 s5 t1 t2 t3 hz1 hz2 hA hC hD hF hG hm hK hK5 hj
  go_wp2_with fail
  refine (HR1.out _).mono ?_
  rintro e w2 ⟨rfl, hb⟩
  have HB2 := Lib.hid (HB.out.trans (hb.mono HB.out.size))
  clear hb
  go_wp2_with fail
  refine (HR2.out _).mono ?_
  rintro e w3 ⟨rfl, hb⟩
  have HB3 := Lib.hid (HB2.out.trans (hb.mono HB2.out.size))
  clear hb
  go_wp2_with fail
  rw [HC1.out]
  refine (HP1.out _ (HE.out.below (Nat.le_refl _) HB3.out)).mono ?_
  rintro e w4 ⟨acs, rfl, hnd, hb⟩
  have HBq := Lib.hid (HB3.out.trans (hb.mono HB3.out.size))
  obtain ⟨au0, au1, au2, au3, au4, au5, au6, au7, asa, asc, aaa, aac, he, F⟩ := hnd.form_of
  subst he
  obtain ⟨rfl, rfl, rfl, rfl, rfl, rfl, rfl, rfl⟩ := F
  obtain ⟨x, hx⟩ : ∃ x, (some Ps.letN, 0, 0).1.getD (Ps.leafN 0 0) = x := ⟨_, rfl⟩
  rw [hx] at hnd
  rw [hx]
  obtain ⟨na, hnb⟩ : ∃ nb, w4.heap.size = nb := ⟨_, rfl⟩
  obtain ⟨w5, hwn⟩ : ∃ wn, w4.alloc (ndBox x asa asc aaa aac) = wn := ⟨_, rfl⟩
  have hbn : Below w4.heap.size w4 w5 := by rw [← hwn]; exact (Below.refl _ _).alloc (Nat.le_refl _) _
  have HXx : Hid (Bx w5 na x asa asc aaa aac) := Lib.hid (by rw [← hwn, ← hnb]; exact Bx.new hnd)
  have HB5 := Lib.hid (HBq.out.trans (hbn.mono HBq.out.size))
  have HWx := Lib.hid hwn
  have HNx := Lib.hid hnb
  have HEx := Lib.hid hx
  clear hnd hb hx hnb hwn hbn HBq
  have hx9 : Ps.letN = x := HEx.out
  subst hx9
  go_wp2_with fail
  rw [HWx.out, HNx.out]
  refine (HR3.out _).mono ?_
  rintro e w6 ⟨rfl, hb⟩
  have HB6 := Lib.hid (HB5.out.trans (hb.mono HB5.out.size))
  clear hb
  go_wp2_with fail
  refine (HR4.out _).mono ?_
  rintro e w7 ⟨rfl, hb⟩
  have HB7 := Lib.hid (HB6.out.trans (hb.mono HB6.out.size))
  clear hb
  go_wp2_with fail
  refine (HR5.out _).mono ?_
  rintro e w8 ⟨rfl, hb⟩
  have HB8 := Lib.hid (HB7.out.trans (hb.mono HB7.out.size))
  clear hb
  go_wp2_with fail
  rw [HC2.out]
  refine (HP2.out _ (HE.out.below (Nat.le_refl _) HB8.out)).mono ?_
  rintro e w9 ⟨bcs, rfl, hnd, hb⟩
  have HBq := Lib.hid (HB8.out.trans (hb.mono HB8.out.size))
  obtain ⟨bu0, bu1, bu2, bu3, bu4, bu5, bu6, bu7, bsa, bsc, baa, bac, he, F⟩ := hnd.form_of
  subst he
  obtain ⟨rfl, rfl, rfl, rfl, rfl, rfl, rfl, rfl⟩ := F
  obtain ⟨y, hx⟩ : ∃ x, (some Ps.treeG, 0, 0).1.getD (Ps.leafN 0 0) = x := ⟨_, rfl⟩
  rw [hx] at hnd
  rw [hx]
  obtain ⟨nb, hnb⟩ : ∃ nb, w9.heap.size = nb := ⟨_, rfl⟩
  obtain ⟨w10, hwn⟩ : ∃ wn, w9.alloc (ndBox y bsa bsc baa bac) = wn := ⟨_, rfl⟩
  have hbn : Below w9.heap.size w9 w10 := by rw [← hwn]; exact (Below.refl _ _).alloc (Nat.le_refl _) _
  have HXy : Hid (Bx w10 nb y bsa bsc baa bac) := Lib.hid (by rw [← hwn, ← hnb]; exact Bx.new hnd)
  have HB10 := Lib.hid (HBq.out.trans (hbn.mono HBq.out.size))
  have HWy := Lib.hid hwn
  have HNy := Lib.hid hnb
  have HEy := Lib.hid hx
  clear hnd hb hx hnb hwn hbn HBq
  have hy9 : Ps.treeG = y := HEy.out
  subst hy9
  go_wp2_with fail
  rw [HWy.out, HNy.out]
  refine (trGroups_any w10 Ps.treeG _ HXy.out.nd Ps.treeG_all).mono ?_
  rintro e w11 ⟨gv, rfl, hgv, hb⟩
  have HB11 := Lib.hid (HB10.out.trans (hb.mono HB10.out.size))
  have HXy2 := Lib.hid (HXy.out.kept hb)
  obtain ⟨ga, gc, hgs⟩ := TxOwn.slice hgv
  rw [Ps.treeG_groups] at hgs
  subst hgs
  clear hgv hb
  have fb0 : w11.cell? ⟨nb, 0, none⟩ = some (.int .i64 (Td.kind (Ps.treeG))) := HXy2.out.at 0
  have fb1 : w11.cell? ⟨nb, 1, none⟩ = some (.slice bsa (Td.set (Ps.treeG)).length bsc) := HXy2.out.at 1
  have fb2 : w11.cell? ⟨nb, 2, none⟩ = some (.int .i64 (Td.num (Ps.treeG))) := HXy2.out.at 2
  have fb3 : w11.cell? ⟨nb, 3, none⟩ = some (.string (Td.name (Ps.treeG))) := HXy2.out.at 3
  have fb4 : w11.cell? ⟨nb, 4, none⟩ = some (.int .i64 (Td.mn (Ps.treeG))) := HXy2.out.at 4
  have fb5 : w11.cell? ⟨nb, 5, none⟩ = some (.int .i64 (Td.mx (Ps.treeG))) := HXy2.out.at 5
  have fb6 : w11.cell? ⟨nb, 6, none⟩ = some (.bool (Td.lazy (Ps.treeG))) := HXy2.out.at 6
  have fb7 : w11.cell? ⟨nb, 7, none⟩ = some (.slice baa (Td.subs (Ps.treeG)).length bac) := HXy2.out.at 7
  go_wp2_with fail
  have hdp := trDepth_any w11 Ps.treeG _ HXy2.out.nd
  rw [Ps.treeG_dep] at hdp
  refine hdp.mono ?_
  rintro e w12 ⟨rfl, hb⟩
  have HB12 := Lib.hid (HB11.out.trans (hb.mono HB11.out.size))
  clear hb
  go_wp2
  go_ret
  exact ⟨rfl, HB12.out⟩
end Go.Proofs.YtdcielcniboloaaGreatDoor
