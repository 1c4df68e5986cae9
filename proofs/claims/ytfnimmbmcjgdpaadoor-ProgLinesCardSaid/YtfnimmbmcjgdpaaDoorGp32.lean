/- The reference's prog (burinref14): Read. -/
import Derived.Test.YtfnimmbmcjgdpaaDoorGp31
import Derived.Deep.DeepCutAuto
import Derived.Deep.CutBlock
namespace Go.Proofs.YtfnimmbmcjgdpaaDoor
open Go.RowKit Go.Shelf
set_option linter.unusedVariables false
namespace Pgm
theorem bd14 {op lo hi x y : Int} (h0 : 0 ≤ op ∧ op ≤ 100000) (h1 : 0 ≤ lo ∧ lo ≤ 100000) (h2 : 0 ≤ hi ∧ hi ≤ 100000) (h3 : 0 ≤ x ∧ x ≤ 100000) (h4 : 0 ≤ y ∧ y ≤ 100000) : (⟨op, lo, hi, x, y⟩ : In).bd := by
  unfold In.bd I64
  dsimp only
  omega
theorem NX.bd {S : List UInt8} {p : Nat} {bad : Bool} {n : Int} {q : Nat} {b : Bool} (h : NX S p bad n q b) : 0 ≤ n ∧ n ≤ 100000 := ⟨h.2.2.1, h.2.2.2.1⟩
/-- No program but this one has the text. -/
def NoRead (S : List UInt8) (g : List In) (a1 a2 : Int) : Prop := ¬ (Ok g a1 a2 ∧ textL g a1 a2 = S) → readL S = none
/-- What a line's switch leaves. -/
def SwP (W wr w : World) (R C X : Nat) (s : ByteArray) (p : Nat) : Prop := ∃ (i : In) (q : Nat) (b : Bool), RX W wr w R C X s q b i ∧ InT s.data.toList p i q b ∧ i.bd ∧ q ≤ s.size ∧ (p < q ∨ (q = p ∧ b = true))
set_option maxRecDepth 100000 in
set_option maxHeartbeats 32000000 in
theorem refRd_any (W : World) (s : ByteArray) (hs : s.size ≤ 1000000) : Calls Tryd.prog 22 #[.string s] W (ReadPost s.data.toList W) := by
  have hSl := size_list s
  obtain ⟨C, hC⟩ : ∃ C, W.heap.size + 1 = C := ⟨_, rfl⟩
  have HQWT : Hid (∀ (w : World) (p : Nat) (b : Bool), CurAt w C s (p : Int) b → p ≤ s.size → Calls Tryd.prog 50 #[.pointer (some ⟨C, 0, none⟩), .string (⟨#[112, 114, 111, 103, 114, 97, 109]⟩ : ByteArray)] w (WordPost w C s p b [112, 114, 111, 103, 114, 97, 109])) := Lib.hid (fun w p b hc hp => word_any w C s p b [112, 114, 111, 103, 114, 97, 109] hs hp (by decide) hc)
  have HQWE : Hid (∀ (w : World) (p : Nat) (b : Bool), CurAt w C s (p : Int) b → p ≤ s.size → Calls Tryd.prog 50 #[.pointer (some ⟨C, 0, none⟩), .string (⟨#[10]⟩ : ByteArray)] w (WordPost w C s p b [10])) := Lib.hid (fun w p b hc hp => word_any w C s p b [10] hs hp (by decide) hc)
  have HQW0 : Hid (∀ (w : World) (p : Nat) (b : Bool), CurAt w C s (p : Int) b → p ≤ s.size → Calls Tryd.prog 50 #[.pointer (some ⟨C, 0, none⟩), .string (⟨#[98, 121, 116, 101]⟩ : ByteArray)] w (WordPost w C s p b [98, 121, 116, 101])) := Lib.hid (fun w p b hc hp => word_any w C s p b [98, 121, 116, 101] hs hp (by decide) hc)
  have HQW1 : Hid (∀ (w : World) (p : Nat) (b : Bool), CurAt w C s (p : Int) b → p ≤ s.size → Calls Tryd.prog 50 #[.pointer (some ⟨C, 0, none⟩), .string (⟨#[115, 112, 108, 105, 116]⟩ : ByteArray)] w (WordPost w C s p b [115, 112, 108, 105, 116])) := Lib.hid (fun w p b hc hp => word_any w C s p b [115, 112, 108, 105, 116] hs hp (by decide) hc)
  have HQW2 : Hid (∀ (w : World) (p : Nat) (b : Bool), CurAt w C s (p : Int) b → p ≤ s.size → Calls Tryd.prog 50 #[.pointer (some ⟨C, 0, none⟩), .string (⟨#[99, 97, 112]⟩ : ByteArray)] w (WordPost w C s p b [99, 97, 112])) := Lib.hid (fun w p b hc hp => word_any w C s p b [99, 97, 112] hs hp (by decide) hc)
  have HQW3 : Hid (∀ (w : World) (p : Nat) (b : Bool), CurAt w C s (p : Int) b → p ≤ s.size → Calls Tryd.prog 50 #[.pointer (some ⟨C, 0, none⟩), .string (⟨#[97, 115, 115, 101, 114, 116]⟩ : ByteArray)] w (WordPost w C s p b [97, 115, 115, 101, 114, 116])) := Lib.hid (fun w p b hc hp => word_any w C s p b [97, 115, 115, 101, 114, 116] hs hp (by decide) hc)
  have HQW4 : Hid (∀ (w : World) (p : Nat) (b : Bool), CurAt w C s (p : Int) b → p ≤ s.size → Calls Tryd.prog 50 #[.pointer (some ⟨C, 0, none⟩), .string (⟨#[109, 97, 116, 99, 104]⟩ : ByteArray)] w (WordPost w C s p b [109, 97, 116, 99, 104])) := Lib.hid (fun w p b hc hp => word_any w C s p b [109, 97, 116, 99, 104] hs hp (by decide) hc)
  have HQW5 : Hid (∀ (w : World) (p : Nat) (b : Bool), CurAt w C s (p : Int) b → p ≤ s.size → Calls Tryd.prog 50 #[.pointer (some ⟨C, 0, none⟩), .string (⟨#[102, 97, 105, 108]⟩ : ByteArray)] w (WordPost w C s p b [102, 97, 105, 108])) := Lib.hid (fun w p b hc hp => word_any w C s p b [102, 97, 105, 108] hs hp (by decide) hc)
  have HN : Hid (∀ (w : World) (p : Nat) (b : Bool), CurAt w C s (p : Int) b → p ≤ s.size → Calls Tryd.prog 51 #[.pointer (some ⟨C, 0, none⟩)] w fun e w' => ∃ (n : Int) (q : Nat) (b' : Bool), e = .returned (.int .i64 n) ∧ CurAt w' C s (q : Int) b' ∧ w.grownBy w' (some C) ∧ NX s.data.toList p b n q b') := Lib.hid (fun w p b hc hp => (numc_any w C s p b hs hp hc).mono fun _ _ h => num_nx h)
  obtain ⟨W1, hW1⟩ : ∃ W1, W.alloc (.cells #[.slice none 0 0, .int .i64 0, .int .i64 0] 46) = W1 := ⟨_, rfl⟩
  have hx1 : W1.heap[W.heap.size]? = some (.cells #[.slice none 0 0, .int .i64 0, .int .i64 0] 46 (0, 0)) := by rw [← hW1]; exact heap_alloc_new W _
  have hb1 : Below W.heap.size W W1 := by rw [← hW1]; exact (Below.refl _ _).alloc (Nat.le_refl _) _
  have hs1 : W1.heap.size = W.heap.size + 1 := by rw [← hW1]; simp
  obtain ⟨W2, hW2⟩ : ∃ W2, W1.alloc (.cells #[.string s, .int .i64 0, .bool false] 95) = W2 := ⟨_, rfl⟩
  have hx2 : W2.heap[W.heap.size]? = some (.cells #[.slice none 0 0, .int .i64 0, .int .i64 0] 46 (0, 0)) := by rw [← hW2]; exact (Below.heap_alloc _ _ _ (by omega)).trans hx1
  have hc2 : CurAt W2 C s ((0 : Nat) : Int) false := by unfold CurAt; rw [← hW2, ← hC, ← hs1]; exact heap_alloc_new W1 _
  have hb2 : Below W.heap.size W W2 := by rw [← hW2]; exact hb1.alloc (by omega) _
  have HX2 := Lib.hid hx2
  have HC2 := Lib.hid hc2
  have HB2 := Lib.hid hb2
  have HW1 := Lib.hid hW1
  have HW2 := Lib.hid hW2
  have HC := Lib.hid hC
  have HS1 := Lib.hid hs1
  clear hx1 hb1 hx2 hc2 hb2 hW1 hW2 hs1 hC hs hSl
  obtain ⟨S, hS⟩ : ∃ S, s.data.toList = S := ⟨_, rfl⟩
  have HSL : Hid (S.length = s.size) := Lib.hid (by rw [← hS]; exact size_list s)
  have HSS : Hid (txB S = s) := Lib.hid (by rw [← hS]; exact txB_of s)
  have HSE := Lib.hid hS
  clear hS
  go_enter Tryd.func22, Tryd.ntmps22
  go_wp2_with fail
  rw [HW1.out, HW2.out, HC.out]
  refine (HQWT.out W2 0 false HC2.out (by omega)).mono ?_
  rintro e w3 (⟨hw, rfl, hc3, hg3, hle⟩ | ⟨hw, rfl, hc3, hg3⟩)
  · have hc3' : CurAt w3 C s ((7 : Nat) : Int) false := hc3
    have hl3 := hc3'.lt
    have hx3 := (hg3.block W.heap.size (Array.getElem?_eq_some_iff.1 HX2.out).1 (fun e => by injection e with e; have := HC.out; omega)).trans HX2.out
    have hb3 := HB2.out.grown hg3 (Nat.le_of_lt (Array.getElem?_eq_some_iff.1 HX2.out).1) (fun j hj => by injection hj; have := HC.out; omega)
    have hq7 : 7 ≤ s.size := hle
    obtain ⟨P, hP⟩ : ∃ P, w3.heap.size = P := ⟨_, rfl⟩
    obtain ⟨W4, hW4⟩ : ∃ W4, w3.alloc (.cells #[.slice none 0 0, .int .i64 0, .int .i64 0] 46) = W4 := ⟨_, rfl⟩
    have HR4 : Hid (RI W W4 W.heap.size C P s 7 false (.slice none 0 0) 0 0) := Lib.hid ⟨by unfold CurAt; rw [← hW4]; exact (Below.heap_alloc _ _ _ hl3).trans hc3', by rw [← hW4]; exact (Below.heap_alloc _ _ _ (by have := HC.out; omega)).trans hx3, by rw [← hW4, ← hP]; exact heap_alloc_new w3 _, by rw [← hW4]; exact hb3.alloc (by have := HC.out; omega) _, by have := HC.out; omega, by omega⟩
    have HW4 := Lib.hid hW4
    have HP := Lib.hid hP
    clear hw hc3 hg3 hle hc3' hl3 hx3 hb3 hP hW4
    go_wp2_with fail
    rw [HW4.out, HP.out]
    refine (HN.out W4 7 false HR4.out.cur hq7).mono ?_
    rintro e w5 ⟨a1, q1, b1, rfl, hc5, hg5, hn1⟩
    have hr5 := HR4.out.call hg5 hc5
    have p1 : w5.cell? ⟨P, 1, none⟩ = some (.int .i64 0) := blkp hr5.prg 1
    have f1 := frzp hr5.prg 1
    have HR6 := Lib.hid (hr5.set1 a1)
    obtain ⟨W6, hW6⟩ : ∃ W6, w5.setCell ⟨P, 1, none⟩ (.int .i64 a1) = W6 := ⟨_, rfl⟩
    rw [hW6] at HR6
    have HN1 := Lib.hid hn1
    clear hr5 hc5 hg5 hn1
    go_wp2_with fail
    refine (HN.out W6 q1 b1 HR6.out.cur (by have h1 := HN1.out.2.1; rw [size_list] at h1; exact h1)).mono ?_
    rintro e w7 ⟨a2, q2, b2, rfl, hc7, hg7, hn2⟩
    have hr7 := HR6.out.call hg7 hc7
    have p2 : w7.cell? ⟨P, 2, none⟩ = some (.int .i64 0) := blkp hr7.prg 2
    have f2 := frzp hr7.prg 2
    have HR8 := Lib.hid (hr7.set2 a2)
    obtain ⟨W8, hW8⟩ : ∃ W8, w7.setCell ⟨P, 2, none⟩ (.int .i64 a2) = W8 := ⟨_, rfl⟩
    rw [hW8] at HR8
    have c82 : W8.cell? ⟨C, 2, none⟩ = some (.bool b2) := blkp HR8.out.cur 2
    have f82 := frzp HR8.out.cur 2
    have HN2 := Lib.hid hn2
    have hq2 : q2 ≤ s.size := by have h1 := hn2.2.1; rw [size_list] at h1; exact h1
    clear hr7 hc7 hg7 hn2 p1 f1
    go_upto_region 7 with fail
    go_cut [] (fun wx => ∃ (q : Nat) (b : Bool), q ≤ s.size ∧ EolT s.data.toList q2 b2 q b ∧ RI W wx W.heap.size C P s q b (.slice none 0 0) a1 a2)
    case first =>
      cases b2 with
      | true =>
        go_wp2
        go_meet
        exact ⟨q2, true, hq2, .inl ⟨rfl, rfl⟩, HR8.out.bad_ true⟩
      | false =>
        go_wp2_with fail
        refine (HQWE.out W8 q2 false HR8.out.cur hq2).mono ?_
        rintro e w9 (⟨hw, rfl, hc9, hg9, hle⟩ | ⟨hw, rfl, hc9, hg9⟩)
        · have HR9 := Lib.hid (HR8.out.call hg9 hc9)
          have d2 : w9.cell? ⟨C, 2, none⟩ = some (.bool false) := blkp hc9 2
          have g2 := frzp hc9 2
          have HWD := Lib.hid hw
          have hle9 : q2 + 1 ≤ s.size := hle
          clear hw hc9 hg9 hle c82 f82
          go_wp2
          go_meet
          exact ⟨q2 + 1, false, hle9, .inr (.inl ⟨rfl, HWD.out, rfl, rfl⟩), HR9.out.bad_ false⟩
        · have HR9 := Lib.hid (HR8.out.call hg9 hc9)
          have d2 : w9.cell? ⟨C, 2, none⟩ = some (.bool false) := blkp hc9 2
          have g2 := frzp hc9 2
          have HWD := Lib.hid hw
          clear hw hc9 hg9 c82 f82
          go_wp2
          go_meet
          exact ⟨q2, true, hq2, .inr (.inr ⟨rfl, HWD.out, rfl⟩), HR9.out.bad_ true⟩
    case rest =>
      obtain ⟨q3, b3, hq3, he3, hr3⟩ := hcut
      have HEX := Lib.hid (exT_start HN1.out HN2.out he3)
      have HRI := Lib.hid hr3
      clear he3 hr3 c82 f82 p2 f2 hW6 hW8 hq7 hq2
      go_wp2
      go_loopw [6] (fun Xp wr => ∃ (k p : Nat) (g : List In) (v : Value) (b : Bool), p ≤ s.size ∧ k ≤ 4002 ∧ Hid (b = false → k ≤ 4001) ∧ Hid (g.length = k) ∧ Hid (∀ i ∈ g, i.bd) ∧ Hid (ExT s.data.toList a1 a2 k p g b) ∧ Hid (InOwn wr (P + 1) v g) ∧ Hid (RI W wr W.heap.size C P s p b v a1 a2)) (fun _ wr => curM wr C s.size)
      case atStart => exact ⟨0, q3, [], .slice none 0 0, b3, hq3, by omega, Lib.hid (fun _ => by omega), Lib.hid rfl, Lib.hid (fun i hi => by cases hi), HEX, Lib.hid (InOwn.nil _ _), HRI⟩
      case round =>
        obtain ⟨k, p, g, v, b, hp, hk2, HK, HGL, HGB, HEXk, HO, HR⟩ := hrel
        have HM := Lib.hid (curM_of (n := s.size) HR.out.cur)
        have c1 : wr.cell? ⟨C, 1, none⟩ = some (.int .i64 (p : Int)) := blkp HR.out.cur 1
        have c2 : wr.cell? ⟨C, 2, none⟩ = some (.bool b) := blkp HR.out.cur 2
        have y0 : wr.cell? ⟨P, 0, none⟩ = some v := blkp HR.out.prg 0
        have y1 : wr.cell? ⟨P, 1, none⟩ = some (.int .i64 a1) := blkp HR.out.prg 1
        have y2 : wr.cell? ⟨P, 2, none⟩ = some (.int .i64 a2) := blkp HR.out.prg 2
        have r0 : wr.cell? ⟨W.heap.size, 0, none⟩ = some (.slice none 0 0) := blkp HR.out.res 0
        have r1 : wr.cell? ⟨W.heap.size, 1, none⟩ = some (.int .i64 0) := blkp HR.out.res 1
        have r2 : wr.cell? ⟨W.heap.size, 2, none⟩ = some (.int .i64 0) := blkp HR.out.res 2
        have f0 := frzp HR.out.res 0
        have f1 := frzp HR.out.res 1
        have f2 := frzp HR.out.res 2
        cases b with
        | true =>
          have HD : Hid (readL s.data.toList = none) := Lib.hid (rd_no (exT_end HEXk.out (.inl rfl)) (fun h => by cases h.1))
          go_wp2
          refine ret_box2 rfl W.heap.size #[.slice none 0 0, .int .i64 0, .int .i64 0] (load_prog (box3_set _ _ _ HR.out.res).2 rfl) rfl rfl ?_
          obtain ⟨g1, g2⟩ := box3_set (.slice none 0 0) (.int .i64 0) (.int .i64 0) HR.out.res
          exact ⟨.inr ⟨HD.out, rfl⟩, HR.out.bel.grown g1 (Nat.le_of_lt (Array.getElem?_eq_some_iff.1 HR.out.res).1) (fun j hj => by injection hj; omega)⟩
        | false =>
          by_cases hpi : (p : Int) < (s.size : Int)
          · have hk1 : k ≤ 4001 := HK.out rfl
            have hps : p < s.size := by omega
            have hlP := (Array.getElem?_eq_some_iff.1 HR.out.prg).1
            have hrc := HR.out.rc
            have hcp := HR.out.cp
            obtain ⟨X, hX⟩ : ∃ X, wr.heap.size = X := ⟨_, rfl⟩
            obtain ⟨V1, hV1⟩ : ∃ V1, wr.alloc (.cells #[.int .i64 0, .int .i64 0, .int .i64 0, .int .i64 0, .int .i64 0] 81) = V1 := ⟨_, rfl⟩
            have hoth : ∀ j, j < X → V1.heap[j]? = wr.heap[j]? := fun j hj => by rw [← hV1]; exact Below.heap_alloc _ _ _ (by omega)
            have HX1 : Hid (RX W wr V1 W.heap.size C X s p false ⟨0, 0, 0, 0, 0⟩) := Lib.hid ⟨(hoth C (by omega)).trans HR.out.cur, by rw [← hV1, ← hX]; exact heap_alloc_new wr _, fun j hj _ => hoth j hj, by rw [← hV1]; exact HR.out.bel.alloc (by omega) _, hrc, by omega⟩
            have HV1 := Lib.hid hV1
            have HXX := Lib.hid hX
            have HPX : Hid (P < X) := Lib.hid (by omega)
            clear hoth hV1 hX r0 r1 r2 f0 f1 f2 hlP hrc hcp
            go_upto_block 2 with fail
            rw [HV1.out, HXX.out]
            go_cut [] (fun wx => SwP W wr wx W.heap.size C X s p)
            case first =>
              go_wp2_with fail
              refine (HQW0.out V1 p false HX1.out.cur hp).mono ?_
              rintro e wn0 (⟨hw, rfl, hc9, hg9, hle⟩ | ⟨hw, rfl, hc9, hg9⟩)
              · have hle9 : p + 4 ≤ s.size := hle
                have hc9' : CurAt wn0 C s ((p + 4 : Nat) : Int) false := hc9
                have hrx := HX1.out.call hg9 hc9'
                have HWD0 := Lib.hid hw
                have b0 : wn0.cell? ⟨X, 0, none⟩ = some (.int .i64 0) := blkp hrx.box 0
                have bf0 := frzp hrx.box 0
                have HRA := Lib.hid (RX.set (i' := ⟨1, 0, 0, 0, 0⟩) hrx 0 1 rfl)
                obtain ⟨U0, hU0⟩ : ∃ U, wn0.setCell ⟨X, 0, none⟩ (.int .i64 1) = U := ⟨_, rfl⟩
                rw [hU0] at HRA
                clear hw hc9 hg9 hle hc9' hrx c1 c2
                go_wp2_with fail
                refine (HN.out U0 (p + 4) false HRA.out.cur hle9).mono ?_
                rintro e x1 ⟨n1, z1, e1, rfl, hc9, hg9, hn9⟩
                have hrx := HRA.out.call hg9 hc9
                have hz1 : z1 ≤ s.size := by have h1 := hn9.2.1; rw [size_list] at h1; exact h1
                have HNX1 := Lib.hid hn9
                have b1 : x1.cell? ⟨X, 1, none⟩ = some (.int .i64 0) := blkp hrx.box 1
                have bf1 := frzp hrx.box 1
                have HRA1 := Lib.hid (RX.set (i' := ⟨1, n1, 0, 0, 0⟩) hrx 1 n1 rfl)
                obtain ⟨U1, hU1⟩ : ∃ U, x1.setCell ⟨X, 1, none⟩ (.int .i64 n1) = U := ⟨_, rfl⟩
                rw [hU1] at HRA1
                clear hc9 hg9 hn9 hrx
                go_wp2_with fail
                refine (HN.out U1 z1 e1 HRA1.out.cur hz1).mono ?_
                rintro e x2 ⟨n2, z2, e2, rfl, hc9, hg9, hn9⟩
                have hrx := HRA1.out.call hg9 hc9
                have hz2 : z2 ≤ s.size := by have h1 := hn9.2.1; rw [size_list] at h1; exact h1
                have HNX2 := Lib.hid hn9
                have b2 : x2.cell? ⟨X, 2, none⟩ = some (.int .i64 0) := blkp hrx.box 2
                have bf2 := frzp hrx.box 2
                have HRA2 := Lib.hid (RX.set (i' := ⟨1, n1, n2, 0, 0⟩) hrx 2 n2 rfl)
                obtain ⟨U2, hU2⟩ : ∃ U, x2.setCell ⟨X, 2, none⟩ (.int .i64 n2) = U := ⟨_, rfl⟩
                rw [hU2] at HRA2
                clear hc9 hg9 hn9 hrx
                go_wp2_with fail
                refine (HN.out U2 z2 e2 HRA2.out.cur hz2).mono ?_
                rintro e x3 ⟨n3, z3, e3, rfl, hc9, hg9, hn9⟩
                have hrx := HRA2.out.call hg9 hc9
                have hz3 : z3 ≤ s.size := by have h1 := hn9.2.1; rw [size_list] at h1; exact h1
                have HNX3 := Lib.hid hn9
                have b3 : x3.cell? ⟨X, 3, none⟩ = some (.int .i64 0) := blkp hrx.box 3
                have bf3 := frzp hrx.box 3
                have HRA3 := Lib.hid (RX.set (i' := ⟨1, n1, n2, n3, 0⟩) hrx 3 n3 rfl)
                obtain ⟨U3, hU3⟩ : ∃ U, x3.setCell ⟨X, 3, none⟩ (.int .i64 n3) = U := ⟨_, rfl⟩
                rw [hU3] at HRA3
                clear hc9 hg9 hn9 hrx
                go_wp2
                go_meet
                exact ⟨_, z3, e3, HRA3.out, inT_1 HWD0.out HNX1.out HNX2.out HNX3.out, bd14 ⟨by omega, by omega⟩ HNX1.out.bd HNX2.out.bd HNX3.out.bd ⟨by omega, by omega⟩, hz3, .inl (by have := HNX1.out.1; have := HNX2.out.1; have := HNX3.out.1; omega)⟩
              · have HY0 := Lib.hid (HX1.out.call hg9 hc9)
                have HNO0 := Lib.hid hw
                clear hw hc9 hg9
                go_wp2_with fail
                refine (HQW1.out wn0 p false HY0.out.cur hp).mono ?_
                rintro e wn1 (⟨hw, rfl, hc9, hg9, hle⟩ | ⟨hw, rfl, hc9, hg9⟩)
                · have hle9 : p + 5 ≤ s.size := hle
                  have hc9' : CurAt wn1 C s ((p + 5 : Nat) : Int) false := hc9
                  have hrx := HY0.out.call hg9 hc9'
                  have HWD1 := Lib.hid hw
                  have b0 : wn1.cell? ⟨X, 0, none⟩ = some (.int .i64 0) := blkp hrx.box 0
                  have bf0 := frzp hrx.box 0
                  have HRA := Lib.hid (RX.set (i' := ⟨2, 0, 0, 0, 0⟩) hrx 0 2 rfl)
                  obtain ⟨U0, hU0⟩ : ∃ U, wn1.setCell ⟨X, 0, none⟩ (.int .i64 2) = U := ⟨_, rfl⟩
                  rw [hU0] at HRA
                  clear hw hc9 hg9 hle hc9' hrx c1 c2
                  go_wp2_with fail
                  refine (HN.out U0 (p + 5) false HRA.out.cur hle9).mono ?_
                  rintro e x1 ⟨n1, z1, e1, rfl, hc9, hg9, hn9⟩
                  have hrx := HRA.out.call hg9 hc9
                  have hz1 : z1 ≤ s.size := by have h1 := hn9.2.1; rw [size_list] at h1; exact h1
                  have HNX1 := Lib.hid hn9
                  have b1 : x1.cell? ⟨X, 3, none⟩ = some (.int .i64 0) := blkp hrx.box 3
                  have bf1 := frzp hrx.box 3
                  have HRA1 := Lib.hid (RX.set (i' := ⟨2, 0, 0, n1, 0⟩) hrx 3 n1 rfl)
                  obtain ⟨U1, hU1⟩ : ∃ U, x1.setCell ⟨X, 3, none⟩ (.int .i64 n1) = U := ⟨_, rfl⟩
                  rw [hU1] at HRA1
                  clear hc9 hg9 hn9 hrx
                  go_wp2_with fail
                  refine (HN.out U1 z1 e1 HRA1.out.cur hz1).mono ?_
                  rintro e x2 ⟨n2, z2, e2, rfl, hc9, hg9, hn9⟩
                  have hrx := HRA1.out.call hg9 hc9
                  have hz2 : z2 ≤ s.size := by have h1 := hn9.2.1; rw [size_list] at h1; exact h1
                  have HNX2 := Lib.hid hn9
                  have b2 : x2.cell? ⟨X, 4, none⟩ = some (.int .i64 0) := blkp hrx.box 4
                  have bf2 := frzp hrx.box 4
                  have HRA2 := Lib.hid (RX.set (i' := ⟨2, 0, 0, n1, n2⟩) hrx 4 n2 rfl)
                  obtain ⟨U2, hU2⟩ : ∃ U, x2.setCell ⟨X, 4, none⟩ (.int .i64 n2) = U := ⟨_, rfl⟩
                  rw [hU2] at HRA2
                  clear hc9 hg9 hn9 hrx
                  go_wp2
                  go_meet
                  exact ⟨_, z2, e2, HRA2.out, inT_2 HWD1.out HNX1.out HNX2.out, bd14 ⟨by omega, by omega⟩ ⟨by omega, by omega⟩ ⟨by omega, by omega⟩ HNX1.out.bd HNX2.out.bd, hz2, .inl (by have := HNX1.out.1; have := HNX2.out.1; omega)⟩
                · have HY1 := Lib.hid (HY0.out.call hg9 hc9)
                  have HNO1 := Lib.hid hw
                  clear hw hc9 hg9
                  go_wp2_with fail
                  refine (HQW2.out wn1 p false HY1.out.cur hp).mono ?_
                  rintro e wn2 (⟨hw, rfl, hc9, hg9, hle⟩ | ⟨hw, rfl, hc9, hg9⟩)
                  · have hle9 : p + 3 ≤ s.size := hle
                    have hc9' : CurAt wn2 C s ((p + 3 : Nat) : Int) false := hc9
                    have hrx := HY1.out.call hg9 hc9'
                    have HWD2 := Lib.hid hw
                    have b0 : wn2.cell? ⟨X, 0, none⟩ = some (.int .i64 0) := blkp hrx.box 0
                    have bf0 := frzp hrx.box 0
                    have HRA := Lib.hid (RX.set (i' := ⟨3, 0, 0, 0, 0⟩) hrx 0 3 rfl)
                    obtain ⟨U0, hU0⟩ : ∃ U, wn2.setCell ⟨X, 0, none⟩ (.int .i64 3) = U := ⟨_, rfl⟩
                    rw [hU0] at HRA
                    clear hw hc9 hg9 hle hc9' hrx c1 c2
                    go_wp2_with fail
                    refine (HN.out U0 (p + 3) false HRA.out.cur hle9).mono ?_
                    rintro e x1 ⟨n1, z1, e1, rfl, hc9, hg9, hn9⟩
                    have hrx := HRA.out.call hg9 hc9
                    have hz1 : z1 ≤ s.size := by have h1 := hn9.2.1; rw [size_list] at h1; exact h1
                    have HNX1 := Lib.hid hn9
                    have b1 : x1.cell? ⟨X, 1, none⟩ = some (.int .i64 0) := blkp hrx.box 1
                    have bf1 := frzp hrx.box 1
                    have HRA1 := Lib.hid (RX.set (i' := ⟨3, n1, 0, 0, 0⟩) hrx 1 n1 rfl)
                    obtain ⟨U1, hU1⟩ : ∃ U, x1.setCell ⟨X, 1, none⟩ (.int .i64 n1) = U := ⟨_, rfl⟩
                    rw [hU1] at HRA1
                    clear hc9 hg9 hn9 hrx
                    go_wp2_with fail
                    refine (HN.out U1 z1 e1 HRA1.out.cur hz1).mono ?_
                    rintro e x2 ⟨n2, z2, e2, rfl, hc9, hg9, hn9⟩
                    have hrx := HRA1.out.call hg9 hc9
                    have hz2 : z2 ≤ s.size := by have h1 := hn9.2.1; rw [size_list] at h1; exact h1
                    have HNX2 := Lib.hid hn9
                    have b2 : x2.cell? ⟨X, 3, none⟩ = some (.int .i64 0) := blkp hrx.box 3
                    have bf2 := frzp hrx.box 3
                    have HRA2 := Lib.hid (RX.set (i' := ⟨3, n1, 0, n2, 0⟩) hrx 3 n2 rfl)
                    obtain ⟨U2, hU2⟩ : ∃ U, x2.setCell ⟨X, 3, none⟩ (.int .i64 n2) = U := ⟨_, rfl⟩
                    rw [hU2] at HRA2
                    clear hc9 hg9 hn9 hrx
                    go_wp2
                    go_meet
                    exact ⟨_, z2, e2, HRA2.out, inT_3 HWD2.out HNX1.out HNX2.out, bd14 ⟨by omega, by omega⟩ HNX1.out.bd ⟨by omega, by omega⟩ HNX2.out.bd ⟨by omega, by omega⟩, hz2, .inl (by have := HNX1.out.1; have := HNX2.out.1; omega)⟩
                  · have HY2 := Lib.hid (HY1.out.call hg9 hc9)
                    have HNO2 := Lib.hid hw
                    clear hw hc9 hg9
                    go_wp2_with fail
                    refine (HQW3.out wn2 p false HY2.out.cur hp).mono ?_
                    rintro e wn3 (⟨hw, rfl, hc9, hg9, hle⟩ | ⟨hw, rfl, hc9, hg9⟩)
                    · have hle9 : p + 6 ≤ s.size := hle
                      have hc9' : CurAt wn3 C s ((p + 6 : Nat) : Int) false := hc9
                      have hrx := HY2.out.call hg9 hc9'
                      have HWD3 := Lib.hid hw
                      have b0 : wn3.cell? ⟨X, 0, none⟩ = some (.int .i64 0) := blkp hrx.box 0
                      have bf0 := frzp hrx.box 0
                      have HRA := Lib.hid (RX.set (i' := ⟨4, 0, 0, 0, 0⟩) hrx 0 4 rfl)
                      obtain ⟨U0, hU0⟩ : ∃ U, wn3.setCell ⟨X, 0, none⟩ (.int .i64 4) = U := ⟨_, rfl⟩
                      rw [hU0] at HRA
                      clear hw hc9 hg9 hle hc9' hrx c1 c2
                      go_wp2_with fail
                      refine (HN.out U0 (p + 6) false HRA.out.cur hle9).mono ?_
                      rintro e x1 ⟨n1, z1, e1, rfl, hc9, hg9, hn9⟩
                      have hrx := HRA.out.call hg9 hc9
                      have hz1 : z1 ≤ s.size := by have h1 := hn9.2.1; rw [size_list] at h1; exact h1
                      have HNX1 := Lib.hid hn9
                      have b1 : x1.cell? ⟨X, 1, none⟩ = some (.int .i64 0) := blkp hrx.box 1
                      have bf1 := frzp hrx.box 1
                      have HRA1 := Lib.hid (RX.set (i' := ⟨4, n1, 0, 0, 0⟩) hrx 1 n1 rfl)
                      obtain ⟨U1, hU1⟩ : ∃ U, x1.setCell ⟨X, 1, none⟩ (.int .i64 n1) = U := ⟨_, rfl⟩
                      rw [hU1] at HRA1
                      clear hc9 hg9 hn9 hrx
                      go_wp2_with fail
                      refine (HN.out U1 z1 e1 HRA1.out.cur hz1).mono ?_
                      rintro e x2 ⟨n2, z2, e2, rfl, hc9, hg9, hn9⟩
                      have hrx := HRA1.out.call hg9 hc9
                      have hz2 : z2 ≤ s.size := by have h1 := hn9.2.1; rw [size_list] at h1; exact h1
                      have HNX2 := Lib.hid hn9
                      have b2 : x2.cell? ⟨X, 3, none⟩ = some (.int .i64 0) := blkp hrx.box 3
                      have bf2 := frzp hrx.box 3
                      have HRA2 := Lib.hid (RX.set (i' := ⟨4, n1, 0, n2, 0⟩) hrx 3 n2 rfl)
                      obtain ⟨U2, hU2⟩ : ∃ U, x2.setCell ⟨X, 3, none⟩ (.int .i64 n2) = U := ⟨_, rfl⟩
                      rw [hU2] at HRA2
                      clear hc9 hg9 hn9 hrx
                      go_wp2
                      go_meet
                      exact ⟨_, z2, e2, HRA2.out, inT_4 HWD3.out HNX1.out HNX2.out, bd14 ⟨by omega, by omega⟩ HNX1.out.bd ⟨by omega, by omega⟩ HNX2.out.bd ⟨by omega, by omega⟩, hz2, .inl (by have := HNX1.out.1; have := HNX2.out.1; omega)⟩
                    · have HY3 := Lib.hid (HY2.out.call hg9 hc9)
                      have HNO3 := Lib.hid hw
                      clear hw hc9 hg9
                      go_wp2_with fail
                      refine (HQW4.out wn3 p false HY3.out.cur hp).mono ?_
                      rintro e wn4 (⟨hw, rfl, hc9, hg9, hle⟩ | ⟨hw, rfl, hc9, hg9⟩)
                      · have hle9 : p + 5 ≤ s.size := hle
                        have hc9' : CurAt wn4 C s ((p + 5 : Nat) : Int) false := hc9
                        have hrx := HY3.out.call hg9 hc9'
                        have HWD4 := Lib.hid hw
                        have b0 : wn4.cell? ⟨X, 0, none⟩ = some (.int .i64 0) := blkp hrx.box 0
                        have bf0 := frzp hrx.box 0
                        have HRA := Lib.hid (RX.set (i' := ⟨5, 0, 0, 0, 0⟩) hrx 0 5 rfl)
                        obtain ⟨U0, hU0⟩ : ∃ U, wn4.setCell ⟨X, 0, none⟩ (.int .i64 5) = U := ⟨_, rfl⟩
                        rw [hU0] at HRA
                        clear hw hc9 hg9 hle hc9' hrx c1 c2
                        go_wp2
                        go_meet
                        exact ⟨_, (p + 5), false, HRA.out, inT_5 HWD4.out , bd14 ⟨by omega, by omega⟩ ⟨by omega, by omega⟩ ⟨by omega, by omega⟩ ⟨by omega, by omega⟩ ⟨by omega, by omega⟩, hle9, .inl (by  omega)⟩
                      · have HY4 := Lib.hid (HY3.out.call hg9 hc9)
                        have HNO4 := Lib.hid hw
                        clear hw hc9 hg9
                        go_wp2_with fail
                        refine (HQW5.out wn4 p false HY4.out.cur hp).mono ?_
                        rintro e wn5 (⟨hw, rfl, hc9, hg9, hle⟩ | ⟨hw, rfl, hc9, hg9⟩)
                        · have hle9 : p + 4 ≤ s.size := hle
                          have hc9' : CurAt wn5 C s ((p + 4 : Nat) : Int) false := hc9
                          have hrx := HY4.out.call hg9 hc9'
                          have HWD5 := Lib.hid hw
                          have b0 : wn5.cell? ⟨X, 0, none⟩ = some (.int .i64 0) := blkp hrx.box 0
                          have bf0 := frzp hrx.box 0
                          have HRA := Lib.hid (RX.set (i' := ⟨6, 0, 0, 0, 0⟩) hrx 0 6 rfl)
                          obtain ⟨U0, hU0⟩ : ∃ U, wn5.setCell ⟨X, 0, none⟩ (.int .i64 6) = U := ⟨_, rfl⟩
                          rw [hU0] at HRA
                          clear hw hc9 hg9 hle hc9' hrx c1 c2
                          go_wp2
                          go_meet
                          exact ⟨_, (p + 4), false, HRA.out, inT_6 HWD5.out , bd14 ⟨by omega, by omega⟩ ⟨by omega, by omega⟩ ⟨by omega, by omega⟩ ⟨by omega, by omega⟩ ⟨by omega, by omega⟩, hle9, .inl (by  omega)⟩
                        · have HY5 := Lib.hid (HY4.out.call hg9 hc9)
                          have HNO5 := Lib.hid hw
                          clear hw hc9 hg9
                          have d2 : wn5.cell? ⟨C, 2, none⟩ = some (.bool false) := blkp HY5.out.cur 2
                          have df := frzp HY5.out.cur 2
                          go_wp2
                          go_meet
                          exact ⟨_, p, true, HY5.out.bad_ true, inT_no HNO0.out HNO1.out HNO2.out HNO3.out HNO4.out HNO5.out, bd14 ⟨by omega, by omega⟩ ⟨by omega, by omega⟩ ⟨by omega, by omega⟩ ⟨by omega, by omega⟩ ⟨by omega, by omega⟩, hp, .inr ⟨rfl, rfl⟩⟩
            case rest =>
              obtain ⟨i, q, b, hrx, hit, hbd, hq, hpq⟩ := hcut
              have HRX := Lib.hid hrx
              have HIT := Lib.hid hit
              have HBD := Lib.hid hbd
              have k2 : wc.cell? ⟨C, 2, none⟩ = some (.bool b) := blkp hrx.cur 2
              have kf := frzp hrx.cur 2
              have hneC : P ≠ C := by have := HR.out.cp; omega
              have hyc := (hrx.oth P HPX.out hneC).trans HR.out.prg
              have HOC : Hid (InOwn wc (P + 1) v g) := Lib.hid (InOwn.kept14 HO.out (fun j hj => hrx.oth j (by have := (InOwn.lt HO.out j hj).2; have := HXX.out; omega) (by have := (InOwn.lt HO.out j hj).1; have := HR.out.cp; omega)))
              have w0 : wc.cell? ⟨P, 0, none⟩ = some v := blkp hyc 0
              obtain ⟨a9, c9, e9⟩ := HO.out.slice
              have e9' : v = .slice a9 k c9 := by rw [e9, HGL.out]
              subst e9'
              clear hrx hit hbd c1 c2 y0 y1 y2 hneC hyc e9
              go_upto_region 32 with fail
              go_cut [] (fun wx => ∃ (q' : Nat) (b' b'' : Bool), q' ≤ s.size ∧ q ≤ q' ∧ EolT s.data.toList q b q' b' ∧ (b'' = b' ∨ 4000 < k) ∧ (b'' = false → k ≤ 4000) ∧ (b = true → b'' = true) ∧ RX W wr wx W.heap.size C X s q' b'' i)
              case first =>
                cases b with
                | true =>
                  go_wp2
                  go_meet
                  exact ⟨q, true, true, hq, by omega, .inl ⟨rfl, rfl⟩, .inl rfl, (fun h => by cases h), (fun _ => rfl), HRX.out.bad_ true⟩
                | false =>
                  go_wp2_with fail
                  refine (HQWE.out wc q false HRX.out.cur hq).mono ?_
                  rintro e w9 (⟨hw, rfl, hc9, hg9, hle⟩ | ⟨hw, rfl, hc9, hg9⟩)
                  · have HR9 := Lib.hid (HRX.out.call hg9 hc9)
                    have d2 : w9.cell? ⟨C, 2, none⟩ = some (.bool false) := blkp hc9 2
                    have g2 := frzp hc9 2
                    have hx9 := (HR9.out.oth P HPX.out (by have := HR.out.cp; omega)).trans HR.out.prg
                    have w90 : w9.cell? ⟨P, 0, none⟩ = some (.slice a9 k c9) := blkp hx9 0
                    have HWD := Lib.hid hw
                    have hle9 : q + 1 ≤ s.size := hle
                    clear hw hc9 hg9 hle k2 kf w0 hx9
                    by_cases h4 : (4000 : Int) < (k : Int)
                    · go_wp2
                      go_meet
                      exact ⟨q + 1, false, true, hle9, by omega, .inr (.inl ⟨rfl, HWD.out, rfl, rfl⟩), .inr (by omega), (fun h => by cases h), (fun _ => rfl), HR9.out.bad_ true⟩
                    · go_wp2
                      go_meet
                      exact ⟨q + 1, false, false, hle9, by omega, .inr (.inl ⟨rfl, HWD.out, rfl, rfl⟩), .inl rfl, (fun _ => by omega), (fun h => by cases h), (by rw [show decide ((4000 : Int) < (k : Int)) = false from decide_eq_false (by omega)]; exact HR9.out.bad_ false)⟩
                  · have HR9 := Lib.hid (HRX.out.call hg9 hc9)
                    have d2 : w9.cell? ⟨C, 2, none⟩ = some (.bool false) := blkp hc9 2
                    have g2 := frzp hc9 2
                    have HWD := Lib.hid hw
                    clear hw hc9 hg9 k2 kf w0
                    go_wp2
                    go_meet
                    exact ⟨q, true, true, hq, by omega, .inr (.inr ⟨rfl, HWD.out, rfl⟩), .inl rfl, (fun h => by cases h), (fun h => by cases h), HR9.out.bad_ true⟩
              case rest =>
                obtain ⟨q', b', b'', hq', hqq, heol, hbb, hb4, hbt, hrx⟩ := hcut
                have HEXn := Lib.hid (exT_step HEXk.out (by rw [size_list]; exact hps) HIT.out heol hbb)
                have hs9 := (Array.getElem?_eq_some_iff.1 hrx.box).1
                have hPX := HPX.out
                have hcp := HR.out.cp
                have hrc := HR.out.rc
                have ho9 : InOwn wc (P + 1) (.slice a9 k c9) g := InOwn.kept14 HO.out (fun j hj => hrx.oth j (by have := (InOwn.lt HO.out j hj).2; have := HXX.out; omega) (by have := (InOwn.lt HO.out j hj).1; omega))
                have hy9 := (hrx.oth P hPX (by omega)).trans HR.out.prg
                have hz9 := (hrx.oth W.heap.size (by omega) (by omega)).trans HR.out.res
                have hx9 := hrx.box
                obtain ⟨V10, hV10⟩ : ∃ V10, wc.alloc (.cells #[.int .i64 i.op, .int .i64 i.lo, .int .i64 i.hi, .int .i64 i.x, .int .i64 i.y] 81) = V10 := ⟨_, rfl⟩
                obtain ⟨a', L', c', W11, hrun, ho11, hb11⟩ := rd_run (x := i) ho9 (by omega) (by have := HGL.out; omega) X V10 hV10
                have d0 : wc.cell? ⟨P, 0, none⟩ = some (.slice a9 k c9) := blkp hy9 0
                have x0 : wc.cell? ⟨X, 0, none⟩ = some (.int .i64 i.op) := blkp hx9 0
                have x1 : wc.cell? ⟨X, 1, none⟩ = some (.int .i64 i.lo) := blkp hx9 1
                have x2 : wc.cell? ⟨X, 2, none⟩ = some (.int .i64 i.hi) := blkp hx9 2
                have x3 : wc.cell? ⟨X, 3, none⟩ = some (.int .i64 i.x) := blkp hx9 3
                have x4 : wc.cell? ⟨X, 4, none⟩ = some (.int .i64 i.y) := blkp hx9 4
                have hy11 : W11.heap[P]? = some (.cells #[.slice a9 k c9, .int .i64 a1, .int .i64 a2] 46 (0, 0)) := (hb11.block _ (by omega)).trans hy9
                have hc11 : CurAt W11 C s (q' : Int) b'' := (hb11.block _ (by omega)).trans hrx.cur
                have yy0 : W11.cell? ⟨P, 0, none⟩ = some (.slice a9 k c9) := blkp hy11 0
                have yf := frzp hy11 0
                obtain ⟨W12, hW12⟩ : ∃ W12, W11.setCell ⟨P, 0, none⟩ (.slice a' L' c') = W12 := ⟨_, rfl⟩
                have hother : ∀ j, j ≠ P → W12.heap[j]? = W11.heap[j]? := fun j hj => by rw [← hW12]; exact Below.heap_setCell _ _ _ _ hj
                have HO12 : Hid (InOwn W12 (P + 1) (.slice a' L' c') (g ++ [i])) := Lib.hid (InOwn.kept14 ho11 (fun b hb => hother b (by have := (InOwn.lt ho11 b hb).1; omega)))
                have HR12 : Hid (RI W W12 W.heap.size C P s q' b'' (.slice a' L' c') a1 a2) := Lib.hid ⟨(hother C (by omega)).trans hc11, (hother _ (by omega)).trans ((hb11.block _ (by omega)).trans hz9), by rw [← hW12]; have := heap_setCell_same W11 P 0 _ _ (.slice a' L' c') hy11; simpa using this, by rw [← hW12]; exact (hrx.bel.trans (hb11.mono (by omega))).setCell (p := ⟨P, 0, none⟩) (by show W.heap.size ≤ P; omega) _, hrc, hcp⟩
                have HGLn : Hid ((g ++ [i]).length = k + 1) := Lib.hid (by rw [List.length_append, HGL.out]; rfl)
                have HBDn : Hid (∀ j ∈ g ++ [i], j.bd) := Lib.hid (fun j hj => by
                  rcases List.mem_append.1 hj with hj | hj
                  · exact HGB.out j hj
                  · rw [List.mem_singleton] at hj; subst hj; exact HBD.out)
                have HKn : Hid (b'' = false → k + 1 ≤ 4001) := Lib.hid (fun h => by have := hb4 h; omega)
                have HM12 := Lib.hid (curM_of (n := s.size) HR12.out.cur)
                have HMM : Hid (curM W12 C s.size < curM wr C s.size) := Lib.hid (by
                  rw [HM12.out, HM.out]
                  rcases hpq with hpq | ⟨hpq, hbq⟩
                  · cases b'' <;> simp <;> omega
                  · rw [hbt hbq]; simp; omega)
                have HRUN := Lib.hid hrun
                have HV10 := Lib.hid hV10
                have hPs : P < wc.heap.size := by omega
                have hXs : X < wc.heap.size := by omega
                clear hs9 hPX hcp hrc ho9 hy9 hz9 hx9 hV10 hrun ho11 hb11 hy11 hc11 hother heol hbb hb4 hbt hrx w0 k2 kf
                go_wp2_with (at_builtin; (rw [HV10.out]; refine wpList_append_run rfl _ _ 44 rfl _ _ _ W11 rfl rfl HRUN.out ?_))
                go_wp2
                go_roundw
                case rel => first | exact ⟨k + 1, q', _, _, b'', hq', by omega, HKn, HGLn, HBDn, HEXn, HO12, HR12⟩ | ((repeat apply Exists.intro); exact ⟨⟨k + 1, q', _, _, b'', hq', by omega, HKn, HGLn, HBDn, HEXn, HO12, HR12⟩, rfl⟩)
                case measure => exact HMM.out
          · have HFIN : Hid (NoRead s.data.toList g a1 a2) := Lib.hid (fun h => rd_no (exT_end HEXk.out (.inr (by rw [size_list]; omega))) (fun h2 => h h2.2))
            have HCK := Lib.hid (refChk14_any g a1 a2 v wr (HO.out.row (by have := HGL.out; omega) HGB.out))
            by_cases hok : Ok g a1 a2
            · rw [chk_ok hok] at HCK
              have HOK := Lib.hid hok
              clear hok
              go_wp2_with fail
              refine HCK.out.mono ?_
              rintro e wz ⟨rfl, hbz⟩
              have HRZ : Hid (RI W wz W.heap.size C P s p false v a1 a2) := Lib.hid ⟨(hbz.block _ HR.out.cur.lt).trans HR.out.cur, (hbz.block _ (Array.getElem?_eq_some_iff.1 HR.out.res).1).trans HR.out.res, (hbz.block _ (Array.getElem?_eq_some_iff.1 HR.out.prg).1).trans HR.out.prg, HR.out.bel.trans (hbz.mono (Nat.le_of_lt (Array.getElem?_eq_some_iff.1 HR.out.res).1)), HR.out.rc, HR.out.cp⟩
              have HOZ := Lib.hid (HO.out.below hbz (Nat.le_refl _))
              have z0 : wz.cell? ⟨P, 0, none⟩ = some v := blkp HRZ.out.prg 0
              have z1 : wz.cell? ⟨P, 1, none⟩ = some (.int .i64 a1) := blkp HRZ.out.prg 1
              have z2 : wz.cell? ⟨P, 2, none⟩ = some (.int .i64 a2) := blkp HRZ.out.prg 2
              have HTX := Lib.hid (text14_any g a1 a2 v wz (HOZ.out.row (by have := HGL.out; omega) HGB.out) HOK.out)
              clear hbz y0 y1 y2 r0 r1 r2 f0 f1 f2 c1 c2
              go_wp2_with fail
              refine HTX.out.mono ?_
              rintro e wy ⟨rfl, hby⟩
              have HRY : Hid (RI W wy W.heap.size C P s p false v a1 a2) := Lib.hid ⟨(hby.block _ HRZ.out.cur.lt).trans HRZ.out.cur, (hby.block _ (Array.getElem?_eq_some_iff.1 HRZ.out.res).1).trans HRZ.out.res, (hby.block _ (Array.getElem?_eq_some_iff.1 HRZ.out.prg).1).trans HRZ.out.prg, HRZ.out.bel.trans (hby.mono (Nat.le_of_lt (Array.getElem?_eq_some_iff.1 HRZ.out.res).1)), HRZ.out.rc, HRZ.out.cp⟩
              have hoy := HOZ.out.below hby (Nat.le_refl _)
              obtain ⟨a9, c9, e9⟩ := hoy.slice
              obtain ⟨L9, hL9⟩ : ∃ L9, g.length = L9 := ⟨_, rfl⟩
              rw [hL9] at e9
              subst e9
              have HOY := Lib.hid hoy
              have r0 : wy.cell? ⟨W.heap.size, 0, none⟩ = some (.slice none 0 0) := blkp HRY.out.res 0
              have r1 : wy.cell? ⟨W.heap.size, 1, none⟩ = some (.int .i64 0) := blkp HRY.out.res 1
              have r2 : wy.cell? ⟨W.heap.size, 2, none⟩ = some (.int .i64 0) := blkp HRY.out.res 2
              have f0 := frzp HRY.out.res 0
              have f1 := frzp HRY.out.res 1
              have f2 := frzp HRY.out.res 2
              have s0 : wy.cell? ⟨P, 0, none⟩ = some (.slice a9 L9 c9) := blkp HRY.out.prg 0
              have s1 : wy.cell? ⟨P, 1, none⟩ = some (.int .i64 a1) := blkp HRY.out.prg 1
              have s2 : wy.cell? ⟨P, 2, none⟩ = some (.int .i64 a2) := blkp HRY.out.prg 2
              clear hby hoy hL9 z0 z1 z2
              by_cases heq : textL g a1 a2 = s.data.toList
              · have HD : Hid (readL s.data.toList = some (g, a1, a2)) := Lib.hid (by rw [← heq]; exact read_text HOK.out)
                have hts : txB (textL g a1 a2) = s := by rw [heq, HSE.out, HSS.out]
                rw [hts]
                clear heq hts
                go_wp2
                refine ret_box2 rfl W.heap.size #[.slice a9 L9 c9, .int .i64 a1, .int .i64 a2] (load_prog (box3_set _ _ _ HRY.out.res).2 rfl) rfl rfl ?_
                obtain ⟨g1, g2⟩ := box3_set (.slice a9 L9 c9) (.int .i64 a1) (.int .i64 a2) HRY.out.res
                refine ⟨.inl ⟨_, g, a1, a2, HD.out, rfl, ?_⟩, HRY.out.bel.grown g1 (Nat.le_of_lt (Array.getElem?_eq_some_iff.1 HRY.out.res).1) (fun j hj => by injection hj; omega)⟩
                have hrc := HRY.out.rc
                have hcp := HRY.out.cp
                exact InOwn.mono (InOwn.kept14 HOY.out (fun b hb => by
                  have h1 := (InOwn.lt HOY.out b hb).1
                  have h2 := (InOwn.lt HOY.out b hb).2
                  exact g1.block b h2 (fun e => by injection e; omega))) (by omega)
              · have HD : Hid (readL s.data.toList = none) := Lib.hid (HFIN.out (fun h => heq h.2))
                have hbq : ((txB (textL g a1 a2)).toList == s.toList) = false := by
                  rw [beq_eq_false_iff_ne, toList_tx, ← HSS.out, toList_tx]
                  rw [← HSE.out]
                  exact heq
                have hbq2 : ¬ (txB (textL g a1 a2)).toList = s.toList := by rw [beq_eq_false_iff_ne] at hbq; exact hbq
                obtain ⟨Ex, hE⟩ : ∃ Ex, txB (textL g a1 a2) = Ex := ⟨_, rfl⟩
                rw [hE] at hbq hbq2 ⊢
                clear heq hE
                go_wp2
                refine ret_box2 rfl W.heap.size #[.slice none 0 0, .int .i64 0, .int .i64 0] (load_prog (box3_set _ _ _ HRY.out.res).2 rfl) rfl rfl ?_
                obtain ⟨g1, g2⟩ := box3_set (.slice none 0 0) (.int .i64 0) (.int .i64 0) HRY.out.res
                exact ⟨.inr ⟨HD.out, rfl⟩, HRY.out.bel.grown g1 (Nat.le_of_lt (Array.getElem?_eq_some_iff.1 HRY.out.res).1) (fun j hj => by injection hj; omega)⟩
            · rw [chk_not hok] at HCK
              have HD : Hid (readL s.data.toList = none) := Lib.hid (HFIN.out (fun h => hok h.1))
              clear hok
              go_wp2_with fail
              refine HCK.out.mono ?_
              rintro e wz ⟨rfl, hbz⟩
              have HRZ : Hid (RI W wz W.heap.size C P s p false v a1 a2) := Lib.hid ⟨(hbz.block _ HR.out.cur.lt).trans HR.out.cur, (hbz.block _ (Array.getElem?_eq_some_iff.1 HR.out.res).1).trans HR.out.res, (hbz.block _ (Array.getElem?_eq_some_iff.1 HR.out.prg).1).trans HR.out.prg, HR.out.bel.trans (hbz.mono (Nat.le_of_lt (Array.getElem?_eq_some_iff.1 HR.out.res).1)), HR.out.rc, HR.out.cp⟩
              clear y0 y1 y2 r0 r1 r2 f0 f1 f2 c1 c2 hbz
              have r0 : wz.cell? ⟨W.heap.size, 0, none⟩ = some (.slice none 0 0) := blkp HRZ.out.res 0
              have r1 : wz.cell? ⟨W.heap.size, 1, none⟩ = some (.int .i64 0) := blkp HRZ.out.res 1
              have r2 : wz.cell? ⟨W.heap.size, 2, none⟩ = some (.int .i64 0) := blkp HRZ.out.res 2
              have f0 := frzp HRZ.out.res 0
              have f1 := frzp HRZ.out.res 1
              have f2 := frzp HRZ.out.res 2
              go_wp2
              refine ret_box2 rfl W.heap.size #[.slice none 0 0, .int .i64 0, .int .i64 0] (load_prog (box3_set _ _ _ HRZ.out.res).2 rfl) rfl rfl ?_
              obtain ⟨g1, g2⟩ := box3_set (.slice none 0 0) (.int .i64 0) (.int .i64 0) HRZ.out.res
              exact ⟨.inr ⟨HD.out, rfl⟩, HRZ.out.bel.grown g1 (Nat.le_of_lt (Array.getElem?_eq_some_iff.1 HRZ.out.res).1) (fun j hj => by injection hj; omega)⟩
  · have HD : Hid (readL s.data.toList = none) := Lib.hid (title_no hw)
    have hx3 := (hg3.block W.heap.size (Array.getElem?_eq_some_iff.1 HX2.out).1 (fun e => by injection e with e; have := HC.out; omega)).trans HX2.out
    have hb3 := HB2.out.grown hg3 (Nat.le_of_lt (Array.getElem?_eq_some_iff.1 HX2.out).1) (fun j hj => by injection hj; have := HC.out; omega)
    have HX3 := Lib.hid hx3
    have HB3 := Lib.hid hb3
    have r0 : w3.cell? ⟨W.heap.size, 0, none⟩ = some (.slice none 0 0) := blkp hx3 0
    have r1 : w3.cell? ⟨W.heap.size, 1, none⟩ = some (.int .i64 0) := blkp hx3 1
    have r2 : w3.cell? ⟨W.heap.size, 2, none⟩ = some (.int .i64 0) := blkp hx3 2
    have f0 := frzp hx3 0
    have f1 := frzp hx3 1
    have f2 := frzp hx3 2
    clear hw hc3 hg3 hx3 hb3
    go_wp2
    refine ret_box2 rfl W.heap.size #[.slice none 0 0, .int .i64 0, .int .i64 0] (load_prog (box3_set _ _ _ HX3.out).2 rfl) rfl rfl ?_
    obtain ⟨g1, g2⟩ := box3_set (.slice none 0 0) (.int .i64 0) (.int .i64 0) HX3.out
    exact ⟨.inr ⟨HD.out, rfl⟩, HB3.out.grown g1 (Nat.le_of_lt (Array.getElem?_eq_some_iff.1 HX3.out).1) (fun j hj => by injection hj; omega)⟩
end Pgm
end Go.Proofs.YtfnimmbmcjgdpaaDoor
