/- The landed prog: Show. -/
import Derived.Test.YtfnimmbmcjgdpaaDoorGp15
import Derived.Deep.RegionHeld3
namespace Go.Proofs.YtfnimmbmcjgdpaaDoor
open Go.RowKit
set_option linter.unusedVariables false
namespace Pgm
/-- A text as a string. -/
def txB (l : List UInt8) : ByteArray := ⟨l.toArray⟩
theorem txB_list (l : List UInt8) : (txB l).data.toList = l := by simp [txB]
theorem txB_of (s : ByteArray) : txB s.data.toList = s := by apply ByteArray.ext; simp [txB]
theorem txB_size (l : List UInt8) : (txB l).size = l.length := by show (txB l).data.size = _; simp [txB]
theorem own_ints (i : In) (o N : Nat) (ho : i.op = (o : Int)) (ho1 : 1 ≤ o) (ho6 : o ≤ 6) (hN : (ownL i).length = N) (W : World) (hE : EvO W) : Calls Tryd.prog 46 #[.agg #[.int .i64 (o : Int), .int .i64 i.lo, .int .i64 i.hi, .int .i64 i.x, .int .i64 i.y]] W fun e w' => ∃ a c, e = .returned (.slice a N c) ∧ IntsAt w' a (ownL i) ∧ Below W.heap.size W w' :=
  (own_any i o ho ho1 ho6 W hE).mono fun e w' ⟨v, he, hi, hb⟩ => by
    obtain ⟨a, c, hv, h⟩ := IOwn.ints hi
    rw [hN] at hv
    exact ⟨a, c, by rw [he, hv], h, hb⟩
theorem wB_size (o : Nat) : (wB o).size ≤ 100 := by
  show (wB o).data.size ≤ 100
  unfold wB wBytes
  (repeat' split) <;> simp
theorem wB_list (o : Nat) : (wB o).data.toList = wBytes (o : Int) := by simp [wB]
/-- What the first lines of a program are. -/
def upL (l : List In) (st sl : Int) (k : Nat) : List UInt8 := lineL title [st, sl] ++ (l.take k).flatMap instL
theorem upL_succ (l : List In) (st sl : Int) {k : Nat} {x : In} (h : l[k]? = some x) : upL l st sl (k + 1) = upL l st sl k ++ instL x := by
  unfold upL
  rw [List.take_add_one, h, List.flatMap_append]
  simp
theorem upL_all (l : List In) (st sl : Int) {k : Nat} (h : l.length ≤ k) : upL l st sl k = textL l st sl := by
  unfold upL textL
  rw [List.take_of_length_le h]
theorem upL_len {l : List In} {st sl : Int} (h : Ok l st sl) (k : Nat) (hk : k ≤ l.length) : (upL l st sl k).length ≤ 200000 := by
  have h1 := insts_tlen (l.take k) (fun i hi => ok_fit h i (List.mem_of_mem_take hi))
  have h2 : (l.take k).length ≤ k := List.length_take_le _ _
  have h3 := nums_len [st, sl] (by
    intro n hn
    simp only [List.mem_cons, List.not_mem_nil, or_false] at hn
    obtain ⟨_, _, a, b, c, d, _⟩ := h
    rcases hn with rfl | rfl <;> omega)
  have h4 := h.2.1
  unfold upL lineL
  simp only [List.length_append, List.length_cons, List.length_nil] at h3 ⊢
  have : title.length = 7 := rfl
  omega
theorem conv_by {W : World} {base : Nat} {v : Value} {T : List UInt8} (h : ByOwn W base v T) : (convert 55 9 v).run Tryd.prog W = .ok (.string (txB T)) W := by
  rcases h.2 with ⟨rfl, e0⟩ | ⟨g, cap, cur, rfl, hg, hgc, hnc, hcm, hsz, htk⟩
  · have e1 : T = [] := List.length_eq_zero_iff.1 e0
    subst e1
    show (convert 55 9 (.slice none 0 0)).run Tryd.prog W = .ok (.string ⟨#[]⟩) W
    exact run_convert_bytes_nil (P := Tryd.prog) (w := W) 55 5 (by kernel_rfl) (by kernel_rfl) 0 0 9 (by kernel_rfl)
  · exact run_convert_bytes_back (P := Tryd.prog) W 55 9 5 ⟨g, 0, none⟩ cap T (by kernel_rfl) (by kernel_rfl) (by kernel_rfl) (fun j hj => by
      rw [Addr.add_lit, Nat.zero_add]
      have h4 : cur.toList[j]? = some (.int .u8 T[j].toNat) := by
        have h5 := congrArg (fun l => l[j]?) htk
        simp only [Nat.mul_one] at h5
        rw [List.getElem?_take_of_lt hj] at h5
        rw [h5]
        simp [Lib.byteCells, List.getElem?_eq_getElem hj]
      rw [Array.getElem?_toList] at h4
      simp [World.cell?, hgc, h4])
/-- What Show hands back. -/
def shS (l : List In) (st sl : Int) : ByteArray := if Ok l st sl then txB (textL l st sl) else ⟨#[]⟩
set_option maxRecDepth 100000 in
set_option maxHeartbeats 8000000 in
theorem show_bad (l : List In) (st sl : Int) (vs : Value) (W : World) (hr : InRow W vs l) (hE : EvO W) (hno : ¬ Ok l st sl) : Calls Tryd.prog 19 #[.agg #[vs, .int .i64 st, .int .i64 sl]] W fun e w' => e = .returned (.tuple #[.string ⟨#[]⟩, .int .i64 130]) ∧ Below W.heap.size W w' := by
  obtain ⟨W1, hW1⟩ : ∃ W1, W.alloc (.cells #[vs, .int .i64 st, .int .i64 sl] 46) = W1 := ⟨_, rfl⟩
  have hb1 : Below W.heap.size W W1 := by rw [← hW1]; exact (Below.refl _ _).alloc (Nat.le_refl _) _
  have HC := Lib.hid (check_any l st sl vs W1 (hr.below (Nat.le_refl _) hb1) (hE.below (Nat.le_refl _) hb1))
  rw [chk_not hno] at HC
  have HB1 := Lib.hid hb1
  have HW1 := Lib.hid hW1
  obtain ⟨a, cap, rfl, hl, hbd, hc⟩ := hr
  obtain ⟨n, hn⟩ : ∃ n, l.length = n := ⟨_, rfl⟩
  rw [hn] at HC HW1 ⊢
  clear hb1 hW1 hl hbd hc hn hno hE
  go_enter Tryd.func19, Tryd.ntmps19
  go_wp2_with fail
  rw [HW1.out]
  refine HC.out.mono ?_
  rintro e w2 ⟨rfl, hb2⟩
  have HB2 := Lib.hid (HB1.out.trans (hb2.mono HB1.out.size))
  clear hb2
  go_wp2
  go_ret2
  exact ⟨rfl, HB2.out⟩
set_option maxRecDepth 100000 in
set_option maxHeartbeats 16000000 in
theorem show_ok (l : List In) (st sl : Int) (vs : Value) (W : World) (hr : InRow W vs l) (hE : EvO W) (hT : EvT W) (hok : Ok l st sl) : Calls Tryd.prog 19 #[.agg #[vs, .int .i64 st, .int .i64 sl]] W fun e w' => e = .returned (.tuple #[.string (txB (textL l st sl)), .int .i64 0]) ∧ Below W.heap.size W w' := by
  obtain ⟨W1, hW1⟩ : ∃ W1, W.alloc (.cells #[vs, .int .i64 st, .int .i64 sl] 46) = W1 := ⟨_, rfl⟩
  have hb1 : Below W.heap.size W W1 := by rw [← hW1]; exact (Below.refl _ _).alloc (Nat.le_refl _) _
  have hx1 : W1.heap[W.heap.size]? = some (.cells #[vs, .int .i64 st, .int .i64 sl] 46 (0, 0)) := by rw [← hW1]; exact heap_alloc_new W _
  have HC := Lib.hid (check_any l st sl vs W1 (hr.below (Nat.le_refl _) hb1) (hE.below (Nat.le_refl _) hb1))
  rw [chk_ok hok] at HC
  have HB1 := Lib.hid hb1
  have HW1 := Lib.hid hW1
  have HX1 := Lib.hid hx1
  have HOK := Lib.hid hok
  have HE := Lib.hid hE
  have HT := Lib.hid hT
  have HEV : Hid (∀ w', Below W.heap.size W w' → Lib.TabBelow Tryd.prog W.heap.size w' "internal/strconv.uint64pow10" .u64 Lib.pow10Tab) := Lib.hid (fun w' h => hT.at_ (Nat.le_refl _) h)
  obtain ⟨a, cap, rfl, hl, hbd, hc⟩ := hr
  have HR := Lib.hid hc
  obtain ⟨n, hn⟩ : ∃ n, l.length = n := ⟨_, rfl⟩
  have HN := Lib.hid hn
  have hn4 : n ≤ 4000 := by have := hok.2.1; omega
  rw [hn] at HC HW1 HX1 ⊢
  obtain ⟨X, hX⟩ : ∃ X, txB (textL l st sl) = X := ⟨_, rfl⟩
  have HXT := Lib.hid hX
  rw [hX]
  clear hb1 hW1 hl hbd hc hn hok hE hT hx1 hX
  go_enter Tryd.func19, Tryd.ntmps19
  go_wp2_with fail
  rw [HW1.out]
  refine HC.out.mono ?_
  rintro e w2 ⟨rfl, hb2⟩
  have HB2 := Lib.hid (HB1.out.trans (hb2.mono HB1.out.size))
  have HX2 := Lib.hid ((hb2.block _ (Array.getElem?_eq_some_iff.1 HX1.out).1).trans HX1.out)
  have b0 := blkp HX2.out 0
  have b1 := blkp HX2.out 1
  have b2 := blkp HX2.out 2
  simp only [List.getElem?_toArray, List.getElem?_cons_zero, List.getElem?_cons_succ] at b0 b1 b2
  obtain ⟨W3, hW3⟩ : ∃ W3, w2.alloc (.cells #[.int .i64 st, .int .i64 sl] 3) = W3 := ⟨_, rfl⟩
  have hb3 : Below W.heap.size W W3 := by rw [← hW3]; exact HB2.out.alloc HB2.out.size _
  have hx3 : W3.heap[w2.heap.size]? = some (.cells #[.int .i64 st, .int .i64 sl] 3 (0, 0)) := by rw [← hW3]; exact heap_alloc_new w2 _
  have hx3b : W3.heap[W.heap.size]? = some (.cells #[.slice a n cap, .int .i64 st, .int .i64 sl] 46 (0, 0)) := by rw [← hW3]; exact (Below.heap_alloc _ _ _ (Array.getElem?_eq_some_iff.1 HX2.out).1).trans HX2.out
  have hints : IntsAt W3 (some ⟨w2.heap.size, 0, none⟩) [st, sl] := fun j hj => ⟨w2.heap.size, 0, _, (0, 0), rfl, hx3, by
    have : j = 0 ∨ j = 1 := by simp at hj; omega
    rcases this with rfl | rfl <;> rfl⟩
  have HLN := Lib.hid (line_any W3 W.heap.size (.slice none 0 0) [] ⟨#[112, 114, 111, 103, 114, 97, 109]⟩ (some ⟨w2.heap.size, 0, none⟩) 2 2 [st, sl] (ByOwn.nil _ _) hb3.size (by simp) (by decide) rfl (by omega) hints (by
    intro x hx
    simp only [List.mem_cons, List.not_mem_nil, or_false] at hx
    obtain ⟨_, _, p1, p2, p3, p4, _⟩ := HOK.out
    rcases hx with rfl | rfl <;> omega) (fun w' h => HEV.out w' (hb3.trans h)))
  have HW3 := Lib.hid hW3
  have HB3 := Lib.hid hb3
  have HX3 := Lib.hid hx3b
  clear hb2 hb3 hx3 hx3b hints hW3
  go_wp2_with fail
  rw [HW3.out]
  refine HLN.out.mono ?_
  rintro e w4 ⟨v4, rfl, ho4, hb4, hk4⟩
  have HB4 := Lib.hid (HB3.out.trans hb4)
  have HX4 : Hid (w4.heap[W.heap.size]? = some (.cells #[.slice a n cap, .int .i64 st, .int .i64 sl] 46 (0, 0))) := Lib.hid (hk4 _ _ HX3.out (by simp) (fun c fz q => by injection q with _ q _; exact absurd q (by decide)))
  have HO4 : Hid (ByOwn w4 W.heap.size v4 (upL l st sl 0)) := Lib.hid (by
    have e1 : upL l st sl 0 = [] ++ lineL ((⟨#[112, 114, 111, 103, 114, 97, 109]⟩ : ByteArray).data.toList) [st, sl] := by unfold upL title; simp
    rw [e1]; exact ho4)
  have c0 := blkp HX4.out 0
  simp only [List.getElem?_toArray, List.getElem?_cons_zero] at c0
  clear hb4 hk4 ho4 b0 b1 b2
  go_wp2
  clear c0
  go_loopw [5, 22] (fun V K wr => ∃ (k : Nat) (u : Value), k ≤ n ∧ K = .int .i64 (k : Int) ∧ u = V ∧ Hid (ByOwn wr W.heap.size u (upL l st sl k)) ∧ Hid (Below W.heap.size W wr)) (fun V K _ => n - (intOf K).toNat)
  case atStart => exact ⟨0, _, by omega, rfl, rfl, HO4, HB4⟩
  case round =>
    obtain ⟨k, u, hk, rfl, rfl, HU, HB⟩ := hrel
    by_cases hlt : k < n
    · have hkl : k < l.length := by rw [HN.out]; exact hlt
      obtain ⟨b, off, rfl, hbl, hcc⟩ := HR.out k hkl
      obtain ⟨x, hx⟩ : ∃ x, l[k] = x := ⟨_, rfl⟩
      have HXX : Hid (l[k]? = some x) := Lib.hid (by rw [List.getElem?_eq_getElem hkl, hx])
      rw [hx] at hcc
      have hfit := ok_fit HOK.out x (List.mem_of_getElem? HXX.out)
      have hop := fit_op hfit
      obtain ⟨o, ho⟩ : ∃ o : Nat, x.op = (o : Int) := ⟨x.op.toNat, by omega⟩
      have ho1 : 1 ≤ o := by omega
      have ho6 : o ≤ 6 := by omega
      have kc : ∀ q, q < 5 → wr.cell? ⟨b, off + k * 5 + q, none⟩ = x.cs[q]? := fun q hq => (HB.out.cell (p := ⟨b, off + k * 5 + q, none⟩) hbl).trans (hcc q hq)
      have q0 := kc 0 (by omega)
      have q1 := kc 1 (by omega)
      have q2 := kc 2 (by omega)
      have q3 := kc 3 (by omega)
      have q4 := kc 4 (by omega)
      simp only [In.cs, List.getElem?_cons_zero, List.getElem?_cons_succ, Nat.add_zero] at q0 q1 q2 q3 q4
      rw [ho] at q0
      have hbsz : b < wr.heap.size := Nat.lt_of_lt_of_le hbl HB.out.size
      have hi0 : (0 : Int) ≤ (o : Int) := by omega
      have hi7 : (o : Int) < 7 := by omega
      have hti : (o : Int).toNat = o := by omega
      obtain ⟨N, hN⟩ : ∃ N, (ownL x).length = N := ⟨_, rfl⟩
      have HOWN := Lib.hid (fun w hw => own_ints x o N ho ho1 ho6 hN w hw)
      have hN9 : N ≤ 10 := by rw [← hN]; unfold ownL; (repeat' split) <;> simp
      have HFO := Lib.hid (fun (m : Int) (hm : m ∈ ownL x) => (⟨(fit_own hfit m hm).1, by have := (fit_own hfit m hm).2; omega⟩ : 0 ≤ m ∧ m < 1000000))
      have HUL := Lib.hid (upL_len HOK.out k (by omega))
      have HIL : Hid (upL l st sl (k + 1) = upL l st sl k ++ lineL (wB o).data.toList (ownL x)) := Lib.hid (by rw [upL_succ l st sl HXX.out, wB_list]; unfold instL; rw [ho])
      have HNN := Lib.hid hN
      have HWS := Lib.hid (wB_size o)
      obtain ⟨wd, hwd⟩ : ∃ wd, wB o = wd := ⟨_, rfl⟩
      rw [hwd] at HIL HWS
      obtain ⟨w5, hw5⟩ : ∃ w5, wr.alloc (.cells #[.int .i64 (o : Int), .int .i64 x.lo, .int .i64 x.hi, .int .i64 x.x, .int .i64 x.y] 81) = w5 := ⟨_, rfl⟩
      have hb5 : Below wr.heap.size wr w5 := by rw [← hw5]; exact (Below.refl _ _).alloc (Nat.le_refl _) _
      have hx5 : w5.heap[wr.heap.size]? = some (.cells #[.int .i64 (o : Int), .int .i64 x.lo, .int .i64 x.hi, .int .i64 x.x, .int .i64 x.y] 81 (0, 0)) := by rw [← hw5]; exact heap_alloc_new wr _
      have HB5 := Lib.hid (HB.out.trans (hb5.mono HB.out.size))
      have HU5 : Hid (ByOwn w5 W.heap.size u (upL l st sl k)) := Lib.hid (World.ownsRow.kept HU.out (row := none) ⟨hb5.os, hb5.tape, hb5.output, hb5.size, fun j hj _ => hb5.block j hj⟩ (by cases hv : u.ownBlock <;> simp))
      have HS2 : Hid (∀ w' : World, Below W.heap.size W w' → w'.heap[wr.heap.size]? = some (.cells #[.int .i64 (o : Int), .int .i64 x.lo, .int .i64 x.hi, .int .i64 x.x, .int .i64 x.y] 81 (0, 0)) → w'.cell? ⟨wr.heap.size, 0, none⟩ = some (.int .i64 (o : Int)) ∧ w'.cell? ⟨wr.heap.size, 1, none⟩ = some (.int .i64 x.lo) ∧ w'.cell? ⟨wr.heap.size, 2, none⟩ = some (.int .i64 x.hi) ∧ w'.cell? ⟨wr.heap.size, 3, none⟩ = some (.int .i64 x.x) ∧ w'.cell? ⟨wr.heap.size, 4, none⟩ = some (.int .i64 x.y) ∧ w'.cell? ⟨1, o * 9, none⟩ = some (.string wd)) := Lib.hid (fun w' h h1 => by
        have h2 := (HE.out.below (Nat.le_refl _) h).cell o 0 (by omega) (by omega)
        rw [← hwd]
        exact ⟨blkp h1 0, blkp h1 1, blkp h1 2, blkp h1 3, blkp h1 4, by simpa [opC] using h2⟩)
      have HX5 := Lib.hid hx5
      have HS : Hid (∀ w', Below w5.heap.size w5 w' → w'.cell? ⟨wr.heap.size, 0, none⟩ = some (.int .i64 (o : Int)) ∧ w'.cell? ⟨wr.heap.size, 1, none⟩ = some (.int .i64 x.lo) ∧ w'.cell? ⟨wr.heap.size, 2, none⟩ = some (.int .i64 x.hi) ∧ w'.cell? ⟨wr.heap.size, 3, none⟩ = some (.int .i64 x.x) ∧ w'.cell? ⟨wr.heap.size, 4, none⟩ = some (.int .i64 x.y) ∧ w'.cell? ⟨1, o * 9, none⟩ = some (.string wd)) := Lib.hid (fun w' h => HS2.out w' (HB5.out.trans (h.mono HB5.out.size)) ((h.block _ (Array.getElem?_eq_some_iff.1 HX5.out).1).trans HX5.out))
      have HW5 := Lib.hid hw5
      obtain ⟨L5, hL5⟩ : ∃ L5, (upL l st sl k).length = L5 := ⟨_, rfl⟩
      obtain ⟨a5, c5, h5⟩ := HU5.out.slice
      rw [hL5] at h5
      subst h5
      have HK5 : Hid (∀ ws, Below w5.heap.size w5 ws → ByOwn ws W.heap.size (.slice a5 L5 c5) (upL l st sl k)) := Lib.hid (fun ws h => World.ownsRow.kept HU5.out (row := none) ⟨h.os, h.tape, h.output, h.size, fun j hj _ => h.block j hj⟩ (by cases hv : (Value.slice a5 L5 c5).ownBlock <;> simp))
      have hs0 := HS.out w5.drew (Below.refl _ _).drew
      clear hL5 hx5 hb5 hw5 hwd hN kc hcc hx hkl hfit hop ho ho1 ho6
      go_wp2_with fail
      rw [HW5.out]
      go_region_held3 (fun w' => w'.cell? ⟨wr.heap.size, 0, none⟩ = some (.int .i64 (o : Int)) ∧ w'.cell? ⟨wr.heap.size, 1, none⟩ = some (.int .i64 x.lo) ∧ w'.cell? ⟨wr.heap.size, 2, none⟩ = some (.int .i64 x.hi) ∧ w'.cell? ⟨wr.heap.size, 3, none⟩ = some (.int .i64 x.x) ∧ w'.cell? ⟨wr.heap.size, 4, none⟩ = some (.int .i64 x.y) ∧ w'.cell? ⟨1, o * 9, none⟩ = some (.string wd))
        (first | assumption)
        (first
          | (go_at_call 46; refine (HOWN.out _ (HE.out.below (Nat.le_refl _) (HB5.out.trans ((Below.refl _ _).drew)))).mono ?_; rintro y ws ⟨a7, c7, rfl, hi7', hb7⟩; have HB7 := Lib.hid (((Below.refl w5.heap.size w5).drew).trans hb7); have hs7 := HS.out ws HB7.out; have HI7 := Lib.hid hi7'; clear hi7' hb7)
          | (go_at_call 45; refine (line_any ws W.heap.size _ (upL l st sl k) wd a7 N c7 (ownL x) (HK5.out ws HB7.out) (by have := HB5.out.size; have := HB7.out.size; omega) (by have := HUL.out; omega) HWS.out HNN.out hN9 HI7.out HFO.out (fun w' h => HEV.out w' (HB5.out.trans ((HB7.out.mono HB5.out.size).trans h)))).mono ?_; rintro y wt ⟨v8, rfl, ho8, hb8, hk8⟩; have HB8 := Lib.hid (HB5.out.trans ((HB7.out.mono HB5.out.size).trans hb8)); have HO8 := Lib.hid ho8; have hs8 := HS2.out wt HB8.out (hk8 _ _ ((HB7.out.block _ (Array.getElem?_eq_some_iff.1 HX5.out).1).trans HX5.out) (by simp) (fun c fz q => by injection q with _ q _; exact absurd q (by decide))); clear ho8 hb8 hk8))
      have HO9 : Hid (ByOwn wt W.heap.size v8 (upL l st sl (k + 1))) := Lib.hid (by rw [HIL.out]; exact HO8.out)
      clear hs0 hs7 hs8 q0 q1 q2 q3 q4
      go_wp2
      go_roundw
      case rel => first | exact ⟨k + 1, _, by omega, by go_num, rfl, HO9, HB8⟩ | ((repeat apply Exists.intro); exact ⟨⟨k + 1, _, by omega, by go_num, rfl, HO9, HB8⟩, rfl⟩)
      case measure => simp [intOf]; omega
    · obtain rfl : k = n := by omega
      have hconv := conv_by HU.out
      rw [upL_all l st sl (by rw [HN.out]; exact Nat.le_refl _)] at hconv
      rw [HXT.out] at hconv
      go_wp2
      go_ret2
      exact ⟨rfl, HB.out⟩
end Pgm
end Go.Proofs.YtfnimmbmcjgdpaaDoor
