/- The reference's show (burinref10): times; what a text is that may be cut off. -/
import Derived.Test.YtecmeeobabadeaaDoorGp8
import Derived.Test.YtecmeeobabadeaaDoorGp17
namespace Go.Proofs.YtecmeeobabadeaaDoor
open Go.RowKit
set_option linter.unusedVariables false
theorem txtB_is {T : ByteArray} {l : List Int} (h : Utf.nums T = l) : T = txtB l := by
  apply Br.nums_inj'
  rw [h, txtB_nums (by rw [← h]; exact Utf.nums_bytes T)]
theorem txtB_size {l : List Int} (h : Utf.Bytes l) : (txtB l).size = l.length := by rw [← Utf.nums_length, txtB_nums h]
theorem decL_short {n : Nat} (h : n ≤ 1000) : (Lx.decL n).length ≤ 4 := (Lx.decF_len 6 n (by omega) (by omega)).2.2.1 4 (by omega) (by omega)
theorem num10_any (W : World) (n : Nat) (h : n ≤ 1000) : Calls Tryd.prog 43 #[.int .i64 (n : Int), .int .i64 10] W fun e w' => e = .returned (.string (txtB (Lx.decL n))) ∧ Below W.heap.size W w' := by
  refine (numR_any 10 (by omega) n (by omega) W).mono ?_
  rintro e w' ⟨T, rfl, hT, hb⟩
  rw [numL_dec n (by omega)] at hT
  rw [txtB_is hT]
  exact ⟨rfl, hb⟩
def TimesQ (W : World) (x y : Int) (lz : Bool) (e : Ending) (w' : World) : Prop := ∃ T : ByteArray, e = .returned (.string T) ∧ Utf.nums T = Sh.timesL x y lz ∧ Below W.heap.size W w'
theorem times_lazy {D : ByteArray} {x y : Int} (h : Utf.nums D = Sh.countL x y) : Utf.nums (D ++ ⟨#[63]⟩) = Sh.timesL x y true := by
  rw [Br.nums_append', h]; rfl
theorem times_plain {D : ByteArray} {x y : Int} (h : Utf.nums D = Sh.countL x y) : Utf.nums D = Sh.timesL x y false := by
  rw [h]; unfold Sh.timesL; simp
theorem num_text (z : Int) (z0 : 0 ≤ z) (z1 : z ≤ 1000) : ∃ P : ByteArray, P.size ≤ 4 ∧ Utf.nums P = Lx.decL z.toNat ∧ ∀ w, Calls Tryd.prog 43 #[.int .i64 z, .int .i64 10] w fun e w' => e = .returned (.string P) ∧ Below w.heap.size w w' := by
  obtain ⟨p, rfl⟩ : ∃ p : Nat, z = (p : Int) := ⟨z.toNat, by omega⟩
  rw [Int.toNat_natCast]
  exact ⟨_, by rw [txtB_size (bytes_dec p)]; exact decL_short (by omega), txtB_nums (bytes_dec p), fun w => num10_any w p (by omega)⟩
theorem num_fun : ∃ f : Int → ByteArray, (∀ z, 0 ≤ z → z ≤ 1000 → (f z).size ≤ 4 ∧ Utf.nums (f z) = Lx.decL z.toNat) ∧ ∀ (z : Int) w, Hid (0 ≤ z ∧ z ≤ 1000) → Calls Tryd.prog 43 #[.int .i64 z, .int .i64 10] w fun e w' => e = .returned (.string (f z)) ∧ Below w.heap.size w w' :=
  ⟨fun z => txtB (Lx.decL z.toNat), fun z z0 z1 => ⟨by dsimp only; rw [txtB_size (bytes_dec z.toNat)]; exact decL_short (by omega), txtB_nums (bytes_dec z.toNat)⟩, fun z w h => by
    obtain ⟨p, rfl⟩ : ∃ p : Nat, z = (p : Int) := ⟨z.toNat, by have := h.out; omega⟩
    dsimp only
    rw [Int.toNat_natCast]
    exact num10_any w p (by have := h.out; omega)⟩
set_option maxRecDepth 100000 in
set_option maxHeartbeats 4000000 in
theorem tm_a_false (W : World) (vs : Value) (a : Option Addr) (cap N : Nat) (K M : Int) (S : ByteArray) : Calls Tryd.prog 25 #[.agg #[.int .i64 K, vs, .int .i64 M, .string S, .int .i64 0, .int .i64 (-1), .bool false, .slice a N cap]] W (TimesQ W 0 (-1) false) := by
  have HC : Hid (Utf.nums ⟨#[42]⟩ = Sh.countL 0 (-1)) := Lib.hid rfl
  go_enter Tryd.func25, Tryd.ntmps25
  go_wp2
  go_ret
  exact ⟨_, rfl, times_plain HC.out, (Below.refl _ _).alloc (Nat.le_refl _) _⟩
set_option maxRecDepth 100000 in
set_option maxHeartbeats 4000000 in
theorem tm_a_true (W : World) (vs : Value) (a : Option Addr) (cap N : Nat) (K M : Int) (S : ByteArray) : Calls Tryd.prog 25 #[.agg #[.int .i64 K, vs, .int .i64 M, .string S, .int .i64 0, .int .i64 (-1), .bool true, .slice a N cap]] W (TimesQ W 0 (-1) true) := by
  have HC : Hid (Utf.nums ⟨#[42]⟩ = Sh.countL 0 (-1)) := Lib.hid rfl
  go_enter Tryd.func25, Tryd.ntmps25
  go_wp2
  go_ret
  exact ⟨_, rfl, times_lazy HC.out, (Below.refl _ _).alloc (Nat.le_refl _) _⟩
set_option maxRecDepth 100000 in
set_option maxHeartbeats 4000000 in
theorem tm_b_false (W : World) (vs : Value) (a : Option Addr) (cap N : Nat) (K M : Int) (S : ByteArray) : Calls Tryd.prog 25 #[.agg #[.int .i64 K, vs, .int .i64 M, .string S, .int .i64 1, .int .i64 (-1), .bool false, .slice a N cap]] W (TimesQ W 1 (-1) false) := by
  have HC : Hid (Utf.nums ⟨#[43]⟩ = Sh.countL 1 (-1)) := Lib.hid rfl
  go_enter Tryd.func25, Tryd.ntmps25
  go_wp2
  go_ret
  exact ⟨_, rfl, times_plain HC.out, (Below.refl _ _).alloc (Nat.le_refl _) _⟩
set_option maxRecDepth 100000 in
set_option maxHeartbeats 4000000 in
theorem tm_b_true (W : World) (vs : Value) (a : Option Addr) (cap N : Nat) (K M : Int) (S : ByteArray) : Calls Tryd.prog 25 #[.agg #[.int .i64 K, vs, .int .i64 M, .string S, .int .i64 1, .int .i64 (-1), .bool true, .slice a N cap]] W (TimesQ W 1 (-1) true) := by
  have HC : Hid (Utf.nums ⟨#[43]⟩ = Sh.countL 1 (-1)) := Lib.hid rfl
  go_enter Tryd.func25, Tryd.ntmps25
  go_wp2
  go_ret
  exact ⟨_, rfl, times_lazy HC.out, (Below.refl _ _).alloc (Nat.le_refl _) _⟩
set_option maxRecDepth 100000 in
set_option maxHeartbeats 4000000 in
theorem tm_c_false (W : World) (vs : Value) (a : Option Addr) (cap N : Nat) (K M : Int) (S : ByteArray) : Calls Tryd.prog 25 #[.agg #[.int .i64 K, vs, .int .i64 M, .string S, .int .i64 0, .int .i64 1, .bool false, .slice a N cap]] W (TimesQ W 0 1 false) := by
  have HC : Hid (Utf.nums ⟨#[63]⟩ = Sh.countL 0 1) := Lib.hid rfl
  go_enter Tryd.func25, Tryd.ntmps25
  go_wp2
  go_ret
  exact ⟨_, rfl, times_plain HC.out, (Below.refl _ _).alloc (Nat.le_refl _) _⟩
set_option maxRecDepth 100000 in
set_option maxHeartbeats 4000000 in
theorem tm_c_true (W : World) (vs : Value) (a : Option Addr) (cap N : Nat) (K M : Int) (S : ByteArray) : Calls Tryd.prog 25 #[.agg #[.int .i64 K, vs, .int .i64 M, .string S, .int .i64 0, .int .i64 1, .bool true, .slice a N cap]] W (TimesQ W 0 1 true) := by
  have HC : Hid (Utf.nums ⟨#[63]⟩ = Sh.countL 0 1) := Lib.hid rfl
  go_enter Tryd.func25, Tryd.ntmps25
  go_wp2
  go_ret
  exact ⟨_, rfl, times_lazy HC.out, (Below.refl _ _).alloc (Nat.le_refl _) _⟩
set_option maxRecDepth 100000 in
set_option maxHeartbeats 4000000 in
theorem tm_d_false (W : World) (vs : Value) (a : Option Addr) (cap N : Nat) (K M : Int) (S : ByteArray) : Calls Tryd.prog 25 #[.agg #[.int .i64 K, vs, .int .i64 M, .string S, .int .i64 0, .int .i64 0, .bool false, .slice a N cap]] W (TimesQ W 0 0 false) := by
  obtain ⟨P, hPz, hPn, HNP⟩ := num_text 0 (by omega) (by omega)
  have HNP := Lib.hid HNP
  have HC : Hid (Utf.nums (((⟨#[123]⟩ : ByteArray) ++ P) ++ (⟨#[125]⟩ : ByteArray)) = Sh.countL 0 0) := Lib.hid (by
    rw [Br.nums_append', Br.nums_append', hPn]
    unfold Sh.countL
    rw [if_neg (by decide), if_neg (by decide), if_neg (by decide), if_pos rfl]
    rfl)
  have n1 : ¬ 9223372036854775807 < 1 + P.size := by omega
  have n2 : ¬ 9223372036854775807 < 1 + P.size + 1 := by omega
  have hP : ((⟨#[123]⟩ : ByteArray) ++ P).size = 1 + P.size := ByteArray.size_append ..
  have n3 : ¬ 9223372036854775807 < ((⟨#[123]⟩ : ByteArray) ++ P).size + 1 := by omega
  have n4 : ¬ 9223372036854775807 < 1 + P.size + 1 + 1 := by omega
  have hP2 : (((⟨#[123]⟩ : ByteArray) ++ P) ++ (⟨#[125]⟩ : ByteArray)).size = 1 + P.size + 1 := by rw [ByteArray.size_append, hP]; rfl
  have n5 : ¬ 9223372036854775807 < (((⟨#[123]⟩ : ByteArray) ++ P) ++ (⟨#[125]⟩ : ByteArray)).size + 1 := by omega
  clear hP hP2 hPn
  go_enter Tryd.func25, Tryd.ntmps25
  go_wp2_with fail
  refine (HNP.out _).mono ?_
  rintro e w' ⟨rfl, hb⟩
  have HB : Hid (Below W.heap.size W w') := Lib.hid (((Below.refl W.heap.size W).alloc (Nat.le_refl _) _).trans (hb.mono (by simp)))
  have q6 := hb.cell (p := ⟨W.heap.size, 6, none⟩) (by simp)
  have q6 : w'.cell? ⟨W.heap.size, 6, none⟩ = some (.bool false) := by rw [q6]; simp
  clear hb
  go_wp2
  go_ret
  exact ⟨_, rfl, times_plain HC.out, HB.out⟩
set_option maxRecDepth 100000 in
set_option maxHeartbeats 4000000 in
theorem tm_d_true (W : World) (vs : Value) (a : Option Addr) (cap N : Nat) (K M : Int) (S : ByteArray) : Calls Tryd.prog 25 #[.agg #[.int .i64 K, vs, .int .i64 M, .string S, .int .i64 0, .int .i64 0, .bool true, .slice a N cap]] W (TimesQ W 0 0 true) := by
  obtain ⟨P, hPz, hPn, HNP⟩ := num_text 0 (by omega) (by omega)
  have HNP := Lib.hid HNP
  have HC : Hid (Utf.nums (((⟨#[123]⟩ : ByteArray) ++ P) ++ (⟨#[125]⟩ : ByteArray)) = Sh.countL 0 0) := Lib.hid (by
    rw [Br.nums_append', Br.nums_append', hPn]
    unfold Sh.countL
    rw [if_neg (by decide), if_neg (by decide), if_neg (by decide), if_pos rfl]
    rfl)
  have n1 : ¬ 9223372036854775807 < 1 + P.size := by omega
  have n2 : ¬ 9223372036854775807 < 1 + P.size + 1 := by omega
  have hP : ((⟨#[123]⟩ : ByteArray) ++ P).size = 1 + P.size := ByteArray.size_append ..
  have n3 : ¬ 9223372036854775807 < ((⟨#[123]⟩ : ByteArray) ++ P).size + 1 := by omega
  have n4 : ¬ 9223372036854775807 < 1 + P.size + 1 + 1 := by omega
  have hP2 : (((⟨#[123]⟩ : ByteArray) ++ P) ++ (⟨#[125]⟩ : ByteArray)).size = 1 + P.size + 1 := by rw [ByteArray.size_append, hP]; rfl
  have n5 : ¬ 9223372036854775807 < (((⟨#[123]⟩ : ByteArray) ++ P) ++ (⟨#[125]⟩ : ByteArray)).size + 1 := by omega
  clear hP hP2 hPn
  go_enter Tryd.func25, Tryd.ntmps25
  go_wp2_with fail
  refine (HNP.out _).mono ?_
  rintro e w' ⟨rfl, hb⟩
  have HB : Hid (Below W.heap.size W w') := Lib.hid (((Below.refl W.heap.size W).alloc (Nat.le_refl _) _).trans (hb.mono (by simp)))
  have q6 := hb.cell (p := ⟨W.heap.size, 6, none⟩) (by simp)
  have q6 : w'.cell? ⟨W.heap.size, 6, none⟩ = some (.bool true) := by rw [q6]; simp
  clear hb
  go_wp2
  go_ret
  exact ⟨_, rfl, times_lazy HC.out, HB.out⟩
set_option maxRecDepth 100000 in
set_option maxHeartbeats 4000000 in
theorem tm_e_false (W : World) (vs : Value) (a : Option Addr) (cap N : Nat) (K M : Int) (S : ByteArray) (y : Int) (y1 : ¬ y = -1) (y2 : ¬ y = 1) (y3 : ¬ y = 0) (y4 : ¬ 0 = y) (h2 : 0 ≤ y ∧ y ≤ 1000) : Calls Tryd.prog 25 #[.agg #[.int .i64 K, vs, .int .i64 M, .string S, .int .i64 0, .int .i64 y, .bool false, .slice a N cap]] W (TimesQ W 0 y false) := by
  have mixed : Tryd.prog.follows .mixedOrders = true := by kernel_rfl
  obtain ⟨f, hf, HNF⟩ := num_fun
  have HNF := Lib.hid HNF
  obtain ⟨hPz, hPn⟩ := hf 0 (by omega) (by omega)
  obtain ⟨hQz, hQn⟩ := hf y (by omega) (by omega)
  have BX : Hid (0 ≤ (0 : Int) ∧ (0 : Int) ≤ 1000) := Lib.hid (by omega)
  have BY : Hid (0 ≤ (y : Int) ∧ (y : Int) ≤ 1000) := Lib.hid (by omega)
  clear hf
  have HC : Hid (Utf.nums (((((⟨#[123]⟩ : ByteArray) ++ f (0)) ++ (⟨#[44]⟩ : ByteArray)) ++ f (y)) ++ (⟨#[125]⟩ : ByteArray)) = Sh.countL 0 y) := Lib.hid (by
    rw [Br.nums_append', Br.nums_append', Br.nums_append', Br.nums_append', hPn, hQn]
    unfold Sh.countL
    rw [if_neg (fun h => y1 h.2), if_neg (by omega), if_neg (fun h => y2 h.2), if_neg y3, if_neg y1]
    show [123] ++ Lx.decL _ ++ [44] ++ Lx.decL _ ++ [125] = _
    simp)
  have r0 : ¬ 9223372036854775807 < 1 + (f (0)).size := by omega
  have r1 : ¬ 9223372036854775807 < 1 + (f (0)).size + 1 := by omega
  have r2 : ¬ 9223372036854775807 < 1 + (f (0)).size + 1 + (f (y)).size := by omega
  have r3 : ¬ 9223372036854775807 < 1 + (f (0)).size + 1 + (f (y)).size + 1 := by omega
  have r4 : ¬ 9223372036854775807 < 1 + (f (0)).size + 1 + (f (y)).size + 1 + 1 := by omega
  have hz : (((((⟨#[123]⟩ : ByteArray) ++ f (0)) ++ (⟨#[44]⟩ : ByteArray)) ++ f (y)) ++ (⟨#[125]⟩ : ByteArray)).size = 1 + (f (0)).size + 1 + (f (y)).size + 1 := by rw [ByteArray.size_append, ByteArray.size_append, ByteArray.size_append, ByteArray.size_append]; rfl
  have r9 : ¬ 9223372036854775807 < (((((⟨#[123]⟩ : ByteArray) ++ f (0)) ++ (⟨#[44]⟩ : ByteArray)) ++ f (y)) ++ (⟨#[125]⟩ : ByteArray)).size + 1 := by omega
  clear hQn hPn hz
  go_enter Tryd.func25, Tryd.ntmps25
  go_wp2
  obtain ⟨wx, hwx⟩ : ∃ wx, W.alloc (.cells #[.int .i64 K, vs, .int .i64 M, .string S, .int .i64 0, .int .i64 y, .bool false, .slice a N cap] 25) = wx := ⟨_, rfl⟩
  have HBX : Hid (Below W.heap.size W wx) := Lib.hid (by rw [← hwx]; exact (Below.refl _ _).alloc (Nat.le_refl _) _)
  have g9 : W.heap.size < wx.heap.size := by rw [← hwx]; simp
  have q4 : wx.cell? ⟨W.heap.size, 4, none⟩ = some (.int .i64 0) := by rw [← hwx]; simp
  have q5 : wx.cell? ⟨W.heap.size, 5, none⟩ = some (.int .i64 y) := by rw [← hwx]; simp
  have q6 : wx.cell? ⟨W.heap.size, 6, none⟩ = some (.bool false) := by rw [← hwx]; simp
  rw [hwx]
  clear hwx
  obtain ⟨g, hg⟩ : ∃ g, W.heap.size = g := ⟨_, rfl⟩
  rw [hg] at q4 q5 q6 g9 ⊢
  rw [hg] at HBX
  have p4 := fun p => cell_grownTo (w := wx) (a := ⟨g, 4, none⟩) g9 q4 p
  have p5 := fun p => cell_grownTo (w := wx) (a := ⟨g, 5, none⟩) g9 q5 p
  have p6 := fun p => cell_grownTo (w := wx) (a := ⟨g, 6, none⟩) g9 q6 p
  have HQ6 := Lib.hid q6
  clear q4 q5 q6
  refine wp_region_quiet_below mixed (by kernel_rfl) ?_
  repeat (quiet_step (first | (go_at_call 43; exact calls_grownTo (HNF.out _ _ (by assumption)))))
  refine wpQuiet_nil ?_
  intro _ hw'
  obtain ⟨⟨wz, hbz⟩, hw''⟩ := hw'
  subst hw''
  have hz6 := (hbz.cell (p := ⟨g, 6, none⟩) g9).trans HQ6.out
  have HBZ := Lib.hid (HBX.out.trans (hbz.mono (by omega)))
  have HG := Lib.hid hg
  clear hbz p4 p5 p6 hg
  go_wp2
  go_ret
  exact ⟨_, rfl, times_plain HC.out, by rw [HG.out]; exact HBZ.out⟩
set_option maxRecDepth 100000 in
set_option maxHeartbeats 4000000 in
theorem tm_e_true (W : World) (vs : Value) (a : Option Addr) (cap N : Nat) (K M : Int) (S : ByteArray) (y : Int) (y1 : ¬ y = -1) (y2 : ¬ y = 1) (y3 : ¬ y = 0) (y4 : ¬ 0 = y) (h2 : 0 ≤ y ∧ y ≤ 1000) : Calls Tryd.prog 25 #[.agg #[.int .i64 K, vs, .int .i64 M, .string S, .int .i64 0, .int .i64 y, .bool true, .slice a N cap]] W (TimesQ W 0 y true) := by
  have mixed : Tryd.prog.follows .mixedOrders = true := by kernel_rfl
  obtain ⟨f, hf, HNF⟩ := num_fun
  have HNF := Lib.hid HNF
  obtain ⟨hPz, hPn⟩ := hf 0 (by omega) (by omega)
  obtain ⟨hQz, hQn⟩ := hf y (by omega) (by omega)
  have BX : Hid (0 ≤ (0 : Int) ∧ (0 : Int) ≤ 1000) := Lib.hid (by omega)
  have BY : Hid (0 ≤ (y : Int) ∧ (y : Int) ≤ 1000) := Lib.hid (by omega)
  clear hf
  have HC : Hid (Utf.nums (((((⟨#[123]⟩ : ByteArray) ++ f (0)) ++ (⟨#[44]⟩ : ByteArray)) ++ f (y)) ++ (⟨#[125]⟩ : ByteArray)) = Sh.countL 0 y) := Lib.hid (by
    rw [Br.nums_append', Br.nums_append', Br.nums_append', Br.nums_append', hPn, hQn]
    unfold Sh.countL
    rw [if_neg (fun h => y1 h.2), if_neg (by omega), if_neg (fun h => y2 h.2), if_neg y3, if_neg y1]
    show [123] ++ Lx.decL _ ++ [44] ++ Lx.decL _ ++ [125] = _
    simp)
  have r0 : ¬ 9223372036854775807 < 1 + (f (0)).size := by omega
  have r1 : ¬ 9223372036854775807 < 1 + (f (0)).size + 1 := by omega
  have r2 : ¬ 9223372036854775807 < 1 + (f (0)).size + 1 + (f (y)).size := by omega
  have r3 : ¬ 9223372036854775807 < 1 + (f (0)).size + 1 + (f (y)).size + 1 := by omega
  have r4 : ¬ 9223372036854775807 < 1 + (f (0)).size + 1 + (f (y)).size + 1 + 1 := by omega
  have hz : (((((⟨#[123]⟩ : ByteArray) ++ f (0)) ++ (⟨#[44]⟩ : ByteArray)) ++ f (y)) ++ (⟨#[125]⟩ : ByteArray)).size = 1 + (f (0)).size + 1 + (f (y)).size + 1 := by rw [ByteArray.size_append, ByteArray.size_append, ByteArray.size_append, ByteArray.size_append]; rfl
  have r9 : ¬ 9223372036854775807 < (((((⟨#[123]⟩ : ByteArray) ++ f (0)) ++ (⟨#[44]⟩ : ByteArray)) ++ f (y)) ++ (⟨#[125]⟩ : ByteArray)).size + 1 := by omega
  clear hQn hPn hz
  go_enter Tryd.func25, Tryd.ntmps25
  go_wp2
  obtain ⟨wx, hwx⟩ : ∃ wx, W.alloc (.cells #[.int .i64 K, vs, .int .i64 M, .string S, .int .i64 0, .int .i64 y, .bool true, .slice a N cap] 25) = wx := ⟨_, rfl⟩
  have HBX : Hid (Below W.heap.size W wx) := Lib.hid (by rw [← hwx]; exact (Below.refl _ _).alloc (Nat.le_refl _) _)
  have g9 : W.heap.size < wx.heap.size := by rw [← hwx]; simp
  have q4 : wx.cell? ⟨W.heap.size, 4, none⟩ = some (.int .i64 0) := by rw [← hwx]; simp
  have q5 : wx.cell? ⟨W.heap.size, 5, none⟩ = some (.int .i64 y) := by rw [← hwx]; simp
  have q6 : wx.cell? ⟨W.heap.size, 6, none⟩ = some (.bool true) := by rw [← hwx]; simp
  rw [hwx]
  clear hwx
  obtain ⟨g, hg⟩ : ∃ g, W.heap.size = g := ⟨_, rfl⟩
  rw [hg] at q4 q5 q6 g9 ⊢
  rw [hg] at HBX
  have p4 := fun p => cell_grownTo (w := wx) (a := ⟨g, 4, none⟩) g9 q4 p
  have p5 := fun p => cell_grownTo (w := wx) (a := ⟨g, 5, none⟩) g9 q5 p
  have p6 := fun p => cell_grownTo (w := wx) (a := ⟨g, 6, none⟩) g9 q6 p
  have HQ6 := Lib.hid q6
  clear q4 q5 q6
  refine wp_region_quiet_below mixed (by kernel_rfl) ?_
  repeat (quiet_step (first | (go_at_call 43; exact calls_grownTo (HNF.out _ _ (by assumption)))))
  refine wpQuiet_nil ?_
  intro _ hw'
  obtain ⟨⟨wz, hbz⟩, hw''⟩ := hw'
  subst hw''
  have hz6 := (hbz.cell (p := ⟨g, 6, none⟩) g9).trans HQ6.out
  have HBZ := Lib.hid (HBX.out.trans (hbz.mono (by omega)))
  have HG := Lib.hid hg
  clear hbz p4 p5 p6 hg
  go_wp2
  go_ret
  exact ⟨_, rfl, times_lazy HC.out, by rw [HG.out]; exact HBZ.out⟩
set_option maxRecDepth 100000 in
set_option maxHeartbeats 4000000 in
theorem tm_f_false (W : World) (vs : Value) (a : Option Addr) (cap N : Nat) (K M : Int) (S : ByteArray) : Calls Tryd.prog 25 #[.agg #[.int .i64 K, vs, .int .i64 M, .string S, .int .i64 1, .int .i64 1, .bool false, .slice a N cap]] W (TimesQ W 1 1 false) := by
  obtain ⟨P, hPz, hPn, HNP⟩ := num_text 1 (by omega) (by omega)
  have HNP := Lib.hid HNP
  have HC : Hid (Utf.nums (((⟨#[123]⟩ : ByteArray) ++ P) ++ (⟨#[125]⟩ : ByteArray)) = Sh.countL 1 1) := Lib.hid (by
    rw [Br.nums_append', Br.nums_append', hPn]
    unfold Sh.countL
    rw [if_neg (by decide), if_neg (by decide), if_neg (by decide), if_pos rfl]
    rfl)
  have n1 : ¬ 9223372036854775807 < 1 + P.size := by omega
  have n2 : ¬ 9223372036854775807 < 1 + P.size + 1 := by omega
  have hP : ((⟨#[123]⟩ : ByteArray) ++ P).size = 1 + P.size := ByteArray.size_append ..
  have n3 : ¬ 9223372036854775807 < ((⟨#[123]⟩ : ByteArray) ++ P).size + 1 := by omega
  have n4 : ¬ 9223372036854775807 < 1 + P.size + 1 + 1 := by omega
  have hP2 : (((⟨#[123]⟩ : ByteArray) ++ P) ++ (⟨#[125]⟩ : ByteArray)).size = 1 + P.size + 1 := by rw [ByteArray.size_append, hP]; rfl
  have n5 : ¬ 9223372036854775807 < (((⟨#[123]⟩ : ByteArray) ++ P) ++ (⟨#[125]⟩ : ByteArray)).size + 1 := by omega
  clear hP hP2 hPn
  go_enter Tryd.func25, Tryd.ntmps25
  go_wp2_with fail
  refine (HNP.out _).mono ?_
  rintro e w' ⟨rfl, hb⟩
  have HB : Hid (Below W.heap.size W w') := Lib.hid (((Below.refl W.heap.size W).alloc (Nat.le_refl _) _).trans (hb.mono (by simp)))
  have q6 := hb.cell (p := ⟨W.heap.size, 6, none⟩) (by simp)
  have q6 : w'.cell? ⟨W.heap.size, 6, none⟩ = some (.bool false) := by rw [q6]; simp
  clear hb
  go_wp2
  go_ret
  exact ⟨_, rfl, times_plain HC.out, HB.out⟩
set_option maxRecDepth 100000 in
set_option maxHeartbeats 4000000 in
theorem tm_f_true (W : World) (vs : Value) (a : Option Addr) (cap N : Nat) (K M : Int) (S : ByteArray) : Calls Tryd.prog 25 #[.agg #[.int .i64 K, vs, .int .i64 M, .string S, .int .i64 1, .int .i64 1, .bool true, .slice a N cap]] W (TimesQ W 1 1 true) := by
  obtain ⟨P, hPz, hPn, HNP⟩ := num_text 1 (by omega) (by omega)
  have HNP := Lib.hid HNP
  have HC : Hid (Utf.nums (((⟨#[123]⟩ : ByteArray) ++ P) ++ (⟨#[125]⟩ : ByteArray)) = Sh.countL 1 1) := Lib.hid (by
    rw [Br.nums_append', Br.nums_append', hPn]
    unfold Sh.countL
    rw [if_neg (by decide), if_neg (by decide), if_neg (by decide), if_pos rfl]
    rfl)
  have n1 : ¬ 9223372036854775807 < 1 + P.size := by omega
  have n2 : ¬ 9223372036854775807 < 1 + P.size + 1 := by omega
  have hP : ((⟨#[123]⟩ : ByteArray) ++ P).size = 1 + P.size := ByteArray.size_append ..
  have n3 : ¬ 9223372036854775807 < ((⟨#[123]⟩ : ByteArray) ++ P).size + 1 := by omega
  have n4 : ¬ 9223372036854775807 < 1 + P.size + 1 + 1 := by omega
  have hP2 : (((⟨#[123]⟩ : ByteArray) ++ P) ++ (⟨#[125]⟩ : ByteArray)).size = 1 + P.size + 1 := by rw [ByteArray.size_append, hP]; rfl
  have n5 : ¬ 9223372036854775807 < (((⟨#[123]⟩ : ByteArray) ++ P) ++ (⟨#[125]⟩ : ByteArray)).size + 1 := by omega
  clear hP hP2 hPn
  go_enter Tryd.func25, Tryd.ntmps25
  go_wp2_with fail
  refine (HNP.out _).mono ?_
  rintro e w' ⟨rfl, hb⟩
  have HB : Hid (Below W.heap.size W w') := Lib.hid (((Below.refl W.heap.size W).alloc (Nat.le_refl _) _).trans (hb.mono (by simp)))
  have q6 := hb.cell (p := ⟨W.heap.size, 6, none⟩) (by simp)
  have q6 : w'.cell? ⟨W.heap.size, 6, none⟩ = some (.bool true) := by rw [q6]; simp
  clear hb
  go_wp2
  go_ret
  exact ⟨_, rfl, times_lazy HC.out, HB.out⟩
set_option maxRecDepth 100000 in
set_option maxHeartbeats 4000000 in
theorem tm_g_false (W : World) (vs : Value) (a : Option Addr) (cap N : Nat) (K M : Int) (S : ByteArray) (y : Int) (y1 : ¬ y = -1) (y2 : ¬ y = 1) (y4 : ¬ 1 = y) (h2 : 1 ≤ y ∧ y ≤ 1000) : Calls Tryd.prog 25 #[.agg #[.int .i64 K, vs, .int .i64 M, .string S, .int .i64 1, .int .i64 y, .bool false, .slice a N cap]] W (TimesQ W 1 y false) := by
  have mixed : Tryd.prog.follows .mixedOrders = true := by kernel_rfl
  obtain ⟨f, hf, HNF⟩ := num_fun
  have HNF := Lib.hid HNF
  obtain ⟨hPz, hPn⟩ := hf 1 (by omega) (by omega)
  obtain ⟨hQz, hQn⟩ := hf y (by omega) (by omega)
  have BX : Hid (0 ≤ (1 : Int) ∧ (1 : Int) ≤ 1000) := Lib.hid (by omega)
  have BY : Hid (0 ≤ (y : Int) ∧ (y : Int) ≤ 1000) := Lib.hid (by omega)
  clear hf
  have HC : Hid (Utf.nums (((((⟨#[123]⟩ : ByteArray) ++ f (1)) ++ (⟨#[44]⟩ : ByteArray)) ++ f (y)) ++ (⟨#[125]⟩ : ByteArray)) = Sh.countL 1 y) := Lib.hid (by
    rw [Br.nums_append', Br.nums_append', Br.nums_append', Br.nums_append', hPn, hQn]
    unfold Sh.countL
    rw [if_neg (by omega), if_neg (fun h => y1 h.2), if_neg (by omega), if_neg y2, if_neg y1]
    show [123] ++ Lx.decL _ ++ [44] ++ Lx.decL _ ++ [125] = _
    simp)
  have r0 : ¬ 9223372036854775807 < 1 + (f (1)).size := by omega
  have r1 : ¬ 9223372036854775807 < 1 + (f (1)).size + 1 := by omega
  have r2 : ¬ 9223372036854775807 < 1 + (f (1)).size + 1 + (f (y)).size := by omega
  have r3 : ¬ 9223372036854775807 < 1 + (f (1)).size + 1 + (f (y)).size + 1 := by omega
  have r4 : ¬ 9223372036854775807 < 1 + (f (1)).size + 1 + (f (y)).size + 1 + 1 := by omega
  have hz : (((((⟨#[123]⟩ : ByteArray) ++ f (1)) ++ (⟨#[44]⟩ : ByteArray)) ++ f (y)) ++ (⟨#[125]⟩ : ByteArray)).size = 1 + (f (1)).size + 1 + (f (y)).size + 1 := by rw [ByteArray.size_append, ByteArray.size_append, ByteArray.size_append, ByteArray.size_append]; rfl
  have r9 : ¬ 9223372036854775807 < (((((⟨#[123]⟩ : ByteArray) ++ f (1)) ++ (⟨#[44]⟩ : ByteArray)) ++ f (y)) ++ (⟨#[125]⟩ : ByteArray)).size + 1 := by omega
  clear hQn hPn hz
  go_enter Tryd.func25, Tryd.ntmps25
  go_wp2
  obtain ⟨wx, hwx⟩ : ∃ wx, W.alloc (.cells #[.int .i64 K, vs, .int .i64 M, .string S, .int .i64 1, .int .i64 y, .bool false, .slice a N cap] 25) = wx := ⟨_, rfl⟩
  have HBX : Hid (Below W.heap.size W wx) := Lib.hid (by rw [← hwx]; exact (Below.refl _ _).alloc (Nat.le_refl _) _)
  have g9 : W.heap.size < wx.heap.size := by rw [← hwx]; simp
  have q4 : wx.cell? ⟨W.heap.size, 4, none⟩ = some (.int .i64 1) := by rw [← hwx]; simp
  have q5 : wx.cell? ⟨W.heap.size, 5, none⟩ = some (.int .i64 y) := by rw [← hwx]; simp
  have q6 : wx.cell? ⟨W.heap.size, 6, none⟩ = some (.bool false) := by rw [← hwx]; simp
  rw [hwx]
  clear hwx
  obtain ⟨g, hg⟩ : ∃ g, W.heap.size = g := ⟨_, rfl⟩
  rw [hg] at q4 q5 q6 g9 ⊢
  rw [hg] at HBX
  have p4 := fun p => cell_grownTo (w := wx) (a := ⟨g, 4, none⟩) g9 q4 p
  have p5 := fun p => cell_grownTo (w := wx) (a := ⟨g, 5, none⟩) g9 q5 p
  have p6 := fun p => cell_grownTo (w := wx) (a := ⟨g, 6, none⟩) g9 q6 p
  have HQ6 := Lib.hid q6
  clear q4 q5 q6
  refine wp_region_quiet_below mixed (by kernel_rfl) ?_
  repeat (quiet_step (first | (go_at_call 43; exact calls_grownTo (HNF.out _ _ (by assumption)))))
  refine wpQuiet_nil ?_
  intro _ hw'
  obtain ⟨⟨wz, hbz⟩, hw''⟩ := hw'
  subst hw''
  have hz6 := (hbz.cell (p := ⟨g, 6, none⟩) g9).trans HQ6.out
  have HBZ := Lib.hid (HBX.out.trans (hbz.mono (by omega)))
  have HG := Lib.hid hg
  clear hbz p4 p5 p6 hg
  go_wp2
  go_ret
  exact ⟨_, rfl, times_plain HC.out, by rw [HG.out]; exact HBZ.out⟩
set_option maxRecDepth 100000 in
set_option maxHeartbeats 4000000 in
theorem tm_g_true (W : World) (vs : Value) (a : Option Addr) (cap N : Nat) (K M : Int) (S : ByteArray) (y : Int) (y1 : ¬ y = -1) (y2 : ¬ y = 1) (y4 : ¬ 1 = y) (h2 : 1 ≤ y ∧ y ≤ 1000) : Calls Tryd.prog 25 #[.agg #[.int .i64 K, vs, .int .i64 M, .string S, .int .i64 1, .int .i64 y, .bool true, .slice a N cap]] W (TimesQ W 1 y true) := by
  have mixed : Tryd.prog.follows .mixedOrders = true := by kernel_rfl
  obtain ⟨f, hf, HNF⟩ := num_fun
  have HNF := Lib.hid HNF
  obtain ⟨hPz, hPn⟩ := hf 1 (by omega) (by omega)
  obtain ⟨hQz, hQn⟩ := hf y (by omega) (by omega)
  have BX : Hid (0 ≤ (1 : Int) ∧ (1 : Int) ≤ 1000) := Lib.hid (by omega)
  have BY : Hid (0 ≤ (y : Int) ∧ (y : Int) ≤ 1000) := Lib.hid (by omega)
  clear hf
  have HC : Hid (Utf.nums (((((⟨#[123]⟩ : ByteArray) ++ f (1)) ++ (⟨#[44]⟩ : ByteArray)) ++ f (y)) ++ (⟨#[125]⟩ : ByteArray)) = Sh.countL 1 y) := Lib.hid (by
    rw [Br.nums_append', Br.nums_append', Br.nums_append', Br.nums_append', hPn, hQn]
    unfold Sh.countL
    rw [if_neg (by omega), if_neg (fun h => y1 h.2), if_neg (by omega), if_neg y2, if_neg y1]
    show [123] ++ Lx.decL _ ++ [44] ++ Lx.decL _ ++ [125] = _
    simp)
  have r0 : ¬ 9223372036854775807 < 1 + (f (1)).size := by omega
  have r1 : ¬ 9223372036854775807 < 1 + (f (1)).size + 1 := by omega
  have r2 : ¬ 9223372036854775807 < 1 + (f (1)).size + 1 + (f (y)).size := by omega
  have r3 : ¬ 9223372036854775807 < 1 + (f (1)).size + 1 + (f (y)).size + 1 := by omega
  have r4 : ¬ 9223372036854775807 < 1 + (f (1)).size + 1 + (f (y)).size + 1 + 1 := by omega
  have hz : (((((⟨#[123]⟩ : ByteArray) ++ f (1)) ++ (⟨#[44]⟩ : ByteArray)) ++ f (y)) ++ (⟨#[125]⟩ : ByteArray)).size = 1 + (f (1)).size + 1 + (f (y)).size + 1 := by rw [ByteArray.size_append, ByteArray.size_append, ByteArray.size_append, ByteArray.size_append]; rfl
  have r9 : ¬ 9223372036854775807 < (((((⟨#[123]⟩ : ByteArray) ++ f (1)) ++ (⟨#[44]⟩ : ByteArray)) ++ f (y)) ++ (⟨#[125]⟩ : ByteArray)).size + 1 := by omega
  clear hQn hPn hz
  go_enter Tryd.func25, Tryd.ntmps25
  go_wp2
  obtain ⟨wx, hwx⟩ : ∃ wx, W.alloc (.cells #[.int .i64 K, vs, .int .i64 M, .string S, .int .i64 1, .int .i64 y, .bool true, .slice a N cap] 25) = wx := ⟨_, rfl⟩
  have HBX : Hid (Below W.heap.size W wx) := Lib.hid (by rw [← hwx]; exact (Below.refl _ _).alloc (Nat.le_refl _) _)
  have g9 : W.heap.size < wx.heap.size := by rw [← hwx]; simp
  have q4 : wx.cell? ⟨W.heap.size, 4, none⟩ = some (.int .i64 1) := by rw [← hwx]; simp
  have q5 : wx.cell? ⟨W.heap.size, 5, none⟩ = some (.int .i64 y) := by rw [← hwx]; simp
  have q6 : wx.cell? ⟨W.heap.size, 6, none⟩ = some (.bool true) := by rw [← hwx]; simp
  rw [hwx]
  clear hwx
  obtain ⟨g, hg⟩ : ∃ g, W.heap.size = g := ⟨_, rfl⟩
  rw [hg] at q4 q5 q6 g9 ⊢
  rw [hg] at HBX
  have p4 := fun p => cell_grownTo (w := wx) (a := ⟨g, 4, none⟩) g9 q4 p
  have p5 := fun p => cell_grownTo (w := wx) (a := ⟨g, 5, none⟩) g9 q5 p
  have p6 := fun p => cell_grownTo (w := wx) (a := ⟨g, 6, none⟩) g9 q6 p
  have HQ6 := Lib.hid q6
  clear q4 q5 q6
  refine wp_region_quiet_below mixed (by kernel_rfl) ?_
  repeat (quiet_step (first | (go_at_call 43; exact calls_grownTo (HNF.out _ _ (by assumption)))))
  refine wpQuiet_nil ?_
  intro _ hw'
  obtain ⟨⟨wz, hbz⟩, hw''⟩ := hw'
  subst hw''
  have hz6 := (hbz.cell (p := ⟨g, 6, none⟩) g9).trans HQ6.out
  have HBZ := Lib.hid (HBX.out.trans (hbz.mono (by omega)))
  have HG := Lib.hid hg
  clear hbz p4 p5 p6 hg
  go_wp2
  go_ret
  exact ⟨_, rfl, times_lazy HC.out, by rw [HG.out]; exact HBZ.out⟩
set_option maxRecDepth 100000 in
set_option maxHeartbeats 4000000 in
theorem tm_h_false (W : World) (vs : Value) (a : Option Addr) (cap N : Nat) (K M : Int) (S : ByteArray) (x : Int) (x0 : ¬ x = 0) (x1 : ¬ x = 1) (xm : ¬ x = -1) (h2 : 0 ≤ x ∧ x ≤ 1000) : Calls Tryd.prog 25 #[.agg #[.int .i64 K, vs, .int .i64 M, .string S, .int .i64 x, .int .i64 (-1), .bool false, .slice a N cap]] W (TimesQ W x (-1) false) := by
  obtain ⟨P, hPz, hPn, HNP⟩ := num_text x (by omega) (by omega)
  have HNP := Lib.hid HNP
  have HC : Hid (Utf.nums (((⟨#[123]⟩ : ByteArray) ++ P) ++ (⟨#[44, 125]⟩ : ByteArray)) = Sh.countL x (-1)) := Lib.hid (by
    rw [Br.nums_append', Br.nums_append', hPn]
    unfold Sh.countL
    rw [if_neg (fun h => x0 h.1), if_neg (fun h => x1 h.1), if_neg (fun h => x0 h.1), if_neg (by omega), if_pos rfl]
    rfl)
  have n1 : ¬ 9223372036854775807 < 1 + P.size := by omega
  have n2 : ¬ 9223372036854775807 < 1 + P.size + 2 := by omega
  have hP : ((⟨#[123]⟩ : ByteArray) ++ P).size = 1 + P.size := ByteArray.size_append ..
  have n3 : ¬ 9223372036854775807 < ((⟨#[123]⟩ : ByteArray) ++ P).size + 2 := by omega
  have n4 : ¬ 9223372036854775807 < 1 + P.size + 2 + 1 := by omega
  have hP2 : (((⟨#[123]⟩ : ByteArray) ++ P) ++ (⟨#[44, 125]⟩ : ByteArray)).size = 1 + P.size + 2 := by rw [ByteArray.size_append, hP]; rfl
  have n5 : ¬ 9223372036854775807 < (((⟨#[123]⟩ : ByteArray) ++ P) ++ (⟨#[44, 125]⟩ : ByteArray)).size + 1 := by omega
  clear hP hP2 hPn
  go_enter Tryd.func25, Tryd.ntmps25
  go_wp2_with fail
  refine (HNP.out _).mono ?_
  rintro e w' ⟨rfl, hb⟩
  have HB : Hid (Below W.heap.size W w') := Lib.hid (((Below.refl W.heap.size W).alloc (Nat.le_refl _) _).trans (hb.mono (by simp)))
  have q6 := hb.cell (p := ⟨W.heap.size, 6, none⟩) (by simp)
  have q6 : w'.cell? ⟨W.heap.size, 6, none⟩ = some (.bool false) := by rw [q6]; simp
  clear hb
  go_wp2
  go_ret
  exact ⟨_, rfl, times_plain HC.out, HB.out⟩
set_option maxRecDepth 100000 in
set_option maxHeartbeats 4000000 in
theorem tm_h_true (W : World) (vs : Value) (a : Option Addr) (cap N : Nat) (K M : Int) (S : ByteArray) (x : Int) (x0 : ¬ x = 0) (x1 : ¬ x = 1) (xm : ¬ x = -1) (h2 : 0 ≤ x ∧ x ≤ 1000) : Calls Tryd.prog 25 #[.agg #[.int .i64 K, vs, .int .i64 M, .string S, .int .i64 x, .int .i64 (-1), .bool true, .slice a N cap]] W (TimesQ W x (-1) true) := by
  obtain ⟨P, hPz, hPn, HNP⟩ := num_text x (by omega) (by omega)
  have HNP := Lib.hid HNP
  have HC : Hid (Utf.nums (((⟨#[123]⟩ : ByteArray) ++ P) ++ (⟨#[44, 125]⟩ : ByteArray)) = Sh.countL x (-1)) := Lib.hid (by
    rw [Br.nums_append', Br.nums_append', hPn]
    unfold Sh.countL
    rw [if_neg (fun h => x0 h.1), if_neg (fun h => x1 h.1), if_neg (fun h => x0 h.1), if_neg (by omega), if_pos rfl]
    rfl)
  have n1 : ¬ 9223372036854775807 < 1 + P.size := by omega
  have n2 : ¬ 9223372036854775807 < 1 + P.size + 2 := by omega
  have hP : ((⟨#[123]⟩ : ByteArray) ++ P).size = 1 + P.size := ByteArray.size_append ..
  have n3 : ¬ 9223372036854775807 < ((⟨#[123]⟩ : ByteArray) ++ P).size + 2 := by omega
  have n4 : ¬ 9223372036854775807 < 1 + P.size + 2 + 1 := by omega
  have hP2 : (((⟨#[123]⟩ : ByteArray) ++ P) ++ (⟨#[44, 125]⟩ : ByteArray)).size = 1 + P.size + 2 := by rw [ByteArray.size_append, hP]; rfl
  have n5 : ¬ 9223372036854775807 < (((⟨#[123]⟩ : ByteArray) ++ P) ++ (⟨#[44, 125]⟩ : ByteArray)).size + 1 := by omega
  clear hP hP2 hPn
  go_enter Tryd.func25, Tryd.ntmps25
  go_wp2_with fail
  refine (HNP.out _).mono ?_
  rintro e w' ⟨rfl, hb⟩
  have HB : Hid (Below W.heap.size W w') := Lib.hid (((Below.refl W.heap.size W).alloc (Nat.le_refl _) _).trans (hb.mono (by simp)))
  have q6 := hb.cell (p := ⟨W.heap.size, 6, none⟩) (by simp)
  have q6 : w'.cell? ⟨W.heap.size, 6, none⟩ = some (.bool true) := by rw [q6]; simp
  clear hb
  go_wp2
  go_ret
  exact ⟨_, rfl, times_lazy HC.out, HB.out⟩
set_option maxRecDepth 100000 in
set_option maxHeartbeats 4000000 in
theorem tm_i_false (W : World) (vs : Value) (a : Option Addr) (cap N : Nat) (K M : Int) (S : ByteArray) (x : Int) (x0 : ¬ x = 0) (x1 : ¬ x = 1) (h2 : 0 ≤ x ∧ x ≤ 1000) : Calls Tryd.prog 25 #[.agg #[.int .i64 K, vs, .int .i64 M, .string S, .int .i64 x, .int .i64 x, .bool false, .slice a N cap]] W (TimesQ W x x false) := by
  obtain ⟨P, hPz, hPn, HNP⟩ := num_text x (by omega) (by omega)
  have HNP := Lib.hid HNP
  have HC : Hid (Utf.nums (((⟨#[123]⟩ : ByteArray) ++ P) ++ (⟨#[125]⟩ : ByteArray)) = Sh.countL x x) := Lib.hid (by
    rw [Br.nums_append', Br.nums_append', hPn]
    unfold Sh.countL
    rw [if_neg (fun h => x0 h.1), if_neg (fun h => x1 h.1), if_neg (fun h => x0 h.1), if_pos rfl]
    rfl)
  have n1 : ¬ 9223372036854775807 < 1 + P.size := by omega
  have n2 : ¬ 9223372036854775807 < 1 + P.size + 1 := by omega
  have hP : ((⟨#[123]⟩ : ByteArray) ++ P).size = 1 + P.size := ByteArray.size_append ..
  have n3 : ¬ 9223372036854775807 < ((⟨#[123]⟩ : ByteArray) ++ P).size + 1 := by omega
  have n4 : ¬ 9223372036854775807 < 1 + P.size + 1 + 1 := by omega
  have hP2 : (((⟨#[123]⟩ : ByteArray) ++ P) ++ (⟨#[125]⟩ : ByteArray)).size = 1 + P.size + 1 := by rw [ByteArray.size_append, hP]; rfl
  have n5 : ¬ 9223372036854775807 < (((⟨#[123]⟩ : ByteArray) ++ P) ++ (⟨#[125]⟩ : ByteArray)).size + 1 := by omega
  clear hP hP2 hPn
  go_enter Tryd.func25, Tryd.ntmps25
  go_wp2_with fail
  refine (HNP.out _).mono ?_
  rintro e w' ⟨rfl, hb⟩
  have HB : Hid (Below W.heap.size W w') := Lib.hid (((Below.refl W.heap.size W).alloc (Nat.le_refl _) _).trans (hb.mono (by simp)))
  have q6 := hb.cell (p := ⟨W.heap.size, 6, none⟩) (by simp)
  have q6 : w'.cell? ⟨W.heap.size, 6, none⟩ = some (.bool false) := by rw [q6]; simp
  clear hb
  go_wp2
  go_ret
  exact ⟨_, rfl, times_plain HC.out, HB.out⟩
set_option maxRecDepth 100000 in
set_option maxHeartbeats 4000000 in
theorem tm_i_true (W : World) (vs : Value) (a : Option Addr) (cap N : Nat) (K M : Int) (S : ByteArray) (x : Int) (x0 : ¬ x = 0) (x1 : ¬ x = 1) (h2 : 0 ≤ x ∧ x ≤ 1000) : Calls Tryd.prog 25 #[.agg #[.int .i64 K, vs, .int .i64 M, .string S, .int .i64 x, .int .i64 x, .bool true, .slice a N cap]] W (TimesQ W x x true) := by
  obtain ⟨P, hPz, hPn, HNP⟩ := num_text x (by omega) (by omega)
  have HNP := Lib.hid HNP
  have HC : Hid (Utf.nums (((⟨#[123]⟩ : ByteArray) ++ P) ++ (⟨#[125]⟩ : ByteArray)) = Sh.countL x x) := Lib.hid (by
    rw [Br.nums_append', Br.nums_append', hPn]
    unfold Sh.countL
    rw [if_neg (fun h => x0 h.1), if_neg (fun h => x1 h.1), if_neg (fun h => x0 h.1), if_pos rfl]
    rfl)
  have n1 : ¬ 9223372036854775807 < 1 + P.size := by omega
  have n2 : ¬ 9223372036854775807 < 1 + P.size + 1 := by omega
  have hP : ((⟨#[123]⟩ : ByteArray) ++ P).size = 1 + P.size := ByteArray.size_append ..
  have n3 : ¬ 9223372036854775807 < ((⟨#[123]⟩ : ByteArray) ++ P).size + 1 := by omega
  have n4 : ¬ 9223372036854775807 < 1 + P.size + 1 + 1 := by omega
  have hP2 : (((⟨#[123]⟩ : ByteArray) ++ P) ++ (⟨#[125]⟩ : ByteArray)).size = 1 + P.size + 1 := by rw [ByteArray.size_append, hP]; rfl
  have n5 : ¬ 9223372036854775807 < (((⟨#[123]⟩ : ByteArray) ++ P) ++ (⟨#[125]⟩ : ByteArray)).size + 1 := by omega
  clear hP hP2 hPn
  go_enter Tryd.func25, Tryd.ntmps25
  go_wp2_with fail
  refine (HNP.out _).mono ?_
  rintro e w' ⟨rfl, hb⟩
  have HB : Hid (Below W.heap.size W w') := Lib.hid (((Below.refl W.heap.size W).alloc (Nat.le_refl _) _).trans (hb.mono (by simp)))
  have q6 := hb.cell (p := ⟨W.heap.size, 6, none⟩) (by simp)
  have q6 : w'.cell? ⟨W.heap.size, 6, none⟩ = some (.bool true) := by rw [q6]; simp
  clear hb
  go_wp2
  go_ret
  exact ⟨_, rfl, times_lazy HC.out, HB.out⟩
set_option maxRecDepth 100000 in
set_option maxHeartbeats 4000000 in
theorem tm_j_false (W : World) (vs : Value) (a : Option Addr) (cap N : Nat) (K M : Int) (S : ByteArray) (x y : Int) (x0 : ¬ x = 0) (x1 : ¬ x = 1) (y1 : ¬ y = -1) (y2 : ¬ y = x) (y4 : ¬ x = y) (h1 : 0 ≤ x ∧ x ≤ 1000) (h2 : 0 ≤ y ∧ y ≤ 1000) : Calls Tryd.prog 25 #[.agg #[.int .i64 K, vs, .int .i64 M, .string S, .int .i64 x, .int .i64 y, .bool false, .slice a N cap]] W (TimesQ W x y false) := by
  have mixed : Tryd.prog.follows .mixedOrders = true := by kernel_rfl
  obtain ⟨f, hf, HNF⟩ := num_fun
  have HNF := Lib.hid HNF
  obtain ⟨hPz, hPn⟩ := hf x (by omega) (by omega)
  obtain ⟨hQz, hQn⟩ := hf y (by omega) (by omega)
  have BX : Hid (0 ≤ (x : Int) ∧ (x : Int) ≤ 1000) := Lib.hid (by omega)
  have BY : Hid (0 ≤ (y : Int) ∧ (y : Int) ≤ 1000) := Lib.hid (by omega)
  clear hf
  have HC : Hid (Utf.nums (((((⟨#[123]⟩ : ByteArray) ++ f (x)) ++ (⟨#[44]⟩ : ByteArray)) ++ f (y)) ++ (⟨#[125]⟩ : ByteArray)) = Sh.countL x y) := Lib.hid (by
    rw [Br.nums_append', Br.nums_append', Br.nums_append', Br.nums_append', hPn, hQn]
    unfold Sh.countL
    rw [if_neg (fun h => x0 h.1), if_neg (fun h => x1 h.1), if_neg (fun h => x0 h.1), if_neg y2, if_neg y1]
    show [123] ++ Lx.decL _ ++ [44] ++ Lx.decL _ ++ [125] = _
    simp)
  have r0 : ¬ 9223372036854775807 < 1 + (f (x)).size := by omega
  have r1 : ¬ 9223372036854775807 < 1 + (f (x)).size + 1 := by omega
  have r2 : ¬ 9223372036854775807 < 1 + (f (x)).size + 1 + (f (y)).size := by omega
  have r3 : ¬ 9223372036854775807 < 1 + (f (x)).size + 1 + (f (y)).size + 1 := by omega
  have r4 : ¬ 9223372036854775807 < 1 + (f (x)).size + 1 + (f (y)).size + 1 + 1 := by omega
  have hz : (((((⟨#[123]⟩ : ByteArray) ++ f (x)) ++ (⟨#[44]⟩ : ByteArray)) ++ f (y)) ++ (⟨#[125]⟩ : ByteArray)).size = 1 + (f (x)).size + 1 + (f (y)).size + 1 := by rw [ByteArray.size_append, ByteArray.size_append, ByteArray.size_append, ByteArray.size_append]; rfl
  have r9 : ¬ 9223372036854775807 < (((((⟨#[123]⟩ : ByteArray) ++ f (x)) ++ (⟨#[44]⟩ : ByteArray)) ++ f (y)) ++ (⟨#[125]⟩ : ByteArray)).size + 1 := by omega
  clear hQn hPn hz
  go_enter Tryd.func25, Tryd.ntmps25
  go_wp2
  obtain ⟨wx, hwx⟩ : ∃ wx, W.alloc (.cells #[.int .i64 K, vs, .int .i64 M, .string S, .int .i64 x, .int .i64 y, .bool false, .slice a N cap] 25) = wx := ⟨_, rfl⟩
  have HBX : Hid (Below W.heap.size W wx) := Lib.hid (by rw [← hwx]; exact (Below.refl _ _).alloc (Nat.le_refl _) _)
  have g9 : W.heap.size < wx.heap.size := by rw [← hwx]; simp
  have q4 : wx.cell? ⟨W.heap.size, 4, none⟩ = some (.int .i64 x) := by rw [← hwx]; simp
  have q5 : wx.cell? ⟨W.heap.size, 5, none⟩ = some (.int .i64 y) := by rw [← hwx]; simp
  have q6 : wx.cell? ⟨W.heap.size, 6, none⟩ = some (.bool false) := by rw [← hwx]; simp
  rw [hwx]
  clear hwx
  obtain ⟨g, hg⟩ : ∃ g, W.heap.size = g := ⟨_, rfl⟩
  rw [hg] at q4 q5 q6 g9 ⊢
  rw [hg] at HBX
  have p4 := fun p => cell_grownTo (w := wx) (a := ⟨g, 4, none⟩) g9 q4 p
  have p5 := fun p => cell_grownTo (w := wx) (a := ⟨g, 5, none⟩) g9 q5 p
  have p6 := fun p => cell_grownTo (w := wx) (a := ⟨g, 6, none⟩) g9 q6 p
  have HQ6 := Lib.hid q6
  clear q4 q5 q6
  refine wp_region_quiet_below mixed (by kernel_rfl) ?_
  repeat (quiet_step (first | (go_at_call 43; exact calls_grownTo (HNF.out _ _ (by assumption)))))
  refine wpQuiet_nil ?_
  intro _ hw'
  obtain ⟨⟨wz, hbz⟩, hw''⟩ := hw'
  subst hw''
  have hz6 := (hbz.cell (p := ⟨g, 6, none⟩) g9).trans HQ6.out
  have HBZ := Lib.hid (HBX.out.trans (hbz.mono (by omega)))
  have HG := Lib.hid hg
  clear hbz p4 p5 p6 hg
  go_wp2
  go_ret
  exact ⟨_, rfl, times_plain HC.out, by rw [HG.out]; exact HBZ.out⟩
set_option maxRecDepth 100000 in
set_option maxHeartbeats 4000000 in
theorem tm_j_true (W : World) (vs : Value) (a : Option Addr) (cap N : Nat) (K M : Int) (S : ByteArray) (x y : Int) (x0 : ¬ x = 0) (x1 : ¬ x = 1) (y1 : ¬ y = -1) (y2 : ¬ y = x) (y4 : ¬ x = y) (h1 : 0 ≤ x ∧ x ≤ 1000) (h2 : 0 ≤ y ∧ y ≤ 1000) : Calls Tryd.prog 25 #[.agg #[.int .i64 K, vs, .int .i64 M, .string S, .int .i64 x, .int .i64 y, .bool true, .slice a N cap]] W (TimesQ W x y true) := by
  have mixed : Tryd.prog.follows .mixedOrders = true := by kernel_rfl
  obtain ⟨f, hf, HNF⟩ := num_fun
  have HNF := Lib.hid HNF
  obtain ⟨hPz, hPn⟩ := hf x (by omega) (by omega)
  obtain ⟨hQz, hQn⟩ := hf y (by omega) (by omega)
  have BX : Hid (0 ≤ (x : Int) ∧ (x : Int) ≤ 1000) := Lib.hid (by omega)
  have BY : Hid (0 ≤ (y : Int) ∧ (y : Int) ≤ 1000) := Lib.hid (by omega)
  clear hf
  have HC : Hid (Utf.nums (((((⟨#[123]⟩ : ByteArray) ++ f (x)) ++ (⟨#[44]⟩ : ByteArray)) ++ f (y)) ++ (⟨#[125]⟩ : ByteArray)) = Sh.countL x y) := Lib.hid (by
    rw [Br.nums_append', Br.nums_append', Br.nums_append', Br.nums_append', hPn, hQn]
    unfold Sh.countL
    rw [if_neg (fun h => x0 h.1), if_neg (fun h => x1 h.1), if_neg (fun h => x0 h.1), if_neg y2, if_neg y1]
    show [123] ++ Lx.decL _ ++ [44] ++ Lx.decL _ ++ [125] = _
    simp)
  have r0 : ¬ 9223372036854775807 < 1 + (f (x)).size := by omega
  have r1 : ¬ 9223372036854775807 < 1 + (f (x)).size + 1 := by omega
  have r2 : ¬ 9223372036854775807 < 1 + (f (x)).size + 1 + (f (y)).size := by omega
  have r3 : ¬ 9223372036854775807 < 1 + (f (x)).size + 1 + (f (y)).size + 1 := by omega
  have r4 : ¬ 9223372036854775807 < 1 + (f (x)).size + 1 + (f (y)).size + 1 + 1 := by omega
  have hz : (((((⟨#[123]⟩ : ByteArray) ++ f (x)) ++ (⟨#[44]⟩ : ByteArray)) ++ f (y)) ++ (⟨#[125]⟩ : ByteArray)).size = 1 + (f (x)).size + 1 + (f (y)).size + 1 := by rw [ByteArray.size_append, ByteArray.size_append, ByteArray.size_append, ByteArray.size_append]; rfl
  have r9 : ¬ 9223372036854775807 < (((((⟨#[123]⟩ : ByteArray) ++ f (x)) ++ (⟨#[44]⟩ : ByteArray)) ++ f (y)) ++ (⟨#[125]⟩ : ByteArray)).size + 1 := by omega
  clear hQn hPn hz
  go_enter Tryd.func25, Tryd.ntmps25
  go_wp2
  obtain ⟨wx, hwx⟩ : ∃ wx, W.alloc (.cells #[.int .i64 K, vs, .int .i64 M, .string S, .int .i64 x, .int .i64 y, .bool true, .slice a N cap] 25) = wx := ⟨_, rfl⟩
  have HBX : Hid (Below W.heap.size W wx) := Lib.hid (by rw [← hwx]; exact (Below.refl _ _).alloc (Nat.le_refl _) _)
  have g9 : W.heap.size < wx.heap.size := by rw [← hwx]; simp
  have q4 : wx.cell? ⟨W.heap.size, 4, none⟩ = some (.int .i64 x) := by rw [← hwx]; simp
  have q5 : wx.cell? ⟨W.heap.size, 5, none⟩ = some (.int .i64 y) := by rw [← hwx]; simp
  have q6 : wx.cell? ⟨W.heap.size, 6, none⟩ = some (.bool true) := by rw [← hwx]; simp
  rw [hwx]
  clear hwx
  obtain ⟨g, hg⟩ : ∃ g, W.heap.size = g := ⟨_, rfl⟩
  rw [hg] at q4 q5 q6 g9 ⊢
  rw [hg] at HBX
  have p4 := fun p => cell_grownTo (w := wx) (a := ⟨g, 4, none⟩) g9 q4 p
  have p5 := fun p => cell_grownTo (w := wx) (a := ⟨g, 5, none⟩) g9 q5 p
  have p6 := fun p => cell_grownTo (w := wx) (a := ⟨g, 6, none⟩) g9 q6 p
  have HQ6 := Lib.hid q6
  clear q4 q5 q6
  refine wp_region_quiet_below mixed (by kernel_rfl) ?_
  repeat (quiet_step (first | (go_at_call 43; exact calls_grownTo (HNF.out _ _ (by assumption)))))
  refine wpQuiet_nil ?_
  intro _ hw'
  obtain ⟨⟨wz, hbz⟩, hw''⟩ := hw'
  subst hw''
  have hz6 := (hbz.cell (p := ⟨g, 6, none⟩) g9).trans HQ6.out
  have HBZ := Lib.hid (HBX.out.trans (hbz.mono (by omega)))
  have HG := Lib.hid hg
  clear hbz p4 p5 p6 hg
  go_wp2
  go_ret
  exact ⟨_, rfl, times_lazy HC.out, by rw [HG.out]; exact HBZ.out⟩
theorem timesR_any (W : World) (n : Nd) (cs : List Value) (hn : NdIs W n cs) (hb : 0 ≤ Td.mn n ∧ Td.mn n ≤ 1000 ∧ (Td.mx n = -1 ∨ Td.mn n ≤ Td.mx n ∧ Td.mx n ≤ 1000)) :
    Calls Tryd.prog 25 #[.agg cs.toArray] W (TimesQ W (Td.mn n) (Td.mx n) (Td.lazy n)) := by
  obtain ⟨vs, a, cap, C, hC⟩ := hn.cells
  have hcs := hC.eq
  subst hcs
  obtain ⟨N, hN⟩ : ∃ N, (Td.subs n).length = N := ⟨_, rfl⟩
  rw [hN]
  obtain ⟨x, hmn⟩ : ∃ x, Td.mn n = x := ⟨_, rfl⟩
  obtain ⟨y, hmx⟩ : ∃ y, Td.mx n = y := ⟨_, rfl⟩
  obtain ⟨lz, hlz⟩ : ∃ lz, Td.lazy n = lz := ⟨_, rfl⟩
  obtain ⟨K, hK⟩ : ∃ K, Td.kind n = K := ⟨_, rfl⟩
  obtain ⟨M, hM⟩ : ∃ M, Td.num n = M := ⟨_, rfl⟩
  obtain ⟨S, hS⟩ : ∃ S, Td.name n = S := ⟨_, rfl⟩
  rw [hmn, hmx, hlz, hK, hM, hS]
  rw [hmn, hmx] at hb
  clear hC hn hN hmn hmx hlz hK hM hS
  obtain ⟨h0, h1, h2⟩ := hb
  by_cases x0 : x = 0
  · subst x0
    by_cases y1 : y = -1
    · subst y1; cases lz; exact tm_a_false W vs a cap N K M S; exact tm_a_true W vs a cap N K M S
    by_cases y2 : y = 1
    · subst y2; cases lz; exact tm_c_false W vs a cap N K M S; exact tm_c_true W vs a cap N K M S
    by_cases y3 : y = 0
    · subst y3; cases lz; exact tm_d_false W vs a cap N K M S; exact tm_d_true W vs a cap N K M S
    have y4 : ¬ 0 = y := fun e => y3 e.symm
    cases lz
    · exact tm_e_false W vs a cap N K M S y y1 y2 y3 y4 (by omega)
    · exact tm_e_true W vs a cap N K M S y y1 y2 y3 y4 (by omega)
  by_cases x1 : x = 1
  · subst x1
    by_cases y1 : y = -1
    · subst y1; cases lz; exact tm_b_false W vs a cap N K M S; exact tm_b_true W vs a cap N K M S
    by_cases y2 : y = 1
    · subst y2; cases lz; exact tm_f_false W vs a cap N K M S; exact tm_f_true W vs a cap N K M S
    have y4 : ¬ 1 = y := fun e => y2 e.symm
    cases lz
    · exact tm_g_false W vs a cap N K M S y y1 y2 y4 (by omega)
    · exact tm_g_true W vs a cap N K M S y y1 y2 y4 (by omega)
  by_cases y1 : y = -1
  · subst y1
    have xm : ¬ x = -1 := by omega
    cases lz
    · exact tm_h_false W vs a cap N K M S x x0 x1 xm (by omega)
    · exact tm_h_true W vs a cap N K M S x x0 x1 xm (by omega)
  by_cases y2 : y = x
  · subst y2
    cases lz
    · exact tm_i_false W vs a cap N K M S y x0 x1 (by omega)
    · exact tm_i_true W vs a cap N K M S y x0 x1 (by omega)
  have y4 : ¬ x = y := fun e => y2 e.symm
  cases lz
  · exact tm_j_false W vs a cap N K M S x y x0 x1 y1 y2 y4 (by omega) (by omega)
  · exact tm_j_true W vs a cap N K M S x y x0 x1 y1 y2 y4 (by omega) (by omega)
end Go.Proofs.YtecmeeobabadeaaDoor
