/- A region that draws its order, whose operations only read and whose callees make memory of their own: walked once, in the class of the worlds that have turned nothing old. · The reference's prog (burinref14): Num. -/
import Derived.Test.YtfnimmbmcjgdpaaDoorGp3
import Derived.Deep.QuietTactic
import Derived.Test.YtfnimmbmcjgdpaaDoorGp12
import Derived.Test.YtfnimmbmcjgdpaaDoorGp16
namespace Go.Proofs.YtfnimmbmcjgdpaaDoor
open Go.RowKit
set_option linter.unusedVariables false
/-- A world that has turned nothing of w's. -/
structure GrownTo (w : World) where
  W' : World
  h : Below w.heap.size w W'
instance grownToSome (w : World) : Inhabited (GrownTo w) := ⟨⟨w, Below.refl _ _⟩⟩
theorem wp_region_quiet_below {P : Program} {id : Nat} {Q : Exit → Act → World → Prop} {a : Act} {w : World} {l : List Oper} (hm : P.follows .mixedOrders = true) (hB : Region.lexB .any l.toArray = true)
    (h : wpQuiet P l.toArray (fun w' => ∃ p : GrownTo w, w' = p.W') (fun a' => ∀ w', (∃ p : GrownTo w, w' = p.W') → Q .normal a' w') l a) : (Code.region id l.toArray true).wp P Q a w :=
  wp_region_quiet (C := fun w' => ∃ p : GrownTo w, w' = p.W') hm hB ⟨⟨w.drew, below_drewNr (Below.refl _ _) 1⟩, rfl⟩ (by simpa using h)
theorem calls_grownTo {P : Program} {f : FuncId} {args : Array Value} {w : World} {p : GrownTo w} {v : Value}
    (h : Calls P f args p.W' fun e w' => e = .returned v ∧ Below p.W'.heap.size p.W' w') : Calls P f args p.W' fun e w'' => e = .returned v ∧ ∃ p' : GrownTo w, w'' = p'.W' :=
  h.mono fun _ w' ⟨he, hb⟩ => ⟨he, ⟨w', p.h.trans (hb.mono p.h.size)⟩, rfl⟩
theorem cell_grownTo {w : World} {a : Addr} {v : Value} (hb : a.block < w.heap.size) (h : w.cell? a = some v) (p : GrownTo w) : p.W'.cell? a = some v :=
  (p.h.cell hb).trans h
end Go.Proofs.YtfnimmbmcjgdpaaDoor
namespace Go.Proofs.YtfnimmbmcjgdpaaDoor
open Go.RowKit
set_option linter.unusedVariables false
namespace Pgm
theorem one_txt14 (w : World) (g cap : Nat) (c : UInt8) (z : Int) (hz : (c.toNat : Int) = z) (hc : w.cell? ⟨g, 0, none⟩ = some (.int .u8 z)) : (convert 55 9 (.slice (some ⟨g, 0, none⟩) 1 cap)).run Tryd.prog w = .ok (.string (txB [c])) w := by
  subst hz
  have h9 := run_convert_bytes_back (P := Tryd.prog) w 55 9 5 ⟨g, 0, none⟩ cap [c] (by kernel_rfl) (by kernel_rfl) (by kernel_rfl) (fun j hj => by
    have e : j = 0 := by simpa using hj
    subst e
    rw [Addr.add_lit]
    exact hc)
  exact h9
theorem txB_app14 (a b : List UInt8) : txB a ++ txB b = txB (a ++ b) := by
  apply ByteArray.ext
  show (txB a ++ txB b).data = (txB (a ++ b)).data
  rw [ByteArray.data_append]
  simp [txB]
set_option maxRecDepth 100000 in
set_option maxHeartbeats 4000000 in
theorem num14_nat (n : Nat) : n < 1000000 → ∀ W : World, Calls Tryd.prog 79 #[.int .i64 (n : Int)] W fun e w' => e = .returned (.string (txB (Lib.decDigits n))) ∧ Below W.heap.size W w' := by
  induction n using Nat.strongRecOn with
  | _ n ih =>
    intro hn W
    obtain ⟨d, hd⟩ : ∃ d : Nat, n % 10 = d := ⟨_, rfl⟩
    obtain ⟨m, hm⟩ : ∃ m : Nat, n / 10 = m := ⟨_, rfl⟩
    have hrem : (n : Int).tmod 10 = (d : Int) := by rw [← hd, Int.tmod_eq_emod_of_nonneg (by omega)]; rfl
    have hquo : (n : Int).tdiv 10 = (m : Int) := by rw [← hm, Int.tdiv_eq_ediv_of_nonneg (by omega)]; rfl
    have hq2 : IntKind.i64.wrap ((n : Int).tdiv 10) = (m : Int) := by rw [hquo, IntKind.wrap_i64]; omega
    have hdiv : (n : Int) / 10 = (m : Int) := by rw [← hm]; rfl
    have e0 : IntKind.i64.wrap (48 + (d : Int)) = 48 + (d : Int) := by rw [IntKind.wrap_i64]; omega
    have e1 : IntKind.u8.wrap (48 + (d : Int)) = 48 + (d : Int) := by rw [IntKind.wrap_u8]; omega
    have hz : ((UInt8.ofNat (48 + d)).toNat : Int) = 48 + (d : Int) := by rw [UInt8.toNat_ofNat']; omega
    obtain ⟨W1, hW1⟩ : ∃ W1, W.alloc (.cells #[.int .u8 (48 + (d : Int))] 5) = W1 := ⟨_, rfl⟩
    have hx1 : W1.heap[W.heap.size]? = some (.cells #[.int .u8 (48 + (d : Int))] 5 (0, 0)) := by rw [← hW1]; exact heap_alloc_new W _
    have HB1 : Hid (Below W.heap.size W W1) := Lib.hid (by rw [← hW1]; exact (Below.refl _ _).alloc (Nat.le_refl _) _)
    have hcv := one_txt14 W1 W.heap.size 1 (UInt8.ofNat (48 + d)) _ hz (blkp hx1 0)
    by_cases hlt : n < 10
    · have hdn : Lib.decDigits n = [UInt8.ofNat (48 + d)] := by rw [Lib.decDigits, dif_pos hlt]; congr 2; omega
      rw [hdn]
      obtain ⟨T, hT⟩ : ∃ T, txB [UInt8.ofNat (48 + d)] = T := ⟨_, rfl⟩
      rw [hT] at hcv ⊢
      have hlt' : (n : Int) < 10 := by omega
      clear ih hd hm hquo hq2 hz hx1 hdn hT
      go_enter Tryd.func79, Tryd.ntmps79
      go_wp2
      go_ret
      exact ⟨rfl, HB1.out⟩
    · have hdn : Lib.decDigits n = Lib.decDigits m ++ [UInt8.ofNat (48 + d)] := by rw [Lib.decDigits, dif_neg hlt, hm, hd]
      have hlen := digits_len m (by omega)
      have HIH := Lib.hid (ih m (by omega) (by omega) W1)
      rw [hdn]
      have hap := txB_app14 (Lib.decDigits m) [UInt8.ofNat (48 + d)]
      have hs1 : (txB [UInt8.ofNat (48 + d)]).size = 1 := by rw [txB_size]; rfl
      have hs2 : (txB (Lib.decDigits m)).size ≤ 6 := by rw [txB_size]; exact hlen
      obtain ⟨T, hT⟩ : ∃ T, txB [UInt8.ofNat (48 + d)] = T := ⟨_, rfl⟩
      obtain ⟨U, hU⟩ : ∃ U, txB (Lib.decDigits m) = U := ⟨_, rfl⟩
      rw [hT] at hcv hap hs1
      rw [hU] at HIH hap hs2
      rw [← hap]
      have hlt' : ¬ (n : Int) < 10 := by omega
      have nv : ¬ 9223372036854775807 < U.size + T.size := by omega
      have nv2 : ¬ 9223372036854775807 < U.size + 1 := by omega
      clear ih hd hm hquo hz hx1 hdn hT hU hap hlen
      go_enter Tryd.func79, Tryd.ntmps79
      go_wp2_with fail
      refine HIH.out.mono ?_
      rintro e w2 ⟨rfl, hb2⟩
      have HB2 := Lib.hid (HB1.out.trans (hb2.mono HB1.out.size))
      clear hb2 hcv
      go_wp2
      go_ret
      exact ⟨rfl, HB2.out⟩
theorem num14_fun : ∃ f : Int → ByteArray, (∀ z, f z = txB (Lib.itoa z)) ∧ (∀ z, 0 ≤ z → z < 10000 → (f z).size ≤ 6) ∧ ∀ (z : Int) w, Hid (0 ≤ z ∧ z < 10000) → Calls Tryd.prog 79 #[.int .i64 z] w fun e w' => e = .returned (.string (f z)) ∧ Below w.heap.size w w' :=
  ⟨fun z => txB (Lib.itoa z), fun z => rfl, fun z h0 h1 => by dsimp only; rw [txB_size]; exact (itoa_len h0 (by omega)).2, fun z w h => by
    obtain ⟨n, rfl⟩ : ∃ n : Nat, z = (n : Int) := ⟨z.toNat, by have := h.out; omega⟩
    dsimp only
    rw [itoa_nat (by omega), Int.toNat_natCast]
    exact num14_nat n (by have := h.out; omega) w⟩
end Pgm
end Go.Proofs.YtfnimmbmcjgdpaaDoor
