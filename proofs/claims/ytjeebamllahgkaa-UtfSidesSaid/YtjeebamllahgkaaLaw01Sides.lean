/- The walk of burinlaw01.UtfSides. -/
import Derived.Test.YtjeebamllahgkaaLaw01Pieces
import Derived.Test.YtjeebamllahgkaaUtfSidesM
namespace Go.Proofs.Ytjeebamllahgkaa
open Go.RowKit
set_option linter.unusedVariables false
set_option maxRecDepth 100000 in
set_option maxHeartbeats 1000000 in
theorem sidesLong (s : ByteArray) (h : 300 < s.size) (w : World) :
    Calls Try.prog 7 #[.string s] w fun e w' => e = .returned (.bool true) ∧ Below w.heap.size w w' := by
  go_enter Try.func7, Try.ntmps7
  go_wp2_with fail
  refine (works_any _).mono ?_
  rintro e wa ⟨rfl, hba⟩
  go_wp2
  go_ret
  exact ⟨rfl, hba⟩
/-- One step from behind, as the loop wants it. -/
def Bnd (l : List Int) (c : Nat) (B : Nat → Nat) : Prop := ∀ i, i < c → Utf.bf l (B (i + 1)) = B (i + 1) - B i ∧ B i < B (i + 1) ∧ B (i + 1) ≤ l.length
theorem bnd_of {l : List Int} (hb : Utf.Bytes l) : ∃ B : Nat → Nat, Bnd l (Utf.pieces l).length B ∧ B 0 = 0 ∧ B (Utf.pieces l).length = l.length ∧ ∀ i, i < (Utf.pieces l).length → ((Utf.pieces l).map Prod.fst)[i]?.getD 0 = (B i : Int) := by
  have h := Utf.bounds_pieces hb
  obtain ⟨L, hL⟩ : ∃ L, (Utf.pieces l).map Prod.fst ++ [(l.length : Int)] = L := ⟨_, rfl⟩
  rw [hL] at h
  have hlen : ((Utf.pieces l).map Prod.fst).length = (Utf.pieces l).length := List.length_map ..
  refine ⟨fun i => (L[i]?.getD 0).toNat, fun i hi => ?_, ?_, ?_, fun i hi => ?_⟩
  · obtain ⟨a, m, h1, h2, h3, h4, h5⟩ := h.2 i hi
    simp only [h1, h2]
    simp only [Int.toNat_natCast]
    exact ⟨by rw [h3]; omega, by omega, h5⟩
  · simp only [h.1]; rfl
  · show (L[(Utf.pieces l).length]?.getD 0).toNat = l.length
    rw [← hL, List.getElem?_append_right (by omega), hlen]; simp
  · obtain ⟨a, m, h1, _⟩ := h.2 i hi
    have e : L[i]? = ((Utf.pieces l).map Prod.fst)[i]? := by rw [← hL, List.getElem?_append_left (by omega)]
    show _ = (((L[i]?.getD 0).toNat : Nat) : Int)
    rw [← e, h1, Int.toNat_natCast]
set_option maxRecDepth 100000 in
set_option maxHeartbeats 2000000 in
theorem sidesShort (s : ByteArray) (hs : s.size ≤ 300) (w : World) :
    Calls Try.prog 7 #[.string s] w fun e w' => e = .returned (.bool true) ∧ Below w.heap.size w w' := by
  have hmx : s.size ≤ maxLen := by unfold maxLen; omega
  have hb := Utf.nums_bytes s
  have hpl := Utf.pieces_length (Utf.nums s) hb
  rw [Utf.nums_length] at hpl
  have hct := fun w => count_any s hmx w
  have hp := pieces_any s hs 301
  have htk : (Utf.pieces (Utf.nums s)).take ((301 : Int).toNat) = Utf.pieces (Utf.nums s) := List.take_of_length_le (by show _ ≤ 301; omega)
  rw [htk] at hp
  obtain ⟨B, hB, hB0, hBc, hBp⟩ := bnd_of hb
  obtain ⟨l, hl⟩ : ∃ l, Utf.pieces (Utf.nums s) = l := ⟨_, rfl⟩
  rw [hl] at hpl hct hp hB hBc hBp
  rw [Utf.nums_length] at hBc
  obtain ⟨c, hc⟩ : ∃ c, l.length = c := ⟨_, rfl⟩
  rw [hc] at hct hpl hB hBc hBp
  have hbf : ∀ i, i < c → ∀ w, Calls Try.prog 22 #[.string s, .int .i64 (B (i + 1))] w fun e w' => e = .returned (.int .i64 ((B (i + 1) : Int) - B i)) ∧ ∃ n, w' = w.drewN n := by
    intro i hi w
    obtain ⟨h1, h2, h3⟩ := hB i hi
    rw [Utf.nums_length] at h3
    refine (before_in s hmx (B (i + 1)) (by omega) h3 w).mono fun e w' ⟨he, hw⟩ => ⟨he.trans (ret_int ?_), hw⟩
    rw [h1]; omega
  have hmono : ∀ i, i < c → B i < B (i + 1) ∧ B (i + 1) ≤ 300 := fun i hi => by have := hB i hi; rw [Utf.nums_length] at this; omega
  have HP := Lib.hid hp
  have HCT := Lib.hid hct
  have HBF := Lib.hid hbf
  have HMO := Lib.hid hmono
  have HB0 := Lib.hid hB0
  have HBC := Lib.hid hBc
  have HBP := Lib.hid hBp
  have HC := Lib.hid hc
  clear hp hct hbf hmono hB0 hBc hBp hc hB hl htk hb
  go_enter Try.func7, Try.ntmps7
  go_wp2_with fail
  refine (works_any _).mono ?_
  rintro e wa ⟨rfl, hba⟩
  go_wp2_with fail
  refine (HP.out _).mono ?_
  rintro e wb ⟨p1, p2, rfl, hTb, hBb⟩
  have hBb' := hba.trans (hBb.mono hba.size)
  have hI := (TwoRows.ints (n := 0) hTb).1.opened
  obtain ⟨a, cap, rfl, hcell⟩ := hI
  have hlm : (l.map Prod.fst).length = c := by rw [List.length_map]; exact HC.out
  rw [hlm] at hcell
  have HCE : Hid (∀ j, j < c → ∃ g, a = some ⟨g, 0, none⟩ ∧ wb.cell? ⟨g, j, none⟩ = some (.int .i64 (B j))) := Lib.hid (fun j hj => by
    obtain ⟨g, hg, hc⟩ := hcell j hj
    exact ⟨g, hg, by rw [hc, HBP.out j hj]⟩)
  rw [hlm]
  clear hTb hcell hlm
  have hd1 : decide ((300 : Int) < (s.size : Int)) = false := by simp; omega
  have hd2 : decide (300 < s.size) = false := by simp; omega
  rcases c with _ | c'
  · have hz : s.size = 0 := by rw [← HBC.out, HB0.out]
    have hz' : ((s.size : Int) == 0) = true := by rw [hz]; rfl
    have HZ := Lib.hid hz
    clear hz
    go_wp2
    go_loopw [2, 5, 6, 7] (fun r A I n wr => A = .int .i64 (s.size : Int) ∧ I = .int .i64 (-1) ∧ wr = wb) (fun _ _ _ _ _ => 0)
    case atStart => exact ⟨rfl, rfl, rfl⟩
    case round =>
      obtain ⟨rfl, rfl, rfl⟩ := hrel
      go_wp2_with fail
      refine (HCT.out _).mono ?_
      rintro e wd ⟨rfl, hbd⟩
      have hBd := hBb'.trans (hbd.mono hBb'.size)
      go_wp2
      go_ret
      exact ⟨by simp, hBd⟩
  · go_wp2
    go_loopw [2, 5, 6, 7] (fun r A I n wr => ∃ k : Nat, k ≤ c' + 1 ∧ A = .int .i64 (B k : Int) ∧ ((k = 0 ∧ I = .int .i64 (-1)) ∨ ∃ j : Nat, k = j + 1 ∧ I = .int .i64 (j : Int)) ∧ ∃ d, wr = wb.drewN d) (fun _ _ I _ _ => (intOf I + 1).toNat)
    case atStart => exact ⟨c' + 1, Nat.le_refl _, by rw [HBC.out], .inr ⟨c', rfl, rfl⟩, 0, rfl⟩
    case round =>
      obtain ⟨k, hk, rfl, hI, d, rfl⟩ := hrel
      rcases hI with ⟨rfl, rfl⟩ | ⟨j, rfl, rfl⟩
      · have hz : ((B 0 : Int) == 0) = true := by rw [HB0.out]; rfl
        go_wp2_with fail
        refine (HCT.out _).mono ?_
        rintro e wd ⟨rfl, hbd⟩
        have hBd := (hBb'.trans (below_drewN wb d _)).trans (hbd.mono hBb'.size)
        go_wp2
        go_ret
        exact ⟨by simp, hBd⟩
      · obtain ⟨g, rfl, hcg⟩ := HCE.out j (by omega)
        have hcj : ∀ d', (wb.drewN d').cell? ⟨g, j, none⟩ = some (.int .i64 (B j)) := fun d' => hcg
        have hmo := HMO.out j (by omega)
        have hm1 : (B j : Int) < (B (j + 1) : Int) := by omega
        have hm2 : (B (j + 1) : Int) ≤ 300 := by omega
        have hjc : j < c' + 1 := by omega
        have HBJ := Lib.hid (HBF.out j hjc)
        clear hmo
        go_wp2_with fail
        refine (HBJ.out _).mono ?_
        rintro e wd ⟨rfl, d2, rfl⟩
        have hcj2 := hcj (d + d2)
        have hsub : ((B (j + 1) : Int) - ((B (j + 1) : Int) - (B j : Int))) = (B j : Int) := by omega
        clear hcj
        rcases j with _ | j'
        · have hm1' : (B 0 : Int) < (B 1 : Int) := hm1
          have hm2' : (B 1 : Int) ≤ 300 := hm2
          have hsub' : ((B 1 : Int) - ((B 1 : Int) - (B 0 : Int))) = (B 0 : Int) := hsub
          clear hm1 hm2 hsub
          go_wp2
          go_roundw
          case rel => exact ⟨0, by omega, rfl, .inl ⟨rfl, rfl⟩, _, rfl⟩
          case measure => simp [intOf]
        · go_wp2
          go_roundw
          case rel => exact ⟨j' + 1, by omega, rfl, .inr ⟨j', rfl, by go_num⟩, _, rfl⟩
          case measure => simp [intOf]; omega
theorem walkUtfSides (a0 : ByteArray) (c0 : a0.size ≤ 140737488351232) (w : World) :
    Calls Try.prog 7 #[.string a0] w fun e w' => e = .returned (.bool true) ∧ Below w.heap.size w w' := by
  by_cases h : 300 < a0.size
  · exact sidesLong a0 h w
  · exact sidesShort a0 (by omega) w
end Go.Proofs.Ytjeebamllahgkaa
