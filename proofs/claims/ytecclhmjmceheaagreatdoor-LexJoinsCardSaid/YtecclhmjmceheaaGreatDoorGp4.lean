/- The plain mathematics of case folding: pairs, what they join, families; no program. · Lists of ranges in memory; the contract of the reference's Has (burinref02). -/
import Derived.Test.YtecclhmjmceheaaGreatDoorRows
import Derived.Test.YtecclhmjmceheaaGreatDoorGp2
import Derived.WalkKit
import Derived.OwnWalk
import Derived.WalkLawsBesides
import Derived.WalkSpells
import Derived.Lib.Hide
import Derived.Deep.QuietTactic
import Derived.BigQuiet
namespace Go.Proofs.YtecclhmjmceheaaGreatDoor.Fd
set_option linter.unusedVariables false
def spanL (lo : Int) (up : Int) : Nat → List (Int × Int)
  | 0 => []
  | n + 1 => (lo, lo + up) :: spanL (lo + 1) up n
def lastP : List (Int × Int) := [(376, 255), (924, 181), (931, 962), (75, 8490), (197, 8491), (83, 383), (937, 8486)]
def pairsL : List (Int × Int) := spanL 65 32 26 ++ spanL 192 32 23 ++ spanL 216 32 7 ++ spanL 913 32 17 ++ spanL 931 32 9 ++ spanL 1040 32 32 ++ spanL 1024 80 16 ++ lastP
def joinB : List Int → Int → Bool
  | [], _ => false
  | x :: l, r => decide (x = r) || joinB l r
def insL : List Int → Int → List Int
  | [], r => [r]
  | x :: l, r => if x < r then x :: insL l r else r :: x :: l
def withL (l : List Int) (r : Int) : List Int := if joinB l r then l else insL l r
def step1 (l : List Int) (p : Int × Int) : List Int := if joinB l p.1 then withL l p.2 else l
def step2 (l : List Int) (p : Int × Int) : List Int := if joinB l p.2 then withL l p.1 else l
def pstep (l : List Int) (p : Int × Int) : List Int := step2 (step1 l p) p
def round1 (l : List Int) : List Int := pairsL.foldl pstep l
def famI (r : Int) : Nat → List Int
  | 0 => [r]
  | j + 1 => round1 (famI r j)
def fam (r : Int) : List Int := famI r 2
def members : List Int := pairsL.flatMap fun p => [p.1, p.2]
theorem joinB_iff : ∀ (l : List Int) (r : Int), joinB l r = true ↔ r ∈ l
  | [], r => by simp [joinB]
  | x :: l, r => by
    simp only [joinB, Bool.or_eq_true, decide_eq_true_eq, joinB_iff l r, List.mem_cons]
    exact ⟨fun h => h.imp Eq.symm id, fun h => h.imp Eq.symm id⟩
theorem pstep_none {r : Int} {p : Int × Int} (h1 : p.1 ≠ r) (h2 : p.2 ≠ r) : pstep [r] p = [r] := by
  have a1 : joinB [r] p.1 = false := by rw [Bool.eq_false_iff]; intro h; rw [joinB_iff] at h; simp at h; exact h1 h
  have a2 : joinB [r] p.2 = false := by rw [Bool.eq_false_iff]; intro h; rw [joinB_iff] at h; simp at h; exact h2 h
  unfold pstep step1 step2
  rw [a1]
  simp [a2]
theorem fold_none {r : Int} : ∀ l : List (Int × Int), (∀ p ∈ l, p.1 ≠ r ∧ p.2 ≠ r) → l.foldl pstep [r] = [r]
  | [], _ => rfl
  | p :: l, h => by
    rw [List.foldl_cons, pstep_none (h p (by simp)).1 (h p (by simp)).2]
    exact fold_none l (fun q hq => h q (by simp [hq]))
theorem round_none {r : Int} (h : r ∉ members) : round1 [r] = [r] :=
  fold_none pairsL (fun p hp => ⟨fun e => h (List.mem_flatMap.2 ⟨p, hp, by simp [e]⟩), fun e => h (List.mem_flatMap.2 ⟨p, hp, by simp [e]⟩)⟩)
theorem famI_none {r : Int} (h : r ∉ members) : ∀ j, famI r j = [r]
  | 0 => rfl
  | j + 1 => by rw [famI, famI_none h j, round_none h]
/-- The same, so written that it reckons fast. -/
def force (l : List Int) (k : List Int → List Int) : List Int :=
  match l with
  | [] => k []
  | [a] => k [a]
  | [a, b] => k [a, b]
  | [a, b, c] => k [a, b, c]
  | l => k l
theorem force_eq (l : List Int) (k : List Int → List Int) : force l k = k l := by
  unfold force; split <;> rfl
def roundF : List (Int × Int) → List Int → List Int
  | [], l => l
  | p :: ps, l => force (pstep l p) (roundF ps)
theorem roundF_eq : ∀ (ps : List (Int × Int)) (l : List Int), roundF ps l = ps.foldl pstep l
  | [], _ => rfl
  | p :: ps, l => by rw [roundF, force_eq, List.foldl_cons, roundF_eq ps]
def pairsE : List (Int × Int) := [(65, 97), (66, 98), (67, 99), (68, 100), (69, 101), (70, 102), (71, 103), (72, 104), (73, 105), (74, 106), (75, 107), (76, 108), (77, 109), (78, 110), (79, 111), (80, 112), (81, 113), (82, 114), (83, 115), (84, 116), (85, 117), (86, 118), (87, 119), (88, 120), (89, 121), (90, 122), (192, 224), (193, 225), (194, 226), (195, 227), (196, 228), (197, 229), (198, 230), (199, 231), (200, 232), (201, 233), (202, 234), (203, 235), (204, 236), (205, 237), (206, 238), (207, 239), (208, 240), (209, 241), (210, 242), (211, 243), (212, 244), (213, 245), (214, 246), (216, 248), (217, 249), (218, 250), (219, 251), (220, 252), (221, 253), (222, 254), (913, 945), (914, 946), (915, 947), (916, 948), (917, 949), (918, 950), (919, 951), (920, 952), (921, 953), (922, 954), (923, 955), (924, 956), (925, 957), (926, 958), (927, 959), (928, 960), (929, 961), (931, 963), (932, 964), (933, 965), (934, 966), (935, 967), (936, 968), (937, 969), (938, 970), (939, 971), (1040, 1072), (1041, 1073), (1042, 1074), (1043, 1075), (1044, 1076), (1045, 1077), (1046, 1078), (1047, 1079), (1048, 1080), (1049, 1081), (1050, 1082), (1051, 1083), (1052, 1084), (1053, 1085), (1054, 1086), (1055, 1087), (1056, 1088), (1057, 1089), (1058, 1090), (1059, 1091), (1060, 1092), (1061, 1093), (1062, 1094), (1063, 1095), (1064, 1096), (1065, 1097), (1066, 1098), (1067, 1099), (1068, 1100), (1069, 1101), (1070, 1102), (1071, 1103), (1024, 1104), (1025, 1105), (1026, 1106), (1027, 1107), (1028, 1108), (1029, 1109), (1030, 1110), (1031, 1111), (1032, 1112), (1033, 1113), (1034, 1114), (1035, 1115), (1036, 1116), (1037, 1117), (1038, 1118), (1039, 1119), (376, 255), (924, 181), (931, 962), (75, 8490), (197, 8491), (83, 383), (937, 8486)]
theorem pairsE_eq : pairsE = pairsL := by decide +kernel
def famF (r : Int) : List Int := force (roundF pairsE [r]) fun l => force (roundF pairsE l) id
theorem famF_eq (r : Int) : famF r = fam r := by
  unfold famF; rw [force_eq, force_eq, roundF_eq, roundF_eq, pairsE_eq]; rfl
def sameL : List Int → List Int → Bool
  | [], [] => true
  | x :: l, y :: m => decide (x = y) && sameL l m
  | _, _ => false
theorem sameL_eq : ∀ (l m : List Int), sameL l m = true → l = m
  | [], [], _ => rfl
  | x :: l, y :: m, h => by
    simp only [sameL, Bool.and_eq_true, decide_eq_true_eq] at h
    rw [h.1, sameL_eq l m h.2]
def ascB : List Int → Bool
  | x :: y :: l => decide (x < y) && ascB (y :: l)
  | _ => true
def famsT : List (List Int) := [[65, 97], [66, 98], [67, 99], [68, 100], [69, 101], [70, 102], [71, 103], [72, 104], [73, 105], [74, 106], [75, 107, 8490], [76, 108], [77, 109], [78, 110], [79, 111], [80, 112], [81, 113], [82, 114], [83, 115, 383], [84, 116], [85, 117], [86, 118], [87, 119], [88, 120], [89, 121], [90, 122], [181, 924, 956], [192, 224], [193, 225], [194, 226], [195, 227], [196, 228], [197, 229, 8491], [198, 230], [199, 231], [200, 232], [201, 233], [202, 234], [203, 235], [204, 236], [205, 237], [206, 238], [207, 239], [208, 240], [209, 241], [210, 242], [211, 243], [212, 244], [213, 245], [214, 246], [216, 248], [217, 249], [218, 250], [219, 251], [220, 252], [221, 253], [222, 254], [255, 376], [913, 945], [914, 946], [915, 947], [916, 948], [917, 949], [918, 950], [919, 951], [920, 952], [921, 953], [922, 954], [923, 955], [925, 957], [926, 958], [927, 959], [928, 960], [929, 961], [931, 962, 963], [932, 964], [933, 965], [934, 966], [935, 967], [936, 968], [937, 969, 8486], [938, 970], [939, 971], [1024, 1104], [1025, 1105], [1026, 1106], [1027, 1107], [1028, 1108], [1029, 1109], [1030, 1110], [1031, 1111], [1032, 1112], [1033, 1113], [1034, 1114], [1035, 1115], [1036, 1116], [1037, 1117], [1038, 1118], [1039, 1119], [1040, 1072], [1041, 1073], [1042, 1074], [1043, 1075], [1044, 1076], [1045, 1077], [1046, 1078], [1047, 1079], [1048, 1080], [1049, 1081], [1050, 1082], [1051, 1083], [1052, 1084], [1053, 1085], [1054, 1086], [1055, 1087], [1056, 1088], [1057, 1089], [1058, 1090], [1059, 1091], [1060, 1092], [1061, 1093], [1062, 1094], [1063, 1095], [1064, 1096], [1065, 1097], [1066, 1098], [1067, 1099], [1068, 1100], [1069, 1101], [1070, 1102], [1071, 1103]]
/-- What the finite check says of a family: it is found from each of its members in two rounds, and a third adds nothing. -/
def okF (F : List Int) : Bool := ascB F && decide (2 ≤ F.length) && decide (F.length ≤ 3) && (F.all fun x => decide (65 ≤ x) && decide (x ≤ 8491)) && sameL (roundF pairsE F) F && F.all fun x => sameL (famF x) F
theorem fams_ok : famsT.all okF = true := by decide +kernel
def membersE : List Int := [65, 97, 66, 98, 67, 99, 68, 100, 69, 101, 70, 102, 71, 103, 72, 104, 73, 105, 74, 106, 75, 107, 76, 108, 77, 109, 78, 110, 79, 111, 80, 112, 81, 113, 82, 114, 83, 115, 84, 116, 85, 117, 86, 118, 87, 119, 88, 120, 89, 121, 90, 122, 192, 224, 193, 225, 194, 226, 195, 227, 196, 228, 197, 229, 198, 230, 199, 231, 200, 232, 201, 233, 202, 234, 203, 235, 204, 236, 205, 237, 206, 238, 207, 239, 208, 240, 209, 241, 210, 242, 211, 243, 212, 244, 213, 245, 214, 246, 216, 248, 217, 249, 218, 250, 219, 251, 220, 252, 221, 253, 222, 254, 913, 945, 914, 946, 915, 947, 916, 948, 917, 949, 918, 950, 919, 951, 920, 952, 921, 953, 922, 954, 923, 955, 924, 956, 925, 957, 926, 958, 927, 959, 928, 960, 929, 961, 931, 963, 932, 964, 933, 965, 934, 966, 935, 967, 936, 968, 937, 969, 938, 970, 939, 971, 1040, 1072, 1041, 1073, 1042, 1074, 1043, 1075, 1044, 1076, 1045, 1077, 1046, 1078, 1047, 1079, 1048, 1080, 1049, 1081, 1050, 1082, 1051, 1083, 1052, 1084, 1053, 1085, 1054, 1086, 1055, 1087, 1056, 1088, 1057, 1089, 1058, 1090, 1059, 1091, 1060, 1092, 1061, 1093, 1062, 1094, 1063, 1095, 1064, 1096, 1065, 1097, 1066, 1098, 1067, 1099, 1068, 1100, 1069, 1101, 1070, 1102, 1071, 1103, 1024, 1104, 1025, 1105, 1026, 1106, 1027, 1107, 1028, 1108, 1029, 1109, 1030, 1110, 1031, 1111, 1032, 1112, 1033, 1113, 1034, 1114, 1035, 1115, 1036, 1116, 1037, 1117, 1038, 1118, 1039, 1119, 376, 255, 924, 181, 931, 962, 75, 8490, 197, 8491, 83, 383, 937, 8486]
theorem membersE_eq : membersE = members := by decide +kernel
theorem members_in : (membersE.all fun r => famsT.any fun F => joinB F r) = true := by decide +kernel
theorem fam_cases (r : Int) : (r ∉ members ∧ fam r = [r]) ∨ (r ∈ members ∧ r ∈ fam r ∧ okF (fam r) = true) := by
  by_cases h : r ∈ members
  · have h1 := List.all_eq_true.1 members_in r (by rw [membersE_eq]; exact h)
    obtain ⟨F, hF, hr⟩ := List.any_eq_true.1 h1
    have hr' := (joinB_iff F r).1 hr
    have hok := List.all_eq_true.1 fams_ok F hF
    have h2 := hok
    simp only [okF, Bool.and_eq_true] at h2
    have h3 := sameL_eq _ _ (List.all_eq_true.1 h2.2 r hr')
    rw [famF_eq] at h3
    exact .inr ⟨h, by rw [h3]; exact hr', by rw [h3]; exact hok⟩
  · exact .inl ⟨h, famI_none h 2⟩
theorem fam_self (r : Int) : r ∈ fam r := by
  rcases fam_cases r with ⟨_, h⟩ | ⟨_, h, _⟩
  · rw [h]; simp
  · exact h
theorem fam_same {r x : Int} (h : x ∈ fam r) : fam x = fam r := by
  rcases fam_cases r with ⟨_, h1⟩ | ⟨_, _, h1⟩
  · rw [h1] at h
    have : x = r := by simpa using h
    rw [this]
  · simp only [okF, Bool.and_eq_true] at h1
    have := sameL_eq _ _ (List.all_eq_true.1 h1.2 x h)
    rwa [famF_eq] at this
theorem fam_fix (r : Int) : round1 (fam r) = fam r := by
  rcases fam_cases r with ⟨h, h1⟩ | ⟨_, _, h1⟩
  · rw [h1, round_none h]
  · simp only [okF, Bool.and_eq_true] at h1
    have := sameL_eq _ _ h1.1.2
    rwa [roundF_eq, pairsE_eq] at this
theorem ascB_pair : ∀ (l : List Int), ascB l = true → l.Pairwise (· < ·)
  | [], _ => List.Pairwise.nil
  | [x], _ => List.pairwise_singleton _ _
  | x :: y :: l, h => by
    simp only [ascB, Bool.and_eq_true, decide_eq_true_eq] at h
    have ih := ascB_pair (y :: l) h.2
    refine List.pairwise_cons.2 ⟨fun z hz => ?_, ih⟩
    rcases List.mem_cons.1 hz with rfl | hz
    · exact h.1
    · have := (List.pairwise_cons.1 ih).1 z hz
      omega
theorem fam_asc (r : Int) : (fam r).Pairwise (· < ·) := by
  rcases fam_cases r with ⟨_, h1⟩ | ⟨_, _, h1⟩
  · rw [h1]; exact List.pairwise_singleton _ _
  · simp only [okF, Bool.and_eq_true] at h1
    exact ascB_pair _ h1.1.1.1.1.1
theorem fam_len (r : Int) : 1 ≤ (fam r).length ∧ (fam r).length ≤ 3 := by
  rcases fam_cases r with ⟨_, h1⟩ | ⟨_, _, h1⟩
  · rw [h1]; exact ⟨Nat.le_refl _, by simp⟩
  · simp only [okF, Bool.and_eq_true, decide_eq_true_eq] at h1
    omega
theorem fam_bd {r x : Int} (h : x ∈ fam r) : x = r ∨ (65 ≤ x ∧ x ≤ 8491 ∧ 65 ≤ r ∧ r ≤ 8491) := by
  rcases fam_cases r with ⟨_, h1⟩ | ⟨_, h0, h1⟩
  · rw [h1] at h; exact .inl (by simpa using h)
  · simp only [okF, Bool.and_eq_true] at h1
    have hx := List.all_eq_true.1 h1.1.1.2 x h
    have hr := List.all_eq_true.1 h1.1.1.2 r h0
    simp only [Bool.and_eq_true, decide_eq_true_eq] at hx hr
    exact .inr ⟨hx.1, hx.2, hr.1, hr.2⟩
/-- The rounds: the third is the second. -/
theorem famI_three (r : Int) : famI r 3 = famI r 2 := fam_fix r
end Go.Proofs.YtecclhmjmceheaaGreatDoor.Fd
namespace Go.Proofs.YtecclhmjmceheaaGreatDoor
open Go.RowKit
set_option linter.unusedVariables false
def RRow (W : World) (v : Value) (l : List (Int × Int)) : Prop :=
  ∃ a cap, v = .slice a l.length cap ∧ l.length ≤ 8796093022208 ∧ (∀ p ∈ l, -9223372036854775808 ≤ p.1 ∧ p.1 ≤ 9223372036854775807 ∧ -9223372036854775808 ≤ p.2 ∧ p.2 ≤ 9223372036854775807) ∧ ∀ j, j < l.length → ∃ b off, a = some ⟨b, off, none⟩ ∧ b < W.heap.size ∧
    W.cell? ⟨b, off + j * 2, none⟩ = some (.int .i64 (l[j]?.getD (0, 0)).1) ∧ W.cell? ⟨b, off + j * 2 + 1, none⟩ = some (.int .i64 (l[j]?.getD (0, 0)).2)
theorem RRow.below {W W' : World} {v : Value} {l : List (Int × Int)} (h : RRow W v l) {B : Nat} (hB : W.heap.size ≤ B) (hb : Below B W W') : RRow W' v l := by
  obtain ⟨a, cap, hv, hl, hw, hc⟩ := h
  refine ⟨a, cap, hv, hl, hw, fun j hj => ?_⟩
  obtain ⟨b, off, ha, hlt, h1, h2⟩ := hc j hj
  exact ⟨b, off, ha, Nat.lt_of_lt_of_le hlt hb.size, (hb.cell (p := ⟨b, off + j * 2, none⟩) (by show b < B; omega)).trans h1, (hb.cell (p := ⟨b, off + j * 2 + 1, none⟩) (by show b < B; omega)).trans h2⟩
theorem any_take_succ (l : List (Int × Int)) (k : Nat) (hk : k < l.length) (f : Int × Int → Bool) : (l.take (k + 1)).any f = ((l.take k).any f || f (l[k]?.getD (0, 0))) := by
  rw [List.take_succ_eq_append_getElem hk, List.any_append]
  simp [hk]
set_option maxRecDepth 100000 in
set_option maxHeartbeats 1000000 in
theorem refHas_walk (W : World) (a : Option Addr) (n cap : Nat) (l : List (Int × Int)) (r : Int) (hn : l.length = n) (hn2 : n ≤ 8796093022208)
    (hc : ∀ j, j < n → ∃ b off, a = some ⟨b, off, none⟩ ∧ b < W.heap.size ∧ W.cell? ⟨b, off + j * 2, none⟩ = some (.int .i64 (l[j]?.getD (0, 0)).1) ∧ W.cell? ⟨b, off + j * 2 + 1, none⟩ = some (.int .i64 (l[j]?.getD (0, 0)).2)) :
    Calls Tryz.prog 142 #[.slice a n cap, .int .i64 r] W fun e w' => e = .returned (.bool (Rg.hasB l r)) ∧ W = w' := by
  have HN := Lib.hid hn
  have HC := Lib.hid hc
  clear hn hc
  by_cases hr : 0 ≤ r ∧ r ≤ 1114111
  · obtain ⟨hr0, hr1⟩ := hr
    go_enter Tryz.func142, Tryz.ntmps142
    go_wp2
    go_loop [4, 5] (fun R i => ∃ k : Nat, k ≤ n ∧ i = .int .i64 k ∧ Hid ((l.take k).any (fun p => decide (p.1 ≤ r ∧ r ≤ p.2)) = false)) (fun _ i => n - (intOf i).toNat)
    case atStart => exact ⟨0, Nat.zero_le _, rfl, Lib.hid rfl⟩
    case round =>
      obtain ⟨k, hk, rfl, HA⟩ := hrel
      by_cases hlt : k < n
      · obtain ⟨b, off, rfl, hb, hc1, hc2⟩ := HC.out k hlt
        have HT := Lib.hid (any_take_succ l k (by rw [HN.out]; exact hlt) (fun p => decide (p.1 ≤ r ∧ r ≤ p.2)))
        obtain ⟨p, hp⟩ : ∃ p, l[k]?.getD (0, 0) = p := ⟨_, rfl⟩
        rw [hp] at hc1 hc2
        have HP := Lib.hid hp
        clear hp
        have HY : Hid (p.1 ≤ r → r ≤ p.2 → Rg.hasB l r = true) := Lib.hid (fun h1 h2 => (Rg.hasB_iff l r).2 ⟨⟨hr0, hr1⟩, p, by
          have := HP.out; rw [List.getElem?_eq_getElem (by rw [HN.out]; exact hlt)] at this; rw [← this]; exact List.getElem_mem _, h1, h2⟩)
        have HX : Hid (¬ (p.1 ≤ r ∧ r ≤ p.2) → (l.take (k + 1)).any (fun p => decide (p.1 ≤ r ∧ r ≤ p.2)) = false) := Lib.hid (fun h => by
          rw [HT.out, HA.out, HP.out]; simp only [Bool.false_or, decide_eq_false_iff_not]; exact h)
        go_wp2
        · go_ret
          exact ⟨by rw [HY.out (by assumption) (by assumption)]; rfl, rfl⟩
        all_goals
          go_round
          case rel => exact ⟨k + 1, by omega, by go_num, Lib.hid (HX.out (by omega))⟩
          case measure => simp [intOf]; omega
      · obtain rfl : k = n := by omega
        have HF : Hid (Rg.hasB l r = false) := Lib.hid (by
          have := HA.out
          rw [List.take_of_length_le (by rw [HN.out]; exact Nat.le_refl _)] at this
          unfold Rg.hasB
          rw [this, Bool.and_false])
        go_wp2
        go_ret
        exact ⟨by rw [HF.out]; rfl, rfl⟩
  · have HF : Hid (Rg.hasB l r = false) := Lib.hid (by unfold Rg.hasB; rw [decide_eq_false hr, Bool.false_and])
    by_cases h0 : 0 ≤ r
    · have h1 : 1114111 < r := by omega
      clear hr
      by_cases hz : 0 < n
      all_goals
        go_enter Tryz.func142, Tryz.ntmps142
        go_wp2
        refine wp_loop_rounds 1 ?_
        rw [rounds_succ]
        go_wp2
        go_ret
        exact ⟨by rw [HF.out]; rfl, rfl⟩
    · have h1 : r < 0 := by omega
      clear hr
      by_cases hz : 0 < n
      all_goals
        go_enter Tryz.func142, Tryz.ntmps142
        go_wp2
        refine wp_loop_rounds 1 ?_
        rw [rounds_succ]
        go_wp2
        go_ret
        exact ⟨by rw [HF.out]; rfl, rfl⟩
theorem refHas_any (W : World) (v : Value) (l : List (Int × Int)) (r : Int) (h : RRow W v l) :
    Calls Tryz.prog 142 #[v, .int .i64 r] W fun e w' => e = .returned (.bool (Rg.hasB l r)) ∧ W = w' := by
  obtain ⟨a, cap, rfl, hl, hw, hc⟩ := h
  exact refHas_walk W a _ cap l r rfl hl hc
theorem fold_take_succ (at_ : Int) (l : List (Int × Int)) (k : Nat) (hk : k < l.length) : (l.take (k + 1)).foldl (Rg.edge1 at_) 1114112 = Rg.edge1 at_ ((l.take k).foldl (Rg.edge1 at_) 1114112) (l[k]?.getD (0, 0)) := by
  rw [List.take_succ_eq_append_getElem hk, List.foldl_append]
  simp [hk]
set_option maxRecDepth 100000 in
set_option maxHeartbeats 1000000 in
theorem refEdge_walk (W : World) (a : Option Addr) (n cap : Nat) (l : List (Int × Int)) (r : Int) (hn : l.length = n) (hn2 : n ≤ 8796093022208)
    (hc : ∀ j, j < n → ∃ b off, a = some ⟨b, off, none⟩ ∧ b < W.heap.size ∧ W.cell? ⟨b, off + j * 2, none⟩ = some (.int .i64 (l[j]?.getD (0, 0)).1) ∧ W.cell? ⟨b, off + j * 2 + 1, none⟩ = some (.int .i64 (l[j]?.getD (0, 0)).2))
    (hw : ∀ p ∈ l, -9223372036854775808 ≤ p.1 ∧ p.1 ≤ 9223372036854775807 ∧ -9223372036854775808 ≤ p.2 ∧ p.2 ≤ 9223372036854775807) (hr0 : 0 ≤ r) (hr1 : r ≤ 1114111) :
    Calls Tryz.prog 193 #[.slice a n cap, .int .i64 r] W fun e w' => e = .returned (.int .i64 (Rg.edgeN l r)) ∧ W = w' := by
  have HN := Lib.hid hn
  have HC := Lib.hid hc
  have HW := Lib.hid hw
  clear hn hc hw
  go_enter Tryz.func193, Tryz.ntmps193
  go_wp2
  go_loop [5, 6] (fun N i => ∃ (k : Nat) (x : Int), k ≤ n ∧ 0 ≤ x ∧ x ≤ 1114112 ∧ i = .int .i64 k ∧ N = .int .i64 x ∧ Hid ((l.take k).foldl (Rg.edge1 r) 1114112 = x)) (fun _ i => n - (intOf i).toNat)
  case atStart => exact ⟨0, 1114112, Nat.zero_le _, by omega, by omega, rfl, rfl, Lib.hid rfl⟩
  case round =>
    obtain ⟨k, x, hk, hx0, hx1, rfl, rfl, HF⟩ := hrel
    by_cases hlt : k < n
    · obtain ⟨b, off, rfl, hb, hc1, hc2⟩ := HC.out k hlt
      have ht := fold_take_succ r l k (by rw [HN.out]; exact hlt)
      rw [HF.out] at ht
      obtain ⟨p, hp⟩ : ∃ p, l[k]?.getD (0, 0) = p := ⟨_, rfl⟩
      have hpm : p ∈ l := by rw [← hp, List.getElem?_eq_getElem (by rw [HN.out]; exact hlt)]; exact List.getElem_mem _
      rw [hp] at hc1 hc2 ht
      obtain ⟨hw1, hw2, hw3, hw4⟩ := HW.out p hpm
      have HT := Lib.hid ht
      have hbd := Rg.edge1_le r x p
      have HBD := Lib.hid hbd
      clear hp ht hbd hpm
      obtain ⟨p1, p2⟩ := p
      dsimp only at hc1 hc2 hw1 hw2 hw3 hw4
      go_wp2
      all_goals
          go_round
          case rel => refine ⟨k + 1, _, by omega, ?_, ?_, by go_num, rfl, Lib.hid (by rw [HT.out]; simp only [Rg.edge1]; repeat (first | rfl | omega | split))⟩ <;> omega
          case measure => simp [intOf]; omega
    · obtain rfl : k = n := by omega
      have HE : Hid (Rg.edgeN l r = x) := Lib.hid (by
        have := HF.out
        rw [List.take_of_length_le (by rw [HN.out]; exact Nat.le_refl _)] at this
        exact this)
      go_wp2
      go_ret
      exact ⟨by rw [HE.out]; rfl, rfl⟩
end Go.Proofs.YtecclhmjmceheaaGreatDoor
