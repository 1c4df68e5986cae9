/- The plain mathematics of case folding: pairs, what they join, families; no program. · What the reference's Check answers, as plain mathematics. · The laws of sets, of normalized lists: plain mathematics over what is made. -/
import Derived.Test.YtmdpchiiamgnnaaGreatDoorGp2
import Derived.Test.YtmdpchiiamgnnaaGreatDoorGp8
import Derived.Test.YtmdpchiiamgnnaaGreatDoorGp9
namespace Go.Proofs.YtmdpchiiamgnnaaGreatDoor.Fd
set_option linter.unusedVariables false
def spanL (lo : Int) (up : Int) : Nat → List (Int × Int)
  | 0 => []
  | n + 1 => (lo, lo + up) :: spanL (lo + 1) up n
def lastP : List (Int × Int) := [(376, 255), (924, 181), (931, 962), (75, 8490), (197, 8491), (83, 383), (937, 8486)]
def pairsL : List (Int × Int) := spanL 65 32 26 ++ spanL 192 32 23 ++ spanL 216 32 7 ++ spanL 913 32 17 ++ spanL 931 32 9 ++ spanL 1040 32 32 ++ spanL 1024 80 16 ++ lastP
def joinB : List Int → Int → Bool
  | [], _ => false
  | x :: l, r => decide (x = r) || joinB l r
def insL : List Int → Int → List Int
  | [], r => [r]
  | x :: l, r => if x < r then x :: insL l r else r :: x :: l
def withL (l : List Int) (r : Int) : List Int := if joinB l r then l else insL l r
def step1 (l : List Int) (p : Int × Int) : List Int := if joinB l p.1 then withL l p.2 else l
def step2 (l : List Int) (p : Int × Int) : List Int := if joinB l p.2 then withL l p.1 else l
def pstep (l : List Int) (p : Int × Int) : List Int := step2 (step1 l p) p
def round1 (l : List Int) : List Int := pairsL.foldl pstep l
def famI (r : Int) : Nat → List Int
  | 0 => [r]
  | j + 1 => round1 (famI r j)
def fam (r : Int) : List Int := famI r 2
def members : List Int := pairsL.flatMap fun p => [p.1, p.2]
theorem joinB_iff : ∀ (l : List Int) (r : Int), joinB l r = true ↔ r ∈ l
  | [], r => by simp [joinB]
  | x :: l, r => by
    simp only [joinB, Bool.or_eq_true, decide_eq_true_eq, joinB_iff l r, List.mem_cons]
    exact ⟨fun h => h.imp Eq.symm id, fun h => h.imp Eq.symm id⟩
theorem pstep_none {r : Int} {p : Int × Int} (h1 : p.1 ≠ r) (h2 : p.2 ≠ r) : pstep [r] p = [r] := by
  have a1 : joinB [r] p.1 = false := by rw [Bool.eq_false_iff]; intro h; rw [joinB_iff] at h; simp at h; exact h1 h
  have a2 : joinB [r] p.2 = false := by rw [Bool.eq_false_iff]; intro h; rw [joinB_iff] at h; simp at h; exact h2 h
  unfold pstep step1 step2
  rw [a1]
  simp [a2]
theorem fold_none {r : Int} : ∀ l : List (Int × Int), (∀ p ∈ l, p.1 ≠ r ∧ p.2 ≠ r) → l.foldl pstep [r] = [r]
  | [], _ => rfl
  | p :: l, h => by
    rw [List.foldl_cons, pstep_none (h p (by simp)).1 (h p (by simp)).2]
    exact fold_none l (fun q hq => h q (by simp [hq]))
theorem round_none {r : Int} (h : r ∉ members) : round1 [r] = [r] :=
  fold_none pairsL (fun p hp => ⟨fun e => h (List.mem_flatMap.2 ⟨p, hp, by simp [e]⟩), fun e => h (List.mem_flatMap.2 ⟨p, hp, by simp [e]⟩)⟩)
theorem famI_none {r : Int} (h : r ∉ members) : ∀ j, famI r j = [r]
  | 0 => rfl
  | j + 1 => by rw [famI, famI_none h j, round_none h]
/-- The same, so written that it reckons fast. -/
def force (l : List Int) (k : List Int → List Int) : List Int :=
  match l with
  | [] => k []
  | [a] => k [a]
  | [a, b] => k [a, b]
  | [a, b, c] => k [a, b, c]
  | l => k l
theorem force_eq (l : List Int) (k : List Int → List Int) : force l k = k l := by
  unfold force; split <;> rfl
def roundF : List (Int × Int) → List Int → List Int
  | [], l => l
  | p :: ps, l => force (pstep l p) (roundF ps)
theorem roundF_eq : ∀ (ps : List (Int × Int)) (l : List Int), roundF ps l = ps.foldl pstep l
  | [], _ => rfl
  | p :: ps, l => by rw [roundF, force_eq, List.foldl_cons, roundF_eq ps]
def pairsE : List (Int × Int) := [(65, 97), (66, 98), (67, 99), (68, 100), (69, 101), (70, 102), (71, 103), (72, 104), (73, 105), (74, 106), (75, 107), (76, 108), (77, 109), (78, 110), (79, 111), (80, 112), (81, 113), (82, 114), (83, 115), (84, 116), (85, 117), (86, 118), (87, 119), (88, 120), (89, 121), (90, 122), (192, 224), (193, 225), (194, 226), (195, 227), (196, 228), (197, 229), (198, 230), (199, 231), (200, 232), (201, 233), (202, 234), (203, 235), (204, 236), (205, 237), (206, 238), (207, 239), (208, 240), (209, 241), (210, 242), (211, 243), (212, 244), (213, 245), (214, 246), (216, 248), (217, 249), (218, 250), (219, 251), (220, 252), (221, 253), (222, 254), (913, 945), (914, 946), (915, 947), (916, 948), (917, 949), (918, 950), (919, 951), (920, 952), (921, 953), (922, 954), (923, 955), (924, 956), (925, 957), (926, 958), (927, 959), (928, 960), (929, 961), (931, 963), (932, 964), (933, 965), (934, 966), (935, 967), (936, 968), (937, 969), (938, 970), (939, 971), (1040, 1072), (1041, 1073), (1042, 1074), (1043, 1075), (1044, 1076), (1045, 1077), (1046, 1078), (1047, 1079), (1048, 1080), (1049, 1081), (1050, 1082), (1051, 1083), (1052, 1084), (1053, 1085), (1054, 1086), (1055, 1087), (1056, 1088), (1057, 1089), (1058, 1090), (1059, 1091), (1060, 1092), (1061, 1093), (1062, 1094), (1063, 1095), (1064, 1096), (1065, 1097), (1066, 1098), (1067, 1099), (1068, 1100), (1069, 1101), (1070, 1102), (1071, 1103), (1024, 1104), (1025, 1105), (1026, 1106), (1027, 1107), (1028, 1108), (1029, 1109), (1030, 1110), (1031, 1111), (1032, 1112), (1033, 1113), (1034, 1114), (1035, 1115), (1036, 1116), (1037, 1117), (1038, 1118), (1039, 1119), (376, 255), (924, 181), (931, 962), (75, 8490), (197, 8491), (83, 383), (937, 8486)]
theorem pairsE_eq : pairsE = pairsL := by decide +kernel
def famF (r : Int) : List Int := force (roundF pairsE [r]) fun l => force (roundF pairsE l) id
theorem famF_eq (r : Int) : famF r = fam r := by
  unfold famF; rw [force_eq, force_eq, roundF_eq, roundF_eq, pairsE_eq]; rfl
def sameL : List Int → List Int → Bool
  | [], [] => true
  | x :: l, y :: m => decide (x = y) && sameL l m
  | _, _ => false
theorem sameL_eq : ∀ (l m : List Int), sameL l m = true → l = m
  | [], [], _ => rfl
  | x :: l, y :: m, h => by
    simp only [sameL, Bool.and_eq_true, decide_eq_true_eq] at h
    rw [h.1, sameL_eq l m h.2]
def ascB : List Int → Bool
  | x :: y :: l => decide (x < y) && ascB (y :: l)
  | _ => true
def famsT : List (List Int) := [[65, 97], [66, 98], [67, 99], [68, 100], [69, 101], [70, 102], [71, 103], [72, 104], [73, 105], [74, 106], [75, 107, 8490], [76, 108], [77, 109], [78, 110], [79, 111], [80, 112], [81, 113], [82, 114], [83, 115, 383], [84, 116], [85, 117], [86, 118], [87, 119], [88, 120], [89, 121], [90, 122], [181, 924, 956], [192, 224], [193, 225], [194, 226], [195, 227], [196, 228], [197, 229, 8491], [198, 230], [199, 231], [200, 232], [201, 233], [202, 234], [203, 235], [204, 236], [205, 237], [206, 238], [207, 239], [208, 240], [209, 241], [210, 242], [211, 243], [212, 244], [213, 245], [214, 246], [216, 248], [217, 249], [218, 250], [219, 251], [220, 252], [221, 253], [222, 254], [255, 376], [913, 945], [914, 946], [915, 947], [916, 948], [917, 949], [918, 950], [919, 951], [920, 952], [921, 953], [922, 954], [923, 955], [925, 957], [926, 958], [927, 959], [928, 960], [929, 961], [931, 962, 963], [932, 964], [933, 965], [934, 966], [935, 967], [936, 968], [937, 969, 8486], [938, 970], [939, 971], [1024, 1104], [1025, 1105], [1026, 1106], [1027, 1107], [1028, 1108], [1029, 1109], [1030, 1110], [1031, 1111], [1032, 1112], [1033, 1113], [1034, 1114], [1035, 1115], [1036, 1116], [1037, 1117], [1038, 1118], [1039, 1119], [1040, 1072], [1041, 1073], [1042, 1074], [1043, 1075], [1044, 1076], [1045, 1077], [1046, 1078], [1047, 1079], [1048, 1080], [1049, 1081], [1050, 1082], [1051, 1083], [1052, 1084], [1053, 1085], [1054, 1086], [1055, 1087], [1056, 1088], [1057, 1089], [1058, 1090], [1059, 1091], [1060, 1092], [1061, 1093], [1062, 1094], [1063, 1095], [1064, 1096], [1065, 1097], [1066, 1098], [1067, 1099], [1068, 1100], [1069, 1101], [1070, 1102], [1071, 1103]]
/-- What the finite check says of a family: it is found from each of its members in two rounds, and a third adds nothing. -/
def okF (F : List Int) : Bool := ascB F && decide (2 ≤ F.length) && decide (F.length ≤ 3) && (F.all fun x => decide (65 ≤ x) && decide (x ≤ 8491)) && sameL (roundF pairsE F) F && F.all fun x => sameL (famF x) F
theorem fams_ok : famsT.all okF = true := by decide +kernel
def membersE : List Int := [65, 97, 66, 98, 67, 99, 68, 100, 69, 101, 70, 102, 71, 103, 72, 104, 73, 105, 74, 106, 75, 107, 76, 108, 77, 109, 78, 110, 79, 111, 80, 112, 81, 113, 82, 114, 83, 115, 84, 116, 85, 117, 86, 118, 87, 119, 88, 120, 89, 121, 90, 122, 192, 224, 193, 225, 194, 226, 195, 227, 196, 228, 197, 229, 198, 230, 199, 231, 200, 232, 201, 233, 202, 234, 203, 235, 204, 236, 205, 237, 206, 238, 207, 239, 208, 240, 209, 241, 210, 242, 211, 243, 212, 244, 213, 245, 214, 246, 216, 248, 217, 249, 218, 250, 219, 251, 220, 252, 221, 253, 222, 254, 913, 945, 914, 946, 915, 947, 916, 948, 917, 949, 918, 950, 919, 951, 920, 952, 921, 953, 922, 954, 923, 955, 924, 956, 925, 957, 926, 958, 927, 959, 928, 960, 929, 961, 931, 963, 932, 964, 933, 965, 934, 966, 935, 967, 936, 968, 937, 969, 938, 970, 939, 971, 1040, 1072, 1041, 1073, 1042, 1074, 1043, 1075, 1044, 1076, 1045, 1077, 1046, 1078, 1047, 1079, 1048, 1080, 1049, 1081, 1050, 1082, 1051, 1083, 1052, 1084, 1053, 1085, 1054, 1086, 1055, 1087, 1056, 1088, 1057, 1089, 1058, 1090, 1059, 1091, 1060, 1092, 1061, 1093, 1062, 1094, 1063, 1095, 1064, 1096, 1065, 1097, 1066, 1098, 1067, 1099, 1068, 1100, 1069, 1101, 1070, 1102, 1071, 1103, 1024, 1104, 1025, 1105, 1026, 1106, 1027, 1107, 1028, 1108, 1029, 1109, 1030, 1110, 1031, 1111, 1032, 1112, 1033, 1113, 1034, 1114, 1035, 1115, 1036, 1116, 1037, 1117, 1038, 1118, 1039, 1119, 376, 255, 924, 181, 931, 962, 75, 8490, 197, 8491, 83, 383, 937, 8486]
theorem membersE_eq : membersE = members := by decide +kernel
theorem members_in : (membersE.all fun r => famsT.any fun F => joinB F r) = true := by decide +kernel
theorem fam_cases (r : Int) : (r ∉ members ∧ fam r = [r]) ∨ (r ∈ members ∧ r ∈ fam r ∧ okF (fam r) = true) := by
  by_cases h : r ∈ members
  · have h1 := List.all_eq_true.1 members_in r (by rw [membersE_eq]; exact h)
    obtain ⟨F, hF, hr⟩ := List.any_eq_true.1 h1
    have hr' := (joinB_iff F r).1 hr
    have hok := List.all_eq_true.1 fams_ok F hF
    have h2 := hok
    simp only [okF, Bool.and_eq_true] at h2
    have h3 := sameL_eq _ _ (List.all_eq_true.1 h2.2 r hr')
    rw [famF_eq] at h3
    exact .inr ⟨h, by rw [h3]; exact hr', by rw [h3]; exact hok⟩
  · exact .inl ⟨h, famI_none h 2⟩
theorem fam_self (r : Int) : r ∈ fam r := by
  rcases fam_cases r with ⟨_, h⟩ | ⟨_, h, _⟩
  · rw [h]; simp
  · exact h
theorem fam_same {r x : Int} (h : x ∈ fam r) : fam x = fam r := by
  rcases fam_cases r with ⟨_, h1⟩ | ⟨_, _, h1⟩
  · rw [h1] at h
    have : x = r := by simpa using h
    rw [this]
  · simp only [okF, Bool.and_eq_true] at h1
    have := sameL_eq _ _ (List.all_eq_true.1 h1.2 x h)
    rwa [famF_eq] at this
theorem fam_fix (r : Int) : round1 (fam r) = fam r := by
  rcases fam_cases r with ⟨h, h1⟩ | ⟨_, _, h1⟩
  · rw [h1, round_none h]
  · simp only [okF, Bool.and_eq_true] at h1
    have := sameL_eq _ _ h1.1.2
    rwa [roundF_eq, pairsE_eq] at this
theorem ascB_pair : ∀ (l : List Int), ascB l = true → l.Pairwise (· < ·)
  | [], _ => List.Pairwise.nil
  | [x], _ => List.pairwise_singleton _ _
  | x :: y :: l, h => by
    simp only [ascB, Bool.and_eq_true, decide_eq_true_eq] at h
    have ih := ascB_pair (y :: l) h.2
    refine List.pairwise_cons.2 ⟨fun z hz => ?_, ih⟩
    rcases List.mem_cons.1 hz with rfl | hz
    · exact h.1
    · have := (List.pairwise_cons.1 ih).1 z hz
      omega
theorem fam_asc (r : Int) : (fam r).Pairwise (· < ·) := by
  rcases fam_cases r with ⟨_, h1⟩ | ⟨_, _, h1⟩
  · rw [h1]; exact List.pairwise_singleton _ _
  · simp only [okF, Bool.and_eq_true] at h1
    exact ascB_pair _ h1.1.1.1.1.1
theorem fam_len (r : Int) : 1 ≤ (fam r).length ∧ (fam r).length ≤ 3 := by
  rcases fam_cases r with ⟨_, h1⟩ | ⟨_, _, h1⟩
  · rw [h1]; exact ⟨Nat.le_refl _, by simp⟩
  · simp only [okF, Bool.and_eq_true, decide_eq_true_eq] at h1
    omega
theorem fam_bd {r x : Int} (h : x ∈ fam r) : x = r ∨ (65 ≤ x ∧ x ≤ 8491 ∧ 65 ≤ r ∧ r ≤ 8491) := by
  rcases fam_cases r with ⟨_, h1⟩ | ⟨_, h0, h1⟩
  · rw [h1] at h; exact .inl (by simpa using h)
  · simp only [okF, Bool.and_eq_true] at h1
    have hx := List.all_eq_true.1 h1.1.1.2 x h
    have hr := List.all_eq_true.1 h1.1.1.2 r h0
    simp only [Bool.and_eq_true, decide_eq_true_eq] at hx hr
    exact .inr ⟨hx.1, hx.2, hr.1, hr.2⟩
/-- The rounds: the third is the second. -/
theorem famI_three (r : Int) : famI r 3 = famI r 2 := fam_fix r
end Go.Proofs.YtmdpchiiamgnnaaGreatDoor.Fd
namespace Go.Proofs.YtmdpchiiamgnnaaGreatDoor
set_option linter.unusedVariables false
namespace Rg
def check1 (prev : Option Int) (p : R) : Int :=
  if p.1 < 0 ∨ p.2 < 0 ∨ p.1 > 1114111 ∨ p.2 > 1114111 then 1 else if p.1 > p.2 ∨ (∃ h, prev = some h ∧ p.1 - 1 ≤ h) then 4 else 0
def checkF : Option Int → List R → Int
  | _, [] => 0
  | prev, p :: l => if check1 prev p = 0 then checkF (some p.2) l else check1 prev p
def prevAt (l : List R) (k : Nat) : Option Int := if k = 0 then none else some (l[k - 1]?.getD (0, 0)).2
theorem checkF_step (l : List R) (k : Nat) (hk : k < l.length) :
    checkF (prevAt l k) (l.drop k) = if check1 (prevAt l k) (l[k]?.getD (0, 0)) = 0 then checkF (prevAt l (k + 1)) (l.drop (k + 1)) else check1 (prevAt l k) (l[k]?.getD (0, 0)) := by
  rw [List.drop_eq_getElem_cons hk]
  simp only [checkF]
  have e : l[k]?.getD (0, 0) = l[k] := by rw [List.getElem?_eq_getElem hk]; rfl
  rw [e]
  have e2 : prevAt l (k + 1) = some (l[k]).2 := by simp [prevAt, hk]
  rw [e2]
end Rg
end Go.Proofs.YtmdpchiiamgnnaaGreatDoor
namespace Go.Proofs.YtmdpchiiamgnnaaGreatDoor.Rg
set_option linter.unusedVariables false
/-- How many of the first n numbers have F. -/
def cnt (F : Int → Bool) : Nat → Int
  | 0 => 0
  | n + 1 => cnt F n + cond (F n) 1 0
theorem cnt_congr {F G : Int → Bool} : ∀ n : Nat, (∀ q : Int, 0 ≤ q → q < n → F q = G q) → cnt F n = cnt G n
  | 0, _ => rfl
  | n + 1, h => by
    have ih := cnt_congr n (fun q h0 h1 => h q h0 (by omega))
    have e := h n (by omega) (by omega)
    simp only [cnt, ih, e]
theorem cnt_both (F G : Int → Bool) : ∀ n : Nat, cnt (fun q => F q || G q) n + cnt (fun q => F q && G q) n = cnt F n + cnt G n
  | 0 => rfl
  | n + 1 => by
    have ih := cnt_both F G n
    simp only [cnt]
    generalize F n = x
    generalize G n = y
    cases x <;> cases y <;> simp <;> omega
theorem cnt_not (F : Int → Bool) : ∀ n : Nat, cnt F n + cnt (fun q => !F q) n = n
  | 0 => rfl
  | n + 1 => by
    have ih := cnt_not F n
    simp only [cnt]
    generalize F n = x
    cases x <;> simp <;> omega
theorem cnt_none {F : Int → Bool} (h : ∀ q, F q = false) : ∀ n : Nat, cnt F n = 0
  | 0 => rfl
  | n + 1 => by simp only [cnt, cnt_none h n, h]; rfl
theorem cnt_range (x y : Int) (hx : 0 ≤ x) (hxy : x ≤ y) : ∀ n : Nat, cnt (fun q => decide (x ≤ q ∧ q ≤ y)) n = if (n : Int) ≤ x then 0 else if (n : Int) ≤ y + 1 then n - x else y - x + 1
  | 0 => by rw [if_pos (by omega)]; rfl
  | n + 1 => by
    have ih := cnt_range x y hx hxy n
    simp only [cnt, ih, Bool.cond_decide]
    push_cast
    repeat' split
    all_goals omega
theorem sumL_cnt (N : Nat) : ∀ (l : List R) (lo : Int), NormFrom lo l → 0 ≤ lo → (1114112 : Int) ≤ N → sumL l = cnt (fun q => l.any fun p => decide (p.1 ≤ q ∧ q ≤ p.2)) N
  | [], lo, _, _, _ => (cnt_none (fun q => rfl) N).symm
  | p :: l, lo, ⟨h1, h2, h3, h4⟩, h0, hN => by
    have ih := sumL_cnt N l (p.2 + 2) h4 (by omega) hN
    have e : sumL (p :: l) = p.2 - p.1 + 1 + sumL l := rfl
    have hb := cnt_both (fun q => decide (p.1 ≤ q ∧ q ≤ p.2)) (fun q => l.any fun p => decide (p.1 ≤ q ∧ q ≤ p.2)) N
    have hr := cnt_range p.1 p.2 (by omega) h2 N
    have hr' : cnt (fun q => decide (p.1 ≤ q ∧ q ≤ p.2)) N = p.2 - p.1 + 1 := by
      rw [hr]; split
      · omega
      · split <;> omega
    have hd : cnt (fun q => decide (p.1 ≤ q ∧ q ≤ p.2) && l.any fun p => decide (p.1 ≤ q ∧ q ≤ p.2)) N = 0 := by
      refine cnt_none (fun q => ?_) N
      rw [Bool.eq_false_iff]
      intro h
      rw [Bool.and_eq_true, decide_eq_true_eq, List.any_eq_true] at h
      obtain ⟨hq, x, hx, hxq⟩ := h
      rw [decide_eq_true_eq] at hxq
      have := (norm_lo l (p.2 + 2) h4 x hx).1
      omega
    have hc : cnt (fun q => (p :: l).any fun p => decide (p.1 ≤ q ∧ q ≤ p.2)) N = cnt (fun q => decide (p.1 ≤ q ∧ q ≤ p.2) || l.any fun p => decide (p.1 ≤ q ∧ q ≤ p.2)) N := cnt_congr N (fun q _ _ => rfl)
    omega
theorem sumL_has {l : List R} (h : NormL l) : sumL l = cnt (hasB l) 1114112 := by
  rw [sumL_cnt 1114112 l 0 h (Int.le_refl _) (by omega)]
  refine cnt_congr 1114112 (fun q h0 h1 => ?_)
  unfold hasB
  rw [decide_eq_true (by omega), Bool.true_and]
end Go.Proofs.YtmdpchiiamgnnaaGreatDoor.Rg
namespace Go.Proofs.YtmdpchiiamgnnaaGreatDoor.Rg
set_option linter.unusedVariables false
theorem hasB_out {l : List R} {q : Int} (h : ¬ (0 ≤ q ∧ q ≤ 1114111)) : hasB l q = false := by unfold hasB; rw [decide_eq_false h, Bool.false_and]
theorem hasB_all {q : Int} (h : 0 ≤ q ∧ q ≤ 1114111) : hasB [(0, 1114111)] q = true := (hasB_iff _ _).2 ⟨h, (0, 1114111), by simp, h⟩
theorem opB_ff (op : Int) : opB op false false = false := by simp [opB]
theorem Made.at_ {op : Int} {a b out : List R} (h : Made op a b out) (q : Int) : hasB out q = opB op (hasB a q) (hasB b q) := by
  by_cases hq : 0 ≤ q ∧ q ≤ 1114111
  · exact h.has q hq.1 hq.2
  · rw [hasB_out hq, hasB_out hq, hasB_out hq, opB_ff]
theorem Made.or {a b out : List R} (h : Made 1 a b out) (q : Int) : hasB out q = (hasB a q || hasB b q) := by
  rw [h.at_]; cases hasB a q <;> cases hasB b q <;> rfl
theorem Made.and {a b out : List R} (h : Made 2 a b out) (q : Int) : hasB out q = (hasB a q && hasB b q) := by
  rw [h.at_]; cases hasB a q <;> cases hasB b q <;> rfl
theorem Made.sub {a b out : List R} (h : Made 3 a b out) (q : Int) : hasB out q = (hasB a q && !hasB b q) := by
  rw [h.at_]; cases hasB a q <;> cases hasB b q <;> rfl
theorem Made.lack {a out : List R} (h : Made 3 [(0, 1114111)] a out) (q : Int) (hq : 0 ≤ q ∧ q ≤ 1114111) : hasB out q = !hasB a q := by
  rw [h.sub, hasB_all hq]; rfl
theorem ListOf.eq {a out : List R} (h : ListOf a out) (q : Int) : hasB out q = hasB a q := by
  rw [Made.or h]; simp [hasB]
theorem norm_listOf {l : List R} (h : NormL l) : ListOf l l := ⟨h, fun q _ _ => by simp [opB, hasB]⟩
theorem listOf_norm {l out : List R} (h : NormL l) (k : ListOf l out) : out = l := made_unique k (norm_listOf h)
/-- The complement of a union is the complements' intersection. -/
theorem sets1 {a b u nu na nb x : List R} (hu : Made 1 a b u) (h1 : Made 3 [(0, 1114111)] u nu) (h2 : Made 3 [(0, 1114111)] a na) (h3 : Made 3 [(0, 1114111)] b nb) (h4 : Made 2 na nb x) : nu = x :=
  norm_ext h1.norm h4.norm (fun q h0 h5 => by
    rw [h1.lack q ⟨h0, h5⟩, h4.and, h2.lack q ⟨h0, h5⟩, h3.lack q ⟨h0, h5⟩, hu.or, Bool.not_or])
theorem sets2 {a na nna x : List R} (h2 : Made 3 [(0, 1114111)] a na) (h3 : Made 3 [(0, 1114111)] na nna) (h4 : ListOf a x) : nna = x :=
  norm_ext h3.norm h4.norm (fun q h0 h5 => by rw [h3.lack q ⟨h0, h5⟩, h2.lack q ⟨h0, h5⟩, h4.eq, Bool.not_not])
theorem sets3 {a b m v u x : List R} (h1 : Made 3 a b m) (h2 : Made 2 a b v) (h3 : Made 1 m v u) (h4 : ListOf a x) : u = x :=
  norm_ext h3.norm h4.norm (fun q h0 h5 => by rw [h3.or, h1.sub, h2.and, h4.eq]; cases hasB a q <;> cases hasB b q <;> rfl)
theorem counts {a b u v ca cb cu cv : List R} (hu : Made 1 a b u) (hv : Made 2 a b v) (h1 : ListOf u cu) (h2 : ListOf v cv) (h3 : ListOf a ca) (h4 : ListOf b cb) : sumL cu + sumL cv = sumL ca + sumL cb := by
  rw [sumL_has h1.norm, sumL_has h2.norm, sumL_has h3.norm, sumL_has h4.norm]
  rw [cnt_congr 1114112 (fun q _ _ => (h1.eq q).trans (hu.or q)), cnt_congr 1114112 (fun q _ _ => (h2.eq q).trans (hv.and q)), cnt_congr 1114112 (fun q _ _ => h3.eq q), cnt_congr 1114112 (fun q _ _ => h4.eq q)]
  exact cnt_both _ _ _
theorem counts2 {a na ca cn : List R} (hn : Made 3 [(0, 1114111)] a na) (h1 : ListOf a ca) (h2 : ListOf na cn) : sumL ca + sumL cn = 1114112 := by
  rw [sumL_has h1.norm, sumL_has h2.norm]
  rw [cnt_congr 1114112 (fun q _ _ => h1.eq q), cnt_congr 1114112 (fun q h0 h3 => (h2.eq q).trans (hn.lack q ⟨h0, by omega⟩))]
  exact cnt_not _ _
theorem sumL_bd {l : List R} (h : NormL l) : 0 ≤ sumL l ∧ sumL l ≤ 1114112 := by have := sumL_le l 0 h; omega
/-! ### Check, and what is normalized -/
def CkFrom : Option Int → List R → Prop
  | none, l => NormFrom 0 l
  | some h, l => NormFrom (h + 2) l
theorem check1_zero {prev : Option Int} {p : R} (hp : ∀ h, prev = some h → 0 ≤ h) (h : check1 prev p = 0) : (∀ h, prev = some h → h + 2 ≤ p.1) ∧ 0 ≤ p.1 ∧ p.1 ≤ p.2 ∧ p.2 ≤ 1114111 := by
  unfold check1 at h
  split at h
  · cases h
  · split at h
    · cases h
    · rename_i h1 h2
      refine ⟨fun x hx => ?_, by omega, by omega, by omega⟩
      have : ¬ p.1 - 1 ≤ x := fun hle => h2 (.inr ⟨x, hx, hle⟩)
      omega
theorem check1_ok {prev : Option Int} {p : R} (h : ∀ h, prev = some h → h + 2 ≤ p.1) (h0 : 0 ≤ p.1) (h1 : p.1 ≤ p.2) (h2 : p.2 ≤ 1114111) : check1 prev p = 0 := by
  unfold check1
  rw [if_neg (by omega), if_neg]
  rintro (h3 | ⟨x, hx, h3⟩)
  · omega
  · have := h x hx; omega
theorem ck_iff : ∀ (l : List R) (prev : Option Int), (∀ h, prev = some h → 0 ≤ h) → (checkF prev l = 0 ↔ CkFrom prev l)
  | [], none, _ => ⟨fun _ => trivial, fun _ => rfl⟩
  | [], some h, _ => ⟨fun _ => trivial, fun _ => rfl⟩
  | p :: l, prev, hp => by
    have ih := ck_iff l (some p.2)
    show (if check1 prev p = 0 then checkF (some p.2) l else check1 prev p) = 0 ↔ _
    by_cases h : check1 prev p = 0
    · rw [if_pos h]
      have hz := check1_zero hp h
      rw [ih (fun x hx => by injection hx with hx; omega)]
      cases prev with
      | none => exact ⟨fun k => ⟨hz.2.1, hz.2.2.1, hz.2.2.2, k⟩, fun k => k.2.2.2⟩
      | some x => exact ⟨fun k => ⟨hz.1 x rfl, hz.2.2.1, hz.2.2.2, k⟩, fun k => k.2.2.2⟩
    · rw [if_neg h]
      refine ⟨fun k => absurd k h, fun k => absurd (check1_ok ?_ ?_ ?_ ?_) h⟩
      · intro x hx; subst hx; exact k.1
      · cases prev with
        | none => exact k.1
        | some x => have := k.1; have := hp x rfl; omega
      · cases prev <;> exact k.2.1
      · cases prev <;> exact k.2.2.1
theorem check_norm (l : List R) : checkF none l = 0 ↔ NormL l := ck_iff l none (fun h hh => by cases hh)
end Go.Proofs.YtmdpchiiamgnnaaGreatDoor.Rg
