/- The plain mathematics of case folding: pairs, what they join, families; no program. · The plain mathematics of the landed way: cutting, merging a sorted list, turns and their parity; no program. · What the reference's Check answers, as plain mathematics. · The laws of sets, of normalized lists: plain mathematics over what is made. -/
import Derived.Test.YtanffablfgnioaaGreatDoorGp1
namespace Go.Proofs.YtanffablfgnioaaGreatDoor.Fd
set_option linter.unusedVariables false
def spanL (lo : Int) (up : Int) : Nat → List (Int × Int)
  | 0 => []
  | n + 1 => (lo, lo + up) :: spanL (lo + 1) up n
def lastP : List (Int × Int) := [(376, 255), (924, 181), (931, 962), (75, 8490), (197, 8491), (83, 383), (937, 8486)]
def pairsL : List (Int × Int) := spanL 65 32 26 ++ spanL 192 32 23 ++ spanL 216 32 7 ++ spanL 913 32 17 ++ spanL 931 32 9 ++ spanL 1040 32 32 ++ spanL 1024 80 16 ++ lastP
def joinB : List Int → Int → Bool
  | [], _ => false
  | x :: l, r => decide (x = r) || joinB l r
def insL : List Int → Int → List Int
  | [], r => [r]
  | x :: l, r => if x < r then x :: insL l r else r :: x :: l
def withL (l : List Int) (r : Int) : List Int := if joinB l r then l else insL l r
def step1 (l : List Int) (p : Int × Int) : List Int := if joinB l p.1 then withL l p.2 else l
def step2 (l : List Int) (p : Int × Int) : List Int := if joinB l p.2 then withL l p.1 else l
def pstep (l : List Int) (p : Int × Int) : List Int := step2 (step1 l p) p
def round1 (l : List Int) : List Int := pairsL.foldl pstep l
def famI (r : Int) : Nat → List Int
  | 0 => [r]
  | j + 1 => round1 (famI r j)
def fam (r : Int) : List Int := famI r 2
def members : List Int := pairsL.flatMap fun p => [p.1, p.2]
theorem joinB_iff : ∀ (l : List Int) (r : Int), joinB l r = true ↔ r ∈ l
  | [], r => by simp [joinB]
  | x :: l, r => by
    simp only [joinB, Bool.or_eq_true, decide_eq_true_eq, joinB_iff l r, List.mem_cons]
    exact ⟨fun h => h.imp Eq.symm id, fun h => h.imp Eq.symm id⟩
theorem pstep_none {r : Int} {p : Int × Int} (h1 : p.1 ≠ r) (h2 : p.2 ≠ r) : pstep [r] p = [r] := by
  have a1 : joinB [r] p.1 = false := by rw [Bool.eq_false_iff]; intro h; rw [joinB_iff] at h; simp at h; exact h1 h
  have a2 : joinB [r] p.2 = false := by rw [Bool.eq_false_iff]; intro h; rw [joinB_iff] at h; simp at h; exact h2 h
  unfold pstep step1 step2
  rw [a1]
  simp [a2]
theorem fold_none {r : Int} : ∀ l : List (Int × Int), (∀ p ∈ l, p.1 ≠ r ∧ p.2 ≠ r) → l.foldl pstep [r] = [r]
  | [], _ => rfl
  | p :: l, h => by
    rw [List.foldl_cons, pstep_none (h p (by simp)).1 (h p (by simp)).2]
    exact fold_none l (fun q hq => h q (by simp [hq]))
theorem round_none {r : Int} (h : r ∉ members) : round1 [r] = [r] :=
  fold_none pairsL (fun p hp => ⟨fun e => h (List.mem_flatMap.2 ⟨p, hp, by simp [e]⟩), fun e => h (List.mem_flatMap.2 ⟨p, hp, by simp [e]⟩)⟩)
theorem famI_none {r : Int} (h : r ∉ members) : ∀ j, famI r j = [r]
  | 0 => rfl
  | j + 1 => by rw [famI, famI_none h j, round_none h]
/-- The same, so written that it reckons fast. -/
def force (l : List Int) (k : List Int → List Int) : List Int :=
  match l with
  | [] => k []
  | [a] => k [a]
  | [a, b] => k [a, b]
  | [a, b, c] => k [a, b, c]
  | l => k l
theorem force_eq (l : List Int) (k : List Int → List Int) : force l k = k l := by
  unfold force; split <;> rfl
def roundF : List (Int × Int) → List Int → List Int
  | [], l => l
  | p :: ps, l => force (pstep l p) (roundF ps)
theorem roundF_eq : ∀ (ps : List (Int × Int)) (l : List Int), roundF ps l = ps.foldl pstep l
  | [], _ => rfl
  | p :: ps, l => by rw [roundF, force_eq, List.foldl_cons, roundF_eq ps]
def pairsE : List (Int × Int) := [(65, 97), (66, 98), (67, 99), (68, 100), (69, 101), (70, 102), (71, 103), (72, 104), (73, 105), (74, 106), (75, 107), (76, 108), (77, 109), (78, 110), (79, 111), (80, 112), (81, 113), (82, 114), (83, 115), (84, 116), (85, 117), (86, 118), (87, 119), (88, 120), (89, 121), (90, 122), (192, 224), (193, 225), (194, 226), (195, 227), (196, 228), (197, 229), (198, 230), (199, 231), (200, 232), (201, 233), (202, 234), (203, 235), (204, 236), (205, 237), (206, 238), (207, 239), (208, 240), (209, 241), (210, 242), (211, 243), (212, 244), (213, 245), (214, 246), (216, 248), (217, 249), (218, 250), (219, 251), (220, 252), (221, 253), (222, 254), (913, 945), (914, 946), (915, 947), (916, 948), (917, 949), (918, 950), (919, 951), (920, 952), (921, 953), (922, 954), (923, 955), (924, 956), (925, 957), (926, 958), (927, 959), (928, 960), (929, 961), (931, 963), (932, 964), (933, 965), (934, 966), (935, 967), (936, 968), (937, 969), (938, 970), (939, 971), (1040, 1072), (1041, 1073), (1042, 1074), (1043, 1075), (1044, 1076), (1045, 1077), (1046, 1078), (1047, 1079), (1048, 1080), (1049, 1081), (1050, 1082), (1051, 1083), (1052, 1084), (1053, 1085), (1054, 1086), (1055, 1087), (1056, 1088), (1057, 1089), (1058, 1090), (1059, 1091), (1060, 1092), (1061, 1093), (1062, 1094), (1063, 1095), (1064, 1096), (1065, 1097), (1066, 1098), (1067, 1099), (1068, 1100), (1069, 1101), (1070, 1102), (1071, 1103), (1024, 1104), (1025, 1105), (1026, 1106), (1027, 1107), (1028, 1108), (1029, 1109), (1030, 1110), (1031, 1111), (1032, 1112), (1033, 1113), (1034, 1114), (1035, 1115), (1036, 1116), (1037, 1117), (1038, 1118), (1039, 1119), (376, 255), (924, 181), (931, 962), (75, 8490), (197, 8491), (83, 383), (937, 8486)]
theorem pairsE_eq : pairsE = pairsL := by decide +kernel
def famF (r : Int) : List Int := force (roundF pairsE [r]) fun l => force (roundF pairsE l) id
theorem famF_eq (r : Int) : famF r = fam r := by
  unfold famF; rw [force_eq, force_eq, roundF_eq, roundF_eq, pairsE_eq]; rfl
def sameL : List Int → List Int → Bool
  | [], [] => true
  | x :: l, y :: m => decide (x = y) && sameL l m
  | _, _ => false
theorem sameL_eq : ∀ (l m : List Int), sameL l m = true → l = m
  | [], [], _ => rfl
  | x :: l, y :: m, h => by
    simp only [sameL, Bool.and_eq_true, decide_eq_true_eq] at h
    rw [h.1, sameL_eq l m h.2]
def ascB : List Int → Bool
  | x :: y :: l => decide (x < y) && ascB (y :: l)
  | _ => true
def famsT : List (List Int) := [[65, 97], [66, 98], [67, 99], [68, 100], [69, 101], [70, 102], [71, 103], [72, 104], [73, 105], [74, 106], [75, 107, 8490], [76, 108], [77, 109], [78, 110], [79, 111], [80, 112], [81, 113], [82, 114], [83, 115, 383], [84, 116], [85, 117], [86, 118], [87, 119], [88, 120], [89, 121], [90, 122], [181, 924, 956], [192, 224], [193, 225], [194, 226], [195, 227], [196, 228], [197, 229, 8491], [198, 230], [199, 231], [200, 232], [201, 233], [202, 234], [203, 235], [204, 236], [205, 237], [206, 238], [207, 239], [208, 240], [209, 241], [210, 242], [211, 243], [212, 244], [213, 245], [214, 246], [216, 248], [217, 249], [218, 250], [219, 251], [220, 252], [221, 253], [222, 254], [255, 376], [913, 945], [914, 946], [915, 947], [916, 948], [917, 949], [918, 950], [919, 951], [920, 952], [921, 953], [922, 954], [923, 955], [925, 957], [926, 958], [927, 959], [928, 960], [929, 961], [931, 962, 963], [932, 964], [933, 965], [934, 966], [935, 967], [936, 968], [937, 969, 8486], [938, 970], [939, 971], [1024, 1104], [1025, 1105], [1026, 1106], [1027, 1107], [1028, 1108], [1029, 1109], [1030, 1110], [1031, 1111], [1032, 1112], [1033, 1113], [1034, 1114], [1035, 1115], [1036, 1116], [1037, 1117], [1038, 1118], [1039, 1119], [1040, 1072], [1041, 1073], [1042, 1074], [1043, 1075], [1044, 1076], [1045, 1077], [1046, 1078], [1047, 1079], [1048, 1080], [1049, 1081], [1050, 1082], [1051, 1083], [1052, 1084], [1053, 1085], [1054, 1086], [1055, 1087], [1056, 1088], [1057, 1089], [1058, 1090], [1059, 1091], [1060, 1092], [1061, 1093], [1062, 1094], [1063, 1095], [1064, 1096], [1065, 1097], [1066, 1098], [1067, 1099], [1068, 1100], [1069, 1101], [1070, 1102], [1071, 1103]]
/-- What the finite check says of a family: it is found from each of its members in two rounds, and a third adds nothing. -/
def okF (F : List Int) : Bool := ascB F && decide (2 ≤ F.length) && decide (F.length ≤ 3) && (F.all fun x => decide (65 ≤ x) && decide (x ≤ 8491)) && sameL (roundF pairsE F) F && F.all fun x => sameL (famF x) F
theorem fams_ok : famsT.all okF = true := by decide +kernel
def membersE : List Int := [65, 97, 66, 98, 67, 99, 68, 100, 69, 101, 70, 102, 71, 103, 72, 104, 73, 105, 74, 106, 75, 107, 76, 108, 77, 109, 78, 110, 79, 111, 80, 112, 81, 113, 82, 114, 83, 115, 84, 116, 85, 117, 86, 118, 87, 119, 88, 120, 89, 121, 90, 122, 192, 224, 193, 225, 194, 226, 195, 227, 196, 228, 197, 229, 198, 230, 199, 231, 200, 232, 201, 233, 202, 234, 203, 235, 204, 236, 205, 237, 206, 238, 207, 239, 208, 240, 209, 241, 210, 242, 211, 243, 212, 244, 213, 245, 214, 246, 216, 248, 217, 249, 218, 250, 219, 251, 220, 252, 221, 253, 222, 254, 913, 945, 914, 946, 915, 947, 916, 948, 917, 949, 918, 950, 919, 951, 920, 952, 921, 953, 922, 954, 923, 955, 924, 956, 925, 957, 926, 958, 927, 959, 928, 960, 929, 961, 931, 963, 932, 964, 933, 965, 934, 966, 935, 967, 936, 968, 937, 969, 938, 970, 939, 971, 1040, 1072, 1041, 1073, 1042, 1074, 1043, 1075, 1044, 1076, 1045, 1077, 1046, 1078, 1047, 1079, 1048, 1080, 1049, 1081, 1050, 1082, 1051, 1083, 1052, 1084, 1053, 1085, 1054, 1086, 1055, 1087, 1056, 1088, 1057, 1089, 1058, 1090, 1059, 1091, 1060, 1092, 1061, 1093, 1062, 1094, 1063, 1095, 1064, 1096, 1065, 1097, 1066, 1098, 1067, 1099, 1068, 1100, 1069, 1101, 1070, 1102, 1071, 1103, 1024, 1104, 1025, 1105, 1026, 1106, 1027, 1107, 1028, 1108, 1029, 1109, 1030, 1110, 1031, 1111, 1032, 1112, 1033, 1113, 1034, 1114, 1035, 1115, 1036, 1116, 1037, 1117, 1038, 1118, 1039, 1119, 376, 255, 924, 181, 931, 962, 75, 8490, 197, 8491, 83, 383, 937, 8486]
theorem membersE_eq : membersE = members := by decide +kernel
theorem members_in : (membersE.all fun r => famsT.any fun F => joinB F r) = true := by decide +kernel
theorem fam_cases (r : Int) : (r ∉ members ∧ fam r = [r]) ∨ (r ∈ members ∧ r ∈ fam r ∧ okF (fam r) = true) := by
  by_cases h : r ∈ members
  · have h1 := List.all_eq_true.1 members_in r (by rw [membersE_eq]; exact h)
    obtain ⟨F, hF, hr⟩ := List.any_eq_true.1 h1
    have hr' := (joinB_iff F r).1 hr
    have hok := List.all_eq_true.1 fams_ok F hF
    have h2 := hok
    simp only [okF, Bool.and_eq_true] at h2
    have h3 := sameL_eq _ _ (List.all_eq_true.1 h2.2 r hr')
    rw [famF_eq] at h3
    exact .inr ⟨h, by rw [h3]; exact hr', by rw [h3]; exact hok⟩
  · exact .inl ⟨h, famI_none h 2⟩
theorem fam_self (r : Int) : r ∈ fam r := by
  rcases fam_cases r with ⟨_, h⟩ | ⟨_, h, _⟩
  · rw [h]; simp
  · exact h
theorem fam_same {r x : Int} (h : x ∈ fam r) : fam x = fam r := by
  rcases fam_cases r with ⟨_, h1⟩ | ⟨_, _, h1⟩
  · rw [h1] at h
    have : x = r := by simpa using h
    rw [this]
  · simp only [okF, Bool.and_eq_true] at h1
    have := sameL_eq _ _ (List.all_eq_true.1 h1.2 x h)
    rwa [famF_eq] at this
theorem ascB_pair : ∀ (l : List Int), ascB l = true → l.Pairwise (· < ·)
  | [], _ => List.Pairwise.nil
  | [x], _ => List.pairwise_singleton _ _
  | x :: y :: l, h => by
    simp only [ascB, Bool.and_eq_true, decide_eq_true_eq] at h
    have ih := ascB_pair (y :: l) h.2
    refine List.pairwise_cons.2 ⟨fun z hz => ?_, ih⟩
    rcases List.mem_cons.1 hz with rfl | hz
    · exact h.1
    · have := (List.pairwise_cons.1 ih).1 z hz
      omega
theorem fam_asc (r : Int) : (fam r).Pairwise (· < ·) := by
  rcases fam_cases r with ⟨_, h1⟩ | ⟨_, _, h1⟩
  · rw [h1]; exact List.pairwise_singleton _ _
  · simp only [okF, Bool.and_eq_true] at h1
    exact ascB_pair _ h1.1.1.1.1.1
theorem fam_len (r : Int) : 1 ≤ (fam r).length ∧ (fam r).length ≤ 3 := by
  rcases fam_cases r with ⟨_, h1⟩ | ⟨_, _, h1⟩
  · rw [h1]; exact ⟨Nat.le_refl _, by simp⟩
  · simp only [okF, Bool.and_eq_true, decide_eq_true_eq] at h1
    omega
theorem fam_bd {r x : Int} (h : x ∈ fam r) : x = r ∨ (65 ≤ x ∧ x ≤ 8491 ∧ 65 ≤ r ∧ r ≤ 8491) := by
  rcases fam_cases r with ⟨_, h1⟩ | ⟨_, h0, h1⟩
  · rw [h1] at h; exact .inl (by simpa using h)
  · simp only [okF, Bool.and_eq_true] at h1
    have hx := List.all_eq_true.1 h1.1.1.2 x h
    have hr := List.all_eq_true.1 h1.1.1.2 r h0
    simp only [Bool.and_eq_true, decide_eq_true_eq] at hx hr
    exact .inr ⟨hx.1, hx.2, hr.1, hr.2⟩
end Go.Proofs.YtanffablfgnioaaGreatDoor.Fd
namespace Go.Proofs.YtanffablfgnioaaGreatDoor.Rg
/-- What lies inside of each range, if anything does. -/
def clip1 (p : R) : Option R := if max p.1 0 ≤ min p.2 1114111 then some (max p.1 0, min p.2 1114111) else none
def clipL (l : List R) : List R := l.filterMap clip1
theorem memL_nil (q : Int) : ¬ memL [] q := by rintro ⟨p, hp, _⟩; cases hp
theorem clip_mem (l : List R) (q : Int) : memL (clipL l) q ↔ hasB l q = true := by
  rw [hasB_iff]
  unfold memL clipL
  constructor
  · rintro ⟨p, hp, h1, h2⟩
    obtain ⟨x, hx, hc⟩ := List.mem_filterMap.1 hp
    unfold clip1 at hc
    split at hc
    · injection hc with hc; subst hc
      simp only at h1 h2
      refine ⟨by omega, x, hx, by omega, by omega⟩
    · cases hc
  · rintro ⟨⟨h0, h1⟩, x, hx, h2, h3⟩
    refine ⟨(max x.1 0, min x.2 1114111), List.mem_filterMap.2 ⟨x, hx, ?_⟩, by show max x.1 0 ≤ q; omega, by show q ≤ min x.2 1114111; omega⟩
    unfold clip1
    rw [if_pos (by omega)]
theorem clip_ok (l : List R) : ∀ p ∈ clipL l, 0 ≤ p.1 ∧ p.1 ≤ p.2 ∧ p.2 ≤ 1114111 := by
  intro p hp
  obtain ⟨x, hx, hc⟩ := List.mem_filterMap.1 hp
  unfold clip1 at hc
  split at hc
  · injection hc with hc; subst hc; simp only; omega
  · cases hc
theorem clip_take_succ (l : List R) (k : Nat) (hk : k < l.length) : clipL (l.take (k + 1)) = clipL (l.take k) ++ (clip1 (l[k]?.getD (0, 0))).toList := by
  unfold clipL
  rw [List.take_succ_eq_append_getElem hk, List.filterMap_append]
  simp [hk, List.filterMap_cons]
  cases clip1 l[k] <;> rfl
theorem clip_len (l : List R) : (clipL l).length ≤ l.length := List.length_filterMap_le _ _
theorem memL_perm {s l : List R} (h : s.Perm l) (q : Int) : memL s q ↔ memL l q := by
  unfold memL
  exact ⟨fun ⟨p, hp, hh⟩ => ⟨p, h.mem_iff.1 hp, hh⟩, fun ⟨p, hp, hh⟩ => ⟨p, h.mem_iff.2 hp, hh⟩⟩
/-! ### Merging a list that is sorted by its beginnings -/
structure Srt (s : List R) : Prop where
  ok : ∀ p ∈ s, 0 ≤ p.1 ∧ p.1 ≤ p.2 ∧ p.2 ≤ 1114111
  asc : s.Pairwise fun a b => a.1 ≤ b.1
structure NInv (s : List R) (k : Nat) (out : List R) : Prop where
  norm : NormL out
  mem : ∀ q, memL out q ↔ memL (s.take k) q
  le : ∀ p ∈ out, ∀ y ∈ s.drop k, p.1 ≤ y.1
  len : out.length ≤ k
theorem NInv.start (s : List R) : NInv s 0 [] := ⟨trivial, (fun q => by rw [List.take_zero]), (fun p h => by cases h), Nat.le_refl _⟩
section
variable {s : List R} {k : Nat}
theorem Srt.at_ (h : Srt s) (hk : k < s.length) : 0 ≤ (s[k]?.getD (0, 0)).1 ∧ (s[k]?.getD (0, 0)).1 ≤ (s[k]?.getD (0, 0)).2 ∧ (s[k]?.getD (0, 0)).2 ≤ 1114111 := by
  rw [List.getElem?_eq_getElem hk]; exact h.ok _ (List.getElem_mem hk)
theorem Srt.behind (h : Srt s) (hk : k < s.length) : ∀ y ∈ s.drop (k + 1), (s[k]?.getD (0, 0)).1 ≤ y.1 := by
  intro y hy
  have hd := List.drop_eq_getElem_cons hk
  have := (List.Pairwise.sublist (List.drop_sublist k s) h.asc)
  rw [hd] at this
  rw [List.getElem?_eq_getElem hk]
  exact (List.pairwise_cons.1 this).1 y hy
theorem mem_take_succ (hk : k < s.length) (q : Int) : memL (s.take (k + 1)) q ↔ memL (s.take k) q ∨ ((s[k]?.getD (0, 0)).1 ≤ q ∧ q ≤ (s[k]?.getD (0, 0)).2) := by
  rw [List.take_succ_eq_append_getElem hk, memL_snoc, List.getElem?_eq_getElem hk]; rfl
theorem mem_drop_succ {y : R} (hy : y ∈ s.drop (k + 1)) : y ∈ s.drop k := by
  have : s.drop (k + 1) = (s.drop k).drop 1 := by rw [List.drop_drop]
  rw [this] at hy
  exact List.mem_of_mem_drop hy
theorem NInv.add {out : List R} {x : R} (h : NInv s k out) (hs : Srt s) (hk : k < s.length) (hx : s[k]?.getD (0, 0) = x) (hl : ∀ p ∈ out, p.2 + 2 ≤ x.1) : NInv s (k + 1) (out ++ [x]) := by
  have ha := hs.at_ hk
  have hb := hs.behind hk
  have hm := fun q => mem_take_succ hk q
  rw [hx] at ha hb hm
  obtain ⟨x1, x2⟩ := x
  refine ⟨norm_snoc out 0 _ _ h.norm hl ha.1 ha.2.1 ha.2.2, fun q => ?_, fun p hp y hy => ?_, by rw [List.length_append]; have := h.len; simp; omega⟩
  · rw [memL_snoc, hm, h.mem]
  · rcases List.mem_append.1 hp with hp | hp
    · exact h.le p hp y (mem_drop_succ hy)
    · simp at hp; subst hp; exact hb y hy
theorem NInv.join {ini : List R} {p x : R} (h : NInv s k (ini ++ [p])) (hs : Srt s) (hk : k < s.length) (hx : s[k]?.getD (0, 0) = x) (hl : x.1 ≤ p.2 + 1) : NInv s (k + 1) (ini ++ [(p.1, max p.2 x.2)]) := by
  have ha := hs.at_ hk
  have hb := hs.behind hk
  have hm := fun q => mem_take_succ hk q
  have hle := h.le p (by simp) x (by rw [List.drop_eq_getElem_cons hk, ← hx, List.getElem?_eq_getElem hk]; exact List.mem_cons_self)
  rw [hx] at ha hb hm
  obtain ⟨a1, a2, a3, a4, a5⟩ := norm_unsnoc ini 0 p h.norm
  refine ⟨norm_snoc ini 0 _ _ a1 a2 a3 (by omega) (by omega), fun q => ?_, fun p' hp y hy => ?_, by have := h.len; simpa using by simp at this; omega⟩
  · rw [memL_snoc, hm, ← h.mem, memL_snoc]
    show _ ∨ (p.1 ≤ q ∧ q ≤ max p.2 x.2) ↔ _
    constructor
    · rintro (h | h)
      · exact .inl (.inl h)
      · by_cases e : q ≤ p.2
        · exact .inl (.inr ⟨h.1, e⟩)
        · exact .inr (by omega)
    · rintro ((h | h) | h)
      · exact .inl h
      · exact .inr (by omega)
      · exact .inr (by omega)
  · rcases List.mem_append.1 hp with hp | hp
    · exact h.le p' (by simp [hp]) y (mem_drop_succ hy)
    · simp at hp; subst hp; exact h.le p (by simp) y (mem_drop_succ hy)
theorem NInv.last {ini : List R} {p x : R} (h : NInv s k (ini ++ [p])) (hl : ¬ x.1 ≤ p.2 + 1) : ∀ y ∈ ini ++ [p], y.2 + 2 ≤ x.1 := by
  obtain ⟨a1, a2, a3, a4, a5⟩ := norm_unsnoc ini 0 p h.norm
  intro y hy
  rcases List.mem_append.1 hy with hy | hy
  · have := a2 y hy; omega
  · simp at hy; subst hy; omega
end
/-- The list of the set of a. -/
def ListOf (a out : List R) : Prop := Made 1 a [] out
theorem NInv.made {s a out : List R} (h : NInv s s.length out) (hm : ∀ q, memL s q ↔ hasB a q = true) : ListOf a out := by
  refine ⟨h.norm, fun q h0 h1 => ?_⟩
  rw [Bool.eq_iff_iff, norm_has h.norm, h.mem, List.take_length, hm]
  simp [opB, hasB]
theorem ListOf.mem {a out : List R} (h : ListOf a out) (q : Int) : memL out q ↔ hasB a q = true := by
  constructor
  · intro hm
    have b := norm_mem_lo h.norm hm
    have := h.has q b.1 b.2
    rw [(norm_has h.norm q).2 hm] at this
    simp [opB] at this
    rcases this with this | this
    · exact this
    · simp [hasB] at this
  · intro hh
    have b := ((hasB_iff a q).1 hh).1
    have := h.has q b.1 b.2
    rw [hh] at this
    exact (norm_has h.norm q).1 (this.trans (by simp [opB]))

/-! ### Turns -/
def turnsN (l : List R) : List Int := l.flatMap fun p => [p.1, p.2 + 1]
def odd (n : Nat) : Bool := n % 2 == 1
def par (T : List Int) (q : Int) : Bool := odd (T.countP fun t => decide (t ≤ q))
theorem turns_cons (p : R) (l : List R) : turnsN (p :: l) = p.1 :: (p.2 + 1) :: turnsN l := rfl
theorem turns_len : ∀ l : List R, (turnsN l).length = l.length * 2
  | [] => rfl
  | p :: l => by rw [turns_cons, List.length_cons, List.length_cons, turns_len l, List.length_cons]; omega
theorem turns_snoc (l : List R) (p : R) : turnsN (l ++ [p]) = turnsN l ++ [p.1, p.2 + 1] := by simp [turnsN]
theorem turns_bd : ∀ (l : List R) (lo : Int), NormFrom lo l → ∀ t ∈ turnsN l, lo ≤ t ∧ t ≤ 1114112
  | [], _, _, t, h => by cases h
  | p :: l, lo, h, t, ht => by
    obtain ⟨h1, h2, h3, h4⟩ := h
    rw [turns_cons] at ht
    rcases List.mem_cons.1 ht with rfl | ht
    · omega
    · rcases List.mem_cons.1 ht with rfl | ht
      · omega
      · have := turns_bd l _ h4 t ht; omega
theorem turns_asc : ∀ (l : List R) (lo : Int), NormFrom lo l → (turnsN l).Pairwise (· < ·)
  | [], _, _ => List.Pairwise.nil
  | p :: l, lo, h => by
    obtain ⟨h1, h2, h3, h4⟩ := h
    have hb := turns_bd l _ h4
    rw [turns_cons]
    refine List.pairwise_cons.2 ⟨fun t ht => ?_, List.pairwise_cons.2 ⟨fun t ht => ?_, turns_asc l _ h4⟩⟩
    · rcases List.mem_cons.1 ht with rfl | ht
      · omega
      · have := hb t ht; omega
    · have := hb t ht; omega
theorem odd_succ (n : Nat) : odd (n + 1) = !odd n := by
  unfold odd
  rcases Nat.mod_two_eq_zero_or_one n with h | h
  · have : (n + 1) % 2 = 1 := by omega
    rw [h, this]; rfl
  · have : (n + 1) % 2 = 0 := by omega
    rw [h, this]; rfl
theorem par_none {T : List Int} {q : Int} (h : ∀ t ∈ T, q < t) : par T q = false := by
  unfold par
  rw [List.countP_eq_zero.2 (fun t ht => by have := h t ht; simp; omega)]; rfl
theorem par_all {T : List Int} {q : Int} (h : ∀ t ∈ T, t ≤ q) : par T q = odd T.length := by
  unfold par
  rw [List.countP_eq_length.2 (fun t ht => by have := h t ht; simp; omega)]
theorem par_cons_le {T : List Int} {t q : Int} (h : t ≤ q) : par (t :: T) q = !par T q := by
  unfold par
  rw [List.countP_cons_of_pos (by simpa using h), odd_succ]
theorem par_snoc_gt {T : List Int} {t q : Int} (h : q < t) : par (T ++ [t]) q = par T q := by
  unfold par
  have e : List.countP (fun t => decide (t ≤ q)) [t] = 0 := List.countP_eq_zero.2 (fun x hx => by simp at hx; subst hx; simp; omega)
  rw [List.countP_append, e]; rfl
theorem par_turns : ∀ (l : List R) (lo q : Int), NormFrom lo l → (par (turnsN l) q = true ↔ memL l q)
  | [], _, q, _ => by
    constructor
    · intro h; cases h
    · intro h; exact absurd h (memL_nil q)
  | p :: l, lo, q, h => by
    obtain ⟨h1, h2, h3, h4⟩ := h
    have ih := par_turns l _ q h4
    have hb := turns_bd l _ h4
    rw [turns_cons, memL_cons]
    by_cases a : q < p.1
    · rw [par_none (fun t ht => by
        rcases List.mem_cons.1 ht with rfl | ht
        · exact a
        · rcases List.mem_cons.1 ht with rfl | ht
          · omega
          · have := hb t ht; omega)]
      constructor
      · intro h; cases h
      · rintro (h | h)
        · omega
        · have := norm_mem_lo h4 h; omega
    · rw [par_cons_le (by omega)]
      by_cases b : q < p.2 + 1
      · rw [par_none (fun t ht => by
          rcases List.mem_cons.1 ht with rfl | ht
          · exact b
          · have := hb t ht; omega)]
        exact ⟨fun _ => .inl (by omega), fun _ => rfl⟩
      · rw [par_cons_le (by omega), Bool.not_not, ih]
        exact ⟨.inr, fun h => by rcases h with h | h; exact absurd h.2 (by omega); exact h⟩
theorem ListOf.par {a out : List R} (h : ListOf a out) (q : Int) : par (turnsN out) q = hasB a q := by
  rw [Bool.eq_iff_iff, par_turns out 0 q h.norm, h.mem]

/-! ### Walking two lists of turns -/
/-- A consumed, A' left; likewise B; out so far. -/
structure WInv (K : Bool → Bool → Bool) (A1 A2 B1 B2 out : List Int) : Prop where
  asc : out.Pairwise (· < ·)
  odd : odd out.length = K (odd A1.length) (odd B1.length)
  lt : ∀ x, (x ∈ A1 ∨ x ∈ B1 ∨ x ∈ out) → ∀ y, (y ∈ A2 ∨ y ∈ B2) → x < y
  par : ∀ q, (∀ y, (y ∈ A2 ∨ y ∈ B2) → q < y) → par out q = K (par A1 q) (par B1 q)
  bd : ∀ x ∈ out, 0 ≤ x ∧ x ≤ 1114112
theorem WInv.start (K : Bool → Bool → Bool) (hK : K false false = false) (A B : List Int) : WInv K [] A [] B [] :=
  ⟨List.Pairwise.nil, hK.symm, (fun x h => by rcases h with h | h | h <;> cases h), (fun q _ => hK.symm), (fun x h => by cases h)⟩
/-- One step: at stands at the head of A or of B, or of both; nothing less stands there. -/
theorem WInv.step {K : Bool → Bool → Bool} {A1 A2 B1 B2 out : List Int} (h : WInv K A1 A2 B1 B2 out) {at_ : Int} {cA cB cO : List Int} {A3 B3 : List Int}
    (hA : A2 = cA ++ A3) (hB : B2 = cB ++ B3) (hcA : cA = [] ∨ cA = [at_]) (hcB : cB = [] ∨ cB = [at_]) (hcO : cO = [] ∨ cO = [at_]) (hin : cA = [at_] ∨ cB = [at_])
    (hA3 : ∀ y ∈ A3, at_ < y) (hB3 : ∀ y ∈ B3, at_ < y) (hb : 0 ≤ at_ ∧ at_ ≤ 1114112)
    (ho : Rg.odd (out ++ cO).length = K (Rg.odd (A1 ++ cA).length) (Rg.odd (B1 ++ cB).length)) : WInv K (A1 ++ cA) A3 (B1 ++ cB) B3 (out ++ cO) := by
  have hat : at_ ∈ A2 ∨ at_ ∈ B2 := by
    rcases hin with h | h
    · exact .inl (by rw [hA, h]; simp)
    · exact .inr (by rw [hB, h]; simp)
  have one : ∀ {c : List Int}, (c = [] ∨ c = [at_]) → ∀ x ∈ c, x = at_ := by
    rintro c (rfl | rfl) x hx
    · cases hx
    · simpa using hx
  have old : ∀ x, (x ∈ A1 ∨ x ∈ B1 ∨ x ∈ out) → x < at_ := fun x hx => h.lt x hx at_ hat
  have all : ∀ x, (x ∈ A1 ++ cA ∨ x ∈ B1 ++ cB ∨ x ∈ out ++ cO) → x ≤ at_ := by
    intro x hx
    simp only [List.mem_append] at hx
    rcases hx with (hx | hx) | (hx | hx) | (hx | hx)
    · have := old x (.inl hx); omega
    · have := one hcA x hx; omega
    · have := old x (.inr (.inl hx)); omega
    · have := one hcB x hx; omega
    · have := old x (.inr (.inr hx)); omega
    · have := one hcO x hx; omega
  refine ⟨?_, ho, fun x hx y hy => ?_, fun q hq => ?_, fun x hx => ?_⟩
  · rcases hcO with rfl | rfl
    · simpa using h.asc
    · exact List.pairwise_append.2 ⟨h.asc, by simp, fun x hx y hy => by simp at hy; subst hy; exact old x (.inr (.inr hx))⟩
  · have h1 := all x hx
    rcases hy with hy | hy
    · have := hA3 y hy; omega
    · have := hB3 y hy; omega
  · by_cases e : q < at_
    · have hq' : ∀ y, (y ∈ A2 ∨ y ∈ B2) → q < y := by
        intro y hy
        rw [hA, hB] at hy
        simp only [List.mem_append] at hy
        rcases hy with (hy | hy) | (hy | hy)
        · rw [one hcA y hy]; exact e
        · exact hq y (.inl hy)
        · rw [one hcB y hy]; exact e
        · exact hq y (.inr hy)
      have ext : ∀ {X c : List Int}, (c = [] ∨ c = [at_]) → Rg.par (X ++ c) q = Rg.par X q := by
        rintro X c (rfl | rfl)
        · rw [List.append_nil]
        · exact par_snoc_gt e
      rw [ext hcA, ext hcB, ext hcO]
      exact h.par q hq'
    · rw [par_all (T := A1 ++ cA) (fun t ht => by have := all t (.inl ht); omega), par_all (T := B1 ++ cB) (fun t ht => by have := all t (.inr (.inl ht)); omega), par_all (T := out ++ cO) (fun t ht => by have := all t (.inr (.inr ht)); omega)]
      exact ho
  · rcases List.mem_append.1 hx with hx | hx
    · exact h.bd x hx
    · rw [one hcO x hx]; exact hb
theorem WInv.fin {K : Bool → Bool → Bool} {A B out : List Int} (h : WInv K A [] B [] out) (q : Int) : Rg.par out q = K (Rg.par A q) (Rg.par B q) :=
  h.par q (fun y hy => by rcases hy with hy | hy <;> cases hy)

/-! ### The ranges between turns -/
def rangesOf : List Int → List R
  | a :: b :: t => (a, b - 1) :: rangesOf t
  | _ => []
theorem turns_rangesOf : ∀ T : List Int, T.length % 2 = 0 → turnsN (rangesOf T) = T
  | [], _ => rfl
  | [a], h => by simp at h
  | a :: b :: t, h => by
    have ih := turns_rangesOf t (by simp at h; omega)
    show turnsN ((a, b - 1) :: rangesOf t) = _
    rw [turns_cons, ih]
    show a :: (b - 1 + 1) :: t = _
    rw [Int.sub_add_cancel]
theorem norm_rangesOf : ∀ (T : List Int) (lo : Int), T.Pairwise (· < ·) → (∀ t ∈ T, lo ≤ t ∧ t ≤ 1114112) → NormFrom lo (rangesOf T)
  | [], _, _, _ => trivial
  | [a], _, _, _ => trivial
  | a :: b :: t, lo, h, hb => by
    have h1 := List.pairwise_cons.1 h
    have h2 := List.pairwise_cons.1 h1.2
    have ab := h1.1 b (by simp)
    have ha := hb a (by simp)
    have hbb := hb b (by simp)
    refine ⟨ha.1, by show a ≤ b - 1; omega, by show b - 1 ≤ 1114111; omega, norm_rangesOf t _ h2.2 (fun x hx => ?_)⟩
    have := h2.1 x hx
    have := hb x (by simp [hx])
    show b - 1 + 2 ≤ x ∧ _
    omega
theorem made_walk {K : Bool → Bool → Bool} {op : Int} {a b na nb : List R} {out : List Int} (hK : ∀ x y, K x y = opB op x y) (ha : ListOf a na) (hb : ListOf b nb)
    (h : WInv K (turnsN na) [] (turnsN nb) [] out) (hl : out.length % 2 = 0) : Made op a b (rangesOf out) := by
  have hn := norm_rangesOf out 0 h.asc h.bd
  refine ⟨hn, fun q h0 h1 => ?_⟩
  rw [← hK, ← ha.par q, ← hb.par q, ← h.fin q, Bool.eq_iff_iff, norm_has hn, ← par_turns _ 0 q hn, turns_rangesOf out hl]
theorem rangesOf_len : ∀ T : List Int, T.length % 2 = 0 → (rangesOf T).length * 2 = T.length
  | [], _ => rfl
  | [a], h => by simp at h
  | a :: b :: t, h => by
    have ih := rangesOf_len t (by simp at h; omega)
    show ((a, b - 1) :: rangesOf t).length * 2 = _
    simp only [List.length_cons]; omega
theorem rangesOf_take : ∀ (T : List Int) (k : Nat), k * 2 + 1 < T.length → rangesOf (T.take (k * 2 + 2)) = rangesOf (T.take (k * 2)) ++ [(T[k * 2]?.getD 0, T[k * 2 + 1]?.getD 0 - 1)]
  | [], k, h => by simp at h
  | [a], k, h => by simp at h
  | a :: b :: t, 0, h => rfl
  | a :: b :: t, k + 1, h => by
    have ih := rangesOf_take t k (by simp at h; omega)
    have e1 : (k + 1) * 2 + 2 = (k * 2 + 2) + 1 + 1 := by omega
    have e2 : (k + 1) * 2 = k * 2 + 1 + 1 := by omega
    rw [e1, e2]
    show (a, b - 1) :: rangesOf (t.take (k * 2 + 2)) = (a, b - 1) :: (rangesOf (t.take (k * 2))) ++ [(t[k * 2]?.getD 0, t[k * 2 + 1]?.getD 0 - 1)]
    rw [ih]; rfl
end Go.Proofs.YtanffablfgnioaaGreatDoor.Rg
namespace Go.Proofs.YtanffablfgnioaaGreatDoor
set_option linter.unusedVariables false
namespace Rg
def check1 (prev : Option Int) (p : R) : Int :=
  if p.1 < 0 ∨ p.2 < 0 ∨ p.1 > 1114111 ∨ p.2 > 1114111 then 1 else if p.1 > p.2 ∨ (∃ h, prev = some h ∧ p.1 - 1 ≤ h) then 4 else 0
def checkF : Option Int → List R → Int
  | _, [] => 0
  | prev, p :: l => if check1 prev p = 0 then checkF (some p.2) l else check1 prev p
def prevAt (l : List R) (k : Nat) : Option Int := if k = 0 then none else some (l[k - 1]?.getD (0, 0)).2
theorem checkF_step (l : List R) (k : Nat) (hk : k < l.length) :
    checkF (prevAt l k) (l.drop k) = if check1 (prevAt l k) (l[k]?.getD (0, 0)) = 0 then checkF (prevAt l (k + 1)) (l.drop (k + 1)) else check1 (prevAt l k) (l[k]?.getD (0, 0)) := by
  rw [List.drop_eq_getElem_cons hk]
  simp only [checkF]
  have e : l[k]?.getD (0, 0) = l[k] := by rw [List.getElem?_eq_getElem hk]; rfl
  rw [e]
  have e2 : prevAt l (k + 1) = some (l[k]).2 := by simp [prevAt, hk]
  rw [e2]
end Rg
end Go.Proofs.YtanffablfgnioaaGreatDoor
namespace Go.Proofs.YtanffablfgnioaaGreatDoor.Rg
set_option linter.unusedVariables false
/-- How many of the first n numbers have F. -/
def cnt (F : Int → Bool) : Nat → Int
  | 0 => 0
  | n + 1 => cnt F n + cond (F n) 1 0
end Go.Proofs.YtanffablfgnioaaGreatDoor.Rg
namespace Go.Proofs.YtanffablfgnioaaGreatDoor.Rg
set_option linter.unusedVariables false
theorem hasB_out {l : List R} {q : Int} (h : ¬ (0 ≤ q ∧ q ≤ 1114111)) : hasB l q = false := by unfold hasB; rw [decide_eq_false h, Bool.false_and]
theorem opB_ff (op : Int) : opB op false false = false := by simp [opB]
theorem Made.at_ {op : Int} {a b out : List R} (h : Made op a b out) (q : Int) : hasB out q = opB op (hasB a q) (hasB b q) := by
  by_cases hq : 0 ≤ q ∧ q ≤ 1114111
  · exact h.has q hq.1 hq.2
  · rw [hasB_out hq, hasB_out hq, hasB_out hq, opB_ff]
theorem Made.or {a b out : List R} (h : Made 1 a b out) (q : Int) : hasB out q = (hasB a q || hasB b q) := by
  rw [h.at_]; cases hasB a q <;> cases hasB b q <;> rfl
theorem Made.and {a b out : List R} (h : Made 2 a b out) (q : Int) : hasB out q = (hasB a q && hasB b q) := by
  rw [h.at_]; cases hasB a q <;> cases hasB b q <;> rfl
theorem Made.sub {a b out : List R} (h : Made 3 a b out) (q : Int) : hasB out q = (hasB a q && !hasB b q) := by
  rw [h.at_]; cases hasB a q <;> cases hasB b q <;> rfl
theorem ListOf.eq {a out : List R} (h : ListOf a out) (q : Int) : hasB out q = hasB a q := by
  rw [Made.or h]; simp [hasB]
theorem norm_listOf {l : List R} (h : NormL l) : ListOf l l := ⟨h, fun q _ _ => by simp [opB, hasB]⟩
/-! ### Check, and what is normalized -/
def CkFrom : Option Int → List R → Prop
  | none, l => NormFrom 0 l
  | some h, l => NormFrom (h + 2) l
theorem check1_zero {prev : Option Int} {p : R} (hp : ∀ h, prev = some h → 0 ≤ h) (h : check1 prev p = 0) : (∀ h, prev = some h → h + 2 ≤ p.1) ∧ 0 ≤ p.1 ∧ p.1 ≤ p.2 ∧ p.2 ≤ 1114111 := by
  unfold check1 at h
  split at h
  · cases h
  · split at h
    · cases h
    · rename_i h1 h2
      refine ⟨fun x hx => ?_, by omega, by omega, by omega⟩
      have : ¬ p.1 - 1 ≤ x := fun hle => h2 (.inr ⟨x, hx, hle⟩)
      omega
theorem check1_ok {prev : Option Int} {p : R} (h : ∀ h, prev = some h → h + 2 ≤ p.1) (h0 : 0 ≤ p.1) (h1 : p.1 ≤ p.2) (h2 : p.2 ≤ 1114111) : check1 prev p = 0 := by
  unfold check1
  rw [if_neg (by omega), if_neg]
  rintro (h3 | ⟨x, hx, h3⟩)
  · omega
  · have := h x hx; omega
theorem ck_iff : ∀ (l : List R) (prev : Option Int), (∀ h, prev = some h → 0 ≤ h) → (checkF prev l = 0 ↔ CkFrom prev l)
  | [], none, _ => ⟨fun _ => trivial, fun _ => rfl⟩
  | [], some h, _ => ⟨fun _ => trivial, fun _ => rfl⟩
  | p :: l, prev, hp => by
    have ih := ck_iff l (some p.2)
    show (if check1 prev p = 0 then checkF (some p.2) l else check1 prev p) = 0 ↔ _
    by_cases h : check1 prev p = 0
    · rw [if_pos h]
      have hz := check1_zero hp h
      rw [ih (fun x hx => by injection hx with hx; omega)]
      cases prev with
      | none => exact ⟨fun k => ⟨hz.2.1, hz.2.2.1, hz.2.2.2, k⟩, fun k => k.2.2.2⟩
      | some x => exact ⟨fun k => ⟨hz.1 x rfl, hz.2.2.1, hz.2.2.2, k⟩, fun k => k.2.2.2⟩
    · rw [if_neg h]
      refine ⟨fun k => absurd k h, fun k => absurd (check1_ok ?_ ?_ ?_ ?_) h⟩
      · intro x hx; subst hx; exact k.1
      · cases prev with
        | none => exact k.1
        | some x => have := k.1; have := hp x rfl; omega
      · cases prev <;> exact k.2.1
      · cases prev <;> exact k.2.2.1
theorem check_norm (l : List R) : checkF none l = 0 ↔ NormL l := ck_iff l none (fun h hh => by cases hh)
end Go.Proofs.YtanffablfgnioaaGreatDoor.Rg
