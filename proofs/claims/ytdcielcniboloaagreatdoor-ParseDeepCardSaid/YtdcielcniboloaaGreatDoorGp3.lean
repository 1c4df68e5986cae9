/- The plain mathematics of case folding: pairs, what they join, families; no program. · Lists of ranges in memory; the contract of the reference's Has (burinref02). · The contract of the reference's Make (burinref02), from edge to edge. · The contracts of burinbook.SameRanges and of the reference's Check, Norm, Not and Count (burinref02). · The reference's Make (burinref02) for operation 1: the list of the set made of two. · Owned lists of ranges read as rows; the contracts of the reference's Norm, All, Not and Count (burinref02), and of burinbook.SameRanges on rows. -/
import Derived.Test.YtdcielcniboloaaGreatDoorRows
import Derived.Test.YtdcielcniboloaaGreatDoorGp1
import Derived.WalkKit
import Derived.OwnWalk
import Derived.WalkLawsBesides
import Derived.WalkSpells
import Derived.Lib.Hide
import Derived.Deep.QuietTactic
import Derived.BigQuiet
import Derived.Maps.AppendAt
import Derived.Deep.AppendLies
import Derived.Laws.OwnMore
import Derived.Laws.StructEq
import Derived.RangeFuncRecord
namespace Go.Proofs.YtdcielcniboloaaGreatDoor.Fd
set_option linter.unusedVariables false
def spanL (lo : Int) (up : Int) : Nat → List (Int × Int)
  | 0 => []
  | n + 1 => (lo, lo + up) :: spanL (lo + 1) up n
def lastP : List (Int × Int) := [(376, 255), (924, 181), (931, 962), (75, 8490), (197, 8491), (83, 383), (937, 8486)]
def pairsL : List (Int × Int) := spanL 65 32 26 ++ spanL 192 32 23 ++ spanL 216 32 7 ++ spanL 913 32 17 ++ spanL 931 32 9 ++ spanL 1040 32 32 ++ spanL 1024 80 16 ++ lastP
def joinB : List Int → Int → Bool
  | [], _ => false
  | x :: l, r => decide (x = r) || joinB l r
def insL : List Int → Int → List Int
  | [], r => [r]
  | x :: l, r => if x < r then x :: insL l r else r :: x :: l
def withL (l : List Int) (r : Int) : List Int := if joinB l r then l else insL l r
def step1 (l : List Int) (p : Int × Int) : List Int := if joinB l p.1 then withL l p.2 else l
def step2 (l : List Int) (p : Int × Int) : List Int := if joinB l p.2 then withL l p.1 else l
def pstep (l : List Int) (p : Int × Int) : List Int := step2 (step1 l p) p
def round1 (l : List Int) : List Int := pairsL.foldl pstep l
def famI (r : Int) : Nat → List Int
  | 0 => [r]
  | j + 1 => round1 (famI r j)
def fam (r : Int) : List Int := famI r 2
def members : List Int := pairsL.flatMap fun p => [p.1, p.2]
theorem joinB_iff : ∀ (l : List Int) (r : Int), joinB l r = true ↔ r ∈ l
  | [], r => by simp [joinB]
  | x :: l, r => by
    simp only [joinB, Bool.or_eq_true, decide_eq_true_eq, joinB_iff l r, List.mem_cons]
    exact ⟨fun h => h.imp Eq.symm id, fun h => h.imp Eq.symm id⟩
theorem pstep_none {r : Int} {p : Int × Int} (h1 : p.1 ≠ r) (h2 : p.2 ≠ r) : pstep [r] p = [r] := by
  have a1 : joinB [r] p.1 = false := by rw [Bool.eq_false_iff]; intro h; rw [joinB_iff] at h; simp at h; exact h1 h
  have a2 : joinB [r] p.2 = false := by rw [Bool.eq_false_iff]; intro h; rw [joinB_iff] at h; simp at h; exact h2 h
  unfold pstep step1 step2
  rw [a1]
  simp [a2]
theorem fold_none {r : Int} : ∀ l : List (Int × Int), (∀ p ∈ l, p.1 ≠ r ∧ p.2 ≠ r) → l.foldl pstep [r] = [r]
  | [], _ => rfl
  | p :: l, h => by
    rw [List.foldl_cons, pstep_none (h p (by simp)).1 (h p (by simp)).2]
    exact fold_none l (fun q hq => h q (by simp [hq]))
theorem round_none {r : Int} (h : r ∉ members) : round1 [r] = [r] :=
  fold_none pairsL (fun p hp => ⟨fun e => h (List.mem_flatMap.2 ⟨p, hp, by simp [e]⟩), fun e => h (List.mem_flatMap.2 ⟨p, hp, by simp [e]⟩)⟩)
theorem famI_none {r : Int} (h : r ∉ members) : ∀ j, famI r j = [r]
  | 0 => rfl
  | j + 1 => by rw [famI, famI_none h j, round_none h]
/-- The same, so written that it reckons fast. -/
def force (l : List Int) (k : List Int → List Int) : List Int :=
  match l with
  | [] => k []
  | [a] => k [a]
  | [a, b] => k [a, b]
  | [a, b, c] => k [a, b, c]
  | l => k l
theorem force_eq (l : List Int) (k : List Int → List Int) : force l k = k l := by
  unfold force; split <;> rfl
def roundF : List (Int × Int) → List Int → List Int
  | [], l => l
  | p :: ps, l => force (pstep l p) (roundF ps)
theorem roundF_eq : ∀ (ps : List (Int × Int)) (l : List Int), roundF ps l = ps.foldl pstep l
  | [], _ => rfl
  | p :: ps, l => by rw [roundF, force_eq, List.foldl_cons, roundF_eq ps]
def pairsE : List (Int × Int) := [(65, 97), (66, 98), (67, 99), (68, 100), (69, 101), (70, 102), (71, 103), (72, 104), (73, 105), (74, 106), (75, 107), (76, 108), (77, 109), (78, 110), (79, 111), (80, 112), (81, 113), (82, 114), (83, 115), (84, 116), (85, 117), (86, 118), (87, 119), (88, 120), (89, 121), (90, 122), (192, 224), (193, 225), (194, 226), (195, 227), (196, 228), (197, 229), (198, 230), (199, 231), (200, 232), (201, 233), (202, 234), (203, 235), (204, 236), (205, 237), (206, 238), (207, 239), (208, 240), (209, 241), (210, 242), (211, 243), (212, 244), (213, 245), (214, 246), (216, 248), (217, 249), (218, 250), (219, 251), (220, 252), (221, 253), (222, 254), (913, 945), (914, 946), (915, 947), (916, 948), (917, 949), (918, 950), (919, 951), (920, 952), (921, 953), (922, 954), (923, 955), (924, 956), (925, 957), (926, 958), (927, 959), (928, 960), (929, 961), (931, 963), (932, 964), (933, 965), (934, 966), (935, 967), (936, 968), (937, 969), (938, 970), (939, 971), (1040, 1072), (1041, 1073), (1042, 1074), (1043, 1075), (1044, 1076), (1045, 1077), (1046, 1078), (1047, 1079), (1048, 1080), (1049, 1081), (1050, 1082), (1051, 1083), (1052, 1084), (1053, 1085), (1054, 1086), (1055, 1087), (1056, 1088), (1057, 1089), (1058, 1090), (1059, 1091), (1060, 1092), (1061, 1093), (1062, 1094), (1063, 1095), (1064, 1096), (1065, 1097), (1066, 1098), (1067, 1099), (1068, 1100), (1069, 1101), (1070, 1102), (1071, 1103), (1024, 1104), (1025, 1105), (1026, 1106), (1027, 1107), (1028, 1108), (1029, 1109), (1030, 1110), (1031, 1111), (1032, 1112), (1033, 1113), (1034, 1114), (1035, 1115), (1036, 1116), (1037, 1117), (1038, 1118), (1039, 1119), (376, 255), (924, 181), (931, 962), (75, 8490), (197, 8491), (83, 383), (937, 8486)]
theorem pairsE_eq : pairsE = pairsL := by decide +kernel
def famF (r : Int) : List Int := force (roundF pairsE [r]) fun l => force (roundF pairsE l) id
theorem famF_eq (r : Int) : famF r = fam r := by
  unfold famF; rw [force_eq, force_eq, roundF_eq, roundF_eq, pairsE_eq]; rfl
def sameL : List Int → List Int → Bool
  | [], [] => true
  | x :: l, y :: m => decide (x = y) && sameL l m
  | _, _ => false
theorem sameL_eq : ∀ (l m : List Int), sameL l m = true → l = m
  | [], [], _ => rfl
  | x :: l, y :: m, h => by
    simp only [sameL, Bool.and_eq_true, decide_eq_true_eq] at h
    rw [h.1, sameL_eq l m h.2]
def ascB : List Int → Bool
  | x :: y :: l => decide (x < y) && ascB (y :: l)
  | _ => true
def famsT : List (List Int) := [[65, 97], [66, 98], [67, 99], [68, 100], [69, 101], [70, 102], [71, 103], [72, 104], [73, 105], [74, 106], [75, 107, 8490], [76, 108], [77, 109], [78, 110], [79, 111], [80, 112], [81, 113], [82, 114], [83, 115, 383], [84, 116], [85, 117], [86, 118], [87, 119], [88, 120], [89, 121], [90, 122], [181, 924, 956], [192, 224], [193, 225], [194, 226], [195, 227], [196, 228], [197, 229, 8491], [198, 230], [199, 231], [200, 232], [201, 233], [202, 234], [203, 235], [204, 236], [205, 237], [206, 238], [207, 239], [208, 240], [209, 241], [210, 242], [211, 243], [212, 244], [213, 245], [214, 246], [216, 248], [217, 249], [218, 250], [219, 251], [220, 252], [221, 253], [222, 254], [255, 376], [913, 945], [914, 946], [915, 947], [916, 948], [917, 949], [918, 950], [919, 951], [920, 952], [921, 953], [922, 954], [923, 955], [925, 957], [926, 958], [927, 959], [928, 960], [929, 961], [931, 962, 963], [932, 964], [933, 965], [934, 966], [935, 967], [936, 968], [937, 969, 8486], [938, 970], [939, 971], [1024, 1104], [1025, 1105], [1026, 1106], [1027, 1107], [1028, 1108], [1029, 1109], [1030, 1110], [1031, 1111], [1032, 1112], [1033, 1113], [1034, 1114], [1035, 1115], [1036, 1116], [1037, 1117], [1038, 1118], [1039, 1119], [1040, 1072], [1041, 1073], [1042, 1074], [1043, 1075], [1044, 1076], [1045, 1077], [1046, 1078], [1047, 1079], [1048, 1080], [1049, 1081], [1050, 1082], [1051, 1083], [1052, 1084], [1053, 1085], [1054, 1086], [1055, 1087], [1056, 1088], [1057, 1089], [1058, 1090], [1059, 1091], [1060, 1092], [1061, 1093], [1062, 1094], [1063, 1095], [1064, 1096], [1065, 1097], [1066, 1098], [1067, 1099], [1068, 1100], [1069, 1101], [1070, 1102], [1071, 1103]]
/-- What the finite check says of a family: it is found from each of its members in two rounds, and a third adds nothing. -/
def okF (F : List Int) : Bool := ascB F && decide (2 ≤ F.length) && decide (F.length ≤ 3) && (F.all fun x => decide (65 ≤ x) && decide (x ≤ 8491)) && sameL (roundF pairsE F) F && F.all fun x => sameL (famF x) F
theorem fams_ok : famsT.all okF = true := by decide +kernel
def membersE : List Int := [65, 97, 66, 98, 67, 99, 68, 100, 69, 101, 70, 102, 71, 103, 72, 104, 73, 105, 74, 106, 75, 107, 76, 108, 77, 109, 78, 110, 79, 111, 80, 112, 81, 113, 82, 114, 83, 115, 84, 116, 85, 117, 86, 118, 87, 119, 88, 120, 89, 121, 90, 122, 192, 224, 193, 225, 194, 226, 195, 227, 196, 228, 197, 229, 198, 230, 199, 231, 200, 232, 201, 233, 202, 234, 203, 235, 204, 236, 205, 237, 206, 238, 207, 239, 208, 240, 209, 241, 210, 242, 211, 243, 212, 244, 213, 245, 214, 246, 216, 248, 217, 249, 218, 250, 219, 251, 220, 252, 221, 253, 222, 254, 913, 945, 914, 946, 915, 947, 916, 948, 917, 949, 918, 950, 919, 951, 920, 952, 921, 953, 922, 954, 923, 955, 924, 956, 925, 957, 926, 958, 927, 959, 928, 960, 929, 961, 931, 963, 932, 964, 933, 965, 934, 966, 935, 967, 936, 968, 937, 969, 938, 970, 939, 971, 1040, 1072, 1041, 1073, 1042, 1074, 1043, 1075, 1044, 1076, 1045, 1077, 1046, 1078, 1047, 1079, 1048, 1080, 1049, 1081, 1050, 1082, 1051, 1083, 1052, 1084, 1053, 1085, 1054, 1086, 1055, 1087, 1056, 1088, 1057, 1089, 1058, 1090, 1059, 1091, 1060, 1092, 1061, 1093, 1062, 1094, 1063, 1095, 1064, 1096, 1065, 1097, 1066, 1098, 1067, 1099, 1068, 1100, 1069, 1101, 1070, 1102, 1071, 1103, 1024, 1104, 1025, 1105, 1026, 1106, 1027, 1107, 1028, 1108, 1029, 1109, 1030, 1110, 1031, 1111, 1032, 1112, 1033, 1113, 1034, 1114, 1035, 1115, 1036, 1116, 1037, 1117, 1038, 1118, 1039, 1119, 376, 255, 924, 181, 931, 962, 75, 8490, 197, 8491, 83, 383, 937, 8486]
theorem membersE_eq : membersE = members := by decide +kernel
theorem members_in : (membersE.all fun r => famsT.any fun F => joinB F r) = true := by decide +kernel
theorem fam_cases (r : Int) : (r ∉ members ∧ fam r = [r]) ∨ (r ∈ members ∧ r ∈ fam r ∧ okF (fam r) = true) := by
  by_cases h : r ∈ members
  · have h1 := List.all_eq_true.1 members_in r (by rw [membersE_eq]; exact h)
    obtain ⟨F, hF, hr⟩ := List.any_eq_true.1 h1
    have hr' := (joinB_iff F r).1 hr
    have hok := List.all_eq_true.1 fams_ok F hF
    have h2 := hok
    simp only [okF, Bool.and_eq_true] at h2
    have h3 := sameL_eq _ _ (List.all_eq_true.1 h2.2 r hr')
    rw [famF_eq] at h3
    exact .inr ⟨h, by rw [h3]; exact hr', by rw [h3]; exact hok⟩
  · exact .inl ⟨h, famI_none h 2⟩
theorem fam_self (r : Int) : r ∈ fam r := by
  rcases fam_cases r with ⟨_, h⟩ | ⟨_, h, _⟩
  · rw [h]; simp
  · exact h
theorem fam_same {r x : Int} (h : x ∈ fam r) : fam x = fam r := by
  rcases fam_cases r with ⟨_, h1⟩ | ⟨_, _, h1⟩
  · rw [h1] at h
    have : x = r := by simpa using h
    rw [this]
  · simp only [okF, Bool.and_eq_true] at h1
    have := sameL_eq _ _ (List.all_eq_true.1 h1.2 x h)
    rwa [famF_eq] at this
theorem ascB_pair : ∀ (l : List Int), ascB l = true → l.Pairwise (· < ·)
  | [], _ => List.Pairwise.nil
  | [x], _ => List.pairwise_singleton _ _
  | x :: y :: l, h => by
    simp only [ascB, Bool.and_eq_true, decide_eq_true_eq] at h
    have ih := ascB_pair (y :: l) h.2
    refine List.pairwise_cons.2 ⟨fun z hz => ?_, ih⟩
    rcases List.mem_cons.1 hz with rfl | hz
    · exact h.1
    · have := (List.pairwise_cons.1 ih).1 z hz
      omega
theorem fam_asc (r : Int) : (fam r).Pairwise (· < ·) := by
  rcases fam_cases r with ⟨_, h1⟩ | ⟨_, _, h1⟩
  · rw [h1]; exact List.pairwise_singleton _ _
  · simp only [okF, Bool.and_eq_true] at h1
    exact ascB_pair _ h1.1.1.1.1.1
theorem fam_len (r : Int) : 1 ≤ (fam r).length ∧ (fam r).length ≤ 3 := by
  rcases fam_cases r with ⟨_, h1⟩ | ⟨_, _, h1⟩
  · rw [h1]; exact ⟨Nat.le_refl _, by simp⟩
  · simp only [okF, Bool.and_eq_true, decide_eq_true_eq] at h1
    omega
theorem fam_bd {r x : Int} (h : x ∈ fam r) : x = r ∨ (65 ≤ x ∧ x ≤ 8491 ∧ 65 ≤ r ∧ r ≤ 8491) := by
  rcases fam_cases r with ⟨_, h1⟩ | ⟨_, h0, h1⟩
  · rw [h1] at h; exact .inl (by simpa using h)
  · simp only [okF, Bool.and_eq_true] at h1
    have hx := List.all_eq_true.1 h1.1.1.2 x h
    have hr := List.all_eq_true.1 h1.1.1.2 r h0
    simp only [Bool.and_eq_true, decide_eq_true_eq] at hx hr
    exact .inr ⟨hx.1, hx.2, hr.1, hr.2⟩
end Go.Proofs.YtdcielcniboloaaGreatDoor.Fd
namespace Go.Proofs.YtdcielcniboloaaGreatDoor
open Go.RowKit
set_option linter.unusedVariables false
def RRow (W : World) (v : Value) (l : List (Int × Int)) : Prop :=
  ∃ a cap, v = .slice a l.length cap ∧ l.length ≤ 8796093022208 ∧ (∀ p ∈ l, -9223372036854775808 ≤ p.1 ∧ p.1 ≤ 9223372036854775807 ∧ -9223372036854775808 ≤ p.2 ∧ p.2 ≤ 9223372036854775807) ∧ ∀ j, j < l.length → ∃ b off, a = some ⟨b, off, none⟩ ∧ b < W.heap.size ∧
    W.cell? ⟨b, off + j * 2, none⟩ = some (.int .i64 (l[j]?.getD (0, 0)).1) ∧ W.cell? ⟨b, off + j * 2 + 1, none⟩ = some (.int .i64 (l[j]?.getD (0, 0)).2)
theorem RRow.below {W W' : World} {v : Value} {l : List (Int × Int)} (h : RRow W v l) {B : Nat} (hB : W.heap.size ≤ B) (hb : Below B W W') : RRow W' v l := by
  obtain ⟨a, cap, hv, hl, hw, hc⟩ := h
  refine ⟨a, cap, hv, hl, hw, fun j hj => ?_⟩
  obtain ⟨b, off, ha, hlt, h1, h2⟩ := hc j hj
  exact ⟨b, off, ha, Nat.lt_of_lt_of_le hlt hb.size, (hb.cell (p := ⟨b, off + j * 2, none⟩) (by show b < B; omega)).trans h1, (hb.cell (p := ⟨b, off + j * 2 + 1, none⟩) (by show b < B; omega)).trans h2⟩
end Go.Proofs.YtdcielcniboloaaGreatDoor
namespace Go.Proofs.YtdcielcniboloaaGreatDoor
open Go.RowKit
set_option linter.unusedVariables false
theorem Tryz.infoRange : (Tryz.prog.info? 97).map (fun i => (i.zero, i.size, i.bytes)) = some (some (.agg #[.int .i64 0, .int .i64 0]), 2, 16) := by kernel_rfl
abbrev flat2 (l : List (Int × Int)) : List Value := l.flatMap fun p => [Value.int .i64 p.1, Value.int .i64 p.2]
theorem flat2_snoc (l : List (Int × Int)) (p : Int × Int) : flat2 (l ++ [p]) = flat2 l ++ [Value.int .i64 p.1, Value.int .i64 p.2] := by simp [flat2]
theorem flat2_len (l : List (Int × Int)) : (flat2 l).length = l.length * 2 := by
  induction l with
  | nil => rfl
  | cons p l ih => show ([_, _] ++ flat2 l).length = _; rw [List.length_append, ih]; simp; omega
/-- A list of ranges that a call owns. -/
def RgOwn (W : World) (base : Nat) (v : Value) (l : List (Int × Int)) : Prop := W.ownsRow base 97 2 v l.length (flat2 l)
theorem RgOwn.below {W W' : World} {base : Nat} {v : Value} {l : List (Int × Int)} (h : RgOwn W base v l) (hb : Below W.heap.size W W') : RgOwn W' base v l :=
  h.kept ⟨hb.os, hb.tape, hb.output, hb.size, fun k hk _ => hb.block k hk⟩ (row := none) (by cases hv : v.ownBlock <;> simp)
theorem RgOwn.hi {W : World} {base g cap : Nat} {l : List (Int × Int)} {p : Int × Int} (h : RgOwn W base (.slice (some ⟨g, 0, none⟩) (l.length + 1) cap) (l ++ [p])) :
    W.cell? ⟨g, l.length * 2 + 1, none⟩ = some (.int .i64 p.2) ∧ W.frozen? ⟨g, l.length * 2 + 1, none⟩ = false := by
  have h' : W.ownsRow base 97 2 (.slice (some ⟨g, 0, none⟩) (l.length + 1) cap) (l.length + 1) (flat2 l ++ [Value.int .i64 p.1, Value.int .i64 p.2]) := by
    have := h; unfold RgOwn at this; rw [List.length_append, flat2_snoc] at this; exact this
  refine ⟨?_, h'.frozenAt _⟩
  rw [h'.cellAt _ (by omega), List.getElem?_append_right (by rw [flat2_len]; omega), flat2_len]
  rw [show l.length * 2 + 1 - l.length * 2 = 1 from by omega]; rfl
theorem RgOwn.setHi {W : World} {base g cap : Nat} {l : List (Int × Int)} {p : Int × Int} (h : RgOwn W base (.slice (some ⟨g, 0, none⟩) (l.length + 1) cap) (l ++ [p])) (y : Int) :
    RgOwn (W.setCell ⟨g, l.length * 2 + 1, none⟩ (.int .i64 y)) base (.slice (some ⟨g, 0, none⟩) (l.length + 1) cap) (l ++ [(p.1, y)]) := by
  have h' : W.ownsRow base 97 2 (.slice (some ⟨g, 0, none⟩) (l.length + 1) cap) (l.length + 1) (flat2 l ++ [Value.int .i64 p.1, Value.int .i64 p.2]) := by
    have := h; unfold RgOwn at this; rw [List.length_append, flat2_snoc] at this; exact this
  have hs := (h'.stored (l.length * 2 + 1) (.int .i64 y)).1
  have e : (flat2 l ++ [Value.int .i64 p.1, Value.int .i64 p.2]).set (l.length * 2 + 1) (.int .i64 y) = flat2 (l ++ [(p.1, y)]) := by
    rw [flat2_snoc, List.set_append_right _ _ (by rw [flat2_len]; omega), flat2_len, show l.length * 2 + 1 - l.length * 2 = 1 from by omega]; rfl
  rw [e] at hs
  unfold RgOwn
  rw [List.length_append]
  exact hs
theorem RgOwn.form {W : World} {base : Nat} {v : Value} {l : List (Int × Int)} {p : Int × Int} (h : RgOwn W base v (l ++ [p])) : ∃ g cap, v = .slice (some ⟨g, 0, none⟩) (l.length + 1) cap ∧ base ≤ g ∧ g < W.heap.size := by
  unfold RgOwn at h
  rw [List.length_append] at h
  rcases h.2 with ⟨_, h0⟩ | ⟨g, cap, cur, hv, hb, hg, _⟩
  · simp at h0
  · exact ⟨g, cap, hv, hb, (Array.getElem?_eq_some_iff.1 hg).1⟩
theorem RgOwn.nil {W : World} {base : Nat} : RgOwn W base (.slice none 0 0) [] := World.ownsRow_nil _ _ _ _
theorem RgOwn.empty {W : World} {base : Nat} {v : Value} (h : RgOwn W base v []) : ∃ a cap, v = .slice a 0 cap := by
  rcases h.2 with ⟨hv, _⟩ | ⟨g, cap, cur, hv, _⟩
  · exact ⟨none, 0, hv⟩
  · exact ⟨_, cap, hv⟩

def MakePost (op : Int) (a b : List (Int × Int)) (W : World) (e : Ending) (w' : World) : Prop := ∃ v out, e = .returned v ∧ Rg.Made op a b out ∧ RgOwn w' W.heap.size v out ∧ Below W.heap.size W w'
theorem nil_or_snoc {α : Type} (l : List α) : l = [] ∨ ∃ ini p, l = ini ++ [p] := by
  rcases List.eq_nil_or_concat l with h | ⟨ini, p, h⟩
  · exact .inl h
  · exact .inr ⟨ini, p, by rw [h, List.concat_eq_append]⟩
theorem RgOwn.slice {W : World} {base : Nat} {v : Value} {l : List (Int × Int)} (h : RgOwn W base v l) : ∃ a cap, v = .slice a l.length cap := by
  rcases h.2 with ⟨hv, h0⟩ | ⟨g, cap, cur, hv, _⟩
  · exact ⟨none, 0, by rw [h0]; exact hv⟩
  · exact ⟨_, cap, hv⟩

end Go.Proofs.YtdcielcniboloaaGreatDoor
namespace Go.Proofs.YtdcielcniboloaaGreatDoor
open Go.RowKit
set_option linter.unusedVariables false
theorem take_succ_eq {α : Type} [Inhabited α] {d : α} (l m : List α) (k : Nat) (hl : k < l.length) (hm : k < m.length) :
    l.take (k + 1) = m.take (k + 1) ↔ l.take k = m.take k ∧ l[k]?.getD d = m[k]?.getD d := by
  rw [List.take_add_one, List.take_add_one, List.getElem?_eq_getElem hl, List.getElem?_eq_getElem hm]
  constructor
  · intro h
    have := List.append_inj h (by simp; omega)
    exact ⟨this.1, by simpa using this.2⟩
  · rintro ⟨h1, h2⟩
    rw [h1]
    simp only [Option.getD_some] at h2
    simp [h2]
end Go.Proofs.YtdcielcniboloaaGreatDoor
namespace Go.Proofs.YtdcielcniboloaaGreatDoor
open Go.RowKit
set_option linter.unusedVariables false
end Go.Proofs.YtdcielcniboloaaGreatDoor
namespace Go.Proofs.YtdcielcniboloaaGreatDoor
open Go.RowKit
set_option linter.unusedVariables false
namespace Rg
theorem norm_len : ∀ (l : List R) (lo : Int), NormFrom lo l → lo ≤ 1114113 → (l.length : Int) + lo ≤ 1114113
  | [], lo, _, h => by simpa using h
  | p :: l, lo, ⟨h1, h2, h3, h4⟩, h => by
    have := norm_len l (p.2 + 2) h4 (by omega)
    rw [List.length_cons]; push_cast; omega
/-- How many numbers: of a normalized list. -/
def sumL (l : List R) : Int := (l.map fun p => p.2 - p.1 + 1).sum
theorem norm_get {l : List R} (h : NormL l) (k : Nat) (hk : k < l.length) : 0 ≤ (l[k]?.getD (0, 0)).1 ∧ (l[k]?.getD (0, 0)).1 ≤ (l[k]?.getD (0, 0)).2 ∧ (l[k]?.getD (0, 0)).2 ≤ 1114111 := by
  rw [List.getElem?_eq_getElem hk]
  exact norm_lo l 0 h _ (List.getElem_mem hk)
end Rg
theorem flat2_get : ∀ (l : List (Int × Int)) (j : Nat), j < l.length → (flat2 l)[j * 2]? = some (.int .i64 (l[j]?.getD (0, 0)).1) ∧ (flat2 l)[j * 2 + 1]? = some (.int .i64 (l[j]?.getD (0, 0)).2)
  | p :: l, 0, _ => ⟨rfl, rfl⟩
  | p :: l, j + 1, h => by
    have := flat2_get l j (by simpa using h)
    have e : flat2 (p :: l) = Value.int .i64 p.1 :: Value.int .i64 p.2 :: flat2 l := rfl
    rw [e, show (j + 1) * 2 = j * 2 + 1 + 1 by omega]
    simpa using this
abbrev Wide64 (l : List (Int × Int)) : Prop := ∀ p ∈ l, -9223372036854775808 ≤ p.1 ∧ p.1 ≤ 9223372036854775807 ∧ -9223372036854775808 ≤ p.2 ∧ p.2 ≤ 9223372036854775807
theorem RgOwn.row {W : World} {base : Nat} {v : Value} {l : List (Int × Int)} (h : RgOwn W base v l) (hl : l.length ≤ 8796093022208) (hw : Wide64 l) : RRow W v l := by
  obtain ⟨a, cap, rfl⟩ := h.slice
  refine ⟨a, cap, rfl, hl, hw, fun j hj => ?_⟩
  have hf := flat2_get l j hj
  have hln := flat2_len l
  rcases h.2 with ⟨hv, h0⟩ | ⟨g, cap', cur, hv, hb, hg, _⟩
  · omega
  · injection hv with hv _ _
    subst hv
    refine ⟨g, 0, rfl, (Array.getElem?_eq_some_iff.1 hg).1, ?_, ?_⟩
    · rw [Nat.zero_add, h.cellAt _ (by omega)]; exact hf.1
    · rw [Nat.zero_add, h.cellAt _ (by omega)]; exact hf.2
theorem RgOwn.normRow {W : World} {base : Nat} {v : Value} {l : List (Int × Int)} (h : RgOwn W base v l) (hn : Rg.NormL l) : RRow W v l := by
  refine h.row ?_ ?_
  · have := Rg.norm_len l 0 hn (by omega); omega
  · intro p hp; have := Rg.norm_lo l 0 hn p hp; omega
theorem RRow.nil (W : World) : RRow W (.slice none 0 0) [] := ⟨none, 0, rfl, Nat.zero_le _, (fun p h => by cases h), fun j h => by cases h⟩
theorem RRow.drewN {W : World} {v : Value} {l : List (Int × Int)} (h : RRow W v l) (d : Nat) : RRow (W.drewN d) v l := h
end Go.Proofs.YtdcielcniboloaaGreatDoor
