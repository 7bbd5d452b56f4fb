/- A case of a round. -/
import Derived.Test.YtnpjnmkmjcpjmaaDoorSpLoop
set_option linter.unusedVariables false
namespace Go.Proofs.YtnpjnmkmjcpjmaaDoor
open Go.RowKit

set_option maxHeartbeats 4000000 in
set_option maxRecDepth 1000000 in
theorem st_SpOpBad (s : ByteArray) (w : World) (hs : s.size ≤ 65536) (c1 c15 c16 c17 c18 c19 c20 c217 c218 c219 c220 c221 c222 c223 c224 c225 u2 u3 u4 u8 u9 u10 u11 u12 u13 u14 u21 u22 u23 u24 u25 u26 u27 u28 u29 u30 u31 u32 u33 u34 u35 u36 u37 u38 u39 u40 u41 u42 u43 u44 u45 u46 u47 u48 u49 u50 u51 u52 u53 u54 u55 u56 u57 u58 u59 u60 u61 u62 u63 u64 u65 u66 u67 u68 u69 u70 u71 u72 u73 u74 u75 u76 u77 u78 u79 u80 u81 u82 u83 u84 u85 u86 u87 u88 u89 u90 u91 u92 u93 u94 u95 u96 u97 u98 u99 u100 u101 u102 u103 u104 u105 u106 u107 u108 u109 u110 u111 u112 u113 u114 u115 u116 u117 u118 u119 u120 u121 u122 u123 u124 u125 u126 u127 u128 u129 u130 u131 u132 u133 u134 u135 u136 u137 u138 u139 u140 u141 u142 u143 u144 u145 u146 u147 u148 u149 u150 u151 u152 u153 u154 u155 u156 u157 u158 u159 u160 u161 u162 u163 u164 u165 u166 u167 u168 u169 u170 u171 u172 u173 u174 u175 u176 u177 u178 u179 u180 u181 u182 u183 u184 u185 u186 u187 u188 u189 u190 u191 u192 u193 u194 u195 u196 u197 u198 u199 u200 u201 u202 u203 u204 u205 u206 u207 u208 u209 u210 u211 u212 u213 u214 u215 u216 : Value) (wr : World) (toks : List Tok) (p g cap : Nat) (hlen : toks.length ≤ 4001)
    (Q0 : Exit → Act → World → Prop) (HRet : Hid (StRet s w Q0)) (HReach : Hid (Reach s.data.toList p toks)) (HOwn : Hid (wr.ownsRow (w.heap.size + 1) 37 3 (.slice (some ⟨g, 0, none⟩) toks.length cap) toks.length (flat toks))) (HB : Hid (Below (w.heap.size + 1) (w.alloc (.cells #[] 37)) wr))
    (hp : p < s.size) (hm : toks.length ≤ 4000) (c : Int) (hc : (s[p].toNat : Int) = c) (h10 : c ≠ 10) (hbl : blankB c = false) (HL : Hid (letterB c = false)) (HD : Hid (digitB c = false)) (h59 : c ≠ 59) (hcm : ¬ (c = 47 ∧ ∃ h : p + 1 < s.size, (s[p + 1].toNat : Int) = 47)) (hz : (signAt (s.data.toList.drop p)).toList.isEmpty = true) (HAns : Hid (Answers s.data.toList ⟨[], 4, p⟩)) :
    Code.wp Tryd.prog stBody (Exit.then (fun a' w'' => StWI s w c1 c15 c16 c17 c18 c19 c20 c217 c218 c219 c220 c221 c222 c223 c224 c225 a' w'' ∧ StMu s a' w'' < StMu s ⟨#[.string s, c1, u2, u3, u4, .slice (some ⟨w.heap.size, 0, none⟩) 0 0, .slice (some ⟨g, 0, none⟩) toks.length cap, .int .i64 p, u8, u9, u10, u11, u12, u13, u14, c15, c16, c17, c18, c19, c20, u21, u22, u23, u24, u25, u26, u27, u28, u29, u30, u31, u32, u33, u34, u35, u36, u37, u38, u39, u40, u41, u42, u43, u44, u45, u46, u47, u48, u49, u50, u51, u52, u53, u54, u55, u56, u57, u58, u59, u60, u61, u62, u63, u64, u65, u66, u67, u68, u69, u70, u71, u72, u73, u74, u75, u76, u77, u78, u79, u80, u81, u82, u83, u84, u85, u86, u87, u88, u89, u90, u91, u92, u93, u94, u95, u96, u97, u98, u99, u100, u101, u102, u103, u104, u105, u106, u107, u108, u109, u110, u111, u112, u113, u114, u115, u116, u117, u118, u119, u120, u121, u122, u123, u124, u125, u126, u127, u128, u129, u130, u131, u132, u133, u134, u135, u136, u137, u138, u139, u140, u141, u142, u143, u144, u145, u146, u147, u148, u149, u150, u151, u152, u153, u154, u155, u156, u157, u158, u159, u160, u161, u162, u163, u164, u165, u166, u167, u168, u169, u170, u171, u172, u173, u174, u175, u176, u177, u178, u179, u180, u181, u182, u183, u184, u185, u186, u187, u188, u189, u190, u191, u192, u193, u194, u195, u196, u197, u198, u199, u200, u201, u202, u203, u204, u205, u206, u207, u208, u209, u210, u211, u212, u213, u214, u215, u216, c217, c218, c219, c220, c221, c222, c223, c224, c225], []⟩ wr) Q0) ⟨#[.string s, c1, u2, u3, u4, .slice (some ⟨w.heap.size, 0, none⟩) 0 0, .slice (some ⟨g, 0, none⟩) toks.length cap, .int .i64 p, u8, u9, u10, u11, u12, u13, u14, c15, c16, c17, c18, c19, c20, u21, u22, u23, u24, u25, u26, u27, u28, u29, u30, u31, u32, u33, u34, u35, u36, u37, u38, u39, u40, u41, u42, u43, u44, u45, u46, u47, u48, u49, u50, u51, u52, u53, u54, u55, u56, u57, u58, u59, u60, u61, u62, u63, u64, u65, u66, u67, u68, u69, u70, u71, u72, u73, u74, u75, u76, u77, u78, u79, u80, u81, u82, u83, u84, u85, u86, u87, u88, u89, u90, u91, u92, u93, u94, u95, u96, u97, u98, u99, u100, u101, u102, u103, u104, u105, u106, u107, u108, u109, u110, u111, u112, u113, u114, u115, u116, u117, u118, u119, u120, u121, u122, u123, u124, u125, u126, u127, u128, u129, u130, u131, u132, u133, u134, u135, u136, u137, u138, u139, u140, u141, u142, u143, u144, u145, u146, u147, u148, u149, u150, u151, u152, u153, u154, u155, u156, u157, u158, u159, u160, u161, u162, u163, u164, u165, u166, u167, u168, u169, u170, u171, u172, u173, u174, u175, u176, u177, u178, u179, u180, u181, u182, u183, u184, u185, u186, u187, u188, u189, u190, u191, u192, u193, u194, u195, u196, u197, u198, u199, u200, u201, u202, u203, u204, u205, u206, u207, u208, u209, u210, u211, u212, u213, u214, u215, u216, c217, c218, c219, c220, c221, c222, c223, c224, c225], []⟩ wr := by
  conv => arg 2; whnf
  have HBz := HB.out.size
  rw [World.size_alloc] at HBz
  have hq : ((p : Int) == (s.size : Int)) = false := beq_eq_false_iff_ne.2 (by omega)
  have e10 : (c == 10) = false := beq_eq_false_iff_ne.2 h10
  have e32 : (c == 32) = false := beq_eq_false_iff_ne.2 (fun e => by rw [e] at hbl; revert hbl; decide)
  have e9 : (c == 9) = false := beq_eq_false_iff_ne.2 (fun e => by rw [e] at hbl; revert hbl; decide)
  have e13 : (c == 13) = false := beq_eq_false_iff_ne.2 (fun e => by rw [e] at hbl; revert hbl; decide)
  clear h10 hbl
  have e59 : (c == 59) = false := beq_eq_false_iff_ne.2 h59
  clear h59
  have h3 : (c == 47) = false ∨ ((c == 47) = true ∧ ¬ p + 1 < s.size) ∨ ((c == 47) = true ∧ ∃ h : p + 1 < s.size, ((s[p + 1].toNat : Int) == 47) = false) := by
    by_cases e : c = 47
    · by_cases h1 : p + 1 < s.size
      · exact .inr (.inr ⟨beq_iff_eq.2 e, h1, beq_eq_false_iff_ne.2 fun e2 => hcm ⟨e, h1, e2⟩⟩)
      · exact .inr (.inl ⟨beq_iff_eq.2 e, h1⟩)
    · exact .inl (beq_eq_false_iff_ne.2 e)
  clear hcm
  generalize hop : signAt (s.data.toList.drop p) = op at *
  have HOp : Hid (signAt (s.data.toList.drop p) = op) := hop
  clear hop
  rcases h3 with e47 | ⟨e47, hp1⟩ | ⟨e47, hp1, e472⟩
  all_goals
    have e47' := e47
    go_wp2_with (first | (go_at_call 25; refine (spec_letter _ _).mono ?_; rw [HL.out]; rintro e w' ⟨rfl, rfl⟩) | (go_at_call 26; refine (spec_digit _ _).mono ?_; rw [HD.out]; rintro e w' ⟨rfl, rfl⟩) | (go_at_call 28; refine (spec_op _ _ _ hs (by omega)).mono ?_; rw [HOp.out]; rintro e w1 ⟨rfl, hW⟩))
    exact HRet.out _ _ _ ⟨[], 4, p⟩ HAns.out rfl rfl rfl rfl (own_later (none_own HB.out) hW) ((none_below HB.out).trans (hW.mono (by omega)))
end Go.Proofs.YtnpjnmkmjcpjmaaDoor
