/- A case of a round. -/
import Derived.Test.YtnpjnmkmjcpjmaaDoorSpLoop
set_option linter.unusedVariables false
namespace Go.Proofs.YtnpjnmkmjcpjmaaDoor
open Go.RowKit

set_option maxHeartbeats 4000000 in
set_option maxRecDepth 1000000 in
theorem st_SpNum (s : ByteArray) (w : World) (hs : s.size ≤ 65536) (c1 c15 c16 c17 c18 c19 c20 c217 c218 c219 c220 c221 c222 c223 c224 c225 u2 u3 u4 u8 u9 u10 u11 u12 u13 u14 u21 u22 u23 u24 u25 u26 u27 u28 u29 u30 u31 u32 u33 u34 u35 u36 u37 u38 u39 u40 u41 u42 u43 u44 u45 u46 u47 u48 u49 u50 u51 u52 u53 u54 u55 u56 u57 u58 u59 u60 u61 u62 u63 u64 u65 u66 u67 u68 u69 u70 u71 u72 u73 u74 u75 u76 u77 u78 u79 u80 u81 u82 u83 u84 u85 u86 u87 u88 u89 u90 u91 u92 u93 u94 u95 u96 u97 u98 u99 u100 u101 u102 u103 u104 u105 u106 u107 u108 u109 u110 u111 u112 u113 u114 u115 u116 u117 u118 u119 u120 u121 u122 u123 u124 u125 u126 u127 u128 u129 u130 u131 u132 u133 u134 u135 u136 u137 u138 u139 u140 u141 u142 u143 u144 u145 u146 u147 u148 u149 u150 u151 u152 u153 u154 u155 u156 u157 u158 u159 u160 u161 u162 u163 u164 u165 u166 u167 u168 u169 u170 u171 u172 u173 u174 u175 u176 u177 u178 u179 u180 u181 u182 u183 u184 u185 u186 u187 u188 u189 u190 u191 u192 u193 u194 u195 u196 u197 u198 u199 u200 u201 u202 u203 u204 u205 u206 u207 u208 u209 u210 u211 u212 u213 u214 u215 u216 : Value) (wr : World) (toks : List Tok) (p g cap : Nat) (hlen : toks.length ≤ 4001)
    (Q0 : Exit → Act → World → Prop) (HRet : Hid (StRet s w Q0)) (HReach : Hid (Reach s.data.toList p toks)) (HOwn : Hid (wr.ownsRow (w.heap.size + 1) 37 3 (.slice (some ⟨g, 0, none⟩) toks.length cap) toks.length (flat toks))) (HB : Hid (Below (w.heap.size + 1) (w.alloc (.cells #[] 37)) wr))
    (hp : p < s.size) (hm : toks.length ≤ 4000) (c : Int) (hc : (s[p].toNat : Int) = c) (h10 : c ≠ 10) (hbl : blankB c = false) (HL : Hid (letterB c = false)) (HD : Hid (digitB c = true)) (hpos : 1 ≤ wlen (s.data.toList.drop p)) (HK : Hid (numT ((s.data.toList.drop p).take (wlen (s.data.toList.drop p))) = true)) (HStep : Hid (Reach s.data.toList (p + wlen (s.data.toList.drop p)) (toks ++ [⟨2, bs ((s.data.toList.drop p).take (wlen (s.data.toList.drop p))), p⟩]))) :
    Code.wp Tryd.prog stBody (Exit.then (fun a' w'' => StWI s w c1 c15 c16 c17 c18 c19 c20 c217 c218 c219 c220 c221 c222 c223 c224 c225 a' w'' ∧ StMu s a' w'' < StMu s ⟨#[.string s, c1, u2, u3, u4, .slice (some ⟨w.heap.size, 0, none⟩) 0 0, .slice (some ⟨g, 0, none⟩) toks.length cap, .int .i64 p, u8, u9, u10, u11, u12, u13, u14, c15, c16, c17, c18, c19, c20, u21, u22, u23, u24, u25, u26, u27, u28, u29, u30, u31, u32, u33, u34, u35, u36, u37, u38, u39, u40, u41, u42, u43, u44, u45, u46, u47, u48, u49, u50, u51, u52, u53, u54, u55, u56, u57, u58, u59, u60, u61, u62, u63, u64, u65, u66, u67, u68, u69, u70, u71, u72, u73, u74, u75, u76, u77, u78, u79, u80, u81, u82, u83, u84, u85, u86, u87, u88, u89, u90, u91, u92, u93, u94, u95, u96, u97, u98, u99, u100, u101, u102, u103, u104, u105, u106, u107, u108, u109, u110, u111, u112, u113, u114, u115, u116, u117, u118, u119, u120, u121, u122, u123, u124, u125, u126, u127, u128, u129, u130, u131, u132, u133, u134, u135, u136, u137, u138, u139, u140, u141, u142, u143, u144, u145, u146, u147, u148, u149, u150, u151, u152, u153, u154, u155, u156, u157, u158, u159, u160, u161, u162, u163, u164, u165, u166, u167, u168, u169, u170, u171, u172, u173, u174, u175, u176, u177, u178, u179, u180, u181, u182, u183, u184, u185, u186, u187, u188, u189, u190, u191, u192, u193, u194, u195, u196, u197, u198, u199, u200, u201, u202, u203, u204, u205, u206, u207, u208, u209, u210, u211, u212, u213, u214, u215, u216, c217, c218, c219, c220, c221, c222, c223, c224, c225], []⟩ wr) Q0) ⟨#[.string s, c1, u2, u3, u4, .slice (some ⟨w.heap.size, 0, none⟩) 0 0, .slice (some ⟨g, 0, none⟩) toks.length cap, .int .i64 p, u8, u9, u10, u11, u12, u13, u14, c15, c16, c17, c18, c19, c20, u21, u22, u23, u24, u25, u26, u27, u28, u29, u30, u31, u32, u33, u34, u35, u36, u37, u38, u39, u40, u41, u42, u43, u44, u45, u46, u47, u48, u49, u50, u51, u52, u53, u54, u55, u56, u57, u58, u59, u60, u61, u62, u63, u64, u65, u66, u67, u68, u69, u70, u71, u72, u73, u74, u75, u76, u77, u78, u79, u80, u81, u82, u83, u84, u85, u86, u87, u88, u89, u90, u91, u92, u93, u94, u95, u96, u97, u98, u99, u100, u101, u102, u103, u104, u105, u106, u107, u108, u109, u110, u111, u112, u113, u114, u115, u116, u117, u118, u119, u120, u121, u122, u123, u124, u125, u126, u127, u128, u129, u130, u131, u132, u133, u134, u135, u136, u137, u138, u139, u140, u141, u142, u143, u144, u145, u146, u147, u148, u149, u150, u151, u152, u153, u154, u155, u156, u157, u158, u159, u160, u161, u162, u163, u164, u165, u166, u167, u168, u169, u170, u171, u172, u173, u174, u175, u176, u177, u178, u179, u180, u181, u182, u183, u184, u185, u186, u187, u188, u189, u190, u191, u192, u193, u194, u195, u196, u197, u198, u199, u200, u201, u202, u203, u204, u205, u206, u207, u208, u209, u210, u211, u212, u213, u214, u215, u216, c217, c218, c219, c220, c221, c222, c223, c224, c225], []⟩ wr := by
  conv => arg 2; whnf
  have hq : ((p : Int) == (s.size : Int)) = false := beq_eq_false_iff_ne.2 (by omega)
  have e10 : (c == 10) = false := beq_eq_false_iff_ne.2 h10
  have e32 : (c == 32) = false := beq_eq_false_iff_ne.2 (fun e => by rw [e] at hbl; revert hbl; decide)
  have e9 : (c == 9) = false := beq_eq_false_iff_ne.2 (fun e => by rw [e] at hbl; revert hbl; decide)
  have e13 : (c == 13) = false := beq_eq_false_iff_ne.2 (fun e => by rw [e] at hbl; revert hbl; decide)
  clear h10 hbl
  have e47 : (c == 47) = false := beq_eq_false_iff_ne.2 (fun e => by have := HD.out; rw [e] at this; revert this; decide)
  have e59 : (c == 59) = false := beq_eq_false_iff_ne.2 (fun e => by have := HD.out; rw [e] at this; revert this; decide)
  have Hx0 : Hid (∀ (n : Nat) (x : ByteArray), 1 ≤ n → x.data.toList = (s.data.toList.drop p).take n → ∀ h : 0 < x.size, digitB x[0].toNat = true) := fun n x hn hx h => by
    have h1 : x[0] = x.data.toList[0]'(by simpa using h) := rfl
    have h2 : x.data.toList[0]'(by simpa using h) = s[p] := by
      have : (s.data.toList.drop p).take n = s[p] :: (((s.data.toList.drop (p + 1))).take (n - 1)) := by
        obtain ⟨m, rfl⟩ : ∃ m, n = m + 1 := ⟨n - 1, by omega⟩
        rw [List.drop_eq_getElem_cons (show p < s.data.toList.length from hp)]; rfl
      simp [hx, this]
    rw [h1, h2]
    have := HD.out
    rw [← hc] at this
    exact this
  obtain ⟨i0, hi0, hz0, hz1, hz2⟩ := info_parts (show (Tryd.prog.info? 37).map (fun i => (i.zero, i.size, i.bytes)) = some (some (.agg #[.int .i64 0, .string ⟨#[]⟩, .int .i64 0]), 3, 32) by kernel_rfl)
  have hW : Below wr.heap.size wr wr := Below.refl _ _
  have HLn : Hid ((s.data.toList.drop p).length = s.size - p) := drop_len s p
  generalize hn0 : wlen (s.data.toList.drop p) = n at *
  have HN : Hid (wlen (s.data.toList.drop p) = n) := hn0
  clear hn0
  generalize hx : bs ((s.data.toList.drop p).take n) = x at *
  have hx1 : Hid (s.extract p (p + n) = x) := by unfold Hid; rw [← hx]; exact cut_bs s p n
  have hx2 : Hid (x.size = n) := by
    unfold Hid
    rw [← hx, bs_size, List.length_take, ← HN.out]; exact Nat.min_eq_left (wlen_le _)
  have hx3 : Hid (x.data.toList = (s.data.toList.drop p).take n) := by unfold Hid; rw [← hx, bs_data]
  clear hx
  go_wp2_with (first | (go_at_call 25; refine (spec_letter _ _).mono ?_; rw [HL.out]; rintro e w' ⟨rfl, rfl⟩) | (go_at_call 26; refine (spec_digit _ _).mono ?_; rw [HD.out]; rintro e w' ⟨rfl, rfl⟩))
  go_loop [7] (fun i => ∃ j : Nat, p + j ≤ s.size ∧ i = .int .i64 ((p + j : Nat) : Int) ∧ Hid (∀ b ∈ (s.data.toList.drop p).take j, wordB b.toNat = true)) (fun i => s.size - (intOf i).toNat)
  case atStart => exact ⟨0, by omega, rfl, by simp [Hid]⟩
  case round =>
    obtain ⟨j, hj, rfl, hall⟩ := hrel
    by_cases hgo : ∃ h : p + j < s.size, wordB s[p + j].toNat = true
    · obtain ⟨hlt, hwd⟩ := hgo
      have HNx : Hid (∀ b ∈ (s.data.toList.drop p).take (j + 1), wordB b.toNat = true) := fun b hb => by
        rw [drop_take_snoc s p j hlt, List.mem_append] at hb
        rcases hb with hb | hb
        · exact hall.out b hb
        · rw [List.mem_singleton.1 hb]; exact hwd
      cases hlj : letterB s[p + j].toNat <;> cases hdj : digitB s[p + j].toNat
      · rw [wordB, hlj, hdj] at hwd; cases hwd
      all_goals
        have HLJ := (show Hid (letterB s[p + j].toNat = _) from hlj)
        have HDJ := (show Hid (digitB s[p + j].toNat = _) from hdj)
        clear hlj hdj hwd
        go_wp2_with (first | (go_at_call 25; refine (spec_letter _ _).mono ?_; rw [HLJ.out]; rintro e w' ⟨rfl, rfl⟩) | (go_at_call 26; refine (spec_digit _ _).mono ?_; rw [HDJ.out]; rintro e w' ⟨rfl, rfl⟩))
        go_round
        case rel => exact ⟨j + 1, by omega, by go_num, HNx⟩
        case measure => simp [intOf]; omega
    · have HE : Hid (n = j) := by
        unfold Hid
        rw [← HN.out]
        refine wlen_all hall.out (by rw [HLn.out]; omega) (fun hlt => ?_)
        have hlt2 : p + j < s.size := by rw [HLn.out] at hlt; omega
        rw [drop_at s p j hlt2]
        exact Bool.eq_false_iff.2 fun e => hgo ⟨hlt2, e⟩
      by_cases hlt : p + j < s.size
      · have hwd : wordB s[p + j].toNat = false := Bool.eq_false_iff.2 fun e => hgo ⟨hlt, e⟩
        have HLJ : Hid (letterB s[p + j].toNat = false) := (Bool.or_eq_false_iff.1 hwd).1
        have HDJ : Hid (digitB s[p + j].toNat = false) := (Bool.or_eq_false_iff.1 hwd).2
        obtain rfl := HE.out
        clear hgo hwd HE
        have hx1' := hx1.out
        have hx2' := hx2.out
        have hx0 := Hx0.out n x hpos hx3.out (by omega)
        have HX0 : Hid (∀ h : 0 < x.size, digitB x[0].toNat = true) := fun h => Hx0.out n x hpos hx3.out h
        clear hx0
        have HK2 : Hid (numT x.data.toList = true) := by unfold Hid; rw [hx3.out]; exact HK.out
        go_wp2_with (first | (go_at_call 25; refine (spec_letter _ _).mono ?_; rw [HLJ.out]; rintro e w' ⟨rfl, rfl⟩) | (go_at_call 26; refine (spec_digit _ _).mono ?_; rw [HDJ.out]; rintro e w' ⟨rfl, rfl⟩) | (go_at_call 27; refine (spec_num _ _ (by omega) (by omega) (HX0.out (by omega))).mono ?_; rw [HK2.out]; rintro e w1 ⟨⟨nv, rfl⟩, rfl⟩) | (at_builtin; refine wpList_append_own _ rfl _ _ 26 rfl (w.heap.size + 1) 37 i0 (.agg #[.int .i64 0, .string ⟨#[]⟩, .int .i64 0]) 3 32 Tryd.underlying26 hi0 hz0 hz1 hz2 rfl (by decide) _ _ _ rfl (own_later HOwn.out (hW.alloc (hW.size) _)) ⟨w1.heap.size, 0, none⟩ 1 1 [.int .i64 2, .string x, .int .i64 (p : Int)] rfl rfl (cell_three_new _ _ _ _ _) (one_cells _ _ _) (by unfold maxLen; omega) (by omega) (by have := HB.out.size; have := hW.size; simp at *; omega) ?_; intro v' w3 hown' hgrow hnil'; have HO : Hid (w3.ownsRow (w.heap.size + 1) 37 3 v' (toks.length + 1) (flat toks ++ [.int .i64 2, .string x, .int .i64 (p : Int)])) := hown'; have HG : Hid ((w1.alloc (.cells #[.int .i64 2, .string x, .int .i64 (p : Int)] 37)).grownBy w3 (some g)) := hgrow; clear hown' hgrow hnil'))
        refine ⟨?_, by simp [StMu, intOf]; omega⟩
        unfold StWI
        refine ⟨_, _, _, _, _, _, _, _, _, _, _, _, _, _, _, _, _, _, _, _, _, _, _, _, _, _, _, _, _, _, _, _, _, _, _, _, _, _, _, _, _, _, _, _, _, _, _, _, _, _, _, _, _, _, _, _, _, _, _, _, _, _, _, _, _, _, _, _, _, _, _, _, _, _, _, _, _, _, _, _, _, _, _, _, _, _, _, _, _, _, _, _, _, _, _, _, _, _, _, _, _, _, _, _, _, _, _, _, _, _, _, _, _, _, _, _, _, _, _, _, _, _, _, _, _, _, _, _, _, _, _, _, _, _, _, _, _, _, _, _, _, _, _, _, _, _, _, _, _, _, _, _, _, _, _, _, _, _, _, _, _, _, _, _, _, _, _, _, _, _, _, _, _, _, _, _, _, _, _, _, _, _, _, _, _, _, _, _, _, _, _, _, _, _, _, _, _, _, _, _, _, _, _, _, _, _, _, _, ?_, rfl⟩
        exact going_tok (t := ⟨2, x, p⟩) HOwn.out HB.out (hW.alloc hW.size _) HO.out HG.out HStep.out hm (by omega) (by go_num)
      · obtain rfl := HE.out
        have HLJ : Hid True := trivial
        have HDJ : Hid True := trivial
        clear hgo HE
        have hx1' := hx1.out
        have hx2' := hx2.out
        have hx0 := Hx0.out n x hpos hx3.out (by omega)
        have HX0 : Hid (∀ h : 0 < x.size, digitB x[0].toNat = true) := fun h => Hx0.out n x hpos hx3.out h
        clear hx0
        have HK2 : Hid (numT x.data.toList = true) := by unfold Hid; rw [hx3.out]; exact HK.out
        go_wp2_with (first | (go_at_call 25; refine (spec_letter _ _).mono ?_; rw [HLJ.out]; rintro e w' ⟨rfl, rfl⟩) | (go_at_call 26; refine (spec_digit _ _).mono ?_; rw [HDJ.out]; rintro e w' ⟨rfl, rfl⟩) | (go_at_call 27; refine (spec_num _ _ (by omega) (by omega) (HX0.out (by omega))).mono ?_; rw [HK2.out]; rintro e w1 ⟨⟨nv, rfl⟩, rfl⟩) | (at_builtin; refine wpList_append_own _ rfl _ _ 26 rfl (w.heap.size + 1) 37 i0 (.agg #[.int .i64 0, .string ⟨#[]⟩, .int .i64 0]) 3 32 Tryd.underlying26 hi0 hz0 hz1 hz2 rfl (by decide) _ _ _ rfl (own_later HOwn.out (hW.alloc (hW.size) _)) ⟨w1.heap.size, 0, none⟩ 1 1 [.int .i64 2, .string x, .int .i64 (p : Int)] rfl rfl (cell_three_new _ _ _ _ _) (one_cells _ _ _) (by unfold maxLen; omega) (by omega) (by have := HB.out.size; have := hW.size; simp at *; omega) ?_; intro v' w3 hown' hgrow hnil'; have HO : Hid (w3.ownsRow (w.heap.size + 1) 37 3 v' (toks.length + 1) (flat toks ++ [.int .i64 2, .string x, .int .i64 (p : Int)])) := hown'; have HG : Hid ((w1.alloc (.cells #[.int .i64 2, .string x, .int .i64 (p : Int)] 37)).grownBy w3 (some g)) := hgrow; clear hown' hgrow hnil'))
        refine ⟨?_, by simp [StMu, intOf]; omega⟩
        unfold StWI
        refine ⟨_, _, _, _, _, _, _, _, _, _, _, _, _, _, _, _, _, _, _, _, _, _, _, _, _, _, _, _, _, _, _, _, _, _, _, _, _, _, _, _, _, _, _, _, _, _, _, _, _, _, _, _, _, _, _, _, _, _, _, _, _, _, _, _, _, _, _, _, _, _, _, _, _, _, _, _, _, _, _, _, _, _, _, _, _, _, _, _, _, _, _, _, _, _, _, _, _, _, _, _, _, _, _, _, _, _, _, _, _, _, _, _, _, _, _, _, _, _, _, _, _, _, _, _, _, _, _, _, _, _, _, _, _, _, _, _, _, _, _, _, _, _, _, _, _, _, _, _, _, _, _, _, _, _, _, _, _, _, _, _, _, _, _, _, _, _, _, _, _, _, _, _, _, _, _, _, _, _, _, _, _, _, _, _, _, _, _, _, _, _, _, _, _, _, _, _, _, _, _, _, _, _, _, _, _, _, _, _, ?_, rfl⟩
        exact going_tok (t := ⟨2, x, p⟩) HOwn.out HB.out (hW.alloc hW.size _) HO.out HG.out HStep.out hm (by omega) (by go_num)
end Go.Proofs.YtnpjnmkmjcpjmaaDoor
