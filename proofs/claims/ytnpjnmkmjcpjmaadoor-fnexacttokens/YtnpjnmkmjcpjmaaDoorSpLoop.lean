/- The great loop of the specification's Tokens: its body, what it carries, its measure. -/
import Derived.Test.YtnpjnmkmjcpjmaaDoorSpecOp
import Derived.Test.YtnpjnmkmjcpjmaaDoorTkFlat
import Derived.OwnWalk
import Derived.Maps.AppendAt
import Derived.MapKept
set_option linter.unusedVariables false
namespace Go.Proofs.YtnpjnmkmjcpjmaaDoor
open Go.RowKit

/-- What the loop carries from round to round. -/
def Going (s : ByteArray) (w : World) (v i : Value) (wr : World) : Prop :=
  ∃ (toks : List Tok) (p g cap : Nat), Reach s.data.toList p toks ∧ toks.length ≤ 4001 ∧ p ≤ s.size + 1 ∧ i = .int .i64 p ∧ v = .slice (some ⟨g, 0, none⟩) toks.length cap ∧ wr.ownsRow (w.heap.size + 1) 37 3 v toks.length (flat toks) ∧ Below (w.heap.size + 1) (w.alloc (.cells #[] 37)) wr

def firstLoop : Code → Option Code
  | .loop c => some c
  | .seq a b => match firstLoop a with
    | some c => some c
    | none => firstLoop b
  | .block _ c => firstLoop c
  | .scope c => firstLoop c
  | .cond _ a b => match firstLoop a with
    | some c => some c
    | none => firstLoop b
  | _ => none
noncomputable def stBody : Code := ((Tryd.f13.body.bind firstLoop).getD .skip)

set_option maxRecDepth 1000000 in
def StWI (s : ByteArray) (w : World) (c1 c15 c16 c17 c18 c19 c20 c217 c218 c219 c220 c221 c222 c223 c224 c225 : Value) (a : Act) (wr : World) : Prop :=
  ∃ u2 u3 u4 u6 u7 u8 u9 u10 u11 u12 u13 u14 u21 u22 u23 u24 u25 u26 u27 u28 u29 u30 u31 u32 u33 u34 u35 u36 u37 u38 u39 u40 u41 u42 u43 u44 u45 u46 u47 u48 u49 u50 u51 u52 u53 u54 u55 u56 u57 u58 u59 u60 u61 u62 u63 u64 u65 u66 u67 u68 u69 u70 u71 u72 u73 u74 u75 u76 u77 u78 u79 u80 u81 u82 u83 u84 u85 u86 u87 u88 u89 u90 u91 u92 u93 u94 u95 u96 u97 u98 u99 u100 u101 u102 u103 u104 u105 u106 u107 u108 u109 u110 u111 u112 u113 u114 u115 u116 u117 u118 u119 u120 u121 u122 u123 u124 u125 u126 u127 u128 u129 u130 u131 u132 u133 u134 u135 u136 u137 u138 u139 u140 u141 u142 u143 u144 u145 u146 u147 u148 u149 u150 u151 u152 u153 u154 u155 u156 u157 u158 u159 u160 u161 u162 u163 u164 u165 u166 u167 u168 u169 u170 u171 u172 u173 u174 u175 u176 u177 u178 u179 u180 u181 u182 u183 u184 u185 u186 u187 u188 u189 u190 u191 u192 u193 u194 u195 u196 u197 u198 u199 u200 u201 u202 u203 u204 u205 u206 u207 u208 u209 u210 u211 u212 u213 u214 u215 u216 : Value, Going s w u6 u7 wr ∧ a = ⟨#[.string s, c1, u2, u3, u4, .slice (some ⟨w.heap.size, 0, none⟩) 0 0, u6, u7, u8, u9, u10, u11, u12, u13, u14, c15, c16, c17, c18, c19, c20, u21, u22, u23, u24, u25, u26, u27, u28, u29, u30, u31, u32, u33, u34, u35, u36, u37, u38, u39, u40, u41, u42, u43, u44, u45, u46, u47, u48, u49, u50, u51, u52, u53, u54, u55, u56, u57, u58, u59, u60, u61, u62, u63, u64, u65, u66, u67, u68, u69, u70, u71, u72, u73, u74, u75, u76, u77, u78, u79, u80, u81, u82, u83, u84, u85, u86, u87, u88, u89, u90, u91, u92, u93, u94, u95, u96, u97, u98, u99, u100, u101, u102, u103, u104, u105, u106, u107, u108, u109, u110, u111, u112, u113, u114, u115, u116, u117, u118, u119, u120, u121, u122, u123, u124, u125, u126, u127, u128, u129, u130, u131, u132, u133, u134, u135, u136, u137, u138, u139, u140, u141, u142, u143, u144, u145, u146, u147, u148, u149, u150, u151, u152, u153, u154, u155, u156, u157, u158, u159, u160, u161, u162, u163, u164, u165, u166, u167, u168, u169, u170, u171, u172, u173, u174, u175, u176, u177, u178, u179, u180, u181, u182, u183, u184, u185, u186, u187, u188, u189, u190, u191, u192, u193, u194, u195, u196, u197, u198, u199, u200, u201, u202, u203, u204, u205, u206, u207, u208, u209, u210, u211, u212, u213, u214, u215, u216, c217, c218, c219, c220, c221, c222, c223, c224, c225], []⟩
def StMu (s : ByteArray) (a : Act) (_ : World) : Nat := s.size + 2 - (intOf (a.tmps.getD 7 undef)).toNat
/-- How the function is left by a return within the loop. -/
def StRet (s : ByteArray) (w : World) (Q0 : Exit → Act → World → Prop) : Prop :=
  ∀ (a' : Act) (w'' : World) (v : Value) (o : Outcome), Answers s.data.toList o → a'.tmps.getD 2 undef = v → a'.tmps.getD 3 undef = .int .i64 o.code → a'.tmps.getD 4 undef = .int .i64 o.place → a'.defers = [] → w''.ownsRow w.heap.size 37 3 v o.list.length (flat o.list) → Below w.heap.size w w'' → Q0 .ret a' w''
/-- Behind an append of a token the loop goes on. -/
theorem going_tok {s : ByteArray} {w wr W w3 : World} {v' i : Value} {toks : List Tok} {t : Tok} {p' g cap : Nat} (HOwn : wr.ownsRow (w.heap.size + 1) 37 3 (.slice (some ⟨g, 0, none⟩) toks.length cap) toks.length (flat toks))
    (HB : Below (w.heap.size + 1) (w.alloc (.cells #[] 37)) wr) (hW : Below wr.heap.size wr W) (hown' : w3.ownsRow (w.heap.size + 1) 37 3 v' (toks.length + 1) (flat toks ++ [.int .i64 t.kind, .string t.text, .int .i64 t.place])) (hgrow : W.grownBy w3 (some g))
    (hR : Reach s.data.toList p' (toks ++ [t])) (hl : toks.length ≤ 4000) (hp' : p' ≤ s.size + 1) (hi : i = .int .i64 p') : Going s w v' i w3 := by
  obtain ⟨g', cap', rfl⟩ := own_form hown'
  have hz := HB.size
  have hz2 := hW.size
  rw [World.size_alloc] at hz
  have hg := (HOwn.lt g rfl).1
  refine ⟨toks ++ [t], p', g', cap', hR, by simp; omega, hp', hi, by simp, ?_, ?_⟩
  · rw [flat_snoc]; simpa using hown'
  · exact (HB.trans (hW.mono (by omega))).grown hgrow (by omega) (fun k e => by cases e; exact hg)
theorem none_own {w wr : World} (hb : Below (w.heap.size + 1) (w.alloc (.cells #[] 37)) wr) : wr.ownsRow w.heap.size 37 3 (.slice (some ⟨w.heap.size, 0, none⟩) 0 0) 0 [] := by
  refine ⟨rfl, .inr ⟨w.heap.size, 0, #[], rfl, Nat.le_refl _, ?_, Nat.le_refl _, by unfold maxLen; omega, rfl, rfl⟩⟩
  rw [hb.block w.heap.size (by omega)]
  exact (MapKept.heap_alloc w _).1
theorem none_below {w wr : World} (hb : Below (w.heap.size + 1) (w.alloc (.cells #[] 37)) wr) : Below w.heap.size w wr :=
  ((Below.refl _ w).alloc (Nat.le_refl _) _).trans (hb.mono (by omega))
end Go.Proofs.YtnpjnmkmjcpjmaaDoor
