/- The walk of the law FnExactTokens. -/
import Derived.Test.YtnpjnmkmjcpjmaaDoorTokImpl
import Derived.Test.YtnpjnmkmjcpjmaaDoorSpFun
import Derived.Test.YtnpjnmkmjcpjmaaDoorMark
set_option linter.unusedVariables false
namespace Go.Proofs.YtnpjnmkmjcpjmaaDoor
open Go.RowKit

theorem few_tokens {s : List UInt8} {o : Outcome} (h : Answers s o) : o.list.length ≤ 4000 := by
  cases h with
  | done _ h _ => exact h
  | bad _ _ _ _ => simp
  | many _ _ _ _ => simp

set_option maxHeartbeats 4000000 in
set_option maxRecDepth 100000 in
theorem law_tokens (s : ByteArray) (w : World) (hs : s.size ≤ maxLen) (h2 : 2 < w.heap.size) (hw : StrRow w 1 kwWords) (hg : StrRow w 2 sgWords) :
    Calls Tryd.prog 6 #[.string s] w fun e w' => e = .returned (.bool true) ∧ Below w.heap.size w w' := by
  have HS : Hid (s.size ≤ maxLen) := hs
  have HW : Hid (StrRow w 1 kwWords) := hw
  have HG : Hid (StrRow w 2 sgWords) := hg
  unfold maxLen at hs
  clear hw hg
  by_cases h20 : 1048576 < s.size
  · go_enter Tryd.func6, Tryd.ntmps6
    go_wp2
    go_ret
    exact ⟨rfl, Below.refl _ _⟩
  have HB : Hid (Below w.heap.size w w) := Below.refl _ _
  by_cases h16 : 65536 < s.size
  · go_enter Tryd.func6, Tryd.ntmps6
    go_wp2_with (first | (go_at_call 13; refine (spec_tokens_long _ _ h16 HS.out).mono ?_; rintro e w1 ⟨rfl, hb1⟩; replace HB := (show Hid (Below w.heap.size w _) from HB.out.trans (hb1.mono HB.out.size))) | (go_at_call 14; refine (impl_long _ _ h16 HS.out).mono ?_; rintro e w2 ⟨rfl, hb2⟩; replace HB := (show Hid (Below w.heap.size w _) from HB.out.trans (hb2.mono HB.out.size))) | (go_at_call 15; refine (eq_none _ _ _ _ _).mono ?_; rintro e w3 ⟨rfl, hb3⟩; replace HB := (show Hid (Below w.heap.size w _) from HB.out.trans (hb3.mono HB.out.size))) | (go_at_call 16; refine (mark_none _ _ _).mono ?_; rintro e w4 ⟨rfl, rfl⟩) | (go_at_call 17; refine (held_none _ _ _).mono ?_; rintro e w5 ⟨rfl, rfl⟩))
    go_ret
    exact ⟨rfl, HB.out⟩
  · have h16' : s.size ≤ 65536 := by omega
    have P1 : Hid True := trivial
    have P2 : Hid True := trivial
    have P3 : Hid True := trivial
    have P4 : Hid True := trivial
    clear h16
    go_enter Tryd.func6, Tryd.ntmps6
    go_wp2_with (first | (go_at_call 13; refine (spec_tokens _ _ h16').mono ?_; rintro e w1 ⟨⟨ts, cd, pl⟩, v, hans, rfl, hown, hb1⟩; replace HB := (show Hid (Below w.heap.size w _) from HB.out.trans (hb1.mono HB.out.size)); have HAns := (show Hid (Answers _ _) from hans); have HSp := (show Hid (w1.ownsRow _ _ _ _ ts.length (flat ts)) from hown); have HB1 : Hid (Below w1.heap.size w1 w1) := (Below.refl _ _); have hz1 := hb1.size; obtain ⟨sa, sc, rfl⟩ := own_shapeK hown; have hts : ts.length ≤ 4000 := few_tokens hans; clear hans hown hb1) | (go_at_call 14; clear P1; refine (impl_tokens _ _ h16' (by omega) (row_belowK HW.out HB.out (by omega)) (row_belowK HG.out HB.out (by omega))).mono ?_; rintro e w2 ⟨o2, v2, hans2, rfl, hown2, hb2⟩; obtain rfl := answers_one HAns.out hans2; replace HB := (show Hid (Below w.heap.size w _) from HB.out.trans (hb2.mono HB.out.size)); replace HB1 := (show Hid (Below w1.heap.size w1 _) from HB1.out.trans (hb2.mono HB1.out.size)); have HIm := (show Hid (w2.ownsRow _ _ _ v2 ts.length (flat ts)) from hown2); obtain ⟨ia, ic, rfl⟩ := own_shapeK hown2; clear hans2 hown2 hb2) | (go_at_call 15; clear P2; refine (eq_any ts _ _ _ _ _ (by omega) HIm.out (own_later HSp.out HB1.out)).mono ?_; rintro e w3 ⟨rfl, hb3⟩; replace HIm := (show Hid (w3.ownsRow _ _ _ _ ts.length (flat ts)) from own_later HIm.out hb3); replace HB := (show Hid (Below w.heap.size w _) from HB.out.trans (hb3.mono HB.out.size)); replace HB1 := (show Hid (Below w1.heap.size w1 _) from HB1.out.trans (hb3.mono HB1.out.size)); clear hb3) | (go_at_call 16; refine (mark_any ts _ _ _ hts HB1.out.size HIm.out).mono ?_; rintro e w4 ⟨rfl, hown4, hb4⟩; have HMk := (show Hid (w4.ownsRow _ _ _ _ ts.length (flat (mtoks ts.length))) from hown4); replace HB := (show Hid (Below w.heap.size w _) from HB.out.trans (hb4.mono (by omega))); replace HB1 := (show Hid (Below w1.heap.size w1 _) from HB1.out.trans hb4); clear HIm hown4 hb4) | (go_at_call 17; refine (held_any ts.length _ _ _ hts HMk.out).mono ?_; rintro e w5 ⟨rfl, hb5⟩; replace HMk := (show Hid (w5.ownsRow _ _ _ _ ts.length (flat (mtoks ts.length))) from own_later HMk.out hb5); replace HB := (show Hid (Below w.heap.size w _) from HB.out.trans (hb5.mono HB.out.size)); replace HB1 := (show Hid (Below w1.heap.size w1 _) from HB1.out.trans (hb5.mono HB1.out.size)); clear hb5) | (go_at_call 14; clear P3; refine (impl_tokens _ _ h16' (by have := HB.out.size; omega) (row_belowK HW.out HB.out (by omega)) (row_belowK HG.out HB.out (by omega))).mono ?_; rintro e w6 ⟨o6, v6, hans6, rfl, hown6, hb6⟩; obtain rfl := answers_one HAns.out hans6; have HIm := (show Hid (w6.ownsRow _ _ _ v6 ts.length (flat ts)) from hown6); replace HMk := (show Hid (w6.ownsRow _ _ _ _ ts.length (flat (mtoks ts.length))) from own_later HMk.out hb6); replace HB := (show Hid (Below w.heap.size w _) from HB.out.trans (hb6.mono HB.out.size)); replace HB1 := (show Hid (Below w1.heap.size w1 _) from HB1.out.trans (hb6.mono HB1.out.size)); obtain ⟨ja, jc, rfl⟩ := own_shapeK hown6; clear hans6 hown6 hb6) | (go_at_call 15; clear P4; refine (eq_any ts _ _ _ _ _ (by omega) HIm.out (own_later HSp.out HB1.out)).mono ?_; rintro e w7 ⟨rfl, hb7⟩; replace HMk := (show Hid (w7.ownsRow _ _ _ _ ts.length (flat (mtoks ts.length))) from own_later HMk.out hb7); replace HB := (show Hid (Below w.heap.size w _) from HB.out.trans (hb7.mono HB.out.size)); replace HB1 := (show Hid (Below w1.heap.size w1 _) from HB1.out.trans (hb7.mono HB1.out.size)); clear hb7 HIm))
    go_ret
    exact ⟨rfl, HB.out⟩
end Go.Proofs.YtnpjnmkmjcpjmaaDoor
