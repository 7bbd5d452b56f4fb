/- The specification's printer: statements: a step. -/
import Derived.Test.YtacamenjijlemaaGreatDoorPmPrA
import Derived.Test.YtacamenjijlemaaGreatDoorPmPrC
import Derived.Deep.RegionWith
import Derived.WalkSpells
import Derived.WalkSmall
set_option linter.unusedVariables false
namespace Go.Proofs.YtacamenjijlemaaGreatDoor
open Go.RowKit

set_option maxHeartbeats 4000000 in
set_option maxRecDepth 100000 in
theorem st_7 (T : Nd) (hk : T.kind = 7) : SmC T := by
  intro ob own X d w v hbuf hf hr hok hb
  have hn := T.fine_len hf
  rw [st_text_7 T hk] at hb ⊢
  have hnum := st_ok_7 hk hok
  obtain ⟨a, cap, rfl, _⟩ := row_eq.1 hr
  have hval : T.val (.slice a T.len cap) = .agg #[.int .i64 7, .int .i64 T.num, .string T.name, .slice a T.len cap] := by unfold Nd.val; rw [hk]
  rw [hval]
  have HP := hid_mk (Pst.startB hbuf (.cells #[.int .i64 7, .int .i64 T.num, .string T.name, .slice a T.len cap] 30))
  have HN := hid_mk (Pst.node hbuf (.int .i64 7) (.int .i64 T.num) (.string T.name) (.slice a T.len cap) 30)
  have hs : T.name.size ≤ 1099511627776 := by
    have := hb
    simp at this
    omega
  have HB := hid_mk hb
  clear hb hr hf hok hbuf hk hval
  generalize T.name = ts at *
  generalize T.num = tn at *
  rcases hnum with rfl | rfl
  all_goals simp only [if_true, Int.reduceEq, if_false, Int.reduceNeg] at HB ⊢
  all_goals go_enter Tryz.func46, Tryz.ntmps46
  all_goals go_wp2
  all_goals go_region_with (go_at_call 19; refine ((HP.out.alloc _).drew.add _ (by have := HB.out; simp at this ⊢; omega)).mono ?_; rintro e w2 ⟨rfl, hp⟩; obtain ⟨b0, b1, b2, b3⟩ := HN.out _ _ hp; have HP := hid_mk hp; clear hp)
  all_goals go_wp2
  all_goals go_end0
  all_goals exact HP.out.addsB (by simp)

end Go.Proofs.YtacamenjijlemaaGreatDoor
