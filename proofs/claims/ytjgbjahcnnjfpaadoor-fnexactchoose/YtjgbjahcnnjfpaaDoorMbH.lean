/- The specification's tests of nodes, a theorem a kind. -/
import Derived.Test.YtjgbjahcnnjfpaaDoorMbA
import Derived.WalkSpells
import Derived.WalkSmall
import Derived.Deep.LoopGhost
set_option linter.unusedVariables false
namespace Go.Proofs.YtjgbjahcnnjfpaaDoor
open Go.RowKit

set_option maxHeartbeats 4000000 in
set_option maxRecDepth 100000 in
theorem stmt_10 (T : Nd) (hk : T.kind = 10) (hE : ExprsC T) (hK : KidsC T) : StmtC T := by
  intro w v hi hf hhi hr
  have hn := T.fine_len hf
  have hs := T.fine_name hf
  obtain ⟨a, cap, hv, _, hq⟩ := row_eq.1 hr
  have HEO : Hid (T.sOk = stmtB 10 T.num T.name T.len (fun i => (T.kids i).eOk) (fun i => (T.kids i).sOk) (fun i => (T.kids i).cOk) T.kk) := by have := sOk_eq T; rw [hk] at this; exact this
  have HE := hid_mk (fun W (hb : Below w.heap.size w W) => hE W v hi hf (by have := hb.size; omega) (row_below hb hhi hr))
  have HK := hid_mk (fun W (hb : Below w.heap.size w W) sorts => hK W v hi sorts hf (by have := hb.size; omega) (row_below hb hhi hr))
  have HQ := hid_mk hq
  have HS : Hid (T.name.size ≤ maxLen) := by unfold Hid maxLen; exact hs
  have HB : ∀ o : Obj, Hid (Below w.heap.size w (w.alloc o)) := fun o => (Below.refl _ _).alloc (Nat.le_refl _) _
  unfold Nd.val at *
  rw [hk] at *
  subst hv
  clear hf hr hE hK hs hk hq
  generalize T.num = tn at *
  generalize T.name = ts at *
  have P1 : Hid True := trivial
  cases he : ts.toList.isEmpty
  all_goals cases h1 : (tn != 0)
  all_goals cases hks : sortsB (fun i => (T.kids i).eOk) (fun i => (T.kids i).sOk) T.kk T.len ⟨#[101, 98]⟩
  all_goals cases hkt : sortsB (fun i => (T.kids i).eOk) (fun i => (T.kids i).sOk) T.kk T.len ⟨#[101, 98, 105]⟩
  all_goals go_enter Tryd.func56, Tryd.ntmps56
  all_goals go_wp2_with (first | (go_at_call 67; clear P1; refine (HK.out _ (by first | exact (HB _).out | exact (HB _).out.trans (hb1.mono (by simp)) | exact (HB _).out.trans (hb2.mono (by simp))) ⟨#[101, 98]⟩ (by decide)).mono ?_; rw [hks]; rintro e w2 ⟨rfl, hb2⟩; have hz2 := hb2.size; (try simp only [World.size_alloc] at hz2); obtain ⟨hc2, hf2⟩ := bcell hb2) | (go_at_call 67; refine (HK.out _ (by first | exact (HB _).out | exact (HB _).out.trans (hb1.mono (by simp)) | exact (HB _).out.trans (hb2.mono (by simp))) ⟨#[101, 98, 105]⟩ (by decide)).mono ?_; rw [hkt]; rintro e w3 ⟨rfl, hb3⟩; have hz2 := hb3.size; (try simp only [World.size_alloc] at hz2); obtain ⟨hc2, hf2⟩ := bcell hb3))
  all_goals go_ret
  all_goals refine ⟨ret_bool (by rw [HEO.out]; unfold stmtB; simp only [emptyB, he, nz_b h1, hks, hkt]; rfl), ?_⟩
  all_goals first | exact (HB _).out | exact (HB _).out.trans (hb1.mono (by simp)) | exact (HB _).out.trans (hb2.mono (by simp)) | exact ((HB _).out.trans (hb1.mono (by simp))).trans (hb2.mono (by omega)) | exact ((HB _).out.trans (hb2.mono (by simp))).trans (hb3.mono (by omega))

end Go.Proofs.YtjgbjahcnnjfpaaDoor
namespace Go.Proofs.YtjgbjahcnnjfpaaDoor
open Go.RowKit

set_option maxHeartbeats 4000000 in
set_option maxRecDepth 100000 in
theorem stmt_11 (T : Nd) (hk : T.kind = 11) (hE : ExprsC T) (hK : KidsC T) : StmtC T := by
  intro w v hi hf hhi hr
  have hn := T.fine_len hf
  have hs := T.fine_name hf
  obtain ⟨a, cap, hv, _, hq⟩ := row_eq.1 hr
  have HEO : Hid (T.sOk = stmtB 11 T.num T.name T.len (fun i => (T.kids i).eOk) (fun i => (T.kids i).sOk) (fun i => (T.kids i).cOk) T.kk) := by have := sOk_eq T; rw [hk] at this; exact this
  have HE := hid_mk (fun W (hb : Below w.heap.size w W) => hE W v hi hf (by have := hb.size; omega) (row_below hb hhi hr))
  have HK := hid_mk (fun W (hb : Below w.heap.size w W) sorts => hK W v hi sorts hf (by have := hb.size; omega) (row_below hb hhi hr))
  have HQ := hid_mk hq
  have HS : Hid (T.name.size ≤ maxLen) := by unfold Hid maxLen; exact hs
  have HB : ∀ o : Obj, Hid (Below w.heap.size w (w.alloc o)) := fun o => (Below.refl _ _).alloc (Nat.le_refl _) _
  unfold Nd.val at *
  rw [hk] at *
  subst hv
  clear hf hr hE hK hs hk hq
  generalize T.num = tn at *
  generalize T.name = ts at *
  have P1 : Hid True := trivial
  cases he : ts.toList.isEmpty
  all_goals cases h1 : (tn != 0)
  all_goals cases hks : sortsB (fun i => (T.kids i).eOk) (fun i => (T.kids i).sOk) T.kk T.len ⟨#[98]⟩
  all_goals cases hkt : sortsB (fun i => (T.kids i).eOk) (fun i => (T.kids i).sOk) T.kk T.len ⟨#[101, 98]⟩
  all_goals go_enter Tryd.func56, Tryd.ntmps56
  all_goals go_wp2_with (first | (go_at_call 67; clear P1; refine (HK.out _ (by first | exact (HB _).out | exact (HB _).out.trans (hb1.mono (by simp)) | exact (HB _).out.trans (hb2.mono (by simp))) ⟨#[98]⟩ (by decide)).mono ?_; rw [hks]; rintro e w2 ⟨rfl, hb2⟩; have hz2 := hb2.size; (try simp only [World.size_alloc] at hz2); obtain ⟨hc2, hf2⟩ := bcell hb2) | (go_at_call 67; refine (HK.out _ (by first | exact (HB _).out | exact (HB _).out.trans (hb1.mono (by simp)) | exact (HB _).out.trans (hb2.mono (by simp))) ⟨#[101, 98]⟩ (by decide)).mono ?_; rw [hkt]; rintro e w3 ⟨rfl, hb3⟩; have hz2 := hb3.size; (try simp only [World.size_alloc] at hz2); obtain ⟨hc2, hf2⟩ := bcell hb3))
  all_goals go_ret
  all_goals refine ⟨ret_bool (by rw [HEO.out]; unfold stmtB; simp only [emptyB, he, nz_b h1, hks, hkt]; rfl), ?_⟩
  all_goals first | exact (HB _).out | exact (HB _).out.trans (hb1.mono (by simp)) | exact (HB _).out.trans (hb2.mono (by simp)) | exact ((HB _).out.trans (hb1.mono (by simp))).trans (hb2.mono (by omega)) | exact ((HB _).out.trans (hb2.mono (by simp))).trans (hb3.mono (by omega))

end Go.Proofs.YtjgbjahcnnjfpaaDoor
namespace Go.Proofs.YtjgbjahcnnjfpaaDoor
open Go.RowKit

theorem one_of_sorts {e st : Nat → Bool} {kk : Nat → Int} {len : Nat} (h : sortsB e st kk len ⟨#[101]⟩ = true) : len = 1 := by
  unfold sortsB at h
  simp only [Bool.and_eq_true, decide_eq_true_eq] at h
  exact h.1

set_option maxHeartbeats 4000000 in
set_option maxRecDepth 100000 in
theorem stmt_9 (T : Nd) (hk : T.kind = 9) (hK : KidsC T) : StmtC T := by
  intro w v hi hf hhi hr
  have hn := T.fine_len hf
  obtain ⟨a, cap, hv, _, hq⟩ := row_eq.1 hr
  have HEO : Hid (T.sOk = stmtB 9 T.num T.name T.len (fun i => (T.kids i).eOk) (fun i => (T.kids i).sOk) (fun i => (T.kids i).cOk) T.kk) := by have := sOk_eq T; rw [hk] at this; exact this
  have HK := hid_mk (fun W (hb : Below w.heap.size w W) sorts => hK W v hi sorts hf (by have := hb.size; omega) (row_below hb hhi hr))
  have HQ := hid_mk hq
  have HB : ∀ o : Obj, Hid (Below w.heap.size w (w.alloc o)) := fun o => (Below.refl _ _).alloc (Nat.le_refl _) _
  unfold Nd.val at *
  rw [hk] at *
  subst hv
  clear hf hr hK hk hq
  generalize T.num = tn at *
  generalize T.name = ts at *
  have hkk : T.kk 0 = (T.kids 0).kind := rfl
  cases hks : sortsB (fun i => (T.kids i).eOk) (fun i => (T.kids i).sOk) T.kk T.len ⟨#[101]⟩
  · clear hkk
    cases he : ts.toList.isEmpty
    all_goals cases h1 : (tn != 0)
    all_goals go_enter Tryd.func56, Tryd.ntmps56
    all_goals go_wp2_with (go_at_call 67; refine (HK.out _ (HB _).out ⟨#[101]⟩ (by decide)).mono ?_; rw [hks]; rintro e w2 ⟨rfl, hb2⟩; have hz2 := hb2.size; simp only [World.size_alloc] at hz2; obtain ⟨hc2, hf2⟩ := bcell hb2)
    all_goals go_ret
    all_goals refine ⟨ret_bool (by rw [HEO.out]; unfold stmtB; simp only [emptyB, he, nz_b h1, hks]; rfl), ?_⟩
    all_goals first | exact (HB _).out | exact (HB _).out.trans (hb2.mono (by simp))
  · have hl1 := one_of_sorts hks
    rcases HQ.out with h0 | ⟨g, off, rfl, g1, g2, g3⟩
    · omega
    obtain ⟨u, e0, _⟩ := g3 0 (by omega)
    simp only [Nat.zero_mul, Nat.add_zero] at e0
    rw [← hkk] at e0
    have HE0 := hid_mk e0
    have hlt : (0 : Int) < (T.len : Int) := by omega
    clear hkk hl1 e0 g3
    generalize hk0 : T.kk 0 = k0 at *
    have HK0 := hid_mk hk0
    clear hk0
    cases he : ts.toList.isEmpty
    all_goals cases h1 : (tn != 0)
    all_goals cases h2 : (k0 == 25)
    all_goals cases h3 : (k0 == 29)
    all_goals go_enter Tryd.func56, Tryd.ntmps56
    all_goals go_wp2_with (go_at_call 67; refine (HK.out _ (HB _).out ⟨#[101]⟩ (by decide)).mono ?_; rw [hks]; rintro e w2 ⟨rfl, hb2⟩; have hz2 := hb2.size; simp only [World.size_alloc] at hz2; obtain ⟨hc2, hf2⟩ := bcell hb2; have q0 := (((HB _).out.trans (hb2.mono (by simp))).cell (p := ⟨g, off, none⟩) (by show g < _; omega)).trans HE0.out)
    all_goals go_ret
    all_goals refine ⟨ret_bool (by rw [HEO.out]; unfold stmtB; simp only [emptyB, he, nz_b h1, hks, HK0.out, num_b h2, num_b h3]; rfl), ?_⟩
    all_goals first | exact (HB _).out | exact (HB _).out.trans (hb2.mono (by simp))
end Go.Proofs.YtjgbjahcnnjfpaaDoor
namespace Go.Proofs.YtjgbjahcnnjfpaaDoor
open Go.RowKit


set_option maxHeartbeats 4000000 in
set_option maxRecDepth 100000 in
theorem stmt_4 (T : Nd) (hk : T.kind = 4) (ih : ∀ i, i < T.len → StmtC (T.kids i)) : StmtC T := by
  intro w v hi hf hhi hr
  have hn := T.fine_len hf
  obtain ⟨a, cap, hv, _, hq⟩ := row_eq.1 hr
  have HEO : Hid (T.sOk = (emptyB T.name && decide (T.num = 0) && allTo (fun i => (T.kids i).sOk) T.len)) := by have := sOk_eq T; rw [hk] at this; exact this
  have HI := hid_mk ih
  have HF := hid_mk hf
  have HR := hid_mk hq
  have HB : ∀ o : Obj, Hid (Below w.heap.size w (w.alloc o)) := fun o => (Below.refl _ _).alloc (Nat.le_refl _) _
  unfold Nd.val at *
  rw [hk] at *
  subst hv
  clear hf hr hk hq ih
  generalize T.num = tn at *
  generalize T.name = ts at *
  cases he : ts.toList.isEmpty
  · cases h1 : (tn != 0)
    all_goals go_enter Tryd.func56, Tryd.ntmps56
    all_goals go_wp2
    all_goals go_ret
    all_goals exact ⟨ret_bool (by rw [HEO.out]; simp only [emptyB, he]; rfl), (HB _).out⟩
  cases h1 : (tn != 0)
  · go_enter Tryd.func56, Tryd.ntmps56
    go_wp2
    go_loopg [4] T.len (fun gk i wr => ∃ (j : Nat), gk = T.len - j ∧ j ≤ T.len ∧ i = .int .i64 j ∧ Hid (∀ i, i < j → (T.kids i).sOk = true) ∧ Below (w.heap.size + 1) (w.alloc (.cells #[.int .i64 4, .int .i64 tn, .string ts, .slice a T.len cap] 37)) wr)
    case atStart => exact ⟨0, by omega, by omega, rfl, (fun i hi => by omega), Below.refl _ _⟩
    case round =>
      obtain ⟨j, hgk, hj, rfl, hall, hb⟩ := hrel
      have HGK := hid_mk hgk
      clear hgk
      have k3 : wr.cell? ⟨w.heap.size, 3, none⟩ = some (.slice a T.len cap) := by
        rw [hb.cell (p := ⟨w.heap.size, 3, none⟩) (by show w.heap.size < _; omega)]; simp
      have hbw := (HB (.cells #[.int .i64 4, .int .i64 tn, .string ts, .slice a T.len cap] 37)).out.trans (hb.mono (by omega))
      have hbz := hbw.size
      have hbx : w.heap.size + 1 ≤ wr.heap.size := by have := hb.size; simpa using this
      by_cases hlt : j < T.len
      · rcases HR.out with h0 | ⟨g, off, rfl, g1, g2, g3⟩
        · omega
        obtain ⟨u, e0, e1, e2, e3, hu⟩ := g3 j hlt
        have hgl : g < w.heap.size := by omega
        rw [← hbw.cell (p := ⟨g, _, none⟩) hgl] at e0 e1 e2 e3
        have HU := hid_mk (row_below hbw hhi hu)
        have HC := HI.out j hlt
        have HFJ := hid_mk (Nd.fine_kid HF.out hlt)
        have HN : Hid ((T.kids j).sOk = false → false = T.sOk) := fun h => by rw [HEO.out, allTo_false hlt h]; simp
        have HY : Hid ((T.kids j).sOk = true → ∀ i, i < j + 1 → (T.kids i).sOk = true) := fun h i hi => by
          by_cases e : i = j
          · subst e; exact h
          · exact hall.out i (by omega)
        unfold StmtC Nd.val at HC
        have HCC := hid_mk HC
        clear g3 HC hu hall
        generalize T.kids j = K at *
        cases hx : K.sOk
        all_goals have HX := hid_mk hx
        all_goals clear hx
        all_goals go_wp2_with (go_at_call 56; refine (HCC.out _ _ hi HFJ.out (by omega) HU.out).mono ?_; rw [HX.out]; rintro e w1 ⟨rfl, hb1⟩)
        · go_ret
          exact ⟨ret_bool (HN.out HX.out), hbw.trans (hb1.mono hbz)⟩
        · go_roundg (T.len - (j + 1))
          case rel => exact ⟨j + 1, rfl, by omega, by go_num, HY.out HX.out, hb.trans (hb1.mono hbx)⟩
          case measure => have := HGK.out; omega
      · obtain rfl : j = T.len := by omega
        go_wp2
        go_ret
        exact ⟨ret_bool (by rw [HEO.out, allTo_true hall.out]; simp only [emptyB, he, nz_b h1]; rfl), hbw⟩
  · go_enter Tryd.func56, Tryd.ntmps56
    go_wp2
    go_ret
    exact ⟨ret_bool (by rw [HEO.out]; simp only [emptyB, he, nz_b h1]; rfl), (HB _).out⟩

set_option maxHeartbeats 4000000 in
set_option maxRecDepth 100000 in
theorem stmt_15 (T : Nd) (hk : T.kind = 15) (ih : ∀ i, i < T.len → CaseC (T.kids i)) : StmtC T := by
  intro w v hi hf hhi hr
  have hn := T.fine_len hf
  obtain ⟨a, cap, hv, _, hq⟩ := row_eq.1 hr
  have HEO : Hid (T.sOk = (emptyB T.name && decide (T.num = 0) && allTo (fun i => (T.kids i).cOk) T.len)) := by have := sOk_eq T; rw [hk] at this; exact this
  have HI := hid_mk ih
  have HF := hid_mk hf
  have HR := hid_mk hq
  have HB : ∀ o : Obj, Hid (Below w.heap.size w (w.alloc o)) := fun o => (Below.refl _ _).alloc (Nat.le_refl _) _
  unfold Nd.val at *
  rw [hk] at *
  subst hv
  clear hf hr hk hq ih
  generalize T.num = tn at *
  generalize T.name = ts at *
  cases he : ts.toList.isEmpty
  · cases h1 : (tn != 0)
    all_goals go_enter Tryd.func56, Tryd.ntmps56
    all_goals go_wp2
    all_goals go_ret
    all_goals exact ⟨ret_bool (by rw [HEO.out]; simp only [emptyB, he]; rfl), (HB _).out⟩
  cases h1 : (tn != 0)
  · go_enter Tryd.func56, Tryd.ntmps56
    go_wp2
    go_loopg [5] T.len (fun gk i wr => ∃ (j : Nat), gk = T.len - j ∧ j ≤ T.len ∧ i = .int .i64 j ∧ Hid (∀ i, i < j → (T.kids i).cOk = true) ∧ Below (w.heap.size + 1) (w.alloc (.cells #[.int .i64 15, .int .i64 tn, .string ts, .slice a T.len cap] 37)) wr)
    case atStart => exact ⟨0, by omega, by omega, rfl, (fun i hi => by omega), Below.refl _ _⟩
    case round =>
      obtain ⟨j, hgk, hj, rfl, hall, hb⟩ := hrel
      have HGK := hid_mk hgk
      clear hgk
      have k3 : wr.cell? ⟨w.heap.size, 3, none⟩ = some (.slice a T.len cap) := by
        rw [hb.cell (p := ⟨w.heap.size, 3, none⟩) (by show w.heap.size < _; omega)]; simp
      have hbw := (HB (.cells #[.int .i64 15, .int .i64 tn, .string ts, .slice a T.len cap] 37)).out.trans (hb.mono (by omega))
      have hbz := hbw.size
      have hbx : w.heap.size + 1 ≤ wr.heap.size := by have := hb.size; simpa using this
      by_cases hlt : j < T.len
      · rcases HR.out with h0 | ⟨g, off, rfl, g1, g2, g3⟩
        · omega
        obtain ⟨u, e0, e1, e2, e3, hu⟩ := g3 j hlt
        have hgl : g < w.heap.size := by omega
        rw [← hbw.cell (p := ⟨g, _, none⟩) hgl] at e0 e1 e2 e3
        have HU := hid_mk (row_below hbw hhi hu)
        have HC := HI.out j hlt
        have HFJ := hid_mk (Nd.fine_kid HF.out hlt)
        have HN : Hid ((T.kids j).cOk = false → false = T.sOk) := fun h => by rw [HEO.out, allTo_false hlt h]; simp
        have HY : Hid ((T.kids j).cOk = true → ∀ i, i < j + 1 → (T.kids i).cOk = true) := fun h i hi => by
          by_cases e : i = j
          · subst e; exact h
          · exact hall.out i (by omega)
        unfold CaseC Nd.val at HC
        have HCC := hid_mk HC
        clear g3 HC hu hall
        generalize T.kids j = K at *
        cases hx : K.cOk
        all_goals have HX := hid_mk hx
        all_goals clear hx
        all_goals go_wp2_with (go_at_call 68; refine (HCC.out _ _ hi HFJ.out (by omega) HU.out).mono ?_; rw [HX.out]; rintro e w1 ⟨rfl, hb1⟩)
        · go_ret
          exact ⟨ret_bool (HN.out HX.out), hbw.trans (hb1.mono hbz)⟩
        · go_roundg (T.len - (j + 1))
          case rel => exact ⟨j + 1, rfl, by omega, by go_num, HY.out HX.out, hb.trans (hb1.mono hbx)⟩
          case measure => have := HGK.out; omega
      · obtain rfl : j = T.len := by omega
        go_wp2
        go_ret
        exact ⟨ret_bool (by rw [HEO.out, allTo_true hall.out]; simp only [emptyB, he, nz_b h1]; rfl), hbw⟩
  · go_enter Tryd.func56, Tryd.ntmps56
    go_wp2
    go_ret
    exact ⟨ret_bool (by rw [HEO.out]; simp only [emptyB, he, nz_b h1]; rfl), (HB _).out⟩
end Go.Proofs.YtjgbjahcnnjfpaaDoor
