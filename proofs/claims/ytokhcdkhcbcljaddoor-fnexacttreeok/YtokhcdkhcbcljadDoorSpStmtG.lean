/- The specification's test of a statement: an expression that stands alone; lists; other kinds. -/
import Derived.Test.YtokhcdkhcbcljadDoorSpBits
import Derived.WalkSpells
import Derived.WalkSmall
import Derived.Deep.LoopGhost
set_option linter.unusedVariables false
namespace Go.Proofs.YtokhcdkhcbcljadDoor
open Go.RowKit

theorem one_of_sorts {e st : Nat → Bool} {kk : Nat → Int} {len : Nat} (h : sortsB e st kk len ⟨#[101]⟩ = true) : len = 1 := by
  unfold sortsB at h
  simp only [Bool.and_eq_true, decide_eq_true_eq] at h
  exact h.1

set_option maxHeartbeats 4000000 in
set_option maxRecDepth 100000 in
theorem stmt_9 (T : Nd) (hk : T.kind = 9) (hK : KidsC T) : StmtC T := by
  intro w v hi hf hhi hr
  have hn := T.fine_len hf
  obtain ⟨a, cap, hv, _, hq⟩ := row_eq.1 hr
  have HEO : Hid (T.sOk = stmtB 9 T.num T.name T.len (fun i => (T.kids i).eOk) (fun i => (T.kids i).sOk) (fun i => (T.kids i).cOk) T.kk) := by have := sOk_eq T; rw [hk] at this; exact this
  have HK := hid_mk (fun W (hb : Below w.heap.size w W) sorts => hK W v hi sorts hf (by have := hb.size; omega) (row_below hb hhi hr))
  have HQ := hid_mk hq
  have HB : ∀ o : Obj, Hid (Below w.heap.size w (w.alloc o)) := fun o => (Below.refl _ _).alloc (Nat.le_refl _) _
  unfold Nd.val at *
  rw [hk] at *
  subst hv
  clear hf hr hK hk hq
  generalize T.num = tn at *
  generalize T.name = ts at *
  have hkk : T.kk 0 = (T.kids 0).kind := rfl
  cases hks : sortsB (fun i => (T.kids i).eOk) (fun i => (T.kids i).sOk) T.kk T.len ⟨#[101]⟩
  · clear hkk
    cases he : ts.toList.isEmpty
    all_goals cases h1 : (tn != 0)
    all_goals go_enter Tryd.func44, Tryd.ntmps44
    all_goals go_wp2_with (go_at_call 59; refine (HK.out _ (HB _).out ⟨#[101]⟩ (by decide)).mono ?_; rw [hks]; rintro e w2 ⟨rfl, hb2⟩; have hz2 := hb2.size; simp only [World.size_alloc] at hz2; obtain ⟨hc2, hf2⟩ := bcell hb2)
    all_goals go_ret
    all_goals refine ⟨ret_bool (by rw [HEO.out]; unfold stmtB; simp only [emptyB, he, nz_b h1, hks]; rfl), ?_⟩
    all_goals first | exact (HB _).out | exact (HB _).out.trans (hb2.mono (by simp))
  · have hl1 := one_of_sorts hks
    rcases HQ.out with h0 | ⟨g, off, rfl, g1, g2, g3⟩
    · omega
    obtain ⟨u, e0, _⟩ := g3 0 (by omega)
    simp only [Nat.zero_mul, Nat.add_zero] at e0
    rw [← hkk] at e0
    have HE0 := hid_mk e0
    have hlt : (0 : Int) < (T.len : Int) := by omega
    clear hkk hl1 e0 g3
    generalize hk0 : T.kk 0 = k0 at *
    have HK0 := hid_mk hk0
    clear hk0
    cases he : ts.toList.isEmpty
    all_goals cases h1 : (tn != 0)
    all_goals cases h2 : (k0 == 25)
    all_goals cases h3 : (k0 == 29)
    all_goals go_enter Tryd.func44, Tryd.ntmps44
    all_goals go_wp2_with (go_at_call 59; refine (HK.out _ (HB _).out ⟨#[101]⟩ (by decide)).mono ?_; rw [hks]; rintro e w2 ⟨rfl, hb2⟩; have hz2 := hb2.size; simp only [World.size_alloc] at hz2; obtain ⟨hc2, hf2⟩ := bcell hb2; have q0 := (((HB _).out.trans (hb2.mono (by simp))).cell (p := ⟨g, off, none⟩) (by show g < _; omega)).trans HE0.out)
    all_goals go_ret
    all_goals refine ⟨ret_bool (by rw [HEO.out]; unfold stmtB; simp only [emptyB, he, nz_b h1, hks, HK0.out, num_b h2, num_b h3]; rfl), ?_⟩
    all_goals first | exact (HB _).out | exact (HB _).out.trans (hb2.mono (by simp))
end Go.Proofs.YtokhcdkhcbcljadDoor
