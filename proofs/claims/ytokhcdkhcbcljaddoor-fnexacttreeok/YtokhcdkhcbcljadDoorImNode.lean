/- The program's test of a node. -/
import Derived.Test.YtokhcdkhcbcljadDoorImList
import Derived.RegionTactic
import Derived.BigRegion
import Derived.Deep.RegionWith
set_option linter.unusedVariables false
namespace Go.Proofs.YtokhcdkhcbcljadDoor
open Go.RowKit

/-- The forms of kids, by Kind; those of a case, by its number. -/
def kidWords : List ByteArray := [⟨#[]⟩, ⟨#[102, 42]⟩, ⟨#[112, 42, 98]⟩, ⟨#[]⟩, ⟨#[115, 42]⟩, ⟨#[101]⟩, ⟨#[101]⟩, ⟨#[]⟩, ⟨#[101, 101]⟩, ⟨#[97]⟩, ⟨#[101, 98, 111, 63]⟩, ⟨#[101, 63, 98]⟩, ⟨#[101, 63]⟩, ⟨#[99]⟩, ⟨#[99]⟩, ⟨#[119, 42]⟩, ⟨#[]⟩, ⟨#[]⟩, ⟨#[]⟩, ⟨#[101]⟩, ⟨#[101]⟩, ⟨#[101]⟩, ⟨#[]⟩, ⟨#[]⟩, ⟨#[]⟩, ⟨#[101, 42]⟩, ⟨#[101, 63]⟩, ⟨#[101]⟩, ⟨#[101, 101]⟩, ⟨#[101]⟩]
def caseWords : List ByteArray := [⟨#[98]⟩, ⟨#[101, 98]⟩, ⟨#[101, 101, 98]⟩]
def formOf (k n : Int) : ByteArray := if k = 16 then caseWords.getD n.toNat ⟨#[]⟩ else kidWords.getD k.toNat ⟨#[]⟩
def kidsF (T : Nd) : Bool := fitsF T.kk T.len (formOf T.kind T.num).size (formOf T.kind T.num).data.toList 0
def fitB (T : Nd) : Bool := numB T.kind T.num && nmB T.kind T.num T.name && kidsF T

theorem form_small (k n : Int) : (formOf k n).size ≤ 100 := by
  have h : ∀ l ∈ [caseWords, kidWords], ∀ i, (l.getD i ⟨#[]⟩).size ≤ 100 := by
    intro l hl i
    have hm : l.getD i ⟨#[]⟩ = ⟨#[]⟩ ∨ l.getD i ⟨#[]⟩ ∈ l := by
      by_cases hi : i < l.length
      · right; rw [List.getD_eq_getElem?_getD, List.getElem?_eq_getElem hi]; simp
      · left; rw [List.getD_eq_getElem?_getD, List.getElem?_eq_none (by omega)]; rfl
    rcases hm with h | h
    · rw [h]; decide
    · have : ∀ l ∈ [caseWords, kidWords], ∀ x ∈ l, x.size ≤ 100 := by decide
      exact this l hl _ h
  unfold formOf
  split
  · exact h _ (by simp) _
  · exact h _ (by simp) _

theorem rest_row {T : Nd} {w : World} {v : Value} {hi : Nat} (hr : Row 0 hi w T v) (h0 : 0 < hi) : ∃ g off, g < hi ∧ Rest w T.kk T.len g off 0 v := by
  obtain ⟨a, cap, rfl, hcap, hq⟩ := row_eq.1 hr
  rcases hq with hq | ⟨g, off, rfl, _, hg, hq⟩
  · exact ⟨0, 0, h0, a, cap, rfl, by omega, hcap.2, fun h => by omega, fun i _ h => by omega⟩
  · refine ⟨g, off, hg, some ⟨g, off, none⟩, cap, rfl, by omega, hcap.2, fun h => by simp, fun i _ h => ?_⟩
    obtain ⟨u, e0, _⟩ := hq i h
    exact e0

/-- The program's four tables lie there. -/
structure Tabs (w : World) : Prop where
  words : StrRow w 4 kwWords
  kids : StrRow w 2 kidWords
  cases : StrRow w 1 caseWords
  lt : 4 < w.heap.size
theorem tabs_below {w w' : World} (h : Tabs w) (hb : Below w.heap.size w w') : Tabs w' := by
  have := h.lt
  have hz := hb.size
  exact ⟨fun i hi => (hb.cell (p := ⟨4, i, none⟩) (by show 4 < _; omega)).trans (h.words i hi), fun i hi => (hb.cell (p := ⟨2, i, none⟩) (by show 2 < _; omega)).trans (h.kids i hi),
    fun i hi => (hb.cell (p := ⟨1, i, none⟩) (by show 1 < _; omega)).trans (h.cases i hi), by omega⟩

set_option maxHeartbeats 4000000 in
set_option maxRecDepth 100000 in
theorem kidsfit_any (T : Nd) (k : Nat) (hk : T.kind = (k : Int)) (h29 : k ≤ 29) (hcase : k = 16 → 0 ≤ T.num ∧ T.num ≤ 2) (w : World) (v : Value) (hi : Nat) (hf : T.Fine) (hhi : hi ≤ w.heap.size) (hi0 : 0 < hi) (hr : Row 0 hi w T v) (ht : Tabs w) :
    Calls Tryd.prog 49 #[T.val v] w fun e w' => e = .returned (.bool (kidsF T)) ∧ Below w.heap.size w w' := by
  obtain ⟨a, cap, hv, _⟩ := row_eq.1 hr
  have hn := T.fine_len hf
  have HB : ∀ o : Obj, Hid (Below w.heap.size w (w.alloc o)) := fun o => (Below.refl _ _).alloc (Nat.le_refl _) _
  have hlt := ht.lt
  have HL := hid_mk (fun (W : World) (hb : Below w.heap.size w W) => by
    obtain ⟨g, off, hg, hrest⟩ := rest_row (row_below hb hhi hr) hi0
    exact list_any T.kk T.len g off (formOf T.kind T.num) v W hn (form_small _ _) (by have := hb.size; omega) hrest)
  have HEO : Hid (kidsF T = fitsF T.kk T.len (formOf T.kind T.num).size (formOf T.kind T.num).data.toList 0) := rfl
  unfold Nd.val
  subst hv
  by_cases h16 : k = 16
  · subst h16
    obtain ⟨c0, c2⟩ := hcase rfl
    obtain ⟨m, hm⟩ : ∃ m : Nat, T.num = (m : Int) := ⟨T.num.toNat, by omega⟩
    have hcs : ∀ o : Obj, (w.alloc o).cell? ⟨1, m, none⟩ = some (.string (caseWords.getD m ⟨#[]⟩)) := fun o => ((HB o).out.cell (p := ⟨1, m, none⟩) (by show 1 < _; omega)).trans (ht.cases m (by show m < 3; omega))
    have hfo : formOf T.kind T.num = caseWords.getD m ⟨#[]⟩ := by unfold formOf; rw [hk, hm]; rfl
    rw [hfo] at HL HEO
    rw [hk, hm]
    have hm3 : (m : Int) < 3 := by omega
    have hm0 : (0 : Int) ≤ (m : Int) := by omega
    clear hf hr hk hm hcase c0 c2 ht hfo
    generalize caseWords.getD m ⟨#[]⟩ = fo at *
    go_enter Tryd.func49, Tryd.ntmps49
    go_wp2_with fail
    go_region_with (go_at_call 64; refine (HL.out _ (HB _).out.drew).mono ?_; rw [← HEO.out]; rintro e w1 ⟨rfl, hb1⟩)
    all_goals go_wp2
    all_goals go_ret
    all_goals exact ⟨rfl, (HB _).out.drew.trans (hb1.mono (by simp))⟩
  · have hcs : ∀ o : Obj, (w.alloc o).cell? ⟨2, k, none⟩ = some (.string (kidWords.getD k ⟨#[]⟩)) := fun o => ((HB o).out.cell (p := ⟨2, k, none⟩) (by show 2 < _; omega)).trans (ht.kids k (by show k < 30; omega))
    have hne : ((k : Int) == 16) = false := beq_eq_false_iff_ne.2 (by omega)
    have hfo : formOf T.kind T.num = kidWords.getD k ⟨#[]⟩ := by unfold formOf; rw [hk, if_neg (by omega)]; rfl
    rw [hfo] at HL HEO
    rw [hk]
    have hm3 : (k : Int) < 30 := by omega
    have hm0 : (0 : Int) ≤ (k : Int) := by omega
    clear hf hr hk hcase ht hfo h16
    generalize T.num = tn at *
    generalize kidWords.getD k ⟨#[]⟩ = fo at *
    go_enter Tryd.func49, Tryd.ntmps49
    go_wp2_with fail
    go_region_with (go_at_call 64; refine (HL.out _ (HB _).out.drew).mono ?_; rw [← HEO.out]; rintro e w1 ⟨rfl, hb1⟩)
    all_goals go_wp2
    all_goals go_ret
    all_goals exact ⟨rfl, (HB _).out.drew.trans (hb1.mono (by simp))⟩

set_option maxHeartbeats 4000000 in
theorem nodefits_any (T : Nd) (k : Nat) (hk : T.kind = (k : Int)) (h29 : k ≤ 29) (w : World) (v : Value) (hi : Nat) (hf : T.Fine) (hhi : hi ≤ w.heap.size) (hi0 : 0 < hi) (hr : Row 0 hi w T v) (ht : Tabs w) :
    Calls Tryd.prog 34 #[T.val v] w fun e w' => e = .returned (.bool (fitB T)) ∧ Below w.heap.size w w' := by
  obtain ⟨a, cap, hv, _⟩ := row_eq.1 hr
  have hs := T.fine_name hf
  have HB : ∀ o : Obj, Hid (Below w.heap.size w (w.alloc o)) := fun o => (Below.refl _ _).alloc (Nat.le_refl _) _
  have HEO : Hid (fitB T = (numB T.kind T.num && nmB T.kind T.num T.name && kidsF T)) := rfl
  have HK := hid_mk (fun (hc : k = 16 → 0 ≤ T.num ∧ T.num ≤ 2) (W : World) (hb : Below w.heap.size w W) => kidsfit_any T k hk h29 hc W v hi hf (by have := hb.size; omega) hi0 (row_below hb hhi hr) (tabs_below ht hb))
  have HN := hid_mk (fun (W : World) (hb : Below w.heap.size w W) => nm_any T.kind T.num T.name a T.len cap W (by unfold maxLen; exact hs) (tabs_below ht hb).lt (tabs_below ht hb).words)
  have HC : Hid (numB T.kind T.num = true → k = 16 → 0 ≤ T.num ∧ T.num ≤ 2) := fun h e => by
    rw [hk, e] at h; simpa [numB] using h
  unfold Nd.val at *
  subst hv
  clear hf hr hs hk ht
  generalize T.kind = tk at *
  generalize T.num = tn at *
  generalize T.name = ts at *
  cases h1 : numB tk tn
  · go_enter Tryd.func34, Tryd.ntmps34
    go_wp2_with (go_at_call 47; refine (num_any _ _ _ _ _ _ _).mono ?_; rw [h1]; rintro e w1 ⟨rfl, hb1⟩)
    go_ret
    exact ⟨ret_bool (by rw [HEO.out, h1]; rfl), (HB _).out.trans (hb1.mono (by simp))⟩
  have HC2 := hid_mk (HC.out h1)
  clear HC
  go_enter Tryd.func34, Tryd.ntmps34
  go_wp2_with (go_at_call 47; refine (num_any _ _ _ _ _ _ _).mono ?_; rw [h1]; rintro e w1 ⟨rfl, hb1⟩; have hz1 := hb1.size; simp only [World.size_alloc] at hz1; obtain ⟨hc1, hf1⟩ := bcell hb1; have B1 := hid_mk ((HB _).out.trans (hb1.mono (by simp))))
  have F1 : Hid (w1.cell? ⟨w.heap.size, 0, none⟩ = some (.int .i64 tk) ∧ w1.cell? ⟨w.heap.size, 1, none⟩ = some (.int .i64 tn) ∧ w1.cell? ⟨w.heap.size, 2, none⟩ = some (.string ts) ∧ w1.cell? ⟨w.heap.size, 3, none⟩ = some (.slice a T.len cap)) := by
    refine ⟨?_, ?_, ?_, ?_⟩ <;> (rw [hc1 _ _ (by simp)]; simp [go_sem])
  clear hc1 hf1 hb1
  cases h2 : nmB tk tn ts
  · refine (HN.out _ B1.out).mono ?_
    rw [h2]
    rintro e w2 ⟨rfl, hb2⟩
    go_wp2
    go_ret
    exact ⟨ret_bool (by rw [HEO.out, h1, h2]; rfl), B1.out.trans (hb2.mono (by omega))⟩
  · refine (HN.out _ B1.out).mono ?_
    rw [h2]
    rintro e w2 ⟨rfl, hb2⟩
    have hz2 := hb2.size
    have B2 := hid_mk (B1.out.trans (hb2.mono (by omega)))
    obtain ⟨f0, f1, f2, f3⟩ := F1.out
    rw [← (bcell hb2).1 _ _ (by omega)] at f0 f1 f2 f3
    clear hb2
    go_wp2_with fail
    refine (HK.out HC2.out _ B2.out).mono ?_
    cases h3 : kidsF T
    all_goals rintro e w3 ⟨rfl, hb3⟩
    all_goals go_wp2
    all_goals go_ret
    all_goals exact ⟨ret_bool (by rw [HEO.out, h1, h2, h3]; rfl), B2.out.trans (hb3.mono (by omega))⟩
end Go.Proofs.YtokhcdkhcbcljadDoor
