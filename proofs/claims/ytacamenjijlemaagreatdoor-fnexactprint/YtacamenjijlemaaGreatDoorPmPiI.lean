/- Print, the specification's and the program's; given a bound of the text. -/
import Derived.Test.YtacamenjijlemaaGreatDoorPmPiH
import Derived.Test.YtacamenjijlemaaGreatDoorPmPiC
import Derived.Test.YtacamenjijlemaaGreatDoorPmImB
import Derived.Test.YtacamenjijlemaaGreatDoorPmSpH
set_option linter.unusedVariables false
namespace Go.Proofs.YtacamenjijlemaaGreatDoor
open Go.RowKit

def codeT (T : Nd) : Int := if treeB T then 0 else 1
theorem tree_funcs {T : Nd} (h : treeB T = true) : ∀ i, i < T.len → funcB (T.kids i) = true := by
  unfold treeB at h
  simp only [Bool.and_eq_true] at h
  exact allTo_iff.1 h.2

set_option maxHeartbeats 2000000 in
set_option maxRecDepth 100000 in
theorem spec_print (T : Nd) (w : World) (u : Value) (hi : Nat) (hf : T.Fine) (hhi : hi ≤ w.heap.size) (hr : Row 0 hi w T u) (hlen : treeB T = true → (fileT T).length ≤ 1099511627776) :
    Calls Tryz.prog 5 #[T.val u] w fun e w' => e = .returned (.tuple #[.string (strT (printT T)), .int .i64 (codeT T)]) ∧ Below w.heap.size w w' := by
  obtain ⟨a, cap, rfl, _⟩ := row_eq.1 hr
  have hb0 : Below w.heap.size w (w.alloc (.cells #[.int .i64 T.kind, .int .i64 T.num, .string T.name, .slice a T.len cap] 30)) := (Below.refl _ _).alloc (Nat.le_refl _) _
  have SP := hid_mk (fun W (hW : Below w.heap.size w W) => spec_tree T W (.slice a T.len cap) hi hf (by have := hW.size; omega) (row_below hW hhi hr))
  have SL := hid_mk (fun (h : treeB T = true) W (hW : Below w.heap.size w W) => spec_l03 T W (.slice a T.len cap) hi hf (by have := hW.size; omega) (row_below hW hhi hr) (tree_funcs h) (hlen h))
  have HB0 := hid_mk hb0
  have HE : Hid (printT T = if treeB T then fileT T else []) := rfl
  have HC : Hid (codeT T = if treeB T then 0 else 1) := rfl
  clear hf hr hlen hb0
  unfold Nd.val at *
  cases ht : treeB T
  · rw [ht] at SP
    rw [HE.out, HC.out, ht]
    clear SL HE HC
    go_enter Tryz.func5, Tryz.ntmps5
    go_wp2_with (go_at_call 10; refine (SP.out _ (by first | exact Below.refl _ _ | exact HB0.out)).mono ?_; rintro e w2 ⟨rfl, hb2⟩; have HB2 := hid_mk hb2; clear hb2)
    refine bodyPost_ret (v := .tuple #[.string (strT []), .int .i64 1]) (by simp [results, Tryz.results5, go_sem, strT]) rfl ⟨rfl, ?_⟩
    exact HB0.out.trans (HB2.out.mono (by simp))
  · rw [ht] at SP
    have SL := hid_mk (SL.out ht)
    rw [HE.out, HC.out, ht]
    simp only [if_true]
    have hst : strT (fileT T) = strT (fileT T) := rfl
    generalize strT (fileT T) = tx at *
    clear HE HC
    go_enter Tryz.func5, Tryz.ntmps5
    go_wp2_with (first
      | (go_at_call 10; refine (SP.out _ HB0.out).mono ?_; rintro e w2 ⟨rfl, hb2⟩; have HB2 := hid_mk (HB0.out.trans (hb2.mono (by simp))); have hz2 := hb2.size; have q0 := (hb2.cell (p := ⟨w.heap.size, 0, none⟩) (by simp)); have q1 := (hb2.cell (p := ⟨w.heap.size, 1, none⟩) (by simp)); have q2 := (hb2.cell (p := ⟨w.heap.size, 2, none⟩) (by simp)); have q3 := (hb2.cell (p := ⟨w.heap.size, 3, none⟩) (by simp)); clear hb2)
      | (go_at_call 11; refine (SL.out _ HB2.out).mono ?_; rintro e w3 ⟨rfl, hb3⟩; have HB3 := hid_mk (HB2.out.trans (hb3.mono (by simp at hz2; omega))); clear hb3))
    refine bodyPost_ret (v := .tuple #[.string tx, .int .i64 0]) (by simp [results, Tryz.results5, go_sem]) rfl ⟨rfl, ?_⟩
    exact HB3.out

set_option maxHeartbeats 4000000 in
set_option maxRecDepth 100000 in
theorem impl_print (hBin : BinAll) (T : Nd) (w : World) (u : Value) (hf : T.Fine) (hr : Row 0 w.heap.size w T u) (hc : T.cost ≤ 1048576) (ht : Tabs w) (hg : Gl w.heap.size w) (hlen : treeB T = true → (fileT T).length ≤ 1099511627776) :
    Calls Tryz.prog 7 #[T.val u] w fun e w' => e = .returned (.tuple #[.string (strT (printT T)), .int .i64 (codeT T)]) ∧ Below w.heap.size w w' := by
  obtain ⟨a, cap, rfl, _⟩ := row_eq.1 hr
  have hb0 : Below w.heap.size w (w.alloc (.cells #[.int .i64 T.kind, .int .i64 T.num, .string T.name, .slice a T.len cap] 30)) := (Below.refl _ _).alloc (Nat.le_refl _) _
  have IM := hid_mk (fun W (hW : Below w.heap.size w W) => by have := impl_tree T W (.slice a T.len cap) hf (row_wide (row_below hW (Nat.le_refl _) hr) (Nat.le_refl _) hW.size) hc (tabs_below ht hW); rw [tree_one] at this; exact this)
  have PF := hid_mk (fun (h : treeB T = true) W (hW : Below w.heap.size w W) => pfile_any hBin T (tree_funcs h) W.heap.size none (W.alloc (.cells #[.pointer none, .slice none 0 0, .int .i64 0, .bool false] 45)) (.slice a T.len cap) (IBuf.new W) (fun V hV => hg V ((hW.trans ((((Below.refl W.heap.size W).alloc (Nat.le_refl _) _).trans hV).mono hW.size)))) hf
    (row_wide (row_below (hW.trans (((Below.refl W.heap.size W).alloc (Nat.le_refl _) _).mono hW.size)) (Nat.le_refl _) hr) (Nat.le_refl _) hW.size) (hlen h))
  have HQ : Hid (∀ W, Below (w.heap.size + 1) (w.alloc (.cells #[.int .i64 T.kind, .int .i64 T.num, .string T.name, .slice a T.len cap] 30)) W → W.cell? ⟨w.heap.size, 0, none⟩ = some (.int .i64 T.kind) ∧ W.cell? ⟨w.heap.size, 1, none⟩ = some (.int .i64 T.num) ∧ W.cell? ⟨w.heap.size, 2, none⟩ = some (.string T.name) ∧ W.cell? ⟨w.heap.size, 3, none⟩ = some (.slice a T.len cap)) := by
    intro W h
    have e : ∀ o, W.cell? ⟨w.heap.size, o, none⟩ = (w.alloc (.cells #[.int .i64 T.kind, .int .i64 T.num, .string T.name, .slice a T.len cap] 30)).cell? ⟨w.heap.size, o, none⟩ := fun o => h.cell (p := ⟨w.heap.size, o, none⟩) (by show w.heap.size < w.heap.size + 1; omega)
    rw [e, e, e, e]; refine ⟨?_, ?_, ?_, ?_⟩ <;> simp [go_sem]
  have HB0 := hid_mk hb0
  have HE : Hid (printT T = if treeB T then fileT T else []) := rfl
  have HC : Hid (codeT T = if treeB T then 0 else 1) := rfl
  clear hf hr hlen hb0 hg ht
  unfold Nd.val at *
  cases hbt : treeB T
  · rw [hbt] at IM
    rw [HE.out, HC.out, hbt]
    clear PF HE HC
    go_enter Tryz.func7, Tryz.ntmps7
    go_wp2_with (go_at_call 13; refine (IM.out _ HB0.out).mono ?_; rintro e w2 ⟨rfl, hb2⟩; have HB2 := hid_mk hb2; clear hb2)
    refine bodyPost_ret (v := .tuple #[.string (strT []), .int .i64 1]) (by simp [results, Tryz.results7, go_sem, strT]) rfl ⟨rfl, ?_⟩
    exact HB0.out.trans (HB2.out.mono (by simp))
  · rw [hbt] at IM
    have PF := hid_mk (PF.out hbt)
    rw [HE.out, HC.out, hbt]
    simp only [if_true]
    clear HE HC
    go_enter Tryz.func7, Tryz.ntmps7
    go_wp2_with (first
      | (go_at_call 13; refine (IM.out _ HB0.out).mono ?_; rintro e w2 ⟨rfl, hb2⟩; have HB2 := hid_mk (HB0.out.trans (hb2.mono (by simp))); have hz2 := hb2.size; obtain ⟨p0, p1, p2, p3⟩ := HQ.out (w2.alloc (.cells #[.pointer none, .slice none 0 0, .int .i64 0, .bool false] 45)) ((hb2.mono (by simp)).trans (((Below.refl w2.heap.size w2).alloc (Nat.le_refl _) _).mono (by simp at hz2; omega))); clear hb2)
      | (go_at_call 14; refine (PF.out _ HB2.out).mono ?_; rintro e w3 ⟨⟨r, rfl⟩, own3, hb3, hw3⟩; have HIB := hid_mk hb3; have HB3 := hid_mk (HB2.out.trans ((((Below.refl w2.heap.size w2).alloc (Nat.le_refl _) _).trans (hw3.belowI (IBuf.new w2))).mono (by simp at hz2; omega))); clear hb3 hw3)
      | (go_at_call 15; refine (str_of _ _ _ _ _ _ HIB.out).mono ?_; rintro e w4 ⟨rfl, hb4⟩; have HB4 := hid_mk (HB3.out.trans (hb4.mono (by simp at hz2; omega))); clear hb4))
    refine bodyPost_ret (v := .tuple #[.string (strT (fileT T)), .int .i64 0]) (by simp [results, Tryz.results7, go_sem]) rfl ⟨rfl, ?_⟩
    exact HB4.out
theorem bin_all : BinAll := fun T hk ih hok => bin_of T hk ih hok
end Go.Proofs.YtacamenjijlemaaGreatDoor

/- How long the text of an expression is. -/
namespace Go.Proofs.YtacamenjijlemaaGreatDoor
open Go.RowKit

/-- What a tree weighs. -/
def Nd.wt (T : Nd) : Nat := T.cost + T.size
theorem sumTo_plus (f g : Nat → Nat) (n : Nat) : sumTo (fun i => f i + g i) n = sumTo f n + sumTo g n := by
  induction n with
  | zero => rfl
  | succ n ih => simp only [sumTo, ih]; omega
theorem sumTo_mono {f g : Nat → Nat} {n : Nat} (h : ∀ i, i < n → f i ≤ g i) : sumTo f n ≤ sumTo g n := by
  induction n with
  | zero => exact Nat.le_refl _
  | succ n ih => have := ih fun i hi => h i (by omega); have := h n (by omega); simp only [sumTo]; omega
theorem sumTo_times (c : Nat) (f : Nat → Nat) (n : Nat) : sumTo (fun i => c * f i) n = c * sumTo f n := by
  induction n with
  | zero => rfl
  | succ n ih => simp only [sumTo, ih, Nat.mul_add]
theorem wt_eq (T : Nd) : T.wt = T.name.size + T.len + 1 + sumTo (fun i => (T.kids i).wt) T.len := by
  have := sumTo_plus (fun i => (T.kids i).cost) (fun i => (T.kids i).size) T.len
  have e : sumTo (fun i => (T.kids i).wt) T.len = sumTo (fun i => (T.kids i).cost + (T.kids i).size) T.len := rfl
  rw [e, this]
  unfold Nd.wt
  rw [T.cost_eq, T.size_eq]; omega
theorem catTo_len (f : Nat → List UInt8) (n : Nat) : (catTo f n).length = sumTo (fun i => (f i).length) n := by
  induction n with
  | zero => rfl
  | succ n ih => simp only [catTo, sumTo, List.length_append, ih]
theorem parT_len (b : Bool) (t : List UInt8) : (parT b t).length ≤ t.length + 2 := by
  cases b <;> simp [parT]
theorem nm_len (s : ByteArray) : s.data.toList.length = s.size := rfl

theorem ex_len (T : Nd) : T.eOk = true → ((prN T).ex 1).length + 12 ≤ 100 * T.wt := by
  have step : ∀ T : Nd, (∀ i, i < T.len → (T.kids i).eOk = true → ((prN (T.kids i)).ex 1).length + 12 ≤ 100 * (T.kids i).wt) → T.eOk = true → ((prN T).ex 1).length + 12 ≤ 100 * T.wt := by
    intro T ih hok
    have hw := wt_eq T
    by_cases h22 : T.kind = 22
    · rw [ex_text_22 T h22]
      have := digF_len 20 T.num.toNat
      omega
    by_cases h23 : T.kind = 23
    · rw [ex_text_23 T h23]
      split <;> simp <;> omega
    by_cases h24 : T.kind = 24
    · rw [ex_text_24 T h24, nm_len]; omega
    by_cases h25 : T.kind = 25
    · rw [ex_text_25 T h25]
      have h := ex_ok_25 h25 hok
      have hs : sumTo (fun i => ((if i = 0 then [] else [44, 32]) ++ (prN (T.kids i)).ex 1).length) T.len ≤ sumTo (fun i => 100 * (T.kids i).wt) T.len := by
        refine sumTo_mono fun i hi => ?_
        have := ih i hi (h i hi)
        rw [List.length_append]
        split <;> simp <;> omega
      rw [sumTo_times] at hs
      simp only [List.length_append, List.length_cons, List.length_nil, catTo_len, nm_len] at hs ⊢
      omega
    by_cases h26 : T.kind = 26
    · rw [ex_text_26 T h26]
      have h := ex_ok_26 h26 hok
      by_cases h0 : T.len = 0
      · rw [if_pos h0]; simp; omega
      · have hl : T.len = 1 := by omega
        have := ih 0 (by omega) (h.2 0 (by omega))
        rw [if_neg h0]
        rw [hl] at hw
        simp only [sumTo] at hw
        simp; omega
    by_cases h27 : T.kind = 27
    · obtain ⟨hl, he⟩ := ex_ok_27 h27 hok
      have := ih 0 (by omega) he
      rw [un_text h27 he, List.length_append, nm_len]
      rw [hl] at hw
      simp only [sumTo] at hw
      have := parT_len (((T.kids 0).kind == 28) || ((T.name.toList == [45]) && (((T.kids 0).kind == 27) && ((T.kids 0).name.toList == [45])))) ((prN (T.kids 0)).ex 1)
      omega
    by_cases h28 : T.kind = 28
    · obtain ⟨_, hl, he0, he1⟩ := ex_ok_28 h28 hok
      have := ih 0 (by omega) he0
      have := ih 1 (by omega) he1
      rw [bin_text h28 hok]
      simp only [List.length_append, List.length_cons, nm_len]
      rw [hl] at hw
      simp only [sumTo] at hw
      have := parT_len (decide ((T.kids 0).kind = 28) && decide (lvl (T.kids 0).name < lvl T.name)) ((prN (T.kids 0)).ex 1)
      have := parT_len (decide ((T.kids 1).kind = 28) && decide (lvl (T.kids 1).name < lvl T.name + 1)) ((prN (T.kids 1)).ex 1)
      omega
    by_cases h29 : T.kind = 29
    · obtain ⟨hl, he⟩ := ex_ok_29 h29 hok
      have := ih 0 (by omega) he
      rw [ex_text_29 T h29, ← six_level he, List.length_append]
      rw [hl] at hw
      simp only [sumTo] at hw
      have := parT_len ((T.kids 0).kind == 28) ((prN (T.kids 0)).ex 1)
      simp; omega
    rw [eOk_eq] at hok
    simp [exprB, h22, h23, h24, h25, h26, h27, h28, h29] at hok
  induction T with
  | nil => exact step .nil fun i hi => absurd hi (Nat.not_lt_zero _)
  | mk k n s len kids ih => exact step _ fun i _ => ih i
end Go.Proofs.YtacamenjijlemaaGreatDoor

/- How long the text of a statement, and of a file, is. -/
namespace Go.Proofs.YtacamenjijlemaaGreatDoor
open Go.RowKit

def SBd (T : Nd) : Prop := ∀ d, ((prN T).st d).length + d + 12 ≤ 100 * T.wt + 4 * (T.size * (d + T.size))
theorem sumTo_timesR (f : Nat → Nat) (c n : Nat) : sumTo (fun i => f i * c) n = sumTo f n * c := by
  induction n with
  | zero => simp [sumTo]
  | succ n ih => simp only [sumTo, ih, Nat.add_mul]
theorem kid_size (T : Nd) {i : Nat} (h : i < T.len) : (T.kids i).size + 1 ≤ T.size := by
  rw [T.size_eq]; have := sumTo_at (fun i => (T.kids i).size) h; omega
theorem kid_wt (T : Nd) {i : Nat} (h : i < T.len) : (T.kids i).wt + 1 ≤ T.wt := by
  rw [wt_eq T]; have := sumTo_at (fun i => (T.kids i).wt) h; omega
theorem tab_len (d : Nat) : (tabsT d).length = d := by simp [tabsT]
theorem blk_len (d : Nat) (t : List UInt8) : (blockT d t).length = t.length + d + 3 := by simp [blockT, tabsT]; omega
theorem six_len {T : Nd} (h : T.eOk = true) : ((prN T).ex 6).length ≤ ((prN T).ex 1).length + 2 := by
  rw [← six_level h]; exact parT_len _ _

theorem cs_len (K : Nd) (M d : Nat) (h : K.cOk = true) (hL : SBd (K.kids (K.len - 1))) (hM : d + K.size + 1 ≤ M) : ((prN K).cs d).length ≤ 100 * K.wt + 4 * (K.size * M) := by
  obtain ⟨hk, h3, hk4, hs⟩ := cs_ok h
  rw [cs_text K hk]
  have hb := hL d
  rw [st_text_4 _ hk4, blk_len] at hb
  have hl : 1 ≤ K.len := by rcases h3 with h | h | h <;> omega
  have hsz := kid_size K (show K.len - 1 < K.len by omega)
  have hm : (K.kids (K.len - 1)).size * (d + (K.kids (K.len - 1)).size) ≤ K.size * M := Nat.mul_le_mul (by omega) (by omega)
  have hw := wt_eq K
  simp only [List.length_append, List.length_cons, List.length_nil, tab_len]
  rcases h3 with ⟨a, b⟩ | ⟨a, b, c⟩ | ⟨a, b, c, e⟩
  · have ht : (clauseT K.num K.name.data.toList (fun i => prN (K.kids i))).length = 7 := by rw [a]; rfl
    have := kid_wt K (show K.len - 1 < K.len by omega)
    omega
  · have hx := ex_len _ c
    have h6 := six_len c
    have ht : (clauseT K.num K.name.data.toList (fun i => prN (K.kids i))).length ≤ 13 + K.name.size + ((prN (K.kids 0)).ex 6).length := by
      rw [a]; unfold clauseT
      rw [if_neg (by decide), if_pos rfl]
      simp only [List.length_append]
      split <;> simp <;> omega
    rw [b] at hw hb hm ⊢
    simp only [sumTo, Nat.reduceSub] at hw hb hm ⊢
    omega
  · have hx := ex_len _ c
    have hy := ex_len _ e
    have ht : (clauseT K.num K.name.data.toList (fun i => prN (K.kids i))).length = 9 + ((prN (K.kids 0)).ex 1).length + ((prN (K.kids 1)).ex 1).length := by
      rw [a]; unfold clauseT
      rw [if_neg (by decide), if_neg (by decide)]
      simp; omega
    rw [b] at hw hb hm ⊢
    simp only [sumTo, Nat.reduceSub] at hw hb hm ⊢
    omega

theorem st_len (T : Nd) : (T.sOk = true → SBd T) ∧ ∀ i, i < T.len → (T.kids i).sOk = true → SBd (T.kids i) := by
  have step : ∀ T : Nd, (∀ i, i < T.len → ((T.kids i).sOk = true → SBd (T.kids i)) ∧ ∀ k, k < (T.kids i).len → ((T.kids i).kids k).sOk = true → SBd ((T.kids i).kids k)) → T.sOk = true → SBd T := by
    intro T ih hok d
    have hw := wt_eq T
    have hS := T.size_eq
    have hM : T.size * (d + T.size) = (d + T.size) + sumTo (fun i => (T.kids i).size) T.len * (d + T.size) := by
      conv => lhs; rw [hS]
      rw [Nat.add_mul, Nat.one_mul, ← hS]
    have hm : ∀ i, i < T.len → (T.kids i).size * (d + (T.kids i).size) ≤ (T.kids i).size * (d + T.size) := fun i hi => Nat.mul_le_mul_left _ (by have := kid_size T hi; omega)
    by_cases h4 : T.kind = 4
    · have hk := st_ok_4 h4 hok
      rw [st_text_4 T h4, blk_len, prN_sts, catTo_len]
      have hs : sumTo (fun i => (tabsT (d + 1) ++ ((prN (T.kids i)).st (d + 1) ++ [10])).length) T.len ≤ sumTo (fun i => 100 * (T.kids i).wt + 4 * ((T.kids i).size * (d + T.size))) T.len := by
        refine sumTo_mono fun i hi => ?_
        have h1 := (ih i hi).1 (hk i hi) (d + 1)
        have h2 : (T.kids i).size * (d + 1 + (T.kids i).size) ≤ (T.kids i).size * (d + T.size) := Nat.mul_le_mul_left _ (by have := kid_size T hi; omega)
        simp only [List.length_append, tab_len, List.length_cons, List.length_nil]
        omega
      rw [sumTo_plus, sumTo_times, sumTo_times, sumTo_timesR] at hs
      omega
    by_cases h7 : T.kind = 7
    · rw [st_text_7 T h7, List.length_append, nm_len]
      split <;> simp <;> omega
    by_cases h8 : T.kind = 8
    · obtain ⟨hl, e0, e1⟩ := st_ok_8 h8 hok
      have := ex_len _ e0
      have := ex_len _ e1
      rw [st_text_8 T h8]
      rw [hl] at hw
      simp only [sumTo] at hw
      simp; omega
    by_cases h9 : T.kind = 9
    · obtain ⟨hl, e0⟩ := st_ok_9 h9 hok
      have := ex_len _ e0
      rw [st_text_9 T h9]
      rw [hl] at hw
      simp only [sumTo] at hw
      omega
    by_cases h17 : T.kind = 17
    · rw [st_text_17 T h17]; simp; omega
    by_cases h18 : T.kind = 18
    · rw [st_text_18 T h18]; simp; omega
    by_cases h12 : T.kind = 12
    · have hl : T.len ≤ 1 := by
        have := hok; rw [sOk_eq, h12] at this; simp [stmtB] at this
        rcases this.2 with h | h
        · omega
        · have := (one_e h).1; omega
      rw [word_text_12 h12 hl]
      have h : T.len = 0 ∨ T.len = 1 := by omega
      rcases h with h | h
      · rw [h]; simp [catTo]; omega
      · have := ex_len _ (st_ok_12 h12 hok 0 (by omega) rfl)
        rw [h] at hw ⊢
        simp only [sumTo] at hw
        simp [catTo]; omega
    by_cases h5 : T.kind = 5
    · have hl : T.len = 1 := by
        have := hok; rw [sOk_eq, h5] at this; simp [stmtB] at this; exact (one_e this.2).1
      have := ex_len _ (st_ok_5 h5 hok 0 (by omega) rfl)
      rw [set_text_5 h5 (by omega)]
      rw [hl] at hw
      simp only [sumTo] at hw
      simp; omega
    by_cases h6 : T.kind = 6
    · have hl : T.len = 1 := by
        have := hok; rw [sOk_eq, h6] at this; simp [stmtB] at this; exact (one_e this.2).1
      have := ex_len _ (st_ok_6 h6 hok 0 (by omega) rfl)
      rw [set_text_6 h6 (by omega)]
      rw [hl] at hw
      simp only [sumTo] at hw
      simp; omega
    by_cases h13 : T.kind = 13
    · have hl : T.len = 1 := by
        have := hok; rw [sOk_eq, h13] at this; simp [stmtB] at this; exact (one_c this.2).1
      have := ex_len _ (st_ok_13 h13 hok 0 (by omega) rfl)
      rw [word_text_13 h13 hl]
      rw [hl] at hw ⊢
      simp only [sumTo] at hw
      simp [catTo]; omega
    by_cases h14 : T.kind = 14
    · have hl : T.len = 1 := by
        have := hok; rw [sOk_eq, h14] at this; simp [stmtB] at this; exact (one_c this.2).1
      have := ex_len _ (st_ok_14 h14 hok 0 (by omega) rfl)
      rw [word_text_14 h14 hl]
      rw [hl] at hw ⊢
      simp only [sumTo] at hw
      simp [catTo]; omega
    by_cases h19 : T.kind = 19
    · have hl : T.len = 1 := by
        have := hok; rw [sOk_eq, h19] at this; simp [stmtB] at this; exact (one_e this.2).1
      have := ex_len _ (st_ok_19 h19 hok 0 (by omega) rfl)
      rw [call_text_19 h19 hl]
      rw [hl] at hw ⊢
      simp only [sumTo] at hw
      simp [catTo]; omega
    by_cases h20 : T.kind = 20
    · have hl : T.len = 1 := by
        have := hok; rw [sOk_eq, h20] at this; simp [stmtB] at this; exact (one_e this.2).1
      have := ex_len _ (st_ok_20 h20 hok 0 (by omega) rfl)
      rw [call_text_20 h20 hl]
      rw [hl] at hw ⊢
      simp only [sumTo] at hw
      simp [catTo]; omega
    by_cases h21 : T.kind = 21
    · have hl : T.len = 1 := by
        have := hok; rw [sOk_eq, h21] at this; simp [stmtB] at this; exact (one_e this.2).1
      have := ex_len _ (st_ok_21 h21 hok 0 (by omega) rfl)
      rw [call_text_21 h21 hl]
      rw [hl] at hw ⊢
      simp only [sumTo] at hw
      simp [catTo]; omega
    by_cases h10 : T.kind = 10
    · obtain ⟨hl, e0, k1, k2⟩ := st_ok_10 h10 hok
      have h0 := ex_len _ e0
      have h1 := (ih 1 (by omega)).1 k1.2 d
      rw [st_text_4 _ k1.1] at h1
      have m1 := hm 1 (by omega)
      rw [st_text_10 T h10]
      rcases hl with hl | hl
      · rw [if_neg (by omega)]
        rw [hl] at hw hM
        simp only [sumTo, Nat.add_mul] at hw hM
        simp only [List.length_append, List.length_cons, List.length_nil]
        omega
      · have h2 := (ih 2 (by omega)).1 (k2 hl).2 d
        have m2 := hm 2 (by omega)
        rw [if_pos hl]
        rw [hl] at hw hM
        simp only [sumTo, Nat.add_mul] at hw hM
        simp only [List.length_append, List.length_cons, List.length_nil]
        omega
    by_cases h11 : T.kind = 11
    · rw [st_text_11 T h11]
      rcases st_ok_11 h11 hok with ⟨hl, k0⟩ | ⟨hl, e0, k1⟩
      · have h1 := (ih 0 (by omega)).1 k0.2 d
        rw [st_text_4 _ k0.1] at h1
        have m1 := hm 0 (by omega)
        rw [hl] at hw hM ⊢
        simp only [sumTo, Nat.add_mul, Nat.reduceSub] at hw hM ⊢
        simp only [List.length_append, List.length_cons, List.length_nil, Nat.reduceEqDiff, if_false]
        omega
      · have h0 := ex_len _ e0
        have h1 := (ih 1 (by omega)).1 k1.2 d
        rw [st_text_4 _ k1.1] at h1
        have m1 := hm 1 (by omega)
        rw [hl] at hw hM ⊢
        simp only [sumTo, Nat.add_mul, Nat.reduceSub] at hw hM ⊢
        simp only [List.length_append, List.length_cons, List.length_nil, if_true]
        omega
    by_cases h15 : T.kind = 15
    · have hc := st_ok_15 h15 hok
      rw [st_text_15 T h15]
      have hs : sumTo (fun i => ((prN (T.kids i)).cs d).length) T.len ≤ sumTo (fun i => 100 * (T.kids i).wt + 4 * ((T.kids i).size * (d + T.size))) T.len := by
        refine sumTo_mono fun i hi => ?_
        obtain ⟨_, h3, hk4, hss⟩ := cs_ok (hc i hi)
        exact cs_len _ _ d (hc i hi) ((ih i hi).2 _ (by rcases h3 with h | h | h <;> omega) hss) (by have := kid_size T hi; omega)
      rw [sumTo_plus, sumTo_times, sumTo_times, sumTo_timesR] at hs
      simp only [List.length_append, List.length_cons, List.length_nil, catTo_len, tab_len]
      omega
    rw [sOk_eq] at hok
    simp [stmtB, h4, h5, h6, h7, h8, h9, h10, h11, h12, h13, h14, h15, h17, h18, h19, h20, h21] at hok
  have all : ∀ T : Nd, (T.sOk = true → SBd T) ∧ ∀ i, i < T.len → (T.kids i).sOk = true → SBd (T.kids i) := by
    intro T
    induction T with
    | nil => exact ⟨step .nil fun i hi => absurd hi (Nat.not_lt_zero _), fun i hi => absurd hi (Nat.not_lt_zero _)⟩
    | mk k n s len kids ih => exact ⟨step _ fun i _ => ih i, fun i _ => (ih i).1⟩
  exact all T
end Go.Proofs.YtacamenjijlemaaGreatDoor

/- How long the text of a file is. -/
namespace Go.Proofs.YtacamenjijlemaaGreatDoor
open Go.RowKit

theorem type_len (n : Int) : (typeT n).length ≤ 8 := by
  unfold typeT; repeat' split
  all_goals simp
theorem fun_len (K : Nd) (h : funcB K = true) : (funcT K).length + 10 ≤ 100 * K.wt + 4 * (K.size * K.size) := by
  obtain ⟨_, hL, _, hk, hs⟩ := func_ok h
  obtain ⟨m, hm⟩ : ∃ m, K.len = m + 1 := ⟨K.len - 1, by omega⟩
  have hw := wt_eq K
  have hsz := kid_size K (show K.len - 1 < K.len by omega)
  have hb := (st_len (K.kids (K.len - 1))).1 hs 0
  rw [st_text_4 _ hk] at hb
  have hq : (K.kids (K.len - 1)).size * (0 + (K.kids (K.len - 1)).size) ≤ K.size * K.size := Nat.mul_le_mul (by omega) (by omega)
  have hp : sumTo (fun i => (parmT K i).length) m ≤ sumTo (fun i => 100 * (K.kids i).wt) m := by
    refine sumTo_mono fun i hi => ?_
    have := wt_eq (K.kids i)
    have := type_len (K.kids i).num
    unfold parmT
    simp only [List.length_append, List.length_cons, nm_len]
    split <;> simp <;> omega
  rw [sumTo_times] at hp
  have ht := type_len K.num
  have hi : (if K.num = 0 then [] else typeT K.num ++ [32] : List UInt8).length ≤ 9 := by
    split
    · simp
    · simp; omega
  rw [funcT_eq]
  rw [hm] at hw hb hq ⊢
  simp only [sumTo, Nat.add_sub_cancel, Nat.zero_add] at hw hb hq ⊢
  simp only [List.length_append, List.length_cons, List.length_nil, catTo_len, nm_len]
  omega
theorem file_len (T : Nd) (h : treeB T = true) (hc : T.cost ≤ 1048576) : (fileT T).length ≤ 1099511627776 := by
  have hf := tree_funcs h
  have hz : T.size ≤ 600 := by
    unfold treeB at h
    simp only [Bool.and_eq_true, decide_eq_true_eq] at h
    exact h.1.1.1.1
  have hw := wt_eq T
  have hS := T.size_eq
  have hwt : T.wt = T.cost + T.size := rfl
  have hs : sumTo (fun i => ((if i = 0 then [] else [10]) ++ funcT (T.kids i)).length) T.len ≤ sumTo (fun i => 100 * (T.kids i).wt + 4 * ((T.kids i).size * 600)) T.len := by
    refine sumTo_mono fun i hi => ?_
    have h1 := fun_len _ (hf i hi)
    have h2 : (T.kids i).size * (T.kids i).size ≤ (T.kids i).size * 600 := Nat.mul_le_mul_left _ (by have := kid_size T hi; omega)
    rw [List.length_append]
    split <;> simp <;> omega
  rw [sumTo_plus, sumTo_times, sumTo_times, sumTo_timesR] at hs
  unfold fileT
  rw [catTo_len]
  omega
end Go.Proofs.YtacamenjijlemaaGreatDoor
