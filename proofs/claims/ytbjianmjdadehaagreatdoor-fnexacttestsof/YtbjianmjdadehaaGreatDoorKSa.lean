/- Whether a function is a test, by the specification and by the program. -/
import Derived.Test.YtbjianmjdadehaaGreatDoorKhA
import Derived.Test.YtbjianmjdadehaaGreatDoorKhB
import Derived.Test.YtbjianmjdadehaaGreatDoorKiA
import Derived.Test.YtbjianmjdadehaaGreatDoorShelf
import Derived.Lib.Strings
import Derived.Test.YtbjianmjdadehaaGreatDoorKaBase
set_option linter.unusedVariables false
namespace Go.Proofs.YtbjianmjdadehaaGreatDoor
open Go.RowKit

def testW : ByteArray := ⟨#[84, 101, 115, 116]⟩
def preT (s : ByteArray) : Bool := Lib.hasPrefix s.data.toList testW.data.toList
def testB (K : Nd) : Bool := preT K.name && (decide (K.num = 0) && decide (K.len = 1))
theorem preT_raw (s : ByteArray) : (decide (4 ≤ s.size) && ((s.extract 0 4).toList == [84, 101, 115, 116])) = preT s := by
  have h : testW.toList = [84, 101, 115, 116] := by rw [ByteArray.toList_eq]; rfl
  rw [← h]; exact Lib.hasPrefix_raw s testW
theorem ret_boolT {a b : Bool} (h : a = b) : Ending.returned (.bool a) = .returned (.bool b) := by rw [h]

set_option maxHeartbeats 2000000 in
set_option maxRecDepth 100000 in
theorem spec_test (k n : Int) (s : ByteArray) (a : Option Addr) (len cap : Nat) (w : World) (hs : s.size ≤ 1099511627776) :
    Calls Tryz.prog 29 #[.agg #[.int .i64 k, .int .i64 n, .string s, .slice a len cap]] w fun e w' => e = .returned (.bool (preT s && (decide (n = 0) && decide (len = 1)))) ∧ Below w.heap.size w w' := by
  have HB := hid_mk (fun o : Obj => (Below.refl w.heap.size w).alloc (Nat.le_refl _) o)
  have HP := hid_mk (preT_raw s)
  generalize preT s = pb at *
  go_enter Tryz.func29, Tryz.ntmps29
  go_wp2
  all_goals go_ret
  all_goals refine ⟨ret_boolT ?_, HB.out _⟩
  all_goals rw [← HP.out]
  · rename_i x1 x2 x3
    rw [Bool.eq_iff_iff]
    simp [x2, x3]
    omega
  · rename_i x1 x2 x3; simp [x3]
  · rename_i x1 x2; simp [x2]
  · rename_i x1; have : ¬ 4 ≤ s.size := by omega
    simp [this]

set_option maxHeartbeats 2000000 in
set_option maxRecDepth 100000 in
theorem impl_test (k n : Int) (s : ByteArray) (g off len cap : Nat) (w : World) (hl : len + 1 ≤ cap) (hc : cap ≤ 9223372036854775807) :
    Calls Tryz.prog 30 #[.agg #[.int .i64 k, .int .i64 n, .string s, .slice (some ⟨g, off, none⟩) (len + 1) cap]] w fun e w' => e = .returned (.bool (preT s && (decide (n = 0) && decide (len + 1 = 1)))) ∧ Below w.heap.size w w' := by
  have HB := hid_mk (fun o : Obj => (Below.refl w.heap.size w).alloc (Nat.le_refl _) o)
  have HB2 := hid_mk (fun (o : Obj) (W : World) (h : Below w.heap.size w W) => h.alloc h.size o)
  have HPO := hid_mk (fun W => params_any k n s g off len cap W hl hc)
  have HHP := hid_mk (fun W => Tryz.strings_HasPrefix s testW W)
  have HP : Hid (Lib.hasPrefix s.data.toList testW.data.toList = preT s) := rfl
  rw [HP.out] at HHP
  clear HP
  unfold testW at HHP
  have hll : ((len + 1 : Nat) : Int) = (len : Int) + 1 := by omega
  cases hp : preT s
  · rw [hp] at HHP
    go_enter Tryz.func30, Tryz.ntmps30
    go_wp2_with (go_at_call 44; refine (HHP.out _).mono ?_; rintro e w1 ⟨rfl, rfl⟩)
    all_goals go_ret
    all_goals exact ⟨ret_boolT (by simp), HB.out _⟩
  · rw [hp] at HHP
    go_enter Tryz.func30, Tryz.ntmps30
    go_wp2_with (first | (go_at_call 44; refine (HHP.out _).mono ?_; rintro e w1 ⟨rfl, rfl⟩) | (go_at_call 45; refine (HPO.out _).mono ?_; rintro e w2 ⟨rfl, rfl⟩))
    all_goals go_ret
    all_goals refine ⟨ret_boolT ?_, HB2.out _ _ (HB.out _)⟩
    · rename_i x; rw [Bool.eq_iff_iff]; simp [x]
    · rename_i x; simp [x]
end Go.Proofs.YtbjianmjdadehaaGreatDoor
namespace Go.Proofs.YtbjianmjdadehaaGreatDoor
open Go.RowKit

def namesTo (T : Nd) : Nat → List ByteArray
  | 0 => []
  | n + 1 => namesTo T n ++ (if testB (T.kids n) then [(T.kids n).name] else [])
theorem namesTo_len (T : Nd) (n : Nat) : (namesTo T n).length ≤ n := by
  induction n with
  | zero => exact Nat.le_refl _
  | succ n ih => simp only [namesTo, List.length_append]; split <;> simp <;> omega
def testsT (T : Nd) : List ByteArray := if codeC T = 0 then namesTo T T.len else []
theorem infoS : (Tryz.prog.info? 9).map (fun i => (i.zero, i.size, i.bytes)) = some (some (.string ⟨#[]⟩), 1, 16) := by kernel_rfl
theorem codeC_tree {T : Nd} (h : codeC T = 0) : treeB T = true := by
  unfold codeC at h
  by_cases ht : treeB T = true
  · exact ht
  · rw [if_neg ht] at h; omega
theorem tests_len (T : Nd) : (testsT T).length ≤ 600 := by
  unfold testsT
  split
  · rename_i h
    have ht := codeC_tree h
    have hsz1 : T.size ≤ 600 := by unfold treeB at ht; simp only [Bool.and_eq_true, decide_eq_true_eq] at ht; exact ht.1.1.1.1
    have h1 := namesTo_len T T.len
    have h2 : T.len ≤ T.size := by
      rw [T.size_eq]
      have : T.len ≤ sumTo (fun i => (T.kids i).size) T.len := by
        generalize T.len = n
        induction n with
        | zero => exact Nat.zero_le _
        | succ n ih => simp only [sumTo]; have := (T.kids n).size_eq; omega
      omega
    omega
  · simp

set_option maxHeartbeats 4000000 in
set_option maxRecDepth 100000 in
theorem spec_tests (T : Nd) (w : World) (u : Value) (hi : Nat) (hf : T.Fine) (hhi : hi ≤ w.heap.size) (hr : Row 0 hi w T u) (hc : T.cost ≤ 1048576) :
    Calls Tryz.prog 17 #[T.val u] w fun e w' => ∃ tv, e = .returned (.tuple #[tv, .int .i64 (codeC T)]) ∧ w'.ownsRow w.heap.size 9 1 tv (testsT T).length ((testsT T).map Value.string) ∧ Below w.heap.size w w' := by
  obtain ⟨a, cap, rfl, hcap, _⟩ := row_eq.1 hr
  have hn := T.fine_len hf
  have hcz := T.cost_eq
  have hck : ∀ j, j < T.len → (T.kids j).cost ≤ 1048576 := fun j hj => Nat.le_trans (T.cost_kid hj) hc
  have hlen : T.len ≤ 1048576 := by omega
  have HB0 := hid_mk ((Below.refl w.heap.size w).alloc (Nat.le_refl _) (.cells #[.int .i64 T.kind, .int .i64 T.num, .string T.name, .slice a T.len cap] 30))
  have F0 : Hid (∀ W, Below (w.heap.size + 1) (w.alloc (.cells #[.int .i64 T.kind, .int .i64 T.num, .string T.name, .slice a T.len cap] 30)) W → W.cell? ⟨w.heap.size, 0, none⟩ = some (.int .i64 T.kind) ∧ W.cell? ⟨w.heap.size, 1, none⟩ = some (.int .i64 T.num) ∧ W.cell? ⟨w.heap.size, 2, none⟩ = some (.string T.name) ∧ W.cell? ⟨w.heap.size, 3, none⟩ = some (.slice a T.len cap)) := by
    intro W h
    have e : ∀ o, W.cell? ⟨w.heap.size, o, none⟩ = (w.alloc (.cells #[.int .i64 T.kind, .int .i64 T.num, .string T.name, .slice a T.len cap] 30)).cell? ⟨w.heap.size, o, none⟩ := fun o => h.cell (p := ⟨w.heap.size, o, none⟩) (by show w.heap.size < w.heap.size + 1; omega)
    rw [e, e, e, e]; refine ⟨?_, ?_, ?_, ?_⟩ <;> simp [go_sem]
  have SC := hid_mk (fun W (hW : Below w.heap.size w W) => spec_check T W (.slice a T.len cap) hi hf (by have := hW.size; omega) (row_below hW hhi hr) hc)
  have HQ := hid_mk (fun h0 => ck_kid hr h0)
  have HK := hid_mk hck
  obtain ⟨i0, hi0, hz0, hz1, hz2⟩ := info_parts infoS
  clear hf hr hcz hck
  unfold Nd.val at *
  by_cases h0 : codeC T = 0
  · have hX : testsT T = namesTo T T.len := by unfold testsT; rw [if_pos h0]
    rw [hX, h0]
    rw [h0] at SC
    generalize placeC T = pp at *
    clear hX h0
    go_enter Tryz.func17, Tryz.ntmps17
    go_wp2_with (go_at_call 7; refine (SC.out _ HB0.out).mono ?_; rintro e w2 ⟨rfl, hb2⟩; have HB2 := hid_mk (hb2.mono (show w.heap.size + 1 ≤ _ by simp)); have hz2' : w.heap.size + 1 ≤ w2.heap.size := (by have := hb2.size; simpa using this); clear hb2 SC)
    go_loopw [6, 7] (fun out i wr => ∃ (j : Nat) (sa : Option Addr) (sc : Nat), j ≤ T.len ∧ i = .int .i64 j ∧ out = .slice sa (namesTo T j).length sc ∧ wr.ownsRow (w.heap.size + 1) 9 1 (.slice sa (namesTo T j).length sc) (namesTo T j).length ((namesTo T j).map Value.string) ∧ Below (w.heap.size + 1) (w.alloc (.cells #[.int .i64 T.kind, .int .i64 T.num, .string T.name, .slice a T.len cap] 30)) wr) (fun _ i _ => T.len - (intOf i).toNat)
    case atStart =>
      refine ⟨0, _, _, by omega, rfl, rfl, ?_, ?_⟩
      · have hh := World.ownsRow_made (base := w.heap.size + 1) (e := 9) (size := 1) w2 #[] 0 hz2' (by unfold maxLen; omega) (by simp)
        simpa [namesTo] using hh
      · exact HB2.out.alloc (by omega) _
    case round =>
      obtain ⟨j, sa, sc, hj, rfl, rfl, hown, hb⟩ := hrel
      obtain ⟨k0, k1, k2, k3⟩ := F0.out _ hb
      have hbx : w.heap.size + 1 ≤ wr.heap.size := by have := hb.size; simpa using this
      have hjl := namesTo_len T j
      have HOwn := hid_mk hown
      have HB := hid_mk hb
      clear hown hb k0 k1 k2
      by_cases hlt : j < T.len
      · have hji : (j : Int) < (T.len : Int) := by omega
        obtain ⟨g, off, cap', hv, hg, hcp, hkid⟩ := HQ.out (by omega)
        injection hv with ev1 _ ev3
        subst ev1
        subst ev3
        obtain ⟨uv, hcell, hru⟩ := hkid j hlt
        obtain ⟨ua, uc, rfl⟩ := row_shape hru
        have hkc := HK.out j hlt
        have hkz := (T.kids j).cost_eq
        have HC := hid_mk (fun W (h : Below w.heap.size w W) => hcell W (h.mono hhi))
        obtain ⟨e0, e1, e2, e3⟩ := HC.out _ (HB0.out.trans (HB.out.mono (Nat.le_succ _)))
        have HT := hid_mk (fun W => spec_test (T.kids j).kind (T.kids j).num (T.kids j).name ua (T.kids j).len uc W (by omega))
        have HTB : Hid ((preT (T.kids j).name && (decide ((T.kids j).num = 0) && decide ((T.kids j).len = 1))) = testB (T.kids j)) := rfl
        rw [HTB.out] at HT
        have hns : namesTo T (j + 1) = namesTo T j ++ (if testB (T.kids j) then [(T.kids j).name] else []) := rfl
        have hmx : Tryz.prog.follows Departure.mixedOrders = true := by kernel_rfl
        clear hkid hcell hru hkz HTB
        cases htb : testB (T.kids j)
        · rw [htb] at HT
          have HNS : Hid (namesTo T (j + 1) = namesTo T j) := by unfold Hid; rw [hns, htb]; simp
          clear hns htb
          go_wp2_with (go_at_call 29; refine (HT.out _).mono ?_; rintro e w3 ⟨rfl, hb3⟩; have HB3 := hid_mk hb3; clear hb3)
          refine ⟨⟨j + 1, sa, sc, by omega, by go_num, by rw [HNS.out], ?_, ?_⟩, by simp [intOf]; omega⟩
          · rw [HNS.out]; exact own_late HOwn.out HB3.out
          · exact HB.out.trans (HB3.out.mono hbx)
        · rw [htb] at HT
          have HNS : Hid (namesTo T (j + 1) = namesTo T j ++ [(T.kids j).name]) := by unfold Hid; rw [hns, htb]; simp
          clear hns htb
          go_wp2_with (first
            | (go_at_call 29; refine (HT.out _).mono ?_; rintro e w3 ⟨rfl, hb3⟩; have HB3 := hid_mk (HB.out.trans (hb3.mono hbx)); have HO3 := hid_mk (own_late HOwn.out hb3); obtain ⟨_, _, _, k3⟩ := F0.out _ HB3.out; obtain ⟨e0, e1, e2, e3⟩ := HC.out _ (HB0.out.trans (HB3.out.mono (Nat.le_succ _))); have hz3 := hb3.size; clear hb3 HOwn)
            | (at_builtin; refine wpList_append_own _ rfl _ _ 40 rfl (w.heap.size + 1) 9 i0 (.string ⟨#[]⟩) 1 16 Tryz.underlying40 hi0 hz0 hz1 hz2 rfl (by decide) _ (namesTo T j).length _ rfl (HO3.out.alloc _) ⟨w3.heap.size, 0, none⟩ 1 1 [.string (T.kids j).name] rfl rfl (by intro i u hu; rcases i with _ | i <;> simp_all [Addr.add]) (by intro u hu; simp at hu; subst hu; rfl) (by unfold maxLen; omega) (by omega) (by simp; omega) ?_
               intro v' w4 hown' hgrow hnil'
               have HB4 := hid_mk ((HB3.out.alloc (by omega) _).grown hgrow (by simp; omega) (fun k hk => ((HO3.out.alloc (.cells #[.string (T.kids j).name] 9)).lt k hk).1))
               have HO4 := hid_mk hown'
               clear hown' hgrow hnil'))
          obtain ⟨sa', sc', rfl⟩ : ∃ sa' sc', v' = .slice sa' ((namesTo T j).length + 1) sc' := by
            rcases HO4.out.2 with ⟨rfl, h⟩ | ⟨g, cp, cur, rfl, _⟩
            · omega
            · exact ⟨_, _, rfl⟩
          have hnl : (namesTo T (j + 1)).length = (namesTo T j).length + 1 := by rw [HNS.out]; simp
          refine ⟨⟨j + 1, sa', sc', by omega, by go_num, by rw [hnl], ?_, HB4.out⟩, by simp [intOf]; omega⟩
          rw [hnl, HNS.out, List.map_append]
          exact HO4.out
      · go_wp2
        obtain rfl : j = T.len := by omega
        refine bodyPost_ret (v := .tuple #[.slice sa (namesTo T T.len).length sc, .int .i64 0]) (by simp [results, Tryz.results17, go_sem]) rfl ⟨_, rfl, own_base HOwn.out (Nat.le_succ _), HB0.out.trans (HB.out.mono (Nat.le_succ _))⟩
  · have hX : testsT T = [] := by unfold testsT; rw [if_neg h0]
    rw [hX]
    generalize codeC T = cc at *
    generalize placeC T = pp at *
    have hnb : (cc != 0) = true := by simpa using h0
    clear hX
    go_enter Tryz.func17, Tryz.ntmps17
    go_wp2_with (go_at_call 7; refine (SC.out _ HB0.out).mono ?_; rintro e w2 ⟨rfl, hb2⟩; have HB2 := hid_mk (HB0.out.trans (hb2.mono (by simp))); clear hb2)
    refine bodyPost_ret (v := .tuple #[.slice (some ⟨w2.heap.size, 0, none⟩) 0 0, .int .i64 cc]) (by simp [results, Tryz.results17, go_sem]) rfl ⟨_, rfl, ⟨rfl, .inr ⟨w2.heap.size, 0, #[], rfl, HB2.out.size, heap_alloc_new w2 _, Nat.le_refl _, Nat.zero_le _, rfl, rfl⟩⟩, HB2.out.alloc HB2.out.size _⟩
end Go.Proofs.YtbjianmjdadehaaGreatDoor
namespace Go.Proofs.YtbjianmjdadehaaGreatDoor
open Go.RowKit

theorem impl_clone (s : ByteArray) (w : World) (hs : s.size ≤ 1099511627776) :
    Calls Tryz.prog 31 #[.string s] w fun e w' => e = .returned (.string s) ∧ Below w.heap.size w w' := by
  go_enter Tryz.func31, Tryz.ntmps31
  go_wp2_with (go_at_call 46; refine (Tryz.stringslite_Clone _ _ (by omega)).mono ?_; rintro e w' ⟨rfl, hb⟩)
  go_ret
  exact ⟨rfl, hb⟩

set_option maxHeartbeats 4000000 in
set_option maxRecDepth 100000 in
theorem impl_tests (T : Nd) (w : World) (u : Value) (hf : T.Fine) (hr : Row 0 w.heap.size w T u) (hc : T.cost ≤ 1048576) (ht : Tabs w) (hg : ErrG w) :
    Calls Tryz.prog 18 #[T.val u] w fun e w' => ∃ tv, e = .returned (.tuple #[tv, .int .i64 (codeC T)]) ∧ w'.ownsRow w.heap.size 9 1 tv (testsT T).length ((testsT T).map Value.string) ∧ Below w.heap.size w w' := by
  obtain ⟨a, cap, rfl, hcap, _⟩ := row_eq.1 hr
  have hn := T.fine_len hf
  have hcz := T.cost_eq
  have hck : ∀ j, j < T.len → (T.kids j).cost ≤ 1048576 := fun j hj => Nat.le_trans (T.cost_kid hj) hc
  have hlen : T.len ≤ 1048576 := by omega
  have HB0 := hid_mk ((Below.refl w.heap.size w).alloc (Nat.le_refl _) (.cells #[.int .i64 T.kind, .int .i64 T.num, .string T.name, .slice a T.len cap] 30))
  have F0 : Hid (∀ W, Below (w.heap.size + 1) (w.alloc (.cells #[.int .i64 T.kind, .int .i64 T.num, .string T.name, .slice a T.len cap] 30)) W → W.cell? ⟨w.heap.size, 0, none⟩ = some (.int .i64 T.kind) ∧ W.cell? ⟨w.heap.size, 1, none⟩ = some (.int .i64 T.num) ∧ W.cell? ⟨w.heap.size, 2, none⟩ = some (.string T.name) ∧ W.cell? ⟨w.heap.size, 3, none⟩ = some (.slice a T.len cap)) := by
    intro W h
    have e : ∀ o, W.cell? ⟨w.heap.size, o, none⟩ = (w.alloc (.cells #[.int .i64 T.kind, .int .i64 T.num, .string T.name, .slice a T.len cap] 30)).cell? ⟨w.heap.size, o, none⟩ := fun o => h.cell (p := ⟨w.heap.size, o, none⟩) (by show w.heap.size < w.heap.size + 1; omega)
    rw [e, e, e, e]; refine ⟨?_, ?_, ?_, ?_⟩ <;> simp [go_sem]
  have CK := hid_mk (fun W (hW : Below w.heap.size w W) => impl_checked T W (.slice a T.len cap) hf (row_wide (row_below hW (Nat.le_refl _) hr) (Nat.le_refl _) hW.size) hc (tabs_below ht hW) (hg.later hW))
  have HQ := hid_mk (fun h0 => ck_kid hr h0)
  have HK := hid_mk hck
  obtain ⟨i0, hi0, hz0, hz1, hz2⟩ := info_parts infoS
  clear hf hr hcz hck ht hg
  unfold Nd.val at *
  by_cases h0 : codeC T = 0
  · have hX : testsT T = namesTo T T.len := by unfold testsT; rw [if_pos h0]
    have HTR := hid_mk (codeC_tree h0)
    rw [hX, h0]
    rw [h0] at CK
    generalize placeC T = pp at *
    generalize typesT T = xs at *
    clear hX h0
    go_enter Tryz.func18, Tryz.ntmps18
    go_wp2_with (go_at_call 26; refine (CK.out _ HB0.out).mono ?_; rintro e w2 ⟨tv, rfl, hown, hb2⟩; obtain ⟨ta, tc, rfl, _, _⟩ := own_shape hown; have HB2 := hid_mk ((hb2.mono (show w.heap.size + 1 ≤ _ by simp)).alloc (show w.heap.size + 1 ≤ w2.heap.size by have := hb2.size; simpa using this) (.cells #[.int .i64 0, .int .i64 pp] 54)); have hz2' : w.heap.size + 1 ≤ w2.heap.size := (by have := hb2.size; simpa using this); obtain ⟨_, _, _, k3⟩ := F0.out _ HB2.out; clear hb2 CK hown)
    go_loopw [6, 22] (fun out i wr => ∃ (j : Nat) (sa : Option Addr) (sc : Nat), j ≤ T.len ∧ i = .int .i64 j ∧ out = .slice sa (namesTo T j).length sc ∧ wr.ownsRow (w.heap.size + 1) 9 1 (.slice sa (namesTo T j).length sc) (namesTo T j).length ((namesTo T j).map Value.string) ∧ Below (w.heap.size + 1) (w.alloc (.cells #[.int .i64 T.kind, .int .i64 T.num, .string T.name, .slice a T.len cap] 30)) wr) (fun _ i _ => T.len - (intOf i).toNat)
    case atStart => exact ⟨0, _, _, by omega, rfl, rfl, ⟨rfl, .inl ⟨rfl, rfl⟩⟩, HB2.out⟩
    case round =>
      obtain ⟨j, sa, sc, hj, rfl, rfl, hown, hb⟩ := hrel
      have hbx : w.heap.size + 1 ≤ wr.heap.size := by have := hb.size; simpa using this
      have hjl := namesTo_len T j
      have HOwn := hid_mk hown
      have HB := hid_mk hb
      clear hown hb k3
      by_cases hlt : j < T.len
      · have hji : (j : Int) < (T.len : Int) := by omega
        obtain ⟨g, off, cap', hv, hg, hcp, hkid⟩ := HQ.out (by omega)
        injection hv with ev1 _ ev3
        subst ev1
        subst ev3
        obtain ⟨uv, hcell, hru⟩ := hkid j hlt
        have hfl := fun_len (tree_fun HTR.out hlt)
        obtain ⟨m, hm⟩ : ∃ m, (T.kids j).len = m + 1 := ⟨(T.kids j).len - 1, by omega⟩
        obtain ⟨ug, uo, uc, rfl, _, huc, _⟩ := ck_kid hru (by omega)
        have hkc := HK.out j hlt
        have hkz := (T.kids j).cost_eq
        have HC := hid_mk (fun W (h : Below w.heap.size w W) => hcell W h)
        obtain ⟨e0, e1, e2, e3⟩ := HC.out _ (HB0.out.trans (HB.out.mono (Nat.le_succ _)))
        have HT := hid_mk (fun W => impl_test (T.kids j).kind (T.kids j).num (T.kids j).name ug uo m uc W (by omega) huc.2)
        rw [← hm] at HT
        have HTB : Hid ((preT (T.kids j).name && (decide ((T.kids j).num = 0) && decide ((T.kids j).len = 1))) = testB (T.kids j)) := rfl
        rw [HTB.out] at HT
        have hns : namesTo T (j + 1) = namesTo T j ++ (if testB (T.kids j) then [(T.kids j).name] else []) := rfl
        have HCL := hid_mk (fun W => impl_clone (T.kids j).name W (by omega))
        have HN := hid_mk (fun W (h : Below wr.heap.size (wr.alloc (.cells #[.int .i64 (T.kids j).kind, .int .i64 (T.kids j).num, .string (T.kids j).name, .slice (some ⟨ug, uo, none⟩) (T.kids j).len uc] 30)) W) => HB.out.trans ((((Below.refl wr.heap.size wr).alloc (Nat.le_refl _) _).trans h).mono hbx))
        clear hkid hcell hru hkz HTB hm huc
        cases htb : testB (T.kids j)
        · rw [htb] at HT
          have HNS : Hid (namesTo T (j + 1) = namesTo T j) := by unfold Hid; rw [hns, htb]; simp
          clear hns htb
          go_wp2_with (go_at_call 30; refine (HT.out _).mono ?_; rintro e w3 ⟨rfl, hb3⟩; have HB3 := hid_mk hb3; clear hb3)
          refine ⟨⟨j + 1, sa, sc, by omega, by go_num, by rw [HNS.out], ?_, ?_⟩, by simp [intOf]; omega⟩
          · rw [HNS.out]; exact own_late (HOwn.out.alloc _) HB3.out
          · exact HN.out _ (HB3.out.mono (by simp))
        · rw [htb] at HT
          have HNS : Hid (namesTo T (j + 1) = namesTo T j ++ [(T.kids j).name]) := by unfold Hid; rw [hns, htb]; simp
          clear hns htb
          go_wp2_with (first
            | (go_at_call 30; refine (HT.out _).mono ?_; rintro e w3 ⟨rfl, hb3⟩; have HB3 := hid_mk (HN.out _ (hb3.mono (by simp))); have HO3 := hid_mk (own_late (HOwn.out.alloc _) hb3); have hz3 := hb3.size; have q2 : w3.cell? ⟨wr.heap.size, 2, none⟩ = some (.string (T.kids j).name) := (by rw [hb3.cell (p := ⟨wr.heap.size, 2, none⟩) (by simp)]; simp [go_sem]); clear hb3 HOwn)
            | (go_at_call 31; refine (HCL.out _).mono ?_; rintro e w5 ⟨rfl, hb5⟩; have HB5 := hid_mk (HB3.out.trans (hb5.mono (by simp at hz3; omega))); have HO5 := hid_mk (own_late HO3.out hb5); have hz5 := hb5.size; clear hb5 HO3)
            | (at_builtin; refine wpList_append_own _ rfl _ _ 40 rfl (w.heap.size + 1) 9 i0 (.string ⟨#[]⟩) 1 16 Tryz.underlying40 hi0 hz0 hz1 hz2 rfl (by decide) _ (namesTo T j).length _ rfl (HO5.out.alloc _) ⟨w5.heap.size, 0, none⟩ 1 1 [.string (T.kids j).name] rfl rfl (by intro i u hu; rcases i with _ | i <;> simp_all [Addr.add]) (by intro u hu; simp at hu; subst hu; rfl) (by unfold maxLen; omega) (by omega) (by simp at hz3 ⊢; omega) ?_
               intro v' w4 hown' hgrow hnil'
               have HB4 := hid_mk ((HB5.out.alloc (by simp at hz3; omega) _).grown hgrow (by simp at hz3 ⊢; omega) (fun k hk => ((HO5.out.alloc (.cells #[.string (T.kids j).name] 9)).lt k hk).1))
               have HO4 := hid_mk hown'
               clear hown' hgrow hnil'))
          obtain ⟨sa', sc', rfl⟩ : ∃ sa' sc', v' = .slice sa' ((namesTo T j).length + 1) sc' := by
            rcases HO4.out.2 with ⟨rfl, h⟩ | ⟨g, cp, cur, rfl, _⟩
            · omega
            · exact ⟨_, _, rfl⟩
          have hnl : (namesTo T (j + 1)).length = (namesTo T j).length + 1 := by rw [HNS.out]; simp
          refine ⟨⟨j + 1, sa', sc', by omega, by go_num, by rw [hnl], ?_, HB4.out⟩, by simp [intOf]; omega⟩
          rw [hnl, HNS.out, List.map_append]
          exact HO4.out
      · go_wp2
        obtain rfl : j = T.len := by omega
        refine bodyPost_ret (v := .tuple #[.slice sa (namesTo T T.len).length sc, .int .i64 0]) (by simp [results, Tryz.results18, go_sem]) rfl ⟨_, rfl, own_base HOwn.out (Nat.le_succ _), HB0.out.trans (HB.out.mono (Nat.le_succ _))⟩
  · have hX : testsT T = [] := by unfold testsT; rw [if_neg h0]
    rw [hX]
    generalize codeC T = cc at *
    generalize placeC T = pp at *
    generalize typesT T = xs at *
    have hnb : (cc != 0) = true := by simpa using h0
    clear hX
    go_enter Tryz.func18, Tryz.ntmps18
    go_wp2_with (go_at_call 26; refine (CK.out _ HB0.out).mono ?_; rintro e w2 ⟨tv, rfl, hown, hb2⟩; obtain ⟨ta, tc, rfl, _, _⟩ := own_shape hown; have HB2 := hid_mk (HB0.out.trans (hb2.mono (by simp))); clear hb2 hown CK)
    go_region
    all_goals go_wp2
    all_goals refine bodyPost_ret (v := .tuple #[.slice none 0 0, .int .i64 cc]) (by simp [results, Tryz.results18, go_sem]) rfl ⟨_, rfl, ⟨rfl, .inl ⟨rfl, rfl⟩⟩, (HB2.out.alloc HB2.out.size _).drew⟩
end Go.Proofs.YtbjianmjdadehaaGreatDoor
