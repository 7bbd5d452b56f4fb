import Derived.Test.YtkfbbdhidecefaaDoorUTD
import Derived.Deep.Light
import Derived.BigQuiet
import Derived.Test.YtkfbbdhidecefaaDoorShelf
set_option linter.unusedVariables false
set_option maxHeartbeats 16000000
set_option maxRecDepth 100000
namespace Go.Proofs.YtkfbbdhidecefaaDoor
open Go.RowKit
variable {G : Prop}
theorem bZ0 (h : G := by
 go_enter Tryd.func59, Tryd.ntmps59
 go_wp2_with (go_at_call 76; refine (qh _ _ HS.out).mono ?_; rw [HN.out]; rintro e w' ⟨rfl, rfl⟩)
 go_ret
 exact ⟨oO Bj.out.symm, rfl⟩) : G := h
theorem bZ1 (h : G := by
 refine bodyPost_ret (v := .tuple #[nh 0 ⟨#[]⟩ k, .int .i64 4]) (by simp [results, Tryd.results40, go_sem, nh]) rfl ⟨rfl, ?_⟩
 exact bA) : G := h
theorem bZ2 (h : G := by
 go_enter Tryd.func18, Tryd.ntmps18
 go_wp2
 go_ret2
 exact ⟨⟨0, tH rfl (by rw [HF.out]; rfl)⟩, rfl⟩) : G := h
theorem bZ3 (h : G := by
 exact ((((bA).trans (hb.mono (by simp))).setCell lr _).setCell lr _).setCell lr _) : G := h
theorem bZ4 (h : G := by
 clear Bk zA
 go_enter Tryd.func40, Tryd.ntmps40
 go_wp2_with (first | (go_at_call 56; refine (mA _ _).mono ?_; rw [HL.out]; rintro e w' ⟨rfl, rfl⟩) | (go_at_call 58; refine (mh _ _).mono ?_; rw [HD.out]; rintro e w' ⟨rfl, rfl⟩) | (go_at_call 60; refine (Ec _ _ HG.out).mono ?_; rw [hx.out, ← Bj.out]; rintro e w' ⟨rfl, rfl⟩) | (go_at_call 61; refine (oQ _ _ (by omega)).mono ?_; rintro e w1 ⟨rfl, hb⟩; obtain ⟨hc, hf⟩ := pT hb; have hz := hb.size; simp only [World.size_alloc] at hz))
 first
 |clear k_Z4_0
  refine bodyPost_ret (v := .tuple #[nh 4 st k, .int .i64 0]) (by simp [results, Tryd.results40, go_sem, nh, hc]) rfl ⟨rfl, ?_⟩
  exact bZ3
 |clear k_Z4_1
  exact bZ1) : G := h
theorem bZ5 (h : G := by
 clear Bk zA
 go_enter Tryd.func40, Tryd.ntmps40
 go_wp2_with (first | (go_at_call 56; refine (mA _ _).mono ?_; rw [HL.out]; rintro e w' ⟨rfl, rfl⟩) | (go_at_call 58; refine (mh _ _).mono ?_; rw [HD.out]; rintro e w' ⟨rfl, rfl⟩) | (go_at_call 59; refine (GA _ _ Rq.out).mono ?_; rw [hx.out, ← Bj.out]; rintro e w' ⟨rfl, rfl⟩) | (go_at_call 61; refine (oQ _ _ (by omega)).mono ?_; rintro e w1 ⟨rfl, hb⟩; obtain ⟨hc, hf⟩ := pT hb; have hz := hb.size; simp only [World.size_alloc] at hz))
 first
 |clear k_Z5_0
  exact bZ1
 |clear k_Z5_1
  refine bodyPost_ret (v := .tuple #[nh 2 st k, .int .i64 0]) (by simp [results, Tryd.results40, go_sem, nh, hc]) rfl ⟨rfl, ?_⟩
  exact bZ3) : G := h
theorem bZ6 (h : G := by
 clear Bk zA
 go_enter Tryd.func40, Tryd.ntmps40
 go_wp2_with (first | (go_at_call 56; refine (mA _ _).mono ?_; rw [HL.out]; rintro e w' ⟨rfl, rfl⟩) | (go_at_call 57; refine (Eb _ _ Rq.out HR.out).mono ?_; rw [hx.out, ← qW.out, ← Bj.out]; rintro e w' ⟨rfl, rfl⟩) | (go_at_call 61; refine (oQ _ _ (by omega)).mono ?_; rintro e w1 ⟨rfl, hb⟩; obtain ⟨hc, hf⟩ := pT hb; have hz := hb.size; simp only [World.size_alloc] at hz))
 first
 |clear k_Z6_0
  exact bZ1
 |clear k_Z6_1
  refine bodyPost_ret (v := .tuple #[nh sk st k, .int .i64 0]) (by simp [results, Tryd.results40, go_sem, nh, hc]) rfl ⟨rfl, ?_⟩
  exact bZ3) : G := h
theorem bZ7 (h : G := by
 generalize hn : bC s.data.toList = n at *
 have HN : Hid (bC s.data.toList = n) := hn
 clear hn
 generalize hx : bs (s.data.toList.take n) = x at *
 have Ct : s.extract 0 n = x := by rw [← hx]; exact JM s n
 have Bi : x.size = n := by rw [← hx, rX, List.length_take]; exact Nat.min_eq_left hle
 first
 |clear k_Z7_0
  clear hx
  by_cases h : 40 < n
  ·have qW : Hid (mw s.data.toList = 1) := by unfold Hid; rw [hk.out, if_pos h]
   have Bj : Hid (ln s.data.toList = ⟨#[]⟩) := by unfold Hid; rw [ht.out, if_pos h]
   go_enter Tryd.func57, Tryd.ntmps57
   go_wp2_with (go_at_call 76; refine (qh _ _ HS.out).mono ?_; rw [HN.out]; rintro e w' ⟨rfl, rfl⟩)
   go_ret2
   exact ⟨by rw [qW.out, Bj.out]; rfl, rfl⟩
  ·cases hb : hasB aS x
   all_goals
    have qW : Hid (mw s.data.toList = if hasB aS x then 3 else 1) := by unfold Hid; rw [hk.out, if_neg h]
    have Bj : Hid (ln s.data.toList = x) := by unfold Hid; rw [ht.out, if_neg h]
    rw [hb] at qW
    have HB := (show Hid (hasB aS x = _) from hb)
    clear hb
    go_enter Tryd.func57, Tryd.ntmps57
    go_wp2_with (first | (go_at_call 76; refine (qh _ _ HS.out).mono ?_; rw [HN.out]; rintro e w' ⟨rfl, rfl⟩) | (go_at_call 77; refine (DQ _ _ HR.out).mono ?_; rw [HB.out]; rintro e w' ⟨rfl, rfl⟩))
    go_ret2
    exact ⟨by rw [qW.out, Bj.out]; rfl, rfl⟩
 |clear k_Z7_1
  have EO : s.data.toList.take n = x.data.toList := by rw [← hx, nV]
  rw [EO] at ht
  clear hx EO
  generalize mN s.data.toList = r at *
  have Cs : x.data.toList.length = n := Bi
  by_cases h : 18 < n
  ·have Bj : Hid (r = ⟨#[]⟩) := by unfold Hid; rw [ht.out]; simp [oy, Cs]; omega
   exact bZ0
  by_cases hz : ∃ h1 : 1 < n, (x[0]'(by omega)).toNat = 48
  ·obtain ⟨h1, hz⟩ := hz
   have h0 : 0 < x.size := by omega
   have hz' : ((x[0].toNat : Int) == 48) = true := by simp; omega
   have hh := zP x h0
   have Bj : Hid (r = ⟨#[]⟩) := by unfold Hid; rw [ht.out]; unfold oy; rw [hh, Cs]; simp [hz, h1]
   clear hz hh
   exact bZ0
  have hr : Hid (r = if (x.data.toList.all fun b => aM b.toNat) then x else ⟨#[]⟩) := by
   unfold Hid
   rw [ht.out]
   unfold oy
   rw [Cs]
   by_cases h1 : 1 < n
   ·have h0 : 0 < x.size := by omega
    have : ¬ x[0].toNat = 48 := fun e => hz ⟨h1, e⟩
    rw [zP x h0]
    simp [this]; congr 1; simp; omega
   ·simp [h1]; congr 1; simp; omega
  have oB : Hid ((∀ b ∈ x.data.toList, aM b.toNat = true) → r = x) := fun ha => by
   rw [hr.out, if_pos (List.all_eq_true.2 ha)]
  have yF : Hid (∀ k : Nat, ∀ h : k < x.size, aM x[k].toNat = false → r = ⟨#[]⟩) := fun k hk hd => by
   rw [hr.out, if_neg]
   intro ha
   have := List.all_eq_true.1 ha x[k] (List.getElem_mem (l := x.data.toList) (by simpa using hk))
   rw [hd] at this; cases this
  clear hr ht
  have hZ : Hid (1 < n → ∀ h0 : 0 < x.size, ((x[0].toNat : Int) == 48) = false) := fun h1 h0 => by
   simp only [beq_eq_false_iff_ne, ne_eq]; intro e; exact hz ⟨h1, by omega⟩
  clear hz Cs
  by_cases h1 : 1 < n
  all_goals
   try have hQ := hZ.out h1 (by omega)
   go_enter Tryd.func59, Tryd.ntmps59
   go_wp2_with (go_at_call 76; refine (qh _ _ HS.out).mono ?_; rw [HN.out]; rintro e w' ⟨rfl, rfl⟩)
   go_loop [24] (fun i => ∃ k : Nat, k ≤ n ∧ i = .int .i64 k ∧ Hid (∀ b ∈ x.data.toList.take k, aM b.toNat = true)) (fun i => n - (intOf i).toNat)
   case atStart => exact ⟨0, Nat.zero_le _, rfl, by simp [Hid]⟩
   case round =>
    obtain ⟨k, hk, rfl, aN⟩ := hrel
    by_cases bm : k < n
    ·have hkx : k < x.size := by omega
     cases hd : aM x[k].toNat
     ·have HF : Hid (r = ⟨#[]⟩) := yF.out k hkx hd
      have HD : Hid (aM x[k].toNat = false) := hd
      go_wp2_with (go_at_call 58; refine (mh _ _).mono ?_; rw [HD.out]; rintro e w' ⟨rfl, rfl⟩)
      go_ret
      exact ⟨oO HF.out.symm, rfl⟩
     ·have HG : Hid (∀ b ∈ x.data.toList.take (k + 1), aM b.toNat = true) := fun b hm => by
       rw [ot x k hkx, List.mem_append] at hm
       rcases hm with hm | hm
       ·exact aN.out b hm
       ·simp at hm; rw [hm]; exact hd
      have HD : Hid (aM x[k].toNat = true) := hd
      go_wp2_with (go_at_call 58; refine (mh _ _).mono ?_; rw [HD.out]; rintro e w' ⟨rfl, rfl⟩)
      go_round
      case rel => exact ⟨k + 1, by omega, by go_num, HG⟩
      case measure => simp [intOf]; omega
    ·have HF : Hid (r = x) := oB.out (fun b hb => aN.out b (by rw [List.take_of_length_le (by have : x.data.toList.length = x.size := rfl; omega)]; exact hb))
     go_wp2
     go_ret
     exact ⟨oO HF.out.symm, rfl⟩) : G := h
theorem bZ8 (h : G := by
 have e1 : (k == 1) = false := by simp [h1]
 have e2 : (k == 2) = false := by simp [h2]
 have e3 : (k == 3) = false := by simp [h3]
 have e4 : (k == 4) = false := by simp [h4]
 have HE : Hid (mD k t = false) := by simp [Hid, mD, h1, h2, h3, h4]
 clear h1 h2 h3 h4
 first
 |clear k_Z8_0
  go_enter Tryd.func13, Tryd.ntmps13
  go_wp2
  go_ret
  exact ⟨aq HE.out.symm, bA⟩
 |clear k_Z8_1
  go_enter Tryd.func36, Tryd.ntmps36
  go_wp2
  go_ret
  exact ⟨aq HE.out.symm, bA⟩) : G := h
theorem bZ9 (h : G := by
 clear h
 go_enter Tryd.func39, Tryd.ntmps39
 go_wp2_with (go_at_call 55; refine (Tryd.strings_IndexByte _ _ _).mono ?_; rintro e w' ⟨rfl, rfl⟩; rw [show (10 : Int).toNat.toUInt8 = 10 from rfl, hi.out])
 go_ret
 first
 |clear k_Z9_0
  exact ⟨nM (by go_num), rfl⟩
 |clear k_Z9_1
  exact ⟨nM (by rw [hn.out]), rfl⟩) : G := h
theorem uj (w : World) (o : Obj) (ss : List ByteArray) (t : TypeId) : cg ((w.alloc o).alloc (.cells (ss.map Value.string).toArray t)) (w.heap.size + 1) ss := by
 have := qG (w.alloc o) ss t
 rwa [World.size_alloc] at this
theorem wO (k : Int) (t : ByteArray) (p : Int) (w : World) :
  Calls Tryd.prog 13 #[.agg #[.int .i64 k, .string t, .int .i64 p]] w fun e w' => e = .returned (.bool (mD k t)) ∧ Below w.heap.size w w' := by
 by_cases h1 : k = 1
 ·subst h1
  go_enter Tryd.func13, Tryd.ntmps13
  go_wp2
  go_ret
  exact ⟨aq (by simp [mD]), bA⟩
 by_cases h2 : k = 2
 ·subst h2
  go_enter Tryd.func13, Tryd.ntmps13
  go_wp2
  go_ret
  exact ⟨aq (by simp [mD]), bA⟩
 by_cases h3 : k = 3
 ·subst h3
  clear h1 h2
  have HE : Hid (mD 3 t = hasB rR t) := by simp [Hid, mD]
  go_enter Tryd.func13, Tryd.ntmps13
  go_wp2_with (go_at_call 16; refine (mr rR _ _ 7 _ (uj w _ rR _) rfl (by omega)).mono ?_; rintro e w2 ⟨rfl, rfl⟩)
  go_ret
  exact ⟨aq HE.out.symm, (bA).alloc (by simp) _⟩
 by_cases h4 : k = 4
 ·subst h4
  clear h1 h2 h3
  have HE : Hid (mD 4 t = hasB rQ t) := by simp [Hid, mD]
  go_enter Tryd.func13, Tryd.ntmps13
  go_wp2_with (go_at_call 16; refine (mr rQ _ _ 4 _ (uj w _ rQ _) rfl (by omega)).mono ?_; rintro e w2 ⟨rfl, rfl⟩)
  go_ret
  exact ⟨aq HE.out.symm, (bA).alloc (by simp) _⟩
 ·have k_Z8_0 := kk
  exact bZ8
theorem Kh (w : World) : Calls Tryd.prog 41 #[] w fun e w' => e = .returned (.slice (some ⟨w.heap.size, 0, none⟩) 25 25) ∧ Below w.heap.size w w' ∧ cg w' w.heap.size aH ∧ w.heap.size < w'.heap.size := by
 go_enter Tryd.func41, Tryd.ntmps41
 go_wp2
 go_ret
 exact ⟨rfl, bA, qG w aH 9, by simp⟩
theorem y6 (x : ByteArray) (w : World) (hx : x.size ≤ 65536) (h0 : 0 < x.size) (P9 : aM x[0].toNat = true) :
  Calls Tryd.prog 18 #[.string x] w fun e w' => (∃ v : Int, e = .returned (.tuple #[.int .i64 v, .bool (oy x.data.toList)])) ∧ w' = w := by
 have h45 : ((x[0].toNat : Int) == 45) = false := by
  simp only [beq_eq_false_iff_ne, ne_eq]
  intro e
  have : x[0].toNat = 45 := by omega
  rw [this] at P9; revert P9; decide
 have N6 : ((x.size : Int) == 0) = false := bn (by omega)
 have Cs : x.data.toList.length = x.size := rfl
 have hh : x.data.toList.headD 0 = x[0] := by
  cases hl : x.data.toList with
  |nil => rw [hl] at Cs; simp at Cs; omega
  |cons a l =>
   have h00 : 0 < x.data.toList.length := by rw [hl]; simp
   have : x.data.toList[0]'h00 = a := by simp [hl]
   show a = x.data[0]
   rw [← this]; rfl
 have HN : Hid (oy x.data.toList = (decide (x.size ≤ 18) && (!(decide (1 < x.size) && decide (x[0].toNat = 48)) && x.data.toList.all fun b => aM b.toNat))) := by
  unfold Hid oy; rw [hh, Cs]
 clear hh P9 Cs
 generalize oy x.data.toList = r at *
 by_cases AD : 18 < x.size
 ·have HF : Hid (r = false) := by unfold Hid; rw [HN.out]; simp; omega
  exact bZ2
 by_cases hz : 1 < x.size ∧ x[0].toNat = 48
 ·obtain ⟨h1, Ox⟩ := hz
  have HF : Hid (r = false) := by unfold Hid; rw [HN.out]; simp [h1, Ox]
  have h48' : ((x[0].toNat : Int) == 48) = true := by simp; omega
  clear Ox
  exact bZ2
 have HR : Hid (r = x.data.toList.all fun b => aM b.toNat) := by
  unfold Hid; rw [HN.out]
  have : x.size ≤ 18 := by omega
  have h2 : (decide (1 < x.size) && decide (x[0].toNat = 48)) = false := by
   rw [Bool.and_eq_false_iff]
   by_cases h1 : 1 < x.size
   ·exact .inr (decide_eq_false fun e => hz ⟨h1, e⟩)
   ·exact .inl (decide_eq_false h1)
  rw [h2]; simp [this]
 clear HN
 have oB : Hid ((∀ b ∈ x.data.toList, aM b.toNat = true) → r = true) := fun ha => by
  rw [HR.out]; exact List.all_eq_true.2 ha
 have yF : Hid (∀ k : Nat, ∀ h : k < x.size, aM x[k].toNat = false → r = false) := fun k hk hd => by
  rw [HR.out, Bool.eq_false_iff]
  intro ha
  have := List.all_eq_true.1 ha x[k] (List.getElem_mem (l := x.data.toList) (by simpa using hk))
  rw [hd] at this; cases this
 clear HR
 have hZ : ((x[0].toNat : Int) == 48) = false ∨ (((x[0].toNat : Int) == 48) = true ∧ ¬ 1 < x.size) := by
  by_cases Ox : x[0].toNat = 48
  ·exact .inr ⟨by simp; omega, fun h1 => hz ⟨h1, Ox⟩⟩
  ·exact .inl (by simp; omega)
 clear hz
 rcases hZ with hZ | ⟨hZ, hQ⟩
 all_goals
  go_enter Tryd.func18, Tryd.ntmps18
  go_wp2
  go_loop [5, 6] (fun v i => ∃ (k : Nat) (n : Int), k ≤ x.size ∧ i = .int .i64 k ∧ v = .int .i64 n ∧ Hid (∀ b ∈ x.data.toList.take k, aM b.toNat = true)) (fun _ i => x.size - (intOf i).toNat)
  case atStart => exact ⟨0, 0, Nat.zero_le _, rfl, rfl, by simp [Hid]⟩
  case round =>
   obtain ⟨k, n, hk, rfl, rfl, aN⟩ := hrel
   by_cases bm : k < x.size
   ·obtain ⟨c, hc⟩ : ∃ c : Int, (x[k].toNat : Int) = c := ⟨_, rfl⟩
    have hdc : Hid (aM c = aM x[k].toNat) := by unfold Hid; rw [hc]
    have hb1 : c < 256 := by rw [← hc]; have := x[k].toNat_lt; omega
    have sL : 0 ≤ c := by rw [← hc]; omega
    by_cases hd : 48 ≤ c ∧ c ≤ 57
    ·have HG : Hid (∀ b ∈ x.data.toList.take (k + 1), aM b.toNat = true) := fun b hm => by
      rw [ot x k bm, List.mem_append] at hm
      rcases hm with hm | hm
      ·exact aN.out b hm
      ·simp at hm; rw [hm, ← hdc.out]; unfold aM; simp; omega
     obtain ⟨hd1, hd2⟩ := hd
     go_wp2
     all_goals
      go_round
      case rel => exact ⟨k + 1, _, by omega, by go_num, rfl, HG⟩
      case measure => simp [intOf]; omega
    ·have HF : Hid (r = false) := yF.out k bm (by rw [← hdc.out]; unfold aM; simp; omega)
     by_cases Ox : 48 ≤ c
     ·have h57 : 57 < c := by omega
      clear hd
      go_wp2
      go_ret2
      exact ⟨⟨0, tH rfl (by rw [HF.out]; rfl)⟩, rfl⟩
     ·clear hd
      go_wp2
      go_ret2
      exact ⟨⟨0, tH rfl (by rw [HF.out]; rfl)⟩, rfl⟩
   ·have HF : Hid (r = true) := oB.out (fun b hb => aN.out b (by rw [List.take_of_length_le (show x.data.toList.length ≤ k from by show x.size ≤ k; omega)]; exact hb))
    go_wp2
    go_ret2
    exact ⟨⟨_, tH rfl (by rw [HF.out]; rfl)⟩, rfl⟩
theorem D5 (s g : ByteArray) (k : Nat) (h : ((s.extract k (k + g.size)).toList == g.toList) = true) : g.data.toList.isPrefixOf (s.data.toList.drop k) = true := by
 rw [mY, decide_eq_true_eq] at h
 have := congrArg (fun b => b.data.toList) h
 simp only [Lib.extract_data, Nat.add_sub_cancel_left] at this
 rw [List.isPrefixOf_iff_prefix, ← this]
 exact List.take_prefix _ _
theorem D4 (s g : ByteArray) (k : Nat) (h : ((s.extract k (k + g.size)).toList == g.toList) = false) : g.data.toList.isPrefixOf (s.data.toList.drop k) = false := by
 rw [mY, decide_eq_false_iff_not] at h
 rw [Bool.eq_false_iff]
 intro hp
 rw [List.isPrefixOf_iff_prefix] at hp
 apply h
 apply pR
 rw [Lib.extract_data, Nat.add_sub_cancel_left]
 exact (List.prefix_iff_eq_take.1 hp).symm
theorem Ga (s g : ByteArray) (k : Nat) (hk : k ≤ s.size) (h : ¬ k + g.size ≤ s.size) : g.data.toList.isPrefixOf (s.data.toList.drop k) = false := by
 rw [Bool.eq_false_iff]
 intro hp
 rw [List.isPrefixOf_iff_prefix] at hp
 have := hp.length_le
 rw [List.length_drop] at this
 have h1 : g.data.toList.length = g.size := rfl
 have h2 : s.data.toList.length = s.size := rfl
 omega
theorem F2 (g : ByteArray) (hg : g ∈ aH) : g.size ≤ 2 := by
 have : (aH.all fun g => decide (g.size ≤ 2)) = true := by decide
 simpa using List.all_eq_true.1 this g hg
theorem Ce (s : ByteArray) (k : Nat) (w : World) (hs : s.size ≤ 65536) (hk : k ≤ s.size) :
  Calls Tryd.prog 19 #[.string s, .int .i64 k] w fun e w' => e = .returned (.string (bL (s.data.toList.drop k))) ∧ Below w.heap.size w w' := by
 have Hg : Hid (bL (s.data.toList.drop k) = (aH.find? fun g => g.data.toList.isPrefixOf (s.data.toList.drop k)).getD ⟨#[]⟩) := rfl
 generalize bL (s.data.toList.drop k) = r at *
 go_enter Tryd.func19, Tryd.ntmps19
 go_wp2_with (go_at_call 41; refine (Kh _).mono ?_; rintro e w1 ⟨rfl, hb1, Mm, vU⟩; have C5 : Hid (cg w1 w.heap.size aH) := Mm; clear Mm)
 go_loopw [6] (fun i wr => ∃ j : Nat, j ≤ 25 ∧ i = .int .i64 j ∧ Hid (∀ g ∈ aH.take j, g.data.toList.isPrefixOf (s.data.toList.drop k) = false) ∧ Hid (cg wr w.heap.size aH) ∧ Below w.heap.size w wr) (fun i _ => 25 - (intOf i).toNat)
 case atStart => exact ⟨0, Nat.zero_le _, rfl, by simp [Hid], C5, hb1⟩
 case round =>
  obtain ⟨j, hj, rfl, aN, iT, hb⟩ := hrel
  clear C5 hb1 vU
  by_cases bm : j < 25
  ·have zM : j < aH.length := bm
   have hc := iT.out j zM
   have hgm : aH.getD j ⟨#[]⟩ ∈ aH := by
    have : aH.getD j ⟨#[]⟩ = aH[j] := by simp [List.getD, zM]
    rw [this]; exact List.getElem_mem zM
   have hg2 := F2 _ hgm
   clear hgm
   have HG0 : Hid (aH[j] = aH.getD j ⟨#[]⟩) := by unfold Hid; simp [List.getD, zM]
   generalize aH.getD j ⟨#[]⟩ = g at *
   have Ml : ∀ n, Hid (cg (wr.drewN n) w.heap.size aH) := fun n i hi => by have := iT.out i hi; simpa using this
   have HN : Hid (g.data.toList.isPrefixOf (s.data.toList.drop k) = false → ∀ y ∈ aH.take (j + 1), y.data.toList.isPrefixOf (s.data.toList.drop k) = false) := fun hf y hy => by
    rw [List.take_succ_eq_append_getElem zM, List.mem_append] at hy
    rcases hy with hy | hy
    ·exact aN.out y hy
    ·rw [List.mem_singleton.1 hy, HG0.out]; exact hf
   by_cases hle : k + g.size ≤ s.size
   ·have hle' : (k : Int) + (g.size : Int) ≤ (s.size : Int) := by omega
    go_wp2_with fail
    go_quiet (fail)
    go_wp2
    ·have HF : r = g := by
      rw [Hg.out]
      have : aH.find? (fun g => g.data.toList.isPrefixOf (s.data.toList.drop k)) = some aH[j] := by
       rw [List.find?_eq_some_iff_getElem]
       refine ⟨by rw [HG0.out]; exact D5 s g k ‹_›, j, zM, rfl, fun i hi => ?_⟩
       have := aN.out aH[i] (List.mem_take_iff_getElem.2 ⟨i, by omega, rfl⟩)
       simp [this]
      rw [this, HG0.out]; rfl
     go_ret
     exact ⟨oO HF.symm, below_drewN hb _⟩
    ·exact ⟨⟨j + 1, by omega, by go_num, HN.out (D4 s g k ‹_›), Ml _, below_drewN hb _⟩, by simp [intOf]; omega⟩
   ·have hle' : decide ((k : Int) + (g.size : Int) ≤ (s.size : Int)) = false := by simp; omega
    have HN2 := HN.out (Ga s g k hk hle)
    have HN3 : Hid (∀ y ∈ aH.take (j + 1), y.data.toList.isPrefixOf (s.data.toList.drop k) = false) := HN2
    clear HN2 hle
    go_wp2_with fail
    go_quiet (fail)
    go_wp2
    exact ⟨⟨j + 1, by omega, by go_num, HN3, Ml _, below_drewN hb _⟩, by simp [intOf]; omega⟩
  ·have HF : Hid (r = ⟨#[]⟩) := by
    unfold Hid
    rw [Hg.out]
    have : aH.find? (fun g => g.data.toList.isPrefixOf (s.data.toList.drop k)) = none := by
     rw [List.find?_eq_none]
     intro x hx
     have := aN.out x (by rw [List.take_of_length_le (show aH.length ≤ j from by show 25 ≤ j; omega)]; exact hx)
     simp [this]
    rw [this]; rfl
   go_wp2
   go_ret
   exact ⟨oO HF.out.symm, hb⟩
theorem oR (c : Int) (w : World) : Calls Tryd.prog 37 #[.int .u8 c] w fun e w' => e = .returned (.bool (b9 c)) ∧ w' = w := by
 go_enter Tryd.func37, Tryd.ntmps37
 go_wp2
 all_goals go_ret
 all_goals refine ⟨aq ?_, rfl⟩
 all_goals (rw [Bool.eq_iff_iff]; simp_all [b9])
theorem zq (l : List UInt8) : Lib.indexByte l 10 = if (10 : UInt8) ∈ l then (b6 l : Int) else -1 := by
 induction l with
 |nil => simp [Lib.indexByte]
 |cons a l ih =>
  unfold Lib.indexByte b6
  by_cases h : a = 10
  ·subst h; simp
  ·have h' : ¬ (10 : UInt8) = a := fun e => h e.symm
   have hb : (a != 10) = true := by simp [h]
   simp only [beq_iff_eq, h, if_false, ih, List.mem_cons, h', false_or, List.takeWhile_cons, hb, if_true, List.length_cons]
   split
   ·have : ¬ ((b6 l : Int) = -1) := by omega
    simp only [this, if_false]
    simp [b6]
   ·simp
theorem D8 (l : List UInt8) (h : (10 : UInt8) ∉ l) : b6 l = l.length := by
 induction l with
 |nil => rfl
 |cons a l ih =>
  have ha : (a != 10) = true := by simp only [bne_iff_ne, ne_eq]; intro e; subst e; exact h (by simp)
  have := ih (fun hm => h (by simp [hm]))
  unfold b6 at this ⊢
  rw [List.takeWhile_cons, ha]
  simp [this]
theorem Ee (s : ByteArray) (k : Nat) (w : World) (hs : s.size ≤ 65536) (hk : k ≤ s.size) :
  Calls Tryd.prog 39 #[.string s, .int .i64 k] w fun e w' => e = .returned (.int .i64 ((k + b6 (s.data.toList.drop k) : Nat) : Int)) ∧ w' = w := by
 have hx : Hid ((s.extract k s.size).data.toList = s.data.toList.drop k) := Lib.extract_to_end s k
 have hlen : Hid ((s.data.toList.drop k).length = s.size - k) := by unfold Hid; rw [List.length_drop]; rfl
 by_cases h : (10 : UInt8) ∈ s.data.toList.drop k
 ·have hi : Hid (Lib.indexByte (s.extract k s.size).data.toList 10 = (b6 (s.data.toList.drop k) : Int)) := by unfold Hid; rw [hx.out, zq, if_pos h]
  have hle : b6 (s.data.toList.drop k) ≤ s.size := by
   have : b6 (s.data.toList.drop k) ≤ (s.data.toList.drop k).length := (List.takeWhile_sublist _).length_le
   rw [hlen.out] at this; omega
  generalize b6 (s.data.toList.drop k) = n at *
  have k_Z9_0 := kk
  exact bZ9
 ·have hi : Hid (Lib.indexByte (s.extract k s.size).data.toList 10 = -1) := by unfold Hid; rw [hx.out, zq, if_neg h]
  have hn : Hid (k + b6 (s.data.toList.drop k) = s.size) := by unfold Hid; rw [D8 _ h, hlen.out]; omega
  have k_Z9_1 := kk
  exact bZ9
theorem oQ (s : ByteArray) (w : World) (hs : s.size ≤ 100000) :
  Calls Tryd.prog 61 #[.string s] w fun e w' => e = .returned (.string s) ∧ Below w.heap.size w w' := by
 go_enter Tryd.func61, Tryd.ntmps61
 go_wp2_with (go_at_call 78; refine (Tryd.stringslite_Clone _ _ (by omega)).mono ?_; rintro e w' ⟨rfl, hb⟩)
 go_ret
 exact ⟨rfl, hb⟩
theorem CU (t : ByteArray) (l : List UInt8) : decide ((⟨l.toArray⟩ : ByteArray) = t) = (t.toList == l) := by
 rw [ByteArray.toList_eq, Bool.eq_iff_iff]
 simp only [decide_eq_true_eq, beq_iff_eq]
 constructor
 ·intro h; rw [← h]
 ·intro h; exact pR (by rw [h])
theorem Tz (t : ByteArray) : mD 3 t = (t.toList == [114, 101, 116, 117, 114, 110] || t.toList == [98, 114, 101, 97, 107] || t.toList == [99, 111, 110, 116, 105, 110, 117, 101] || t.toList == [116, 114, 117, 101] || t.toList == [102, 97, 108, 115, 101] || t.toList == [105, 110, 116] || t.toList == [98, 111, 111, 108]) := by
 unfold mD hasB rR
 simp only [List.any_cons, List.any_nil, CU, Bool.or_false, Bool.or_assoc]
 simp
theorem Tx (t : ByteArray) : mD 4 t = (t.toList == [43, 43] || t.toList == [45, 45] || t.toList == [41] || t.toList == [125]) := by
 unfold mD hasB rQ
 simp only [List.any_cons, List.any_nil, CU, Bool.or_false, Bool.or_assoc]
 simp
theorem xd (k : Int) (t : ByteArray) (p : Int) (w : World) :
  Calls Tryd.prog 36 #[.agg #[.int .i64 k, .string t, .int .i64 p]] w fun e w' => e = .returned (.bool (mD k t)) ∧ Below w.heap.size w w' := by
 by_cases h1 : k = 1
 ·subst h1
  go_enter Tryd.func36, Tryd.ntmps36
  go_wp2
  go_ret
  exact ⟨aq (by simp [mD]), bA⟩
 by_cases h2 : k = 2
 ·subst h2
  go_enter Tryd.func36, Tryd.ntmps36
  go_wp2
  go_ret
  exact ⟨aq (by simp [mD]), bA⟩
 by_cases h3 : k = 3
 ·subst h3
  clear h1 h2
  go_enter Tryd.func36, Tryd.ntmps36
  go_wp2
  all_goals go_ret
  all_goals refine ⟨aq ?_, bA⟩
  all_goals go_light
  all_goals rw [Tz]
  all_goals simp_all
 by_cases h4 : k = 4
 ·subst h4
  clear h1 h2 h3
  go_enter Tryd.func36, Tryd.ntmps36
  go_wp2
  all_goals go_ret
  all_goals refine ⟨aq ?_, bA⟩
  all_goals go_light
  all_goals rw [Tx]
  all_goals simp_all
 ·have k_Z8_1 := kk
  exact bZ8
theorem zP (s : ByteArray) (h : 0 < s.size) : s.data.toList.headD 0 = s[0] := by
 have : 0 < s.data.toList.length := by simpa using h
 cases hl : s.data.toList with
 |nil => simp [hl] at this
 |cons a l =>
  have : s.data.toList[0]'this = a := by simp [hl]
  show a = s.data[0]
  rw [← this]; rfl
theorem JM (s : ByteArray) (n : Nat) : s.extract 0 n = bs (s.data.toList.take n) := pR (by rw [Lib.extract_data, nV]; simp)
def mw (l : List UInt8) : Int := if 40 < bC l then 1 else if hasB aS (bs (l.take (bC l))) then 3 else 1
def ln (l : List UInt8) : ByteArray := if 40 < bC l then ⟨#[]⟩ else bs (l.take (bC l))
theorem Eb (s : ByteArray) (w : World) (hs : s.size ≤ 65536) (hr : cg w 1 aS) :
  Calls Tryd.prog 57 #[.string s] w fun e w' => e = .returned (.tuple #[.int .i64 (mw s.data.toList), .string (ln s.data.toList)]) ∧ w' = w := by
 have HR : Hid (cg w 1 aS) := hr
 clear hr
 have HS : Hid (s.size ≤ maxLen) := by unfold Hid maxLen; omega
 have hle : bC s.data.toList ≤ s.size := nJ _
 have hk : Hid (mw s.data.toList = if 40 < bC s.data.toList then 1 else if hasB aS (bs (s.data.toList.take (bC s.data.toList))) then 3 else 1) := rfl
 have ht : Hid (ln s.data.toList = if 40 < bC s.data.toList then ⟨#[]⟩ else bs (s.data.toList.take (bC s.data.toList))) := rfl
 have k_Z7_0 := kk
 exact bZ7
def mN (l : List UInt8) : ByteArray := if oy (l.take (bC l)) then bs (l.take (bC l)) else ⟨#[]⟩
theorem GA (s : ByteArray) (w : World) (hs : s.size ≤ 65536) :
  Calls Tryd.prog 59 #[.string s] w fun e w' => e = .returned (.string (mN s.data.toList)) ∧ w' = w := by
 have HS : Hid (s.size ≤ maxLen) := by unfold Hid maxLen; omega
 have hle : bC s.data.toList ≤ s.size := nJ _
 have ht : Hid (mN s.data.toList = if oy (s.data.toList.take (bC s.data.toList)) then bs (s.data.toList.take (bC s.data.toList)) else ⟨#[]⟩) := rfl
 have k_Z7_1 := kk
 exact bZ7
theorem Ec (s : ByteArray) (w : World) (hr : cg w 0 aH) :
  Calls Tryd.prog 60 #[.string s] w fun e w' => e = .returned (.string (bL s.data.toList)) ∧ w' = w := by
 have Hd : Hid (w.rangeAt 0 0 (aH.map Value.string)) := uG hr
 have HZ : Hid ((Tryd.prog.info? 103).map (·.size) = some (aH.map Value.string).length) := by unfold Hid; kernel_rfl
 have GH : (Tryd.prog.info? 9).map (·.size) = some 1 := by kernel_rfl
 have hix : Hid (∀ k : Nat, k < 25 → (Instr.index 103 (.agg (aH.map Value.string).toArray) (.int .i64 k)).run Tryd.prog w = .ok (.string (aH.getD k ⟨#[]⟩)) w) :=
  fun k hk => pC w aH k Tryd.underlying103 Tryd.underlying9 GH hk rfl
 have Hg : Hid (bL s.data.toList = (aH.find? fun g => g.data.toList.isPrefixOf s.data.toList).getD ⟨#[]⟩) := rfl
 clear hr GH
 generalize bL s.data.toList = r at *
 generalize Sn : aH = ss at *
 have hlen : Hid (ss.length = 25) := by rw [← Sn]; rfl
 clear Sn
 go_enter Tryd.func60, Tryd.ntmps60
 go_wp2_with (refine wpList_load_mid rfl 103 _ rfl 0 0 rfl _ _ Hd.out Tryd.underlying103 rfl HZ.out ?_)
 go_loop [6] (fun i => ∃ k : Nat, k ≤ 25 ∧ i = .int .i64 k ∧ Hid (∀ g ∈ ss.take k, g.data.toList.isPrefixOf s.data.toList = false)) (fun i => 25 - (intOf i).toNat)
 case atStart => exact ⟨0, Nat.zero_le _, rfl, by simp [Hid]⟩
 case round =>
  obtain ⟨k, hk, rfl, aN⟩ := hrel
  by_cases bm : k < 25
  ·have hi := hix.out k bm
   have yG : k < ss.length := by rw [hlen.out]; exact bm
   generalize hg : ss.getD k ⟨#[]⟩ = g at hi
   have HG : Hid (ss[k] = g) := by unfold Hid; rw [← hg]; simp [List.getD, yG]
   clear hg
   cases hb : Lib.hasPrefix s.data.toList g.data.toList
   ·have HN : Hid (∀ g ∈ ss.take (k + 1), g.data.toList.isPrefixOf s.data.toList = false) := by
     intro y hy
     rw [List.take_succ_eq_append_getElem yG, List.mem_append] at hy
     rcases hy with hy | hy
     ·exact aN.out y hy
     ·rw [List.mem_singleton.1 hy, HG.out]; exact hb
    have HB : Hid (Lib.hasPrefix s.data.toList g.data.toList = false) := hb
    clear hb
    go_wp2_with (go_at_call 38; refine (Tryd.strings_HasPrefix _ _ _).mono ?_; rw [HB.out]; rintro e w' ⟨rfl, rfl⟩)
    go_round
    case rel => exact ⟨k + 1, by omega, by go_num, HN⟩
    case measure => simp [intOf]; omega
   ·have HF : Hid (r = g) := by
     unfold Hid
     rw [Hg.out]
     have : ss.find? (fun g => g.data.toList.isPrefixOf s.data.toList) = some ss[k] := by
      rw [List.find?_eq_some_iff_getElem]
      refine ⟨by rw [HG.out]; exact hb, k, yG, rfl, fun j hj => ?_⟩
      have := aN.out ss[j] (List.mem_take_iff_getElem.2 ⟨j, by omega, rfl⟩)
      simp [this]
     rw [this, HG.out]; rfl
    have HB : Hid (Lib.hasPrefix s.data.toList g.data.toList = true) := hb
    clear hb
    go_wp2_with (go_at_call 38; refine (Tryd.strings_HasPrefix _ _ _).mono ?_; rw [HB.out]; rintro e w' ⟨rfl, rfl⟩)
    go_ret
    exact ⟨oO HF.out.symm, rfl⟩
  ·have HF : Hid (r = ⟨#[]⟩) := by
    unfold Hid
    rw [Hg.out]
    have : ss.find? (fun g => g.data.toList.isPrefixOf s.data.toList) = none := by
     rw [List.find?_eq_none]
     intro x hx
     have := aN.out x (by rw [List.take_of_length_le (by rw [hlen.out]; omega)]; exact hx)
     simp [this]
    rw [this]; rfl
   go_wp2
   go_ret
   exact ⟨oO HF.out.symm, rfl⟩
theorem Er (s : ByteArray) (k : Nat) (h : k < s.size) : (s.data.toList.drop k).headD 0 = s[k] := by
 have hl : k < s.data.toList.length := by simpa using h
 rw [List.drop_eq_getElem_cons hl]; rfl
theorem gz {W W' : World} {b n : Nat} {ss : List ByteArray} (h : cg W b ss) (hb : Below n W W') (bm : b < n) : cg W' b ss :=
 fun i hi => (hb.cell (p := ⟨b, i, none⟩) bm).trans (h i hi)
theorem pT {W w1 : World} (hb : Below W.heap.size W w1) : (∀ b o, b < W.heap.size → w1.cell? ⟨b, o, none⟩ = W.cell? ⟨b, o, none⟩) ∧ (∀ b o, b < W.heap.size → w1.frozen? ⟨b, o, none⟩ = W.frozen? ⟨b, o, none⟩) :=
 ⟨fun b o h => hb.cell (p := ⟨b, o, none⟩) h, fun b o h => hb.frozen (p := ⟨b, o, none⟩) h⟩
def nh (k : Int) (t : ByteArray) (p : Nat) : Value := .agg #[.int .i64 k, .string t, .int .i64 p]
def fI (l : List UInt8) : Int := match bp l with | .tok k _ _ => k | _ => 0
def fD (l : List UInt8) : ByteArray := match bp l with | .tok _ t _ => t | _ => ⟨#[]⟩
def gj (l : List UInt8) : Int := match bp l with | .tok _ _ _ => 0 | _ => 4
def lM (l : List UInt8) : Int := if (l.headD 0).toNat = 59 then 5 else if aW (l.headD 0).toNat then mw l else if aM (l.headD 0).toNat then 2 else 4
def fQ (l : List UInt8) : ByteArray := if (l.headD 0).toNat = 59 then ⟨#[59]⟩ else if aW (l.headD 0).toNat then ln l else if aM (l.headD 0).toNat then mN l else bL l
theorem lU (l : List UInt8) : (bs (l.take (bC l))).size = bC l := by
 rw [rX, List.length_take]; exact Nat.min_eq_left (nJ l)
theorem F0 {t : ByteArray} (h : t.size = 0) : t = ⟨#[]⟩ := pR (List.eq_nil_of_length_eq_zero h)
theorem step_eq (l : List UInt8) (hl : l ≠ []) :
  ((fQ l).size = 0 → fI l = 0 ∧ fD l = ⟨#[]⟩ ∧ gj l = 4) ∧ ((fQ l).size ≠ 0 → fI l = lM l ∧ fD l = fQ l ∧ gj l = 0) := by
 have bad : ∀ (e : bp l = .bad) (er : fQ l = ⟨#[]⟩), ((fQ l).size = 0 → fI l = 0 ∧ fD l = ⟨#[]⟩ ∧ gj l = 4) ∧ ((fQ l).size ≠ 0 → fI l = lM l ∧ fD l = fQ l ∧ gj l = 0) := fun e er => by
  unfold fI fD gj
  rw [e, er]
  exact ⟨fun _ => ⟨rfl, rfl, rfl⟩, fun h => absurd rfl h⟩
 have KN : ∀ (t : ByteArray) (d : Nat) (e : bp l = .tok (lM l) t d) (er : fQ l = t) (hp : t.size ≠ 0), ((fQ l).size = 0 → fI l = 0 ∧ fD l = ⟨#[]⟩ ∧ gj l = 4) ∧ ((fQ l).size ≠ 0 → fI l = lM l ∧ fD l = fQ l ∧ gj l = 0) := fun t d e er hp => by
  unfold fI fD gj
  rw [e, er]
  exact ⟨fun h => absurd h hp, fun _ => ⟨rfl, rfl, rfl⟩⟩
 by_cases h1 : (l.headD 0).toNat = 59
 ·refine KN ⟨#[59]⟩ 1 ?_ ?_ (by decide)
  ·unfold bp lM; rw [if_pos h1, if_pos h1]
  ·unfold fQ; rw [if_pos h1]
 by_cases h2 : aW (l.headD 0).toNat = true
 ·have hp := nc (l := l) (by unfold aR; rw [h2]; rfl) hl
  have bP := lU l
  by_cases h3 : 40 < bC l
  ·refine bad ?_ ?_
   ·unfold bp; rw [if_neg h1, if_pos h2, if_pos h3]
   ·unfold fQ ln; rw [if_neg h1, if_pos h2, if_pos h3]
  ·refine KN (bs (l.take (bC l))) (bC l) ?_ ?_ (by omega)
   ·unfold bp lM mw; rw [if_neg h1, if_pos h2, if_neg h3, if_neg h1, if_pos h2, if_neg h3]
   ·unfold fQ ln; rw [if_neg h1, if_pos h2, if_neg h3]
 by_cases h4 : aM (l.headD 0).toNat = true
 ·have hp := nc (l := l) (by unfold aR; rw [h4]; exact Bool.or_true _) hl
  have bP := lU l
  by_cases h5 : oy (l.take (bC l)) = true
  ·refine KN (bs (l.take (bC l))) (bC l) ?_ ?_ (by omega)
   ·unfold bp lM; rw [if_neg h1, if_neg h2, if_pos h4, if_pos h5, if_neg h1, if_neg h2, if_pos h4]
   ·unfold fQ mN; rw [if_neg h1, if_neg h2, if_pos h4, if_pos h5]
  ·refine bad ?_ ?_
   ·unfold bp; rw [if_neg h1, if_neg h2, if_pos h4, if_neg h5]
   ·unfold fQ mN; rw [if_neg h1, if_neg h2, if_pos h4, if_neg h5]
 have er : fQ l = bL l := by unfold fQ; rw [if_neg h1, if_neg h2, if_neg h4]
 by_cases h6 : (bL l).size = 0
 ·refine bad ?_ ?_
  ·unfold bp; rw [if_neg h1, if_neg h2, if_neg h4, if_pos h6]
  ·rw [er]; exact F0 h6
 ·refine KN (bL l) (bL l).size ?_ er h6
  unfold bp lM; rw [if_neg h1, if_neg h2, if_neg h4, if_neg h6, if_neg h1, if_neg h2, if_neg h4]
theorem D3 (l : List UInt8) : (fQ l).size ≤ l.length + 2 := by
 unfold fQ
 have h1 := nJ l
 have h2 := lU l
 split
 ·simp [ByteArray.size]
 split
 ·unfold ln; split
  ·simp [ByteArray.size]
  ·omega
 split
 ·unfold mN; split
  ·omega
  ·simp [ByteArray.size]
 ·unfold bL
  cases hf : aH.find? fun g => g.data.toList.isPrefixOf l with
  |none => simp [ByteArray.size]
  |some g =>
   have := List.find?_some hf
   have := (List.isPrefixOf_iff_prefix.1 this).length_le
   have hg : g.data.toList.length = g.size := rfl
   simp only [Option.getD_some]; omega
theorem kT (t : ByteArray) : t.toList.isEmpty = decide (t.size = 0) := by
 rw [ByteArray.toList_eq, Bool.eq_iff_iff, List.isEmpty_iff, decide_eq_true_eq]
 constructor
 ·intro h; show t.data.toList.length = 0; rw [h]; rfl
 ·intro h; exact List.eq_nil_of_length_eq_zero h
theorem Be (s : ByteArray) (k : Nat) (w : World) (hs : s.size ≤ 65536) (hk : k < s.size) (hr : cg w 1 aS) (hg : cg w 0 aH) (hz : 1 < w.heap.size) (hQ : 0 < w.heap.size) :
  Calls Tryd.prog 40 #[.string s, .int .i64 k] w fun e w' => e = .returned (.tuple #[nh (fI (s.data.toList.drop k)) (fD (s.data.toList.drop k)) k, .int .i64 (gj (s.data.toList.drop k))]) ∧ Below w.heap.size w w' := by
 have hx : Hid ((s.extract k s.size).data.toList = s.data.toList.drop k) := Lib.extract_to_end s k
 have Rq : Hid ((s.extract k s.size).size ≤ 65536) := by
  have : (s.extract k s.size).data.toList.length = (s.extract k s.size).size := rfl
  unfold Hid; rw [← this, hx.out, List.length_drop]
  have : s.data.toList.length = s.size := rfl
  omega
 have HH : Hid ((s.data.toList.drop k).headD 0 = s[k]) := Er s k hk
 have fE : s.data.toList.drop k ≠ [] := by
  intro e
  have := congrArg List.length e
  rw [List.length_drop] at this
  have h2 : s.data.toList.length = s.size := rfl
  simp only [List.length_nil] at this
  omega
 have aF := step_eq _ fE
 have hsm := D3 (s.data.toList.drop k)
 have hsm2 : (s.data.toList.drop k).length ≤ 65536 := by
  rw [List.length_drop]
  have : s.data.toList.length = s.size := rfl
  omega
 have HR : Hid (cg (w.alloc (.cells #[.int .i64 0, .string ⟨#[]⟩, .int .i64 0] 33)) 1 aS) := gz hr (bA) hz
 have HG : Hid (cg (w.alloc (.cells #[.int .i64 0, .string ⟨#[]⟩, .int .i64 0] 33)) 0 aH) := gz hg (bA) hQ
 have IX : Hid (lM (s.data.toList.drop k) = if s[k].toNat = 59 then 5 else if aW s[k].toNat then mw (s.data.toList.drop k) else if aM s[k].toNat then 2 else 4) := by
  unfold Hid lM; rw [HH.out]
 have Mk : Hid (fQ (s.data.toList.drop k) = if s[k].toNat = 59 then ⟨#[59]⟩ else if aW s[k].toNat then ln (s.data.toList.drop k) else if aM s[k].toNat then mN (s.data.toList.drop k) else bL (s.data.toList.drop k)) := by
  unfold Hid fQ; rw [HH.out]
 clear hr hg hz hQ fE HH
 generalize fI (s.data.toList.drop k) = sk at *
 generalize fD (s.data.toList.drop k) = st at *
 generalize gj (s.data.toList.drop k) = sc at *
 generalize Ej : s.data.toList.drop k = l at *
 clear Ej
 generalize fQ l = rt at *
 generalize lM l = rk at *
 have Bk : Hid (rt.size = 0 → sk = 0 ∧ st = ⟨#[]⟩ ∧ sc = 4) := aF.1
 have zA : Hid (rt.size ≠ 0 → sk = rk ∧ st = rt ∧ sc = 0) := aF.2
 clear aF
 have hrs : rt.size ≤ 65538 := by omega
 clear hsm hsm2
 cases hl : aW s[k].toNat
 ·have HL : Hid (aW s[k].toNat = false) := hl
  by_cases qp : s[k].toNat = 59
  ·have hd : aM s[k].toNat = false := by rw [qp]; decide
   have HD : Hid (aM s[k].toNat = false) := hd
   have qW : rk = 5 := by rw [IX.out, if_pos qp]
   have Bj : rt = ⟨#[59]⟩ := by rw [Mk.out, if_pos qp]
   have Ho : ((s[k].toNat : Int) == 59) = true := by simp; omega
   obtain ⟨rfl, rfl, rfl⟩ := zA.out (by rw [Bj]; decide)
   clear Bk zA hl hd qp IX Mk
   subst qW Bj
   go_enter Tryd.func40, Tryd.ntmps40
   go_wp2_with (first | (go_at_call 56; refine (mA _ _).mono ?_; rw [HL.out]; rintro e w' ⟨rfl, rfl⟩) | (go_at_call 58; refine (mh _ _).mono ?_; rw [HD.out]; rintro e w' ⟨rfl, rfl⟩) | (go_at_call 61; refine (oQ _ _ (by decide)).mono ?_; rintro e w1 ⟨rfl, hb⟩; obtain ⟨hc, hf⟩ := pT hb; have hz := hb.size; simp only [World.size_alloc] at hz))
   refine bodyPost_ret (v := .tuple #[nh 5 ⟨#[59]⟩ k, .int .i64 0]) (by simp [results, Tryd.results40, go_sem, nh, hc]) rfl ⟨rfl, ?_⟩
   exact bZ3
  have zK : ¬ aW s[k].toNat = true := by rw [hl]; decide
  cases hd : aM s[k].toNat
  ·have hdn : ¬ aM s[k].toNat = true := by rw [hd]; decide
   have HD : Hid (aM s[k].toNat = false) := hd
   have qW : rk = 4 := by rw [IX.out, if_neg qp, if_neg zK, if_neg hdn]
   have Bj : Hid (rt = bL l) := by unfold Hid; rw [Mk.out, if_neg qp, if_neg zK, if_neg hdn]
   have Ho : ((s[k].toNat : Int) == 59) = false := by simp; omega
   clear hl zK hd hdn qp IX Mk
   subst qW
   cases he : rt.toList.isEmpty
   ·have fE : rt.size ≠ 0 := by rw [kT] at he; simpa using he
    obtain ⟨rfl, rfl, rfl⟩ := zA.out fE
    have k_Z4_0 := kk
    exact bZ4
   ·have fE : rt.size = 0 := by rw [kT] at he; simpa using he
    obtain ⟨rfl, rfl, rfl⟩ := Bk.out fE
    have k_Z4_1 := kk
    exact bZ4
  ·have HD : Hid (aM s[k].toNat = true) := hd
   have qW : rk = 2 := by rw [IX.out, if_neg qp, if_neg zK, if_pos hd]
   have Bj : Hid (rt = mN l) := by unfold Hid; rw [Mk.out, if_neg qp, if_neg zK, if_pos hd]
   clear hl zK hd qp IX Mk
   subst qW
   cases he : rt.toList.isEmpty
   ·have fE : rt.size ≠ 0 := by rw [kT] at he; simpa using he
    obtain ⟨rfl, rfl, rfl⟩ := zA.out fE
    have k_Z5_1 := kk
    exact bZ5
   ·have fE : rt.size = 0 := by rw [kT] at he; simpa using he
    obtain ⟨rfl, rfl, rfl⟩ := Bk.out fE
    have k_Z5_0 := kk
    exact bZ5
 ·have Ho : ¬ s[k].toNat = 59 := by
   intro e; rw [e] at hl; revert hl; decide
  have qW : Hid (rk = mw l) := by unfold Hid; rw [IX.out, if_neg Ho, if_pos hl]
  have Bj : Hid (rt = ln l) := by unfold Hid; rw [Mk.out, if_neg Ho, if_pos hl]
  have HL : Hid (aW s[k].toNat = true) := hl
  clear hl Ho IX Mk
  cases he : rt.toList.isEmpty
  ·have fE : rt.size ≠ 0 := by rw [kT] at he; simpa using he
   obtain ⟨rfl, rfl, rfl⟩ := zA.out fE
   have k_Z6_1 := kk
   exact bZ6
  ·have fE : rt.size = 0 := by rw [kT] at he; simpa using he
   obtain ⟨rfl, rfl, rfl⟩ := Bk.out fE
   have k_Z6_0 := kk
   exact bZ6
end Go.Proofs.YtkfbbdhidecefaaDoor
