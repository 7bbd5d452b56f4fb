/- The specification's count down over a tree. -/
import Derived.Test.YtjgbjahcnnjfpaaDoorMaA
import Derived.WalkSpells
import Derived.WalkSmall
import Derived.Test.YtjgbjahcnnjfpaaDoorMaB
import Derived.Deep.LoopGhost
set_option linter.unusedVariables false
namespace Go.Proofs.YtjgbjahcnnjfpaaDoor
open Go.RowKit

def LeftC (T : Nd) : Prop := ∀ (w : World) (left : Nat) (v : Value) (hi : Nat), T.Fine → hi ≤ w.heap.size → Row 0 hi w T v → left ≤ 1048576 →
  Calls Tryd.prog 29 #[T.val v, .int .i64 left] w fun e w' => e = .returned (.int .i64 (left' T.size left)) ∧ Below w.heap.size w w'

def leftAt (S : Nat → Nat) (left j : Nat) : Int := if S j + 1 ≤ left then ((left - (S j + 1) : Nat) : Int) else -1

set_option maxHeartbeats 2000000 in
theorem left_of (T : Nd) (ih : ∀ i, i < T.len → LeftC (T.kids i)) : LeftC T := by
  intro w left v hi hf hhi hr hl
  have hn := T.fine_len hf
  have hze := T.size_eq
  obtain ⟨a, cap, rfl, hcap, hq⟩ := row_eq.1 hr
  clear hcap
  have HI := hid_mk ih
  have HF := hid_mk hf
  have HR := hid_mk hq
  clear hr hf ih hq
  have hst : ∀ j, j < T.len → sumTo (fun i => (T.kids i).size) j + (T.kids j).size ≤ sumTo (fun i => (T.kids i).size) T.len := fun j hj => sumTo_at _ hj
  have hss : ∀ j, sumTo (fun i => (T.kids i).size) (j + 1) = sumTo (fun i => (T.kids i).size) j + (T.kids j).size := fun j => rfl
  have h00 : sumTo (fun i => (T.kids i).size) 0 = 0 := rfl
  generalize sumTo (fun i => (T.kids i).size) = S at *
  have HST := hid_mk hst
  have HSS := hid_mk hss
  have HZE := hid_mk hze
  clear hst hss hze
  unfold Nd.val
  generalize T.kind = tk
  generalize T.num = tn
  generalize T.name = ts
  have HB : ∀ a : Obj, Hid (Below w.heap.size w (w.alloc a)) := fun a => (Below.refl _ _).alloc (Nat.le_refl _) _
  go_enter Tryd.func29, Tryd.ntmps29
  go_wp2
  go_loopw [1, 5] (fun k i wr => ∃ (j : Nat), j ≤ T.len ∧ i = .int .i64 j ∧ k = .int .i64 (leftAt S left j) ∧ Below (w.heap.size + 1) (w.alloc (.cells #[.int .i64 tk, .int .i64 tn, .string ts, .slice a T.len cap] 37)) wr) (fun _ i _ => T.len - (intOf i).toNat)
  case atStart => exact ⟨0, by omega, rfl, by unfold leftAt; rw [h00]; congr 1; split <;> omega, Below.refl _ _⟩
  case round =>
    obtain ⟨j, hj, rfl, rfl, hb⟩ := hrel
    have k3 : wr.cell? ⟨w.heap.size, 3, none⟩ = some (.slice a T.len cap) := by
      rw [hb.cell (p := ⟨w.heap.size, 3, none⟩) (by show w.heap.size < _; omega)]; simp
    have hbw := (HB (.cells #[.int .i64 tk, .int .i64 tn, .string ts, .slice a T.len cap] 37)).out.trans (hb.mono (by omega))
    have hbz := hbw.size
    have hbx : w.heap.size + 1 ≤ wr.heap.size := by have := hb.size; simpa using this
    by_cases hlt : j < T.len
    · have h1' := HST.out j hlt
      have h2' := HSS.out j
      by_cases hgo : S j + 1 ≤ left
      · rcases HR.out with h0 | ⟨g, off, rfl, h1, h2, h3⟩
        · omega
        obtain ⟨u, e0, e1, e2, e3, hu⟩ := h3 j hlt
        have hgl : g < w.heap.size := by omega
        rw [← hbw.cell (p := ⟨g, _, none⟩) hgl] at e0 e1 e2 e3
        have HU := hid_mk (row_below hbw hhi hu)
        have HC := HI.out j hlt
        have HFJ := hid_mk (Nd.fine_kid HF.out hlt)
        have hla : leftAt S left j = ((left - (S j + 1) : Nat) : Int) := by unfold leftAt; rw [if_pos hgo]
        have HLN : Hid (left' (T.kids j).size (left - (S j + 1)) = leftAt S left (j + 1)) := by
          unfold Hid left' leftAt; rw [h2']; split <;> split <;> omega
        unfold LeftC Nd.val at HC
        have HCC := hid_mk HC
        clear h3 HC hu h2'
        generalize T.kids j = K at *
        rw [hla]
        go_wp2_with (go_at_call 29; refine (HCC.out _ (left - (S j + 1)) _ hi HFJ.out (by omega) HU.out (by omega)).mono ?_; rw [HLN.out]; rintro e w1 ⟨rfl, hb1⟩)
        exact ⟨⟨j + 1, by omega, by go_num, rfl, hb.trans (hb1.mono hbx)⟩, by simp [intOf]; omega⟩
      · have hla : leftAt S left j = -1 := by unfold leftAt; rw [if_neg hgo]
        rw [hla]
        go_wp2
        go_ret
        exact ⟨ret_in (by unfold left'; rw [HZE.out, if_neg (by omega)]), hbw⟩
    · obtain rfl : j = T.len := by omega
      go_wp2
      go_ret
      exact ⟨ret_in (by unfold left' leftAt; rw [HZE.out]; split <;> split <;> omega), hbw⟩

theorem left_any (T : Nd) : LeftC T := by
  induction T with
  | nil => exact left_of _ fun i hi => absurd hi (Nat.not_lt_zero i)
  | mk k n s len kids ih => exact left_of _ fun i _ => ih i
end Go.Proofs.YtjgbjahcnnjfpaaDoor
namespace Go.Proofs.YtjgbjahcnnjfpaaDoor
open Go.RowKit

def ExprC (T : Nd) : Prop := ∀ (w : World) (v : Value) (hi : Nat), T.Fine → hi ≤ w.heap.size → Row 0 hi w T v →
  Calls Tryd.prog 79 #[T.val v] w fun e w' => e = .returned (.bool T.eOk) ∧ Below w.heap.size w w'
def StmtC (T : Nd) : Prop := ∀ (w : World) (v : Value) (hi : Nat), T.Fine → hi ≤ w.heap.size → Row 0 hi w T v →
  Calls Tryd.prog 56 #[T.val v] w fun e w' => e = .returned (.bool T.sOk) ∧ Below w.heap.size w w'
def CaseC (T : Nd) : Prop := ∀ (w : World) (v : Value) (hi : Nat), T.Fine → hi ≤ w.heap.size → Row 0 hi w T v →
  Calls Tryd.prog 68 #[T.val v] w fun e w' => e = .returned (.bool T.cOk) ∧ Below w.heap.size w w'
def ExprsC (T : Nd) : Prop := ∀ (w : World) (v : Value) (hi : Nat), T.Fine → hi ≤ w.heap.size → Row 0 hi w T v →
  Calls Tryd.prog 88 #[v] w fun e w' => e = .returned (.bool (allTo (fun i => (T.kids i).eOk) T.len)) ∧ Below w.heap.size w w'
def KidsC (T : Nd) : Prop := ∀ (w : World) (v : Value) (hi : Nat) (sorts : ByteArray), T.Fine → hi ≤ w.heap.size → Row 0 hi w T v → sorts.size ≤ 10 →
  Calls Tryd.prog 67 #[T.val v, .string sorts] w fun e w' => e = .returned (.bool (sortsB (fun i => (T.kids i).eOk) (fun i => (T.kids i).sOk) T.kk T.len sorts)) ∧ Below w.heap.size w w'

set_option maxHeartbeats 2000000 in
theorem exprs_of (T : Nd) (ih : ∀ i, i < T.len → ExprC (T.kids i)) : ExprsC T := by
  intro w v hi hf hhi hr
  have hn := T.fine_len hf
  obtain ⟨a, cap, rfl, hcap, hq⟩ := row_eq.1 hr
  have HI := hid_mk ih
  have HF := hid_mk hf
  have HR := hid_mk hq
  clear hr hf ih hq hcap
  go_enter Tryd.func88, Tryd.ntmps88
  go_wp2
  go_loopw [3] (fun i wr => ∃ (j : Nat), j ≤ T.len ∧ i = .int .i64 j ∧ Hid (∀ i, i < j → (T.kids i).eOk = true) ∧ Below w.heap.size w wr) (fun i _ => T.len - (intOf i).toNat)
  case atStart => exact ⟨0, by omega, rfl, (fun i hi => by omega), Below.refl _ _⟩
  case round =>
    obtain ⟨j, hj, rfl, hall, hb⟩ := hrel
    have hbz := hb.size
    by_cases hlt : j < T.len
    · rcases HR.out with h0 | ⟨g, off, rfl, h1, h2, h3⟩
      · omega
      obtain ⟨u, e0, e1, e2, e3, hu⟩ := h3 j hlt
      have hgl : g < w.heap.size := by omega
      rw [← hb.cell (p := ⟨g, _, none⟩) hgl] at e0 e1 e2 e3
      have HU := hid_mk (row_below hb hhi hu)
      have HC := HI.out j hlt
      have HFJ := hid_mk (Nd.fine_kid HF.out hlt)
      have HN : Hid ((T.kids j).eOk = false → allTo (fun i => (T.kids i).eOk) T.len = false) := fun h => allTo_false hlt h
      have HY : Hid ((T.kids j).eOk = true → ∀ i, i < j + 1 → (T.kids i).eOk = true) := fun h i hi => by
        by_cases e : i = j
        · subst e; exact h
        · exact hall.out i (by omega)
      unfold ExprC Nd.val at HC
      have HCC := hid_mk HC
      clear h3 HC hu hall
      generalize T.kids j = K at *
      cases hk : K.eOk
      all_goals have HX := hid_mk hk
      all_goals clear hk
      all_goals go_wp2_with (go_at_call 79; refine (HCC.out _ _ hi HFJ.out (by omega) HU.out).mono ?_; rw [HX.out]; rintro e w1 ⟨rfl, hb1⟩)
      · go_ret
        exact ⟨ret_bool (HN.out HX.out).symm, hb.trans (hb1.mono hbz)⟩
      · exact ⟨⟨j + 1, by omega, by go_num, HY.out HX.out, hb.trans (hb1.mono hbz)⟩, by simp [intOf]; omega⟩
    · obtain rfl : j = T.len := by omega
      go_wp2
      go_ret
      exact ⟨ret_bool (allTo_true hall.out).symm, hb⟩

theorem sort_at {sorts : ByteArray} {j : Nat} (h : j < sorts.size) : sorts.data.toList.getD j 0 = sorts[j] := by
  have : j < sorts.data.toList.length := by simpa using h
  simp only [List.getD, List.getElem?_eq_getElem this, Option.getD_some]; rfl

set_option maxHeartbeats 4000000 in
theorem kids_of (T : Nd) (ih : ∀ i, i < T.len → ExprC (T.kids i) ∧ StmtC (T.kids i)) : KidsC T := by
  intro w v hi sorts hf hhi hr hs
  have hn := T.fine_len hf
  obtain ⟨a, cap, rfl, hcap, hq⟩ := row_eq.1 hr
  have HI := hid_mk ih
  have HF := hid_mk hf
  have HR := hid_mk hq
  clear hr hf ih hq hcap
  unfold Nd.val
  generalize T.kind = tk
  generalize T.num = tn
  generalize T.name = ts
  have HB : ∀ a : Obj, Hid (Below w.heap.size w (w.alloc a)) := fun a => (Below.refl _ _).alloc (Nat.le_refl _) _
  by_cases hlen : T.len = sorts.size
  · have hln : ((T.len : Int) != (sorts.size : Int)) = false := by simp [hlen]
    have HEQ : Hid (sortsB (fun i => (T.kids i).eOk) (fun i => (T.kids i).sOk) T.kk T.len sorts = allTo (fun i => sortB (fun i => (T.kids i).eOk) (fun i => (T.kids i).sOk) T.kk (sorts.data.toList.getD i 0).toNat i) sorts.size) := by
      unfold Hid sortsB; simp [hlen]
    have HLEN := hid_mk hlen
    clear hlen
    have hle : T.len ≤ 10 := by have := HLEN.out; omega
    go_enter Tryd.func67, Tryd.ntmps67
    go_wp2
    go_loopg [5] T.len (fun gk i wr => ∃ (j : Nat), gk = T.len - j ∧ j ≤ T.len ∧ i = .int .i64 j ∧ Hid (∀ i, i < j → sortB (fun i => (T.kids i).eOk) (fun i => (T.kids i).sOk) T.kk (sorts.data.toList.getD i 0).toNat i = true) ∧ Below (w.heap.size + 1) (w.alloc (.cells #[.int .i64 tk, .int .i64 tn, .string ts, .slice a T.len cap] 37)) wr)
    case atStart => exact ⟨0, by omega, by omega, rfl, (fun i hi => by omega), Below.refl _ _⟩
    case round =>
      obtain ⟨j, hgk, hj, rfl, hall, hb⟩ := hrel
      have HGK := hid_mk hgk
      clear hgk
      have k3 : wr.cell? ⟨w.heap.size, 3, none⟩ = some (.slice a T.len cap) := by
        rw [hb.cell (p := ⟨w.heap.size, 3, none⟩) (by show w.heap.size < _; omega)]; simp
      have hbw := (HB (.cells #[.int .i64 tk, .int .i64 tn, .string ts, .slice a T.len cap] 37)).out.trans (hb.mono (by omega))
      have hbz := hbw.size
      have hbx : w.heap.size + 1 ≤ wr.heap.size := by have := hb.size; simpa using this
      by_cases hlt : j < T.len
      · have hjs : j < sorts.size := by have := HLEN.out; omega
        rcases HR.out with h0 | ⟨g, off, rfl, h1, h2, h3⟩
        · omega
        obtain ⟨u, e0, e1, e2, e3, hu⟩ := h3 j hlt
        have hgl : g < w.heap.size := by omega
        rw [← hbw.cell (p := ⟨g, _, none⟩) hgl] at e0 e1 e2 e3
        obtain ⟨au, cu, rfl, _⟩ := row_eq.1 hu
        have HU := hid_mk (row_below hbw hhi hu)
        obtain ⟨hce, hcs⟩ := HI.out j hlt
        have HFJ := hid_mk (Nd.fine_kid HF.out hlt)
        have HN : Hid (sortB (fun i => (T.kids i).eOk) (fun i => (T.kids i).sOk) T.kk sorts[j].toNat j = false → false = sortsB (fun i => (T.kids i).eOk) (fun i => (T.kids i).sOk) T.kk T.len sorts) := fun h => by
          rw [HEQ.out]; exact (allTo_false hjs (by rw [sort_at hjs]; exact h)).symm
        have HY : Hid (sortB (fun i => (T.kids i).eOk) (fun i => (T.kids i).sOk) T.kk sorts[j].toNat j = true → ∀ i, i < j + 1 → sortB (fun i => (T.kids i).eOk) (fun i => (T.kids i).sOk) T.kk (sorts.data.toList.getD i 0).toNat i = true) := fun h i hi => by
          by_cases e : i = j
          · subst e; rw [sort_at hjs]; exact h
          · exact hall.out i (by omega)
        have HSB : Hid (sortB (fun i => (T.kids i).eOk) (fun i => (T.kids i).sOk) T.kk sorts[j].toNat j = if sorts[j].toNat = 101 then (T.kids j).eOk else if sorts[j].toNat = 99 then decide ((T.kids j).kind = 25) && (T.kids j).eOk else if sorts[j].toNat = 98 then decide ((T.kids j).kind = 4) && (T.kids j).sOk else (decide ((T.kids j).kind = 4) || decide ((T.kids j).kind = 10)) && (T.kids j).sOk) := rfl
        generalize sortB (fun i => (T.kids i).eOk) (fun i => (T.kids i).sOk) T.kk sorts[j].toNat j = res at *
        unfold ExprC Nd.val at hce
        unfold StmtC Nd.val at hcs
        have HCE := hid_mk hce
        have HCS := hid_mk hcs
        clear h3 hce hcs hu hall
        generalize T.kids j = K at *
        have hcase : ((sorts[j].toNat : Int) == 101) = true ∨ (((sorts[j].toNat : Int) == 101) = false ∧ ((sorts[j].toNat : Int) == 99) = true) ∨ (((sorts[j].toNat : Int) == 101) = false ∧ ((sorts[j].toNat : Int) == 99) = false ∧ ((sorts[j].toNat : Int) == 98) = true) ∨
            (((sorts[j].toNat : Int) == 101) = false ∧ ((sorts[j].toNat : Int) == 99) = false ∧ ((sorts[j].toNat : Int) == 98) = false) := by
          cases h1 : ((sorts[j].toNat : Int) == 101) <;> cases h2 : ((sorts[j].toNat : Int) == 99) <;> cases h3 : ((sorts[j].toNat : Int) == 98) <;> simp
        rcases hcase with q1 | ⟨q1, q2⟩ | ⟨q1, q2, q3⟩ | ⟨q1, q2, q3⟩
        · have p1 : sorts[j].toNat = 101 := by have := beq_iff_eq.1 q1; omega
          replace HSB : Hid (res = K.eOk) := by have := HSB.out; rw [if_pos p1] at this; exact this
          clear p1
          cases hx : K.eOk
          all_goals have HX := hid_mk hx
          all_goals clear hx
          all_goals go_wp2_with (go_at_call 79; refine (HCE.out _ _ hi HFJ.out (by simp; omega) (row_below ((Below.refl _ _).alloc (Nat.le_refl _) _) (by omega) HU.out)).mono ?_; rw [HX.out]; rintro e w1 ⟨rfl, hb1⟩)
          · go_ret
            exact ⟨ret_bool (HN.out (by rw [HSB.out, HX.out])), hbw.trans (((Below.refl _ _).alloc (by omega) _).trans (hb1.mono (by simp; omega)))⟩
          · go_roundg (T.len - (j + 1))
            case rel => exact ⟨j + 1, rfl, by omega, by go_num, HY.out (by rw [HSB.out, HX.out]), hb.trans (((Below.refl _ _).alloc (by omega) _).trans (hb1.mono (by simp; omega)))⟩
            case measure => have := HGK.out; omega
        · have p1 : ¬ sorts[j].toNat = 101 := by have := beq_eq_false_iff_ne.1 q1; omega
          have p2 : sorts[j].toNat = 99 := by have := beq_iff_eq.1 q2; omega
          replace HSB : Hid (res = (decide (K.kind = 25) && K.eOk)) := by have := HSB.out; rw [if_neg p1, if_pos p2] at this; exact this
          clear p1 p2
          by_cases hk : K.kind = 25
          · have hkb : (K.kind == 25) = true := beq_iff_eq.2 hk
            replace HSB : Hid (res = K.eOk) := by have := HSB.out; simpa [hk, Hid] using this
            clear hk
            cases hx : K.eOk
            all_goals have HX := hid_mk hx
            all_goals clear hx
            all_goals go_wp2_with (go_at_call 79; refine (HCE.out _ _ hi HFJ.out (by simp; omega) (row_below ((Below.refl _ _).alloc (Nat.le_refl _) _) (by omega) HU.out)).mono ?_; rw [HX.out]; rintro e w1 ⟨rfl, hb1⟩)
            · go_ret
              exact ⟨ret_bool (HN.out (by rw [HSB.out, HX.out])), hbw.trans (((Below.refl _ _).alloc (by omega) _).trans (hb1.mono (by simp; omega)))⟩
            · go_roundg (T.len - (j + 1))
              case rel => exact ⟨j + 1, rfl, by omega, by go_num, HY.out (by rw [HSB.out, HX.out]), hb.trans (((Below.refl _ _).alloc (by omega) _).trans (hb1.mono (by simp; omega)))⟩
              case measure => have := HGK.out; omega
          · have hkb : (K.kind == 25) = false := beq_eq_false_iff_ne.2 hk
            replace HSB : Hid (res = false) := by have := HSB.out; simpa [hk, Hid] using this
            clear hk
            go_wp2
            go_ret
            exact ⟨ret_bool (HN.out (by rw [HSB.out])), hbw.trans ((Below.refl _ _).alloc (by omega) _)⟩
        · have p1 : ¬ sorts[j].toNat = 101 := by have := beq_eq_false_iff_ne.1 q1; omega
          have p2 : ¬ sorts[j].toNat = 99 := by have := beq_eq_false_iff_ne.1 q2; omega
          have p3 : sorts[j].toNat = 98 := by have := beq_iff_eq.1 q3; omega
          replace HSB : Hid (res = (decide (K.kind = 4) && K.sOk)) := by have := HSB.out; rw [if_neg p1, if_neg p2, if_pos p3] at this; exact this
          clear p1 p2 p3
          by_cases hk : K.kind = 4
          · have hkb : (K.kind == 4) = true := beq_iff_eq.2 hk
            replace HSB : Hid (res = K.sOk) := by have := HSB.out; simpa [hk, Hid] using this
            clear hk
            cases hx : K.sOk
            all_goals have HX := hid_mk hx
            all_goals clear hx
            all_goals go_wp2_with (go_at_call 56; refine (HCS.out _ _ hi HFJ.out (by simp; omega) (row_below ((Below.refl _ _).alloc (Nat.le_refl _) _) (by omega) HU.out)).mono ?_; rw [HX.out]; rintro e w1 ⟨rfl, hb1⟩)
            · go_ret
              exact ⟨ret_bool (HN.out (by rw [HSB.out, HX.out])), hbw.trans (((Below.refl _ _).alloc (by omega) _).trans (hb1.mono (by simp; omega)))⟩
            · go_roundg (T.len - (j + 1))
              case rel => exact ⟨j + 1, rfl, by omega, by go_num, HY.out (by rw [HSB.out, HX.out]), hb.trans (((Below.refl _ _).alloc (by omega) _).trans (hb1.mono (by simp; omega)))⟩
              case measure => have := HGK.out; omega
          · have hkb : (K.kind == 4) = false := beq_eq_false_iff_ne.2 hk
            replace HSB : Hid (res = false) := by have := HSB.out; simpa [hk, Hid] using this
            clear hk
            go_wp2
            go_ret
            exact ⟨ret_bool (HN.out (by rw [HSB.out])), hbw.trans ((Below.refl _ _).alloc (by omega) _)⟩
        · have p1 : ¬ sorts[j].toNat = 101 := by have := beq_eq_false_iff_ne.1 q1; omega
          have p2 : ¬ sorts[j].toNat = 99 := by have := beq_eq_false_iff_ne.1 q2; omega
          have p3 : ¬ sorts[j].toNat = 98 := by have := beq_eq_false_iff_ne.1 q3; omega
          replace HSB : Hid (res = ((decide (K.kind = 4) || decide (K.kind = 10)) && K.sOk)) := by have := HSB.out; rw [if_neg p1, if_neg p2, if_neg p3] at this; exact this
          clear p1 p2 p3
          by_cases hk : K.kind = 4
          · have hkb : (K.kind == 4) = true := beq_iff_eq.2 hk
            replace HSB : Hid (res = K.sOk) := by have := HSB.out; simpa [hk, Hid] using this
            clear hk
            cases hx : K.sOk
            all_goals have HX := hid_mk hx
            all_goals clear hx
            all_goals go_wp2_with (go_at_call 56; refine (HCS.out _ _ hi HFJ.out (by simp; omega) (row_below ((Below.refl _ _).alloc (Nat.le_refl _) _) (by omega) HU.out)).mono ?_; rw [HX.out]; rintro e w1 ⟨rfl, hb1⟩)
            · go_ret
              exact ⟨ret_bool (HN.out (by rw [HSB.out, HX.out])), hbw.trans (((Below.refl _ _).alloc (by omega) _).trans (hb1.mono (by simp; omega)))⟩
            · go_roundg (T.len - (j + 1))
              case rel => exact ⟨j + 1, rfl, by omega, by go_num, HY.out (by rw [HSB.out, HX.out]), hb.trans (((Below.refl _ _).alloc (by omega) _).trans (hb1.mono (by simp; omega)))⟩
              case measure => have := HGK.out; omega
          · have hkb : (K.kind == 4) = false := beq_eq_false_iff_ne.2 hk
            by_cases hk2 : K.kind = 10
            · have hkb2 : (K.kind == 10) = true := beq_iff_eq.2 hk2
              replace HSB : Hid (res = K.sOk) := by have := HSB.out; simpa [hk2, Hid] using this
              clear hk hk2
              cases hx : K.sOk
              all_goals have HX := hid_mk hx
              all_goals clear hx
              all_goals go_wp2_with (go_at_call 56; refine (HCS.out _ _ hi HFJ.out (by simp; omega) (row_below ((Below.refl _ _).alloc (Nat.le_refl _) _) (by omega) HU.out)).mono ?_; rw [HX.out]; rintro e w1 ⟨rfl, hb1⟩)
              · go_ret
                exact ⟨ret_bool (HN.out (by rw [HSB.out, HX.out])), hbw.trans (((Below.refl _ _).alloc (by omega) _).trans (hb1.mono (by simp; omega)))⟩
              · go_roundg (T.len - (j + 1))
                case rel => exact ⟨j + 1, rfl, by omega, by go_num, HY.out (by rw [HSB.out, HX.out]), hb.trans (((Below.refl _ _).alloc (by omega) _).trans (hb1.mono (by simp; omega)))⟩
                case measure => have := HGK.out; omega
            · have hkb2 : (K.kind == 10) = false := beq_eq_false_iff_ne.2 hk2
              replace HSB : Hid (res = false) := by have := HSB.out; simpa [hk, hk2, Hid] using this
              clear hk hk2
              go_wp2
              go_ret
              exact ⟨ret_bool (HN.out (by rw [HSB.out])), hbw.trans ((Below.refl _ _).alloc (by omega) _)⟩
      · obtain rfl : j = T.len := by omega
        have hjs : ¬ T.len < sorts.size := by have := HLEN.out; omega
        go_wp2
        go_ret
        exact ⟨ret_bool (by rw [HEQ.out]; exact (allTo_true (by rw [← HLEN.out]; exact hall.out)).symm), hbw⟩
  · have hln : ((T.len : Int) != (sorts.size : Int)) = true := by rw [bne_iff_ne]; omega
    have HEQ : Hid (sortsB (fun i => (T.kids i).eOk) (fun i => (T.kids i).sOk) T.kk T.len sorts = false) := by
      unfold Hid sortsB; simp [hlen]
    go_enter Tryd.func67, Tryd.ntmps67
    go_wp2
    go_ret
    exact ⟨ret_bool HEQ.out.symm, (HB _).out⟩
end Go.Proofs.YtjgbjahcnnjfpaaDoor
namespace Go.Proofs.YtjgbjahcnnjfpaaDoor
open Go.RowKit

theorem lvl_hit {s : ByteArray} {k : Nat} (h1 : 1 ≤ k) (h5 : k ≤ 5) (hb : ∀ j, 1 ≤ j → j < k → hasB (lvWords j) s = false) (h : hasB (lvWords k) s = true) : lvl s = k := by
  have : k = 1 ∨ k = 2 ∨ k = 3 ∨ k = 4 ∨ k = 5 := by omega
  unfold lvl
  rcases this with rfl | rfl | rfl | rfl | rfl
  · simp [h]
  · simp [h, hb 1 (by omega) (by omega)]
  · simp [h, hb 1 (by omega) (by omega), hb 2 (by omega) (by omega)]
  · simp [h, hb 1 (by omega) (by omega), hb 2 (by omega) (by omega), hb 3 (by omega) (by omega)]
  · simp [h, hb 1 (by omega) (by omega), hb 2 (by omega) (by omega), hb 3 (by omega) (by omega), hb 4 (by omega) (by omega)]
theorem lvl_none {s : ByteArray} (hb : ∀ j, 1 ≤ j → j < 6 → hasB (lvWords j) s = false) : lvl s = 0 := by
  unfold lvl
  simp [hb 1 (by omega) (by omega), hb 2 (by omega) (by omega), hb 3 (by omega) (by omega), hb 4 (by omega) (by omega), hb 5 (by omega) (by omega)]

set_option maxHeartbeats 4000000 in
theorem lvl_any (s : ByteArray) (w : World) : Calls Tryd.prog 89 #[.string s] w fun e w' => e = .returned (.int .i64 (lvl s : Int)) ∧ Below w.heap.size w w' := by
  go_enter Tryd.func89, Tryd.ntmps89
  go_wp2
  generalize hV : (((((((w.alloc (Obj.cells #[] 9)).alloc (Obj.cells #[Value.string { data := #[124, 124] }] 9)).alloc (Obj.cells #[Value.string { data := #[38, 38] }] 9)).alloc (Obj.cells #[Value.string { data := #[61, 61] }, Value.string { data := #[33, 61] }, Value.string { data := #[60] }, Value.string { data := #[60, 61] }, Value.string { data := #[62] }, Value.string { data := #[62, 61] }] 9)).alloc (Obj.cells #[Value.string { data := #[43] }, Value.string { data := #[45] }] 9)).alloc (Obj.cells #[Value.string { data := #[42] }, Value.string { data := #[47] }, Value.string { data := #[37] }] 9)).alloc
      (Obj.cells #[Value.slice (some { block := w.heap.size, off := 0 }) 0 0, Value.slice (some { block := w.heap.size + 1, off := 0 }) 1 1, Value.slice (some { block := w.heap.size + 1 + 1, off := 0 }) 1 1, Value.slice (some { block := w.heap.size + 1 + 1 + 1, off := 0 }) 6 6, Value.slice (some { block := w.heap.size + 1 + 1 + 1 + 1, off := 0 }) 2 2, Value.slice (some { block := w.heap.size + 1 + 1 + 1 + 1 + 1, off := 0 }) 3 3] 80)) = V
  have HBV : Hid (Below w.heap.size w V) := by
    unfold Hid
    rw [← hV]
    exact (((((((Below.refl _ w).alloc (Nat.le_refl _) _).alloc (by simp) _).alloc (by simp; omega) _).alloc (by simp; omega) _).alloc (by simp; omega) _).alloc (by simp; omega) _).alloc (by simp; omega) _
  have c1 : V.cell? ⟨w.heap.size + 1 + 1 + 1 + 1 + 1 + 1, 1, none⟩ = some (.slice (some ⟨w.heap.size + 1, 0, none⟩) 1 1) := by rw [← hV]; simp [go_sem]
  have c2 : V.cell? ⟨w.heap.size + 1 + 1 + 1 + 1 + 1 + 1, 2, none⟩ = some (.slice (some ⟨w.heap.size + 1 + 1, 0, none⟩) 1 1) := by rw [← hV]; simp [go_sem]
  have c3 : V.cell? ⟨w.heap.size + 1 + 1 + 1 + 1 + 1 + 1, 3, none⟩ = some (.slice (some ⟨w.heap.size + 1 + 1 + 1, 0, none⟩) 6 6) := by rw [← hV]; simp [go_sem]
  have c4 : V.cell? ⟨w.heap.size + 1 + 1 + 1 + 1 + 1 + 1, 4, none⟩ = some (.slice (some ⟨w.heap.size + 1 + 1 + 1 + 1, 0, none⟩) 2 2) := by rw [← hV]; simp [go_sem]
  have c5 : V.cell? ⟨w.heap.size + 1 + 1 + 1 + 1 + 1 + 1, 5, none⟩ = some (.slice (some ⟨w.heap.size + 1 + 1 + 1 + 1 + 1, 0, none⟩) 3 3) := by rw [← hV]; simp [go_sem]
  have R1 : Hid (StrRow V (w.heap.size + 1) (lvWords 1)) := by
    intro i hi
    have : i = 0 := by have : i < 1 := hi; omega
    rcases this with rfl
    rw [← hV]; simp [go_sem, lvWords]
  have R2 : Hid (StrRow V (w.heap.size + 1 + 1) (lvWords 2)) := by
    intro i hi
    have : i = 0 := by have : i < 1 := hi; omega
    rcases this with rfl
    rw [← hV]; simp [go_sem, lvWords]
  have R3 : Hid (StrRow V (w.heap.size + 1 + 1 + 1) (lvWords 3)) := by
    intro i hi
    have : i = 0 ∨ i = 1 ∨ i = 2 ∨ i = 3 ∨ i = 4 ∨ i = 5 := by have : i < 6 := hi; omega
    rw [← hV]
    rcases this with rfl | rfl | rfl | rfl | rfl | rfl <;> simp [go_sem, lvWords]
  have R4 : Hid (StrRow V (w.heap.size + 1 + 1 + 1 + 1) (lvWords 4)) := by
    intro i hi
    have : i = 0 ∨ i = 1 := by have : i < 2 := hi; omega
    rw [← hV]
    rcases this with rfl | rfl <;> simp [go_sem, lvWords]
  have R5 : Hid (StrRow V (w.heap.size + 1 + 1 + 1 + 1 + 1) (lvWords 5)) := by
    intro i hi
    have : i = 0 ∨ i = 1 ∨ i = 2 := by have : i < 3 := hi; omega
    rw [← hV]
    rcases this with rfl | rfl | rfl <;> simp [go_sem, lvWords]
  clear hV
  go_loop [4] (fun i => ∃ k : Nat, 1 ≤ k ∧ k ≤ 6 ∧ i = .int .i64 k ∧ Hid (∀ j, 1 ≤ j → j < k → hasB (lvWords j) s = false)) (fun i => 6 - (intOf i).toNat)
  case atStart => exact ⟨1, by omega, by omega, rfl, fun j h1 h2 => by omega⟩
  case round =>
    obtain ⟨k, h1, h6, rfl, hno⟩ := hrel
    have HS : ∀ k', k' = k → hasB (lvWords k') s = false → Hid (∀ j, 1 ≤ j → j < k' + 1 → hasB (lvWords j) s = false) := fun k' e h j h1 h2 => by
      by_cases hj : j = k'
      · rw [hj]; exact h
      · exact hno.out j h1 (by omega)
    have HH : ∀ k', k' = k → k' ≤ 5 → hasB (lvWords k') s = true → Hid (lvl s = k') := fun k' e h5 h => by
      subst e; exact lvl_hit h1 h5 hno.out h
    have HS := hid_mk HS
    have HH := hid_mk HH
    have hk : k = 1 ∨ k = 2 ∨ k = 3 ∨ k = 4 ∨ k = 5 ∨ k = 6 := by omega
    rcases hk with rfl | rfl | rfl | rfl | rfl | rfl
    · cases hh : hasB (lvWords 1) s
      all_goals have HX := hid_mk hh
      all_goals go_wp2_with (go_at_call 65; refine (has_any (lvWords 1) _ _ 1 _ R1.out rfl (by omega)).mono ?_; rw [HX.out]; rintro e w' ⟨rfl, rfl⟩)
      · go_round
        case rel => exact ⟨2, by omega, by omega, rfl, HS.out 1 rfl HX.out⟩
        case measure => simp [intOf]
      · go_ret
        exact ⟨ret_in (by rw [(HH.out 1 rfl (by omega) HX.out).out]; rfl), HBV.out⟩
    · cases hh : hasB (lvWords 2) s
      all_goals have HX := hid_mk hh
      all_goals go_wp2_with (go_at_call 65; refine (has_any (lvWords 2) _ _ 1 _ R2.out rfl (by omega)).mono ?_; rw [HX.out]; rintro e w' ⟨rfl, rfl⟩)
      · go_round
        case rel => exact ⟨3, by omega, by omega, rfl, HS.out 2 rfl HX.out⟩
        case measure => simp [intOf]
      · go_ret
        exact ⟨ret_in (by rw [(HH.out 2 rfl (by omega) HX.out).out]; rfl), HBV.out⟩
    · cases hh : hasB (lvWords 3) s
      all_goals have HX := hid_mk hh
      all_goals go_wp2_with (go_at_call 65; refine (has_any (lvWords 3) _ _ 6 _ R3.out rfl (by omega)).mono ?_; rw [HX.out]; rintro e w' ⟨rfl, rfl⟩)
      · go_round
        case rel => exact ⟨4, by omega, by omega, rfl, HS.out 3 rfl HX.out⟩
        case measure => simp [intOf]
      · go_ret
        exact ⟨ret_in (by rw [(HH.out 3 rfl (by omega) HX.out).out]; rfl), HBV.out⟩
    · cases hh : hasB (lvWords 4) s
      all_goals have HX := hid_mk hh
      all_goals go_wp2_with (go_at_call 65; refine (has_any (lvWords 4) _ _ 2 _ R4.out rfl (by omega)).mono ?_; rw [HX.out]; rintro e w' ⟨rfl, rfl⟩)
      · go_round
        case rel => exact ⟨5, by omega, by omega, rfl, HS.out 4 rfl HX.out⟩
        case measure => simp [intOf]
      · go_ret
        exact ⟨ret_in (by rw [(HH.out 4 rfl (by omega) HX.out).out]; rfl), HBV.out⟩
    · cases hh : hasB (lvWords 5) s
      all_goals have HX := hid_mk hh
      all_goals go_wp2_with (go_at_call 65; refine (has_any (lvWords 5) _ _ 3 _ R5.out rfl (by omega)).mono ?_; rw [HX.out]; rintro e w' ⟨rfl, rfl⟩)
      · go_round
        case rel => exact ⟨6, by omega, by omega, rfl, HS.out 5 rfl HX.out⟩
        case measure => simp [intOf]
      · go_ret
        exact ⟨ret_in (by rw [(HH.out 5 rfl (by omega) HX.out).out]; rfl), HBV.out⟩
    · go_wp2
      go_ret
      exact ⟨ret_in (by rw [lvl_none hno.out]; rfl), HBV.out⟩
end Go.Proofs.YtjgbjahcnnjfpaaDoor
namespace Go.Proofs.YtjgbjahcnnjfpaaDoor
open Go.RowKit

theorem len0_b {n : Nat} {b : Bool} (h : ((n : Int) == 0) = b) : decide (n = 0) = b := by
  subst h; rw [Bool.eq_iff_iff]; simp
theorem num_b {n m : Int} {b : Bool} (h : (n == m) = b) : decide (n = m) = b := by
  subst h; rw [Bool.eq_iff_iff]; simp
theorem nz_b {n : Int} {b : Bool} (h : (n != 0) = b) : decide (n = 0) = !b := by
  subst h; rw [Bool.eq_iff_iff]; simp
theorem lt2_b {n : Nat} {b : Bool} (h : decide ((n : Int) < 2) = b) : decide (n < 2) = b := by
  subst h; rw [Bool.eq_iff_iff]; simp; omega
theorem pos_b {n : Nat} {b : Bool} (h : decide (0 < (n : Int)) = b) : decide (0 < n) = b := by
  subst h; rw [Bool.eq_iff_iff]; simp
theorem bcell {W w1 : World} (hb : Below W.heap.size W w1) : (∀ b o, b < W.heap.size → w1.cell? ⟨b, o, none⟩ = W.cell? ⟨b, o, none⟩) ∧ (∀ b o, b < W.heap.size → w1.frozen? ⟨b, o, none⟩ = W.frozen? ⟨b, o, none⟩) :=
  ⟨fun b o h => hb.cell (p := ⟨b, o, none⟩) h, fun b o h => hb.frozen (p := ⟨b, o, none⟩) h⟩

end Go.Proofs.YtjgbjahcnnjfpaaDoor
