/- The law's own marks. -/
import Derived.Test.YtnpjnmkmjcpjmaaDoorSpLoop
import Derived.Test.YtnpjnmkmjcpjmaaDoorEqTok
import Derived.RegionTactic
import Derived.BigRegion
import Derived.Deep.RegionWith
import Derived.WalkSpells
import Derived.WalkSmall
import Derived.Laws.IdiomStrings
set_option linter.unusedVariables false
namespace Go.Proofs.YtnpjnmkmjcpjmaaDoor
open Go.RowKit

def digs (k : Nat) : List UInt8 := if h : k = 0 then [] else digs (k / 10) ++ [UInt8.ofNat (48 + k % 10)]
  termination_by k
  decreasing_by omega
def mtext (k : Nat) : ByteArray := bs (109 :: digs k)

theorem conv_one {w : World} (c : Nat) (hc : c < 256) : (convert 52 9 (.slice (some ⟨w.heap.size, 0, none⟩) 1 1)).run Tryd.prog (w.alloc (.cells #[.int .u8 (c : Int)] 5)) = .ok (.string (bs [UInt8.ofNat c])) (w.alloc (.cells #[.int .u8 (c : Int)] 5)) := by
  refine run_convert_bytes_back (P := Tryd.prog) _ _ _ 5 ⟨w.heap.size, 0, none⟩ 1 [UInt8.ofNat c] Tryd.underlying52 Tryd.underlying5 Tryd.underlying9 ?_
  intro j hj
  obtain rfl : j = 0 := by simpa using hj
  have : (UInt8.ofNat c).toNat = c := by simp; omega
  simp [Addr.add, this]
theorem append_bs (a b : List UInt8) : bs a ++ bs b = bs (a ++ b) := bytes_eq (by rw [bs_data]; simp [bs])
theorem digs_step (j : Nat) (h : 0 < j) : digs j = digs (j / 10) ++ [UInt8.ofNat (48 + j % 10)] := by
  rw [digs]
  rw [dif_neg (by omega)]
theorem digs_zero : digs 0 = [] := by rw [digs]; rfl

set_option maxHeartbeats 2000000 in
theorem mark_text (k : Nat) (hk : 1 ≤ k) (hk2 : k ≤ 100000) (w : World) : Calls Tryd.prog 31 #[.int .i64 k] w fun e w' => e = .returned (.string (mtext k)) ∧ Below w.heap.size w w' := by
  go_enter Tryd.func31, Tryd.ntmps31
  go_wp2
  go_loopw [0, 3] (fun i o wr => ∃ (j : Nat) (l : List UInt8), l.length + j ≤ k ∧ i = .int .i64 j ∧ o = .string (bs l) ∧ Hid (digs k = digs j ++ l) ∧ Below w.heap.size w wr) (fun i _ _ => (intOf i).toNat)
  case atStart => exact ⟨k, [], by simp, rfl, rfl, by simp [Hid], Below.refl _ _⟩
  case round =>
    obtain ⟨j, l, hj, rfl, rfl, hd, hb⟩ := hrel
    have hls : (bs l).size = l.length := bs_size l
    have hls2 : (bs l).size ≤ 100000 := by omega
    by_cases h0 : 0 < j
    · have hm : (j : Int) % 10 < 10 := by omega
      have hm0 : 0 ≤ (j : Int) % 10 := by omega
      have hcv := conv_one (w := wr) (48 + j % 10) (by omega)
      have hcast : (((48 + j % 10 : Nat)) : Int) = 48 + (j : Int) % 10 := by omega
      rw [hcast] at hcv
      have hap : bs [UInt8.ofNat (48 + j % 10)] ++ bs l = bs (UInt8.ofNat (48 + j % 10) :: l) := append_bs _ _
      have hx1 : (bs [UInt8.ofNat (48 + j % 10)]).size = 1 := bs_size _
      have HD : Hid (digs k = digs (j / 10) ++ (UInt8.ofNat (48 + j % 10) :: l)) := by
        unfold Hid; rw [hd.out, digs_step j h0]; simp
      have HC : Hid (((j / 10 : Nat) : Int) = (j : Int) / 10) := by unfold Hid; omega
      generalize UInt8.ofNat (48 + j % 10) = dg at *
      clear hcast
      go_wp2
      exact ⟨⟨j / 10, dg :: l, by simp; omega, by rw [HC.out], rfl, HD.out, hb.alloc hb.size _⟩, by simp [intOf]; omega⟩
    · obtain rfl : j = 0 := by omega
      have HD : Hid (mtext k = (⟨#[109]⟩ : ByteArray) ++ bs l) := by
        unfold Hid mtext; rw [hd.out, digs_zero]; exact (append_bs [109] l).symm
      go_wp2
      go_ret
      exact ⟨ret_str HD.out.symm, hb⟩

theorem mark_at (x : Int) (k : Nat) (hx : x = k) (hk : 1 ≤ k) (hk2 : k ≤ 100000) (w : World) : Calls Tryd.prog 31 #[.int .i64 x] w fun e w' => e = .returned (.string (mtext k)) ∧ Below w.heap.size w w' := by
  subst hx; exact mark_text k hk hk2 w

theorem bcell_b {W w1 : World} (hb : Below W.heap.size W w1) : (∀ b o, b < W.heap.size → w1.cell? ⟨b, o, none⟩ = W.cell? ⟨b, o, none⟩) ∧ True :=
  ⟨fun b o h => hb.cell (p := ⟨b, o, none⟩) h, trivial⟩
/-- The marks of the first i tokens. -/
def mtok (j : Nat) : Tok := ⟨((3 * j + 1 : Nat) : Int), mtext (3 * j + 2), 3 * j + 3⟩
def mtoks (i : Nat) : List Tok := (List.range i).map mtok
theorem mtoks_succ (i : Nat) : mtoks (i + 1) = mtoks i ++ [mtok i] := by simp [mtoks, List.range_succ]
theorem mtoks_len (i : Nat) : (mtoks i).length = i := by simp [mtoks]

theorem flat_append (a b : List Tok) : flat (a ++ b) = flat a ++ flat b := by simp [flat]
theorem flat_cons (t : Tok) (b : List Tok) : flat (t :: b) = .int .i64 t.kind :: .string t.text :: .int .i64 t.place :: flat b := rfl
theorem set_three (a b : List Tok) (t u : Tok) : (((flat (a ++ t :: b)).set (a.length * 3) (.int .i64 u.kind)).set (a.length * 3 + 1) (.string u.text)).set (a.length * 3 + 2) (.int .i64 u.place) = flat (a ++ u :: b) := by
  rw [flat_append, flat_append, flat_cons, flat_cons]
  have h := flat_len a
  rw [← h]
  simp [List.set_append_right]
theorem mid_step (ts : List Tok) (i : Nat) (hi : i < ts.length) : mtoks i ++ ts.drop i = mtoks i ++ ts[i] :: ts.drop (i + 1) ∧ mtoks (i + 1) ++ ts.drop (i + 1) = mtoks i ++ mtok i :: ts.drop (i + 1) := by
  refine ⟨by rw [List.drop_eq_getElem_cons hi], by rw [mtoks_succ]; simp⟩

set_option maxHeartbeats 4000000 in
theorem mark_toks (ts : List Tok) (B g cap : Nat) (w : World) (hl : ts.length ≤ 4000) (hB : B ≤ w.heap.size) (h : w.ownsRow B 37 3 (.slice (some ⟨g, 0, none⟩) ts.length cap) ts.length (flat ts)) :
    Calls Tryd.prog 16 #[.slice (some ⟨g, 0, none⟩) ts.length cap, .int .i64 1] w fun e w' => e = .returned (.int .i64 ((3 * ts.length + 1 : Nat) : Int)) ∧ w'.ownsRow B 37 3 (.slice (some ⟨g, 0, none⟩) ts.length cap) ts.length (flat (mtoks ts.length)) ∧ Below B w w' := by
  have HO := (show Hid (w.ownsRow _ _ _ _ _ _) from h)
  have hgB := (h.lt g rfl).1
  clear h
  go_enter Tryd.func16, Tryd.ntmps16
  go_wp2
  go_loopw [1, 5] (fun k i wr => ∃ j : Nat, j ≤ ts.length ∧ k = .int .i64 (3 * (j : Int) + 1) ∧ i = .int .i64 j ∧ Hid (wr.ownsRow B 37 3 (.slice (some ⟨g, 0, none⟩) ts.length cap) ts.length (flat (mtoks j ++ ts.drop j))) ∧ Below B w wr) (fun _ i _ => ts.length - (intOf i).toNat)
  case atStart => exact ⟨0, by omega, rfl, rfl, by simpa [Hid, mtoks] using HO.out, Below.refl _ _⟩
  case round =>
    obtain ⟨j, hj, rfl, rfl, ho, hb⟩ := hrel
    have hbz := hb.size
    by_cases hlt : j < ts.length
    · have ho2 : wr.ownsRow B 37 3 (.slice (some ⟨g, 0, none⟩) ts.length cap) ts.length (flat (mtoks j ++ ts[j] :: ts.drop (j + 1))) := by rw [← (mid_step ts j hlt).1]; exact ho.out
      have hlen : (flat (mtoks j ++ ts[j] :: ts.drop (j + 1))).length = ts.length * 3 := ho2.1
      have k0 : wr.cell? ⟨g, j * 3, none⟩ = some ((flat (mtoks j ++ ts[j] :: ts.drop (j + 1)))[j * 3]'(by omega)) := by rw [ho2.cellAt _ (by omega), List.getElem?_eq_getElem]
      have f0 := ho2.frozenAt (j * 3)
      have o1 := ho2.stored (j * 3) (.int .i64 (3 * (j : Int) + 1))
      generalize (flat (mtoks j ++ ts[j] :: ts.drop (j + 1)))[j * 3]'(by omega) = z0 at k0
      have HO1 := (show Hid (World.ownsRow _ _ _ _ _ _ _) from o1.1)
      have HG1 := (show Hid (wr.grownBy _ _) from o1.2)
      clear o1
      clear ho ho2
      go_wp2_with (go_at_call 31; refine (mark_at _ (3 * j + 2) (by omega) (by omega) (by omega) _).mono ?_; rintro e w1 ⟨rfl, hb1⟩; have o2 := own_later HO1.out hb1; have k1 : w1.cell? ⟨g, j * 3 + 1, none⟩ = some (((flat (mtoks j ++ ts[j] :: ts.drop (j + 1))).set (j * 3) (.int .i64 (3 * (j : Int) + 1)))[j * 3 + 1]'(by rw [List.length_set]; omega)) := (by rw [o2.cellAt _ (by omega), List.getElem?_eq_getElem]); have k2 : w1.cell? ⟨g, j * 3 + 2, none⟩ = some (((flat (mtoks j ++ ts[j] :: ts.drop (j + 1))).set (j * 3) (.int .i64 (3 * (j : Int) + 1)))[j * 3 + 2]'(by rw [List.length_set]; omega)) := (by rw [o2.cellAt _ (by omega), List.getElem?_eq_getElem]); have f1 := o2.frozenAt (j * 3 + 1); have f2 := o2.frozenAt (j * 3 + 2); have HO2 := (show Hid (w1.ownsRow _ _ _ _ _ _) from o2); clear o2; generalize ((flat (mtoks j ++ ts[j] :: ts.drop (j + 1))).set (j * 3) (.int .i64 (3 * (j : Int) + 1)))[j * 3 + 1]'(by rw [List.length_set]; omega) = z1 at k1; generalize ((flat (mtoks j ++ ts[j] :: ts.drop (j + 1))).set (j * 3) (.int .i64 (3 * (j : Int) + 1)))[j * 3 + 2]'(by rw [List.length_set]; omega) = z2 at k2; have hz1 := hb1.size)
      have e : (((flat (mtoks j ++ ts[j] :: ts.drop (j + 1))).set (j * 3) (.int .i64 (3 * (j : Int) + 1))).set (j * 3 + 1) (.string (mtext (3 * j + 2)))).set (j * 3 + 2) (.int .i64 (3 * (j : Int) + 1 + 1 + 1)) = flat (mtoks (j + 1) ++ ts.drop (j + 1)) := by
        rw [(mid_step ts j hlt).2]
        have h3 := set_three (mtoks j) (ts.drop (j + 1)) ts[j] (mtok j)
        rw [mtoks_len] at h3
        have e1 : (mtok j).kind = 3 * (j : Int) + 1 := by show ((3 * j + 1 : Nat) : Int) = _; omega
        have e2 : ((mtok j).place : Int) = 3 * (j : Int) + 1 + 1 + 1 := by show ((3 * j + 3 : Nat) : Int) = _; omega
        rw [e1, e2] at h3
        exact h3
      have o4 := ((HO2.out.stored (j * 3 + 1) (.string (mtext (3 * j + 2)))).1.stored (j * 3 + 2) (.int .i64 (3 * (j : Int) + 1 + 1 + 1))).1
      rw [e] at o4
      have hbz2 : w.heap.size ≤ (wr.setCell ⟨g, j * 3, none⟩ (.int .i64 (3 * (j : Int) + 1))).heap.size := by have := HG1.out.size; omega
      refine ⟨⟨j + 1, by omega, by go_num, by go_num, o4, ?_⟩, by simp [intOf]; omega⟩
      exact (((hb.setCell (p := ⟨g, j * 3, none⟩) hgB _).trans (hb1.mono (by omega))).setCell (p := ⟨g, j * 3 + 1, none⟩) hgB _).setCell (p := ⟨g, j * 3 + 2, none⟩) hgB _
    · go_wp2
      go_ret
      have hjn : j = ts.length := by omega
      refine ⟨ret_int (by omega), ?_, hb⟩
      have := ho.out
      rw [hjn, List.drop_of_length_le (Nat.le_refl _), List.append_nil] at this
      exact this

theorem mtoks_at (n j : Nat) (h : j < n) (h2 : j < (mtoks n).length) : (mtoks n)[j] = mtok j := by simp [mtoks]

set_option maxHeartbeats 4000000 in
theorem held_toks (n B g cap : Nat) (w : World) (hl : n ≤ 4000) (h : w.ownsRow B 37 3 (.slice (some ⟨g, 0, none⟩) n cap) n (flat (mtoks n))) :
    Calls Tryd.prog 17 #[.slice (some ⟨g, 0, none⟩) n cap, .int .i64 1] w fun e w' => e = .returned (.int .i64 ((3 * n + 1 : Nat) : Int)) ∧ Below w.heap.size w w' := by
  have h' : w.ownsRow B 37 3 (.slice (some ⟨g, 0, none⟩) (mtoks n).length cap) (mtoks n).length (flat (mtoks n)) := by rw [mtoks_len]; exact h
  have HO := (show Hid (w.ownsRow _ _ _ _ _ _) from h')
  clear h h'
  go_enter Tryd.func17, Tryd.ntmps17
  go_wp2
  go_loopw [1, 5] (fun k i wr => ∃ j : Nat, j ≤ n ∧ k = .int .i64 (3 * (j : Int) + 1) ∧ i = .int .i64 j ∧ Below w.heap.size w wr) (fun _ i _ => n - (intOf i).toNat)
  case atStart => exact ⟨0, by omega, rfl, rfl, Below.refl _ _⟩
  case round =>
    obtain ⟨j, hj, rfl, rfl, hb⟩ := hrel
    by_cases hlt : j < n
    · obtain ⟨k0, k1, k2⟩ := flat_cells (own_later HO.out hb) j (by rw [mtoks_len]; exact hlt)
      rw [mtoks_at n j hlt] at k0 k1 k2
      have e1 : (mtok j).kind = 3 * (j : Int) + 1 := by show ((3 * j + 1 : Nat) : Int) = _; omega
      have e2 : ((mtok j).place : Int) = 3 * (j : Int) + 1 + 1 + 1 := by show ((3 * j + 3 : Nat) : Int) = _; omega
      have e3 : (mtok j).text = mtext (3 * j + 2) := rfl
      rw [e1] at k0
      rw [e3] at k1
      rw [e2] at k2
      clear e1 e2 e3
      have hgl : g < wr.heap.size := ((own_later HO.out hb).lt g rfl).2
      generalize hx : mtext (3 * j + 2) = x at k1
      have HX : Hid (mtext (3 * j + 2) = x) := hx
      clear hx
      go_wp2_with fail
      go_region_with (go_at_call 31; refine (mark_at _ (3 * j + 2) (by omega) (by omega) (by omega) _).mono ?_; rw [HX.out]; rintro e w1 ⟨rfl, hb1⟩; have k1' : w1.cell? ⟨g, j * 3 + 1, none⟩ = some (.string x) := (hb1.cell (p := ⟨g, j * 3 + 1, none⟩) hgl).trans k1; have k2' : w1.cell? ⟨g, j * 3 + 2, none⟩ = some (.int .i64 (3 * (j : Int) + 1 + 1 + 1)) := (hb1.cell (p := ⟨g, j * 3 + 2, none⟩) hgl).trans k2)
      all_goals go_wp2
      all_goals exact ⟨⟨j + 1, by omega, by go_num, by go_num, hb.drew.trans (hb1.mono hb.size)⟩, by simp [intOf]; omega⟩
    · go_wp2
      go_ret
      exact ⟨ret_int (by omega), hb⟩

theorem mark_none (a : Option Addr) (c : Nat) (w : World) : Calls Tryd.prog 16 #[.slice a 0 c, .int .i64 1] w fun e w' => e = .returned (.int .i64 1) ∧ w' = w := by
  go_enter Tryd.func16, Tryd.ntmps16
  go_wp2
  go_loop [1, 5] (fun k i => i = .int .i64 0 ∧ k = .int .i64 1) (fun _ _ => 0)
  case atStart => exact ⟨rfl, rfl⟩
  case round =>
    obtain ⟨rfl, rfl⟩ := hrel
    go_wp2
    go_ret
    exact ⟨rfl, rfl⟩
theorem held_none (a : Option Addr) (c : Nat) (w : World) : Calls Tryd.prog 17 #[.slice a 0 c, .int .i64 1] w fun e w' => e = .returned (.int .i64 1) ∧ w' = w := by
  go_enter Tryd.func17, Tryd.ntmps17
  go_wp2
  go_loop [1, 5] (fun k i => i = .int .i64 0 ∧ k = .int .i64 1) (fun _ _ => 0)
  case atStart => exact ⟨rfl, rfl⟩
  case round =>
    obtain ⟨rfl, rfl⟩ := hrel
    go_wp2
    go_ret
    exact ⟨rfl, rfl⟩

theorem mark_any (ts : List Tok) (B : Nat) (v : Value) (w : World) (hl : ts.length ≤ 4000) (hB : B ≤ w.heap.size) (h : w.ownsRow B 37 3 v ts.length (flat ts)) :
    Calls Tryd.prog 16 #[v, .int .i64 1] w fun e w' => e = .returned (.int .i64 ((3 * ts.length + 1 : Nat) : Int)) ∧ w'.ownsRow B 37 3 v ts.length (flat (mtoks ts.length)) ∧ Below B w w' := by
  rcases own_any h with ⟨a, c, rfl, h0⟩ | ⟨g, c, rfl⟩
  · refine (mark_none a c w).mono ?_
    rintro e w' ⟨rfl, rfl⟩
    refine ⟨by rw [h0]; rfl, ?_, Below.refl _ _⟩
    have : ts = [] := List.eq_nil_of_length_eq_zero h0
    subst this
    exact h
  · exact mark_toks ts B g c w hl hB h
theorem held_any (n B : Nat) (v : Value) (w : World) (hl : n ≤ 4000) (h : w.ownsRow B 37 3 v n (flat (mtoks n))) :
    Calls Tryd.prog 17 #[v, .int .i64 1] w fun e w' => e = .returned (.int .i64 ((3 * n + 1 : Nat) : Int)) ∧ Below w.heap.size w w' := by
  rcases own_any h with ⟨a, c, rfl, h0⟩ | ⟨g, c, rfl⟩
  · refine (held_none a c w).mono ?_
    rintro e w' ⟨rfl, rfl⟩
    exact ⟨by rw [h0]; rfl, Below.refl _ _⟩
  · exact held_toks n B g c w hl h
end Go.Proofs.YtnpjnmkmjcpjmaaDoor
