/- The program's test of a list of kids against a form. -/
import Derived.Test.YtokhcdkhcbcljadDoorImLeaf
import Derived.Deep.QuietTactic
import Derived.BigQuiet
import Derived.Lib.Strings
set_option linter.unusedVariables false
namespace Go.Proofs.YtokhcdkhcbcljadDoor
open Go.RowKit

/-- How many kids from d on are of a letter's sort, m at most. -/
def twF (kk : Nat → Int) (c : Nat) : Nat → Nat → Nat
  | 0, _ => 0
  | m + 1, d => if ofB (kk d) c then twF kk c m (d + 1) + 1 else 0
def fitsF (kk : Nat → Int) (len : Nat) : Nat → List UInt8 → Nat → Bool
  | 0, _, d => decide (d = len)
  | f + 1, [], d => decide (d = len)
  | f + 1, c :: r, d =>
    if r.head? = some 63 then fitsF kk len f r.tail (d + twF kk c.toNat (min 1 (len - d)) d)
    else if r.head? = some 42 then fitsF kk len f r.tail (d + twF kk c.toNat (len - d) d)
    else if twF kk c.toNat (min 1 (len - d)) d < 1 then false else fitsF kk len f r (d + twF kk c.toNat (min 1 (len - d)) d)

theorem size_list' (s : ByteArray) : s.data.toList.length = s.size := rfl
theorem ext_list (s : ByteArray) (a b : Nat) : (s.extract a b).data.toList = (s.data.toList.drop a).take (b - a) := Lib.extract_data s a b
theorem tail_list (s : ByteArray) : (s.extract 1 s.size).data.toList = s.data.toList.tail := by
  rw [ext_list, List.take_of_length_le (by rw [List.length_drop, size_list']; omega), List.drop_one]
theorem size_list (s : ByteArray) : s.data.toList.length = s.size := rfl
theorem empty_list (s : ByteArray) : s.toList.isEmpty = s.data.toList.isEmpty := by rw [ByteArray.toList_eq]

set_option maxHeartbeats 1000000 in
theorem hp_slite (s : ByteArray) (c : UInt8) (w : World) (hs : s.size ≤ 100) :
    Calls Tryd.prog 50 #[.string s, .string ⟨#[c]⟩] w fun e w' => e = .returned (.bool (decide (s.data.toList.head? = some c))) ∧ w' = w := by
  have HL := hid_mk (ext_list s 0 1)
  have HZ := hid_mk (size_list s)
  go_enter Tryd.func50, Tryd.ntmps50
  go_wp2
  all_goals go_ret
  · refine ⟨ret_bool ?_, rfl⟩
    rw [ByteArray.toList_eq, HL.out]
    cases h : s.data.toList with
    | nil => rw [Bool.eq_iff_iff]; simp
    | cons x l => rw [Bool.eq_iff_iff]; simp
  · refine ⟨ret_bool ?_, rfl⟩
    cases h : s.data.toList with
    | nil => simp
    | cons x l => have := HZ.out; rw [h] at this; simp at this; omega
theorem hp_any (s : ByteArray) (c : UInt8) (w : World) (hs : s.size ≤ 100) :
    Calls Tryd.prog 40 #[.string s, .string ⟨#[c]⟩] w fun e w' => e = .returned (.bool (decide (s.data.toList.head? = some c))) ∧ w' = w := by
  have HC := hid_mk (fun w => hp_slite s c w hs)
  go_enter Tryd.func40, Tryd.ntmps40
  go_wp2_with (go_at_call 50; refine (HC.out _).mono ?_; rintro e w' ⟨rfl, rfl⟩)
  go_ret
  exact ⟨rfl, rfl⟩

theorem tw_of {kk : Nat → Int} {c : Nat} : ∀ {m t d : Nat}, (∀ i, i < t → ofB (kk (d + i)) c = true) → t ≤ m → (t = m ∨ ofB (kk (d + t)) c = false) → twF kk c m d = t
  | 0, t, d, _, h, _ => by simp [twF]; omega
  | m + 1, 0, d, _, _, h => by
    have h' : ofB (kk d) c = false := by rcases h with h | h; omega; simpa using h
    simp [twF, h']
  | m + 1, t + 1, d, ha, hm, h => by
    have h0 : ofB (kk d) c = true := by simpa using ha 0 (by omega)
    have := tw_of (kk := kk) (c := c) (m := m) (t := t) (d := d + 1) (fun i hi => by have := ha (i + 1) (by omega); rwa [show d + (i + 1) = d + 1 + i by omega] at this) (by omega)
      (by rcases h with h | h
          · exact .inl (by omega)
          · exact .inr (by rwa [show d + (t + 1) = d + 1 + t by omega] at h))
    simp [twF, h0, this]
theorem fits_cons {kk : Nat → Int} {len d : Nat} {s : ByteArray} {c : UInt8} {r : List UInt8} (h : s.data.toList = c :: r) : fitsF kk len s.size s.data.toList d =
    if r.head? = some 63 then fitsF kk len r.length r.tail (d + twF kk c.toNat (min 1 (len - d)) d)
    else if r.head? = some 42 then fitsF kk len r.length r.tail (d + twF kk c.toNat (len - d) d)
    else if twF kk c.toNat (min 1 (len - d)) d < 1 then false else fitsF kk len r.length r (d + twF kk c.toNat (min 1 (len - d)) d) := by
  have hz : s.size = r.length + 1 := by rw [← size_list', h]; rfl
  rw [hz, h]; rfl
theorem fits_more {kk : Nat → Int} {len : Nat} : ∀ (f : Nat) (l : List UInt8) (d : Nat), l.length ≤ f → fitsF kk len f l d = fitsF kk len l.length l d
  | 0, l, d, h => by
    have : l = [] := List.eq_nil_of_length_eq_zero (by omega)
    subst this; rfl
  | f + 1, [], d, _ => rfl
  | f + 1, c :: r, d, h => by
    simp only [List.length_cons] at h ⊢
    simp only [fitsF]
    rw [fits_more f r.tail _ (by rw [List.length_tail]; omega), fits_more f r.tail _ (by rw [List.length_tail]; omega), fits_more f r _ (by omega),
      fits_more r.length r.tail _ (by rw [List.length_tail]; omega), fits_more r.length r.tail _ (by rw [List.length_tail]; omega)]

theorem below_drewN (B : Nat) (w : World) (n : Nat) : Below B w (w.drewN n) := ⟨rfl, rfl, rfl, Nat.le_refl _, fun _ _ => rfl⟩

/-- What is left of a list of kids, d of them passed. -/
def Rest (w : World) (kk : Nat → Int) (len g off d : Nat) (v : Value) : Prop :=
  ∃ a cap, v = .slice a (len - d) cap ∧ len - d ≤ cap ∧ cap ≤ 9223372036854775807 ∧ (d < len → a = some ⟨g, off + d * 4, none⟩) ∧ ∀ i, d ≤ i → i < len → w.cell? ⟨g, off + i * 4, none⟩ = some (.int .i64 (kk i))

theorem rest_next {w : World} {kk : Nat → Int} {len g off d t cap : Nat} {a : Option Addr} (hc : ∀ i, d ≤ i → i < len → w.cell? ⟨g, off + i * 4, none⟩ = some (.int .i64 (kk i))) (h1 : t ≤ len - d) (h2 : len - d ≤ cap) (h3 : cap ≤ 9223372036854775807)
    (ha : d + t < len → a = some ⟨g, off + d * 4 + t * 4, none⟩) : Rest w kk len g off (d + t) (.slice a (len - d - t) (cap - t)) := by
  refine ⟨a, cap - t, by rw [show len - (d + t) = len - d - t by omega], by omega, by omega, fun h => ?_, fun i hi => hc i (by omega)⟩
  rw [ha h, show off + (d + t) * 4 = off + d * 4 + t * 4 by omega]
theorem rest_any {w : World} {kk : Nat → Int} {len g off d t l cap : Nat} {a : Option Addr} (hc : ∀ i, d ≤ i → i < len → w.cell? ⟨g, off + i * 4, none⟩ = some (.int .i64 (kk i))) (hl : l = len - (d + t)) (h2 : l ≤ cap) (h3 : cap ≤ 9223372036854775807)
    (ha : d + t < len → a = some ⟨g, off + d * 4 + t * 4, none⟩) : Rest w kk len g off (d + t) (.slice a l cap) := by
  refine ⟨a, cap, by rw [hl], by omega, by omega, fun h => ?_, fun i hi => hc i (by omega)⟩
  rw [ha h, show off + (d + t) * 4 = off + d * 4 + t * 4 by omega]
theorem rest_end {w : World} {kk : Nat → Int} {len g off l cap : Nat} {a : Option Addr} (hl : l = 0) (h3 : cap ≤ 9223372036854775807) : Rest w kk len g off len (.slice a l cap) := by
  subst hl
  exact ⟨a, cap, by rw [Nat.sub_self], by omega, h3, fun h => by omega, fun i h1 h2 => by omega⟩
theorem fits_of {kk : Nat → Int} {len d : Nat} {s : ByteArray} {l : List UInt8} (h : s.data.toList = l) : fitsF kk len s.size s.data.toList d = fitsF kk len l.length l d := by
  subst h; rfl

set_option maxHeartbeats 4000000 in
set_option maxRecDepth 100000 in
theorem list_any (kk : Nat → Int) (len g off : Nat) (form : ByteArray) (v : Value) (w : World) (hl : len ≤ 9223372036854775807) (hs : form.size ≤ 100) (hg : g < w.heap.size) (hr : Rest w kk len g off 0 v) :
    Calls Tryd.prog 64 #[v, .string form] w fun e w' => e = .returned (.bool (fitsF kk len form.size form.data.toList 0)) ∧ Below w.heap.size w w' := by
  obtain ⟨a0, cap0, rfl, hrest⟩ := hr
  have HR := hid_mk hrest
  generalize hres : fitsF kk len form.size form.data.toList 0 = res
  have HRES := hid_mk hres
  clear hrest hres
  go_enter Tryd.func64, Tryd.ntmps64
  go_wp2
  go_loopg [0, 1] form.size (fun gk kids f wr => ∃ (d : Nat) (s : ByteArray), gk = s.size ∧ s.size ≤ 100 ∧ f = .string s ∧ d ≤ len ∧ Rest w kk len g off d kids ∧ Hid (fitsF kk len s.size s.data.toList d = res) ∧ Below w.heap.size w wr)
  case atStart => exact ⟨0, form, rfl, hs, rfl, by omega, ⟨a0, cap0, rfl, HR.out⟩, HRES.out, Below.refl _ _⟩
  case round =>
    obtain ⟨d, s, hgk, hs1, rfl, hd, ⟨a, cap, rfl, hlc, hcm, ha, hcell⟩, hfit, hb⟩ := hrel
    clear HR HRES hs
    cases hz : s.toList.isEmpty
    · obtain ⟨c, r, hl0⟩ : ∃ c r, s.data.toList = c :: r := by
        cases h : s.data.toList with
        | nil => rw [empty_list, h] at hz; cases hz
        | cons c r => exact ⟨c, r, rfl⟩
      have hsz : s.size = r.length + 1 := by rw [← size_list', hl0]; rfl
      have h1s : (1 : Int) ≤ (s.size : Int) := by omega
      have h0s : 0 < s.size := by omega
      have hc0 : s[0]'h0s = c := by
        have : s.data.toList[0]'(by rw [hl0]; simp) = c := by simp [hl0]
        rw [← this]; rfl
      subst hc0
      have HL1 : Hid ((s.extract 1 s.size).data.toList = r) := by unfold Hid; rw [tail_list, hl0]; rfl
      have HFIT := hid_mk (hfit.out ▸ fits_cons hl0)
      have HL0 := hid_mk hl0
      have HSZ := hid_mk hsz
      have HGK := hid_mk hgk
      clear hfit hl0 hsz hgk
      have hhp : ∀ (x : UInt8) (W : World), Hid (Calls Tryd.prog 40 #[.string (s.extract 1 s.size), .string ⟨#[x]⟩] W fun e w' => e = .returned (.bool (decide (r.head? = some x))) ∧ w' = W) := fun x W => by
        have := hp_any (s.extract 1 s.size) x W (by rw [← size_list', HL1.out]; have := HSZ.out; omega)
        rw [HL1.out] at this
        exact this
      by_cases q63 : r.head? = some 63
      · have HQ := hid_mk q63
        clear q63
        go_wp2_with (go_at_call 40; refine (hhp _ _).out.mono ?_; rw [decide_eq_true HQ.out]; rintro e _ ⟨rfl, rfl⟩)
        have HFT : Hid (res = fitsF kk len r.length r.tail (d + twF kk s[0].toNat (min 1 (len - d)) d)) := by have := HFIT.out; rw [if_pos HQ.out] at this; exact this
        have hrz : 1 ≤ r.length := by
          have := HQ.out
          cases r with
          | nil => cases this
          | cons => simp
        have HT2 : Hid (((s.extract 1 s.size).extract 1 (s.extract 1 s.size).size).data.toList = r.tail) := by unfold Hid; rw [tail_list, HL1.out]
        have hz1 : (s.extract 1 s.size).size = r.length := by rw [← size_list', HL1.out]
        have hi1 : (1 : Int) ≤ ((s.extract 1 s.size).size : Int) := by omega
        have HZ1 := hid_mk hz1
        have HS2 : Hid (((s.extract 1 s.size).extract 1 (s.extract 1 s.size).size).size + 2 ≤ s.size ∧ s.size ≤ 100) := by
          unfold Hid; rw [← size_list', HT2.out, List.length_tail]; have := HSZ.out; omega
        clear hz1 HFIT
        generalize s.extract 1 s.size = s1 at *
        go_quiet (fail)
        go_wp2
        clear hhp HL0
        have hmn : ∃ m : Nat, m = min 1 (len - d) := ⟨_, rfl⟩
        obtain ⟨m, hm⟩ := hmn
        have hml : m ≤ len - d := by omega
        have hm1 : (min 1 ((len - d : Nat) : Int) : Int) = (m : Int) := by omega
        rw [← hm] at HFT
        have HM := hid_mk hm
        clear hm
        go_loopg [8] m (fun k2 i wx => ∃ (t : Nat), k2 = m - t ∧ t ≤ m ∧ i = .int .i64 t ∧ Hid (∀ i, i < t → ofB (kk (d + i)) s[0].toNat = true) ∧ Below w.heap.size w wx)
        case atStart => exact ⟨0, by omega, by omega, rfl, (fun i hi => by omega), (show Below w.heap.size w _ from (hb.trans (show Below w.heap.size _ _ from below_drewN _ _ _)))⟩
        case round =>
          obtain ⟨t, hgk2, ht, rfl, hall, hbx⟩ := hrel
          have HG2 := hid_mk hgk2
          clear hgk2
          have leave : ∀ hstop : t = m ∨ ofB (kk (d + t)) s[0].toNat = false, twF kk s[0].toNat m d = t := fun hstop => tw_of hall.out ht hstop
          have HLV := hid_mk leave
          clear leave
          by_cases hlt : t < m
          · obtain rfl := ha (by omega)
            have hcl : wr.cell? ⟨g, off + d * 4 + t * 4, none⟩ = some (.int .i64 (kk (d + t))) := by
              rw [hbx.cell (p := ⟨g, _, none⟩) hg, show off + d * 4 + t * 4 = off + (d + t) * 4 by omega]; exact hcell (d + t) (by omega) (by omega)
            have HY : Hid (ofB (kk (d + t)) s[0].toNat = true → ∀ i, i < t + 1 → ofB (kk (d + i)) s[0].toNat = true) := fun h i hi => by
              by_cases e : i = t
              · subst e; exact h
              · exact hall.out i (by omega)
            clear hall
            cases ho : ofB (kk (d + t)) s[0].toNat
            all_goals have HO := hid_mk ho
            all_goals clear ho
            all_goals go_wp2_with (go_at_call 70; refine (isof_any _ _ _).mono ?_; rw [HO.out]; rintro e _ ⟨rfl, rfl⟩)
            · go_roundg (s1.extract 1 s1.size).size
              case rel => exact ⟨d + t, _, rfl, by have := HS2.out; omega, rfl, by omega, rest_next hcell (by omega) (by omega) (by omega) (fun h => by first | rfl | omega), (by rw [fits_of HT2.out, HFT.out, HLV.out (.inr HO.out)]; exact (fits_more _ _ _ (by rw [List.length_tail]; omega)).symm), hbx⟩
              case measure => have := HS2.out; have := HGK.out; omega
            · go_roundg (m - (t + 1))
              case rel => exact ⟨t + 1, rfl, by omega, by go_num, HY.out HO.out, hbx⟩
              case measure => have := HG2.out; omega
          · have htm : t = m := by omega
            have HLT := HLV.out (.inl htm)
            have HLTH := hid_mk HLT
            clear HLT HLV hall
            by_cases hdl : d < len
            · obtain rfl := ha hdl
              subst htm
              go_wp2
              · go_roundg (s1.extract 1 s1.size).size
                case rel => exact ⟨d + t, _, rfl, by have := HS2.out; omega, rfl, by omega, rest_any hcell (by omega) (by omega) (by omega) (fun h => by first | rfl | omega), (by rw [fits_of HT2.out, HFT.out, HLTH.out]; exact (fits_more _ _ _ (by rw [List.length_tail]; omega)).symm), hbx⟩
                case measure => have := HS2.out; have := HGK.out; omega
              · go_roundg (s1.extract 1 s1.size).size
                case rel => exact ⟨d + t, _, rfl, by have := HS2.out; omega, rfl, by omega, rest_any hcell (by omega) (by omega) (by omega) (fun h => by first | rfl | omega), (by rw [fits_of HT2.out, HFT.out, HLTH.out]; exact (fits_more _ _ _ (by rw [List.length_tail]; omega)).symm), hbx⟩
                case measure => have := HS2.out; have := HGK.out; omega
            · obtain rfl : d = len := by omega
              obtain rfl : m = 0 := by omega
              obtain rfl : t = 0 := by omega
              clear htm
              cases a
              · go_wp2
                go_roundg (s1.extract 1 s1.size).size
                case rel => exact ⟨d, _, rfl, by have := HS2.out; omega, rfl, by omega, rest_end (by omega) (by omega), (by rw [fits_of HT2.out, HFT.out, HLTH.out, Nat.add_zero]; exact (fits_more _ _ _ (by rw [List.length_tail]; omega)).symm), hbx⟩
                case measure => have := HS2.out; have := HGK.out; omega
              · go_wp2
                go_roundg (s1.extract 1 s1.size).size
                case rel => exact ⟨d, _, rfl, by have := HS2.out; omega, rfl, by omega, rest_end (by omega) (by omega), (by rw [fits_of HT2.out, HFT.out, HLTH.out, Nat.add_zero]; exact (fits_more _ _ _ (by rw [List.length_tail]; omega)).symm), hbx⟩
                case measure => have := HS2.out; have := HGK.out; omega
      by_cases q42 : r.head? = some 42
      · have HQ := hid_mk q42
        have HQ0 := hid_mk q63
        clear q42 q63
        have P1 : Hid True := trivial
        go_wp2_with (go_at_call 40; first | (clear P1; refine (hhp 63 _).out.mono ?_; rw [decide_eq_false HQ0.out]; rintro e _ ⟨rfl, rfl⟩) | (refine (hhp 42 _).out.mono ?_; rw [decide_eq_true HQ.out]; rintro e _ ⟨rfl, rfl⟩))
        have HFT : Hid (res = fitsF kk len r.length r.tail (d + twF kk s[0].toNat (len - d) d)) := by have := HFIT.out; rw [if_neg HQ0.out, if_pos HQ.out] at this; exact this
        have hrz : 1 ≤ r.length := by
          have := HQ.out
          cases r with
          | nil => cases this
          | cons => simp
        have HT2 : Hid (((s.extract 1 s.size).extract 1 (s.extract 1 s.size).size).data.toList = r.tail) := by unfold Hid; rw [tail_list, HL1.out]
        have hz1 : (s.extract 1 s.size).size = r.length := by rw [← size_list', HL1.out]
        have hi1 : (1 : Int) ≤ ((s.extract 1 s.size).size : Int) := by omega
        have HZ1 := hid_mk hz1
        have HS2 : Hid (((s.extract 1 s.size).extract 1 (s.extract 1 s.size).size).size + 2 ≤ s.size ∧ s.size ≤ 100) := by
          unfold Hid; rw [← size_list', HT2.out, List.length_tail]; have := HSZ.out; omega
        clear hz1 HFIT
        generalize s.extract 1 s.size = s1 at *
        go_quiet (fail)
        go_wp2
        clear hhp HL0
        have hmn : ∃ m : Nat, m = len - d := ⟨_, rfl⟩
        obtain ⟨m, hm⟩ := hmn
        have hml : m ≤ len - d := by omega
        have hml2 : len - d ≤ m := by omega
        rw [← hm] at HFT
        have HM := hid_mk hm
        clear hm
        go_loopg [8] m (fun k2 i wx => ∃ (t : Nat), k2 = m - t ∧ t ≤ m ∧ i = .int .i64 t ∧ Hid (∀ i, i < t → ofB (kk (d + i)) s[0].toNat = true) ∧ Below w.heap.size w wx)
        case atStart => exact ⟨0, by omega, by omega, rfl, (fun i hi => by omega), (show Below w.heap.size w _ from (hb.trans (show Below w.heap.size _ _ from below_drewN _ _ _)))⟩
        case round =>
          obtain ⟨t, hgk2, ht, rfl, hall, hbx⟩ := hrel
          have HG2 := hid_mk hgk2
          clear hgk2
          have leave : ∀ hstop : t = m ∨ ofB (kk (d + t)) s[0].toNat = false, twF kk s[0].toNat m d = t := fun hstop => tw_of hall.out ht hstop
          have HLV := hid_mk leave
          clear leave
          by_cases hlt : t < m
          · obtain rfl := ha (by omega)
            have hcl : wr.cell? ⟨g, off + d * 4 + t * 4, none⟩ = some (.int .i64 (kk (d + t))) := by
              rw [hbx.cell (p := ⟨g, _, none⟩) hg, show off + d * 4 + t * 4 = off + (d + t) * 4 by omega]; exact hcell (d + t) (by omega) (by omega)
            have HY : Hid (ofB (kk (d + t)) s[0].toNat = true → ∀ i, i < t + 1 → ofB (kk (d + i)) s[0].toNat = true) := fun h i hi => by
              by_cases e : i = t
              · subst e; exact h
              · exact hall.out i (by omega)
            clear hall
            cases ho : ofB (kk (d + t)) s[0].toNat
            all_goals have HO := hid_mk ho
            all_goals clear ho
            all_goals go_wp2_with (go_at_call 70; refine (isof_any _ _ _).mono ?_; rw [HO.out]; rintro e _ ⟨rfl, rfl⟩)
            · go_roundg (s1.extract 1 s1.size).size
              case rel => exact ⟨d + t, _, rfl, by have := HS2.out; omega, rfl, by omega, rest_next hcell (by omega) (by omega) (by omega) (fun h => by first | rfl | omega), (by rw [fits_of HT2.out, HFT.out, HLV.out (.inr HO.out)]; exact (fits_more _ _ _ (by rw [List.length_tail]; omega)).symm), hbx⟩
              case measure => have := HS2.out; have := HGK.out; omega
            · go_roundg (m - (t + 1))
              case rel => exact ⟨t + 1, rfl, by omega, by go_num, HY.out HO.out, hbx⟩
              case measure => have := HG2.out; omega
          · have htm : t = m := by omega
            have HLT := HLV.out (.inl htm)
            have HLTH := hid_mk HLT
            clear HLT HLV hall
            by_cases hdl : d < len
            · obtain rfl := ha hdl
              subst htm
              go_wp2
              · go_roundg (s1.extract 1 s1.size).size
                case rel => exact ⟨d + t, _, rfl, by have := HS2.out; omega, rfl, by omega, rest_any hcell (by omega) (by omega) (by omega) (fun h => by first | rfl | omega), (by rw [fits_of HT2.out, HFT.out, HLTH.out]; exact (fits_more _ _ _ (by rw [List.length_tail]; omega)).symm), hbx⟩
                case measure => have := HS2.out; have := HGK.out; omega
              · go_roundg (s1.extract 1 s1.size).size
                case rel => exact ⟨d + t, _, rfl, by have := HS2.out; omega, rfl, by omega, rest_any hcell (by omega) (by omega) (by omega) (fun h => by first | rfl | omega), (by rw [fits_of HT2.out, HFT.out, HLTH.out]; exact (fits_more _ _ _ (by rw [List.length_tail]; omega)).symm), hbx⟩
                case measure => have := HS2.out; have := HGK.out; omega
            · obtain rfl : d = len := by omega
              obtain rfl : m = 0 := by omega
              obtain rfl : t = 0 := by omega
              clear htm
              cases a
              · go_wp2
                go_roundg (s1.extract 1 s1.size).size
                case rel => exact ⟨d, _, rfl, by have := HS2.out; omega, rfl, by omega, rest_end (by omega) (by omega), (by rw [fits_of HT2.out, HFT.out, HLTH.out, Nat.add_zero]; exact (fits_more _ _ _ (by rw [List.length_tail]; omega)).symm), hbx⟩
                case measure => have := HS2.out; have := HGK.out; omega
              · go_wp2
                go_roundg (s1.extract 1 s1.size).size
                case rel => exact ⟨d, _, rfl, by have := HS2.out; omega, rfl, by omega, rest_end (by omega) (by omega), (by rw [fits_of HT2.out, HFT.out, HLTH.out, Nat.add_zero]; exact (fits_more _ _ _ (by rw [List.length_tail]; omega)).symm), hbx⟩
                case measure => have := HS2.out; have := HGK.out; omega
      have HQ0 := hid_mk q63
      have HQ := hid_mk q42
      clear q42 q63
      have P1 : Hid True := trivial
      go_wp2_with (go_at_call 40; first | (clear P1; refine (hhp 63 _).out.mono ?_; rw [decide_eq_false HQ0.out]; rintro e _ ⟨rfl, rfl⟩) | (refine (hhp 42 _).out.mono ?_; rw [decide_eq_false HQ.out]; rintro e _ ⟨rfl, rfl⟩))
      have HFT : Hid (res = if twF kk s[0].toNat (min 1 (len - d)) d < 1 then false else fitsF kk len r.length r (d + twF kk s[0].toNat (min 1 (len - d)) d)) := by have := HFIT.out; rw [if_neg HQ0.out, if_neg HQ.out] at this; exact this
      have hz1 : (s.extract 1 s.size).size = r.length := by rw [← size_list', HL1.out]
      have HS2 : Hid ((s.extract 1 s.size).size + 1 ≤ s.size ∧ s.size ≤ 100) := by unfold Hid; have := HSZ.out; omega
      clear hz1 HFIT hhp HL0
      generalize s.extract 1 s.size = s1 at *
      obtain ⟨m, hm⟩ : ∃ m : Nat, m = min 1 (len - d) := ⟨_, rfl⟩
      have hml : m ≤ len - d := by omega
      have hm1 : (min 1 ((len - d : Nat) : Int) : Int) = (m : Int) := by omega
      rw [← hm] at HFT
      have hm2 : m ≤ 1 := by omega
      have HM := hid_mk hm
      clear hm
      go_loopg [8] m (fun k2 i wx => ∃ (t : Nat), k2 = m - t ∧ t ≤ m ∧ i = .int .i64 t ∧ Hid (∀ i, i < t → ofB (kk (d + i)) s[0].toNat = true) ∧ Below w.heap.size w wx)
      case atStart => exact ⟨0, by omega, by omega, rfl, (fun i hi => by omega), hb⟩
      case round =>
        obtain ⟨t, hgk2, ht, rfl, hall, hbx⟩ := hrel
        have HG2 := hid_mk hgk2
        clear hgk2
        have leave : ∀ hstop : t = m ∨ ofB (kk (d + t)) s[0].toNat = false, twF kk s[0].toNat m d = t := fun hstop => tw_of hall.out ht hstop
        have HLV := hid_mk leave
        clear leave
        by_cases hlt : t < m
        · obtain rfl := ha (by omega)
          have hcl : wr.cell? ⟨g, off + d * 4 + t * 4, none⟩ = some (.int .i64 (kk (d + t))) := by
            rw [hbx.cell (p := ⟨g, _, none⟩) hg, show off + d * 4 + t * 4 = off + (d + t) * 4 by omega]; exact hcell (d + t) (by omega) (by omega)
          have HY : Hid (ofB (kk (d + t)) s[0].toNat = true → ∀ i, i < t + 1 → ofB (kk (d + i)) s[0].toNat = true) := fun h i hi => by
            by_cases e : i = t
            · subst e; exact h
            · exact hall.out i (by omega)
          clear hall
          have ht1 : t < 1 := by omega
          cases ho : ofB (kk (d + t)) s[0].toNat
          all_goals have HO := hid_mk ho
          all_goals clear ho
          all_goals go_wp2_with (go_at_call 70; refine (isof_any _ _ _).mono ?_; rw [HO.out]; rintro e _ ⟨rfl, rfl⟩)
          · go_ret
            exact ⟨ret_bool (by rw [HFT.out, HLV.out (.inr HO.out), if_pos ht1]), hbx⟩
          · go_roundg (m - (t + 1))
            case rel => exact ⟨t + 1, rfl, by omega, by go_num, HY.out HO.out, hbx⟩
            case measure => have := HG2.out; omega
        · have htm : t = m := by omega
          have HLT := HLV.out (.inl htm)
          have HLTH := hid_mk HLT
          clear HLT HLV hall
          by_cases hdl : d < len
          · obtain rfl := ha hdl
            subst htm
            obtain rfl : t = 1 := by have := HM.out; omega
            go_wp2
            · go_roundg s1.size
              case rel => exact ⟨d + 1, _, rfl, by have := HS2.out; omega, rfl, by omega, rest_any (t := 1) hcell (by omega) (by omega) (by omega) (fun h => by first | rfl | omega), (show fitsF kk len s1.size s1.data.toList (d + 1) = res by rw [fits_of HL1.out, HFT.out, HLTH.out, if_neg (by omega)]), hbx⟩
              case measure => have := HS2.out; have := HGK.out; omega
            · go_roundg s1.size
              case rel => exact ⟨d + 1, _, rfl, by have := HS2.out; omega, rfl, by omega, rest_any (t := 1) hcell (by omega) (by omega) (by omega) (fun h => by first | rfl | omega), (show fitsF kk len s1.size s1.data.toList (d + 1) = res by rw [fits_of HL1.out, HFT.out, HLTH.out, if_neg (by omega)]), hbx⟩
              case measure => have := HS2.out; have := HGK.out; omega
          · obtain rfl : d = len := by omega
            obtain rfl : m = 0 := by omega
            obtain rfl : t = 0 := by omega
            clear htm
            go_wp2
            go_ret
            exact ⟨ret_bool (by rw [HFT.out, HLTH.out]; rfl), hbx⟩
    · have HF : Hid (res = decide (d = len)) := by
        have := hfit.out
        rw [empty_list, List.isEmpty_iff] at hz
        have hsz : s.size = 0 := by rw [← size_list, hz]; rfl
        rw [hz, hsz] at this
        exact this.symm
      cases h0 : (((len - d : Nat) : Int) == 0)
      all_goals go_wp2
      all_goals go_ret
      all_goals refine ⟨ret_bool ?_, hb⟩
      · rw [HF.out, eq_comm, decide_eq_false_iff_not]; have := beq_eq_false_iff_ne.1 h0; omega
      · rw [HF.out, eq_comm, decide_eq_true_eq]; have := beq_iff_eq.1 h0; omega
end Go.Proofs.YtokhcdkhcbcljadDoor
