/- The contracts of wordOf, numberOf, signOf and tokenAt. -/
import Derived.Test.YtnpjnmkmjcpjmaaDoorLeafImpl
namespace Go.Proofs.YtnpjnmkmjcpjmaaDoor
open Go.RowKit

theorem head_atK (s : ByteArray) (h : 0 < s.size) : s.data.toList.headD 0 = s[0] := by
  have : 0 < s.data.toList.length := by simpa using h
  cases hl : s.data.toList with
  | nil => simp [hl] at this
  | cons a l =>
    have : s.data.toList[0]'this = a := by simp [hl]
    show a = s.data[0]
    rw [← this]; rfl
theorem take_bs (s : ByteArray) (n : Nat) : s.extract 0 n = bs (s.data.toList.take n) := bytes_eq (by rw [Lib.extract_data, bs_data]; simp)

/-- What wordOf answers. -/
def wordKind (l : List UInt8) : Int := if 40 < wlen l then 1 else if hasB kwWords (bs (l.take (wlen l))) then 3 else 1
def wordText (l : List UInt8) : ByteArray := if 40 < wlen l then ⟨#[]⟩ else bs (l.take (wlen l))

set_option maxHeartbeats 400000 in
set_option maxRecDepth 100000 in
theorem impl_word (s : ByteArray) (w : World) (hs : s.size ≤ 65536) (hr : StrRow w 1 kwWords) :
    Calls Tryd.prog 42 #[.string s] w fun e w' => e = .returned (.tuple #[.int .i64 (wordKind s.data.toList), .string (wordText s.data.toList)]) ∧ w' = w := by
  have HR : Hid (StrRow w 1 kwWords) := hr
  clear hr
  have HS : Hid (s.size ≤ maxLen) := by unfold Hid maxLen; omega
  have hle : wlen s.data.toList ≤ s.size := wlen_le _
  have hk : Hid (wordKind s.data.toList = if 40 < wlen s.data.toList then 1 else if hasB kwWords (bs (s.data.toList.take (wlen s.data.toList))) then 3 else 1) := rfl
  have ht : Hid (wordText s.data.toList = if 40 < wlen s.data.toList then ⟨#[]⟩ else bs (s.data.toList.take (wlen s.data.toList))) := rfl
  generalize hn : wlen s.data.toList = n at *
  have HN : Hid (wlen s.data.toList = n) := hn
  clear hn
  generalize hx : bs (s.data.toList.take n) = x at *
  have hx1 : s.extract 0 n = x := by rw [← hx]; exact take_bs s n
  have hx2 : x.size = n := by rw [← hx, bs_size, List.length_take]; exact Nat.min_eq_left hle
  clear hx
  by_cases h : 40 < n
  · have hk' : Hid (wordKind s.data.toList = 1) := by unfold Hid; rw [hk.out, if_pos h]
    have ht' : Hid (wordText s.data.toList = ⟨#[]⟩) := by unfold Hid; rw [ht.out, if_pos h]
    go_enter Tryd.func42, Tryd.ntmps42
    go_wp2_with (go_at_call 22; refine (impl_wlen _ _ HS.out).mono ?_; rw [HN.out]; rintro e w' ⟨rfl, rfl⟩)
    go_ret2
    exact ⟨by rw [hk'.out, ht'.out]; rfl, rfl⟩
  · cases hb : hasB kwWords x
    all_goals
      have hk' : Hid (wordKind s.data.toList = if hasB kwWords x then 3 else 1) := by unfold Hid; rw [hk.out, if_neg h]
      have ht' : Hid (wordText s.data.toList = x) := by unfold Hid; rw [ht.out, if_neg h]
      rw [hb] at hk'
      have HB := (show Hid (hasB kwWords x = _) from hb)
      clear hb
      go_enter Tryd.func42, Tryd.ntmps42
      go_wp2_with (first | (go_at_call 22; refine (impl_wlen _ _ HS.out).mono ?_; rw [HN.out]; rintro e w' ⟨rfl, rfl⟩) | (go_at_call 23; refine (taken_any _ _ HR.out).mono ?_; rw [HB.out]; rintro e w' ⟨rfl, rfl⟩))
      go_ret2
      exact ⟨by rw [hk'.out, ht'.out]; rfl, rfl⟩

def numText (l : List UInt8) : ByteArray := if numT (l.take (wlen l)) then bs (l.take (wlen l)) else ⟨#[]⟩

set_option maxHeartbeats 1000000 in
set_option maxRecDepth 100000 in
theorem impl_num (s : ByteArray) (w : World) (hs : s.size ≤ 65536) :
    Calls Tryd.prog 43 #[.string s] w fun e w' => e = .returned (.string (numText s.data.toList)) ∧ w' = w := by
  have HS : Hid (s.size ≤ maxLen) := by unfold Hid maxLen; omega
  have hle : wlen s.data.toList ≤ s.size := wlen_le _
  have ht : Hid (numText s.data.toList = if numT (s.data.toList.take (wlen s.data.toList)) then bs (s.data.toList.take (wlen s.data.toList)) else ⟨#[]⟩) := rfl
  generalize hn : wlen s.data.toList = n at *
  have HN : Hid (wlen s.data.toList = n) := hn
  clear hn
  generalize hx : bs (s.data.toList.take n) = x at *
  have hx1 : s.extract 0 n = x := by rw [← hx]; exact take_bs s n
  have hx2 : x.size = n := by rw [← hx, bs_size, List.length_take]; exact Nat.min_eq_left hle
  have hx3 : s.data.toList.take n = x.data.toList := by rw [← hx, bs_data]
  rw [hx3] at ht
  clear hx hx3
  generalize numText s.data.toList = r at *
  have hxl : x.data.toList.length = n := hx2
  by_cases h : 18 < n
  · have ht' : Hid (r = ⟨#[]⟩) := by unfold Hid; rw [ht.out]; simp [numT, hxl]; omega
    go_enter Tryd.func43, Tryd.ntmps43
    go_wp2_with (go_at_call 22; refine (impl_wlen _ _ HS.out).mono ?_; rw [HN.out]; rintro e w' ⟨rfl, rfl⟩)
    go_ret
    exact ⟨ret_str ht'.out.symm, rfl⟩
  by_cases hz : ∃ h1 : 1 < n, (x[0]'(by omega)).toNat = 48
  · obtain ⟨h1, hz⟩ := hz
    have h0 : 0 < x.size := by omega
    have hz' : ((x[0].toNat : Int) == 48) = true := by simp; omega
    have hh := head_atK x h0
    have ht' : Hid (r = ⟨#[]⟩) := by unfold Hid; rw [ht.out]; unfold numT; rw [hh, hxl]; simp [hz, h1]
    clear hz hh
    go_enter Tryd.func43, Tryd.ntmps43
    go_wp2_with (go_at_call 22; refine (impl_wlen _ _ HS.out).mono ?_; rw [HN.out]; rintro e w' ⟨rfl, rfl⟩)
    go_ret
    exact ⟨ret_str ht'.out.symm, rfl⟩
  have hr : Hid (r = if (x.data.toList.all fun b => digitB b.toNat) then x else ⟨#[]⟩) := by
    unfold Hid
    rw [ht.out]
    unfold numT
    rw [hxl]
    by_cases h1 : 1 < n
    · have h0 : 0 < x.size := by omega
      have : ¬ x[0].toNat = 48 := fun e => hz ⟨h1, e⟩
      rw [head_atK x h0]
      simp [this]; congr 1; simp; omega
    · simp [h1]; congr 1; simp; omega
  have hend : Hid ((∀ b ∈ x.data.toList, digitB b.toNat = true) → r = x) := fun ha => by
    rw [hr.out, if_pos (List.all_eq_true.2 ha)]
  have hno : Hid (∀ k : Nat, ∀ h : k < x.size, digitB x[k].toNat = false → r = ⟨#[]⟩) := fun k hk hd => by
    rw [hr.out, if_neg]
    intro ha
    have := List.all_eq_true.1 ha x[k] (List.getElem_mem (l := x.data.toList) (by simpa using hk))
    rw [hd] at this; cases this
  clear hr ht
  have hz1 : Hid (1 < n → ∀ h0 : 0 < x.size, ((x[0].toNat : Int) == 48) = false) := fun h1 h0 => by
    simp only [beq_eq_false_iff_ne, ne_eq]; intro e; exact hz ⟨h1, by omega⟩
  clear hz hxl
  by_cases h1 : 1 < n
  all_goals
    try have hz2 := hz1.out h1 (by omega)
    go_enter Tryd.func43, Tryd.ntmps43
    go_wp2_with (go_at_call 22; refine (impl_wlen _ _ HS.out).mono ?_; rw [HN.out]; rintro e w' ⟨rfl, rfl⟩)
    go_loop [24] (fun i => ∃ k : Nat, k ≤ n ∧ i = .int .i64 k ∧ Hid (∀ b ∈ x.data.toList.take k, digitB b.toNat = true)) (fun i => n - (intOf i).toNat)
    case atStart => exact ⟨0, Nat.zero_le _, rfl, by simp [Hid]⟩
    case round =>
      obtain ⟨k, hk, rfl, hall⟩ := hrel
      by_cases hlt : k < n
      · have hkx : k < x.size := by omega
        cases hd : digitB x[k].toNat
        · have HF : Hid (r = ⟨#[]⟩) := hno.out k hkx hd
          have HD : Hid (digitB x[k].toNat = false) := hd
          go_wp2_with (go_at_call 32; refine (impl_digit _ _).mono ?_; rw [HD.out]; rintro e w' ⟨rfl, rfl⟩)
          go_ret
          exact ⟨ret_str HF.out.symm, rfl⟩
        · have HG : Hid (∀ b ∈ x.data.toList.take (k + 1), digitB b.toNat = true) := fun b hm => by
            rw [take_snoc x k hkx, List.mem_append] at hm
            rcases hm with hm | hm
            · exact hall.out b hm
            · simp at hm; rw [hm]; exact hd
          have HD : Hid (digitB x[k].toNat = true) := hd
          go_wp2_with (go_at_call 32; refine (impl_digit _ _).mono ?_; rw [HD.out]; rintro e w' ⟨rfl, rfl⟩)
          go_round
          case rel => exact ⟨k + 1, by omega, by go_num, HG⟩
          case measure => simp [intOf]; omega
      · have HF : Hid (r = x) := hend.out (fun b hb => hall.out b (by rw [List.take_of_length_le (by have : x.data.toList.length = x.size := rfl
                                                                                                     omega)]; exact hb))
        go_wp2
        go_ret
        exact ⟨ret_str HF.out.symm, rfl⟩

set_option maxHeartbeats 1000000 in
set_option maxRecDepth 100000 in
theorem impl_sign (s : ByteArray) (w : World) (hr : StrRow w 2 sgWords) :
    Calls Tryd.prog 44 #[.string s] w fun e w' => e = .returned (.string (signAt s.data.toList)) ∧ w' = w := by
  have hload : Hid (w.rangeAt 2 0 (sgWords.map Value.string)) := range_strs hr
  have HZ : Hid ((Tryd.prog.info? 57).map (·.size) = some (sgWords.map Value.string).length) := by unfold Hid; kernel_rfl
  have hsz9 : (Tryd.prog.info? 9).map (·.size) = some 1 := by kernel_rfl
  have hix : Hid (∀ k : Nat, k < 25 → (Instr.index 57 (.agg (sgWords.map Value.string).toArray) (.int .i64 k)).run Tryd.prog w = .ok (.string (sgWords.getD k ⟨#[]⟩)) w) :=
    fun k hk => run_index_strs w sgWords k Tryd.underlying57 Tryd.underlying9 hsz9 hk rfl
  have hdef : Hid (signAt s.data.toList = (sgWords.find? fun g => g.data.toList.isPrefixOf s.data.toList).getD ⟨#[]⟩) := rfl
  clear hr hsz9
  generalize signAt s.data.toList = r at *
  generalize hkw : sgWords = ss at *
  have hlen : Hid (ss.length = 25) := by rw [← hkw]; rfl
  clear hkw
  go_enter Tryd.func44, Tryd.ntmps44
  go_wp2_with (refine wpList_load_mid rfl 57 _ rfl 2 0 rfl _ _ hload.out Tryd.underlying57 rfl HZ.out ?_)
  go_loop [6] (fun i => ∃ k : Nat, k ≤ 25 ∧ i = .int .i64 k ∧ Hid (∀ g ∈ ss.take k, g.data.toList.isPrefixOf s.data.toList = false)) (fun i => 25 - (intOf i).toNat)
  case atStart => exact ⟨0, Nat.zero_le _, rfl, by simp [Hid]⟩
  case round =>
    obtain ⟨k, hk, rfl, hall⟩ := hrel
    by_cases hlt : k < 25
    · have hi := hix.out k hlt
      have hkl : k < ss.length := by rw [hlen.out]; exact hlt
      generalize hg : ss.getD k ⟨#[]⟩ = g at hi
      have HG : Hid (ss[k] = g) := by unfold Hid; rw [← hg]; simp [List.getD, hkl]
      clear hg
      cases hb : Lib.hasPrefix s.data.toList g.data.toList
      · have HN : Hid (∀ g ∈ ss.take (k + 1), g.data.toList.isPrefixOf s.data.toList = false) := by
          intro y hy
          rw [List.take_succ_eq_append_getElem hkl, List.mem_append] at hy
          rcases hy with hy | hy
          · exact hall.out y hy
          · rw [List.mem_singleton.1 hy, HG.out]; exact hb
        have HB : Hid (Lib.hasPrefix s.data.toList g.data.toList = false) := hb
        clear hb
        go_wp2_with (go_at_call 37; refine (Tryd.strings_HasPrefix _ _ _).mono ?_; rw [HB.out]; rintro e w' ⟨rfl, rfl⟩)
        go_round
        case rel => exact ⟨k + 1, by omega, by go_num, HN⟩
        case measure => simp [intOf]; omega
      · have HF : Hid (r = g) := by
          unfold Hid
          rw [hdef.out]
          have : ss.find? (fun g => g.data.toList.isPrefixOf s.data.toList) = some ss[k] := by
            rw [List.find?_eq_some_iff_getElem]
            refine ⟨by rw [HG.out]; exact hb, k, hkl, rfl, fun j hj => ?_⟩
            have := hall.out ss[j] (List.mem_take_iff_getElem.2 ⟨j, by omega, rfl⟩)
            simp [this]
          rw [this, HG.out]; rfl
        have HB : Hid (Lib.hasPrefix s.data.toList g.data.toList = true) := hb
        clear hb
        go_wp2_with (go_at_call 37; refine (Tryd.strings_HasPrefix _ _ _).mono ?_; rw [HB.out]; rintro e w' ⟨rfl, rfl⟩)
        go_ret
        exact ⟨ret_str HF.out.symm, rfl⟩
    · have HF : Hid (r = ⟨#[]⟩) := by
        unfold Hid
        rw [hdef.out]
        have : ss.find? (fun g => g.data.toList.isPrefixOf s.data.toList) = none := by
          rw [List.find?_eq_none]
          intro x hx
          have := hall.out x (by rw [List.take_of_length_le (by rw [hlen.out]; omega)]; exact hx)
          simp [this]
        rw [this]; rfl
      go_wp2
      go_ret
      exact ⟨ret_str HF.out.symm, rfl⟩

end Go.Proofs.YtnpjnmkmjcpjmaaDoor
