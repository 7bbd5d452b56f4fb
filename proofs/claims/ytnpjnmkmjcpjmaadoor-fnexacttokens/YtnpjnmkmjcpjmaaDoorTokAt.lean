/- The contract of tokenAt. -/
import Derived.Test.YtnpjnmkmjcpjmaaDoorLeafImpl2
namespace Go.Proofs.YtnpjnmkmjcpjmaaDoor
open Go.RowKit

theorem drop_head (s : ByteArray) (k : Nat) (h : k < s.size) : (s.data.toList.drop k).headD 0 = s[k] := by
  have hl : k < s.data.toList.length := by simpa using h
  rw [List.drop_eq_getElem_cons hl]; rfl
theorem row_belowK {W W' : World} {b n : Nat} {ss : List ByteArray} (h : StrRow W b ss) (hb : Below n W W') (hlt : b < n) : StrRow W' b ss :=
  fun i hi => (hb.cell (p := ⟨b, i, none⟩) hlt).trans (h i hi)
theorem bcellK {W w1 : World} (hb : Below W.heap.size W w1) : (∀ b o, b < W.heap.size → w1.cell? ⟨b, o, none⟩ = W.cell? ⟨b, o, none⟩) ∧ (∀ b o, b < W.heap.size → w1.frozen? ⟨b, o, none⟩ = W.frozen? ⟨b, o, none⟩) :=
  ⟨fun b o h => hb.cell (p := ⟨b, o, none⟩) h, fun b o h => hb.frozen (p := ⟨b, o, none⟩) h⟩

def tokVal (k : Int) (t : ByteArray) (p : Nat) : Value := .agg #[.int .i64 k, .string t, .int .i64 p]
/-- What tokenAt answers. -/
def stepKind (l : List UInt8) : Int := match tokStep l with | .tok k _ _ => k | _ => 0
def stepText (l : List UInt8) : ByteArray := match tokStep l with | .tok _ t _ => t | _ => ⟨#[]⟩
def stepCode (l : List UInt8) : Int := match tokStep l with | .tok _ _ _ => 0 | _ => 4
def rawKind (l : List UInt8) : Int := if (l.headD 0).toNat = 59 then 5 else if letterB (l.headD 0).toNat then wordKind l else if digitB (l.headD 0).toNat then 2 else 4
def rawText (l : List UInt8) : ByteArray := if (l.headD 0).toNat = 59 then ⟨#[59]⟩ else if letterB (l.headD 0).toNat then wordText l else if digitB (l.headD 0).toNat then numText l else signAt l

theorem bs_take_size (l : List UInt8) : (bs (l.take (wlen l))).size = wlen l := by
  rw [bs_size, List.length_take]; exact Nat.min_eq_left (wlen_le l)

theorem size_nil {t : ByteArray} (h : t.size = 0) : t = ⟨#[]⟩ := bytes_eq (List.eq_nil_of_length_eq_zero h)

theorem step_eq (l : List UInt8) (hl : l ≠ []) :
    ((rawText l).size = 0 → stepKind l = 0 ∧ stepText l = ⟨#[]⟩ ∧ stepCode l = 4) ∧ ((rawText l).size ≠ 0 → stepKind l = rawKind l ∧ stepText l = rawText l ∧ stepCode l = 0) := by
  have bad : ∀ (e : tokStep l = .bad) (er : rawText l = ⟨#[]⟩), ((rawText l).size = 0 → stepKind l = 0 ∧ stepText l = ⟨#[]⟩ ∧ stepCode l = 4) ∧ ((rawText l).size ≠ 0 → stepKind l = rawKind l ∧ stepText l = rawText l ∧ stepCode l = 0) := fun e er => by
    unfold stepKind stepText stepCode
    rw [e, er]
    exact ⟨fun _ => ⟨rfl, rfl, rfl⟩, fun h => absurd rfl h⟩
  have good : ∀ (t : ByteArray) (d : Nat) (e : tokStep l = .tok (rawKind l) t d) (er : rawText l = t) (hp : t.size ≠ 0), ((rawText l).size = 0 → stepKind l = 0 ∧ stepText l = ⟨#[]⟩ ∧ stepCode l = 4) ∧ ((rawText l).size ≠ 0 → stepKind l = rawKind l ∧ stepText l = rawText l ∧ stepCode l = 0) := fun t d e er hp => by
    unfold stepKind stepText stepCode
    rw [e, er]
    exact ⟨fun h => absurd h hp, fun _ => ⟨rfl, rfl, rfl⟩⟩
  by_cases h1 : (l.headD 0).toNat = 59
  · refine good ⟨#[59]⟩ 1 ?_ ?_ (by decide)
    · unfold tokStep rawKind; rw [if_pos h1, if_pos h1]
    · unfold rawText; rw [if_pos h1]
  by_cases h2 : letterB (l.headD 0).toNat = true
  · have hp := wlen_pos (l := l) (by unfold wordB; rw [h2]; rfl) hl
    have hsz := bs_take_size l
    by_cases h3 : 40 < wlen l
    · refine bad ?_ ?_
      · unfold tokStep; rw [if_neg h1, if_pos h2, if_pos h3]
      · unfold rawText wordText; rw [if_neg h1, if_pos h2, if_pos h3]
    · refine good (bs (l.take (wlen l))) (wlen l) ?_ ?_ (by omega)
      · unfold tokStep rawKind wordKind; rw [if_neg h1, if_pos h2, if_neg h3, if_neg h1, if_pos h2, if_neg h3]
      · unfold rawText wordText; rw [if_neg h1, if_pos h2, if_neg h3]
  by_cases h4 : digitB (l.headD 0).toNat = true
  · have hp := wlen_pos (l := l) (by unfold wordB; rw [h4]; exact Bool.or_true _) hl
    have hsz := bs_take_size l
    by_cases h5 : numT (l.take (wlen l)) = true
    · refine good (bs (l.take (wlen l))) (wlen l) ?_ ?_ (by omega)
      · unfold tokStep rawKind; rw [if_neg h1, if_neg h2, if_pos h4, if_pos h5, if_neg h1, if_neg h2, if_pos h4]
      · unfold rawText numText; rw [if_neg h1, if_neg h2, if_pos h4, if_pos h5]
    · refine bad ?_ ?_
      · unfold tokStep; rw [if_neg h1, if_neg h2, if_pos h4, if_neg h5]
      · unfold rawText numText; rw [if_neg h1, if_neg h2, if_pos h4, if_neg h5]
  have er : rawText l = signAt l := by unfold rawText; rw [if_neg h1, if_neg h2, if_neg h4]
  by_cases h6 : (signAt l).size = 0
  · refine bad ?_ ?_
    · unfold tokStep; rw [if_neg h1, if_neg h2, if_neg h4, if_pos h6]
    · rw [er]; exact size_nil h6
  · refine good (signAt l) (signAt l).size ?_ er h6
    unfold tokStep rawKind; rw [if_neg h1, if_neg h2, if_neg h4, if_neg h6, if_neg h1, if_neg h2, if_neg h4]

theorem raw_small (l : List UInt8) : (rawText l).size ≤ l.length + 2 := by
  unfold rawText
  have h1 := wlen_le l
  have h2 := bs_take_size l
  split
  · simp [ByteArray.size]
  split
  · unfold wordText; split
    · simp [ByteArray.size]
    · omega
  split
  · unfold numText; split
    · omega
    · simp [ByteArray.size]
  · unfold signAt
    cases hf : sgWords.find? fun g => g.data.toList.isPrefixOf l with
    | none => simp [ByteArray.size]
    | some g =>
      have := List.find?_some hf
      have := (List.isPrefixOf_iff_prefix.1 this).length_le
      have hg : g.data.toList.length = g.size := rfl
      simp only [Option.getD_some]; omega

theorem isEmpty_size (t : ByteArray) : t.toList.isEmpty = decide (t.size = 0) := by
  rw [ByteArray.toList_eq, Bool.eq_iff_iff, List.isEmpty_iff, decide_eq_true_eq]
  constructor
  · intro h; show t.data.toList.length = 0; rw [h]; rfl
  · intro h; exact List.eq_nil_of_length_eq_zero h

set_option maxHeartbeats 2000000 in
set_option maxRecDepth 100000 in
theorem impl_tokAt (s : ByteArray) (k : Nat) (w : World) (hs : s.size ≤ 65536) (hk : k < s.size) (hr : StrRow w 1 kwWords) (hg : StrRow w 2 sgWords) (hz : 1 < w.heap.size) (hz2 : 2 < w.heap.size) :
    Calls Tryd.prog 39 #[.string s, .int .i64 k] w fun e w' => e = .returned (.tuple #[tokVal (stepKind (s.data.toList.drop k)) (stepText (s.data.toList.drop k)) k, .int .i64 (stepCode (s.data.toList.drop k))]) ∧ Below w.heap.size w w' := by
  have hx : Hid ((s.extract k s.size).data.toList = s.data.toList.drop k) := Lib.extract_to_end s k
  have hxs : Hid ((s.extract k s.size).size ≤ 65536) := by
    have : (s.extract k s.size).data.toList.length = (s.extract k s.size).size := rfl
    unfold Hid; rw [← this, hx.out, List.length_drop]
    have : s.data.toList.length = s.size := rfl
    omega
  have HH : Hid ((s.data.toList.drop k).headD 0 = s[k]) := drop_head s k hk
  have hne : s.data.toList.drop k ≠ [] := by
    intro e
    have := congrArg List.length e
    rw [List.length_drop] at this
    have h2 : s.data.toList.length = s.size := rfl
    simp only [List.length_nil] at this
    omega
  have hst := step_eq _ hne
  have hsm := raw_small (s.data.toList.drop k)
  have hsm2 : (s.data.toList.drop k).length ≤ 65536 := by
    rw [List.length_drop]
    have : s.data.toList.length = s.size := rfl
    omega
  have HR : Hid (StrRow (w.alloc (.cells #[.int .i64 0, .string ⟨#[]⟩, .int .i64 0] 37)) 1 kwWords) := row_belowK hr ((Below.refl _ _).alloc (Nat.le_refl _) _) hz
  have HG : Hid (StrRow (w.alloc (.cells #[.int .i64 0, .string ⟨#[]⟩, .int .i64 0] 37)) 2 sgWords) := row_belowK hg ((Below.refl _ _).alloc (Nat.le_refl _) _) hz2
  have hrk : Hid (rawKind (s.data.toList.drop k) = if s[k].toNat = 59 then 5 else if letterB s[k].toNat then wordKind (s.data.toList.drop k) else if digitB s[k].toNat then 2 else 4) := by
    unfold Hid rawKind; rw [HH.out]
  have hrt : Hid (rawText (s.data.toList.drop k) = if s[k].toNat = 59 then ⟨#[59]⟩ else if letterB s[k].toNat then wordText (s.data.toList.drop k) else if digitB s[k].toNat then numText (s.data.toList.drop k) else signAt (s.data.toList.drop k)) := by
    unfold Hid rawText; rw [HH.out]
  clear hr hg hz hz2 hne HH
  generalize stepKind (s.data.toList.drop k) = sk at *
  generalize stepText (s.data.toList.drop k) = st at *
  generalize stepCode (s.data.toList.drop k) = sc at *
  generalize hl0 : s.data.toList.drop k = l at *
  clear hl0
  generalize rawText l = rt at *
  generalize rawKind l = rk at *
  have hst1 : Hid (rt.size = 0 → sk = 0 ∧ st = ⟨#[]⟩ ∧ sc = 4) := hst.1
  have hst2 : Hid (rt.size ≠ 0 → sk = rk ∧ st = rt ∧ sc = 0) := hst.2
  clear hst
  have hrs : rt.size ≤ 65538 := by omega
  clear hsm hsm2
  cases hl : letterB s[k].toNat
  · have HL : Hid (letterB s[k].toNat = false) := hl
    by_cases h59 : s[k].toNat = 59
    · have hd : digitB s[k].toNat = false := by rw [h59]; decide
      have HD : Hid (digitB s[k].toNat = false) := hd
      have hk' : rk = 5 := by rw [hrk.out, if_pos h59]
      have ht' : rt = ⟨#[59]⟩ := by rw [hrt.out, if_pos h59]
      have h59' : ((s[k].toNat : Int) == 59) = true := by simp; omega
      obtain ⟨rfl, rfl, rfl⟩ := hst2.out (by rw [ht']; decide)
      clear hst1 hst2 hl hd h59 hrk hrt
      subst hk' ht'
      go_enter Tryd.func39, Tryd.ntmps39
      go_wp2_with (first | (go_at_call 21; refine (impl_letter _ _).mono ?_; rw [HL.out]; rintro e w' ⟨rfl, rfl⟩) | (go_at_call 32; refine (impl_digit _ _).mono ?_; rw [HD.out]; rintro e w' ⟨rfl, rfl⟩) | (go_at_call 45; refine (impl_clone _ _ (by decide)).mono ?_; rintro e w1 ⟨rfl, hb⟩; obtain ⟨hc, hf⟩ := bcellK hb; have hz := hb.size; simp only [World.size_alloc] at hz))
      refine bodyPost_ret (v := .tuple #[tokVal 5 ⟨#[59]⟩ k, .int .i64 0]) (by simp [results, Tryd.results39, go_sem, tokVal, hc]) rfl ⟨rfl, ?_⟩
      exact (((((Below.refl _ _).alloc (Nat.le_refl _) _).trans (hb.mono (by simp))).setCell (Nat.le_refl _) _).setCell (Nat.le_refl _) _).setCell (Nat.le_refl _) _
    have hln : ¬ letterB s[k].toNat = true := by rw [hl]; decide
    cases hd : digitB s[k].toNat
    · have hdn : ¬ digitB s[k].toNat = true := by rw [hd]; decide
      have HD : Hid (digitB s[k].toNat = false) := hd
      have hk' : rk = 4 := by rw [hrk.out, if_neg h59, if_neg hln, if_neg hdn]
      have ht' : Hid (rt = signAt l) := by unfold Hid; rw [hrt.out, if_neg h59, if_neg hln, if_neg hdn]
      have h59' : ((s[k].toNat : Int) == 59) = false := by simp; omega
      clear hl hln hd hdn h59 hrk hrt
      subst hk'
      cases he : rt.toList.isEmpty
      · have hne : rt.size ≠ 0 := by rw [isEmpty_size] at he; simpa using he
        obtain ⟨rfl, rfl, rfl⟩ := hst2.out hne
        clear hst1 hst2
        go_enter Tryd.func39, Tryd.ntmps39
        go_wp2_with (first | (go_at_call 21; refine (impl_letter _ _).mono ?_; rw [HL.out]; rintro e w' ⟨rfl, rfl⟩) | (go_at_call 32; refine (impl_digit _ _).mono ?_; rw [HD.out]; rintro e w' ⟨rfl, rfl⟩) | (go_at_call 44; refine (impl_sign _ _ HG.out).mono ?_; rw [hx.out, ← ht'.out]; rintro e w' ⟨rfl, rfl⟩) | (go_at_call 45; refine (impl_clone _ _ (by omega)).mono ?_; rintro e w1 ⟨rfl, hb⟩; obtain ⟨hc, hf⟩ := bcellK hb; have hz := hb.size; simp only [World.size_alloc] at hz))
        refine bodyPost_ret (v := .tuple #[tokVal 4 st k, .int .i64 0]) (by simp [results, Tryd.results39, go_sem, tokVal, hc]) rfl ⟨rfl, ?_⟩
        exact (((((Below.refl _ _).alloc (Nat.le_refl _) _).trans (hb.mono (by simp))).setCell (Nat.le_refl _) _).setCell (Nat.le_refl _) _).setCell (Nat.le_refl _) _
      · have hne : rt.size = 0 := by rw [isEmpty_size] at he; simpa using he
        obtain ⟨rfl, rfl, rfl⟩ := hst1.out hne
        clear hst1 hst2
        go_enter Tryd.func39, Tryd.ntmps39
        go_wp2_with (first | (go_at_call 21; refine (impl_letter _ _).mono ?_; rw [HL.out]; rintro e w' ⟨rfl, rfl⟩) | (go_at_call 32; refine (impl_digit _ _).mono ?_; rw [HD.out]; rintro e w' ⟨rfl, rfl⟩) | (go_at_call 44; refine (impl_sign _ _ HG.out).mono ?_; rw [hx.out, ← ht'.out]; rintro e w' ⟨rfl, rfl⟩) | (go_at_call 45; refine (impl_clone _ _ (by omega)).mono ?_; rintro e w1 ⟨rfl, hb⟩; obtain ⟨hc, hf⟩ := bcellK hb; have hz := hb.size; simp only [World.size_alloc] at hz))
        refine bodyPost_ret (v := .tuple #[tokVal 0 ⟨#[]⟩ k, .int .i64 4]) (by simp [results, Tryd.results39, go_sem, tokVal]) rfl ⟨rfl, ?_⟩
        exact (Below.refl _ _).alloc (Nat.le_refl _) _
    · have HD : Hid (digitB s[k].toNat = true) := hd
      have hk' : rk = 2 := by rw [hrk.out, if_neg h59, if_neg hln, if_pos hd]
      have ht' : Hid (rt = numText l) := by unfold Hid; rw [hrt.out, if_neg h59, if_neg hln, if_pos hd]
      clear hl hln hd h59 hrk hrt
      subst hk'
      cases he : rt.toList.isEmpty
      · have hne : rt.size ≠ 0 := by rw [isEmpty_size] at he; simpa using he
        obtain ⟨rfl, rfl, rfl⟩ := hst2.out hne
        clear hst1 hst2
        go_enter Tryd.func39, Tryd.ntmps39
        go_wp2_with (first | (go_at_call 21; refine (impl_letter _ _).mono ?_; rw [HL.out]; rintro e w' ⟨rfl, rfl⟩) | (go_at_call 32; refine (impl_digit _ _).mono ?_; rw [HD.out]; rintro e w' ⟨rfl, rfl⟩) | (go_at_call 43; refine (impl_num _ _ hxs.out).mono ?_; rw [hx.out, ← ht'.out]; rintro e w' ⟨rfl, rfl⟩) | (go_at_call 45; refine (impl_clone _ _ (by omega)).mono ?_; rintro e w1 ⟨rfl, hb⟩; obtain ⟨hc, hf⟩ := bcellK hb; have hz := hb.size; simp only [World.size_alloc] at hz))
        refine bodyPost_ret (v := .tuple #[tokVal 2 st k, .int .i64 0]) (by simp [results, Tryd.results39, go_sem, tokVal, hc]) rfl ⟨rfl, ?_⟩
        exact (((((Below.refl _ _).alloc (Nat.le_refl _) _).trans (hb.mono (by simp))).setCell (Nat.le_refl _) _).setCell (Nat.le_refl _) _).setCell (Nat.le_refl _) _
      · have hne : rt.size = 0 := by rw [isEmpty_size] at he; simpa using he
        obtain ⟨rfl, rfl, rfl⟩ := hst1.out hne
        clear hst1 hst2
        go_enter Tryd.func39, Tryd.ntmps39
        go_wp2_with (first | (go_at_call 21; refine (impl_letter _ _).mono ?_; rw [HL.out]; rintro e w' ⟨rfl, rfl⟩) | (go_at_call 32; refine (impl_digit _ _).mono ?_; rw [HD.out]; rintro e w' ⟨rfl, rfl⟩) | (go_at_call 43; refine (impl_num _ _ hxs.out).mono ?_; rw [hx.out, ← ht'.out]; rintro e w' ⟨rfl, rfl⟩) | (go_at_call 45; refine (impl_clone _ _ (by omega)).mono ?_; rintro e w1 ⟨rfl, hb⟩; obtain ⟨hc, hf⟩ := bcellK hb; have hz := hb.size; simp only [World.size_alloc] at hz))
        refine bodyPost_ret (v := .tuple #[tokVal 0 ⟨#[]⟩ k, .int .i64 4]) (by simp [results, Tryd.results39, go_sem, tokVal]) rfl ⟨rfl, ?_⟩
        exact (Below.refl _ _).alloc (Nat.le_refl _) _
  · have h59' : ¬ s[k].toNat = 59 := by
      intro e; rw [e] at hl; revert hl; decide
    have hk' : Hid (rk = wordKind l) := by unfold Hid; rw [hrk.out, if_neg h59', if_pos hl]
    have ht' : Hid (rt = wordText l) := by unfold Hid; rw [hrt.out, if_neg h59', if_pos hl]
    have HL : Hid (letterB s[k].toNat = true) := hl
    clear hl h59' hrk hrt
    cases he : rt.toList.isEmpty
    · have hne : rt.size ≠ 0 := by rw [isEmpty_size] at he; simpa using he
      obtain ⟨rfl, rfl, rfl⟩ := hst2.out hne
      clear hst1 hst2
      go_enter Tryd.func39, Tryd.ntmps39
      go_wp2_with (first | (go_at_call 21; refine (impl_letter _ _).mono ?_; rw [HL.out]; rintro e w' ⟨rfl, rfl⟩) | (go_at_call 42; refine (impl_word _ _ hxs.out HR.out).mono ?_; rw [hx.out, ← hk'.out, ← ht'.out]; rintro e w' ⟨rfl, rfl⟩) | (go_at_call 45; refine (impl_clone _ _ (by omega)).mono ?_; rintro e w1 ⟨rfl, hb⟩; obtain ⟨hc, hf⟩ := bcellK hb; have hz := hb.size; simp only [World.size_alloc] at hz))
      refine bodyPost_ret (v := .tuple #[tokVal sk st k, .int .i64 0]) (by simp [results, Tryd.results39, go_sem, tokVal, hc]) rfl ⟨rfl, ?_⟩
      exact (((((Below.refl _ _).alloc (Nat.le_refl _) _).trans (hb.mono (by simp))).setCell (Nat.le_refl _) _).setCell (Nat.le_refl _) _).setCell (Nat.le_refl _) _
    · have hne : rt.size = 0 := by rw [isEmpty_size] at he; simpa using he
      obtain ⟨rfl, rfl, rfl⟩ := hst1.out hne
      clear hst1 hst2
      go_enter Tryd.func39, Tryd.ntmps39
      go_wp2_with (first | (go_at_call 21; refine (impl_letter _ _).mono ?_; rw [HL.out]; rintro e w' ⟨rfl, rfl⟩) | (go_at_call 42; refine (impl_word _ _ hxs.out HR.out).mono ?_; rw [hx.out, ← hk'.out, ← ht'.out]; rintro e w' ⟨rfl, rfl⟩) | (go_at_call 45; refine (impl_clone _ _ (by omega)).mono ?_; rintro e w1 ⟨rfl, hb⟩; obtain ⟨hc, hf⟩ := bcellK hb; have hz := hb.size; simp only [World.size_alloc] at hz))
      refine bodyPost_ret (v := .tuple #[tokVal 0 ⟨#[]⟩ k, .int .i64 4]) (by simp [results, Tryd.results39, go_sem, tokVal]) rfl ⟨rfl, ?_⟩
      exact (Below.refl _ _).alloc (Nat.le_refl _) _
end Go.Proofs.YtnpjnmkmjcpjmaaDoor
