/- The program's printer: lists. -/
import Derived.Test.YtacamenjijlemaaGreatDoorPmPiA
import Derived.WalkSpells
import Derived.WalkSmall
import Derived.Deep.RegionWith
set_option linter.unusedVariables false
namespace Go.Proofs.YtacamenjijlemaaGreatDoor
open Go.RowKit

theorem iw_of {T : Nd} (h : IEx T) (hok : T.eOk = true) : IW 83 T (fun _ => (prN T).ex 1) :=
  fun pb own X d b w v hbuf hg hf hr hb => h pb own X d b w v hbuf hg hf hr hok hb

set_option maxHeartbeats 4000000 in
set_option maxRecDepth 100000 in
theorem listW_ex (T : Nd) (n cap0 : Nat) (hn : n ≤ T.len) (t : Nat → List UInt8) (hW : ∀ i, i < n → IW 83 (T.kids i) (fun _ => t i)) (pb : Nat) (own : Option Nat) (X : List UInt8) (d : Nat) (w : World) (a : Option Addr) (cap : Nat) (hbuf : IBuf pb w own d true X) (hg : Gl pb w) (hf : T.Fine) (hr : Row 0 pb w T (.slice a T.len cap0))
    (hb : X.length + (catTo (fun i => (if i = 0 then [] else [44, 32]) ++ t i) n).length ≤ 1099511627776) :
    Calls Tryz.prog 38 #[.pointer (some ⟨pb, 0, none⟩), .slice a n cap, .func (.func 83) #[.pointer (some ⟨pb, 0, none⟩)] #[]] w (IAdds pb X (catTo (fun i => (if i = 0 then [] else [44, 32]) ++ t i) n) d true own w) := by
  have hnn := T.fine_len hf
  have HP := hid_mk (IPst.start hbuf)
  have HB := hid_mk hb
  have HR := hid_mk hr
  have HW := hid_mk hW
  have HG := hid_mk hg
  have HF := hid_mk hf
  clear hb hbuf hr hW hg hf
  generalize hF : (fun i => (if i = 0 then [] else [44, 32]) ++ t i) = F at *
  have HFE := hid_mk hF
  have HFL := hid_mk (fun i (h : i < n) => catTo_at F h)
  clear hF
  go_enter Tryz.func38, Tryz.ntmps38
  go_wp2
  go_loopw [10] (fun i wr => ∃ j : Nat, j ≤ n ∧ i = .int .i64 j ∧ Hid (IPst pb own w d true (X ++ catTo F j) wr)) (fun i _ => n - (intOf i).toNat)
  case atStart => exact ⟨0, by omega, rfl, hid_mk (by simpa [catTo] using HP.out)⟩
  case round =>
    obtain ⟨j, hj, rfl, HP⟩ := hrel
    by_cases hlt : j < n
    · obtain ⟨g, off, cap', hv, hgp, hcap, hk⟩ := kid_at HR.out (by omega)
      obtain rfl : a = some ⟨g, off, none⟩ := by injection hv
      obtain ⟨u, hc, hru⟩ := hk j (by omega)
      obtain ⟨c0, c1, c2, c3⟩ := hc _ HP.out.below
      obtain ⟨au, lu, cu, rfl⟩ : ∃ a l c, u = .slice a l c := by obtain ⟨a, c, h, _⟩ := row_eq.1 hru; exact ⟨a, _, c, h⟩
      obtain ⟨own1, hbf, hjoin⟩ := HP.out.join
      have hcl := HFL.out j hlt
      have HFJE : Hid (F j = (if j = 0 then [] else [44, 32]) ++ t j) := by rw [← HFE.out]; rfl
      have HWJ := hid_mk (HW.out j hlt)
      have HFJ := hid_mk (Nd.fine_kid HF.out (show j < T.len by omega))
      have HX : Hid (catTo F (j + 1) = catTo F j ++ ((if j = 0 then [] else [44, 32]) ++ t j)) := by unfold Hid; rw [← HFJE.out]; rfl
      have HRJ := hid_mk (row_allocI hbf (row_below HP.out.below (Nat.le_refl _) hru) (.cells #[.int .i64 (T.kids j).kind, .int .i64 (T.kids j).num, .string (T.kids j).name, .slice au lu cu] 30))
      have HGJ := hid_mk ((HG.out.keep HP.out.below).alloc hbf.lt (.cells #[.int .i64 (T.kids j).kind, .int .i64 (T.kids j).num, .string (T.kids j).name, .slice au lu cu] 30))
      have HPF := hid_mk (IPst.startB hbf (.cells #[.int .i64 (T.kids j).kind, .int .i64 (T.kids j).num, .string (T.kids j).name, .slice au lu cu] 30))
      have HNF := hid_mk (IPst.node hbf (.int .i64 (T.kids j).kind) (.int .i64 (T.kids j).num) (.string (T.kids j).name) (.slice au lu cu) 30)
      have HJ := hid_mk (fun Y W (h : IPst pb own1 (wr.alloc (.cells #[.int .i64 (T.kids j).kind, .int .i64 (T.kids j).num, .string (T.kids j).name, .slice au lu cu] 30)) d true Y W) => hjoin _ _ Y W _ h)
      rw [HFJE.out, List.length_append] at hcl
      clear HP hk hc hru hv hcap hbf hjoin HFJE
      have HP := HPF
      clear HPF
      generalize T.kids j = K at *
      generalize t j = tj at *
      by_cases hj0 : 0 < j
      · have hjn : j ≠ 0 := by omega
        rw [if_neg hjn] at hcl HX
        go_wp2_with (first
          | (go_at_call 37; refine (HP.out.putAt [⟨#[44, 32]⟩] _ 1 _ (by simp) rfl rfl (by decide) (by have := HB.out; simp at hcl; simp [txt] at this ⊢; omega)).mono ?_; rintro e w2 ⟨⟨r, rfl⟩, hp⟩; obtain ⟨b0, b1, b2, b3⟩ := HNF.out _ _ _ _ hp; have HP := hid_mk hp; clear hp)
          | (go_at_call 83; refine (HP.out.fn HWJ.out _ HGJ.out HFJ.out HRJ.out (by have := HB.out; simp at hcl; simp [txt] at this ⊢; omega)).mono ?_; rintro e w2 ⟨⟨r, rfl⟩, hp⟩; have HP := hid_mk hp; clear hp))
        exact ⟨⟨j + 1, by omega, by go_num, hid_mk (HJ.out _ _ (by rw [HX.out]; simpa [txt] using HP.out))⟩, by simp [intOf]; omega⟩
      · obtain rfl : j = 0 := by omega
        simp only [Nat.zero_mul, Nat.add_zero] at c0 c1 c2 c3
        rw [if_pos rfl] at hcl HX
        go_wp2_with (go_at_call 83; refine (HP.out.fn HWJ.out _ HGJ.out HFJ.out HRJ.out (by have := HB.out; simp at hcl; simp [txt] at this ⊢; omega)).mono ?_; rintro e w2 ⟨⟨r, rfl⟩, hp⟩; have HP := hid_mk hp; clear hp)
        exact ⟨⟨1, by omega, by go_num, hid_mk (HJ.out _ _ (by rw [HX.out]; simpa [txt] using HP.out))⟩, by simp [intOf]; omega⟩
    · obtain rfl : j = n := by omega
      go_wp2
      go_end0
      exact HP.out.adds rfl _

set_option maxHeartbeats 4000000 in
set_option maxRecDepth 100000 in
theorem listW_par (T : Nd) (n cap0 : Nat) (hn : n ≤ T.len) (t : Nat → List UInt8) (hW : ∀ i, i < n → IW 39 (T.kids i) (fun _ => t i)) (pb : Nat) (own : Option Nat) (X : List UInt8) (d : Nat) (w : World) (a : Option Addr) (cap : Nat) (hbuf : IBuf pb w own d true X) (hg : Gl pb w) (hf : T.Fine) (hr : Row 0 pb w T (.slice a T.len cap0))
    (hb : X.length + (catTo (fun i => (if i = 0 then [] else [44, 32]) ++ t i) n).length ≤ 1099511627776) :
    Calls Tryz.prog 38 #[.pointer (some ⟨pb, 0, none⟩), .slice a n cap, .func (.func 39) #[.pointer (some ⟨pb, 0, none⟩)] #[]] w (IAdds pb X (catTo (fun i => (if i = 0 then [] else [44, 32]) ++ t i) n) d true own w) := by
  have hnn := T.fine_len hf
  have HP := hid_mk (IPst.start hbuf)
  have HB := hid_mk hb
  have HR := hid_mk hr
  have HW := hid_mk hW
  have HG := hid_mk hg
  have HF := hid_mk hf
  clear hb hbuf hr hW hg hf
  generalize hF : (fun i => (if i = 0 then [] else [44, 32]) ++ t i) = F at *
  have HFE := hid_mk hF
  have HFL := hid_mk (fun i (h : i < n) => catTo_at F h)
  clear hF
  go_enter Tryz.func38, Tryz.ntmps38
  go_wp2
  go_loopw [10] (fun i wr => ∃ j : Nat, j ≤ n ∧ i = .int .i64 j ∧ Hid (IPst pb own w d true (X ++ catTo F j) wr)) (fun i _ => n - (intOf i).toNat)
  case atStart => exact ⟨0, by omega, rfl, hid_mk (by simpa [catTo] using HP.out)⟩
  case round =>
    obtain ⟨j, hj, rfl, HP⟩ := hrel
    by_cases hlt : j < n
    · obtain ⟨g, off, cap', hv, hgp, hcap, hk⟩ := kid_at HR.out (by omega)
      obtain rfl : a = some ⟨g, off, none⟩ := by injection hv
      obtain ⟨u, hc, hru⟩ := hk j (by omega)
      obtain ⟨c0, c1, c2, c3⟩ := hc _ HP.out.below
      obtain ⟨au, lu, cu, rfl⟩ : ∃ a l c, u = .slice a l c := by obtain ⟨a, c, h, _⟩ := row_eq.1 hru; exact ⟨a, _, c, h⟩
      obtain ⟨own1, hbf, hjoin⟩ := HP.out.join
      have hcl := HFL.out j hlt
      have HFJE : Hid (F j = (if j = 0 then [] else [44, 32]) ++ t j) := by rw [← HFE.out]; rfl
      have HWJ := hid_mk (HW.out j hlt)
      have HFJ := hid_mk (Nd.fine_kid HF.out (show j < T.len by omega))
      have HX : Hid (catTo F (j + 1) = catTo F j ++ ((if j = 0 then [] else [44, 32]) ++ t j)) := by unfold Hid; rw [← HFJE.out]; rfl
      have HRJ := hid_mk (row_allocI hbf (row_below HP.out.below (Nat.le_refl _) hru) (.cells #[.int .i64 (T.kids j).kind, .int .i64 (T.kids j).num, .string (T.kids j).name, .slice au lu cu] 30))
      have HGJ := hid_mk ((HG.out.keep HP.out.below).alloc hbf.lt (.cells #[.int .i64 (T.kids j).kind, .int .i64 (T.kids j).num, .string (T.kids j).name, .slice au lu cu] 30))
      have HPF := hid_mk (IPst.startB hbf (.cells #[.int .i64 (T.kids j).kind, .int .i64 (T.kids j).num, .string (T.kids j).name, .slice au lu cu] 30))
      have HNF := hid_mk (IPst.node hbf (.int .i64 (T.kids j).kind) (.int .i64 (T.kids j).num) (.string (T.kids j).name) (.slice au lu cu) 30)
      have HJ := hid_mk (fun Y W (h : IPst pb own1 (wr.alloc (.cells #[.int .i64 (T.kids j).kind, .int .i64 (T.kids j).num, .string (T.kids j).name, .slice au lu cu] 30)) d true Y W) => hjoin _ _ Y W _ h)
      rw [HFJE.out, List.length_append] at hcl
      clear HP hk hc hru hv hcap hbf hjoin HFJE
      have HP := HPF
      clear HPF
      generalize T.kids j = K at *
      generalize t j = tj at *
      by_cases hj0 : 0 < j
      · have hjn : j ≠ 0 := by omega
        rw [if_neg hjn] at hcl HX
        go_wp2_with (first
          | (go_at_call 37; refine (HP.out.putAt [⟨#[44, 32]⟩] _ 1 _ (by simp) rfl rfl (by decide) (by have := HB.out; simp at hcl; simp [txt] at this ⊢; omega)).mono ?_; rintro e w2 ⟨⟨r, rfl⟩, hp⟩; obtain ⟨b0, b1, b2, b3⟩ := HNF.out _ _ _ _ hp; have HP := hid_mk hp; clear hp)
          | (go_at_call 39; refine (HP.out.fn HWJ.out _ HGJ.out HFJ.out HRJ.out (by have := HB.out; simp at hcl; simp [txt] at this ⊢; omega)).mono ?_; rintro e w2 ⟨⟨r, rfl⟩, hp⟩; have HP := hid_mk hp; clear hp))
        exact ⟨⟨j + 1, by omega, by go_num, hid_mk (HJ.out _ _ (by rw [HX.out]; simpa [txt] using HP.out))⟩, by simp [intOf]; omega⟩
      · obtain rfl : j = 0 := by omega
        simp only [Nat.zero_mul, Nat.add_zero] at c0 c1 c2 c3
        rw [if_pos rfl] at hcl HX
        go_wp2_with (go_at_call 39; refine (HP.out.fn HWJ.out _ HGJ.out HFJ.out HRJ.out (by have := HB.out; simp at hcl; simp [txt] at this ⊢; omega)).mono ?_; rintro e w2 ⟨⟨r, rfl⟩, hp⟩; have HP := hid_mk hp; clear hp)
        exact ⟨⟨1, by omega, by go_num, hid_mk (HJ.out _ _ (by rw [HX.out]; simpa [txt] using HP.out))⟩, by simp [intOf]; omega⟩
    · obtain rfl : j = n := by omega
      go_wp2
      go_end0
      exact HP.out.adds rfl _
theorem IPst.listed_ex {T : Nd} {n cap0 : Nat} (hn : n ≤ T.len) {t : Nat → List UInt8} (hW : ∀ i, i < n → IW 83 (T.kids i) (fun _ => t i)) {pb : Nat} {own0 : Option Nat} {w0 w : World} {d : Nat} {Y : List UInt8} (h : IPst pb own0 w0 d true Y w) (a : Option Addr) (cap : Nat) (hg : Gl pb w0) (hf : T.Fine) (hr : Row 0 pb w0 T (.slice a T.len cap0)) (hb : Y.length + (catTo (fun i => (if i = 0 then [] else [44, 32]) ++ t i) n).length ≤ 1099511627776) :
    Calls Tryz.prog 38 #[.pointer (some ⟨pb, 0, none⟩), .slice a n cap, .func (.func 83) #[.pointer (some ⟨pb, 0, none⟩)] #[]] w fun e w' => (∃ r, e = .returned r) ∧ IPst pb own0 w0 d true (Y ++ catTo (fun i => (if i = 0 then [] else [44, 32]) ++ t i) n) w' :=
  h.lift fun own hbuf => listW_ex T n cap0 hn t hW pb own Y d w a cap hbuf (hg.keep h.below) hf (row_below h.below (Nat.le_refl _) hr) hb
theorem IPst.listed_par {T : Nd} {n cap0 : Nat} (hn : n ≤ T.len) {t : Nat → List UInt8} (hW : ∀ i, i < n → IW 39 (T.kids i) (fun _ => t i)) {pb : Nat} {own0 : Option Nat} {w0 w : World} {d : Nat} {Y : List UInt8} (h : IPst pb own0 w0 d true Y w) (a : Option Addr) (cap : Nat) (hg : Gl pb w0) (hf : T.Fine) (hr : Row 0 pb w0 T (.slice a T.len cap0)) (hb : Y.length + (catTo (fun i => (if i = 0 then [] else [44, 32]) ++ t i) n).length ≤ 1099511627776) :
    Calls Tryz.prog 38 #[.pointer (some ⟨pb, 0, none⟩), .slice a n cap, .func (.func 39) #[.pointer (some ⟨pb, 0, none⟩)] #[]] w fun e w' => (∃ r, e = .returned r) ∧ IPst pb own0 w0 d true (Y ++ catTo (fun i => (if i = 0 then [] else [44, 32]) ++ t i) n) w' :=
  h.lift fun own hbuf => listW_par T n cap0 hn t hW pb own Y d w a cap hbuf (hg.keep h.below) hf (row_below h.below (Nat.le_refl _) hr) hb

end Go.Proofs.YtacamenjijlemaaGreatDoor

/- The program's printer: calls. -/
namespace Go.Proofs.YtacamenjijlemaaGreatDoor
open Go.RowKit

set_option maxHeartbeats 2000000 in
set_option maxRecDepth 100000 in
theorem call_of (T : Nd) (s : ByteArray) (ih : ∀ i, i < T.len → IEx (T.kids i)) (hok : ∀ i, i < T.len → (T.kids i).eOk = true) (pb : Nat) (own : Option Nat) (X : List UInt8) (d : Nat) (b : Bool) (w : World) (v : Value) (hbuf : IBuf pb w own d b X) (hg : Gl pb w) (hf : T.Fine) (hr : Row 0 pb w T v)
    (hb : X.length + ((ahead d b).length + (s.data.toList ++ 40 :: (catTo (fun i => (if i = 0 then [] else [44, 32]) ++ (prN (T.kids i)).ex 1) T.len ++ [41])).length) ≤ 1099511627776) :
    Calls Tryz.prog 88 #[.pointer (some ⟨pb, 0, none⟩), .string s, v] w (IAdds pb X (ahead d b ++ (s.data.toList ++ 40 :: (catTo (fun i => (if i = 0 then [] else [44, 32]) ++ (prN (T.kids i)).ex 1) T.len ++ [41]))) d true own w) := by
  obtain ⟨a, cap, rfl, _⟩ := row_eq.1 hr
  have HP := hid_mk (IPst.start hbuf)
  have HB := hid_mk hb
  have HL := hid_mk (fun Y W (h : IPst pb own w d true Y W) hb => h.listed_ex (Nat.le_refl T.len) (fun i hi => iw_of (ih i hi) (hok i hi)) a cap hg hf hr hb)
  clear hb hbuf ih hok hg hf hr
  generalize catTo (fun i => (if i = 0 then [] else [44, 32]) ++ (prN (T.kids i)).ex 1) T.len = args at *
  go_enter Tryz.func88, Tryz.ntmps88
  go_wp2_with (first
    | (go_at_call 38; refine (HL.out _ _ HP.out (by have := HB.out; simp [txt] at this ⊢; omega)).mono ?_; rintro e w3 ⟨⟨r, rfl⟩, hp⟩; have HP := hid_mk hp; clear hp)
    | (go_at_call_of 37 w; refine (HP.out.putAt [s, ⟨#[40]⟩] _ 2 _ (by simp) rfl rfl (by decide) (by have := HB.out; simp [txt] at this ⊢; omega)).mono ?_; rintro e w2 ⟨⟨r, rfl⟩, hp⟩; have HP := hid_mk hp; clear hp)
    | (go_at_call_of 37 w3; refine (HP.out.putAt [⟨#[41]⟩] _ 1 _ (by simp) rfl rfl (by decide) (by have := HB.out; simp [txt] at this ⊢; omega)).mono ?_; rintro e w4 ⟨⟨r, rfl⟩, hp⟩; have HP := hid_mk hp; clear hp))
  go_end0
  exact HP.out.adds (by simp [txt]) _
theorem IPst.callw {T : Nd} (s : ByteArray) (ih : ∀ i, i < T.len → IEx (T.kids i)) (hok : ∀ i, i < T.len → (T.kids i).eOk = true) {pb : Nat} {own0 : Option Nat} {w0 w : World} {d : Nat} {b : Bool} {Y : List UInt8} (h : IPst pb own0 w0 d b Y w) (v : Value) (hg : Gl pb w0) (hf : T.Fine) (hr : Row 0 pb w0 T v) (hb : Y.length + ((ahead d b).length + (s.data.toList ++ 40 :: (catTo (fun i => (if i = 0 then [] else [44, 32]) ++ (prN (T.kids i)).ex 1) T.len ++ [41])).length) ≤ 1099511627776) :
    Calls Tryz.prog 88 #[.pointer (some ⟨pb, 0, none⟩), .string s, v] w fun e w' => (∃ r, e = .returned r) ∧ IPst pb own0 w0 d true (Y ++ (ahead d b ++ (s.data.toList ++ 40 :: (catTo (fun i => (if i = 0 then [] else [44, 32]) ++ (prN (T.kids i)).ex 1) T.len ++ [41])))) w' :=
  h.lift fun own hbuf => call_of T s ih hok pb own Y d b w v hbuf (hg.keep h.below) hf (row_below h.below (Nat.le_refl _) hr) hb
end Go.Proofs.YtacamenjijlemaaGreatDoor

/- The program's printer: a word and what is behind it; a channel that is made. -/
namespace Go.Proofs.YtacamenjijlemaaGreatDoor
open Go.RowKit

set_option maxHeartbeats 4000000 in
set_option maxRecDepth 100000 in
theorem worded_of (T : Nd) (s : ByteArray) (n cap0 : Nat) (hn : n ≤ T.len) (hW : ∀ i, i < n → IW 83 (T.kids i) (fun _ => (prN (T.kids i)).ex 1)) (pb : Nat) (own : Option Nat) (X : List UInt8) (d : Nat) (b : Bool) (w : World) (a : Option Addr) (cap : Nat) (hbuf : IBuf pb w own d b X) (hg : Gl pb w) (hf : T.Fine) (hr : Row 0 pb w T (.slice a T.len cap0))
    (hb : X.length + ((ahead d b).length + (s.data.toList ++ catTo (fun i => [32] ++ (prN (T.kids i)).ex 1) n).length) ≤ 1099511627776) :
    Calls Tryz.prog 86 #[.pointer (some ⟨pb, 0, none⟩), .string s, .slice a n cap] w (IAdds pb X (ahead d b ++ (s.data.toList ++ catTo (fun i => [32] ++ (prN (T.kids i)).ex 1) n)) d true own w) := by
  have hnn := T.fine_len hf
  have HP := hid_mk (IPst.start hbuf)
  have HB := hid_mk hb
  have HR := hid_mk hr
  have HW := hid_mk hW
  have HG := hid_mk hg
  have HF := hid_mk hf
  clear hb hbuf hr hW hg hf
  generalize hF : (fun i => [32] ++ (prN (T.kids i)).ex 1) = F at *
  have HFE := hid_mk hF
  have HFL := hid_mk (fun i (h : i < n) => catTo_at F h)
  clear hF
  go_enter Tryz.func86, Tryz.ntmps86
  go_wp2_with (go_at_call_of 37 w; refine (HP.out.putAt [s] _ 1 _ (by simp) rfl rfl (by decide) (by have := HB.out; simp [txt] at this ⊢; omega)).mono ?_; rintro e w2 ⟨⟨r, rfl⟩, hp⟩; have HP := hid_mk hp; clear hp)
  go_loopw [16] (fun i wr => ∃ j : Nat, j ≤ n ∧ i = .int .i64 j ∧ Hid (IPst pb own w d true ((X ++ (ahead d b ++ s.data.toList)) ++ catTo F j) wr)) (fun i _ => n - (intOf i).toNat)
  case atStart => exact ⟨0, by omega, rfl, hid_mk (by simpa [catTo, txt] using HP.out)⟩
  case round =>
    obtain ⟨j, hj, rfl, HP⟩ := hrel
    by_cases hlt : j < n
    · obtain ⟨g, off, cap', hv, hgp, hcap, hk⟩ := kid_at HR.out (by omega)
      obtain rfl : a = some ⟨g, off, none⟩ := by injection hv
      obtain ⟨u, hc, hru⟩ := hk j (by omega)
      obtain ⟨c0, c1, c2, c3⟩ := hc _ HP.out.below
      obtain ⟨au, lu, cu, rfl⟩ : ∃ a l c, u = .slice a l c := by obtain ⟨a, c, h, _⟩ := row_eq.1 hru; exact ⟨a, _, c, h⟩
      obtain ⟨own1, hbf, hjoin⟩ := HP.out.join
      have hcl := HFL.out j hlt
      have HWJ := hid_mk (HW.out j hlt)
      have HFJ := hid_mk (Nd.fine_kid HF.out (show j < T.len by omega))
      have HFJE : Hid (F j = [32] ++ (prN (T.kids j)).ex 1) := by rw [← HFE.out]; rfl
      have HX : Hid (catTo F (j + 1) = catTo F j ++ ([32] ++ (prN (T.kids j)).ex 1)) := by unfold Hid; rw [← HFJE.out]; rfl
      have HRJ := hid_mk (row_allocI hbf (row_below HP.out.below (Nat.le_refl _) hru) (.cells #[.int .i64 (T.kids j).kind, .int .i64 (T.kids j).num, .string (T.kids j).name, .slice au lu cu] 30))
      have HGJ := hid_mk ((HG.out.keep HP.out.below).alloc hbf.lt (.cells #[.int .i64 (T.kids j).kind, .int .i64 (T.kids j).num, .string (T.kids j).name, .slice au lu cu] 30))
      have HPF := hid_mk (IPst.startB hbf (.cells #[.int .i64 (T.kids j).kind, .int .i64 (T.kids j).num, .string (T.kids j).name, .slice au lu cu] 30))
      have HNF := hid_mk (IPst.node hbf (.int .i64 (T.kids j).kind) (.int .i64 (T.kids j).num) (.string (T.kids j).name) (.slice au lu cu) 30)
      have HJ := hid_mk (fun Y W (h : IPst pb own1 (wr.alloc (.cells #[.int .i64 (T.kids j).kind, .int .i64 (T.kids j).num, .string (T.kids j).name, .slice au lu cu] 30)) d true Y W) => hjoin _ _ Y W _ h)
      rw [HFJE.out, List.length_append] at hcl
      clear HP hk hc hru hv hcap hbf hjoin HFJE
      have HP := HPF
      clear HPF
      generalize T.kids j = K at *
      go_wp2_with (first
        | (go_at_call 37; refine (HP.out.putAt [⟨#[32]⟩] _ 1 _ (by simp) rfl rfl (by decide) (by have := HB.out; simp at hcl; simp [txt] at this ⊢; omega)).mono ?_; rintro e w2 ⟨⟨r, rfl⟩, hp⟩; obtain ⟨b0, b1, b2, b3⟩ := HNF.out _ _ _ _ hp; have HP := hid_mk hp; clear hp)
        | (go_at_call 83; refine (HP.out.fn HWJ.out _ HGJ.out HFJ.out HRJ.out (by have := HB.out; simp at hcl; simp [txt] at this ⊢; omega)).mono ?_; rintro e w2 ⟨⟨r, rfl⟩, hp⟩; have HP := hid_mk hp; clear hp))
      exact ⟨⟨j + 1, by omega, by go_num, hid_mk (HJ.out _ _ (by rw [HX.out]; simpa [txt] using HP.out))⟩, by simp [intOf]; omega⟩
    · obtain rfl : j = n := by omega
      go_wp2
      go_end0
      exact HP.out.adds (by simp) _
theorem IPst.worded {T : Nd} (s : ByteArray) {n cap0 : Nat} (hn : n ≤ T.len) (hW : ∀ i, i < n → IW 83 (T.kids i) (fun _ => (prN (T.kids i)).ex 1)) {pb : Nat} {own0 : Option Nat} {w0 w : World} {d : Nat} {b : Bool} {Y : List UInt8} (h : IPst pb own0 w0 d b Y w) (a : Option Addr) (cap : Nat) (hg : Gl pb w0) (hf : T.Fine) (hr : Row 0 pb w0 T (.slice a T.len cap0)) (hb : Y.length + ((ahead d b).length + (s.data.toList ++ catTo (fun i => [32] ++ (prN (T.kids i)).ex 1) n).length) ≤ 1099511627776) :
    Calls Tryz.prog 86 #[.pointer (some ⟨pb, 0, none⟩), .string s, .slice a n cap] w fun e w' => (∃ r, e = .returned r) ∧ IPst pb own0 w0 d true (Y ++ (ahead d b ++ (s.data.toList ++ catTo (fun i => [32] ++ (prN (T.kids i)).ex 1) n))) w' :=
  h.lift fun own hbuf => worded_of T s n cap0 hn hW pb own Y d b w a cap hbuf (hg.keep h.below) hf (row_below h.below (Nat.le_refl _) hr) hb


set_option maxHeartbeats 4000000 in
set_option maxRecDepth 100000 in
theorem chan_of (T : Nd) (hW : ∀ i, i < T.len → IW 83 (T.kids i) (fun _ => (prN (T.kids i)).ex 1)) : IW 92 T (fun _ => [109, 97, 107, 101, 40, 99, 104, 97, 110, 32, 105, 110, 116] ++ (catTo (fun i => [44, 32] ++ (prN (T.kids i)).ex 1) T.len ++ [41])) := by
  intro pb own X d b w v hbuf hg hf hr hb
  have hnn := T.fine_len hf
  obtain ⟨a, cap, rfl, _⟩ := row_eq.1 hr
  unfold Nd.val
  have HP := hid_mk (IPst.startB hbuf (.cells #[.int .i64 T.kind, .int .i64 T.num, .string T.name, .slice a T.len cap] 30))
  have HN := hid_mk (IPst.node hbuf (.int .i64 T.kind) (.int .i64 T.num) (.string T.name) (.slice a T.len cap) 30)
  have HR := hid_mk (row_allocI hbuf hr (.cells #[.int .i64 T.kind, .int .i64 T.num, .string T.name, .slice a T.len cap] 30))
  have hg2 := hg.alloc hbuf.lt (.cells #[.int .i64 T.kind, .int .i64 T.num, .string T.name, .slice a T.len cap] 30)
  have HG := hid_mk hg2
  have HT : Hid (∀ W, Below pb (w.alloc (.cells #[.int .i64 T.kind, .int .i64 T.num, .string T.name, .slice a T.len cap] 30)) W → W.cell? ⟨0, 3, none⟩ = some (.string ⟨#[99, 104, 97, 110, 32, 105, 110, 116]⟩)) := fun W hW => (hg2 W hW).2 3 (by decide)
  have t3 := HT.out _ (Below.refl _ _)
  have HB := hid_mk hb
  have HW := hid_mk hW
  have HF := hid_mk hf
  have HM : Hid (∀ d' b' Y W, IPst pb own (w.alloc (.cells #[.int .i64 T.kind, .int .i64 T.num, .string T.name, .slice a T.len cap] 30)) d' b' Y W → W.cell? ⟨w.heap.size, 3, none⟩ = some (.slice a T.len cap)) := fun d' b' Y W h => (IPst.node hbuf (.int .i64 T.kind) (.int .i64 T.num) (.string T.name) (.slice a T.len cap) 30 d' b' Y W h).2.2.2
  clear hb hbuf hr hW hg hf hg2
  generalize hF : (fun i => [44, 32] ++ (prN (T.kids i)).ex 1) = F at *
  have HFE := hid_mk hF
  have HFL := hid_mk (fun i (h : i < T.len) => catTo_at F h)
  clear hF
  generalize T.name = ts at *
  generalize T.num = tn at *
  generalize T.kind = tk at *
  go_enter Tryz.func92, Tryz.ntmps92
  go_wp2
  go_region_with (go_at_call_of 37 w; refine (HP.out.putD [⟨#[109, 97, 107, 101, 40]⟩, ⟨#[99, 104, 97, 110, 32, 105, 110, 116]⟩] _ 2 _ (by simp) rfl rfl (by decide) (by have := HB.out; simp [txt] at this ⊢; omega)).mono ?_; rintro e w2 ⟨⟨r, rfl⟩, hp⟩; have b3 := HM.out _ _ _ _ hp; have HP := hid_mk hp; clear hp)
  go_wp2
  go_loopw [16] (fun i wr => ∃ j : Nat, j ≤ T.len ∧ i = .int .i64 j ∧ Hid (IPst pb own (w.alloc (.cells #[.int .i64 tk, .int .i64 tn, .string ts, .slice a T.len cap] 30)) d true ((X ++ (ahead d b ++ [109, 97, 107, 101, 40, 99, 104, 97, 110, 32, 105, 110, 116])) ++ catTo F j) wr)) (fun i _ => T.len - (intOf i).toNat)
  case atStart => exact ⟨0, by omega, rfl, hid_mk (by simpa [catTo, txt] using HP.out)⟩
  case round =>
    obtain ⟨j, hj, rfl, HP⟩ := hrel
    by_cases hlt : j < T.len
    · obtain ⟨g, off, cap', hv, hgp, hcap, hk⟩ := kid_at HR.out (by omega)
      obtain rfl : a = some ⟨g, off, none⟩ := by injection hv
      obtain ⟨u, hc, hru⟩ := hk j (by omega)
      obtain ⟨c0, c1, c2, c3⟩ := hc _ HP.out.below
      obtain ⟨au, lu, cu, rfl⟩ : ∃ a l c, u = .slice a l c := by obtain ⟨a, c, h, _⟩ := row_eq.1 hru; exact ⟨a, _, c, h⟩
      obtain ⟨own1, hbf, hjoin⟩ := HP.out.join
      have hcl := HFL.out j hlt
      have HWJ := hid_mk (HW.out j hlt)
      have HFJ := hid_mk (Nd.fine_kid HF.out (show j < T.len by omega))
      have HFJE : Hid (F j = [44, 32] ++ (prN (T.kids j)).ex 1) := by rw [← HFE.out]; rfl
      have HX : Hid (catTo F (j + 1) = catTo F j ++ ([44, 32] ++ (prN (T.kids j)).ex 1)) := by unfold Hid; rw [← HFJE.out]; rfl
      have HRJ := hid_mk (row_allocI hbf (row_below HP.out.below (Nat.le_refl _) hru) (.cells #[.int .i64 (T.kids j).kind, .int .i64 (T.kids j).num, .string (T.kids j).name, .slice au lu cu] 30))
      have HGJ := hid_mk ((HG.out.keep HP.out.below).alloc hbf.lt (.cells #[.int .i64 (T.kids j).kind, .int .i64 (T.kids j).num, .string (T.kids j).name, .slice au lu cu] 30))
      have HPF := hid_mk (IPst.startB hbf (.cells #[.int .i64 (T.kids j).kind, .int .i64 (T.kids j).num, .string (T.kids j).name, .slice au lu cu] 30))
      have HNF := hid_mk (IPst.node hbf (.int .i64 (T.kids j).kind) (.int .i64 (T.kids j).num) (.string (T.kids j).name) (.slice au lu cu) 30)
      have HJ := hid_mk (fun Y W (h : IPst pb own1 (wr.alloc (.cells #[.int .i64 (T.kids j).kind, .int .i64 (T.kids j).num, .string (T.kids j).name, .slice au lu cu] 30)) d true Y W) => hjoin _ _ Y W _ h)
      rw [HFJE.out, List.length_append] at hcl
      clear HP hk hc hru hv hcap hbf hjoin HFJE
      have HP := HPF
      clear HPF
      generalize T.kids j = K at *
      go_wp2_with (first
        | (go_at_call 37; refine (HP.out.putAt [⟨#[44, 32]⟩] _ 1 _ (by simp) rfl rfl (by decide) (by have := HB.out; simp at hcl; simp [txt] at this ⊢; omega)).mono ?_; rintro e w2 ⟨⟨r, rfl⟩, hp⟩; obtain ⟨b0, b1, b2, b3⟩ := HNF.out _ _ _ _ hp; have HP := hid_mk hp; clear hp)
        | (go_at_call 83; refine (HP.out.fn HWJ.out _ HGJ.out HFJ.out HRJ.out (by have := HB.out; simp at hcl; simp [txt] at this ⊢; omega)).mono ?_; rintro e w2 ⟨⟨r, rfl⟩, hp⟩; have HP := hid_mk hp; clear hp))
      exact ⟨⟨j + 1, by omega, by go_num, hid_mk (HJ.out _ _ (by rw [HX.out]; simpa [txt] using HP.out))⟩, by simp [intOf]; omega⟩
    · obtain rfl : j = T.len := by omega
      go_wp2_with (go_at_call 37; refine (HP.out.putAt [⟨#[41]⟩] _ 1 _ (by simp) rfl rfl (by decide) (by have := HB.out; simp [txt] at this ⊢; omega)).mono ?_; rintro e w4 ⟨⟨r, rfl⟩, hp⟩; have HP := hid_mk hp; clear hp)
      go_end0
      exact HP.out.addsB (by simp [txt]) _
end Go.Proofs.YtacamenjijlemaaGreatDoor
