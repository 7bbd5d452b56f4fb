/- The program's printer: functions. -/
import Derived.Test.YtacamenjijlemaaGreatDoorPmPiA
import Derived.Test.YtacamenjijlemaaGreatDoorPmPiG
import Derived.Test.YtacamenjijlemaaGreatDoorPmPrG
import Derived.Deep.RegionHeld3
import Derived.StillTailTactics
import Derived.WalkSpells
import Derived.WalkSmall
import Derived.Lib.UnsafeStr
import Derived.RegionTactic
import Derived.Test.YtacamenjijlemaaGreatDoorPmPiB
set_option linter.unusedVariables false
namespace Go.Proofs.YtacamenjijlemaaGreatDoor
open Go.RowKit

set_option maxHeartbeats 4000000 in
set_option maxRecDepth 100000 in
theorem fun_0 (T : Nd) (m : Nat) (hm : T.len = m + 1) (hnum : T.num = 0) (hP : ∀ i, i < m → IW 39 (T.kids i) (fun _ => (T.kids i).name.data.toList ++ 32 :: typeT (T.kids i).num)) (hB : IW 40 (T.kids m) (fun d => blockT d ((prN (T.kids m)).sts (d + 1)))) : IW 26 T (fun d => [102, 117, 110, 99, 32] ++ (T.name.data.toList ++ (40 :: (catTo (parmT T) m ++ ([41, 32] ++ ( blockT d ((prN (T.kids m)).sts (d + 1)))))))) := by
  intro pb own X d b w v hbuf hg hf hr hb
  dsimp only at hb ⊢
  have hn := T.fine_len hf
  obtain ⟨g, off, cap, rfl, hgp, hcap, hkid⟩ := kid_at hr (by omega)
  obtain ⟨u, hc, hru⟩ := hkid m (by omega)
  have hval : T.val (.slice (some ⟨g, off, none⟩) T.len cap) = .agg #[.int .i64 T.kind, .int .i64 0, .string T.name, .slice (some ⟨g, off, none⟩) (m + 1) cap] := by unfold Nd.val; rw [hnum, hm]
  rw [hval]
  have HP := hid_mk (IPst.startB hbuf (.cells #[.int .i64 T.kind, .int .i64 0, .string T.name, .slice (some ⟨g, off, none⟩) (m + 1) cap] 30))
  have HN := hid_mk (IPst.node hbuf (.int .i64 T.kind) (.int .i64 0) (.string T.name) (.slice (some ⟨g, off, none⟩) (m + 1) cap) 30)
  have hg2 := hg.alloc hbuf.lt (.cells #[.int .i64 T.kind, .int .i64 0, .string T.name, .slice (some ⟨g, off, none⟩) (m + 1) cap] 30)
  have HG := hid_mk hg2
  have HT : Hid (∀ d' b' Y W, IPst pb own (w.alloc (.cells #[.int .i64 T.kind, .int .i64 0, .string T.name, .slice (some ⟨g, off, none⟩) (m + 1) cap] 30)) d' b' Y W → W.cell? ⟨0, 0, none⟩ = some (.string ⟨#[]⟩)) := fun d' b' Y W h => (hg2 W h.below).2 0 (by decide)
  have HC := hid_mk (fun d' b' Y W (h : IPst pb own (w.alloc (.cells #[.int .i64 T.kind, .int .i64 0, .string T.name, .slice (some ⟨g, off, none⟩) (m + 1) cap] 30)) d' b' Y W) => hc W (h.belowB hbuf))
  have HRU := hid_mk (row_allocI hbuf hru (.cells #[.int .i64 T.kind, .int .i64 0, .string T.name, .slice (some ⟨g, off, none⟩) (m + 1) cap] 30))
  have HFU := hid_mk (Nd.fine_kid hf (show m < T.len by omega))
  have HBK := hid_mk hB
  have hLS := fun Y W (h : IPst pb own (w.alloc (.cells #[.int .i64 T.kind, .int .i64 0, .string T.name, .slice (some ⟨g, off, none⟩) (m + 1) cap] 30)) d true Y W) hb => h.listed_par (n := m) (by omega) hP (some ⟨g, off, none⟩) cap hg2 hf (row_allocI hbuf hr (.cells #[.int .i64 T.kind, .int .i64 0, .string T.name, .slice (some ⟨g, off, none⟩) (m + 1) cap] 30)) hb
  have HLS : Hid (∀ Y W, IPst pb own (w.alloc (.cells #[.int .i64 T.kind, .int .i64 0, .string T.name, .slice (some ⟨g, off, none⟩) (m + 1) cap] 30)) d true Y W → Y.length + (catTo (parmT T) m).length ≤ 1099511627776 → Calls Tryz.prog 38 #[.pointer (some ⟨pb, 0, none⟩), .slice (some ⟨g, off, none⟩) m cap, .func (.func 39) #[.pointer (some ⟨pb, 0, none⟩)] #[]] W fun e w' => (∃ r, e = .returned r) ∧ IPst pb own (w.alloc (.cells #[.int .i64 T.kind, .int .i64 0, .string T.name, .slice (some ⟨g, off, none⟩) (m + 1) cap] 30)) d true (Y ++ catTo (parmT T) m) w') := hLS
  have hs : T.name.size ≤ 1099511627776 := by
    have := hb
    simp at this
    omega
  have hcp1 : m + 1 ≤ cap := by omega
  have hcp2 : cap ≤ 9223372036854775807 := by omega
  have HB := hid_mk hb
  clear hb hbuf hr hg hg2 hf hru hc hkid hP hB hnum hval hcap hLS
  clear hm
  generalize catTo (parmT T) m = ps at *
  generalize T.kids m = K at *
  generalize T.name = ts at *
  generalize T.kind = tk at *
  go_enter Tryz.func26, Tryz.ntmps26
  go_wp2
  go_region_with (go_at_call_of 37 w; refine (HP.out.putD [⟨#[102, 117, 110, 99, 32]⟩, ts, ⟨#[40]⟩] _ 3 _ (by simp) rfl rfl (by decide) (by have := HB.out; simp [txt] at this ⊢; omega)).mono ?_; rintro e w2 ⟨⟨r, rfl⟩, hp⟩; obtain ⟨b0, b1, b2, b3⟩ := HN.out _ _ _ _ hp; obtain ⟨c0, c1, c2, c3⟩ := HC.out _ _ _ _ hp; have t3 := HT.out _ _ _ _ hp; have HP := hid_mk hp; clear hp)
  go_wp2_with (first
    | (go_at_call 38; refine (HLS.out _ _ HP.out (by have := HB.out; simp [txt] at this ⊢; omega)).mono ?_; rintro e w3 ⟨⟨r, rfl⟩, hp⟩; obtain ⟨b0, b1, b2, b3⟩ := HN.out _ _ _ _ hp; obtain ⟨c0, c1, c2, c3⟩ := HC.out _ _ _ _ hp; have t3 := HT.out _ _ _ _ hp; have HP := hid_mk hp; clear hp)
    | (go_at_call_of 37 w3; refine (HP.out.putAt [⟨#[41, 32]⟩] _ 1 _ (by simp) rfl rfl (by decide) (by have := HB.out; simp [txt] at this ⊢; omega)).mono ?_; rintro e w4 ⟨⟨r, rfl⟩, hp⟩; obtain ⟨b0, b1, b2, b3⟩ := HN.out _ _ _ _ hp; obtain ⟨c0, c1, c2, c3⟩ := HC.out _ _ _ _ hp; have t3 := HT.out _ _ _ _ hp; have HP := hid_mk hp; clear hp)
    | (go_at_call 40; refine (HP.out.fn HBK.out u HG.out HFU.out HRU.out (by have := HB.out; simp [txt] at this ⊢; omega)).mono ?_; rintro e w5 ⟨⟨r, rfl⟩, hp⟩; obtain ⟨b0, b1, b2, b3⟩ := HN.out _ _ _ _ hp; obtain ⟨c0, c1, c2, c3⟩ := HC.out _ _ _ _ hp; have t3 := HT.out _ _ _ _ hp; have HP := hid_mk hp; clear hp))
  go_end0
  exact HP.out.addsB (by simp [txt]) _

set_option maxHeartbeats 4000000 in
set_option maxRecDepth 100000 in
theorem fun_1 (T : Nd) (m : Nat) (hm : T.len = m + 1) (hnum : T.num = 1) (hP : ∀ i, i < m → IW 39 (T.kids i) (fun _ => (T.kids i).name.data.toList ++ 32 :: typeT (T.kids i).num)) (hB : IW 40 (T.kids m) (fun d => blockT d ((prN (T.kids m)).sts (d + 1)))) : IW 26 T (fun d => [102, 117, 110, 99, 32] ++ (T.name.data.toList ++ (40 :: (catTo (parmT T) m ++ ([41, 32] ++ (([105, 110, 116] ++ [32]) ++ blockT d ((prN (T.kids m)).sts (d + 1)))))))) := by
  intro pb own X d b w v hbuf hg hf hr hb
  dsimp only at hb ⊢
  have hn := T.fine_len hf
  obtain ⟨g, off, cap, rfl, hgp, hcap, hkid⟩ := kid_at hr (by omega)
  obtain ⟨u, hc, hru⟩ := hkid m (by omega)
  have hval : T.val (.slice (some ⟨g, off, none⟩) T.len cap) = .agg #[.int .i64 T.kind, .int .i64 1, .string T.name, .slice (some ⟨g, off, none⟩) (m + 1) cap] := by unfold Nd.val; rw [hnum, hm]
  rw [hval]
  have HP := hid_mk (IPst.startB hbuf (.cells #[.int .i64 T.kind, .int .i64 1, .string T.name, .slice (some ⟨g, off, none⟩) (m + 1) cap] 30))
  have HN := hid_mk (IPst.node hbuf (.int .i64 T.kind) (.int .i64 1) (.string T.name) (.slice (some ⟨g, off, none⟩) (m + 1) cap) 30)
  have hg2 := hg.alloc hbuf.lt (.cells #[.int .i64 T.kind, .int .i64 1, .string T.name, .slice (some ⟨g, off, none⟩) (m + 1) cap] 30)
  have HG := hid_mk hg2
  have HT : Hid (∀ d' b' Y W, IPst pb own (w.alloc (.cells #[.int .i64 T.kind, .int .i64 1, .string T.name, .slice (some ⟨g, off, none⟩) (m + 1) cap] 30)) d' b' Y W → W.cell? ⟨0, 1, none⟩ = some (.string ⟨#[105, 110, 116]⟩)) := fun d' b' Y W h => (hg2 W h.below).2 1 (by decide)
  have HC := hid_mk (fun d' b' Y W (h : IPst pb own (w.alloc (.cells #[.int .i64 T.kind, .int .i64 1, .string T.name, .slice (some ⟨g, off, none⟩) (m + 1) cap] 30)) d' b' Y W) => hc W (h.belowB hbuf))
  have HRU := hid_mk (row_allocI hbuf hru (.cells #[.int .i64 T.kind, .int .i64 1, .string T.name, .slice (some ⟨g, off, none⟩) (m + 1) cap] 30))
  have HFU := hid_mk (Nd.fine_kid hf (show m < T.len by omega))
  have HBK := hid_mk hB
  have hLS := fun Y W (h : IPst pb own (w.alloc (.cells #[.int .i64 T.kind, .int .i64 1, .string T.name, .slice (some ⟨g, off, none⟩) (m + 1) cap] 30)) d true Y W) hb => h.listed_par (n := m) (by omega) hP (some ⟨g, off, none⟩) cap hg2 hf (row_allocI hbuf hr (.cells #[.int .i64 T.kind, .int .i64 1, .string T.name, .slice (some ⟨g, off, none⟩) (m + 1) cap] 30)) hb
  have HLS : Hid (∀ Y W, IPst pb own (w.alloc (.cells #[.int .i64 T.kind, .int .i64 1, .string T.name, .slice (some ⟨g, off, none⟩) (m + 1) cap] 30)) d true Y W → Y.length + (catTo (parmT T) m).length ≤ 1099511627776 → Calls Tryz.prog 38 #[.pointer (some ⟨pb, 0, none⟩), .slice (some ⟨g, off, none⟩) m cap, .func (.func 39) #[.pointer (some ⟨pb, 0, none⟩)] #[]] W fun e w' => (∃ r, e = .returned r) ∧ IPst pb own (w.alloc (.cells #[.int .i64 T.kind, .int .i64 1, .string T.name, .slice (some ⟨g, off, none⟩) (m + 1) cap] 30)) d true (Y ++ catTo (parmT T) m) w') := hLS
  have hs : T.name.size ≤ 1099511627776 := by
    have := hb
    simp at this
    omega
  have hcp1 : m + 1 ≤ cap := by omega
  have hcp2 : cap ≤ 9223372036854775807 := by omega
  have HB := hid_mk hb
  clear hb hbuf hr hg hg2 hf hru hc hkid hP hB hnum hval hcap hLS
  clear hm
  generalize catTo (parmT T) m = ps at *
  generalize T.kids m = K at *
  generalize T.name = ts at *
  generalize T.kind = tk at *
  go_enter Tryz.func26, Tryz.ntmps26
  go_wp2
  go_region_with (go_at_call_of 37 w; refine (HP.out.putD [⟨#[102, 117, 110, 99, 32]⟩, ts, ⟨#[40]⟩] _ 3 _ (by simp) rfl rfl (by decide) (by have := HB.out; simp [txt] at this ⊢; omega)).mono ?_; rintro e w2 ⟨⟨r, rfl⟩, hp⟩; obtain ⟨b0, b1, b2, b3⟩ := HN.out _ _ _ _ hp; obtain ⟨c0, c1, c2, c3⟩ := HC.out _ _ _ _ hp; have t3 := HT.out _ _ _ _ hp; have HP := hid_mk hp; clear hp)
  go_wp2_with (first
    | (go_at_call 38; refine (HLS.out _ _ HP.out (by have := HB.out; simp [txt] at this ⊢; omega)).mono ?_; rintro e w3 ⟨⟨r, rfl⟩, hp⟩; obtain ⟨b0, b1, b2, b3⟩ := HN.out _ _ _ _ hp; obtain ⟨c0, c1, c2, c3⟩ := HC.out _ _ _ _ hp; have t3 := HT.out _ _ _ _ hp; have HP := hid_mk hp; clear hp)
    | (go_at_call_of 37 w3; refine (HP.out.putAt [⟨#[41, 32]⟩] _ 1 _ (by simp) rfl rfl (by decide) (by have := HB.out; simp [txt] at this ⊢; omega)).mono ?_; rintro e w4 ⟨⟨r, rfl⟩, hp⟩; obtain ⟨b0, b1, b2, b3⟩ := HN.out _ _ _ _ hp; obtain ⟨c0, c1, c2, c3⟩ := HC.out _ _ _ _ hp; have t3 := HT.out _ _ _ _ hp; have HP := hid_mk hp; clear hp))
  go_region_held3 (fun W => W.cell? ⟨w.heap.size, 1, none⟩ = some (.int .i64 1) ∧ W.cell? ⟨0, 1, none⟩ = some (.string ⟨#[105, 110, 116]⟩)) (go_keep) (first
    | (go_at_call_of 37 w4; refine (HP.out.putD [⟨#[105, 110, 116]⟩, ⟨#[32]⟩] _ 2 _ (by simp) rfl rfl (by decide) (by have := HB.out; simp [txt] at this ⊢; omega)).mono ?_; rintro e w5 ⟨⟨r, rfl⟩, hp⟩; obtain ⟨b0, b1, b2, b3⟩ := HN.out _ _ _ _ hp; obtain ⟨c0, c1, c2, c3⟩ := HC.out _ _ _ _ hp; have t3 := HT.out _ _ _ _ hp; have HP := hid_mk hp; clear hp))
  all_goals go_wp2_with (first
    | (go_at_call 40; refine (HP.out.fn HBK.out u HG.out HFU.out HRU.out (by have := HB.out; simp [txt] at this ⊢; omega)).mono ?_; rintro e w6 ⟨⟨r, rfl⟩, hp⟩; obtain ⟨b0, b1, b2, b3⟩ := HN.out _ _ _ _ hp; obtain ⟨c0, c1, c2, c3⟩ := HC.out _ _ _ _ hp; have t3 := HT.out _ _ _ _ hp; have HP := hid_mk hp; clear hp))
  all_goals go_end0
  all_goals exact HP.out.addsB (by simp [txt]) _

set_option maxHeartbeats 4000000 in
set_option maxRecDepth 100000 in
theorem fun_2 (T : Nd) (m : Nat) (hm : T.len = m + 1) (hnum : T.num = 2) (hP : ∀ i, i < m → IW 39 (T.kids i) (fun _ => (T.kids i).name.data.toList ++ 32 :: typeT (T.kids i).num)) (hB : IW 40 (T.kids m) (fun d => blockT d ((prN (T.kids m)).sts (d + 1)))) : IW 26 T (fun d => [102, 117, 110, 99, 32] ++ (T.name.data.toList ++ (40 :: (catTo (parmT T) m ++ ([41, 32] ++ (([98, 111, 111, 108] ++ [32]) ++ blockT d ((prN (T.kids m)).sts (d + 1)))))))) := by
  intro pb own X d b w v hbuf hg hf hr hb
  dsimp only at hb ⊢
  have hn := T.fine_len hf
  obtain ⟨g, off, cap, rfl, hgp, hcap, hkid⟩ := kid_at hr (by omega)
  obtain ⟨u, hc, hru⟩ := hkid m (by omega)
  have hval : T.val (.slice (some ⟨g, off, none⟩) T.len cap) = .agg #[.int .i64 T.kind, .int .i64 2, .string T.name, .slice (some ⟨g, off, none⟩) (m + 1) cap] := by unfold Nd.val; rw [hnum, hm]
  rw [hval]
  have HP := hid_mk (IPst.startB hbuf (.cells #[.int .i64 T.kind, .int .i64 2, .string T.name, .slice (some ⟨g, off, none⟩) (m + 1) cap] 30))
  have HN := hid_mk (IPst.node hbuf (.int .i64 T.kind) (.int .i64 2) (.string T.name) (.slice (some ⟨g, off, none⟩) (m + 1) cap) 30)
  have hg2 := hg.alloc hbuf.lt (.cells #[.int .i64 T.kind, .int .i64 2, .string T.name, .slice (some ⟨g, off, none⟩) (m + 1) cap] 30)
  have HG := hid_mk hg2
  have HT : Hid (∀ d' b' Y W, IPst pb own (w.alloc (.cells #[.int .i64 T.kind, .int .i64 2, .string T.name, .slice (some ⟨g, off, none⟩) (m + 1) cap] 30)) d' b' Y W → W.cell? ⟨0, 2, none⟩ = some (.string ⟨#[98, 111, 111, 108]⟩)) := fun d' b' Y W h => (hg2 W h.below).2 2 (by decide)
  have HC := hid_mk (fun d' b' Y W (h : IPst pb own (w.alloc (.cells #[.int .i64 T.kind, .int .i64 2, .string T.name, .slice (some ⟨g, off, none⟩) (m + 1) cap] 30)) d' b' Y W) => hc W (h.belowB hbuf))
  have HRU := hid_mk (row_allocI hbuf hru (.cells #[.int .i64 T.kind, .int .i64 2, .string T.name, .slice (some ⟨g, off, none⟩) (m + 1) cap] 30))
  have HFU := hid_mk (Nd.fine_kid hf (show m < T.len by omega))
  have HBK := hid_mk hB
  have hLS := fun Y W (h : IPst pb own (w.alloc (.cells #[.int .i64 T.kind, .int .i64 2, .string T.name, .slice (some ⟨g, off, none⟩) (m + 1) cap] 30)) d true Y W) hb => h.listed_par (n := m) (by omega) hP (some ⟨g, off, none⟩) cap hg2 hf (row_allocI hbuf hr (.cells #[.int .i64 T.kind, .int .i64 2, .string T.name, .slice (some ⟨g, off, none⟩) (m + 1) cap] 30)) hb
  have HLS : Hid (∀ Y W, IPst pb own (w.alloc (.cells #[.int .i64 T.kind, .int .i64 2, .string T.name, .slice (some ⟨g, off, none⟩) (m + 1) cap] 30)) d true Y W → Y.length + (catTo (parmT T) m).length ≤ 1099511627776 → Calls Tryz.prog 38 #[.pointer (some ⟨pb, 0, none⟩), .slice (some ⟨g, off, none⟩) m cap, .func (.func 39) #[.pointer (some ⟨pb, 0, none⟩)] #[]] W fun e w' => (∃ r, e = .returned r) ∧ IPst pb own (w.alloc (.cells #[.int .i64 T.kind, .int .i64 2, .string T.name, .slice (some ⟨g, off, none⟩) (m + 1) cap] 30)) d true (Y ++ catTo (parmT T) m) w') := hLS
  have hs : T.name.size ≤ 1099511627776 := by
    have := hb
    simp at this
    omega
  have hcp1 : m + 1 ≤ cap := by omega
  have hcp2 : cap ≤ 9223372036854775807 := by omega
  have HB := hid_mk hb
  clear hb hbuf hr hg hg2 hf hru hc hkid hP hB hnum hval hcap hLS
  clear hm
  generalize catTo (parmT T) m = ps at *
  generalize T.kids m = K at *
  generalize T.name = ts at *
  generalize T.kind = tk at *
  go_enter Tryz.func26, Tryz.ntmps26
  go_wp2
  go_region_with (go_at_call_of 37 w; refine (HP.out.putD [⟨#[102, 117, 110, 99, 32]⟩, ts, ⟨#[40]⟩] _ 3 _ (by simp) rfl rfl (by decide) (by have := HB.out; simp [txt] at this ⊢; omega)).mono ?_; rintro e w2 ⟨⟨r, rfl⟩, hp⟩; obtain ⟨b0, b1, b2, b3⟩ := HN.out _ _ _ _ hp; obtain ⟨c0, c1, c2, c3⟩ := HC.out _ _ _ _ hp; have t3 := HT.out _ _ _ _ hp; have HP := hid_mk hp; clear hp)
  go_wp2_with (first
    | (go_at_call 38; refine (HLS.out _ _ HP.out (by have := HB.out; simp [txt] at this ⊢; omega)).mono ?_; rintro e w3 ⟨⟨r, rfl⟩, hp⟩; obtain ⟨b0, b1, b2, b3⟩ := HN.out _ _ _ _ hp; obtain ⟨c0, c1, c2, c3⟩ := HC.out _ _ _ _ hp; have t3 := HT.out _ _ _ _ hp; have HP := hid_mk hp; clear hp)
    | (go_at_call_of 37 w3; refine (HP.out.putAt [⟨#[41, 32]⟩] _ 1 _ (by simp) rfl rfl (by decide) (by have := HB.out; simp [txt] at this ⊢; omega)).mono ?_; rintro e w4 ⟨⟨r, rfl⟩, hp⟩; obtain ⟨b0, b1, b2, b3⟩ := HN.out _ _ _ _ hp; obtain ⟨c0, c1, c2, c3⟩ := HC.out _ _ _ _ hp; have t3 := HT.out _ _ _ _ hp; have HP := hid_mk hp; clear hp))
  go_region_held3 (fun W => W.cell? ⟨w.heap.size, 1, none⟩ = some (.int .i64 2) ∧ W.cell? ⟨0, 2, none⟩ = some (.string ⟨#[98, 111, 111, 108]⟩)) (go_keep) (first
    | (go_at_call_of 37 w4; refine (HP.out.putD [⟨#[98, 111, 111, 108]⟩, ⟨#[32]⟩] _ 2 _ (by simp) rfl rfl (by decide) (by have := HB.out; simp [txt] at this ⊢; omega)).mono ?_; rintro e w5 ⟨⟨r, rfl⟩, hp⟩; obtain ⟨b0, b1, b2, b3⟩ := HN.out _ _ _ _ hp; obtain ⟨c0, c1, c2, c3⟩ := HC.out _ _ _ _ hp; have t3 := HT.out _ _ _ _ hp; have HP := hid_mk hp; clear hp))
  all_goals go_wp2_with (first
    | (go_at_call 40; refine (HP.out.fn HBK.out u HG.out HFU.out HRU.out (by have := HB.out; simp [txt] at this ⊢; omega)).mono ?_; rintro e w6 ⟨⟨r, rfl⟩, hp⟩; obtain ⟨b0, b1, b2, b3⟩ := HN.out _ _ _ _ hp; obtain ⟨c0, c1, c2, c3⟩ := HC.out _ _ _ _ hp; have t3 := HT.out _ _ _ _ hp; have HP := hid_mk hp; clear hp))
  all_goals go_end0
  all_goals exact HP.out.addsB (by simp [txt]) _

set_option maxHeartbeats 4000000 in
set_option maxRecDepth 100000 in
theorem fun_3 (T : Nd) (m : Nat) (hm : T.len = m + 1) (hnum : T.num = 3) (hP : ∀ i, i < m → IW 39 (T.kids i) (fun _ => (T.kids i).name.data.toList ++ 32 :: typeT (T.kids i).num)) (hB : IW 40 (T.kids m) (fun d => blockT d ((prN (T.kids m)).sts (d + 1)))) : IW 26 T (fun d => [102, 117, 110, 99, 32] ++ (T.name.data.toList ++ (40 :: (catTo (parmT T) m ++ ([41, 32] ++ (([99, 104, 97, 110, 32, 105, 110, 116] ++ [32]) ++ blockT d ((prN (T.kids m)).sts (d + 1)))))))) := by
  intro pb own X d b w v hbuf hg hf hr hb
  dsimp only at hb ⊢
  have hn := T.fine_len hf
  obtain ⟨g, off, cap, rfl, hgp, hcap, hkid⟩ := kid_at hr (by omega)
  obtain ⟨u, hc, hru⟩ := hkid m (by omega)
  have hval : T.val (.slice (some ⟨g, off, none⟩) T.len cap) = .agg #[.int .i64 T.kind, .int .i64 3, .string T.name, .slice (some ⟨g, off, none⟩) (m + 1) cap] := by unfold Nd.val; rw [hnum, hm]
  rw [hval]
  have HP := hid_mk (IPst.startB hbuf (.cells #[.int .i64 T.kind, .int .i64 3, .string T.name, .slice (some ⟨g, off, none⟩) (m + 1) cap] 30))
  have HN := hid_mk (IPst.node hbuf (.int .i64 T.kind) (.int .i64 3) (.string T.name) (.slice (some ⟨g, off, none⟩) (m + 1) cap) 30)
  have hg2 := hg.alloc hbuf.lt (.cells #[.int .i64 T.kind, .int .i64 3, .string T.name, .slice (some ⟨g, off, none⟩) (m + 1) cap] 30)
  have HG := hid_mk hg2
  have HT : Hid (∀ d' b' Y W, IPst pb own (w.alloc (.cells #[.int .i64 T.kind, .int .i64 3, .string T.name, .slice (some ⟨g, off, none⟩) (m + 1) cap] 30)) d' b' Y W → W.cell? ⟨0, 3, none⟩ = some (.string ⟨#[99, 104, 97, 110, 32, 105, 110, 116]⟩)) := fun d' b' Y W h => (hg2 W h.below).2 3 (by decide)
  have HC := hid_mk (fun d' b' Y W (h : IPst pb own (w.alloc (.cells #[.int .i64 T.kind, .int .i64 3, .string T.name, .slice (some ⟨g, off, none⟩) (m + 1) cap] 30)) d' b' Y W) => hc W (h.belowB hbuf))
  have HRU := hid_mk (row_allocI hbuf hru (.cells #[.int .i64 T.kind, .int .i64 3, .string T.name, .slice (some ⟨g, off, none⟩) (m + 1) cap] 30))
  have HFU := hid_mk (Nd.fine_kid hf (show m < T.len by omega))
  have HBK := hid_mk hB
  have hLS := fun Y W (h : IPst pb own (w.alloc (.cells #[.int .i64 T.kind, .int .i64 3, .string T.name, .slice (some ⟨g, off, none⟩) (m + 1) cap] 30)) d true Y W) hb => h.listed_par (n := m) (by omega) hP (some ⟨g, off, none⟩) cap hg2 hf (row_allocI hbuf hr (.cells #[.int .i64 T.kind, .int .i64 3, .string T.name, .slice (some ⟨g, off, none⟩) (m + 1) cap] 30)) hb
  have HLS : Hid (∀ Y W, IPst pb own (w.alloc (.cells #[.int .i64 T.kind, .int .i64 3, .string T.name, .slice (some ⟨g, off, none⟩) (m + 1) cap] 30)) d true Y W → Y.length + (catTo (parmT T) m).length ≤ 1099511627776 → Calls Tryz.prog 38 #[.pointer (some ⟨pb, 0, none⟩), .slice (some ⟨g, off, none⟩) m cap, .func (.func 39) #[.pointer (some ⟨pb, 0, none⟩)] #[]] W fun e w' => (∃ r, e = .returned r) ∧ IPst pb own (w.alloc (.cells #[.int .i64 T.kind, .int .i64 3, .string T.name, .slice (some ⟨g, off, none⟩) (m + 1) cap] 30)) d true (Y ++ catTo (parmT T) m) w') := hLS
  have hs : T.name.size ≤ 1099511627776 := by
    have := hb
    simp at this
    omega
  have hcp1 : m + 1 ≤ cap := by omega
  have hcp2 : cap ≤ 9223372036854775807 := by omega
  have HB := hid_mk hb
  clear hb hbuf hr hg hg2 hf hru hc hkid hP hB hnum hval hcap hLS
  clear hm
  generalize catTo (parmT T) m = ps at *
  generalize T.kids m = K at *
  generalize T.name = ts at *
  generalize T.kind = tk at *
  go_enter Tryz.func26, Tryz.ntmps26
  go_wp2
  go_region_with (go_at_call_of 37 w; refine (HP.out.putD [⟨#[102, 117, 110, 99, 32]⟩, ts, ⟨#[40]⟩] _ 3 _ (by simp) rfl rfl (by decide) (by have := HB.out; simp [txt] at this ⊢; omega)).mono ?_; rintro e w2 ⟨⟨r, rfl⟩, hp⟩; obtain ⟨b0, b1, b2, b3⟩ := HN.out _ _ _ _ hp; obtain ⟨c0, c1, c2, c3⟩ := HC.out _ _ _ _ hp; have t3 := HT.out _ _ _ _ hp; have HP := hid_mk hp; clear hp)
  go_wp2_with (first
    | (go_at_call 38; refine (HLS.out _ _ HP.out (by have := HB.out; simp [txt] at this ⊢; omega)).mono ?_; rintro e w3 ⟨⟨r, rfl⟩, hp⟩; obtain ⟨b0, b1, b2, b3⟩ := HN.out _ _ _ _ hp; obtain ⟨c0, c1, c2, c3⟩ := HC.out _ _ _ _ hp; have t3 := HT.out _ _ _ _ hp; have HP := hid_mk hp; clear hp)
    | (go_at_call_of 37 w3; refine (HP.out.putAt [⟨#[41, 32]⟩] _ 1 _ (by simp) rfl rfl (by decide) (by have := HB.out; simp [txt] at this ⊢; omega)).mono ?_; rintro e w4 ⟨⟨r, rfl⟩, hp⟩; obtain ⟨b0, b1, b2, b3⟩ := HN.out _ _ _ _ hp; obtain ⟨c0, c1, c2, c3⟩ := HC.out _ _ _ _ hp; have t3 := HT.out _ _ _ _ hp; have HP := hid_mk hp; clear hp))
  go_region_held3 (fun W => W.cell? ⟨w.heap.size, 1, none⟩ = some (.int .i64 3) ∧ W.cell? ⟨0, 3, none⟩ = some (.string ⟨#[99, 104, 97, 110, 32, 105, 110, 116]⟩)) (go_keep) (first
    | (go_at_call_of 37 w4; refine (HP.out.putD [⟨#[99, 104, 97, 110, 32, 105, 110, 116]⟩, ⟨#[32]⟩] _ 2 _ (by simp) rfl rfl (by decide) (by have := HB.out; simp [txt] at this ⊢; omega)).mono ?_; rintro e w5 ⟨⟨r, rfl⟩, hp⟩; obtain ⟨b0, b1, b2, b3⟩ := HN.out _ _ _ _ hp; obtain ⟨c0, c1, c2, c3⟩ := HC.out _ _ _ _ hp; have t3 := HT.out _ _ _ _ hp; have HP := hid_mk hp; clear hp))
  all_goals go_wp2_with (first
    | (go_at_call 40; refine (HP.out.fn HBK.out u HG.out HFU.out HRU.out (by have := HB.out; simp [txt] at this ⊢; omega)).mono ?_; rintro e w6 ⟨⟨r, rfl⟩, hp⟩; obtain ⟨b0, b1, b2, b3⟩ := HN.out _ _ _ _ hp; obtain ⟨c0, c1, c2, c3⟩ := HC.out _ _ _ _ hp; have t3 := HT.out _ _ _ _ hp; have HP := hid_mk hp; clear hp))
  all_goals go_end0
  all_goals exact HP.out.addsB (by simp [txt]) _

end Go.Proofs.YtacamenjijlemaaGreatDoor

/- The program's printer: a file. -/
namespace Go.Proofs.YtacamenjijlemaaGreatDoor
open Go.RowKit

theorem ahead_zero : ahead 0 false = [] := rfl

set_option maxHeartbeats 4000000 in
set_option maxRecDepth 100000 in
theorem pfile_of (T : Nd) (t : Nat → Nat → List UInt8) (hW : ∀ i, i < T.len → IW 26 (T.kids i) (t i)) (pb : Nat) (own : Option Nat) (X : List UInt8) (w : World) (v : Value) (hbuf : IBuf pb w own (0 : Nat) false X) (hg : Gl pb w) (hf : T.Fine) (hr : Row 0 pb w T v)
    (hb : X.length + (catTo (fun i => (if i = 0 then [] else [10]) ++ (t i 0 ++ [10])) T.len).length ≤ 1099511627776) :
    Calls Tryz.prog 14 #[.pointer (some ⟨pb, 0, none⟩), T.val v] w (IAdds pb X (catTo (fun i => (if i = 0 then [] else [10]) ++ (t i 0 ++ [10])) T.len) (0 : Nat) false own w) := by
  have hnn := T.fine_len hf
  obtain ⟨a, cap, rfl, _⟩ := row_eq.1 hr
  unfold Nd.val
  have HP := hid_mk (IPst.startB hbuf (.cells #[.int .i64 T.kind, .int .i64 T.num, .string T.name, .slice a T.len cap] 30))
  have HR := hid_mk (row_allocI hbuf hr (.cells #[.int .i64 T.kind, .int .i64 T.num, .string T.name, .slice a T.len cap] 30))
  have HG := hid_mk (hg.alloc hbuf.lt (.cells #[.int .i64 T.kind, .int .i64 T.num, .string T.name, .slice a T.len cap] 30))
  have HB := hid_mk hb
  have HW := hid_mk hW
  have HF := hid_mk hf
  clear hb hbuf hr hW hg hf
  generalize hF : (fun i => (if i = 0 then [] else [10]) ++ (t i 0 ++ [10])) = F at *
  have HFE := hid_mk hF
  have HFL := hid_mk (fun i (h : i < T.len) => catTo_at F h)
  clear hF
  generalize T.name = ts at *
  generalize T.num = tn at *
  generalize T.kind = tk at *
  go_enter Tryz.func14, Tryz.ntmps14
  go_wp2
  go_loopw [9] (fun i wr => ∃ j : Nat, j ≤ T.len ∧ i = .int .i64 j ∧ Hid (IPst pb own (w.alloc (.cells #[.int .i64 tk, .int .i64 tn, .string ts, .slice a T.len cap] 30)) ((0 : Nat) : Int) false (X ++ catTo F j) wr)) (fun i _ => T.len - (intOf i).toNat)
  case atStart => exact ⟨0, by omega, rfl, hid_mk (by simpa [catTo] using HP.out)⟩
  case round =>
    obtain ⟨j, hj, rfl, HP⟩ := hrel
    by_cases hlt : j < T.len
    · obtain ⟨g, off, cap', hv, hgp, hcap, hk⟩ := kid_at HR.out (by omega)
      obtain rfl : a = some ⟨g, off, none⟩ := by injection hv
      obtain ⟨u, hc, hru⟩ := hk j (by omega)
      obtain ⟨c0, c1, c2, c3⟩ := hc _ HP.out.below
      obtain ⟨au, lu, cu, rfl⟩ : ∃ a l c, u = .slice a l c := by obtain ⟨a, c, h, _⟩ := row_eq.1 hru; exact ⟨a, _, c, h⟩
      obtain ⟨own1, hbf, hjoin⟩ := HP.out.join
      have hcl := HFL.out j hlt
      have HWJ := hid_mk (HW.out j hlt)
      have HFJ := hid_mk (Nd.fine_kid HF.out (show j < T.len by omega))
      have HFJE : Hid (F j = (if j = 0 then [] else [10]) ++ (t j 0 ++ [10])) := by rw [← HFE.out]; rfl
      have HX : Hid (catTo F (j + 1) = catTo F j ++ ((if j = 0 then [] else [10]) ++ (t j 0 ++ [10]))) := by unfold Hid; rw [← HFJE.out]; rfl
      have HRJ := hid_mk (row_allocI hbf (row_below HP.out.below (Nat.le_refl _) hru) (.cells #[.int .i64 (T.kids j).kind, .int .i64 (T.kids j).num, .string (T.kids j).name, .slice au lu cu] 30))
      have HGJ := hid_mk ((HG.out.keep HP.out.below).alloc hbf.lt (.cells #[.int .i64 (T.kids j).kind, .int .i64 (T.kids j).num, .string (T.kids j).name, .slice au lu cu] 30))
      have HPF := hid_mk (IPst.startB hbf (.cells #[.int .i64 (T.kids j).kind, .int .i64 (T.kids j).num, .string (T.kids j).name, .slice au lu cu] 30))
      have HNF := hid_mk (IPst.node hbf (.int .i64 (T.kids j).kind) (.int .i64 (T.kids j).num) (.string (T.kids j).name) (.slice au lu cu) 30)
      have HJ := hid_mk (fun Y W (h : IPst pb own1 (wr.alloc (.cells #[.int .i64 (T.kids j).kind, .int .i64 (T.kids j).num, .string (T.kids j).name, .slice au lu cu] 30)) ((0 : Nat) : Int) false Y W) => hjoin _ _ Y W _ h)
      rw [HFJE.out, List.length_append, List.length_append] at hcl
      clear HP hk hc hru hv hcap hbf hjoin HFJE
      have HP := HPF
      clear HPF
      generalize T.kids j = K at *
      generalize t j = tj at *
      by_cases hj0 : 0 < j
      · have hjn : j ≠ 0 := by omega
        rw [if_neg hjn] at hcl HX
        go_wp2_with (first
          | (go_at_call 26; refine (HP.out.fn HWJ.out _ HGJ.out HFJ.out HRJ.out (by have := HB.out; simp at hcl; simp [ahead_zero] at this ⊢; omega)).mono ?_; rintro e w3 ⟨⟨r, rfl⟩, hp⟩; obtain ⟨b0, b1, b2, b3⟩ := HNF.out _ _ _ _ hp; have HP := hid_mk hp; clear hp)
          | (go_at_call 25; refine (HP.out.endl (by have := HB.out; simp at hcl; simp [ahead_zero] at this ⊢; omega)).mono ?_; rintro e w4 ⟨⟨r, rfl⟩, hp⟩; obtain ⟨b0, b1, b2, b3⟩ := HNF.out _ _ _ _ hp; have HP := hid_mk hp; clear hp))
        exact ⟨⟨j + 1, by omega, by go_num, hid_mk (HJ.out _ _ (by rw [HX.out]; simpa [ahead_zero] using HP.out))⟩, by simp [intOf]; omega⟩
      · obtain rfl : j = 0 := by omega
        simp only [Nat.zero_mul, Nat.add_zero] at c0 c1 c2 c3
        rw [if_pos rfl] at hcl HX
        go_wp2_with (first
          | (go_at_call 26; refine (HP.out.fn HWJ.out _ HGJ.out HFJ.out HRJ.out (by have := HB.out; simp at hcl; simp [ahead_zero] at this ⊢; omega)).mono ?_; rintro e w3 ⟨⟨r, rfl⟩, hp⟩; obtain ⟨b0, b1, b2, b3⟩ := HNF.out _ _ _ _ hp; have HP := hid_mk hp; clear hp)
          | (go_at_call 25; refine (HP.out.endl (by have := HB.out; simp at hcl; simp [ahead_zero] at this ⊢; omega)).mono ?_; rintro e w4 ⟨⟨r, rfl⟩, hp⟩; obtain ⟨b0, b1, b2, b3⟩ := HNF.out _ _ _ _ hp; have HP := hid_mk hp; clear hp))
        exact ⟨⟨1, by omega, by go_num, hid_mk (HJ.out _ _ (by rw [HX.out]; simpa [ahead_zero] using HP.out))⟩, by simp [intOf]; omega⟩
    · obtain rfl : j = T.len := by omega
      go_wp2
      go_end0
      exact HP.out.addsB rfl _
end Go.Proofs.YtacamenjijlemaaGreatDoor

/- The program's printer: the text as a string. -/
namespace Go.Proofs.YtacamenjijlemaaGreatDoor
open Go.RowKit

theorem u8s_bytes (l : List UInt8) : u8s l = Lib.byteCells l := rfl
theorem cells8 : Tryz.prog.cellsOf 5 = 1 := by kernel_rfl

set_option maxHeartbeats 2000000 in
set_option maxRecDepth 100000 in
theorem str_of (pb : Nat) (w : World) (own : Option Nat) (d : Int) (b : Bool) (Y : List UInt8) (h : IBuf pb w own d b Y) :
    Calls Tryz.prog 15 #[.pointer (some ⟨pb, 0, none⟩)] w fun e w' => e = .returned (.string (strT Y)) ∧ Below pb w w' := by
  have hlt := h.lt
  obtain ⟨q, v, hv, _, ho, _⟩ := h
  have hbd : Below pb w w.drew := ⟨rfl, rfl, rfl, Nat.le_refl _, fun _ _ => rfl⟩
  rcases ho.2 with ⟨rfl, hz⟩ | ⟨g, cap, cur, rfl, hbg, hg, hnc, hcm, hcs, htake⟩
  · obtain rfl : Y = [] := List.eq_nil_of_length_eq_zero hz
    have hUS : ∀ (W : World) (q : Option Addr), (Builtin.unsafeString_ #[61, 3] 9 #[.pointer q, .int .i64 0]).run Tryz.prog W = .ok (.string .empty) W := fun W q => Lib.run_unsafeString_none W _ _ _ q
    have c1 : w.drew.cell? ⟨pb, 1, none⟩ = some (.slice none 0 0) := by
      have : w.drew.heap[pb]? = some (.cells #[q, .slice none 0 0, .int .i64 d, .bool b] 45 (0, 0)) := hv
      rw [Lib.cell_of_heap this]; rfl
    have hSD : (Builtin.unsafeSliceData_ #[39] 61 #[.slice none 0 0]).run Tryz.prog w.drew = .ok (.pointer none) w.drew := rfl
    have HB := (show Hid (Below pb w w.drew) from hbd)
    clear hv ho hbd
    go_enter Tryz.func15, Tryz.ntmps15
    go_wp2
    go_region
    all_goals (go_wp2; go_ret; exact ⟨rfl, HB.out⟩)
  · by_cases h0 : Y = []
    · subst h0
      have hUS : ∀ (W : World) (q : Option Addr), (Builtin.unsafeString_ #[61, 3] 9 #[.pointer q, .int .i64 0]).run Tryz.prog W = .ok (.string .empty) W := fun W q => Lib.run_unsafeString_none W _ _ _ q
      have c1 : w.drew.cell? ⟨pb, 1, none⟩ = some (.slice (some ⟨g, 0, none⟩) 0 cap) := by
        have : w.drew.heap[pb]? = some (.cells #[q, .slice (some ⟨g, 0, none⟩) 0 cap, .int .i64 d, .bool b] 45 (0, 0)) := hv
        rw [Lib.cell_of_heap this]; rfl
      by_cases hc0 : cap = 0
      · subst hc0
        have hSD : (Builtin.unsafeSliceData_ #[39] 61 #[.slice (some ⟨g, 0, none⟩) 0 0]).run Tryz.prog w.drew = .ok (.pointer (some ⟨w.drew.heap.size, 0, none⟩)) (w.drew.alloc (.view ⟨g, 0, none⟩ 5)) :=
          Lib.run_unsafeSliceData_zero w.drew _ _ 5 Tryz.underlying61 ⟨g, 0, none⟩ 0 (5, cur.size) (by have hg' : w.drew.heap[g]? = some (.cells cur 5 (0, 0)) := hg; simp [World.shape?, hg'])
        have c2 : (w.drew.alloc (.view ⟨g, 0, none⟩ 5)).cell? ⟨pb, 1, none⟩ = some (.slice (some ⟨g, 0, none⟩) 0 0) := by
          have : (w.drew.alloc (.view ⟨g, 0, none⟩ 5)).heap[pb]? = _ := (Below.heap_alloc w.drew _ pb hlt).trans hv
          rw [Lib.cell_of_heap this]; rfl
        have c3 : (w.alloc (.view ⟨g, 0, none⟩ 5)).drew.cell? ⟨pb, 1, none⟩ = some (.slice (some ⟨g, 0, none⟩) 0 0) := c2
        have c0 : w.cell? ⟨pb, 1, none⟩ = some (.slice (some ⟨g, 0, none⟩) 0 0) := c1
        have HB := (show Hid (Below pb w (w.drew.alloc (.view ⟨g, 0, none⟩ 5))) from hbd.alloc (by show pb ≤ w.heap.size; omega) _)
        clear hv ho hbd hg
        go_enter Tryz.func15, Tryz.ntmps15
        go_wp2
        go_region
        all_goals (go_wp2; go_ret; exact ⟨rfl, HB.out⟩)
      · have hSD : (Builtin.unsafeSliceData_ #[39] 61 #[.slice (some ⟨g, 0, none⟩) 0 cap]).run Tryz.prog w.drew = .ok (.pointer (some ⟨g, 0, none⟩)) w.drew :=
          Lib.run_unsafeSliceData_row _ _ _ _ _ _ hc0
        have HB := (show Hid (Below pb w w.drew) from hbd)
        clear hv ho hbd hg
        go_enter Tryz.func15, Tryz.ntmps15
        go_wp2
        go_region
        all_goals (go_wp2; go_ret; exact ⟨rfl, HB.out⟩)
    · have hl0 : Y.length ≠ 0 := by simpa using h0
      have c1 : w.drew.cell? ⟨pb, 1, none⟩ = some (.slice (some ⟨g, 0, none⟩) Y.length cap) := by
        have : w.drew.heap[pb]? = some (.cells #[q, .slice (some ⟨g, 0, none⟩) Y.length cap, .int .i64 d, .bool b] 45 (0, 0)) := hv
        rw [Lib.cell_of_heap this]; rfl
      have hSD : (Builtin.unsafeSliceData_ #[39] 61 #[.slice (some ⟨g, 0, none⟩) Y.length cap]).run Tryz.prog w.drew = .ok (.pointer (some ⟨g, 0, none⟩)) w.drew :=
        Lib.run_unsafeSliceData_row _ _ _ _ _ _ (by omega)
      have hUS : (Builtin.unsafeString_ #[61, 3] 9 #[.pointer (some ⟨g, 0, none⟩), .int .i64 Y.length]).run Tryz.prog w.drew = .ok (.string ⟨Y.toArray⟩) (w.drew.freeze ⟨g, 0, none⟩ Y.length) := by
        refine Lib.run_unsafeString_row w.drew 61 3 9 5 Tryz.underlying61 cells8 g cur.size (by have hg' : w.drew.heap[g]? = some (.cells cur 5 (0, 0)) := hg; simp [World.shape?, hg']) Y h0 (by omega) (by unfold maxLen at hcm; omega) ?_
        intro j x hx
        have := ho.cells (g := g) rfl j (.int .u8 x.toNat) (by rw [u8s_bytes]; simp [Lib.byteCells, hx])
        exact this
      have HB := (show Hid (Below pb w (w.drew.freeze ⟨g, 0, none⟩ Y.length)) from Lib.below_freeze hbd (p := ⟨g, 0, none⟩) (by show pb ≤ g; omega) _)
      clear hv ho hbd hg
      go_enter Tryz.func15, Tryz.ntmps15
      go_wp2
      go_region
      all_goals (go_wp2; go_ret; exact ⟨rfl, HB.out⟩)
end Go.Proofs.YtacamenjijlemaaGreatDoor

/- The program's printer: every expression, every statement, every file; given its signs of two sides. -/
namespace Go.Proofs.YtacamenjijlemaaGreatDoor
open Go.RowKit

/-- What is asked of its signs of two sides. -/
def BinAll : Prop := ∀ T : Nd, T.kind = 28 → (∀ i, i < T.len → IEx (T.kids i)) → T.eOk = true → IW 94 T (fun _ => (prN T).ex 1)

theorem iex_of {T : Nd} (h : T.eOk = true → IW 83 T (fun _ => (prN T).ex 1)) : IEx T :=
  fun pb own X d b w v hbuf hg hf hr hok hb => h hok pb own X d b w v hbuf hg hf hr hb
theorem iex_all (hBin : BinAll) (T : Nd) : IEx T := by
  have step : ∀ T : Nd, (∀ i, i < T.len → IEx (T.kids i)) → IEx T := by
    intro T ih
    refine iex_of fun hok => ?_
    by_cases h22 : T.kind = 22
    · exact ie_22 T h22 hok
    by_cases h23 : T.kind = 23
    · exact ie_23 T h23 hok
    by_cases h24 : T.kind = 24
    · exact ie_24 T h24 hok
    by_cases h25 : T.kind = 25
    · exact ie_25 T h25 hok ih
    by_cases h26 : T.kind = 26
    · refine ie_26 T h26 ?_
      have := chan_of T fun i hi => iw_of (ih i hi) ((ex_ok_26 h26 hok).2 i hi)
      rw [← chan_text h26 hok] at this
      exact this
    by_cases h27 : T.kind = 27
    · exact ie_27 T h27 (un_of T h27 ih hok)
    by_cases h28 : T.kind = 28
    · exact ie_28 T h28 (hBin T h28 ih hok)
    by_cases h29 : T.kind = 29
    · exact ie_29 T h29 hok ih
    rw [eOk_eq] at hok
    simp [exprB, h22, h23, h24, h25, h26, h27, h28, h29] at hok
  induction T with
  | nil => exact step .nil fun i hi => absurd hi (Nat.not_lt_zero _)
  | mk k n s len kids ih => exact step _ fun i _ => ih i

theorem ch_any (hBin : BinAll) (T : Nd) (h : T.cOk = true) : IW 96 T (fun _ => clauseT T.num T.name.data.toList (fun k => prN (T.kids k))) := by
  obtain ⟨hk, h3, _⟩ := cs_ok h
  rcases h3 with ⟨a, b⟩ | ⟨a, b, c⟩ | ⟨a, b, c, d⟩
  · exact ch_0 T hk a b
  · cases he : T.name.toList.isEmpty
    · exact ch_1b T hk a b he (recv_of _ (iex_all hBin _) c)
    · exact ch_1a T hk a b he (recv_of _ (iex_all hBin _) c)
  · exact ch_2 T hk a b (iex_all hBin _) (iex_all hBin _) c d

structure IPr (T : Nd) : Prop where
  sm : T.sOk = true → IW 71 T (fun d => (prN T).st d)
  sts : (∀ i, i < T.len → (T.kids i).sOk = true) → ISts T
  gr : ∀ i, i < T.len → (∀ k, k < (T.kids i).len → ((T.kids i).kids k).sOk = true) → ISts (T.kids i)

theorem ipr_all (hBin : BinAll) (T : Nd) : IPr T := by
  have E := iex_all hBin
  have step : ∀ T : Nd, (∀ i, i < T.len → IPr (T.kids i)) → IPr T := by
    intro T ih
    have hsts : (∀ i, i < T.len → (T.kids i).sOk = true) → ISts T := fun h => sts_of T fun i hi => (ih i hi).sm (h i hi)
    have blk : ∀ i, i < T.len → (T.kids i).kind = 4 → (T.kids i).sOk = true → IW 40 (T.kids i) (fun d => blockT d ((prN (T.kids i)).sts (d + 1))) := fun i hi h4 hs => blk_of _ ((ih i hi).sts (st_ok_4 h4 hs))
    refine ⟨?_, hsts, fun i hi => (ih i hi).sts⟩
    intro hok
    by_cases h4 : T.kind = 4
    · refine is_4 T h4 ?_
      have := blk_of T (hsts (st_ok_4 h4 hok))
      simpa only [← st_text_4 T h4] using this
    by_cases h5 : T.kind = 5
    · have h0 : T.len ≠ 0 := by
        have := hok; rw [sOk_eq, h5] at this; simp [stmtB] at this; have := (one_e this.2).1; omega
      exact is_5 T h5 h0 (E _) (st_ok_5 h5 hok 0 (by omega) rfl)
    by_cases h6 : T.kind = 6
    · have h0 : T.len ≠ 0 := by
        have := hok; rw [sOk_eq, h6] at this; simp [stmtB] at this; have := (one_e this.2).1; omega
      exact is_6 T h6 h0 (E _) (st_ok_6 h6 hok 0 (by omega) rfl)
    by_cases h7 : T.kind = 7
    · refine is_7 T h7 ?_
      have := step_of T
      simpa only [st_text_7 T h7] using this
    by_cases h8 : T.kind = 8
    · obtain ⟨hl, e0, e1⟩ := st_ok_8 h8 hok
      exact is_8 T h8 hl (E _) (E _) e0 e1
    by_cases h9 : T.kind = 9
    · obtain ⟨hl, e0⟩ := st_ok_9 h9 hok
      exact is_9 T h9 (by omega) (E _) e0
    by_cases h10 : T.kind = 10
    · refine is_10 T h10 ?_
      obtain ⟨hl, e0, k1, k2⟩ := st_ok_10 h10 hok
      rcases hl with hl | hl
      · have := if_two T (iw_of (E _) e0) (blk 1 (by omega) k1.1 k1.2) hl
        simpa only [st_text_10 T h10, if_neg (show ¬ T.len = 3 by omega)] using this
      · have := if_three T (iw_of (E _) e0) (blk 1 (by omega) k1.1 k1.2) ((ih 2 (by omega)).sm (k2 hl).2) hl
        simpa only [st_text_10 T h10, if_pos hl] using this
    by_cases h11 : T.kind = 11
    · refine is_11 T h11 ?_
      rcases st_ok_11 h11 hok with ⟨hl, k0⟩ | ⟨hl, e0, k1⟩
      · have := for_one T (blk 0 (by omega) k0.1 k0.2) hl
        simpa [st_text_11 T h11, hl] using this
      · have := for_two T (iw_of (E _) e0) (blk 1 (by omega) k1.1 k1.2) hl
        simpa [st_text_11 T h11, hl] using this
    by_cases h12 : T.kind = 12
    · have hl : T.len ≤ 1 := by
        have := hok; rw [sOk_eq, h12] at this; simp [stmtB] at this
        rcases this.2 with h | h
        · omega
        · have := (one_e h).1; omega
      exact is_12 T h12 hl fun i hi => iw_of (E _) (st_ok_12 h12 hok i hi (by omega))
    by_cases h13 : T.kind = 13
    · have hl : T.len = 1 := by
        have := hok; rw [sOk_eq, h13] at this; simp [stmtB] at this; exact (one_c this.2).1
      exact is_13 T h13 hl fun i hi => iw_of (E _) (st_ok_13 h13 hok i hi (by omega))
    by_cases h14 : T.kind = 14
    · have hl : T.len = 1 := by
        have := hok; rw [sOk_eq, h14] at this; simp [stmtB] at this; exact (one_c this.2).1
      exact is_14 T h14 hl fun i hi => iw_of (E _) (st_ok_14 h14 hok i hi (by omega))
    by_cases h15 : T.kind = 15
    · refine is_15 T h15 ?_
      have hc := st_ok_15 h15 hok
      have := choice_of T hc (fun i hi => ch_any hBin _ (hc i hi)) (fun i hi => by
        obtain ⟨_, h3, hk4, hs⟩ := cs_ok (hc i hi)
        exact (ih i hi).gr _ (by rcases h3 with h | h | h <;> omega) (st_ok_4 hk4 hs))
      simpa only [← st_text_15 T h15] using this
    by_cases h17 : T.kind = 17
    · exact is_17 T h17
    by_cases h18 : T.kind = 18
    · exact is_18 T h18
    by_cases h19 : T.kind = 19
    · have hl : T.len = 1 := by
        have := hok; rw [sOk_eq, h19] at this; simp [stmtB] at this; exact (one_e this.2).1
      exact is_19 T h19 hl (fun i _ => E _) fun i hi => st_ok_19 h19 hok i hi (by omega)
    by_cases h20 : T.kind = 20
    · have hl : T.len = 1 := by
        have := hok; rw [sOk_eq, h20] at this; simp [stmtB] at this; exact (one_e this.2).1
      exact is_20 T h20 hl (fun i _ => E _) fun i hi => st_ok_20 h20 hok i hi (by omega)
    by_cases h21 : T.kind = 21
    · have hl : T.len = 1 := by
        have := hok; rw [sOk_eq, h21] at this; simp [stmtB] at this; exact (one_e this.2).1
      exact is_21 T h21 hl (fun i _ => E _) fun i hi => st_ok_21 h21 hok i hi (by omega)
    rw [sOk_eq] at hok
    simp [stmtB, h4, h5, h6, h7, h8, h9, h10, h11, h12, h13, h14, h15, h17, h18, h19, h20, h21] at hok
  induction T with
  | nil => exact step .nil fun i hi => absurd hi (Nat.not_lt_zero _)
  | mk k n s len kids ih => exact step _ fun i _ => ih i
end Go.Proofs.YtacamenjijlemaaGreatDoor

/- The program's printer: every function, every file; given its signs of two sides. -/
namespace Go.Proofs.YtacamenjijlemaaGreatDoor
open Go.RowKit

/-- A function without the end of its last line. -/
def ftT (K : Nd) (d : Nat) : List UInt8 := [102, 117, 110, 99, 32] ++ (K.name.data.toList ++ (40 :: (catTo (parmT K) (K.len - 1) ++ ([41, 32] ++ ((if K.num = 0 then [] else typeT K.num ++ [32]) ++ blockT d ((prN (K.kids (K.len - 1))).sts (d + 1)))))))
theorem ftT_end (K : Nd) : ftT K 0 ++ [10] = funcT K := by
  rw [funcT_eq]; unfold ftT; simp
theorem par_ok {T : Nd} (h : funcB T = true) (i : Nat) (hi : i < T.len - 1) : (T.kids i).num = 1 ∨ (T.kids i).num = 2 ∨ (T.kids i).num = 3 := by
  unfold funcB at h
  simp only [Bool.and_eq_true, decide_eq_true_eq] at h
  have := allTo_iff.1 h.2.1 i hi
  unfold paramB at this
  simp only [Bool.and_eq_true, decide_eq_true_eq] at this
  omega
theorem fun_any (hBin : BinAll) (K : Nd) (h : funcB K = true) : IW 26 K (ftT K) := by
  obtain ⟨⟨h0, h3⟩, hL, _, hk, hs⟩ := func_ok h
  have hP : ∀ i, i < K.len - 1 → IW 39 (K.kids i) (fun _ => (K.kids i).name.data.toList ++ 32 :: typeT (K.kids i).num) := by
    intro i hi
    rcases par_ok h i hi with e | e | e
    · exact par_1 _ e
    · exact par_2 _ e
    · exact par_3 _ e
  have hB := blk_of _ ((ipr_all hBin (K.kids (K.len - 1))).sts (st_ok_4 hk hs))
  have hm : K.len = (K.len - 1) + 1 := by omega
  have hn : K.num = 0 ∨ K.num = 1 ∨ K.num = 2 ∨ K.num = 3 := by omega
  rcases hn with e | e | e | e
  · have := fun_0 K (K.len - 1) hm e hP hB
    refine (show IW 26 K (ftT K) from ?_)
    have q : ftT K = fun d => [102, 117, 110, 99, 32] ++ (K.name.data.toList ++ (40 :: (catTo (parmT K) (K.len - 1) ++ ([41, 32] ++ (blockT d ((prN (K.kids (K.len - 1))).sts (d + 1))))))) := by
      funext d; unfold ftT; rw [if_pos e]; rfl
    rw [q]; exact this
  · have := fun_1 K (K.len - 1) hm e hP hB
    have q : ftT K = fun d => [102, 117, 110, 99, 32] ++ (K.name.data.toList ++ (40 :: (catTo (parmT K) (K.len - 1) ++ ([41, 32] ++ (([105, 110, 116] ++ [32]) ++ blockT d ((prN (K.kids (K.len - 1))).sts (d + 1))))))) := by
      funext d; unfold ftT; rw [e]; rfl
    rw [q]; exact this
  · have := fun_2 K (K.len - 1) hm e hP hB
    have q : ftT K = fun d => [102, 117, 110, 99, 32] ++ (K.name.data.toList ++ (40 :: (catTo (parmT K) (K.len - 1) ++ ([41, 32] ++ (([98, 111, 111, 108] ++ [32]) ++ blockT d ((prN (K.kids (K.len - 1))).sts (d + 1))))))) := by
      funext d; unfold ftT; rw [e]; rfl
    rw [q]; exact this
  · have := fun_3 K (K.len - 1) hm e hP hB
    have q : ftT K = fun d => [102, 117, 110, 99, 32] ++ (K.name.data.toList ++ (40 :: (catTo (parmT K) (K.len - 1) ++ ([41, 32] ++ (([99, 104, 97, 110, 32, 105, 110, 116] ++ [32]) ++ blockT d ((prN (K.kids (K.len - 1))).sts (d + 1))))))) := by
      funext d; unfold ftT; rw [e]; rfl
    rw [q]; exact this
theorem pfile_any (hBin : BinAll) (T : Nd) (hok : ∀ i, i < T.len → funcB (T.kids i) = true) (pb : Nat) (own : Option Nat) (w : World) (v : Value) (hbuf : IBuf pb w own (0 : Nat) false []) (hg : Gl pb w) (hf : T.Fine) (hr : Row 0 pb w T v) (hb : (fileT T).length ≤ 1099511627776) :
    Calls Tryz.prog 14 #[.pointer (some ⟨pb, 0, none⟩), T.val v] w (IAdds pb [] (fileT T) (0 : Nat) false own w) := by
  have e : fileT T = catTo (fun i => (if i = 0 then [] else [10]) ++ (ftT (T.kids i) 0 ++ [10])) T.len := by
    unfold fileT; congr 1; funext i; rw [ftT_end]
  rw [e] at hb ⊢
  exact pfile_of T (fun i => ftT (T.kids i)) (fun i hi => fun_any hBin _ (hok i hi)) pb own [] w v hbuf hg hf hr (by simpa using hb)
end Go.Proofs.YtacamenjijlemaaGreatDoor
