import Derived.Test.YtkfbbdhidecefaaDoorUTE
import Derived.Deep.Onto
set_option linter.unusedVariables false
set_option maxHeartbeats 16000000
set_option maxRecDepth 100000
namespace Go.Proofs.YtkfbbdhidecefaaDoor
open Go.RowKit
variable {G : Prop}
theorem ba0 (h : G := by
 have Ry := Ct.out
 have Ru := Bi.out
 cases hk
 ·go_wp2_with (first | (go_at_call 14; refine (fT _ _).mono ?_; rw [IH.out]; rintro e w' ⟨rfl, rfl⟩) | (go_at_call 15; refine (gX _ _).mono ?_; rw [IK.out]; rintro e w' ⟨rfl, rfl⟩) | (go_at_call 17; refine (uP _).mono ?_; rintro e w1 ⟨rfl, hW, iT, bP⟩; have HR := (show Hid (cg w1 _ aS) from iT); clear iT) | (go_at_call 16; refine (mr aS _ _ 21 _ HR.out rfl (by omega)).mono ?_; rw [HK.out]; rintro e w2 ⟨rfl, rfl⟩) | (at_builtin; refine wpList_append_own _ rfl _ _ 29 rfl (w.heap.size + 1) 33 i0 (.agg #[.int .i64 0, .string ⟨#[]⟩, .int .i64 0]) 3 32 Tryd.underlying29 qn qm hZ hQ rfl (by decide) _ _ _ rfl (fZ iP.out (hW.alloc (hW.size) _)) ⟨w2.heap.size, 0, none⟩ 1 1 [.int .i64 1, .string x, .int .i64 (p : Int)] rfl rfl (gK _ _ _ _ _) (mg _ _ _) (by unfold maxLen; omega) (by omega) (by have := HB.out.size; have := hW.size; simp at *; omega) ?_; intro v' w3 gN aD nu; have HO : Hid (w3.ownsRow (w.heap.size + 1) 33 3 v' (ak.length + 1) (flat ak ++ [.int .i64 1, .string x, .int .i64 (p : Int)])) := gN; have HG : Hid ((w2.alloc (.cells #[.int .i64 1, .string x, .int .i64 (p : Int)] 33)).grownBy w3 (some g)) := aD; clear gN aD nu))
  have k_a18_1 := kk
  exact Il
 ·go_wp2_with (first | (go_at_call 14; refine (fT _ _).mono ?_; rw [IH.out]; rintro e w' ⟨rfl, rfl⟩) | (go_at_call 15; refine (gX _ _).mono ?_; rw [IK.out]; rintro e w' ⟨rfl, rfl⟩) | (go_at_call 17; refine (uP _).mono ?_; rintro e w1 ⟨rfl, hW, iT, bP⟩; have HR := (show Hid (cg w1 _ aS) from iT); clear iT) | (go_at_call 16; refine (mr aS _ _ 21 _ HR.out rfl (by omega)).mono ?_; rw [HK.out]; rintro e w2 ⟨rfl, rfl⟩) | (at_builtin; refine wpList_append_own _ rfl _ _ 29 rfl (w.heap.size + 1) 33 i0 (.agg #[.int .i64 0, .string ⟨#[]⟩, .int .i64 0]) 3 32 Tryd.underlying29 qn qm hZ hQ rfl (by decide) _ _ _ rfl (fZ iP.out (hW.alloc (hW.size) _)) ⟨w2.heap.size, 0, none⟩ 1 1 [.int .i64 3, .string x, .int .i64 (p : Int)] rfl rfl (gK _ _ _ _ _) (mg _ _ _) (by unfold maxLen; omega) (by omega) (by have := HB.out.size; have := hW.size; simp at *; omega) ?_; intro v' w3 gN aD nu; have HO : Hid (w3.ownsRow (w.heap.size + 1) 33 3 v' (ak.length + 1) (flat ak ++ [.int .i64 3, .string x, .int .i64 (p : Int)])) := gN; have HG : Hid ((w2.alloc (.cells #[.int .i64 3, .string x, .int .i64 (p : Int)] 33)).grownBy w3 (some g)) := aD; clear gN aD nu))
  have k_a18_2 := kk
  exact Il) : G := h
theorem ba1 (h : G := by
 have k_a28_0 := kk
 exact Ud) : G := h
theorem ba2 (h : G := by
 obtain ⟨bm, Kn⟩ := fY
 have HNx : Hid (∀ b ∈ (s.data.toList.drop p).take (j + 1), aR b.toNat = true) := fun b hb => by
  rw [pL s p j bm, List.mem_append] at hb
  rcases hb with hb | hb
  ·exact aN.out b hb
  ·rw [List.mem_singleton.1 hb]; exact Kn
 cases hlj : aW s[p + j].toNat <;> cases hdj : aM s[p + j].toNat
 ·rw [aR, hlj, hdj] at Kn; cases Kn
 all_goals
  have IH := (show Hid (aW s[p + j].toNat = _) from hlj)
  have IK := (show Hid (aM s[p + j].toNat = _) from hdj)
  clear hlj hdj Kn
  go_wp2_with (first | (go_at_call 14; refine (fT _ _).mono ?_; rw [IH.out]; rintro e w' ⟨rfl, rfl⟩) | (go_at_call 15; refine (gX _ _).mono ?_; rw [IK.out]; rintro e w' ⟨rfl, rfl⟩))
  go_round
  case rel => exact ⟨j + 1, by omega, by go_num, HNx⟩
  case measure => simp [intOf]; omega) : G := h
theorem ba3 (h : G := by
 clear fY
 go_wp2
 obtain rfl := HE.out
 have k_a18_4 := kk
 exact Il) : G := h
theorem ba4 (h : G := by
 have k_a28_1 := kk
 exact Ud) : G := h
theorem ba5 (h : G := by
 have Ry := Ct.out
 have Ru := Bi.out
 go_wp2_with (first | (go_at_call 14; refine (fT _ _).mono ?_; rw [IH.out]; rintro e w' ⟨rfl, rfl⟩) | (go_at_call 15; refine (gX _ _).mono ?_; rw [IK.out]; rintro e w' ⟨rfl, rfl⟩))
 exact Uq) : G := h
theorem ba6 (h : G := by
 unfold Hid
 rw [← HN.out]
 refine oq aN.out (by rw [VW.out]; omega) (fun bm => ?_)
 have pg : p + j < s.size := by rw [VW.out] at bm; omega
 rw [CP s p j pg]
 exact Bool.eq_false_iff.2 fun e => fY ⟨pg, e⟩) : G := h
theorem ba7 (h : G := by
 by_cases e : c = 47
 ·by_cases h1 : p + 1 < s.size
  ·exact .inr (.inr ⟨beq_iff_eq.2 e, h1, bn fun e2 => uW ⟨e, h1, e2⟩⟩)
  ·exact .inr (.inl ⟨beq_iff_eq.2 e, h1⟩)
 ·exact .inl (bn e)) : G := h
theorem ba8 (h : G := by
 unfold Hid
 rw [← hx, rX, List.length_take, ← HN.out]; exact Nat.min_eq_left (nJ _)) : G := h
theorem ba9 (h : G := by
 rw [h.cellAt _ (by omega), sM, List.getElem?_append_right (by omega)]; simp [hl]) : G := h
theorem Uq (h : G := by
 exact lE.out _ _ _ ⟨[], 4, p⟩ wu.out rfl rfl rfl rfl (rB HB.out) (nr HB.out)) : G := h
theorem Up (h : G := by
 obtain ⟨fA, hI⟩ := hI
 obtain ⟨fz, hI⟩ := hI
 obtain ⟨fy, hI⟩ := hI
 obtain ⟨fx, hI⟩ := hI
 obtain ⟨fw, hI⟩ := hI
 obtain ⟨fu, hI⟩ := hI
 obtain ⟨ft, hI⟩ := hI
 obtain ⟨fs, hI⟩ := hI
 obtain ⟨fr, hI⟩ := hI
 obtain ⟨fq, hI⟩ := hI
 obtain ⟨fp, hI⟩ := hI
 obtain ⟨fo, hI⟩ := hI
 obtain ⟨fm, hI⟩ := hI
 obtain ⟨fl, hI⟩ := hI
 obtain ⟨fk, hI⟩ := hI
 obtain ⟨fh, hI⟩ := hI
 obtain ⟨fg, hI⟩ := hI
 obtain ⟨fe, hI⟩ := hI
 obtain ⟨fc, hI⟩ := hI
 obtain ⟨fb, hI⟩ := hI
 obtain ⟨fa, hI⟩ := hI
 obtain ⟨e8, hI⟩ := hI
 obtain ⟨e7, hI⟩ := hI
 obtain ⟨e6, hI⟩ := hI
 obtain ⟨eZ, hI⟩ := hI
 obtain ⟨eY, hI⟩ := hI
 obtain ⟨eX, hI⟩ := hI
 obtain ⟨eW, hI⟩ := hI
 obtain ⟨eV, hI⟩ := hI
 obtain ⟨eU, hI⟩ := hI
 obtain ⟨eT, hI⟩ := hI
 obtain ⟨eS, hI⟩ := hI
 obtain ⟨eR, hI⟩ := hI
 obtain ⟨eQ, hI⟩ := hI
 obtain ⟨eP, hI⟩ := hI
 obtain ⟨eO, hI⟩ := hI
 obtain ⟨eN, hI⟩ := hI
 obtain ⟨eM, hI⟩ := hI
 obtain ⟨eL, hI⟩ := hI
 obtain ⟨eK, hI⟩ := hI
 obtain ⟨eJ, hI⟩ := hI
 obtain ⟨eI, hI⟩ := hI
 obtain ⟨eH, hI⟩ := hI
 obtain ⟨eG, hI⟩ := hI
 obtain ⟨eF, hI⟩ := hI
 obtain ⟨eE, hI⟩ := hI
 obtain ⟨eD, hI⟩ := hI
 obtain ⟨eC, hI⟩ := hI
 obtain ⟨eB, hI⟩ := hI
 obtain ⟨eA, hI⟩ := hI
 obtain ⟨ez, hI⟩ := hI
 obtain ⟨ey, hI⟩ := hI
 obtain ⟨ew, hI⟩ := hI
 obtain ⟨ev, hI⟩ := hI
 obtain ⟨eu, hI⟩ := hI
 obtain ⟨et, hI⟩ := hI
 obtain ⟨ep, hI⟩ := hI
 obtain ⟨eo, hI⟩ := hI
 obtain ⟨en, hI⟩ := hI
 obtain ⟨ej, hI⟩ := hI
 first
 |clear k_a11_0
  have k_a13_0 := kk
  exact Un
 |clear k_a11_1
  have k_a13_1 := kk
  exact Un) : G := h
theorem Uo (h : G := by
 obtain ⟨kQ, hI⟩ := hI
 obtain ⟨kP, hI⟩ := hI
 obtain ⟨kO, hI⟩ := hI
 obtain ⟨kM, hI⟩ := hI
 obtain ⟨kL, hI⟩ := hI
 obtain ⟨kK, hI⟩ := hI
 obtain ⟨kJ, hI⟩ := hI
 obtain ⟨kI, hI⟩ := hI
 obtain ⟨kH, hI⟩ := hI
 obtain ⟨kG, hI⟩ := hI
 obtain ⟨kE, hI⟩ := hI
 obtain ⟨kD, hI⟩ := hI
 obtain ⟨kC, hI⟩ := hI
 obtain ⟨kB, hI⟩ := hI
 obtain ⟨kA, hI⟩ := hI
 obtain ⟨kz, hI⟩ := hI
 obtain ⟨u32, hI⟩ := hI
 obtain ⟨ky, hI⟩ := hI
 obtain ⟨kx, hI⟩ := hI
 obtain ⟨ku, hI⟩ := hI
 obtain ⟨kt, hI⟩ := hI
 obtain ⟨ks, hI⟩ := hI
 obtain ⟨kr, hI⟩ := hI
 obtain ⟨kq, hI⟩ := hI
 obtain ⟨ko, hI⟩ := hI
 obtain ⟨km, hI⟩ := hI
 obtain ⟨kl, hI⟩ := hI
 obtain ⟨ki, hI⟩ := hI
 obtain ⟨kh, hI⟩ := hI
 obtain ⟨ke, hI⟩ := hI
 obtain ⟨kb, hI⟩ := hI
 obtain ⟨j8, hI⟩ := hI
 obtain ⟨j7, hI⟩ := hI
 obtain ⟨j6, hI⟩ := hI
 obtain ⟨j5, hI⟩ := hI
 obtain ⟨j4, hI⟩ := hI
 obtain ⟨jZ, hI⟩ := hI
 obtain ⟨jY, hI⟩ := hI
 obtain ⟨jX, hI⟩ := hI
 obtain ⟨jW, hI⟩ := hI
 obtain ⟨jV, hI⟩ := hI
 obtain ⟨jU, hI⟩ := hI
 obtain ⟨jT, hI⟩ := hI
 obtain ⟨jS, hI⟩ := hI
 obtain ⟨jR, hI⟩ := hI
 obtain ⟨jQ, hI⟩ := hI
 obtain ⟨jP, hI⟩ := hI
 obtain ⟨jO, hI⟩ := hI
 obtain ⟨u64, hI⟩ := hI
 obtain ⟨jN, hI⟩ := hI
 obtain ⟨jM, hI⟩ := hI
 obtain ⟨jL, hI⟩ := hI
 obtain ⟨jK, hI⟩ := hI
 obtain ⟨jJ, hI⟩ := hI
 obtain ⟨jI, hI⟩ := hI
 obtain ⟨jH, hI⟩ := hI
 obtain ⟨jG, hI⟩ := hI
 obtain ⟨jF, hI⟩ := hI
 obtain ⟨jE, hI⟩ := hI
 obtain ⟨jD, hI⟩ := hI
 first
 |clear k_a12_0
  have k_a19_0 := kk
  exact Uj
 |clear k_a12_1
  have k_a19_1 := kk
  exact Uj) : G := h
theorem Un (h : G := by
 obtain ⟨ei, hI⟩ := hI
 obtain ⟨eh, hI⟩ := hI
 obtain ⟨ef, hI⟩ := hI
 obtain ⟨ee, hI⟩ := hI
 obtain ⟨ed, hI⟩ := hI
 obtain ⟨ec, hI⟩ := hI
 obtain ⟨ea, hI⟩ := hI
 obtain ⟨dZ, hI⟩ := hI
 obtain ⟨dY, hI⟩ := hI
 obtain ⟨dX, hI⟩ := hI
 obtain ⟨dW, hI⟩ := hI
 obtain ⟨dV, hI⟩ := hI
 obtain ⟨dS, hI⟩ := hI
 obtain ⟨dR, hI⟩ := hI
 obtain ⟨dQ, hI⟩ := hI
 obtain ⟨dP, hI⟩ := hI
 obtain ⟨dO, hI⟩ := hI
 obtain ⟨dN, hI⟩ := hI
 obtain ⟨dM, hI⟩ := hI
 obtain ⟨dL, hI⟩ := hI
 obtain ⟨dK, hI⟩ := hI
 obtain ⟨dJ, hI⟩ := hI
 obtain ⟨dI, hI⟩ := hI
 obtain ⟨dH, hI⟩ := hI
 obtain ⟨dG, hI⟩ := hI
 obtain ⟨dF, hI⟩ := hI
 obtain ⟨dE, hI⟩ := hI
 obtain ⟨dD, hI⟩ := hI
 obtain ⟨dC, hI⟩ := hI
 obtain ⟨dz, hI⟩ := hI
 obtain ⟨dy, hI⟩ := hI
 obtain ⟨dx, hI⟩ := hI
 obtain ⟨dv, hI⟩ := hI
 obtain ⟨dt, hI⟩ := hI
 obtain ⟨dr, hI⟩ := hI
 obtain ⟨dq, hI⟩ := hI
 obtain ⟨dp, hI⟩ := hI
 obtain ⟨dn, hI⟩ := hI
 obtain ⟨dm, hI⟩ := hI
 obtain ⟨dk, hI⟩ := hI
 obtain ⟨dj, hI⟩ := hI
 obtain ⟨di, hI⟩ := hI
 obtain ⟨dh, hI⟩ := hI
 obtain ⟨de, hI⟩ := hI
 obtain ⟨dd, hI⟩ := hI
 obtain ⟨dc, hI⟩ := hI
 obtain ⟨cZ, hI⟩ := hI
 obtain ⟨cY, hI⟩ := hI
 obtain ⟨cX, hI⟩ := hI
 obtain ⟨cW, hI⟩ := hI
 obtain ⟨cV, hI⟩ := hI
 obtain ⟨cS, hI⟩ := hI
 obtain ⟨cR, hI⟩ := hI
 obtain ⟨cQ, hI⟩ := hI
 obtain ⟨cP, hI⟩ := hI
 obtain ⟨cO, hI⟩ := hI
 obtain ⟨cN, hI⟩ := hI
 first
 |clear k_a13_0
  obtain ⟨hI, rfl⟩ := hI
  obtain ⟨ak, p, g, cap, cz, hlen, zF, rfl, rfl, bK, hb⟩ := hI
  exact FP s w hs c1 ij iu ir iq im gM bZ bY bX bW bV bU bT bS bR u2 u3 u4 u8 u9 kQ kP kO kM kL kK kJ kI kH kG kE kD kC kB kA kz u32 ky kx ku kt ks kr kq ko km kl ki kh ke kb j8 j7 j6 j5 j4 jZ jY jX jW jV jU jT jS jR jQ jP jO u64 jN jM jL jK jJ jI jH jG jF jE jD jC jB jA jz jy jx jw jv ju jt js jr jq jo jn jm jl jk ji jh jg je jd jc fA fz fy fx fw fu ft fs fr fq fp fo fm fl fk fh fg fe fc fb fa e8 e7 e6 eZ eY eX eW eV eU eT eS eR eQ eP eO eN eM eL eK eJ eI eH eG eF eE eD eC eB eA ez ey ew ev eu et ep eo en ej ei eh ef ee ed ec ea dZ dY dX dW dV dS dR dQ dP dO dN dM dL dK dJ dI dH dG dF dE dD dC dz dy dx dv dt dr dq dp dn dm dk dj di dh de dd dc cZ cY cX cW cV cS cR cQ cP cO cN kZ ak p g cap hlen zF Q0 lE cz bK hb CC
 |clear k_a13_1
  obtain ⟨hI, ⟨p', xi, IZ⟩, rfl⟩ := hI
  obtain ⟨ak, p, g, cap, cz, hlen, zF, rfl, rfl, bK, hb⟩ := hI
  have GQ : s.size < p := by injection xi with _ h; omega
  clear xi IZ
  dsimp only
  by_cases hm : 4000 < ak.length
  ·have Th : ak.length = 4001 := by omega
   have lR : kZ.cell? ⟨g, 12002, none⟩ = some (.int .i64 ak[4000].place) := by rw [bK.cellAt 12002 (by omega)]; exact Ab ak 4000 hm
   have wu : Hid (cC s.data.toList ⟨[], 13, ak[4000].place⟩) := uF cz hm
   generalize ak[4000].place = place at *
   have VR : Hid (kZ.ownsRow w.heap.size 33 3 (.slice (some ⟨w.heap.size, 0, none⟩) 0 0) 0 []) := rB hb
   have Wf : Hid (Below w.heap.size w kZ) := nr hb
   clear bK hb cz
   rw [Th]
   clear Th hm hlen
   go_wp2_with fail
   go_quiet (fail)
   go_wp2
   go_ret3
   exact ⟨⟨[], 13, place⟩, _, wu.out, rfl, VR.out, below_drewN Wf.out _⟩
  ·have wu : Hid (cC s.data.toList ⟨ak, 0, 0⟩) := .done cz (by omega) GQ
   have VR : Hid (kZ.ownsRow w.heap.size 33 3 (.slice (some ⟨g, 0, none⟩) ak.length cap) ak.length (flat ak)) := bK.mono (by omega)
   have Wf : Hid (Below w.heap.size w kZ) := nr hb
   clear bK hb cz
   go_wp2
   go_ret3
   exact ⟨⟨ak, 0, 0⟩, _, wu.out, rfl, VR.out, Wf.out⟩) : G := h
theorem Um (h : G := by
 have k_a21_1 := kk
 exact OX) : G := h
theorem Ul (h : G := by
 have k_a16_2 := kk
 exact OY) : G := h
theorem OY (h : G := by
 have VW : Hid ((s.data.toList.drop p).length = s.size - p) := pM s p
 generalize Ku : bC (s.data.toList.drop p) = n at *
 have HN : Hid (bC (s.data.toList.drop p) = n) := Ku
 clear Ku
 generalize hx : bs ((s.data.toList.drop p).take n) = x at *
 have Ct : Hid (s.extract p (p + n) = x) := by unfold Hid; rw [← hx]; exact OH s p n
 have Bi : Hid (x.size = n) := by
  exact ba8
 have EO : Hid (x.data.toList = (s.data.toList.drop p).take n) := by unfold Hid; rw [← hx, nV]
 clear hx
 go_wp2_with (first | (go_at_call 14; refine (fT _ _).mono ?_; rw [HL.out]; rintro e w' ⟨rfl, rfl⟩) | (go_at_call 15; refine (gX _ _).mono ?_; rw [HD.out]; rintro e w' ⟨rfl, rfl⟩))
 go_loop [7] (fun i => ∃ j : Nat, p + j ≤ s.size ∧ i = .int .i64 ((p + j : Nat) : Int) ∧ Hid (∀ b ∈ (s.data.toList.drop p).take j, aR b.toNat = true)) (fun i => s.size - (intOf i).toNat)
 case atStart => exact ⟨0, by omega, rfl, by simp [Hid]⟩
 first
 |clear k_a16_0
  case round =>
   obtain ⟨j, hj, rfl, aN⟩ := hrel
   by_cases fY : ∃ h : p + j < s.size, aR s[p + j].toNat = true
   ·exact ba2
   ·have HE : Hid (n = j) := by
     exact ba6
    by_cases bm : p + j < s.size
    ·have k_a23_0 := kk
     exact Li
    ·obtain rfl := HE.out
     have IH : Hid True := trivial
     have IK : Hid True := trivial
     clear fY HE
     exact ba1
 |clear k_a16_1
  case round =>
   obtain ⟨j, hj, rfl, aN⟩ := hrel
   by_cases fY : ∃ h : p + j < s.size, aR s[p + j].toNat = true
   ·exact ba2
   ·have HE : Hid (n = j) := by
     exact ba6
    by_cases bm : p + j < s.size
    ·have k_a23_1 := kk
     exact Li
    ·obtain rfl := HE.out
     have IH : Hid True := trivial
     have IK : Hid True := trivial
     clear fY HE
     exact ba4
 |clear k_a16_2
  first
  |clear k_a15_0
   case round =>
    obtain ⟨j, hj, rfl, aN⟩ := hrel
    by_cases fY : ∃ h : p + j < s.size, aR s[p + j].toNat = true
    ·exact ba2
    ·have HE : Hid (n = j) := by
      exact ba6
     by_cases bm : p + j < s.size
     ·have k_a23_2 := kk
      exact Li
     ·obtain rfl := HE.out
      have IH : Hid True := trivial
      have IK : Hid True := trivial
      clear fY HE
      exact ba5
  |clear k_a15_1
   case round =>
    obtain ⟨j, hj, rfl, aN⟩ := hrel
    by_cases fY : ∃ h : p + j < s.size, aR s[p + j].toNat = true
    ·exact ba2
    ·have HE : Hid (n = j) := by
      exact ba6
     by_cases bm : p + j < s.size
     ·have k_a23_3 := kk
      exact Li
     ·obtain rfl := HE.out
      have IH : Hid True := trivial
      have IK : Hid True := trivial
      clear fY HE
      exact ba0) : G := h
theorem Uk (h : G := by
 have k_a24_0 := kk
 exact Ug) : G := h
theorem Il (h : G := by
 refine ⟨?_, by simp [iK, intOf]; omega⟩
 unfold mR
 refine ⟨_, _, _, _, _, _, _, _, _, _, _, _, _, _, _, _, _, _, _, _, _, _, _, _, _, _, _, _, _, _, _, _, _, _, _, _, _, _, _, _, _, _, _, _, _, _, _, _, _, _, _, _, _, _, _, _, _, _, _, _, _, _, _, _, _, _, _, _, _, _, _, _, _, _, _, _, _, _, _, _, _, _, _, _, _, _, _, _, _, _, _, _, _, _, _, _, _, _, _, _, _, _, _, _, _, _, _, _, _, _, _, _, _, _, _, _, _, _, _, _, _, _, _, _, _, _, _, _, _, _, _, _, _, _, _, _, _, _, _, _, _, _, _, _, _, _, _, _, _, _, _, _, _, _, _, _, _, _, _, _, _, _, _, _, _, _, _, _, _, _, _, _, _, _, _, _, _, _, _, _, _, _, _, _, _, _, _, _, _, _, _, _, _, _, _, _, _, _, _, _, _, _, _, _, _, _, _, _, ?_, rfl⟩
 first
 |clear k_a18_0
  exact mW (t := ⟨5, ⟨#[59]⟩, p⟩) iP.out HB.out (hW.alloc hW.size _) HO.out HG.out mF.out hm (by omega) (by go_num)
 |clear k_a18_1
  exact mW (t := ⟨1, x, p⟩) iP.out HB.out (hW.alloc hW.size _) HO.out HG.out mF.out hm (by omega) (by go_num)
 |clear k_a18_2
  exact mW (t := ⟨3, x, p⟩) iP.out HB.out (hW.alloc hW.size _) HO.out HG.out mF.out hm (by omega) (by go_num)
 |clear k_a18_3
  exact mW (t := ⟨2, x, p⟩) iP.out HB.out (hW.alloc hW.size _) HO.out HG.out mF.out hm (by omega) (by go_num)
 |clear k_a18_4
  exact ⟨ak, p + L, g, cap, mF.out, hlen, by omega, by go_num, rfl, iP.out, HB.out⟩) : G := h
theorem Uj (h : G := by
 obtain ⟨jC, hI⟩ := hI
 obtain ⟨jB, hI⟩ := hI
 obtain ⟨jA, hI⟩ := hI
 obtain ⟨jz, hI⟩ := hI
 obtain ⟨jy, hI⟩ := hI
 obtain ⟨jx, hI⟩ := hI
 obtain ⟨jw, hI⟩ := hI
 obtain ⟨jv, hI⟩ := hI
 obtain ⟨ju, hI⟩ := hI
 obtain ⟨jt, hI⟩ := hI
 obtain ⟨js, hI⟩ := hI
 obtain ⟨jr, hI⟩ := hI
 obtain ⟨jq, hI⟩ := hI
 obtain ⟨jo, hI⟩ := hI
 obtain ⟨jn, hI⟩ := hI
 obtain ⟨jm, hI⟩ := hI
 obtain ⟨jl, hI⟩ := hI
 obtain ⟨jk, hI⟩ := hI
 obtain ⟨ji, hI⟩ := hI
 obtain ⟨jh, hI⟩ := hI
 obtain ⟨jg, hI⟩ := hI
 obtain ⟨je, hI⟩ := hI
 obtain ⟨jd, hI⟩ := hI
 obtain ⟨jc, hI⟩ := hI
 first
 |clear k_a19_0
  have k_a11_0 := kk
  exact Up
 |clear k_a19_1
  have k_a11_1 := kk
  exact Up) : G := h
theorem Ui (h : G := by
 have k_a21_2 := kk
 exact OX) : G := h
theorem OX (h : G := by
 conv => arg 2; whnf
 have k_a24_1 := kk
 exact Ug) : G := h
theorem Uh (h : G := by
 obtain ⟨k1, k2, k3⟩ := Bc iP.out hn hlast
 clear xl hlast
 have HN : Hid (ak.length = n + 1) := hn
 rw [hn]
 generalize last.kind = lk at *
 generalize last.text = lt at *
 generalize (last.place : Int) = lp at *
 rw [hn] at hm hlen
 clear hn
 rcases hq with hq | ⟨hq, hp, hc⟩
 first
 |clear k_a22_0
  all_goals
   go_wp2_with (go_at_call 13; refine (wO _ _ _ _).mono ?_; rw [he.out]; rintro e w1 ⟨rfl, hb1⟩)
   refine ⟨?_, by simp [iK, intOf]; omega⟩
   unfold mR
   refine ⟨_, _, _, _, _, _, _, _, _, _, _, _, _, _, _, _, _, _, _, _, _, _, _, _, _, _, _, _, _, _, _, _, _, _, _, _, _, _, _, _, _, _, _, _, _, _, _, _, _, _, _, _, _, _, _, _, _, _, _, _, _, _, _, _, _, _, _, _, _, _, _, _, _, _, _, _, _, _, _, _, _, _, _, _, _, _, _, _, _, _, _, _, _, _, _, _, _, _, _, _, _, _, _, _, _, _, _, _, _, _, _, _, _, _, _, _, _, _, _, _, _, _, _, _, _, _, _, _, _, _, _, _, _, _, _, _, _, _, _, _, _, _, _, _, _, _, _, _, _, _, _, _, _, _, _, _, _, _, _, _, _, _, _, _, _, _, _, _, _, _, _, _, _, _, _, _, _, _, _, _, _, _, _, _, _, _, _, _, _, _, _, _, _, _, _, _, _, _, _, _, _, _, _, _, _, _, _, _, ?_, rfl⟩
   exact ⟨ak, p + 1, g, cap, mF.out, by rw [HN.out]; exact hlen, by omega, by go_num, by rw [HN.out], fZ (by rw [← HN.out]; exact iP.out) hb1, HB.out.trans (hb1.mono (by omega))⟩
 |clear k_a22_1
  all_goals
   go_wp2_with (first | (go_at_call 13; refine (wO _ _ _ _).mono ?_; rw [he.out]; rintro e w1 ⟨rfl, hW⟩) | (at_builtin; refine wpList_append_own _ rfl _ _ 29 rfl (w.heap.size + 1) 33 i0 (.agg #[.int .i64 0, .string ⟨#[]⟩, .int .i64 0]) 3 32 Tryd.underlying29 qn qm hZ hQ rfl (by decide) _ (n + 1) (flat ak) rfl (fZ (by rw [← HN.out]; exact iP.out) (hW.alloc (hW.size) _)) ⟨w1.heap.size, 0, none⟩ 1 1 [.int .i64 5, .string ⟨#[]⟩, .int .i64 (p : Int)] rfl rfl (gK _ _ _ _ _) (mg _ _ _) (by unfold maxLen; omega) (by omega) (by have := HB.out.size; have := hW.size; simp at *; omega) ?_; intro v' w3 gN aD nu; have HO : Hid (w3.ownsRow (w.heap.size + 1) 33 3 v' (n + 1 + 1) (flat ak ++ [.int .i64 5, .string ⟨#[]⟩, .int .i64 (p : Int)])) := gN; have HG : Hid ((w1.alloc (.cells #[.int .i64 5, .string ⟨#[]⟩, .int .i64 (p : Int)] 33)).grownBy w3 (some g)) := aD; clear gN aD nu))
   refine ⟨?_, by simp [iK, intOf]; omega⟩
   unfold mR
   refine ⟨_, _, _, _, _, _, _, _, _, _, _, _, _, _, _, _, _, _, _, _, _, _, _, _, _, _, _, _, _, _, _, _, _, _, _, _, _, _, _, _, _, _, _, _, _, _, _, _, _, _, _, _, _, _, _, _, _, _, _, _, _, _, _, _, _, _, _, _, _, _, _, _, _, _, _, _, _, _, _, _, _, _, _, _, _, _, _, _, _, _, _, _, _, _, _, _, _, _, _, _, _, _, _, _, _, _, _, _, _, _, _, _, _, _, _, _, _, _, _, _, _, _, _, _, _, _, _, _, _, _, _, _, _, _, _, _, _, _, _, _, _, _, _, _, _, _, _, _, _, _, _, _, _, _, _, _, _, _, _, _, _, _, _, _, _, _, _, _, _, _, _, _, _, _, _, _, _, _, _, _, _, _, _, _, _, _, _, _, _, _, _, _, _, _, _, _, _, _, _, _, _, _, _, _, _, _, _, _, ?_, rfl⟩
   exact mW (t := ⟨5, ⟨#[]⟩, p⟩) iP.out HB.out (hW.alloc hW.size _) (by rw [HN.out]; exact HO.out) HG.out mF.out (by rw [HN.out]; exact hm) (by omega) (by go_num)) : G := h
theorem Li (h : G := by
 have Kn : aR s[p + j].toNat = false := Bool.eq_false_iff.2 fun e => fY ⟨bm, e⟩
 have IH : Hid (aW s[p + j].toNat = false) := (Bool.or_eq_false_iff.1 Kn).1
 have IK : Hid (aM s[p + j].toNat = false) := (Bool.or_eq_false_iff.1 Kn).2
 obtain rfl := HE.out
 clear fY Kn HE
 first
 |clear k_a23_0
  exact ba1
 |clear k_a23_1
  exact ba4
 |clear k_a23_2
  exact ba5
 |clear k_a23_3
  exact ba0) : G := h
theorem Ug (h : G := by
  have hq : ((p : Int) == (s.size : Int)) = false := bn (by omega)
  have e10 : (c == 10) = false := bn lA
  have e32 : (c == 32) = false := bn (fun e => by rw [e] at mG; revert mG; decide)
  have e9 : (c == 9) = false := bn (fun e => by rw [e] at mG; revert mG; decide)
  have e13 : (c == 13) = false := bn (fun e => by rw [e] at mG; revert mG; decide)
  clear lA mG
  first
  | clear k_a24_0
    have e59 : (c == 59) = false := bn qp
    clear qp
    have h3 : (c == 47) = false ∨ ((c == 47) = true ∧ ¬ p + 1 < s.size) ∨ ((c == 47) = true ∧ ∃ h : p + 1 < s.size, ((s[p + 1].toNat : Int) == 47) = false) := by
      exact ba7
    clear uW
    generalize hop : bL (s.data.toList.drop p) = op at *
    have HOp : Hid (bL (s.data.toList.drop p) = op) := hop
    clear hop
    rcases h3 with Qj | ⟨Qj, xi⟩ | ⟨Qj, xi, e472⟩
    first
    | clear k_a17_0
      all_goals
        have e47' := Qj
        go_wp2_with (first | (go_at_call 14; refine (fT _ _).mono ?_; rw [HL.out]; rintro e w' ⟨rfl, rfl⟩) | (go_at_call 15; refine (gX _ _).mono ?_; rw [HD.out]; rintro e w' ⟨rfl, rfl⟩) | (go_at_call 19; refine (Ce _ _ _ hs (by omega)).mono ?_; rw [HOp.out]; rintro e w1 ⟨rfl, hW⟩))
        exact lE.out _ _ _ ⟨[], 4, p⟩ wu.out rfl rfl rfl rfl (fZ (rB HB.out) hW) ((nr HB.out).trans (hW.mono (by omega)))
    | clear k_a17_1
      all_goals
        have e47' := Qj
        go_wp2_with (first | (go_at_call 14; refine (fT _ _).mono ?_; rw [HL.out]; rintro e w' ⟨rfl, rfl⟩) | (go_at_call 15; refine (gX _ _).mono ?_; rw [HD.out]; rintro e w' ⟨rfl, rfl⟩) | (go_at_call 19; refine (Ce _ _ _ hs (by omega)).mono ?_; rw [HOp.out]; rintro e w1 ⟨rfl, hW⟩) | (at_builtin; refine wpList_append_own _ rfl _ _ 29 rfl (w.heap.size + 1) 33 i0 (.agg #[.int .i64 0, .string ⟨#[]⟩, .int .i64 0]) 3 32 Tryd.underlying29 qn qm hZ hQ rfl (by decide) _ _ _ rfl (fZ iP.out (hW.alloc (hW.size) _)) ⟨w1.heap.size, 0, none⟩ 1 1 [.int .i64 4, .string op, .int .i64 (p : Int)] rfl rfl (gK _ _ _ _ _) (mg _ _ _) (by unfold maxLen; omega) (by omega) (by have := HB.out.size; have := hW.size; simp at *; omega) ?_; intro v' w3 gN aD nu; have HO : Hid (w3.ownsRow (w.heap.size + 1) 33 3 v' (ak.length + 1) (flat ak ++ [.int .i64 4, .string op, .int .i64 (p : Int)])) := gN; have HG : Hid ((w1.alloc (.cells #[.int .i64 4, .string op, .int .i64 (p : Int)] 33)).grownBy w3 (some g)) := aD; clear gN aD nu))
        refine ⟨?_, by simp [iK, intOf]; omega⟩
        unfold mR
        refine ⟨_, _, _, _, _, _, _, _, _, _, _, _, _, _, _, _, _, _, _, _, _, _, _, _, _, _, _, _, _, _, _, _, _, _, _, _, _, _, _, _, _, _, _, _, _, _, _, _, _, _, _, _, _, _, _, _, _, _, _, _, _, _, _, _, _, _, _, _, _, _, _, _, _, _, _, _, _, _, _, _, _, _, _, _, _, _, _, _, _, _, _, _, _, _, _, _, _, _, _, _, _, _, _, _, _, _, _, _, _, _, _, _, _, _, _, _, _, _, _, _, _, _, _, _, _, _, _, _, _, _, _, _, _, _, _, _, _, _, _, _, _, _, _, _, _, _, _, _, _, _, _, _, _, _, _, _, _, _, _, _, _, _, _, _, _, _, _, _, _, _, _, _, _, _, _, _, _, _, _, _, _, _, _, _, _, _, _, _, _, _, _, _, _, _, _, _, _, _, _, _, _, _, _, _, _, _, _, _, ?_, rfl⟩
        exact mW (t := ⟨4, op, p⟩) iP.out HB.out (hW.alloc hW.size _) HO.out HG.out mF.out hm (by omega) (by go_num)
  | clear k_a24_1
    first
    | clear k_a21_0
      subst zY
      have Ms := pM s p
      generalize hL : b6 (s.data.toList.drop p) = L at *
      have HL : Hid (b6 (s.data.toList.drop p) = L) := hL
      clear hL
      have VW : Hid ((s.data.toList.drop p).length = s.size - p) := Ms
      clear Ms
      go_wp2
      go_loop [7] (fun i => ∃ j : Nat, p + j ≤ s.size ∧ i = .int .i64 ((p + j : Nat) : Int) ∧ Hid (∀ b ∈ (s.data.toList.drop p).take j, b.toNat ≠ 10)) (fun i => s.size - (intOf i).toNat)
      case atStart => exact ⟨0, by omega, rfl, by simp [Hid]⟩
      case round =>
        obtain ⟨j, hj, rfl, aN⟩ := hrel
        by_cases fY : ∃ h : p + j < s.size, s[p + j].toNat ≠ 10
        · obtain ⟨bm, fE⟩ := fY
          have HN : Hid (∀ b ∈ (s.data.toList.drop p).take (j + 1), b.toNat ≠ 10) := fun b hb => by
            rw [pL s p j bm, List.mem_append] at hb
            rcases hb with hb | hb
            · exact aN.out b hb
            · rw [List.mem_singleton.1 hb]; exact fE
          have e1 : ((s[p + j].toNat : Int) == 10) = false := bn (by omega)
          clear fE
          go_wp2
          go_round
          case rel => exact ⟨j + 1, by omega, by go_num, HN⟩
          case measure => simp [intOf]; omega
        · have HE : Hid (L = j) := by
            unfold Hid
            rw [← HL.out]
            refine Gx aN.out (by rw [VW.out]; omega) (fun bm => ?_)
            have pg : p + j < s.size := by rw [VW.out] at bm; omega
            rw [CP s p j pg]
            exact Classical.byContradiction fun e => fY ⟨pg, e⟩
          by_cases bm : p + j < s.size
          · have e1 : ((s[p + j].toNat : Int) == 10) = true := beq_iff_eq.2 (by
              have := Classical.byContradiction fun e => fY ⟨bm, e⟩
              omega)
            exact ba3
          · exact ba3
    | clear k_a21_1
      have Qj : (c == 47) = false := bn (fun e => by have := HD.out; rw [e] at this; revert this; decide)
      have e59 : (c == 59) = false := bn (fun e => by have := HD.out; rw [e] at this; revert this; decide)
      have Hx0 : Hid (∀ (n : Nat) (x : ByteArray), 1 ≤ n → x.data.toList = (s.data.toList.drop p).take n → ∀ h : 0 < x.size, aM x[0].toNat = true) := fun n x hn hx h => by
        have h1 : x[0] = x.data.toList[0]'(by simpa using h) := rfl
        have h2 : x.data.toList[0]'(by simpa using h) = s[p] := by
          have : (s.data.toList.drop p).take n = s[p] :: (((s.data.toList.drop (p + 1))).take (n - 1)) := by
            obtain ⟨m, rfl⟩ : ∃ m, n = m + 1 := ⟨n - 1, by omega⟩
            rw [List.drop_eq_getElem_cons (show p < s.data.toList.length from hp)]; rfl
          simp [hx, this]
        rw [h1, h2]
        have := HD.out
        rw [← hc] at this
        exact this
      first
      | clear k_a14_0
        have k_a26_1 := kk
        exact Ue
      | clear k_a14_1
        have k_a16_1 := kk
        exact OY
    | clear k_a21_2
      have Qj : (c == 47) = false := bn (fun e => by have := HL.out; rw [e] at this; revert this; decide)
      have e59 : (c == 59) = false := bn (fun e => by have := HL.out; rw [e] at this; revert this; decide)
      have HD : Hid True := trivial
      first
      | clear k_a20_0
        have k_a27_0 := kk
        exact OW
      | clear k_a20_1
        have k_a15_0 := kk
        exact Ul) : G := h
theorem Uf (h : G := by
 conv => arg 2; whnf
 have PP := HB.out.size
 rw [World.size_alloc] at PP
 have k_a27_1 := kk
 exact OW) : G := h
theorem Ue (h : G := by
 have k_a27_2 := kk
 exact OW) : G := h
theorem OW (h : G := by
 obtain ⟨i0, qn, qm, hZ, hQ⟩ := info_parts (show (Tryd.prog.info? 33).map (fun i => (i.zero, i.size, i.bytes)) = some (some (.agg #[.int .i64 0, .string ⟨#[]⟩, .int .i64 0]), 3, 32) by kernel_rfl)
 first
 |clear k_a27_0
  have PP := HB.out.size
  rw [World.size_alloc] at PP
  have k_a15_1 := kk
  exact Ul
 |clear k_a27_1
  first
  |clear k_a25_0
   rcases hlast : ak.getLast? with _ | last
   ·have htn : ak = [] := List.getLast?_eq_none_iff.1 hlast
    subst htn
    simp [fS] at xl
   ·obtain ⟨n, hn⟩ : ∃ n, ak.length = n + 1 := by
     obtain ⟨ys, rfl⟩ := List.getLast?_eq_some_iff.1 hlast
     exact ⟨ys.length, by simp⟩
    have he : Hid (mD last.kind last.text = true) := by simpa [fS, Hid, hlast] using xl
    have k_a22_1 := kk
    exact Uh
  |clear k_a25_1
   have k_a17_1 := kk
   exact Uk
 |clear k_a27_2
  have hW : Below wr.heap.size wr wr := Below.refl _ _
  first
  |clear k_a26_0
   go_wp2_with (first | (at_builtin; refine wpList_append_own _ rfl _ _ 29 rfl (w.heap.size + 1) 33 i0 (.agg #[.int .i64 0, .string ⟨#[]⟩, .int .i64 0]) 3 32 Tryd.underlying29 qn qm hZ hQ rfl (by decide) _ _ _ rfl (fZ iP.out (hW.alloc (hW.size) _)) ⟨wr.heap.size, 0, none⟩ 1 1 [.int .i64 5, .string ⟨#[59]⟩, .int .i64 (p : Int)] rfl rfl (gK _ _ _ _ _) (mg _ _ _) (by unfold maxLen; omega) (by omega) (by have := HB.out.size; have := hW.size; simp at *; omega) ?_; intro v' w3 gN aD nu; have HO : Hid (w3.ownsRow (w.heap.size + 1) 33 3 v' (ak.length + 1) (flat ak ++ [.int .i64 5, .string ⟨#[59]⟩, .int .i64 (p : Int)])) := gN; have HG : Hid ((wr.alloc (.cells #[.int .i64 5, .string ⟨#[59]⟩, .int .i64 (p : Int)] 33)).grownBy w3 (some g)) := aD; clear gN aD nu))
   have k_a18_0 := kk
   exact Il
  |clear k_a26_1
   have k_a16_0 := kk
   exact OY) : G := h
theorem Ud (h : G := by
 have Ry := Ct.out
 have Ru := Bi.out
 have IU := Hx0.out n x mB EO.out (by omega)
 have I3 : Hid (∀ h : 0 < x.size, aM x[0].toNat = true) := fun h => Hx0.out n x mB EO.out h
 clear IU
 first
 |clear k_a28_0
  have LA : Hid (oy x.data.toList = true) := by unfold Hid; rw [EO.out]; exact HK.out
  go_wp2_with (first | (go_at_call 14; refine (fT _ _).mono ?_; rw [IH.out]; rintro e w' ⟨rfl, rfl⟩) | (go_at_call 15; refine (gX _ _).mono ?_; rw [IK.out]; rintro e w' ⟨rfl, rfl⟩) | (go_at_call 18; refine (y6 _ _ (by omega) (by omega) (I3.out (by omega))).mono ?_; rw [LA.out]; rintro e w1 ⟨⟨nv, rfl⟩, rfl⟩) | (at_builtin; refine wpList_append_own _ rfl _ _ 29 rfl (w.heap.size + 1) 33 i0 (.agg #[.int .i64 0, .string ⟨#[]⟩, .int .i64 0]) 3 32 Tryd.underlying29 qn qm hZ hQ rfl (by decide) _ _ _ rfl (fZ iP.out (hW.alloc (hW.size) _)) ⟨w1.heap.size, 0, none⟩ 1 1 [.int .i64 2, .string x, .int .i64 (p : Int)] rfl rfl (gK _ _ _ _ _) (mg _ _ _) (by unfold maxLen; omega) (by omega) (by have := HB.out.size; have := hW.size; simp at *; omega) ?_; intro v' w3 gN aD nu; have HO : Hid (w3.ownsRow (w.heap.size + 1) 33 3 v' (ak.length + 1) (flat ak ++ [.int .i64 2, .string x, .int .i64 (p : Int)])) := gN; have HG : Hid ((w1.alloc (.cells #[.int .i64 2, .string x, .int .i64 (p : Int)] 33)).grownBy w3 (some g)) := aD; clear gN aD nu))
  have k_a18_3 := kk
  exact Il
 |clear k_a28_1
  have LA : Hid (oy x.data.toList = false) := by unfold Hid; rw [EO.out]; exact HK.out
  go_wp2_with (first | (go_at_call 14; refine (fT _ _).mono ?_; rw [IH.out]; rintro e w' ⟨rfl, rfl⟩) | (go_at_call 15; refine (gX _ _).mono ?_; rw [IK.out]; rintro e w' ⟨rfl, rfl⟩) | (go_at_call 18; refine (y6 _ _ (by omega) (by omega) (I3.out (by omega))).mono ?_; rw [LA.out]; rintro e w1 ⟨⟨nv, rfl⟩, rfl⟩))
  exact Uq) : G := h
def flat (ts : List Tok) : List Value := ts.flatMap fun t => [.int .i64 t.kind, .string t.text, .int .i64 t.place]
theorem Aa (ts : List Tok) : (flat ts).length = ts.length * 3 := by
 induction ts with
 |nil => rfl
 |cons t ts ih => rw [flat, List.flatMap_cons, List.length_append, ← flat, ih]; simp; omega
theorem sM (ts : List Tok) (t : Tok) : flat (ts ++ [t]) = flat ts ++ [.int .i64 t.kind, .string t.text, .int .i64 t.place] := by simp [flat]
def xB (s : ByteArray) (w : World) (v i : Value) (wr : World) : Prop :=
 ∃ (ak : List Tok) (p g cap : Nat), Reach s.data.toList p ak ∧ ak.length ≤ 4001 ∧ p ≤ s.size + 1 ∧ i = .int .i64 p ∧ v = .slice (some ⟨g, 0, none⟩) ak.length cap ∧ wr.ownsRow (w.heap.size + 1) 33 3 v ak.length (flat ak) ∧ Below (w.heap.size + 1) (w.alloc (.cells #[] 33)) wr
def ml : Code → Option Code
 |.loop c => some c
 |.seq a b => match ml a with
  |some c => some c
  |none => ml b
 |.block _ c => ml c
 |.scope c => ml c
 |.cond _ a b => match ml a with
  |some c => some c
  |none => ml b
 |_ => none
noncomputable def lg : Code := ((Tryd.f7.body.bind ml).getD .skip)
def mR (s : ByteArray) (w : World) (c1 ij iu ir iq im gM bZ bY bX bW bV bU bT bS bR : Value) (a : Act) (wr : World) : Prop :=
 ∃ u2 u3 u4 u6 u7 u8 u9 kQ kP kO kM kL kK kJ kI kH kG kE kD kC kB kA kz u32 ky kx ku kt ks kr kq ko km kl ki kh ke kb j8 j7 j6 j5 j4 jZ jY jX jW jV jU jT jS jR jQ jP jO u64 jN jM jL jK jJ jI jH jG jF jE jD jC jB jA jz jy jx jw jv ju jt js jr jq jo jn jm jl jk ji jh jg je jd jc fA fz fy fx fw fu ft fs fr fq fp fo fm fl fk fh fg fe fc fb fa e8 e7 e6 eZ eY eX eW eV eU eT eS eR eQ eP eO eN eM eL eK eJ eI eH eG eF eE eD eC eB eA ez ey ew ev eu et ep eo en ej ei eh ef ee ed ec ea dZ dY dX dW dV dS dR dQ dP dO dN dM dL dK dJ dI dH dG dF dE dD dC dz dy dx dv dt dr dq dp dn dm dk dj di dh de dd dc cZ cY cX cW cV cS cR cQ cP cO cN : Value, xB s w u6 u7 wr ∧ a = ⟨#[.string s, c1, u2, u3, u4, .slice (some ⟨w.heap.size, 0, none⟩) 0 0, u6, u7, u8, u9, kQ, kP, kO, kM, kL, ij, iu, ir, iq, im, gM, kK, kJ, kI, kH, kG, kE, kD, kC, kB, kA, kz, u32, ky, kx, ku, kt, ks, kr, kq, ko, km, kl, ki, kh, ke, kb, j8, j7, j6, j5, j4, jZ, jY, jX, jW, jV, jU, jT, jS, jR, jQ, jP, jO, u64, jN, jM, jL, jK, jJ, jI, jH, jG, jF, jE, jD, jC, jB, jA, jz, jy, jx, jw, jv, ju, jt, js, jr, jq, jo, jn, jm, jl, jk, ji, jh, jg, je, jd, jc, fA, fz, fy, fx, fw, fu, ft, fs, fr, fq, fp, fo, fm, fl, fk, fh, fg, fe, fc, fb, fa, e8, e7, e6, eZ, eY, eX, eW, eV, eU, eT, eS, eR, eQ, eP, eO, eN, eM, eL, eK, eJ, eI, eH, eG, eF, eE, eD, eC, eB, eA, ez, ey, ew, ev, eu, et, ep, eo, en, ej, ei, eh, ef, ee, ed, ec, ea, dZ, dY, dX, dW, dV, dS, dR, dQ, dP, dO, dN, dM, dL, dK, dJ, dI, dH, dG, dF, dE, dD, dC, dz, dy, dx, dv, dt, dr, dq, dp, dn, dm, dk, dj, di, dh, de, dd, dc, cZ, cY, cX, cW, cV, cS, cR, cQ, cP, cO, cN, bZ, bY, bX, bW, bV, bU, bT, bS, bR], []⟩
def iK (s : ByteArray) (a : Act) (_ : World) : Nat := s.size + 2 - (intOf (a.tmps.getD 7 undef)).toNat
def nG (s : ByteArray) (w : World) (Q0 : Exit → Act → World → Prop) : Prop :=
 ∀ (a' : Act) (kZ : World) (v : Value) (o : Outcome), cC s.data.toList o → a'.tmps.getD 2 undef = v → a'.tmps.getD 3 undef = .int .i64 o.code → a'.tmps.getD 4 undef = .int .i64 o.place → a'.defers = [] → kZ.ownsRow w.heap.size 33 3 v o.list.length (flat o.list) → Below w.heap.size w kZ → Q0 .ret a' kZ
theorem gK (w : World) (a b c : Value) (t : TypeId) : ∀ j u, [a, b, c][j]? = some u → (w.alloc (.cells #[a, b, c] t)).cell? ((⟨w.heap.size, 0, none⟩ : Addr).add j) = some u := by
 intro j u hj
 match j, hj with
 |0, hj => simp at hj; subst hj; simp [Addr.add]
 |1, hj => simp at hj; subst hj; simp [Addr.add]
 |2, hj => simp at hj; subst hj; simp [Addr.add]
 |j + 3, hj => simp at hj
theorem mg (a : Int) (b : ByteArray) (c : Int) : ∀ u ∈ [Value.int .i64 a, .string b, .int .i64 c], u.oneCell' = true := by
 intro u hu
 simp at hu
 rcases hu with rfl | rfl | rfl <;> rfl
theorem fZ {w w' : World} {B : Nat} {e : TypeId} {size n : Nat} {v : Value} {xs : List Value} (h : w.ownsRow B e size v n xs) (hb : Below w.heap.size w w') : w'.ownsRow B e size v n xs := by
 obtain ⟨h1, h2⟩ := h
 refine ⟨h1, ?_⟩
 rcases h2 with h2 | ⟨g, cap, cur, hv, hg, hh, r⟩
 ·exact .inl h2
 ·exact .inr ⟨g, cap, cur, hv, hg, by rw [hb.block g (Array.getElem?_eq_some_iff.1 hh).1]; exact hh, r⟩
theorem zl {w : World} {B : Nat} {e : TypeId} {size n : Nat} {v : Value} {xs : List Value} (h : w.ownsRow B e size v (n + 1) xs) : ∃ g cap, v = .slice (some ⟨g, 0, none⟩) (n + 1) cap := by
 rcases h.2 with ⟨_, h⟩ | ⟨g, cap, _, hv, _⟩
 ·omega
 ·exact ⟨g, cap, hv⟩
theorem Ge {w : World} {B g cap : Nat} {ak : List Tok} {t : Tok} (h : w.ownsRow B 33 3 (.slice (some ⟨g, 0, none⟩) (ak.length + 1) cap) (ak.length + 1) (flat (ak ++ [t]))) :
  w.cell? ⟨g, ak.length * 3, none⟩ = some (.int .i64 t.kind) ∧ w.cell? ⟨g, ak.length * 3 + 1, none⟩ = some (.string t.text) ∧ w.cell? ⟨g, ak.length * 3 + 2, none⟩ = some (.int .i64 t.place) := by
 have hl := Aa ak
 refine ⟨?_, ?_, ?_⟩
 ·exact ba9
 ·exact ba9
 ·exact ba9
theorem Bc {w : World} {B g cap n : Nat} {ak : List Tok} {t : Tok} (h : w.ownsRow B 33 3 (.slice (some ⟨g, 0, none⟩) ak.length cap) ak.length (flat ak)) (hn : ak.length = n + 1) (hl : ak.getLast? = some t) :
  w.cell? ⟨g, n * 3, none⟩ = some (.int .i64 t.kind) ∧ w.cell? ⟨g, n * 3 + 1, none⟩ = some (.string t.text) ∧ w.cell? ⟨g, n * 3 + 2, none⟩ = some (.int .i64 t.place) := by
 obtain ⟨ys, rfl⟩ := List.getLast?_eq_some_iff.1 hl
 obtain rfl : ys.length = n := by simpa using hn
 rw [hn] at h
 exact Ge h
theorem mW {s : ByteArray} {w wr W w3 : World} {v' i : Value} {ak : List Tok} {t : Tok} {p' g cap : Nat} (iP : wr.ownsRow (w.heap.size + 1) 33 3 (.slice (some ⟨g, 0, none⟩) ak.length cap) ak.length (flat ak))
  (HB : Below (w.heap.size + 1) (w.alloc (.cells #[] 33)) wr) (hW : Below wr.heap.size wr W) (gN : w3.ownsRow (w.heap.size + 1) 33 3 v' (ak.length + 1) (flat ak ++ [.int .i64 t.kind, .string t.text, .int .i64 t.place])) (aD : W.grownBy w3 (some g))
  (hR : Reach s.data.toList p' (ak ++ [t])) (hl : ak.length ≤ 4000) (hp' : p' ≤ s.size + 1) (hi : i = .int .i64 p') : xB s w v' i w3 := by
 obtain ⟨g', ph, rfl⟩ := zl gN
 have hz := HB.size
 have hQ := hW.size
 rw [World.size_alloc] at hz
 have hg := (iP.lt g rfl).1
 refine ⟨ak ++ [t], p', g', ph, hR, by simp; omega, hp', hi, by simp, ?_, ?_⟩
 ·rw [sM]; simpa using gN
 ·exact (HB.trans (hW.mono (by omega))).grown aD (by omega) (fun k e => by cases e; exact hg)
theorem Gx {l : List UInt8} {k : Nat} (h : ∀ b ∈ l.take k, b.toNat ≠ 10) (hk : k ≤ l.length) (hn : ∀ bm : k < l.length, l[k].toNat = 10) : b6 l = k := by
 induction l generalizing k with
 |nil => simpa [b6] using Eq.symm (by simpa using hk : k = 0)
 |cons a l ih =>
  cases k with
  |zero =>
   have h0 : a.toNat = 10 := hn (by simp)
   have h1 : a = 10 := UInt8.toNat_inj.1 h0
   simp [b6, h1]
  |succ k =>
   have h0 : ¬ a = 10 := fun e => h a (by simp) (by rw [e]; rfl)
   have := ih (k := k) (fun b hb => h b (by simp [hb])) (by simpa using hk) (fun bm => hn (Nat.succ_lt_succ bm))
   unfold b6 at this ⊢
   simp [h0, this]
theorem pL (s : ByteArray) (p j : Nat) (h : p + j < s.size) : (s.data.toList.drop p).take (j + 1) = (s.data.toList.drop p).take j ++ [s[p + j]] := by
 have hl : j < (s.data.toList.drop p).length := by rw [List.length_drop]; have : s.data.toList.length = s.size := rfl; omega
 rw [List.take_succ_eq_append_getElem hl, List.getElem_drop]; rfl
theorem pM (s : ByteArray) (p : Nat) : (s.data.toList.drop p).length = s.size - p := by rw [List.length_drop]; rfl
theorem CP (s : ByteArray) (p j : Nat) (h : p + j < s.size) (h2 : j < (s.data.toList.drop p).length) : (s.data.toList.drop p)[j] = s[p + j] := by rw [List.getElem_drop]; rfl
theorem OH (s : ByteArray) (p j : Nat) : s.extract p (p + j) = bs ((s.data.toList.drop p).take j) := pR (by rw [Lib.extract_data, nV, Nat.add_sub_cancel_left])
theorem rB {w wr : World} (hb : Below (w.heap.size + 1) (w.alloc (.cells #[] 33)) wr) : wr.ownsRow w.heap.size 33 3 (.slice (some ⟨w.heap.size, 0, none⟩) 0 0) 0 [] := by
 refine ⟨rfl, .inr ⟨w.heap.size, 0, #[], rfl, Nat.le_refl _, ?_, Nat.le_refl _, by unfold maxLen; omega, rfl, rfl⟩⟩
 rw [hb.block w.heap.size (by omega)]
 exact (MapKept.heap_alloc w _).1
theorem nr {w wr : World} (hb : Below (w.heap.size + 1) (w.alloc (.cells #[] 33)) wr) : Below w.heap.size w wr :=
 ((Below.refl _ w).alloc lr _).trans (hb.mono (by omega))
theorem AQ (s : ByteArray) (w : World) (hs : s.size ≤ 65536) (c1 ij iu ir iq im gM bZ bY bX bW bV bU bT bS bR u2 u3 u4 u8 u9 kQ kP kO kM kL kK kJ kI kH kG kE kD kC kB kA kz u32 ky kx ku kt ks kr kq ko km kl ki kh ke kb j8 j7 j6 j5 j4 jZ jY jX jW jV jU jT jS jR jQ jP jO u64 jN jM jL jK jJ jI jH jG jF jE jD jC jB jA jz jy jx jw jv ju jt js jr jq jo jn jm jl jk ji jh jg je jd jc fA fz fy fx fw fu ft fs fr fq fp fo fm fl fk fh fg fe fc fb fa e8 e7 e6 eZ eY eX eW eV eU eT eS eR eQ eP eO eN eM eL eK eJ eI eH eG eF eE eD eC eB eA ez ey ew ev eu et ep eo en ej ei eh ef ee ed ec ea dZ dY dX dW dV dS dR dQ dP dO dN dM dL dK dJ dI dH dG dF dE dD dC dz dy dx dv dt dr dq dp dn dm dk dj di dh de dd dc cZ cY cX cW cV cS cR cQ cP cO cN : Value) (wr : World) (ak : List Tok) (p g cap : Nat) (hlen : ak.length ≤ 4001)
  (Q0 : Exit → Act → World → Prop) (lE : Hid (nG s w Q0)) (mm : Hid (Reach s.data.toList p ak)) (iP : Hid (wr.ownsRow (w.heap.size + 1) 33 3 (.slice (some ⟨g, 0, none⟩) ak.length cap) ak.length (flat ak))) (HB : Hid (Below (w.heap.size + 1) (w.alloc (.cells #[] 33)) wr))
  (hp : p < s.size) (hm : ak.length ≤ 4000) (c : Int) (hc : (s[p].toNat : Int) = c) (lA : (c == 10) = false) (mG : b9 c = true) (mF : Hid (Reach s.data.toList (p + 1) ak)) :
  Code.wp Tryd.prog lg (Exit.then (fun a' kZ => mR s w c1 ij iu ir iq im gM bZ bY bX bW bV bU bT bS bR a' kZ ∧ iK s a' kZ < iK s ⟨#[.string s, c1, u2, u3, u4, .slice (some ⟨w.heap.size, 0, none⟩) 0 0, .slice (some ⟨g, 0, none⟩) ak.length cap, .int .i64 p, u8, u9, kQ, kP, kO, kM, kL, ij, iu, ir, iq, im, gM, kK, kJ, kI, kH, kG, kE, kD, kC, kB, kA, kz, u32, ky, kx, ku, kt, ks, kr, kq, ko, km, kl, ki, kh, ke, kb, j8, j7, j6, j5, j4, jZ, jY, jX, jW, jV, jU, jT, jS, jR, jQ, jP, jO, u64, jN, jM, jL, jK, jJ, jI, jH, jG, jF, jE, jD, jC, jB, jA, jz, jy, jx, jw, jv, ju, jt, js, jr, jq, jo, jn, jm, jl, jk, ji, jh, jg, je, jd, jc, fA, fz, fy, fx, fw, fu, ft, fs, fr, fq, fp, fo, fm, fl, fk, fh, fg, fe, fc, fb, fa, e8, e7, e6, eZ, eY, eX, eW, eV, eU, eT, eS, eR, eQ, eP, eO, eN, eM, eL, eK, eJ, eI, eH, eG, eF, eE, eD, eC, eB, eA, ez, ey, ew, ev, eu, et, ep, eo, en, ej, ei, eh, ef, ee, ed, ec, ea, dZ, dY, dX, dW, dV, dS, dR, dQ, dP, dO, dN, dM, dL, dK, dJ, dI, dH, dG, dF, dE, dD, dC, dz, dy, dx, dv, dt, dr, dq, dp, dn, dm, dk, dj, di, dh, de, dd, dc, cZ, cY, cX, cW, cV, cS, cR, cQ, cP, cO, cN, bZ, bY, bX, bW, bV, bU, bT, bS, bR], []⟩ wr) Q0) ⟨#[.string s, c1, u2, u3, u4, .slice (some ⟨w.heap.size, 0, none⟩) 0 0, .slice (some ⟨g, 0, none⟩) ak.length cap, .int .i64 p, u8, u9, kQ, kP, kO, kM, kL, ij, iu, ir, iq, im, gM, kK, kJ, kI, kH, kG, kE, kD, kC, kB, kA, kz, u32, ky, kx, ku, kt, ks, kr, kq, ko, km, kl, ki, kh, ke, kb, j8, j7, j6, j5, j4, jZ, jY, jX, jW, jV, jU, jT, jS, jR, jQ, jP, jO, u64, jN, jM, jL, jK, jJ, jI, jH, jG, jF, jE, jD, jC, jB, jA, jz, jy, jx, jw, jv, ju, jt, js, jr, jq, jo, jn, jm, jl, jk, ji, jh, jg, je, jd, jc, fA, fz, fy, fx, fw, fu, ft, fs, fr, fq, fp, fo, fm, fl, fk, fh, fg, fe, fc, fb, fa, e8, e7, e6, eZ, eY, eX, eW, eV, eU, eT, eS, eR, eQ, eP, eO, eN, eM, eL, eK, eJ, eI, eH, eG, eF, eE, eD, eC, eB, eA, ez, ey, ew, ev, eu, et, ep, eo, en, ej, ei, eh, ef, ee, ed, ec, ea, dZ, dY, dX, dW, dV, dS, dR, dQ, dP, dO, dN, dM, dL, dK, dJ, dI, dH, dG, dF, dE, dD, dC, dz, dy, dx, dv, dt, dr, dq, dp, dn, dm, dk, dj, di, dh, de, dd, dc, cZ, cY, cX, cW, cV, cS, cR, cQ, cP, cO, cN, bZ, bY, bX, bW, bV, bU, bT, bS, bR], []⟩ wr := by
 conv => arg 2; whnf
 have hq : ((p : Int) == (s.size : Int)) = false := bn (by omega)
 have h3 : c = 32 ∨ c = 9 ∨ c = 13 := by simpa [b9] using mG
 clear mG
 rcases h3 with h3 | h3 | h3
 all_goals
  subst h3
  go_wp2
  refine ⟨?_, by simp [iK, intOf]; omega⟩
  unfold mR
  refine ⟨_, _, _, _, _, _, _, _, _, _, _, _, _, _, _, _, _, _, _, _, _, _, _, _, _, _, _, _, _, _, _, _, _, _, _, _, _, _, _, _, _, _, _, _, _, _, _, _, _, _, _, _, _, _, _, _, _, _, _, _, _, _, _, _, _, _, _, _, _, _, _, _, _, _, _, _, _, _, _, _, _, _, _, _, _, _, _, _, _, _, _, _, _, _, _, _, _, _, _, _, _, _, _, _, _, _, _, _, _, _, _, _, _, _, _, _, _, _, _, _, _, _, _, _, _, _, _, _, _, _, _, _, _, _, _, _, _, _, _, _, _, _, _, _, _, _, _, _, _, _, _, _, _, _, _, _, _, _, _, _, _, _, _, _, _, _, _, _, _, _, _, _, _, _, _, _, _, _, _, _, _, _, _, _, _, _, _, _, _, _, _, _, _, _, _, _, _, _, _, _, _, _, _, _, _, _, _, _, ?_, rfl⟩
  exact ⟨ak, p + 1, g, cap, mF.out, hlen, by omega, by go_num, rfl, iP.out, HB.out⟩
theorem DS (s : ByteArray) (w : World) (hs : s.size ≤ 65536) (c1 ij iu ir iq im gM bZ bY bX bW bV bU bT bS bR u2 u3 u4 u8 u9 kQ kP kO kM kL kK kJ kI kH kG kE kD kC kB kA kz u32 ky kx ku kt ks kr kq ko km kl ki kh ke kb j8 j7 j6 j5 j4 jZ jY jX jW jV jU jT jS jR jQ jP jO u64 jN jM jL jK jJ jI jH jG jF jE jD jC jB jA jz jy jx jw jv ju jt js jr jq jo jn jm jl jk ji jh jg je jd jc fA fz fy fx fw fu ft fs fr fq fp fo fm fl fk fh fg fe fc fb fa e8 e7 e6 eZ eY eX eW eV eU eT eS eR eQ eP eO eN eM eL eK eJ eI eH eG eF eE eD eC eB eA ez ey ew ev eu et ep eo en ej ei eh ef ee ed ec ea dZ dY dX dW dV dS dR dQ dP dO dN dM dL dK dJ dI dH dG dF dE dD dC dz dy dx dv dt dr dq dp dn dm dk dj di dh de dd dc cZ cY cX cW cV cS cR cQ cP cO cN : Value) (wr : World) (ak : List Tok) (p g cap : Nat) (hlen : ak.length ≤ 4001)
  (Q0 : Exit → Act → World → Prop) (lE : Hid (nG s w Q0)) (mm : Hid (Reach s.data.toList p ak)) (iP : Hid (wr.ownsRow (w.heap.size + 1) 33 3 (.slice (some ⟨g, 0, none⟩) ak.length cap) ak.length (flat ak))) (HB : Hid (Below (w.heap.size + 1) (w.alloc (.cells #[] 33)) wr))
  (hp : p < s.size) (hm : ak.length ≤ 4000) (hc : (s[p].toNat : Int) = 59) (mF : Hid (Reach s.data.toList (p + 1) (ak ++ [⟨5, ⟨#[59]⟩, p⟩]))) :
  Code.wp Tryd.prog lg (Exit.then (fun a' kZ => mR s w c1 ij iu ir iq im gM bZ bY bX bW bV bU bT bS bR a' kZ ∧ iK s a' kZ < iK s ⟨#[.string s, c1, u2, u3, u4, .slice (some ⟨w.heap.size, 0, none⟩) 0 0, .slice (some ⟨g, 0, none⟩) ak.length cap, .int .i64 p, u8, u9, kQ, kP, kO, kM, kL, ij, iu, ir, iq, im, gM, kK, kJ, kI, kH, kG, kE, kD, kC, kB, kA, kz, u32, ky, kx, ku, kt, ks, kr, kq, ko, km, kl, ki, kh, ke, kb, j8, j7, j6, j5, j4, jZ, jY, jX, jW, jV, jU, jT, jS, jR, jQ, jP, jO, u64, jN, jM, jL, jK, jJ, jI, jH, jG, jF, jE, jD, jC, jB, jA, jz, jy, jx, jw, jv, ju, jt, js, jr, jq, jo, jn, jm, jl, jk, ji, jh, jg, je, jd, jc, fA, fz, fy, fx, fw, fu, ft, fs, fr, fq, fp, fo, fm, fl, fk, fh, fg, fe, fc, fb, fa, e8, e7, e6, eZ, eY, eX, eW, eV, eU, eT, eS, eR, eQ, eP, eO, eN, eM, eL, eK, eJ, eI, eH, eG, eF, eE, eD, eC, eB, eA, ez, ey, ew, ev, eu, et, ep, eo, en, ej, ei, eh, ef, ee, ed, ec, ea, dZ, dY, dX, dW, dV, dS, dR, dQ, dP, dO, dN, dM, dL, dK, dJ, dI, dH, dG, dF, dE, dD, dC, dz, dy, dx, dv, dt, dr, dq, dp, dn, dm, dk, dj, di, dh, de, dd, dc, cZ, cY, cX, cW, cV, cS, cR, cQ, cP, cO, cN, bZ, bY, bX, bW, bV, bU, bT, bS, bR], []⟩ wr) Q0) ⟨#[.string s, c1, u2, u3, u4, .slice (some ⟨w.heap.size, 0, none⟩) 0 0, .slice (some ⟨g, 0, none⟩) ak.length cap, .int .i64 p, u8, u9, kQ, kP, kO, kM, kL, ij, iu, ir, iq, im, gM, kK, kJ, kI, kH, kG, kE, kD, kC, kB, kA, kz, u32, ky, kx, ku, kt, ks, kr, kq, ko, km, kl, ki, kh, ke, kb, j8, j7, j6, j5, j4, jZ, jY, jX, jW, jV, jU, jT, jS, jR, jQ, jP, jO, u64, jN, jM, jL, jK, jJ, jI, jH, jG, jF, jE, jD, jC, jB, jA, jz, jy, jx, jw, jv, ju, jt, js, jr, jq, jo, jn, jm, jl, jk, ji, jh, jg, je, jd, jc, fA, fz, fy, fx, fw, fu, ft, fs, fr, fq, fp, fo, fm, fl, fk, fh, fg, fe, fc, fb, fa, e8, e7, e6, eZ, eY, eX, eW, eV, eU, eT, eS, eR, eQ, eP, eO, eN, eM, eL, eK, eJ, eI, eH, eG, eF, eE, eD, eC, eB, eA, ez, ey, ew, ev, eu, et, ep, eo, en, ej, ei, eh, ef, ee, ed, ec, ea, dZ, dY, dX, dW, dV, dS, dR, dQ, dP, dO, dN, dM, dL, dK, dJ, dI, dH, dG, dF, dE, dD, dC, dz, dy, dx, dv, dt, dr, dq, dp, dn, dm, dk, dj, di, dh, de, dd, dc, cZ, cY, cX, cW, cV, cS, cR, cQ, cP, cO, cN, bZ, bY, bX, bW, bV, bU, bT, bS, bR], []⟩ wr := by
 conv => arg 2; whnf
 have hq : ((p : Int) == (s.size : Int)) = false := bn (by omega)
 have k_a26_0 := kk
 exact Ue
theorem DT (s : ByteArray) (w : World) (hs : s.size ≤ 65536) (c1 ij iu ir iq im gM bZ bY bX bW bV bU bT bS bR u2 u3 u4 u8 u9 kQ kP kO kM kL kK kJ kI kH kG kE kD kC kB kA kz u32 ky kx ku kt ks kr kq ko km kl ki kh ke kb j8 j7 j6 j5 j4 jZ jY jX jW jV jU jT jS jR jQ jP jO u64 jN jM jL jK jJ jI jH jG jF jE jD jC jB jA jz jy jx jw jv ju jt js jr jq jo jn jm jl jk ji jh jg je jd jc fA fz fy fx fw fu ft fs fr fq fp fo fm fl fk fh fg fe fc fb fa e8 e7 e6 eZ eY eX eW eV eU eT eS eR eQ eP eO eN eM eL eK eJ eI eH eG eF eE eD eC eB eA ez ey ew ev eu et ep eo en ej ei eh ef ee ed ec ea dZ dY dX dW dV dS dR dQ dP dO dN dM dL dK dJ dI dH dG dF dE dD dC dz dy dx dv dt dr dq dp dn dm dk dj di dh de dd dc cZ cY cX cW cV cS cR cQ cP cO cN : Value) (wr : World) (ak : List Tok) (p g cap : Nat) (hlen : ak.length ≤ 4001)
  (Q0 : Exit → Act → World → Prop) (lE : Hid (nG s w Q0)) (mm : Hid (Reach s.data.toList p ak)) (iP : Hid (wr.ownsRow (w.heap.size + 1) 33 3 (.slice (some ⟨g, 0, none⟩) ak.length cap) ak.length (flat ak))) (HB : Hid (Below (w.heap.size + 1) (w.alloc (.cells #[] 33)) wr))
  (hm : ak.length ≤ 4000) (N6 : p ≤ s.size) (hq : ((p : Int) == (s.size : Int)) = true ∨ (((p : Int) == (s.size : Int)) = false ∧ ∃ hp : p < s.size, (s[p].toNat : Int) = 10)) (xl : fS ak = false) (mF : Hid (Reach s.data.toList (p + 1) ak)) :
  Code.wp Tryd.prog lg (Exit.then (fun a' kZ => mR s w c1 ij iu ir iq im gM bZ bY bX bW bV bU bT bS bR a' kZ ∧ iK s a' kZ < iK s ⟨#[.string s, c1, u2, u3, u4, .slice (some ⟨w.heap.size, 0, none⟩) 0 0, .slice (some ⟨g, 0, none⟩) ak.length cap, .int .i64 p, u8, u9, kQ, kP, kO, kM, kL, ij, iu, ir, iq, im, gM, kK, kJ, kI, kH, kG, kE, kD, kC, kB, kA, kz, u32, ky, kx, ku, kt, ks, kr, kq, ko, km, kl, ki, kh, ke, kb, j8, j7, j6, j5, j4, jZ, jY, jX, jW, jV, jU, jT, jS, jR, jQ, jP, jO, u64, jN, jM, jL, jK, jJ, jI, jH, jG, jF, jE, jD, jC, jB, jA, jz, jy, jx, jw, jv, ju, jt, js, jr, jq, jo, jn, jm, jl, jk, ji, jh, jg, je, jd, jc, fA, fz, fy, fx, fw, fu, ft, fs, fr, fq, fp, fo, fm, fl, fk, fh, fg, fe, fc, fb, fa, e8, e7, e6, eZ, eY, eX, eW, eV, eU, eT, eS, eR, eQ, eP, eO, eN, eM, eL, eK, eJ, eI, eH, eG, eF, eE, eD, eC, eB, eA, ez, ey, ew, ev, eu, et, ep, eo, en, ej, ei, eh, ef, ee, ed, ec, ea, dZ, dY, dX, dW, dV, dS, dR, dQ, dP, dO, dN, dM, dL, dK, dJ, dI, dH, dG, dF, dE, dD, dC, dz, dy, dx, dv, dt, dr, dq, dp, dn, dm, dk, dj, di, dh, de, dd, dc, cZ, cY, cX, cW, cV, cS, cR, cQ, cP, cO, cN, bZ, bY, bX, bW, bV, bU, bT, bS, bR], []⟩ wr) Q0) ⟨#[.string s, c1, u2, u3, u4, .slice (some ⟨w.heap.size, 0, none⟩) 0 0, .slice (some ⟨g, 0, none⟩) ak.length cap, .int .i64 p, u8, u9, kQ, kP, kO, kM, kL, ij, iu, ir, iq, im, gM, kK, kJ, kI, kH, kG, kE, kD, kC, kB, kA, kz, u32, ky, kx, ku, kt, ks, kr, kq, ko, km, kl, ki, kh, ke, kb, j8, j7, j6, j5, j4, jZ, jY, jX, jW, jV, jU, jT, jS, jR, jQ, jP, jO, u64, jN, jM, jL, jK, jJ, jI, jH, jG, jF, jE, jD, jC, jB, jA, jz, jy, jx, jw, jv, ju, jt, js, jr, jq, jo, jn, jm, jl, jk, ji, jh, jg, je, jd, jc, fA, fz, fy, fx, fw, fu, ft, fs, fr, fq, fp, fo, fm, fl, fk, fh, fg, fe, fc, fb, fa, e8, e7, e6, eZ, eY, eX, eW, eV, eU, eT, eS, eR, eQ, eP, eO, eN, eM, eL, eK, eJ, eI, eH, eG, eF, eE, eD, eC, eB, eA, ez, ey, ew, ev, eu, et, ep, eo, en, ej, ei, eh, ef, ee, ed, ec, ea, dZ, dY, dX, dW, dV, dS, dR, dQ, dP, dO, dN, dM, dL, dK, dJ, dI, dH, dG, dF, dE, dD, dC, dz, dy, dx, dv, dt, dr, dq, dp, dn, dm, dk, dj, di, dh, de, dd, dc, cZ, cY, cX, cW, cV, cS, cR, cQ, cP, cO, cN, bZ, bY, bX, bW, bV, bU, bT, bS, bR], []⟩ wr := by
 conv => arg 2; whnf
 have PP := HB.out.size
 rw [World.size_alloc] at PP
 rcases hlast : ak.getLast? with _ | last
 ·have htn : ak = [] := List.getLast?_eq_none_iff.1 hlast
  subst htn
  clear xl hlast
  rcases hq with hq | ⟨hq, hp, hc⟩
  all_goals
   go_wp2
   refine ⟨?_, by simp [iK, intOf]; omega⟩
   unfold mR
   refine ⟨_, _, _, _, _, _, _, _, _, _, _, _, _, _, _, _, _, _, _, _, _, _, _, _, _, _, _, _, _, _, _, _, _, _, _, _, _, _, _, _, _, _, _, _, _, _, _, _, _, _, _, _, _, _, _, _, _, _, _, _, _, _, _, _, _, _, _, _, _, _, _, _, _, _, _, _, _, _, _, _, _, _, _, _, _, _, _, _, _, _, _, _, _, _, _, _, _, _, _, _, _, _, _, _, _, _, _, _, _, _, _, _, _, _, _, _, _, _, _, _, _, _, _, _, _, _, _, _, _, _, _, _, _, _, _, _, _, _, _, _, _, _, _, _, _, _, _, _, _, _, _, _, _, _, _, _, _, _, _, _, _, _, _, _, _, _, _, _, _, _, _, _, _, _, _, _, _, _, _, _, _, _, _, _, _, _, _, _, _, _, _, _, _, _, _, _, _, _, _, _, _, _, _, _, _, _, _, _, ?_, rfl⟩
   exact ⟨[], p + 1, g, cap, mF.out, hlen, by omega, by go_num, rfl, iP.out, HB.out⟩
 ·obtain ⟨n, hn⟩ : ∃ n, ak.length = n + 1 := by
   obtain ⟨ys, rfl⟩ := List.getLast?_eq_some_iff.1 hlast
   exact ⟨ys.length, by simp⟩
  have he : Hid (mD last.kind last.text = false) := by simpa [fS, Hid, hlast] using xl
  have k_a22_0 := kk
  exact Uh
theorem AP (s : ByteArray) (w : World) (hs : s.size ≤ 65536) (c1 ij iu ir iq im gM bZ bY bX bW bV bU bT bS bR u2 u3 u4 u8 u9 kQ kP kO kM kL kK kJ kI kH kG kE kD kC kB kA kz u32 ky kx ku kt ks kr kq ko km kl ki kh ke kb j8 j7 j6 j5 j4 jZ jY jX jW jV jU jT jS jR jQ jP jO u64 jN jM jL jK jJ jI jH jG jF jE jD jC jB jA jz jy jx jw jv ju jt js jr jq jo jn jm jl jk ji jh jg je jd jc fA fz fy fx fw fu ft fs fr fq fp fo fm fl fk fh fg fe fc fb fa e8 e7 e6 eZ eY eX eW eV eU eT eS eR eQ eP eO eN eM eL eK eJ eI eH eG eF eE eD eC eB eA ez ey ew ev eu et ep eo en ej ei eh ef ee ed ec ea dZ dY dX dW dV dS dR dQ dP dO dN dM dL dK dJ dI dH dG dF dE dD dC dz dy dx dv dt dr dq dp dn dm dk dj di dh de dd dc cZ cY cX cW cV cS cR cQ cP cO cN : Value) (wr : World) (ak : List Tok) (p g cap : Nat) (hlen : ak.length ≤ 4001)
  (Q0 : Exit → Act → World → Prop) (lE : Hid (nG s w Q0)) (mm : Hid (Reach s.data.toList p ak)) (iP : Hid (wr.ownsRow (w.heap.size + 1) 33 3 (.slice (some ⟨g, 0, none⟩) ak.length cap) ak.length (flat ak))) (HB : Hid (Below (w.heap.size + 1) (w.alloc (.cells #[] 33)) wr))
  (hm : ak.length ≤ 4000) (N6 : p ≤ s.size) (hq : ((p : Int) == (s.size : Int)) = true ∨ (((p : Int) == (s.size : Int)) = false ∧ ∃ hp : p < s.size, (s[p].toNat : Int) = 10)) (xl : fS ak = true) (mF : Hid (Reach s.data.toList (p + 1) (ak ++ [⟨5, ⟨#[]⟩, p⟩]))) :
  Code.wp Tryd.prog lg (Exit.then (fun a' kZ => mR s w c1 ij iu ir iq im gM bZ bY bX bW bV bU bT bS bR a' kZ ∧ iK s a' kZ < iK s ⟨#[.string s, c1, u2, u3, u4, .slice (some ⟨w.heap.size, 0, none⟩) 0 0, .slice (some ⟨g, 0, none⟩) ak.length cap, .int .i64 p, u8, u9, kQ, kP, kO, kM, kL, ij, iu, ir, iq, im, gM, kK, kJ, kI, kH, kG, kE, kD, kC, kB, kA, kz, u32, ky, kx, ku, kt, ks, kr, kq, ko, km, kl, ki, kh, ke, kb, j8, j7, j6, j5, j4, jZ, jY, jX, jW, jV, jU, jT, jS, jR, jQ, jP, jO, u64, jN, jM, jL, jK, jJ, jI, jH, jG, jF, jE, jD, jC, jB, jA, jz, jy, jx, jw, jv, ju, jt, js, jr, jq, jo, jn, jm, jl, jk, ji, jh, jg, je, jd, jc, fA, fz, fy, fx, fw, fu, ft, fs, fr, fq, fp, fo, fm, fl, fk, fh, fg, fe, fc, fb, fa, e8, e7, e6, eZ, eY, eX, eW, eV, eU, eT, eS, eR, eQ, eP, eO, eN, eM, eL, eK, eJ, eI, eH, eG, eF, eE, eD, eC, eB, eA, ez, ey, ew, ev, eu, et, ep, eo, en, ej, ei, eh, ef, ee, ed, ec, ea, dZ, dY, dX, dW, dV, dS, dR, dQ, dP, dO, dN, dM, dL, dK, dJ, dI, dH, dG, dF, dE, dD, dC, dz, dy, dx, dv, dt, dr, dq, dp, dn, dm, dk, dj, di, dh, de, dd, dc, cZ, cY, cX, cW, cV, cS, cR, cQ, cP, cO, cN, bZ, bY, bX, bW, bV, bU, bT, bS, bR], []⟩ wr) Q0) ⟨#[.string s, c1, u2, u3, u4, .slice (some ⟨w.heap.size, 0, none⟩) 0 0, .slice (some ⟨g, 0, none⟩) ak.length cap, .int .i64 p, u8, u9, kQ, kP, kO, kM, kL, ij, iu, ir, iq, im, gM, kK, kJ, kI, kH, kG, kE, kD, kC, kB, kA, kz, u32, ky, kx, ku, kt, ks, kr, kq, ko, km, kl, ki, kh, ke, kb, j8, j7, j6, j5, j4, jZ, jY, jX, jW, jV, jU, jT, jS, jR, jQ, jP, jO, u64, jN, jM, jL, jK, jJ, jI, jH, jG, jF, jE, jD, jC, jB, jA, jz, jy, jx, jw, jv, ju, jt, js, jr, jq, jo, jn, jm, jl, jk, ji, jh, jg, je, jd, jc, fA, fz, fy, fx, fw, fu, ft, fs, fr, fq, fp, fo, fm, fl, fk, fh, fg, fe, fc, fb, fa, e8, e7, e6, eZ, eY, eX, eW, eV, eU, eT, eS, eR, eQ, eP, eO, eN, eM, eL, eK, eJ, eI, eH, eG, eF, eE, eD, eC, eB, eA, ez, ey, ew, ev, eu, et, ep, eo, en, ej, ei, eh, ef, ee, ed, ec, ea, dZ, dY, dX, dW, dV, dS, dR, dQ, dP, dO, dN, dM, dL, dK, dJ, dI, dH, dG, dF, dE, dD, dC, dz, dy, dx, dv, dt, dr, dq, dp, dn, dm, dk, dj, di, dh, de, dd, dc, cZ, cY, cX, cW, cV, cS, cR, cQ, cP, cO, cN, bZ, bY, bX, bW, bV, bU, bT, bS, bR], []⟩ wr := by
 have k_a25_0 := kk
 exact Uf
theorem DU (s : ByteArray) (w : World) (hs : s.size ≤ 65536) (c1 ij iu ir iq im gM bZ bY bX bW bV bU bT bS bR u2 u3 u4 u8 u9 kQ kP kO kM kL kK kJ kI kH kG kE kD kC kB kA kz u32 ky kx ku kt ks kr kq ko km kl ki kh ke kb j8 j7 j6 j5 j4 jZ jY jX jW jV jU jT jS jR jQ jP jO u64 jN jM jL jK jJ jI jH jG jF jE jD jC jB jA jz jy jx jw jv ju jt js jr jq jo jn jm jl jk ji jh jg je jd jc fA fz fy fx fw fu ft fs fr fq fp fo fm fl fk fh fg fe fc fb fa e8 e7 e6 eZ eY eX eW eV eU eT eS eR eQ eP eO eN eM eL eK eJ eI eH eG eF eE eD eC eB eA ez ey ew ev eu et ep eo en ej ei eh ef ee ed ec ea dZ dY dX dW dV dS dR dQ dP dO dN dM dL dK dJ dI dH dG dF dE dD dC dz dy dx dv dt dr dq dp dn dm dk dj di dh de dd dc cZ cY cX cW cV cS cR cQ cP cO cN : Value) (wr : World) (ak : List Tok) (p g cap : Nat) (hlen : ak.length ≤ 4001)
  (Q0 : Exit → Act → World → Prop) (lE : Hid (nG s w Q0)) (mm : Hid (Reach s.data.toList p ak)) (iP : Hid (wr.ownsRow (w.heap.size + 1) 33 3 (.slice (some ⟨g, 0, none⟩) ak.length cap) ak.length (flat ak))) (HB : Hid (Below (w.heap.size + 1) (w.alloc (.cells #[] 33)) wr))
  (hp : p ≤ s.size) (hm : ak.length = 4001) (place : Nat) (lR : wr.cell? ⟨g, 12002, none⟩ = some (.int .i64 place)) (wu : Hid (cC s.data.toList ⟨[], 13, place⟩)) :
  Code.wp Tryd.prog lg (Exit.then (fun a' kZ => mR s w c1 ij iu ir iq im gM bZ bY bX bW bV bU bT bS bR a' kZ ∧ iK s a' kZ < iK s ⟨#[.string s, c1, u2, u3, u4, .slice (some ⟨w.heap.size, 0, none⟩) 0 0, .slice (some ⟨g, 0, none⟩) ak.length cap, .int .i64 p, u8, u9, kQ, kP, kO, kM, kL, ij, iu, ir, iq, im, gM, kK, kJ, kI, kH, kG, kE, kD, kC, kB, kA, kz, u32, ky, kx, ku, kt, ks, kr, kq, ko, km, kl, ki, kh, ke, kb, j8, j7, j6, j5, j4, jZ, jY, jX, jW, jV, jU, jT, jS, jR, jQ, jP, jO, u64, jN, jM, jL, jK, jJ, jI, jH, jG, jF, jE, jD, jC, jB, jA, jz, jy, jx, jw, jv, ju, jt, js, jr, jq, jo, jn, jm, jl, jk, ji, jh, jg, je, jd, jc, fA, fz, fy, fx, fw, fu, ft, fs, fr, fq, fp, fo, fm, fl, fk, fh, fg, fe, fc, fb, fa, e8, e7, e6, eZ, eY, eX, eW, eV, eU, eT, eS, eR, eQ, eP, eO, eN, eM, eL, eK, eJ, eI, eH, eG, eF, eE, eD, eC, eB, eA, ez, ey, ew, ev, eu, et, ep, eo, en, ej, ei, eh, ef, ee, ed, ec, ea, dZ, dY, dX, dW, dV, dS, dR, dQ, dP, dO, dN, dM, dL, dK, dJ, dI, dH, dG, dF, dE, dD, dC, dz, dy, dx, dv, dt, dr, dq, dp, dn, dm, dk, dj, di, dh, de, dd, dc, cZ, cY, cX, cW, cV, cS, cR, cQ, cP, cO, cN, bZ, bY, bX, bW, bV, bU, bT, bS, bR], []⟩ wr) Q0) ⟨#[.string s, c1, u2, u3, u4, .slice (some ⟨w.heap.size, 0, none⟩) 0 0, .slice (some ⟨g, 0, none⟩) ak.length cap, .int .i64 p, u8, u9, kQ, kP, kO, kM, kL, ij, iu, ir, iq, im, gM, kK, kJ, kI, kH, kG, kE, kD, kC, kB, kA, kz, u32, ky, kx, ku, kt, ks, kr, kq, ko, km, kl, ki, kh, ke, kb, j8, j7, j6, j5, j4, jZ, jY, jX, jW, jV, jU, jT, jS, jR, jQ, jP, jO, u64, jN, jM, jL, jK, jJ, jI, jH, jG, jF, jE, jD, jC, jB, jA, jz, jy, jx, jw, jv, ju, jt, js, jr, jq, jo, jn, jm, jl, jk, ji, jh, jg, je, jd, jc, fA, fz, fy, fx, fw, fu, ft, fs, fr, fq, fp, fo, fm, fl, fk, fh, fg, fe, fc, fb, fa, e8, e7, e6, eZ, eY, eX, eW, eV, eU, eT, eS, eR, eQ, eP, eO, eN, eM, eL, eK, eJ, eI, eH, eG, eF, eE, eD, eC, eB, eA, ez, ey, ew, ev, eu, et, ep, eo, en, ej, ei, eh, ef, ee, ed, ec, ea, dZ, dY, dX, dW, dV, dS, dR, dQ, dP, dO, dN, dM, dL, dK, dJ, dI, dH, dG, dF, dE, dD, dC, dz, dy, dx, dv, dt, dr, dq, dp, dn, dm, dk, dj, di, dh, de, dd, dc, cZ, cY, cX, cW, cV, cS, cR, cQ, cP, cO, cN, bZ, bY, bX, bW, bV, bU, bT, bS, bR], []⟩ wr := by
 conv => arg 2; whnf
 rw [hm]
 have VR : Hid (wr.ownsRow w.heap.size 33 3 (.slice (some ⟨w.heap.size, 0, none⟩) 0 0) 0 []) := rB HB.out
 have Wf : Hid (Below w.heap.size w wr) := nr HB.out
 clear hm hlen
 go_wp2_with fail
 go_quiet (fail)
 go_wp2
 exact lE.out _ _ _ ⟨[], 13, place⟩ wu.out rfl rfl rfl rfl VR.out (below_drewN Wf.out _)
theorem DV (s : ByteArray) (w : World) (hs : s.size ≤ 65536) (c1 ij iu ir iq im gM bZ bY bX bW bV bU bT bS bR u2 u3 u4 u8 u9 kQ kP kO kM kL kK kJ kI kH kG kE kD kC kB kA kz u32 ky kx ku kt ks kr kq ko km kl ki kh ke kb j8 j7 j6 j5 j4 jZ jY jX jW jV jU jT jS jR jQ jP jO u64 jN jM jL jK jJ jI jH jG jF jE jD jC jB jA jz jy jx jw jv ju jt js jr jq jo jn jm jl jk ji jh jg je jd jc fA fz fy fx fw fu ft fs fr fq fp fo fm fl fk fh fg fe fc fb fa e8 e7 e6 eZ eY eX eW eV eU eT eS eR eQ eP eO eN eM eL eK eJ eI eH eG eF eE eD eC eB eA ez ey ew ev eu et ep eo en ej ei eh ef ee ed ec ea dZ dY dX dW dV dS dR dQ dP dO dN dM dL dK dJ dI dH dG dF dE dD dC dz dy dx dv dt dr dq dp dn dm dk dj di dh de dd dc cZ cY cX cW cV cS cR cQ cP cO cN : Value) (wr : World) (ak : List Tok) (p g cap : Nat) (hlen : ak.length ≤ 4001)
  (Q0 : Exit → Act → World → Prop) (lE : Hid (nG s w Q0)) (mm : Hid (Reach s.data.toList p ak)) (iP : Hid (wr.ownsRow (w.heap.size + 1) 33 3 (.slice (some ⟨g, 0, none⟩) ak.length cap) ak.length (flat ak))) (HB : Hid (Below (w.heap.size + 1) (w.alloc (.cells #[] 33)) wr))
  (hp : s.size < p) (zF : p ≤ s.size + 1) (CC : ∀ a' kZ, (∃ u2 u3 u4 u6 u7 u8 u9 kQ kP kO kM kL kK kJ kI kH kG kE kD kC kB kA kz u32 ky kx ku kt ks kr kq ko km kl ki kh ke kb j8 j7 j6 j5 j4 jZ jY jX jW jV jU jT jS jR jQ jP jO u64 jN jM jL jK jJ jI jH jG jF jE jD jC jB jA jz jy jx jw jv ju jt js jr jq jo jn jm jl jk ji jh jg je jd jc fA fz fy fx fw fu ft fs fr fq fp fo fm fl fk fh fg fe fc fb fa e8 e7 e6 eZ eY eX eW eV eU eT eS eR eQ eP eO eN eM eL eK eJ eI eH eG eF eE eD eC eB eA ez ey ew ev eu et ep eo en ej ei eh ef ee ed ec ea dZ dY dX dW dV dS dR dQ dP dO dN dM dL dK dJ dI dH dG dF dE dD dC dz dy dx dv dt dr dq dp dn dm dk dj di dh de dd dc cZ cY cX cW cV cS cR cQ cP cO cN : Value, xB s w u6 u7 kZ ∧ (∃ p' : Nat, u7 = .int .i64 p' ∧ s.size < p') ∧ a' = ⟨#[.string s, c1, u2, u3, u4, .slice (some ⟨w.heap.size, 0, none⟩) 0 0, u6, u7, u8, u9, kQ, kP, kO, kM, kL, ij, iu, ir, iq, im, gM, kK, kJ, kI, kH, kG, kE, kD, kC, kB, kA, kz, u32, ky, kx, ku, kt, ks, kr, kq, ko, km, kl, ki, kh, ke, kb, j8, j7, j6, j5, j4, jZ, jY, jX, jW, jV, jU, jT, jS, jR, jQ, jP, jO, u64, jN, jM, jL, jK, jJ, jI, jH, jG, jF, jE, jD, jC, jB, jA, jz, jy, jx, jw, jv, ju, jt, js, jr, jq, jo, jn, jm, jl, jk, ji, jh, jg, je, jd, jc, fA, fz, fy, fx, fw, fu, ft, fs, fr, fq, fp, fo, fm, fl, fk, fh, fg, fe, fc, fb, fa, e8, e7, e6, eZ, eY, eX, eW, eV, eU, eT, eS, eR, eQ, eP, eO, eN, eM, eL, eK, eJ, eI, eH, eG, eF, eE, eD, eC, eB, eA, ez, ey, ew, ev, eu, et, ep, eo, en, ej, ei, eh, ef, ee, ed, ec, ea, dZ, dY, dX, dW, dV, dS, dR, dQ, dP, dO, dN, dM, dL, dK, dJ, dI, dH, dG, dF, dE, dD, dC, dz, dy, dx, dv, dt, dr, dq, dp, dn, dm, dk, dj, di, dh, de, dd, dc, cZ, cY, cX, cW, cV, cS, cR, cQ, cP, cO, cN, bZ, bY, bX, bW, bV, bU, bT, bS, bR], []⟩) → Q0 (.exit 0) a' kZ) :
  Code.wp Tryd.prog lg (Exit.then (fun a' kZ => mR s w c1 ij iu ir iq im gM bZ bY bX bW bV bU bT bS bR a' kZ ∧ iK s a' kZ < iK s ⟨#[.string s, c1, u2, u3, u4, .slice (some ⟨w.heap.size, 0, none⟩) 0 0, .slice (some ⟨g, 0, none⟩) ak.length cap, .int .i64 p, u8, u9, kQ, kP, kO, kM, kL, ij, iu, ir, iq, im, gM, kK, kJ, kI, kH, kG, kE, kD, kC, kB, kA, kz, u32, ky, kx, ku, kt, ks, kr, kq, ko, km, kl, ki, kh, ke, kb, j8, j7, j6, j5, j4, jZ, jY, jX, jW, jV, jU, jT, jS, jR, jQ, jP, jO, u64, jN, jM, jL, jK, jJ, jI, jH, jG, jF, jE, jD, jC, jB, jA, jz, jy, jx, jw, jv, ju, jt, js, jr, jq, jo, jn, jm, jl, jk, ji, jh, jg, je, jd, jc, fA, fz, fy, fx, fw, fu, ft, fs, fr, fq, fp, fo, fm, fl, fk, fh, fg, fe, fc, fb, fa, e8, e7, e6, eZ, eY, eX, eW, eV, eU, eT, eS, eR, eQ, eP, eO, eN, eM, eL, eK, eJ, eI, eH, eG, eF, eE, eD, eC, eB, eA, ez, ey, ew, ev, eu, et, ep, eo, en, ej, ei, eh, ef, ee, ed, ec, ea, dZ, dY, dX, dW, dV, dS, dR, dQ, dP, dO, dN, dM, dL, dK, dJ, dI, dH, dG, dF, dE, dD, dC, dz, dy, dx, dv, dt, dr, dq, dp, dn, dm, dk, dj, di, dh, de, dd, dc, cZ, cY, cX, cW, cV, cS, cR, cQ, cP, cO, cN, bZ, bY, bX, bW, bV, bU, bT, bS, bR], []⟩ wr) Q0) ⟨#[.string s, c1, u2, u3, u4, .slice (some ⟨w.heap.size, 0, none⟩) 0 0, .slice (some ⟨g, 0, none⟩) ak.length cap, .int .i64 p, u8, u9, kQ, kP, kO, kM, kL, ij, iu, ir, iq, im, gM, kK, kJ, kI, kH, kG, kE, kD, kC, kB, kA, kz, u32, ky, kx, ku, kt, ks, kr, kq, ko, km, kl, ki, kh, ke, kb, j8, j7, j6, j5, j4, jZ, jY, jX, jW, jV, jU, jT, jS, jR, jQ, jP, jO, u64, jN, jM, jL, jK, jJ, jI, jH, jG, jF, jE, jD, jC, jB, jA, jz, jy, jx, jw, jv, ju, jt, js, jr, jq, jo, jn, jm, jl, jk, ji, jh, jg, je, jd, jc, fA, fz, fy, fx, fw, fu, ft, fs, fr, fq, fp, fo, fm, fl, fk, fh, fg, fe, fc, fb, fa, e8, e7, e6, eZ, eY, eX, eW, eV, eU, eT, eS, eR, eQ, eP, eO, eN, eM, eL, eK, eJ, eI, eH, eG, eF, eE, eD, eC, eB, eA, ez, ey, ew, ev, eu, et, ep, eo, en, ej, ei, eh, ef, ee, ed, ec, ea, dZ, dY, dX, dW, dV, dS, dR, dQ, dP, dO, dN, dM, dL, dK, dJ, dI, dH, dG, dF, dE, dD, dC, dz, dy, dx, dv, dt, dr, dq, dp, dn, dm, dk, dj, di, dh, de, dd, dc, cZ, cY, cX, cW, cV, cS, cR, cQ, cP, cO, cN, bZ, bY, bX, bW, bV, bU, bT, bS, bR], []⟩ wr := by
 conv => arg 2; whnf
 go_wp2
 exact ⟨_, _, _, _, _, _, _, _, _, _, _, _, _, _, _, _, _, _, _, _, _, _, _, _, _, _, _, _, _, _, _, _, _, _, _, _, _, _, _, _, _, _, _, _, _, _, _, _, _, _, _, _, _, _, _, _, _, _, _, _, _, _, _, _, _, _, _, _, _, _, _, _, _, _, _, _, _, _, _, _, _, _, _, _, _, _, _, _, _, _, _, _, _, _, _, _, _, _, _, _, _, _, _, _, _, _, _, _, _, _, _, _, _, _, _, _, _, _, _, _, _, _, _, _, _, _, _, _, _, _, _, _, _, _, _, _, _, _, _, _, _, _, _, _, _, _, _, _, _, _, _, _, _, _, _, _, _, _, _, _, _, _, _, _, _, _, _, _, _, _, _, _, _, _, _, _, _, _, _, _, _, _, _, _, _, _, _, _, _, _, _, _, _, _, _, _, _, _, _, _, _, _, _, _, _, _, _, _, ⟨ak, p, g, cap, mm.out, hlen, zF, rfl, rfl, iP.out, HB.out⟩, ⟨p, rfl, hp⟩, rfl⟩
theorem xR (s : ByteArray) (w : World) (hs : s.size ≤ 65536) (c1 ij iu ir iq im gM bZ bY bX bW bV bU bT bS bR u2 u3 u4 u8 u9 kQ kP kO kM kL kK kJ kI kH kG kE kD kC kB kA kz u32 ky kx ku kt ks kr kq ko km kl ki kh ke kb j8 j7 j6 j5 j4 jZ jY jX jW jV jU jT jS jR jQ jP jO u64 jN jM jL jK jJ jI jH jG jF jE jD jC jB jA jz jy jx jw jv ju jt js jr jq jo jn jm jl jk ji jh jg je jd jc fA fz fy fx fw fu ft fs fr fq fp fo fm fl fk fh fg fe fc fb fa e8 e7 e6 eZ eY eX eW eV eU eT eS eR eQ eP eO eN eM eL eK eJ eI eH eG eF eE eD eC eB eA ez ey ew ev eu et ep eo en ej ei eh ef ee ed ec ea dZ dY dX dW dV dS dR dQ dP dO dN dM dL dK dJ dI dH dG dF dE dD dC dz dy dx dv dt dr dq dp dn dm dk dj di dh de dd dc cZ cY cX cW cV cS cR cQ cP cO cN : Value) (wr : World) (ak : List Tok) (p g cap : Nat) (hlen : ak.length ≤ 4001)
  (Q0 : Exit → Act → World → Prop) (lE : Hid (nG s w Q0)) (mm : Hid (Reach s.data.toList p ak)) (iP : Hid (wr.ownsRow (w.heap.size + 1) 33 3 (.slice (some ⟨g, 0, none⟩) ak.length cap) ak.length (flat ak))) (HB : Hid (Below (w.heap.size + 1) (w.alloc (.cells #[] 33)) wr))
  (hp : p < s.size) (hm : ak.length ≤ 4000) (c : Int) (hc : (s[p].toNat : Int) = c) (lA : c ≠ 10) (mG : b9 c = false) (zY : c = 47) (xi : p + 1 < s.size) (Tg : (s[p + 1].toNat : Int) = 47) (mF : Hid (Reach s.data.toList (p + b6 (s.data.toList.drop p)) ak)) (mB : 0 < b6 (s.data.toList.drop p)) :
  Code.wp Tryd.prog lg (Exit.then (fun a' kZ => mR s w c1 ij iu ir iq im gM bZ bY bX bW bV bU bT bS bR a' kZ ∧ iK s a' kZ < iK s ⟨#[.string s, c1, u2, u3, u4, .slice (some ⟨w.heap.size, 0, none⟩) 0 0, .slice (some ⟨g, 0, none⟩) ak.length cap, .int .i64 p, u8, u9, kQ, kP, kO, kM, kL, ij, iu, ir, iq, im, gM, kK, kJ, kI, kH, kG, kE, kD, kC, kB, kA, kz, u32, ky, kx, ku, kt, ks, kr, kq, ko, km, kl, ki, kh, ke, kb, j8, j7, j6, j5, j4, jZ, jY, jX, jW, jV, jU, jT, jS, jR, jQ, jP, jO, u64, jN, jM, jL, jK, jJ, jI, jH, jG, jF, jE, jD, jC, jB, jA, jz, jy, jx, jw, jv, ju, jt, js, jr, jq, jo, jn, jm, jl, jk, ji, jh, jg, je, jd, jc, fA, fz, fy, fx, fw, fu, ft, fs, fr, fq, fp, fo, fm, fl, fk, fh, fg, fe, fc, fb, fa, e8, e7, e6, eZ, eY, eX, eW, eV, eU, eT, eS, eR, eQ, eP, eO, eN, eM, eL, eK, eJ, eI, eH, eG, eF, eE, eD, eC, eB, eA, ez, ey, ew, ev, eu, et, ep, eo, en, ej, ei, eh, ef, ee, ed, ec, ea, dZ, dY, dX, dW, dV, dS, dR, dQ, dP, dO, dN, dM, dL, dK, dJ, dI, dH, dG, dF, dE, dD, dC, dz, dy, dx, dv, dt, dr, dq, dp, dn, dm, dk, dj, di, dh, de, dd, dc, cZ, cY, cX, cW, cV, cS, cR, cQ, cP, cO, cN, bZ, bY, bX, bW, bV, bU, bT, bS, bR], []⟩ wr) Q0) ⟨#[.string s, c1, u2, u3, u4, .slice (some ⟨w.heap.size, 0, none⟩) 0 0, .slice (some ⟨g, 0, none⟩) ak.length cap, .int .i64 p, u8, u9, kQ, kP, kO, kM, kL, ij, iu, ir, iq, im, gM, kK, kJ, kI, kH, kG, kE, kD, kC, kB, kA, kz, u32, ky, kx, ku, kt, ks, kr, kq, ko, km, kl, ki, kh, ke, kb, j8, j7, j6, j5, j4, jZ, jY, jX, jW, jV, jU, jT, jS, jR, jQ, jP, jO, u64, jN, jM, jL, jK, jJ, jI, jH, jG, jF, jE, jD, jC, jB, jA, jz, jy, jx, jw, jv, ju, jt, js, jr, jq, jo, jn, jm, jl, jk, ji, jh, jg, je, jd, jc, fA, fz, fy, fx, fw, fu, ft, fs, fr, fq, fp, fo, fm, fl, fk, fh, fg, fe, fc, fb, fa, e8, e7, e6, eZ, eY, eX, eW, eV, eU, eT, eS, eR, eQ, eP, eO, eN, eM, eL, eK, eJ, eI, eH, eG, eF, eE, eD, eC, eB, eA, ez, ey, ew, ev, eu, et, ep, eo, en, ej, ei, eh, ef, ee, ed, ec, ea, dZ, dY, dX, dW, dV, dS, dR, dQ, dP, dO, dN, dM, dL, dK, dJ, dI, dH, dG, dF, dE, dD, dC, dz, dy, dx, dv, dt, dr, dq, dp, dn, dm, dk, dj, di, dh, de, dd, dc, cZ, cY, cX, cW, cV, cS, cR, cQ, cP, cO, cN, bZ, bY, bX, bW, bV, bU, bT, bS, bR], []⟩ wr := by
 have k_a21_0 := kk
 exact OX
theorem xQ (s : ByteArray) (w : World) (hs : s.size ≤ 65536) (c1 ij iu ir iq im gM bZ bY bX bW bV bU bT bS bR u2 u3 u4 u8 u9 kQ kP kO kM kL kK kJ kI kH kG kE kD kC kB kA kz u32 ky kx ku kt ks kr kq ko km kl ki kh ke kb j8 j7 j6 j5 j4 jZ jY jX jW jV jU jT jS jR jQ jP jO u64 jN jM jL jK jJ jI jH jG jF jE jD jC jB jA jz jy jx jw jv ju jt js jr jq jo jn jm jl jk ji jh jg je jd jc fA fz fy fx fw fu ft fs fr fq fp fo fm fl fk fh fg fe fc fb fa e8 e7 e6 eZ eY eX eW eV eU eT eS eR eQ eP eO eN eM eL eK eJ eI eH eG eF eE eD eC eB eA ez ey ew ev eu et ep eo en ej ei eh ef ee ed ec ea dZ dY dX dW dV dS dR dQ dP dO dN dM dL dK dJ dI dH dG dF dE dD dC dz dy dx dv dt dr dq dp dn dm dk dj di dh de dd dc cZ cY cX cW cV cS cR cQ cP cO cN : Value) (wr : World) (ak : List Tok) (p g cap : Nat) (hlen : ak.length ≤ 4001)
  (Q0 : Exit → Act → World → Prop) (lE : Hid (nG s w Q0)) (mm : Hid (Reach s.data.toList p ak)) (iP : Hid (wr.ownsRow (w.heap.size + 1) 33 3 (.slice (some ⟨g, 0, none⟩) ak.length cap) ak.length (flat ak))) (HB : Hid (Below (w.heap.size + 1) (w.alloc (.cells #[] 33)) wr))
  (hp : p < s.size) (hm : ak.length ≤ 4000) (c : Int) (hc : (s[p].toNat : Int) = c) (lA : c ≠ 10) (mG : b9 c = false) (HL : Hid (aW c = true)) (KL : 40 < bC (s.data.toList.drop p)) (wu : Hid (cC s.data.toList ⟨[], 4, p⟩)) :
  Code.wp Tryd.prog lg (Exit.then (fun a' kZ => mR s w c1 ij iu ir iq im gM bZ bY bX bW bV bU bT bS bR a' kZ ∧ iK s a' kZ < iK s ⟨#[.string s, c1, u2, u3, u4, .slice (some ⟨w.heap.size, 0, none⟩) 0 0, .slice (some ⟨g, 0, none⟩) ak.length cap, .int .i64 p, u8, u9, kQ, kP, kO, kM, kL, ij, iu, ir, iq, im, gM, kK, kJ, kI, kH, kG, kE, kD, kC, kB, kA, kz, u32, ky, kx, ku, kt, ks, kr, kq, ko, km, kl, ki, kh, ke, kb, j8, j7, j6, j5, j4, jZ, jY, jX, jW, jV, jU, jT, jS, jR, jQ, jP, jO, u64, jN, jM, jL, jK, jJ, jI, jH, jG, jF, jE, jD, jC, jB, jA, jz, jy, jx, jw, jv, ju, jt, js, jr, jq, jo, jn, jm, jl, jk, ji, jh, jg, je, jd, jc, fA, fz, fy, fx, fw, fu, ft, fs, fr, fq, fp, fo, fm, fl, fk, fh, fg, fe, fc, fb, fa, e8, e7, e6, eZ, eY, eX, eW, eV, eU, eT, eS, eR, eQ, eP, eO, eN, eM, eL, eK, eJ, eI, eH, eG, eF, eE, eD, eC, eB, eA, ez, ey, ew, ev, eu, et, ep, eo, en, ej, ei, eh, ef, ee, ed, ec, ea, dZ, dY, dX, dW, dV, dS, dR, dQ, dP, dO, dN, dM, dL, dK, dJ, dI, dH, dG, dF, dE, dD, dC, dz, dy, dx, dv, dt, dr, dq, dp, dn, dm, dk, dj, di, dh, de, dd, dc, cZ, cY, cX, cW, cV, cS, cR, cQ, cP, cO, cN, bZ, bY, bX, bW, bV, bU, bT, bS, bR], []⟩ wr) Q0) ⟨#[.string s, c1, u2, u3, u4, .slice (some ⟨w.heap.size, 0, none⟩) 0 0, .slice (some ⟨g, 0, none⟩) ak.length cap, .int .i64 p, u8, u9, kQ, kP, kO, kM, kL, ij, iu, ir, iq, im, gM, kK, kJ, kI, kH, kG, kE, kD, kC, kB, kA, kz, u32, ky, kx, ku, kt, ks, kr, kq, ko, km, kl, ki, kh, ke, kb, j8, j7, j6, j5, j4, jZ, jY, jX, jW, jV, jU, jT, jS, jR, jQ, jP, jO, u64, jN, jM, jL, jK, jJ, jI, jH, jG, jF, jE, jD, jC, jB, jA, jz, jy, jx, jw, jv, ju, jt, js, jr, jq, jo, jn, jm, jl, jk, ji, jh, jg, je, jd, jc, fA, fz, fy, fx, fw, fu, ft, fs, fr, fq, fp, fo, fm, fl, fk, fh, fg, fe, fc, fb, fa, e8, e7, e6, eZ, eY, eX, eW, eV, eU, eT, eS, eR, eQ, eP, eO, eN, eM, eL, eK, eJ, eI, eH, eG, eF, eE, eD, eC, eB, eA, ez, ey, ew, ev, eu, et, ep, eo, en, ej, ei, eh, ef, ee, ed, ec, ea, dZ, dY, dX, dW, dV, dS, dR, dQ, dP, dO, dN, dM, dL, dK, dJ, dI, dH, dG, dF, dE, dD, dC, dz, dy, dx, dv, dt, dr, dq, dp, dn, dm, dk, dj, di, dh, de, dd, dc, cZ, cY, cX, cW, cV, cS, cR, cQ, cP, cO, cN, bZ, bY, bX, bW, bV, bU, bT, bS, bR], []⟩ wr := by
 have k_a20_1 := kk
 exact Ui
theorem DR (s : ByteArray) (w : World) (hs : s.size ≤ 65536) (c1 ij iu ir iq im gM bZ bY bX bW bV bU bT bS bR u2 u3 u4 u8 u9 kQ kP kO kM kL kK kJ kI kH kG kE kD kC kB kA kz u32 ky kx ku kt ks kr kq ko km kl ki kh ke kb j8 j7 j6 j5 j4 jZ jY jX jW jV jU jT jS jR jQ jP jO u64 jN jM jL jK jJ jI jH jG jF jE jD jC jB jA jz jy jx jw jv ju jt js jr jq jo jn jm jl jk ji jh jg je jd jc fA fz fy fx fw fu ft fs fr fq fp fo fm fl fk fh fg fe fc fb fa e8 e7 e6 eZ eY eX eW eV eU eT eS eR eQ eP eO eN eM eL eK eJ eI eH eG eF eE eD eC eB eA ez ey ew ev eu et ep eo en ej ei eh ef ee ed ec ea dZ dY dX dW dV dS dR dQ dP dO dN dM dL dK dJ dI dH dG dF dE dD dC dz dy dx dv dt dr dq dp dn dm dk dj di dh de dd dc cZ cY cX cW cV cS cR cQ cP cO cN : Value) (wr : World) (ak : List Tok) (p g cap : Nat) (hlen : ak.length ≤ 4001)
  (Q0 : Exit → Act → World → Prop) (lE : Hid (nG s w Q0)) (mm : Hid (Reach s.data.toList p ak)) (iP : Hid (wr.ownsRow (w.heap.size + 1) 33 3 (.slice (some ⟨g, 0, none⟩) ak.length cap) ak.length (flat ak))) (HB : Hid (Below (w.heap.size + 1) (w.alloc (.cells #[] 33)) wr))
  (hp : p < s.size) (hm : ak.length ≤ 4000) (c : Int) (hc : (s[p].toNat : Int) = c) (lA : c ≠ 10) (mG : b9 c = false) (HL : Hid (aW c = true)) (KL : ¬ 40 < bC (s.data.toList.drop p)) (mB : 1 ≤ bC (s.data.toList.drop p)) (hk : Bool) (HK : Hid (hasB aS (bs ((s.data.toList.drop p).take (bC (s.data.toList.drop p)))) = hk)) (mF : Hid (Reach s.data.toList (p + bC (s.data.toList.drop p)) (ak ++ [⟨if hk then 3 else 1, bs ((s.data.toList.drop p).take (bC (s.data.toList.drop p))), p⟩]))) :
  Code.wp Tryd.prog lg (Exit.then (fun a' kZ => mR s w c1 ij iu ir iq im gM bZ bY bX bW bV bU bT bS bR a' kZ ∧ iK s a' kZ < iK s ⟨#[.string s, c1, u2, u3, u4, .slice (some ⟨w.heap.size, 0, none⟩) 0 0, .slice (some ⟨g, 0, none⟩) ak.length cap, .int .i64 p, u8, u9, kQ, kP, kO, kM, kL, ij, iu, ir, iq, im, gM, kK, kJ, kI, kH, kG, kE, kD, kC, kB, kA, kz, u32, ky, kx, ku, kt, ks, kr, kq, ko, km, kl, ki, kh, ke, kb, j8, j7, j6, j5, j4, jZ, jY, jX, jW, jV, jU, jT, jS, jR, jQ, jP, jO, u64, jN, jM, jL, jK, jJ, jI, jH, jG, jF, jE, jD, jC, jB, jA, jz, jy, jx, jw, jv, ju, jt, js, jr, jq, jo, jn, jm, jl, jk, ji, jh, jg, je, jd, jc, fA, fz, fy, fx, fw, fu, ft, fs, fr, fq, fp, fo, fm, fl, fk, fh, fg, fe, fc, fb, fa, e8, e7, e6, eZ, eY, eX, eW, eV, eU, eT, eS, eR, eQ, eP, eO, eN, eM, eL, eK, eJ, eI, eH, eG, eF, eE, eD, eC, eB, eA, ez, ey, ew, ev, eu, et, ep, eo, en, ej, ei, eh, ef, ee, ed, ec, ea, dZ, dY, dX, dW, dV, dS, dR, dQ, dP, dO, dN, dM, dL, dK, dJ, dI, dH, dG, dF, dE, dD, dC, dz, dy, dx, dv, dt, dr, dq, dp, dn, dm, dk, dj, di, dh, de, dd, dc, cZ, cY, cX, cW, cV, cS, cR, cQ, cP, cO, cN, bZ, bY, bX, bW, bV, bU, bT, bS, bR], []⟩ wr) Q0) ⟨#[.string s, c1, u2, u3, u4, .slice (some ⟨w.heap.size, 0, none⟩) 0 0, .slice (some ⟨g, 0, none⟩) ak.length cap, .int .i64 p, u8, u9, kQ, kP, kO, kM, kL, ij, iu, ir, iq, im, gM, kK, kJ, kI, kH, kG, kE, kD, kC, kB, kA, kz, u32, ky, kx, ku, kt, ks, kr, kq, ko, km, kl, ki, kh, ke, kb, j8, j7, j6, j5, j4, jZ, jY, jX, jW, jV, jU, jT, jS, jR, jQ, jP, jO, u64, jN, jM, jL, jK, jJ, jI, jH, jG, jF, jE, jD, jC, jB, jA, jz, jy, jx, jw, jv, ju, jt, js, jr, jq, jo, jn, jm, jl, jk, ji, jh, jg, je, jd, jc, fA, fz, fy, fx, fw, fu, ft, fs, fr, fq, fp, fo, fm, fl, fk, fh, fg, fe, fc, fb, fa, e8, e7, e6, eZ, eY, eX, eW, eV, eU, eT, eS, eR, eQ, eP, eO, eN, eM, eL, eK, eJ, eI, eH, eG, eF, eE, eD, eC, eB, eA, ez, ey, ew, ev, eu, et, ep, eo, en, ej, ei, eh, ef, ee, ed, ec, ea, dZ, dY, dX, dW, dV, dS, dR, dQ, dP, dO, dN, dM, dL, dK, dJ, dI, dH, dG, dF, dE, dD, dC, dz, dy, dx, dv, dt, dr, dq, dp, dn, dm, dk, dj, di, dh, de, dd, dc, cZ, cY, cX, cW, cV, cS, cR, cQ, cP, cO, cN, bZ, bY, bX, bW, bV, bU, bT, bS, bR], []⟩ wr := by
 have k_a20_0 := kk
 exact Ui
theorem yZ (s : ByteArray) (w : World) (hs : s.size ≤ 65536) (c1 ij iu ir iq im gM bZ bY bX bW bV bU bT bS bR u2 u3 u4 u8 u9 kQ kP kO kM kL kK kJ kI kH kG kE kD kC kB kA kz u32 ky kx ku kt ks kr kq ko km kl ki kh ke kb j8 j7 j6 j5 j4 jZ jY jX jW jV jU jT jS jR jQ jP jO u64 jN jM jL jK jJ jI jH jG jF jE jD jC jB jA jz jy jx jw jv ju jt js jr jq jo jn jm jl jk ji jh jg je jd jc fA fz fy fx fw fu ft fs fr fq fp fo fm fl fk fh fg fe fc fb fa e8 e7 e6 eZ eY eX eW eV eU eT eS eR eQ eP eO eN eM eL eK eJ eI eH eG eF eE eD eC eB eA ez ey ew ev eu et ep eo en ej ei eh ef ee ed ec ea dZ dY dX dW dV dS dR dQ dP dO dN dM dL dK dJ dI dH dG dF dE dD dC dz dy dx dv dt dr dq dp dn dm dk dj di dh de dd dc cZ cY cX cW cV cS cR cQ cP cO cN : Value) (wr : World) (ak : List Tok) (p g cap : Nat) (hlen : ak.length ≤ 4001)
  (Q0 : Exit → Act → World → Prop) (lE : Hid (nG s w Q0)) (mm : Hid (Reach s.data.toList p ak)) (iP : Hid (wr.ownsRow (w.heap.size + 1) 33 3 (.slice (some ⟨g, 0, none⟩) ak.length cap) ak.length (flat ak))) (HB : Hid (Below (w.heap.size + 1) (w.alloc (.cells #[] 33)) wr))
  (hp : p < s.size) (hm : ak.length ≤ 4000) (c : Int) (hc : (s[p].toNat : Int) = c) (lA : c ≠ 10) (mG : b9 c = false) (HL : Hid (aW c = false)) (HD : Hid (aM c = true)) (mB : 1 ≤ bC (s.data.toList.drop p)) (HK : Hid (oy ((s.data.toList.drop p).take (bC (s.data.toList.drop p))) = false)) (wu : Hid (cC s.data.toList ⟨[], 4, p⟩)) :
  Code.wp Tryd.prog lg (Exit.then (fun a' kZ => mR s w c1 ij iu ir iq im gM bZ bY bX bW bV bU bT bS bR a' kZ ∧ iK s a' kZ < iK s ⟨#[.string s, c1, u2, u3, u4, .slice (some ⟨w.heap.size, 0, none⟩) 0 0, .slice (some ⟨g, 0, none⟩) ak.length cap, .int .i64 p, u8, u9, kQ, kP, kO, kM, kL, ij, iu, ir, iq, im, gM, kK, kJ, kI, kH, kG, kE, kD, kC, kB, kA, kz, u32, ky, kx, ku, kt, ks, kr, kq, ko, km, kl, ki, kh, ke, kb, j8, j7, j6, j5, j4, jZ, jY, jX, jW, jV, jU, jT, jS, jR, jQ, jP, jO, u64, jN, jM, jL, jK, jJ, jI, jH, jG, jF, jE, jD, jC, jB, jA, jz, jy, jx, jw, jv, ju, jt, js, jr, jq, jo, jn, jm, jl, jk, ji, jh, jg, je, jd, jc, fA, fz, fy, fx, fw, fu, ft, fs, fr, fq, fp, fo, fm, fl, fk, fh, fg, fe, fc, fb, fa, e8, e7, e6, eZ, eY, eX, eW, eV, eU, eT, eS, eR, eQ, eP, eO, eN, eM, eL, eK, eJ, eI, eH, eG, eF, eE, eD, eC, eB, eA, ez, ey, ew, ev, eu, et, ep, eo, en, ej, ei, eh, ef, ee, ed, ec, ea, dZ, dY, dX, dW, dV, dS, dR, dQ, dP, dO, dN, dM, dL, dK, dJ, dI, dH, dG, dF, dE, dD, dC, dz, dy, dx, dv, dt, dr, dq, dp, dn, dm, dk, dj, di, dh, de, dd, dc, cZ, cY, cX, cW, cV, cS, cR, cQ, cP, cO, cN, bZ, bY, bX, bW, bV, bU, bT, bS, bR], []⟩ wr) Q0) ⟨#[.string s, c1, u2, u3, u4, .slice (some ⟨w.heap.size, 0, none⟩) 0 0, .slice (some ⟨g, 0, none⟩) ak.length cap, .int .i64 p, u8, u9, kQ, kP, kO, kM, kL, ij, iu, ir, iq, im, gM, kK, kJ, kI, kH, kG, kE, kD, kC, kB, kA, kz, u32, ky, kx, ku, kt, ks, kr, kq, ko, km, kl, ki, kh, ke, kb, j8, j7, j6, j5, j4, jZ, jY, jX, jW, jV, jU, jT, jS, jR, jQ, jP, jO, u64, jN, jM, jL, jK, jJ, jI, jH, jG, jF, jE, jD, jC, jB, jA, jz, jy, jx, jw, jv, ju, jt, js, jr, jq, jo, jn, jm, jl, jk, ji, jh, jg, je, jd, jc, fA, fz, fy, fx, fw, fu, ft, fs, fr, fq, fp, fo, fm, fl, fk, fh, fg, fe, fc, fb, fa, e8, e7, e6, eZ, eY, eX, eW, eV, eU, eT, eS, eR, eQ, eP, eO, eN, eM, eL, eK, eJ, eI, eH, eG, eF, eE, eD, eC, eB, eA, ez, ey, ew, ev, eu, et, ep, eo, en, ej, ei, eh, ef, ee, ed, ec, ea, dZ, dY, dX, dW, dV, dS, dR, dQ, dP, dO, dN, dM, dL, dK, dJ, dI, dH, dG, dF, dE, dD, dC, dz, dy, dx, dv, dt, dr, dq, dp, dn, dm, dk, dj, di, dh, de, dd, dc, cZ, cY, cX, cW, cV, cS, cR, cQ, cP, cO, cN, bZ, bY, bX, bW, bV, bU, bT, bS, bR], []⟩ wr := by
 have k_a14_1 := kk
 exact Um
theorem FS (s : ByteArray) (w : World) (hs : s.size ≤ 65536) (c1 ij iu ir iq im gM bZ bY bX bW bV bU bT bS bR u2 u3 u4 u8 u9 kQ kP kO kM kL kK kJ kI kH kG kE kD kC kB kA kz u32 ky kx ku kt ks kr kq ko km kl ki kh ke kb j8 j7 j6 j5 j4 jZ jY jX jW jV jU jT jS jR jQ jP jO u64 jN jM jL jK jJ jI jH jG jF jE jD jC jB jA jz jy jx jw jv ju jt js jr jq jo jn jm jl jk ji jh jg je jd jc fA fz fy fx fw fu ft fs fr fq fp fo fm fl fk fh fg fe fc fb fa e8 e7 e6 eZ eY eX eW eV eU eT eS eR eQ eP eO eN eM eL eK eJ eI eH eG eF eE eD eC eB eA ez ey ew ev eu et ep eo en ej ei eh ef ee ed ec ea dZ dY dX dW dV dS dR dQ dP dO dN dM dL dK dJ dI dH dG dF dE dD dC dz dy dx dv dt dr dq dp dn dm dk dj di dh de dd dc cZ cY cX cW cV cS cR cQ cP cO cN : Value) (wr : World) (ak : List Tok) (p g cap : Nat) (hlen : ak.length ≤ 4001)
  (Q0 : Exit → Act → World → Prop) (lE : Hid (nG s w Q0)) (mm : Hid (Reach s.data.toList p ak)) (iP : Hid (wr.ownsRow (w.heap.size + 1) 33 3 (.slice (some ⟨g, 0, none⟩) ak.length cap) ak.length (flat ak))) (HB : Hid (Below (w.heap.size + 1) (w.alloc (.cells #[] 33)) wr))
  (hp : p < s.size) (hm : ak.length ≤ 4000) (c : Int) (hc : (s[p].toNat : Int) = c) (lA : c ≠ 10) (mG : b9 c = false) (HL : Hid (aW c = false)) (HD : Hid (aM c = true)) (mB : 1 ≤ bC (s.data.toList.drop p)) (HK : Hid (oy ((s.data.toList.drop p).take (bC (s.data.toList.drop p))) = true)) (mF : Hid (Reach s.data.toList (p + bC (s.data.toList.drop p)) (ak ++ [⟨2, bs ((s.data.toList.drop p).take (bC (s.data.toList.drop p))), p⟩]))) :
  Code.wp Tryd.prog lg (Exit.then (fun a' kZ => mR s w c1 ij iu ir iq im gM bZ bY bX bW bV bU bT bS bR a' kZ ∧ iK s a' kZ < iK s ⟨#[.string s, c1, u2, u3, u4, .slice (some ⟨w.heap.size, 0, none⟩) 0 0, .slice (some ⟨g, 0, none⟩) ak.length cap, .int .i64 p, u8, u9, kQ, kP, kO, kM, kL, ij, iu, ir, iq, im, gM, kK, kJ, kI, kH, kG, kE, kD, kC, kB, kA, kz, u32, ky, kx, ku, kt, ks, kr, kq, ko, km, kl, ki, kh, ke, kb, j8, j7, j6, j5, j4, jZ, jY, jX, jW, jV, jU, jT, jS, jR, jQ, jP, jO, u64, jN, jM, jL, jK, jJ, jI, jH, jG, jF, jE, jD, jC, jB, jA, jz, jy, jx, jw, jv, ju, jt, js, jr, jq, jo, jn, jm, jl, jk, ji, jh, jg, je, jd, jc, fA, fz, fy, fx, fw, fu, ft, fs, fr, fq, fp, fo, fm, fl, fk, fh, fg, fe, fc, fb, fa, e8, e7, e6, eZ, eY, eX, eW, eV, eU, eT, eS, eR, eQ, eP, eO, eN, eM, eL, eK, eJ, eI, eH, eG, eF, eE, eD, eC, eB, eA, ez, ey, ew, ev, eu, et, ep, eo, en, ej, ei, eh, ef, ee, ed, ec, ea, dZ, dY, dX, dW, dV, dS, dR, dQ, dP, dO, dN, dM, dL, dK, dJ, dI, dH, dG, dF, dE, dD, dC, dz, dy, dx, dv, dt, dr, dq, dp, dn, dm, dk, dj, di, dh, de, dd, dc, cZ, cY, cX, cW, cV, cS, cR, cQ, cP, cO, cN, bZ, bY, bX, bW, bV, bU, bT, bS, bR], []⟩ wr) Q0) ⟨#[.string s, c1, u2, u3, u4, .slice (some ⟨w.heap.size, 0, none⟩) 0 0, .slice (some ⟨g, 0, none⟩) ak.length cap, .int .i64 p, u8, u9, kQ, kP, kO, kM, kL, ij, iu, ir, iq, im, gM, kK, kJ, kI, kH, kG, kE, kD, kC, kB, kA, kz, u32, ky, kx, ku, kt, ks, kr, kq, ko, km, kl, ki, kh, ke, kb, j8, j7, j6, j5, j4, jZ, jY, jX, jW, jV, jU, jT, jS, jR, jQ, jP, jO, u64, jN, jM, jL, jK, jJ, jI, jH, jG, jF, jE, jD, jC, jB, jA, jz, jy, jx, jw, jv, ju, jt, js, jr, jq, jo, jn, jm, jl, jk, ji, jh, jg, je, jd, jc, fA, fz, fy, fx, fw, fu, ft, fs, fr, fq, fp, fo, fm, fl, fk, fh, fg, fe, fc, fb, fa, e8, e7, e6, eZ, eY, eX, eW, eV, eU, eT, eS, eR, eQ, eP, eO, eN, eM, eL, eK, eJ, eI, eH, eG, eF, eE, eD, eC, eB, eA, ez, ey, ew, ev, eu, et, ep, eo, en, ej, ei, eh, ef, ee, ed, ec, ea, dZ, dY, dX, dW, dV, dS, dR, dQ, dP, dO, dN, dM, dL, dK, dJ, dI, dH, dG, dF, dE, dD, dC, dz, dy, dx, dv, dt, dr, dq, dp, dn, dm, dk, dj, di, dh, de, dd, dc, cZ, cY, cX, cW, cV, cS, cR, cQ, cP, cO, cN, bZ, bY, bX, bW, bV, bU, bT, bS, bR], []⟩ wr := by
 have k_a14_0 := kk
 exact Um
theorem AO (s : ByteArray) (w : World) (hs : s.size ≤ 65536) (c1 ij iu ir iq im gM bZ bY bX bW bV bU bT bS bR u2 u3 u4 u8 u9 kQ kP kO kM kL kK kJ kI kH kG kE kD kC kB kA kz u32 ky kx ku kt ks kr kq ko km kl ki kh ke kb j8 j7 j6 j5 j4 jZ jY jX jW jV jU jT jS jR jQ jP jO u64 jN jM jL jK jJ jI jH jG jF jE jD jC jB jA jz jy jx jw jv ju jt js jr jq jo jn jm jl jk ji jh jg je jd jc fA fz fy fx fw fu ft fs fr fq fp fo fm fl fk fh fg fe fc fb fa e8 e7 e6 eZ eY eX eW eV eU eT eS eR eQ eP eO eN eM eL eK eJ eI eH eG eF eE eD eC eB eA ez ey ew ev eu et ep eo en ej ei eh ef ee ed ec ea dZ dY dX dW dV dS dR dQ dP dO dN dM dL dK dJ dI dH dG dF dE dD dC dz dy dx dv dt dr dq dp dn dm dk dj di dh de dd dc cZ cY cX cW cV cS cR cQ cP cO cN : Value) (wr : World) (ak : List Tok) (p g cap : Nat) (hlen : ak.length ≤ 4001)
  (Q0 : Exit → Act → World → Prop) (lE : Hid (nG s w Q0)) (mm : Hid (Reach s.data.toList p ak)) (iP : Hid (wr.ownsRow (w.heap.size + 1) 33 3 (.slice (some ⟨g, 0, none⟩) ak.length cap) ak.length (flat ak))) (HB : Hid (Below (w.heap.size + 1) (w.alloc (.cells #[] 33)) wr))
  (hp : p < s.size) (hm : ak.length ≤ 4000) (c : Int) (hc : (s[p].toNat : Int) = c) (lA : c ≠ 10) (mG : b9 c = false) (HL : Hid (aW c = false)) (HD : Hid (aM c = false)) (qp : c ≠ 59) (uW : ¬ (c = 47 ∧ ∃ h : p + 1 < s.size, (s[p + 1].toNat : Int) = 47)) (hz : (bL (s.data.toList.drop p)).toList.isEmpty = true) (wu : Hid (cC s.data.toList ⟨[], 4, p⟩)) :
  Code.wp Tryd.prog lg (Exit.then (fun a' kZ => mR s w c1 ij iu ir iq im gM bZ bY bX bW bV bU bT bS bR a' kZ ∧ iK s a' kZ < iK s ⟨#[.string s, c1, u2, u3, u4, .slice (some ⟨w.heap.size, 0, none⟩) 0 0, .slice (some ⟨g, 0, none⟩) ak.length cap, .int .i64 p, u8, u9, kQ, kP, kO, kM, kL, ij, iu, ir, iq, im, gM, kK, kJ, kI, kH, kG, kE, kD, kC, kB, kA, kz, u32, ky, kx, ku, kt, ks, kr, kq, ko, km, kl, ki, kh, ke, kb, j8, j7, j6, j5, j4, jZ, jY, jX, jW, jV, jU, jT, jS, jR, jQ, jP, jO, u64, jN, jM, jL, jK, jJ, jI, jH, jG, jF, jE, jD, jC, jB, jA, jz, jy, jx, jw, jv, ju, jt, js, jr, jq, jo, jn, jm, jl, jk, ji, jh, jg, je, jd, jc, fA, fz, fy, fx, fw, fu, ft, fs, fr, fq, fp, fo, fm, fl, fk, fh, fg, fe, fc, fb, fa, e8, e7, e6, eZ, eY, eX, eW, eV, eU, eT, eS, eR, eQ, eP, eO, eN, eM, eL, eK, eJ, eI, eH, eG, eF, eE, eD, eC, eB, eA, ez, ey, ew, ev, eu, et, ep, eo, en, ej, ei, eh, ef, ee, ed, ec, ea, dZ, dY, dX, dW, dV, dS, dR, dQ, dP, dO, dN, dM, dL, dK, dJ, dI, dH, dG, dF, dE, dD, dC, dz, dy, dx, dv, dt, dr, dq, dp, dn, dm, dk, dj, di, dh, de, dd, dc, cZ, cY, cX, cW, cV, cS, cR, cQ, cP, cO, cN, bZ, bY, bX, bW, bV, bU, bT, bS, bR], []⟩ wr) Q0) ⟨#[.string s, c1, u2, u3, u4, .slice (some ⟨w.heap.size, 0, none⟩) 0 0, .slice (some ⟨g, 0, none⟩) ak.length cap, .int .i64 p, u8, u9, kQ, kP, kO, kM, kL, ij, iu, ir, iq, im, gM, kK, kJ, kI, kH, kG, kE, kD, kC, kB, kA, kz, u32, ky, kx, ku, kt, ks, kr, kq, ko, km, kl, ki, kh, ke, kb, j8, j7, j6, j5, j4, jZ, jY, jX, jW, jV, jU, jT, jS, jR, jQ, jP, jO, u64, jN, jM, jL, jK, jJ, jI, jH, jG, jF, jE, jD, jC, jB, jA, jz, jy, jx, jw, jv, ju, jt, js, jr, jq, jo, jn, jm, jl, jk, ji, jh, jg, je, jd, jc, fA, fz, fy, fx, fw, fu, ft, fs, fr, fq, fp, fo, fm, fl, fk, fh, fg, fe, fc, fb, fa, e8, e7, e6, eZ, eY, eX, eW, eV, eU, eT, eS, eR, eQ, eP, eO, eN, eM, eL, eK, eJ, eI, eH, eG, eF, eE, eD, eC, eB, eA, ez, ey, ew, ev, eu, et, ep, eo, en, ej, ei, eh, ef, ee, ed, ec, ea, dZ, dY, dX, dW, dV, dS, dR, dQ, dP, dO, dN, dM, dL, dK, dJ, dI, dH, dG, dF, dE, dD, dC, dz, dy, dx, dv, dt, dr, dq, dp, dn, dm, dk, dj, di, dh, de, dd, dc, cZ, cY, cX, cW, cV, cS, cR, cQ, cP, cO, cN, bZ, bY, bX, bW, bV, bU, bT, bS, bR], []⟩ wr := by
 conv => arg 2; whnf
 have PP := HB.out.size
 rw [World.size_alloc] at PP
 have k_a17_0 := kk
 exact Uk
theorem J0 (s : ByteArray) (w : World) (hs : s.size ≤ 65536) (c1 ij iu ir iq im gM bZ bY bX bW bV bU bT bS bR u2 u3 u4 u8 u9 kQ kP kO kM kL kK kJ kI kH kG kE kD kC kB kA kz u32 ky kx ku kt ks kr kq ko km kl ki kh ke kb j8 j7 j6 j5 j4 jZ jY jX jW jV jU jT jS jR jQ jP jO u64 jN jM jL jK jJ jI jH jG jF jE jD jC jB jA jz jy jx jw jv ju jt js jr jq jo jn jm jl jk ji jh jg je jd jc fA fz fy fx fw fu ft fs fr fq fp fo fm fl fk fh fg fe fc fb fa e8 e7 e6 eZ eY eX eW eV eU eT eS eR eQ eP eO eN eM eL eK eJ eI eH eG eF eE eD eC eB eA ez ey ew ev eu et ep eo en ej ei eh ef ee ed ec ea dZ dY dX dW dV dS dR dQ dP dO dN dM dL dK dJ dI dH dG dF dE dD dC dz dy dx dv dt dr dq dp dn dm dk dj di dh de dd dc cZ cY cX cW cV cS cR cQ cP cO cN : Value) (wr : World) (ak : List Tok) (p g cap : Nat) (hlen : ak.length ≤ 4001)
  (Q0 : Exit → Act → World → Prop) (lE : Hid (nG s w Q0)) (mm : Hid (Reach s.data.toList p ak)) (iP : Hid (wr.ownsRow (w.heap.size + 1) 33 3 (.slice (some ⟨g, 0, none⟩) ak.length cap) ak.length (flat ak))) (HB : Hid (Below (w.heap.size + 1) (w.alloc (.cells #[] 33)) wr))
  (hp : p < s.size) (hm : ak.length ≤ 4000) (c : Int) (hc : (s[p].toNat : Int) = c) (lA : c ≠ 10) (mG : b9 c = false) (HL : Hid (aW c = false)) (HD : Hid (aM c = false)) (qp : c ≠ 59) (uW : ¬ (c = 47 ∧ ∃ h : p + 1 < s.size, (s[p + 1].toNat : Int) = 47)) (hz : (bL (s.data.toList.drop p)).toList.isEmpty = false) (mB : 0 < (bL (s.data.toList.drop p)).size) (hle : p + (bL (s.data.toList.drop p)).size ≤ s.size) (mF : Hid (Reach s.data.toList (p + (bL (s.data.toList.drop p)).size) (ak ++ [⟨4, bL (s.data.toList.drop p), p⟩]))) :
  Code.wp Tryd.prog lg (Exit.then (fun a' kZ => mR s w c1 ij iu ir iq im gM bZ bY bX bW bV bU bT bS bR a' kZ ∧ iK s a' kZ < iK s ⟨#[.string s, c1, u2, u3, u4, .slice (some ⟨w.heap.size, 0, none⟩) 0 0, .slice (some ⟨g, 0, none⟩) ak.length cap, .int .i64 p, u8, u9, kQ, kP, kO, kM, kL, ij, iu, ir, iq, im, gM, kK, kJ, kI, kH, kG, kE, kD, kC, kB, kA, kz, u32, ky, kx, ku, kt, ks, kr, kq, ko, km, kl, ki, kh, ke, kb, j8, j7, j6, j5, j4, jZ, jY, jX, jW, jV, jU, jT, jS, jR, jQ, jP, jO, u64, jN, jM, jL, jK, jJ, jI, jH, jG, jF, jE, jD, jC, jB, jA, jz, jy, jx, jw, jv, ju, jt, js, jr, jq, jo, jn, jm, jl, jk, ji, jh, jg, je, jd, jc, fA, fz, fy, fx, fw, fu, ft, fs, fr, fq, fp, fo, fm, fl, fk, fh, fg, fe, fc, fb, fa, e8, e7, e6, eZ, eY, eX, eW, eV, eU, eT, eS, eR, eQ, eP, eO, eN, eM, eL, eK, eJ, eI, eH, eG, eF, eE, eD, eC, eB, eA, ez, ey, ew, ev, eu, et, ep, eo, en, ej, ei, eh, ef, ee, ed, ec, ea, dZ, dY, dX, dW, dV, dS, dR, dQ, dP, dO, dN, dM, dL, dK, dJ, dI, dH, dG, dF, dE, dD, dC, dz, dy, dx, dv, dt, dr, dq, dp, dn, dm, dk, dj, di, dh, de, dd, dc, cZ, cY, cX, cW, cV, cS, cR, cQ, cP, cO, cN, bZ, bY, bX, bW, bV, bU, bT, bS, bR], []⟩ wr) Q0) ⟨#[.string s, c1, u2, u3, u4, .slice (some ⟨w.heap.size, 0, none⟩) 0 0, .slice (some ⟨g, 0, none⟩) ak.length cap, .int .i64 p, u8, u9, kQ, kP, kO, kM, kL, ij, iu, ir, iq, im, gM, kK, kJ, kI, kH, kG, kE, kD, kC, kB, kA, kz, u32, ky, kx, ku, kt, ks, kr, kq, ko, km, kl, ki, kh, ke, kb, j8, j7, j6, j5, j4, jZ, jY, jX, jW, jV, jU, jT, jS, jR, jQ, jP, jO, u64, jN, jM, jL, jK, jJ, jI, jH, jG, jF, jE, jD, jC, jB, jA, jz, jy, jx, jw, jv, ju, jt, js, jr, jq, jo, jn, jm, jl, jk, ji, jh, jg, je, jd, jc, fA, fz, fy, fx, fw, fu, ft, fs, fr, fq, fp, fo, fm, fl, fk, fh, fg, fe, fc, fb, fa, e8, e7, e6, eZ, eY, eX, eW, eV, eU, eT, eS, eR, eQ, eP, eO, eN, eM, eL, eK, eJ, eI, eH, eG, eF, eE, eD, eC, eB, eA, ez, ey, ew, ev, eu, et, ep, eo, en, ej, ei, eh, ef, ee, ed, ec, ea, dZ, dY, dX, dW, dV, dS, dR, dQ, dP, dO, dN, dM, dL, dK, dJ, dI, dH, dG, dF, dE, dD, dC, dz, dy, dx, dv, dt, dr, dq, dp, dn, dm, dk, dj, di, dh, de, dd, dc, cZ, cY, cX, cW, cV, cS, cR, cQ, cP, cO, cN, bZ, bY, bX, bW, bV, bU, bT, bS, bR], []⟩ wr := by
 have k_a25_1 := kk
 exact Uf
theorem Ab (ts : List Tok) (i : Nat) (h : i < ts.length) : (flat ts)[i * 3 + 2]? = some (.int .i64 ts[i].place) := by
 induction ts generalizing i with
 |nil => simp at h
 |cons t ts ih =>
  rw [flat, List.flatMap_cons, ← flat]
  cases i with
  |zero => rfl
  |succ i =>
   have : (i + 1) * 3 + 2 = (i * 3 + 2) + 3 := by omega
   rw [this]
   simpa using ih i (by simpa using h)
theorem FP (s : ByteArray) (w : World) (hs : s.size ≤ 65536) (c1 ij iu ir iq im gM bZ bY bX bW bV bU bT bS bR u2 u3 u4 u8 u9 kQ kP kO kM kL kK kJ kI kH kG kE kD kC kB kA kz u32 ky kx ku kt ks kr kq ko km kl ki kh ke kb j8 j7 j6 j5 j4 jZ jY jX jW jV jU jT jS jR jQ jP jO u64 jN jM jL jK jJ jI jH jG jF jE jD jC jB jA jz jy jx jw jv ju jt js jr jq jo jn jm jl jk ji jh jg je jd jc fA fz fy fx fw fu ft fs fr fq fp fo fm fl fk fh fg fe fc fb fa e8 e7 e6 eZ eY eX eW eV eU eT eS eR eQ eP eO eN eM eL eK eJ eI eH eG eF eE eD eC eB eA ez ey ew ev eu et ep eo en ej ei eh ef ee ed ec ea dZ dY dX dW dV dS dR dQ dP dO dN dM dL dK dJ dI dH dG dF dE dD dC dz dy dx dv dt dr dq dp dn dm dk dj di dh de dd dc cZ cY cX cW cV cS cR cQ cP cO cN : Value) (wr : World) (ak : List Tok) (p g cap : Nat) (hlen : ak.length ≤ 4001) (zF : p ≤ s.size + 1)
  (Q0 : Exit → Act → World → Prop) (lE : Hid (nG s w Q0)) (cz : Reach s.data.toList p ak) (bK : wr.ownsRow (w.heap.size + 1) 33 3 (.slice (some ⟨g, 0, none⟩) ak.length cap) ak.length (flat ak)) (hb : Below (w.heap.size + 1) (w.alloc (.cells #[] 33)) wr)
  (CC : (∀ a' kZ, (∃ u2 u3 u4 u6 u7 u8 u9 kQ kP kO kM kL kK kJ kI kH kG kE kD kC kB kA kz u32 ky kx ku kt ks kr kq ko km kl ki kh ke kb j8 j7 j6 j5 j4 jZ jY jX jW jV jU jT jS jR jQ jP jO u64 jN jM jL jK jJ jI jH jG jF jE jD jC jB jA jz jy jx jw jv ju jt js jr jq jo jn jm jl jk ji jh jg je jd jc fA fz fy fx fw fu ft fs fr fq fp fo fm fl fk fh fg fe fc fb fa e8 e7 e6 eZ eY eX eW eV eU eT eS eR eQ eP eO eN eM eL eK eJ eI eH eG eF eE eD eC eB eA ez ey ew ev eu et ep eo en ej ei eh ef ee ed ec ea dZ dY dX dW dV dS dR dQ dP dO dN dM dL dK dJ dI dH dG dF dE dD dC dz dy dx dv dt dr dq dp dn dm dk dj di dh de dd dc cZ cY cX cW cV cS cR cQ cP cO cN : Value, xB s w u6 u7 kZ ∧ (∃ p' : Nat, u7 = .int .i64 p' ∧ s.size < p') ∧ a' = ⟨#[.string s, c1, u2, u3, u4, .slice (some ⟨w.heap.size, 0, none⟩) 0 0, u6, u7, u8, u9, kQ, kP, kO, kM, kL, ij, iu, ir, iq, im, gM, kK, kJ, kI, kH, kG, kE, kD, kC, kB, kA, kz, u32, ky, kx, ku, kt, ks, kr, kq, ko, km, kl, ki, kh, ke, kb, j8, j7, j6, j5, j4, jZ, jY, jX, jW, jV, jU, jT, jS, jR, jQ, jP, jO, u64, jN, jM, jL, jK, jJ, jI, jH, jG, jF, jE, jD, jC, jB, jA, jz, jy, jx, jw, jv, ju, jt, js, jr, jq, jo, jn, jm, jl, jk, ji, jh, jg, je, jd, jc, fA, fz, fy, fx, fw, fu, ft, fs, fr, fq, fp, fo, fm, fl, fk, fh, fg, fe, fc, fb, fa, e8, e7, e6, eZ, eY, eX, eW, eV, eU, eT, eS, eR, eQ, eP, eO, eN, eM, eL, eK, eJ, eI, eH, eG, eF, eE, eD, eC, eB, eA, ez, ey, ew, ev, eu, et, ep, eo, en, ej, ei, eh, ef, ee, ed, ec, ea, dZ, dY, dX, dW, dV, dS, dR, dQ, dP, dO, dN, dM, dL, dK, dJ, dI, dH, dG, dF, dE, dD, dC, dz, dy, dx, dv, dt, dr, dq, dp, dn, dm, dk, dj, di, dh, de, dd, dc, cZ, cY, cX, cW, cV, cS, cR, cQ, cP, cO, cN, bZ, bY, bX, bW, bV, bU, bT, bS, bR], []⟩) → Q0 (.exit 0) a' kZ)) :
  Code.wp Tryd.prog lg (Exit.then (fun a' kZ => mR s w c1 ij iu ir iq im gM bZ bY bX bW bV bU bT bS bR a' kZ ∧ iK s a' kZ < iK s ⟨#[.string s, c1, u2, u3, u4, .slice (some ⟨w.heap.size, 0, none⟩) 0 0, .slice (some ⟨g, 0, none⟩) ak.length cap, .int .i64 p, u8, u9, kQ, kP, kO, kM, kL, ij, iu, ir, iq, im, gM, kK, kJ, kI, kH, kG, kE, kD, kC, kB, kA, kz, u32, ky, kx, ku, kt, ks, kr, kq, ko, km, kl, ki, kh, ke, kb, j8, j7, j6, j5, j4, jZ, jY, jX, jW, jV, jU, jT, jS, jR, jQ, jP, jO, u64, jN, jM, jL, jK, jJ, jI, jH, jG, jF, jE, jD, jC, jB, jA, jz, jy, jx, jw, jv, ju, jt, js, jr, jq, jo, jn, jm, jl, jk, ji, jh, jg, je, jd, jc, fA, fz, fy, fx, fw, fu, ft, fs, fr, fq, fp, fo, fm, fl, fk, fh, fg, fe, fc, fb, fa, e8, e7, e6, eZ, eY, eX, eW, eV, eU, eT, eS, eR, eQ, eP, eO, eN, eM, eL, eK, eJ, eI, eH, eG, eF, eE, eD, eC, eB, eA, ez, ey, ew, ev, eu, et, ep, eo, en, ej, ei, eh, ef, ee, ed, ec, ea, dZ, dY, dX, dW, dV, dS, dR, dQ, dP, dO, dN, dM, dL, dK, dJ, dI, dH, dG, dF, dE, dD, dC, dz, dy, dx, dv, dt, dr, dq, dp, dn, dm, dk, dj, di, dh, de, dd, dc, cZ, cY, cX, cW, cV, cS, cR, cQ, cP, cO, cN, bZ, bY, bX, bW, bV, bU, bT, bS, bR], []⟩ wr) Q0) ⟨#[.string s, c1, u2, u3, u4, .slice (some ⟨w.heap.size, 0, none⟩) 0 0, .slice (some ⟨g, 0, none⟩) ak.length cap, .int .i64 p, u8, u9, kQ, kP, kO, kM, kL, ij, iu, ir, iq, im, gM, kK, kJ, kI, kH, kG, kE, kD, kC, kB, kA, kz, u32, ky, kx, ku, kt, ks, kr, kq, ko, km, kl, ki, kh, ke, kb, j8, j7, j6, j5, j4, jZ, jY, jX, jW, jV, jU, jT, jS, jR, jQ, jP, jO, u64, jN, jM, jL, jK, jJ, jI, jH, jG, jF, jE, jD, jC, jB, jA, jz, jy, jx, jw, jv, ju, jt, js, jr, jq, jo, jn, jm, jl, jk, ji, jh, jg, je, jd, jc, fA, fz, fy, fx, fw, fu, ft, fs, fr, fq, fp, fo, fm, fl, fk, fh, fg, fe, fc, fb, fa, e8, e7, e6, eZ, eY, eX, eW, eV, eU, eT, eS, eR, eQ, eP, eO, eN, eM, eL, eK, eJ, eI, eH, eG, eF, eE, eD, eC, eB, eA, ez, ey, ew, ev, eu, et, ep, eo, en, ej, ei, eh, ef, ee, ed, ec, ea, dZ, dY, dX, dW, dV, dS, dR, dQ, dP, dO, dN, dM, dL, dK, dJ, dI, dH, dG, dF, dE, dD, dC, dz, dy, dx, dv, dt, dr, dq, dp, dn, dm, dk, dj, di, dh, de, dd, dc, cZ, cY, cX, cW, cV, cS, cR, cQ, cP, cO, cN, bZ, bY, bX, bW, bV, bU, bT, bS, bR], []⟩ wr := by
 have hL : s.data.toList.length = s.size := rfl
 by_cases hp0 : s.size < p
 ·exact DV s w hs c1 ij iu ir iq im gM bZ bY bX bW bV bU bT bS bR u2 u3 u4 u8 u9 kQ kP kO kM kL kK kJ kI kH kG kE kD kC kB kA kz u32 ky kx ku kt ks kr kq ko km kl ki kh ke kb j8 j7 j6 j5 j4 jZ jY jX jW jV jU jT jS jR jQ jP jO u64 jN jM jL jK jJ jI jH jG jF jE jD jC jB jA jz jy jx jw jv ju jt js jr jq jo jn jm jl jk ji jh jg je jd jc fA fz fy fx fw fu ft fs fr fq fp fo fm fl fk fh fg fe fc fb fa e8 e7 e6 eZ eY eX eW eV eU eT eS eR eQ eP eO eN eM eL eK eJ eI eH eG eF eE eD eC eB eA ez ey ew ev eu et ep eo en ej ei eh ef ee ed ec ea dZ dY dX dW dV dS dR dQ dP dO dN dM dL dK dJ dI dH dG dF dE dD dC dz dy dx dv dt dr dq dp dn dm dk dj di dh de dd dc cZ cY cX cW cV cS cR cQ cP cO cN wr ak p g cap hlen Q0 lE cz bK hb hp0 zF CC
 have yD : p ≤ s.size := by omega
 by_cases hm0 : ak.length = 4001
 ·have h4 : 4000 < ak.length := by omega
  exact DU s w hs c1 ij iu ir iq im gM bZ bY bX bW bV bU bT bS bR u2 u3 u4 u8 u9 kQ kP kO kM kL kK kJ kI kH kG kE kD kC kB kA kz u32 ky kx ku kt ks kr kq ko km kl ki kh ke kb j8 j7 j6 j5 j4 jZ jY jX jW jV jU jT jS jR jQ jP jO u64 jN jM jL jK jJ jI jH jG jF jE jD jC jB jA jz jy jx jw jv ju jt js jr jq jo jn jm jl jk ji jh jg je jd jc fA fz fy fx fw fu ft fs fr fq fp fo fm fl fk fh fg fe fc fb fa e8 e7 e6 eZ eY eX eW eV eU eT eS eR eQ eP eO eN eM eL eK eJ eI eH eG eF eE eD eC eB eA ez ey ew ev eu et ep eo en ej ei eh ef ee ed ec ea dZ dY dX dW dV dS dR dQ dP dO dN dM dL dK dJ dI dH dG dF dE dD dC dz dy dx dv dt dr dq dp dn dm dk dj di dh de dd dc cZ cY cX cW cV cS cR cQ cP cO cN wr ak p g cap hlen Q0 lE cz bK hb yD hm0 ak[4000].place (by rw [bK.cellAt 12002 (by omega)]; exact Ab ak 4000 h4) (uF cz h4)
 have hm : ak.length ≤ 4000 := by omega
 have nl : (p = s.size ∨ ∃ hp : p < s.size, (s[p].toNat : Int) = 10) → Code.wp Tryd.prog lg (Exit.then (fun a' kZ => mR s w c1 ij iu ir iq im gM bZ bY bX bW bV bU bT bS bR a' kZ ∧ iK s a' kZ < iK s ⟨#[.string s, c1, u2, u3, u4, .slice (some ⟨w.heap.size, 0, none⟩) 0 0, .slice (some ⟨g, 0, none⟩) ak.length cap, .int .i64 p, u8, u9, kQ, kP, kO, kM, kL, ij, iu, ir, iq, im, gM, kK, kJ, kI, kH, kG, kE, kD, kC, kB, kA, kz, u32, ky, kx, ku, kt, ks, kr, kq, ko, km, kl, ki, kh, ke, kb, j8, j7, j6, j5, j4, jZ, jY, jX, jW, jV, jU, jT, jS, jR, jQ, jP, jO, u64, jN, jM, jL, jK, jJ, jI, jH, jG, jF, jE, jD, jC, jB, jA, jz, jy, jx, jw, jv, ju, jt, js, jr, jq, jo, jn, jm, jl, jk, ji, jh, jg, je, jd, jc, fA, fz, fy, fx, fw, fu, ft, fs, fr, fq, fp, fo, fm, fl, fk, fh, fg, fe, fc, fb, fa, e8, e7, e6, eZ, eY, eX, eW, eV, eU, eT, eS, eR, eQ, eP, eO, eN, eM, eL, eK, eJ, eI, eH, eG, eF, eE, eD, eC, eB, eA, ez, ey, ew, ev, eu, et, ep, eo, en, ej, ei, eh, ef, ee, ed, ec, ea, dZ, dY, dX, dW, dV, dS, dR, dQ, dP, dO, dN, dM, dL, dK, dJ, dI, dH, dG, dF, dE, dD, dC, dz, dy, dx, dv, dt, dr, dq, dp, dn, dm, dk, dj, di, dh, de, dd, dc, cZ, cY, cX, cW, cV, cS, cR, cQ, cP, cO, cN, bZ, bY, bX, bW, bV, bU, bT, bS, bR], []⟩ wr) Q0) ⟨#[.string s, c1, u2, u3, u4, .slice (some ⟨w.heap.size, 0, none⟩) 0 0, .slice (some ⟨g, 0, none⟩) ak.length cap, .int .i64 p, u8, u9, kQ, kP, kO, kM, kL, ij, iu, ir, iq, im, gM, kK, kJ, kI, kH, kG, kE, kD, kC, kB, kA, kz, u32, ky, kx, ku, kt, ks, kr, kq, ko, km, kl, ki, kh, ke, kb, j8, j7, j6, j5, j4, jZ, jY, jX, jW, jV, jU, jT, jS, jR, jQ, jP, jO, u64, jN, jM, jL, jK, jJ, jI, jH, jG, jF, jE, jD, jC, jB, jA, jz, jy, jx, jw, jv, ju, jt, js, jr, jq, jo, jn, jm, jl, jk, ji, jh, jg, je, jd, jc, fA, fz, fy, fx, fw, fu, ft, fs, fr, fq, fp, fo, fm, fl, fk, fh, fg, fe, fc, fb, fa, e8, e7, e6, eZ, eY, eX, eW, eV, eU, eT, eS, eR, eQ, eP, eO, eN, eM, eL, eK, eJ, eI, eH, eG, eF, eE, eD, eC, eB, eA, ez, ey, ew, ev, eu, et, ep, eo, en, ej, ei, eh, ef, ee, ed, ec, ea, dZ, dY, dX, dW, dV, dS, dR, dQ, dP, dO, dN, dM, dL, dK, dJ, dI, dH, dG, dF, dE, dD, dC, dz, dy, dx, dv, dt, dr, dq, dp, dn, dm, dk, dj, di, dh, de, dd, dc, cZ, cY, cX, cW, cV, cS, cR, cQ, cP, cO, cN, bZ, bY, bX, bW, bV, bU, bT, bS, bR], []⟩ wr := by
  intro hnl
  have hq : ((p : Int) == (s.size : Int)) = true ∨ (((p : Int) == (s.size : Int)) = false ∧ ∃ hp : p < s.size, (s[p].toNat : Int) = 10) := by
   rcases hnl with h | ⟨h, h2⟩
   ·exact .inl (beq_iff_eq.2 (by omega))
   ·exact .inr ⟨bn (by omega), h, h2⟩
  have aF := step_end s p (fS ak) hnl
  cases he : fS ak
  ·rw [he, if_neg (by decide)] at aF
   exact DT s w hs c1 ij iu ir iq im gM bZ bY bX bW bV bU bT bS bR u2 u3 u4 u8 u9 kQ kP kO kM kL kK kJ kI kH kG kE kD kC kB kA kz u32 ky kx ku kt ks kr kq ko km kl ki kh ke kb j8 j7 j6 j5 j4 jZ jY jX jW jV jU jT jS jR jQ jP jO u64 jN jM jL jK jJ jI jH jG jF jE jD jC jB jA jz jy jx jw jv ju jt js jr jq jo jn jm jl jk ji jh jg je jd jc fA fz fy fx fw fu ft fs fr fq fp fo fm fl fk fh fg fe fc fb fa e8 e7 e6 eZ eY eX eW eV eU eT eS eR eQ eP eO eN eM eL eK eJ eI eH eG eF eE eD eC eB eA ez ey ew ev eu et ep eo en ej ei eh ef ee ed ec ea dZ dY dX dW dV dS dR dQ dP dO dN dM dL dK dJ dI dH dG dF dE dD dC dz dy dx dv dt dr dq dp dn dm dk dj di dh de dd dc cZ cY cX cW cV cS cR cQ cP cO cN wr ak p g cap hlen Q0 lE cz bK hb hm yD hq he (.skip cz yD (by rw [he]; exact aF))
  ·rw [he, if_pos rfl] at aF
   exact AP s w hs c1 ij iu ir iq im gM bZ bY bX bW bV bU bT bS bR u2 u3 u4 u8 u9 kQ kP kO kM kL kK kJ kI kH kG kE kD kC kB kA kz u32 ky kx ku kt ks kr kq ko km kl ki kh ke kb j8 j7 j6 j5 j4 jZ jY jX jW jV jU jT jS jR jQ jP jO u64 jN jM jL jK jJ jI jH jG jF jE jD jC jB jA jz jy jx jw jv ju jt js jr jq jo jn jm jl jk ji jh jg je jd jc fA fz fy fx fw fu ft fs fr fq fp fo fm fl fk fh fg fe fc fb fa e8 e7 e6 eZ eY eX eW eV eU eT eS eR eQ eP eO eN eM eL eK eJ eI eH eG eF eE eD eC eB eA ez ey ew ev eu et ep eo en ej ei eh ef ee ed ec ea dZ dY dX dW dV dS dR dQ dP dO dN dM dL dK dJ dI dH dG dF dE dD dC dz dy dx dv dt dr dq dp dn dm dk dj di dh de dd dc cZ cY cX cW cV cS cR cQ cP cO cN wr ak p g cap hlen Q0 lE cz bK hb hm yD hq he (.tok cz yD (by rw [he]; exact aF))
 by_cases hp : p < s.size
 ·obtain ⟨c, hc⟩ : ∃ c : Int, (s[p].toNat : Int) = c := ⟨_, rfl⟩
  by_cases lA : c = 10
  ·exact nl (.inr ⟨hp, by omega⟩)
  cases mG : b9 c
  ·by_cases uW : c = 47 ∧ ∃ h : p + 1 < s.size, (s[p + 1].toNat : Int) = 47
   ·have aF := rs s p (fS ak) hp c hc mG uW.1 uW.2
    obtain ⟨zY, xi, Tg⟩ := uW
    exact xR s w hs c1 ij iu ir iq im gM bZ bY bX bW bV bU bT bS bR u2 u3 u4 u8 u9 kQ kP kO kM kL kK kJ kI kH kG kE kD kC kB kA kz u32 ky kx ku kt ks kr kq ko km kl ki kh ke kb j8 j7 j6 j5 j4 jZ jY jX jW jV jU jT jS jR jQ jP jO u64 jN jM jL jK jJ jI jH jG jF jE jD jC jB jA jz jy jx jw jv ju jt js jr jq jo jn jm jl jk ji jh jg je jd jc fA fz fy fx fw fu ft fs fr fq fp fo fm fl fk fh fg fe fc fb fa e8 e7 e6 eZ eY eX eW eV eU eT eS eR eQ eP eO eN eM eL eK eJ eI eH eG eF eE eD eC eB eA ez ey ew ev eu et ep eo en ej ei eh ef ee ed ec ea dZ dY dX dW dV dS dR dQ dP dO dN dM dL dK dJ dI dH dG dF dE dD dC dz dy dx dv dt dr dq dp dn dm dk dj di dh de dd dc cZ cY cX cW cV cS cR cQ cP cO cN wr ak p g cap hlen Q0 lE cz bK hb hp hm c hc lA mG zY xi Tg (.skip cz yD aF) (zp s p hp c hc zY)
   have aF := yX s p (fS ak) hp c hc lA mG uW
   have hh := D1 s p hp c hc
   have fE : s.data.toList.drop p ≠ [] := by rw [kS s p hp]; simp
   by_cases qp : c = 59
   ·rw [yV _ c hh qp] at aF
    exact DS s w hs c1 ij iu ir iq im gM bZ bY bX bW bV bU bT bS bR u2 u3 u4 u8 u9 kQ kP kO kM kL kK kJ kI kH kG kE kD kC kB kA kz u32 ky kx ku kt ks kr kq ko km kl ki kh ke kb j8 j7 j6 j5 j4 jZ jY jX jW jV jU jT jS jR jQ jP jO u64 jN jM jL jK jJ jI jH jG jF jE jD jC jB jA jz jy jx jw jv ju jt js jr jq jo jn jm jl jk ji jh jg je jd jc fA fz fy fx fw fu ft fs fr fq fp fo fm fl fk fh fg fe fc fb fa e8 e7 e6 eZ eY eX eW eV eU eT eS eR eQ eP eO eN eM eL eK eJ eI eH eG eF eE eD eC eB eA ez ey ew ev eu et ep eo en ej ei eh ef ee ed ec ea dZ dY dX dW dV dS dR dQ dP dO dN dM dL dK dJ dI dH dG dF dE dD dC dz dy dx dv dt dr dq dp dn dm dk dj di dh de dd dc cZ cY cX cW cV cS cR cQ cP cO cN wr ak p g cap hlen Q0 lE cz bK hb hp hm (by omega) (.tok cz yD aF)
   cases hl : aW c
   ·cases hd : aM c
    ·rw [Fk _ c hh qp hl hd] at aF
     by_cases hz : (bL (s.data.toList.drop p)).size = 0
     ·rw [if_pos hz] at aF
      exact AO s w hs c1 ij iu ir iq im gM bZ bY bX bW bV bU bT bS bR u2 u3 u4 u8 u9 kQ kP kO kM kL kK kJ kI kH kG kE kD kC kB kA kz u32 ky kx ku kt ks kr kq ko km kl ki kh ke kb j8 j7 j6 j5 j4 jZ jY jX jW jV jU jT jS jR jQ jP jO u64 jN jM jL jK jJ jI jH jG jF jE jD jC jB jA jz jy jx jw jv ju jt js jr jq jo jn jm jl jk ji jh jg je jd jc fA fz fy fx fw fu ft fs fr fq fp fo fm fl fk fh fg fe fc fb fa e8 e7 e6 eZ eY eX eW eV eU eT eS eR eQ eP eO eN eM eL eK eJ eI eH eG eF eE eD eC eB eA ez ey ew ev eu et ep eo en ej ei eh ef ee ed ec ea dZ dY dX dW dV dS dR dQ dP dO dN dM dL dK dJ dI dH dG dF dE dD dC dz dy dx dv dt dr dq dp dn dm dk dj di dh de dd dc cZ cY cX cW cV cS cR cQ cP cO cN wr ak p g cap hlen Q0 lE cz bK hb hp hm c hc lA mG hl hd qp uW (by rw [ByteArray.toList_eq, List.isEmpty_iff]; exact List.eq_nil_of_length_eq_zero hz) (.bad cz hm yD aF)
     ·rw [if_neg hz] at aF
      have hle := Ch (s.data.toList.drop p)
      rw [pM] at hle
      exact J0 s w hs c1 ij iu ir iq im gM bZ bY bX bW bV bU bT bS bR u2 u3 u4 u8 u9 kQ kP kO kM kL kK kJ kI kH kG kE kD kC kB kA kz u32 ky kx ku kt ks kr kq ko km kl ki kh ke kb j8 j7 j6 j5 j4 jZ jY jX jW jV jU jT jS jR jQ jP jO u64 jN jM jL jK jJ jI jH jG jF jE jD jC jB jA jz jy jx jw jv ju jt js jr jq jo jn jm jl jk ji jh jg je jd jc fA fz fy fx fw fu ft fs fr fq fp fo fm fl fk fh fg fe fc fb fa e8 e7 e6 eZ eY eX eW eV eU eT eS eR eQ eP eO eN eM eL eK eJ eI eH eG eF eE eD eC eB eA ez ey ew ev eu et ep eo en ej ei eh ef ee ed ec ea dZ dY dX dW dV dS dR dQ dP dO dN dM dL dK dJ dI dH dG dF dE dD dC dz dy dx dv dt dr dq dp dn dm dk dj di dh de dd dc cZ cY cX cW cV cS cR cQ cP cO cN wr ak p g cap hlen Q0 lE cz bK hb hp hm c hc lA mG hl hd qp uW (by rw [ByteArray.toList_eq, List.isEmpty_eq_false_iff]; intro e; exact hz (by have := congrArg List.length e; exact this)) (by omega) (by omega) (.tok cz yD aF)
    ·have mB := nc (l := s.data.toList.drop p) (by rw [hh]; unfold aR; rw [hd]; exact Bool.or_true _) fE
     rw [xJ _ c hh qp hl hd] at aF
     cases hn : oy ((s.data.toList.drop p).take (bC (s.data.toList.drop p)))
     ·rw [hn, if_neg (by decide)] at aF
      exact yZ s w hs c1 ij iu ir iq im gM bZ bY bX bW bV bU bT bS bR u2 u3 u4 u8 u9 kQ kP kO kM kL kK kJ kI kH kG kE kD kC kB kA kz u32 ky kx ku kt ks kr kq ko km kl ki kh ke kb j8 j7 j6 j5 j4 jZ jY jX jW jV jU jT jS jR jQ jP jO u64 jN jM jL jK jJ jI jH jG jF jE jD jC jB jA jz jy jx jw jv ju jt js jr jq jo jn jm jl jk ji jh jg je jd jc fA fz fy fx fw fu ft fs fr fq fp fo fm fl fk fh fg fe fc fb fa e8 e7 e6 eZ eY eX eW eV eU eT eS eR eQ eP eO eN eM eL eK eJ eI eH eG eF eE eD eC eB eA ez ey ew ev eu et ep eo en ej ei eh ef ee ed ec ea dZ dY dX dW dV dS dR dQ dP dO dN dM dL dK dJ dI dH dG dF dE dD dC dz dy dx dv dt dr dq dp dn dm dk dj di dh de dd dc cZ cY cX cW cV cS cR cQ cP cO cN wr ak p g cap hlen Q0 lE cz bK hb hp hm c hc lA mG hl hd mB hn (.bad cz hm yD aF)
     ·rw [hn, if_pos rfl] at aF
      exact FS s w hs c1 ij iu ir iq im gM bZ bY bX bW bV bU bT bS bR u2 u3 u4 u8 u9 kQ kP kO kM kL kK kJ kI kH kG kE kD kC kB kA kz u32 ky kx ku kt ks kr kq ko km kl ki kh ke kb j8 j7 j6 j5 j4 jZ jY jX jW jV jU jT jS jR jQ jP jO u64 jN jM jL jK jJ jI jH jG jF jE jD jC jB jA jz jy jx jw jv ju jt js jr jq jo jn jm jl jk ji jh jg je jd jc fA fz fy fx fw fu ft fs fr fq fp fo fm fl fk fh fg fe fc fb fa e8 e7 e6 eZ eY eX eW eV eU eT eS eR eQ eP eO eN eM eL eK eJ eI eH eG eF eE eD eC eB eA ez ey ew ev eu et ep eo en ej ei eh ef ee ed ec ea dZ dY dX dW dV dS dR dQ dP dO dN dM dL dK dJ dI dH dG dF dE dD dC dz dy dx dv dt dr dq dp dn dm dk dj di dh de dd dc cZ cY cX cW cV cS cR cQ cP cO cN wr ak p g cap hlen Q0 lE cz bK hb hp hm c hc lA mG hl hd mB hn (.tok cz yD aF)
   ·have mB := nc (l := s.data.toList.drop p) (by rw [hh]; unfold aR; rw [hl]; rfl) fE
    rw [ui _ c hh qp hl] at aF
    by_cases KL : 40 < bC (s.data.toList.drop p)
    ·rw [if_pos KL] at aF
     exact xQ s w hs c1 ij iu ir iq im gM bZ bY bX bW bV bU bT bS bR u2 u3 u4 u8 u9 kQ kP kO kM kL kK kJ kI kH kG kE kD kC kB kA kz u32 ky kx ku kt ks kr kq ko km kl ki kh ke kb j8 j7 j6 j5 j4 jZ jY jX jW jV jU jT jS jR jQ jP jO u64 jN jM jL jK jJ jI jH jG jF jE jD jC jB jA jz jy jx jw jv ju jt js jr jq jo jn jm jl jk ji jh jg je jd jc fA fz fy fx fw fu ft fs fr fq fp fo fm fl fk fh fg fe fc fb fa e8 e7 e6 eZ eY eX eW eV eU eT eS eR eQ eP eO eN eM eL eK eJ eI eH eG eF eE eD eC eB eA ez ey ew ev eu et ep eo en ej ei eh ef ee ed ec ea dZ dY dX dW dV dS dR dQ dP dO dN dM dL dK dJ dI dH dG dF dE dD dC dz dy dx dv dt dr dq dp dn dm dk dj di dh de dd dc cZ cY cX cW cV cS cR cQ cP cO cN wr ak p g cap hlen Q0 lE cz bK hb hp hm c hc lA mG hl KL (.bad cz hm yD aF)
    ·rw [if_neg KL] at aF
     exact DR s w hs c1 ij iu ir iq im gM bZ bY bX bW bV bU bT bS bR u2 u3 u4 u8 u9 kQ kP kO kM kL kK kJ kI kH kG kE kD kC kB kA kz u32 ky kx ku kt ks kr kq ko km kl ki kh ke kb j8 j7 j6 j5 j4 jZ jY jX jW jV jU jT jS jR jQ jP jO u64 jN jM jL jK jJ jI jH jG jF jE jD jC jB jA jz jy jx jw jv ju jt js jr jq jo jn jm jl jk ji jh jg je jd jc fA fz fy fx fw fu ft fs fr fq fp fo fm fl fk fh fg fe fc fb fa e8 e7 e6 eZ eY eX eW eV eU eT eS eR eQ eP eO eN eM eL eK eJ eI eH eG eF eE eD eC eB eA ez ey ew ev eu et ep eo en ej ei eh ef ee ed ec ea dZ dY dX dW dV dS dR dQ dP dO dN dM dL dK dJ dI dH dG dF dE dD dC dz dy dx dv dt dr dq dp dn dm dk dj di dh de dd dc cZ cY cX cW cV cS cR cQ cP cO cN wr ak p g cap hlen Q0 lE cz bK hb hp hm c hc lA mG hl KL mB _ rfl (.tok cz yD aF)
  ·exact AQ s w hs c1 ij iu ir iq im gM bZ bY bX bW bV bU bT bS bR u2 u3 u4 u8 u9 kQ kP kO kM kL kK kJ kI kH kG kE kD kC kB kA kz u32 ky kx ku kt ks kr kq ko km kl ki kh ke kb j8 j7 j6 j5 j4 jZ jY jX jW jV jU jT jS jR jQ jP jO u64 jN jM jL jK jJ jI jH jG jF jE jD jC jB jA jz jy jx jw jv ju jt js jr jq jo jn jm jl jk ji jh jg je jd jc fA fz fy fx fw fu ft fs fr fq fp fo fm fl fk fh fg fe fc fb fa e8 e7 e6 eZ eY eX eW eV eU eT eS eR eQ eP eO eN eM eL eK eJ eI eH eG eF eE eD eC eB eA ez ey ew ev eu et ep eo en ej ei eh ef ee ed ec ea dZ dY dX dW dV dS dR dQ dP dO dN dM dL dK dJ dI dH dG dF dE dD dC dz dy dx dv dt dr dq dp dn dm dk dj di dh de dd dc cZ cY cX cW cV cS cR cQ cP cO cN wr ak p g cap hlen Q0 lE cz bK hb hp hm c hc (bn lA) mG (.skip cz yD (um s p (fS ak) hp c hc lA mG))
 ·exact nl (.inl (by omega))
theorem JZ (s : ByteArray) (w : World) (hs : s.size ≤ 65536) (c1 ij iu ir iq im gM bZ bY bX bW bV bU bT bS bR u2 u3 u4 u6 u7 u8 u9 kQ kP kO kM kL kK kJ kI kH kG kE kD kC kB kA kz u32 ky kx ku kt ks kr kq ko km kl ki kh ke kb j8 j7 j6 j5 j4 jZ jY jX jW jV jU jT jS jR jQ jP jO u64 jN jM jL jK jJ jI jH jG jF jE jD jC jB jA jz jy jx jw jv ju jt js jr jq jo jn jm jl jk ji jh jg je jd jc fA fz fy fx fw fu ft fs fr fq fp fo fm fl fk fh fg fe fc fb fa e8 e7 e6 eZ eY eX eW eV eU eT eS eR eQ eP eO eN eM eL eK eJ eI eH eG eF eE eD eC eB eA ez ey ew ev eu et ep eo en ej ei eh ef ee ed ec ea dZ dY dX dW dV dS dR dQ dP dO dN dM dL dK dJ dI dH dG dF dE dD dC dz dy dx dv dt dr dq dp dn dm dk dj di dh de dd dc cZ cY cX cW cV cS cR cQ cP cO cN : Value) (wr : World) (hI : xB s w u6 u7 wr) (Q0 : Exit → Act → World → Prop) (lE : Hid (nG s w Q0))
  (CC : (∀ a' kZ, (∃ u2 u3 u4 u6 u7 u8 u9 kQ kP kO kM kL kK kJ kI kH kG kE kD kC kB kA kz u32 ky kx ku kt ks kr kq ko km kl ki kh ke kb j8 j7 j6 j5 j4 jZ jY jX jW jV jU jT jS jR jQ jP jO u64 jN jM jL jK jJ jI jH jG jF jE jD jC jB jA jz jy jx jw jv ju jt js jr jq jo jn jm jl jk ji jh jg je jd jc fA fz fy fx fw fu ft fs fr fq fp fo fm fl fk fh fg fe fc fb fa e8 e7 e6 eZ eY eX eW eV eU eT eS eR eQ eP eO eN eM eL eK eJ eI eH eG eF eE eD eC eB eA ez ey ew ev eu et ep eo en ej ei eh ef ee ed ec ea dZ dY dX dW dV dS dR dQ dP dO dN dM dL dK dJ dI dH dG dF dE dD dC dz dy dx dv dt dr dq dp dn dm dk dj di dh de dd dc cZ cY cX cW cV cS cR cQ cP cO cN : Value, xB s w u6 u7 kZ ∧ (∃ p' : Nat, u7 = .int .i64 p' ∧ s.size < p') ∧ a' = ⟨#[.string s, c1, u2, u3, u4, .slice (some ⟨w.heap.size, 0, none⟩) 0 0, u6, u7, u8, u9, kQ, kP, kO, kM, kL, ij, iu, ir, iq, im, gM, kK, kJ, kI, kH, kG, kE, kD, kC, kB, kA, kz, u32, ky, kx, ku, kt, ks, kr, kq, ko, km, kl, ki, kh, ke, kb, j8, j7, j6, j5, j4, jZ, jY, jX, jW, jV, jU, jT, jS, jR, jQ, jP, jO, u64, jN, jM, jL, jK, jJ, jI, jH, jG, jF, jE, jD, jC, jB, jA, jz, jy, jx, jw, jv, ju, jt, js, jr, jq, jo, jn, jm, jl, jk, ji, jh, jg, je, jd, jc, fA, fz, fy, fx, fw, fu, ft, fs, fr, fq, fp, fo, fm, fl, fk, fh, fg, fe, fc, fb, fa, e8, e7, e6, eZ, eY, eX, eW, eV, eU, eT, eS, eR, eQ, eP, eO, eN, eM, eL, eK, eJ, eI, eH, eG, eF, eE, eD, eC, eB, eA, ez, ey, ew, ev, eu, et, ep, eo, en, ej, ei, eh, ef, ee, ed, ec, ea, dZ, dY, dX, dW, dV, dS, dR, dQ, dP, dO, dN, dM, dL, dK, dJ, dI, dH, dG, dF, dE, dD, dC, dz, dy, dx, dv, dt, dr, dq, dp, dn, dm, dk, dj, di, dh, de, dd, dc, cZ, cY, cX, cW, cV, cS, cR, cQ, cP, cO, cN, bZ, bY, bX, bW, bV, bU, bT, bS, bR], []⟩) → Q0 (.exit 0) a' kZ)) : Code.wp Tryd.prog (Code.loop lg) Q0 ⟨#[.string s, c1, u2, u3, u4, .slice (some ⟨w.heap.size, 0, none⟩) 0 0, u6, u7, u8, u9, kQ, kP, kO, kM, kL, ij, iu, ir, iq, im, gM, kK, kJ, kI, kH, kG, kE, kD, kC, kB, kA, kz, u32, ky, kx, ku, kt, ks, kr, kq, ko, km, kl, ki, kh, ke, kb, j8, j7, j6, j5, j4, jZ, jY, jX, jW, jV, jU, jT, jS, jR, jQ, jP, jO, u64, jN, jM, jL, jK, jJ, jI, jH, jG, jF, jE, jD, jC, jB, jA, jz, jy, jx, jw, jv, ju, jt, js, jr, jq, jo, jn, jm, jl, jk, ji, jh, jg, je, jd, jc, fA, fz, fy, fx, fw, fu, ft, fs, fr, fq, fp, fo, fm, fl, fk, fh, fg, fe, fc, fb, fa, e8, e7, e6, eZ, eY, eX, eW, eV, eU, eT, eS, eR, eQ, eP, eO, eN, eM, eL, eK, eJ, eI, eH, eG, eF, eE, eD, eC, eB, eA, ez, ey, ew, ev, eu, et, ep, eo, en, ej, ei, eh, ef, ee, ed, ec, ea, dZ, dY, dX, dW, dV, dS, dR, dQ, dP, dO, dN, dM, dL, dK, dJ, dI, dH, dG, dF, dE, dD, dC, dz, dy, dx, dv, dt, dr, dq, dp, dn, dm, dk, dj, di, dh, de, dd, dc, cZ, cY, cX, cW, cV, cS, cR, cQ, cP, cO, cN, bZ, bY, bX, bW, bV, bU, bT, bS, bR], []⟩ wr := by
 refine wp_loop (mR s w c1 ij iu ir iq im gM bZ bY bX bW bV bU bT bS bR) (iK s) ?_ (fun a kZ hI => ?_)
 ·unfold mR
  exact ⟨u2, u3, u4, u6, u7, u8, u9, kQ, kP, kO, kM, kL, kK, kJ, kI, kH, kG, kE, kD, kC, kB, kA, kz, u32, ky, kx, ku, kt, ks, kr, kq, ko, km, kl, ki, kh, ke, kb, j8, j7, j6, j5, j4, jZ, jY, jX, jW, jV, jU, jT, jS, jR, jQ, jP, jO, u64, jN, jM, jL, jK, jJ, jI, jH, jG, jF, jE, jD, jC, jB, jA, jz, jy, jx, jw, jv, ju, jt, js, jr, jq, jo, jn, jm, jl, jk, ji, jh, jg, je, jd, jc, fA, fz, fy, fx, fw, fu, ft, fs, fr, fq, fp, fo, fm, fl, fk, fh, fg, fe, fc, fb, fa, e8, e7, e6, eZ, eY, eX, eW, eV, eU, eT, eS, eR, eQ, eP, eO, eN, eM, eL, eK, eJ, eI, eH, eG, eF, eE, eD, eC, eB, eA, ez, ey, ew, ev, eu, et, ep, eo, en, ej, ei, eh, ef, ee, ed, ec, ea, dZ, dY, dX, dW, dV, dS, dR, dQ, dP, dO, dN, dM, dL, dK, dJ, dI, dH, dG, dF, dE, dD, dC, dz, dy, dx, dv, dt, dr, dq, dp, dn, dm, dk, dj, di, dh, de, dd, dc, cZ, cY, cX, cW, cV, cS, cR, cQ, cP, cO, cN, hI, rfl⟩
 ·unfold mR at hI
  obtain ⟨u2, hI⟩ := hI
  obtain ⟨u3, hI⟩ := hI
  obtain ⟨u4, hI⟩ := hI
  obtain ⟨u6, hI⟩ := hI
  obtain ⟨u7, hI⟩ := hI
  obtain ⟨u8, hI⟩ := hI
  obtain ⟨u9, hI⟩ := hI
  have k_a12_0 := kk
  exact Uo
theorem y4 (s : ByteArray) (w : World) (hs : s.size ≤ 65536) :
  Calls Tryd.prog 7 #[.string s] w fun e w' => ∃ o v, cC s.data.toList o ∧ e = .returned (.tuple #[v, .int .i64 o.code, .int .i64 o.place]) ∧ w'.ownsRow w.heap.size 33 3 v o.list.length (flat o.list) ∧ Below w.heap.size w w' := by
 go_enter Tryd.func7, Tryd.ntmps7
 go_wp2_with fail
 refine JZ s w hs _ _ _ _ _ _ _ _ _ _ _ _ _ _ _ _ _ _ _ _ _ _ _ _ _ _ _ _ _ _ _ _ _ _ _ _ _ _ _ _ _ _ _ _ _ _ _ _ _ _ _ _ _ _ _ _ _ _ _ _ _ _ _ _ _ _ _ _ _ _ _ _ _ _ _ _ _ _ _ _ _ _ _ _ _ _ _ _ _ _ _ _ _ _ _ _ _ _ _ _ _ _ _ _ _ _ _ _ _ _ _ _ _ _ _ _ _ _ _ _ _ _ _ _ _ _ _ _ _ _ _ _ _ _ _ _ _ _ _ _ _ _ _ _ _ _ _ _ _ _ _ _ _ _ _ _ _ _ _ _ _ _ _ _ _ _ _ _ _ _ _ _ _ _ _ _ _ _ _ _ _ _ _ _ _ _ _ _ _ _ _ _ _ _ _ _ _ _ _ _ _ _ _ _ _ _ _ _ _ _ _ _ _ _ _ _ _ _ _ _ _ _ _ _ _ ?start _ ?ret ?exit
 case start =>
  refine ⟨[], 0, w.heap.size + 1, 0, .start, by simp, by omega, rfl, rfl, ?_, ?_⟩
  ·refine ⟨rfl, .inr ⟨w.heap.size + 1, 0, #[], rfl, Nat.le_refl _, ?_, Nat.le_refl _, by unfold maxLen; omega, rfl, rfl⟩⟩
   have := (MapKept.heap_alloc (w.alloc (.cells #[] 33)) (.cells #[] 33)).1
   rwa [World.size_alloc] at this
  ·exact (Below.refl _ _).alloc (by simp) _
 case ret =>
  intro a' kZ v o zV h2 h3 h4 hd bK hb
  simp only [Exit.inBlock, Exit.then]
  show bodyPost Tryd.prog Tryd.f7 _ Exit.ret a' kZ
  refine bodyPost_ret (v := .tuple #[v, .int .i64 o.code, .int .i64 o.place]) ?_ hd ⟨o, v, zV, rfl, bK, hb⟩
  rw [Array.getD_eq_getD_getElem?] at h2 h3 h4
  simp [results, Tryd.results7, go_sem, h2, h3, h4]
 case exit =>
  intro a' kZ hI
  obtain ⟨u2, hI⟩ := hI
  obtain ⟨u3, hI⟩ := hI
  obtain ⟨u4, hI⟩ := hI
  obtain ⟨u6, hI⟩ := hI
  obtain ⟨u7, hI⟩ := hI
  obtain ⟨u8, hI⟩ := hI
  obtain ⟨u9, hI⟩ := hI
  have k_a12_1 := kk
  exact Uo
theorem sA (s : ByteArray) (w : World) (hs : 65536 < s.size) (hm : s.size ≤ maxLen) :
  Calls Tryd.prog 7 #[.string s] w fun e w' => e = .returned (.tuple #[.slice (some ⟨w.heap.size, 0, none⟩) 0 0, .int .i64 2, .int .i64 0]) ∧ Below w.heap.size w w' := by
 unfold maxLen at hm
 go_enter Tryd.func7, Tryd.ntmps7
 go_wp2
 go_ret3
 exact ⟨rfl, bA⟩
theorem nU {w : World} {B g cap : Nat} {ts : List Tok} (h : w.ownsRow B 33 3 (.slice (some ⟨g, 0, none⟩) ts.length cap) ts.length (flat ts)) (i : Nat) (hi : i < ts.length) :
  w.cell? ⟨g, i * 3, none⟩ = some (.int .i64 ts[i].kind) ∧ w.cell? ⟨g, i * 3 + 1, none⟩ = some (.string ts[i].text) ∧ w.cell? ⟨g, i * 3 + 2, none⟩ = some (.int .i64 ts[i].place) := by
 have get : ∀ (ts : List Tok) (i : Nat) (hi : i < ts.length), (flat ts)[i * 3]? = some (.int .i64 ts[i].kind) ∧ (flat ts)[i * 3 + 1]? = some (.string ts[i].text) ∧ (flat ts)[i * 3 + 2]? = some (.int .i64 ts[i].place) := by
  intro ts
  induction ts with
  |nil => intro i hi; simp at hi
  |cons t ts ih =>
   intro i hi
   rw [flat, List.flatMap_cons, ← flat]
   cases i with
   |zero => exact ⟨rfl, rfl, rfl⟩
   |succ i =>
    have := ih i (by simpa using hi)
    have e1 : (i + 1) * 3 = i * 3 + 3 := by omega
    have e2 : (i + 1) * 3 + 1 = (i * 3 + 1) + 3 := by omega
    have e3 : (i + 1) * 3 + 2 = (i * 3 + 2) + 3 := by omega
    refine ⟨?_, ?_, ?_⟩
    ·rw [e1]; simpa using this.1
    ·rw [e2]; simpa using this.2.1
    ·rw [e3]; simpa using this.2.2
 have hl := Aa ts
 obtain ⟨a, b, c⟩ := get ts i hi
 exact ⟨by rw [h.cellAt _ (by omega)]; exact a, by rw [h.cellAt _ (by omega)]; exact b, by rw [h.cellAt _ (by omega)]; exact c⟩
theorem rv {w : World} {B n c : Nat} {a : Option Addr} {xs : List Value} {e : TypeId} {size : Nat} (h : w.ownsRow B e size (.slice a n c) n xs) (hn : n ≠ 0) : ∃ g, a = some ⟨g, 0, none⟩ := by
 rcases h.2 with ⟨_, e⟩ | ⟨g, cap, cur, e, _⟩
 ·exact absurd e hn
 ·injection e with e _ _; exact ⟨g, e⟩
end Go.Proofs.YtkfbbdhidecefaaDoor
