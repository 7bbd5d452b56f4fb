import Derived.Test.YtkfbbdhidecefaaDoorUTH
import Derived.Test.YtkfbbdhidecefaaDoorUTG
import Derived.Test.YtkfbbdhidecefaaDoorUDK
set_option linter.unusedVariables false
set_option maxHeartbeats 16000000
set_option maxRecDepth 100000
namespace Go.Proofs.YtkfbbdhidecefaaDoor
open Go.RowKit
variable {G : Prop}
theorem bk0 (h : G := by
 have hts : (cr (lJ (ts.take k))).size ≤ 60002 := by show (lJ (ts.take k)).toArray.size ≤ _; simp; omega
 generalize cr (lJ (ts.take k)) = sx at *
 clear yg IV ht h5
 go_wp2_with fail
 go_region
 all_goals go_wp2
 all_goals exact ⟨⟨k + 1, by omega, by rw [← ED.out], by go_num, by first | exact Wi.out | exact kU⟩, by simp [intOf]; omega⟩) : G := h
theorem bk1 (h : G := by
 generalize ts[k].text = tt at *
 go_wp2_with fail
 go_quiet (fail)
 all_goals go_wp2
 all_goals exact ⟨⟨k + 1, by omega, by go_num, by first | exact Wi.out | exact qo | exact qo.trans ((below_drewN wr nq).mono qo.size)⟩, by simp [intOf]; omega⟩) : G := h
theorem JL (ts : List Tok) (k : Nat) (hk : k < ts.length) : lJ (ts.take (k + 1)) = lJ (ts.take k) ++ xF ts[k].kind ts[k].text := by
 rw [List.take_succ_eq_append_getElem hk, nI]; simp [lJ]
theorem Fb (ts : List Tok) (k : Nat) : (lJ (ts.take k)).length ≤ (lJ ts).length := by
 have h := congrArg List.length (nI (ts.take k) (ts.drop k))
 rw [List.take_append_drop, List.length_append] at h
 omega
theorem Ey {T : Nd} (h : gg T = true) {o : Outcome} (ho : cC (ls T) o) : (lJ o.list).length ≤ 60002 := by
 cases ho with
 |done hr _ hp =>
  have := KS T h
  rcases zg hr with ⟨h1, _⟩ | ⟨_, h2⟩
  ·omega
  ·exact Nat.le_trans h2 (by omega)
 |bad _ _ _ _ => simp [lJ]
 |many _ _ _ _ => simp [lJ]
theorem Lq {s : List UInt8} {o : Outcome} (h : cC s o) : o.list.length ≤ 4000 := by
 cases h with
 |done _ h _ => exact h
 |bad _ _ _ _ => simp
 |many _ _ _ _ => simp
theorem Ir {s : List UInt8} {ts : List Tok} {cd : Int} {pl : Nat} (h : cC s ⟨ts, cd, pl⟩) : cd ≠ 0 ∨ ∃ tB, cC (lJ ts) ⟨tB, 0, 0⟩ ∧ Like tB ts := by
 generalize ho : (⟨ts, cd, pl⟩ : Outcome) = o at h
 cases h with
 |done hr hn hp => injection ho with e1 e2 e3; subst e1 e2 e3; exact .inr (EB hr hn hp)
 |bad _ _ _ _ => injection ho with e1 e2 e3; subst e2; exact .inl (by decide)
 |many _ _ _ _ => injection ho with e1 e2 e3; subst e2; exact .inl (by decide)
theorem Gy (PR : PRC) (ca : Option Addr) (cn cc : Nat) (w : World) (hn : cn ≤ 9223372036854775807) (iT : Bytes w.heap.size w ca cn) (h2 : 1 < w.heap.size) (hw : cg w 1 aS) (hg : cg w 0 aH) :
  Calls Tryd.prog 3 #[.slice ca cn cc] w fun e w' => e = .returned (.bool true) ∧ Below w.heap.size w w' := by
 by_cases hc : cn ≤ 1048576
 ·have PT := aa (zi PR ca cn cc w hc iT)
  have HW := aa hw
  have HG := aa hg
  have hci : ¬ (1048576 : Int) < (cn : Int) := by omega
  clear iT hw hg PR
  go_enter Tryd.func3, Tryd.ntmps3
  go_wp2_with fail
  refine PT.out.mono ?_
  rintro e w1 ⟨T, a, c, rfl, hp⟩
  have hZ := hp.below.size
  have ny : T.cost ≤ 1048576 := Nat.le_trans hp.cost (by omega)
  obtain ⟨zx, _, _⟩ := Ev hp.code
  have hlen := Ht T zx ny
  have EH := aa hp.below
  have SP := aa (AR T w1 (.slice a T.len c) w1.heap.size hp.fine lr (cD hp.row (Nat.zero_le _) lr) (fun _ => hlen))
  have e1 : xW T = ls T := by unfold xW; rw [if_pos zx]
  have e2 : CY T = 0 := by unfold CY; rw [if_pos zx]
  rw [e1, e2] at SP
  have AS := aa (fun o (ho : cC (ls T) o) => Ey zx ho)
  have bP : (cr (ls T)).size = (ls T).length := by simp [cr, ByteArray.size]
  have hdt : (cr (ls T)).data.toList = ls T := by simp [cr]
  rw [← hdt] at AS
  rw [← bP] at hlen
  clear hp PT ny zx e1 e2 bP hdt
  generalize cr (ls T) = tx at *
  have Sg : tx.size ≤ maxLen := by unfold maxLen; omega
  go_wp2_with fail
  refine SP.out.mono ?_
  rintro e w2 ⟨rfl, hb2⟩
  have hQ := hb2.size
  have B2 := aa (EH.out.trans (hb2.mono hZ))
  clear hb2 SP EH
  have IT := aa (fun (s : ByteArray) (W : World) (hb : Below w.heap.size w W) (hs : s.size ≤ 65536) => zw s W hs (by have := hb.size; omega) (gz HW.out hb (by omega)) (gz HG.out hb (by omega)))
  by_cases Qh : 65536 < tx.size
  ·have IL := aa (fun W => Ed tx W Qh Sg)
   have SL := aa (fun W => sA tx W Qh Sg)
   clear Qh Sg hlen AS
   go_wp2_with fail
   refine (IL.out _).mono ?_
   rintro e w3 ⟨rfl, hb3⟩
   have B3 := aa (B2.out.trans (hb3.mono B2.out.size))
   clear hb3
   go_wp2_with fail
   refine (SL.out _).mono ?_
   rintro e w4 ⟨rfl, zT⟩
   have B4 := aa (B3.out.trans (zT.mono B3.out.size))
   clear zT IL SL
   go_wp2_with fail
   go_loop [11, 12] (fun x i => x = .string ⟨#[]⟩ ∧ i = .int .i64 0) (fun _ _ => 0)
   case atStart => exact ⟨rfl, rfl⟩
   case round =>
    obtain ⟨rfl, rfl⟩ := hrel
    go_wp2_with fail
    refine (IT.out ⟨#[]⟩ _ B4.out (by decide)).mono ?_
    rintro e w5 ⟨o, v, zV, rfl, bK, CE⟩
    obtain ⟨va, vc, rfl⟩ := me bK
    have B5 := aa (B4.out.trans (CE.mono B4.out.size))
    clear zV bK CE
    go_wp2
    go_ret
    exact ⟨rfl, B5.out⟩
  ·have Ti : tx.size ≤ 65536 := by omega
   have ST := aa (fun W => y4 tx W Ti)
   clear Qh Sg hlen
   go_wp2_with fail
   refine (IT.out tx _ B2.out Ti).mono ?_
   rintro e w3 ⟨⟨ts, cd, pl⟩, v3, zV, rfl, rI, hb3⟩
   obtain ⟨va, vc, rfl⟩ := me rI
   have N5 := hb3.size
   have B3 := aa (B2.out.trans (hb3.mono B2.out.size))
   have HA := aa zV
   have O3 := aa rI
   have ig : ts.length ≤ 4000 := Lq zV
   have hshort : (lJ ts).length ≤ 60002 := AS.out _ zV
   clear zV rI hb3 AS
   dsimp only
   go_wp2_with fail
   refine (ST.out _).mono ?_
   rintro e w4 ⟨o4, v4, MJ, rfl, GY, zT⟩
   obtain rfl := tr HA.out MJ
   obtain ⟨ua, uc, rfl⟩ := me GY
   have B4 := aa (B3.out.trans (zT.mono B3.out.size))
   have O4 := aa (fZ O3.out zT)
   have U4 := aa GY
   clear MJ GY zT ST O3
   have HZ := aa (Ir HA.out)
   clear HA
   have hcd : (cd != cd) = false := by simp
   have zF : (((pl : Nat) : Int) != ((pl : Nat) : Int)) = false := by simp
   have hll : ((ts.length : Int) != (ts.length : Int)) = false := by simp
   dsimp only at *
   go_wp2_with fail
   go_loopw [11, 12] (fun x i wr => ∃ k : Nat, k ≤ ts.length ∧ x = .string (cr (lJ (ts.take k))) ∧ i = .int .i64 k ∧ Below w4.heap.size w4 wr) (fun _ i _ => ts.length - (intOf i).toNat)
   case atStart => exact ⟨0, by omega, rfl, rfl, Below.refl _ _⟩
   case round =>
    obtain ⟨k, hk, rfl, rfl, kU⟩ := hrel
    by_cases bm : k < ts.length
    ·obtain ⟨va0, rfl⟩ : ∃ g, va = some ⟨g, 0, none⟩ := rv O4.out (by omega)
     obtain ⟨ua0, rfl⟩ : ∃ g, ua = some ⟨g, 0, none⟩ := rv U4.out (by omega)
     obtain ⟨a0, a1, a2⟩ := nU (fZ O4.out kU) k bm
     obtain ⟨b0, b1, b2⟩ := nU (fZ U4.out kU) k bm
     have hki : (k : Int) < (ts.length : Int) := by omega
     have yg := JL ts k bm
     have IV := Fb ts (k + 1)
     rw [yg, List.length_append] at IV
     have Wi := aa kU.drew
     by_cases h5 : ts[k].kind = 5
     ·have ht : xF ts[k].kind ts[k].text = [59, 32] := by unfold xF; rw [if_pos h5]
      rw [ht] at yg IV
      rw [h5] at a0 b0
      generalize ts[k].text = tt at *
      generalize (ts[k].place : Int) = tp at *
      have ED : Hid (cr (lJ (ts.take k)) ++ ⟨#[59, 32]⟩ = cr (lJ (ts.take (k + 1)))) := by unfold Hid; rw [yg, ← mx]; rfl
      exact bk0
     ·have ht : xF ts[k].kind ts[k].text = ts[k].text.data.toList ++ [32] := by unfold xF; rw [if_neg h5]
      rw [ht, List.length_append] at IV
      rw [ht] at yg
      have hk5 : (ts[k].kind == 5) = false := by simpa using h5
      have hsz5 : ts[k].text.size ≤ 60002 := by have : ts[k].text.data.toList.length = ts[k].text.size := rfl; omega
      have ED : Hid (cr (lJ (ts.take k)) ++ (ts[k].text ++ ⟨#[32]⟩) = cr (lJ (ts.take (k + 1)))) := by
       unfold Hid
       rw [yg, ← mx, ← mx]
       congr 1
      generalize ts[k].kind = tk at *
      generalize ts[k].text = tt at *
      generalize (ts[k].place : Int) = tp at *
      exact bk0
    ·have hke : k = ts.length := by omega
     subst hke
     rw [List.take_length]
     have B5 := aa (B4.out.trans (kU.mono B4.out.size))
     have O5 := aa (fZ O4.out kU)
     have Sb : (cr (lJ ts)).size ≤ 65536 := by show (lJ ts).toArray.size ≤ _; simp; omega
     have hod : (cr (lJ ts)).data.toList = lJ ts := by simp [cr]
     have ITO := aa (IT.out (cr (lJ ts)) wr B5.out Sb)
     rw [hod] at ITO
     generalize cr (lJ ts) = sx at *
     clear kU O4 U4 B4 Sb hod
     go_wp2_with fail
     refine ITO.out.mono ?_
     rintro e w6 ⟨⟨us, ce, pe⟩, v6, MI, rfl, GX, yJ⟩
     obtain ⟨ba, bc, rfl⟩ := me GX
     have B6 := aa (B5.out.trans (yJ.mono B5.out.size))
     have O6 := aa (fZ O5.out yJ)
     have V6 := aa GX
     have HA6 := aa MI
     clear MI GX yJ ITO O5 B5 IT
     dsimp only
     by_cases h0 : cd = 0
     ·rcases HZ.out with hz | ⟨tB, S8, He⟩
      ·exact absurd h0 hz
      subst h0
      have he := tr HA6.out S8
      injection he with e1 e2 e3
      subst e1 e2 e3
      have hll2 := He.len
      have hle : ((us.length : Int) != (ts.length : Int)) = false := by simp [hll2]
      have HL := aa He
      clear He S8 HZ HA6
      dsimp only at *
      go_wp2_with fail
      go_loopw [16] (fun i wr2 => ∃ k : Nat, k ≤ us.length ∧ i = .int .i64 k ∧ Below w6.heap.size w6 wr2) (fun i _ => us.length - (intOf i).toNat)
      case atStart => exact ⟨0, by omega, rfl, Below.refl _ _⟩
      case round =>
       obtain ⟨k, oT, rfl, qo⟩ := hrel
       by_cases pg : k < us.length
       ·obtain ⟨va0, rfl⟩ : ∃ g, va = some ⟨g, 0, none⟩ := rv O6.out (by omega)
        obtain ⟨ba0, rfl⟩ : ∃ g, ba = some ⟨g, 0, none⟩ := rv V6.out (by omega)
        obtain ⟨a0, a1, a2⟩ := nU (fZ O6.out qo) k (by omega)
        obtain ⟨b0, b1, b2⟩ := nU (fZ V6.out qo) k pg
        obtain ⟨g1, g2⟩ := HL.out.at k pg (by omega)
        have hki : (k : Int) < (us.length : Int) := by omega
        have hki2 : (k : Int) < (ts.length : Int) := by omega
        rw [g1] at b0
        have Mu : (ts[k].kind != ts[k].kind) = false := by simp
        have Wi := aa qo.drew
        by_cases h5 : ts[k].kind = 5
        ·rw [h5] at a0 b0 Mu
         clear g1 g2 h5
         generalize us[k].text = ut at *
         exact bk1
        ·rw [g2 h5] at b1
         have hk5 : (ts[k].kind != 5) = true := by simpa using h5
         have htt : (ts[k].text.toList != ts[k].text.toList) = false := by simp
         clear g1 g2 h5
         generalize ts[k].kind = tk at *
         exact bk1
       ·go_wp2
        go_ret
        exact ⟨rfl, B6.out.trans (qo.mono B6.out.size)⟩
     ·have iW : (cd != 0) = true := by simpa using h0
      clear HZ h0
      go_wp2
      go_ret
      exact ⟨rfl, B6.out⟩
 ·have hci : (1048576 : Int) < (cn : Int) := by omega
  clear iT hw hg PR
  go_enter Tryd.func3, Tryd.ntmps3
  go_wp2
  go_ret
  exact ⟨rfl, Below.refl _ _⟩
end Go.Proofs.YtkfbbdhidecefaaDoor
