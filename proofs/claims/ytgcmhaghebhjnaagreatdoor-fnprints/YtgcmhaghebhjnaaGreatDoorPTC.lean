import Derived.Test.YtgcmhaghebhjnaaGreatDoorPTA
import Derived.StillTailTactics
import Derived.Deep.RegionHeld
import Derived.Test.YtgcmhaghebhjnaaGreatDoorPKbA
set_option linter.unusedVariables false
set_option maxHeartbeats 16000000
set_option maxRecDepth 100000
namespace Go.Proofs.YtgcmhaghebhjnaaGreatDoor
open Go.RowKit Tryz List
variable {T :Nd} {Y:List UInt8} {ai:Option Nat} {e st:Nat->Bool} {i ob:Nat} {s:ByteArray} {w w0:World}
variable {G :Prop}
theorem afM (h:G:=by
 obtain⟨uk,Tp,NR⟩:=HKK.o k O;have hq:=HPK.o k xR;have NS:=hq.1;have hq3:=hq.2;have hcp:=HPL.o k xR;have HXP:Hid (ay (eI K) (k+1)=ay (eI K) k++((if k=0 then[]else[44,32])++((K.f k).z.data.toList++32::cW (K.f k).E))):=rfl;have zi:(ay (eI K) k).length+((if k=0 then[]else[44,32]:List UInt8).length+((K.f k).z.size+(1+(cW (K.f k).E).length)))<=(ay (eI K) m).length:=by
  have e:(K.f k).z.data.toList.length=(K.f k).z.size:=rfl;have e2:(eI K k).length=(if k=0 then[]else[44,32]:List UInt8).length+((K.f k).z.data.toList.length+((cW (K.f k).E).length+1)):=by unfold eI;simp only[avu,length_cons]
  omega
 have hnk:(K.f k).z.size<=1099511627776:=by have:=gi.o;omega
 have HTY:=Z fun W:World=>Av (K.f k).E NS hq3 W;have htz:(cP<|cW (K.f k).E).size=(cW (K.f k).E).length:=rfl;have oC:(cP<|cW (K.f k).E).size<=1099511627776:=by have:=gi.o;omega
 have HTD:Hid ((cP<|cW (K.f k).E).data.toList=cW (K.f k).E):=rfl;have Yw:=Z fun Y W(h:Pst w1.heap.size own (wf.alloc<|.cells #[.int .i64 K.y,.int .i64 K.E,.string K.z,.slice (some ⟨g3,jW,none⟩) (m+1) me] 25) Y W)=>Tp W h.below;rw[<-htz]at zi;clear Tp NR hq hcp NS hq3 htz;generalize K.f k=PK at*
 rw[<-HTD.o]at HXP;generalize cP (cW PK.E)=ty at*
 obtain⟨p0,p1,p2,p3⟩:=Yw.o _ _ HP.o;by_cases sN:0<k
 ·have VR:k≠0:=O;go_wp2_with(go_at_call 36;refine(HP.o.add _ (by have:=gi.o;simp[VR]at zi;simp at this⊢;omega)).mono ?_;rintro e w3 ⟨rfl,y⟩;obtain⟨f0,f1,f2,f3⟩:=rb.o _ _ y;obtain⟨p0,p1,p2,p3⟩:=Yw.o _ _ y;have HP:=Z y;clear y)
  go_region_held (fun W=>W.cell? ⟨wf.heap.size,3,none⟩=some (.slice (some ⟨g3,jW,none⟩) (m+1) me)/\W.cell? ⟨g3,jW+k*4+2,none⟩=some (.string PK.z)/\W.cell? ⟨g3,jW+k*4+1,none⟩=some (.int .i64 PK.E)) (go_keep) (first
   |(go_at_call 37;refine(HTY.o _).mono ?_;rintro e w4 ⟨rfl,eA⟩;have y:=HP.o.drew.calm eA;obtain⟨f0,f1,f2,f3⟩:=rb.o _ _ y;obtain⟨p0,p1,p2,p3⟩:=Yw.o _ _ y;have HP:=Z y;clear y eA)
   |(go_at_call 36;refine(HP.o.add _ (by have:=gi.o;simp[VR]at zi;simp at this⊢;omega)).mono ?_;rintro e w5 ⟨rfl,y⟩;obtain⟨f0,f1,f2,f3⟩:=rb.o _ _ y;obtain⟨p0,p1,p2,p3⟩:=Yw.o _ _ y;have HP:=Z y;clear y))
  all_goals go_wp2
  all_goals exact⟨⟨k+1,O,by go_num,Z (by rw[HXP.o];simpa[VR]using HP.o)⟩,by simp[intOf];omega⟩
 ·obtain rfl:k=0:=O;simp only[Nat.zero_mul,Nat.add_zero]at p0 p1 p2 p3 Yw;go_wp2;go_region_held (fun W=>W.cell? ⟨wf.heap.size,3,none⟩=some (.slice (some ⟨g3,jW,none⟩) (m+1) me)/\W.cell? ⟨g3,jW+2,none⟩=some (.string PK.z)/\W.cell? ⟨g3,jW+1,none⟩=some (.int .i64 PK.E)) (go_keep) (first
   |(go_at_call 37;refine(HTY.o _).mono ?_;rintro e w4 ⟨rfl,eA⟩;have y:=HP.o.drew.calm eA;obtain⟨f0,f1,f2,f3⟩:=rb.o _ _ y;obtain⟨p0,p1,p2,p3⟩:=Yw.o _ _ y;have HP:=Z y;clear y eA)
   |(go_at_call 36;refine(HP.o.add _ (by have:=gi.o;simp[ay]at zi;simp[ay]at this⊢;omega)).mono ?_;rintro e w5 ⟨rfl,y⟩;obtain⟨f0,f1,f2,f3⟩:=rb.o _ _ y;obtain⟨p0,p1,p2,p3⟩:=Yw.o _ _ y;have HP:=Z y;clear y))
  all_goals go_wp2
  all_goals exact⟨⟨1,O,by go_num,Z (by rw[HXP.o];simpa[ay]using HP.o)⟩,by simp[intOf];omega⟩):G:=h
theorem afN (h:G:=by have aqt:=kk;exact afR):G:=h
theorem afV (h:G:=by
 go_wp2_with(first
  |(go_at_call 36;refine(HP.o.add _ aai).mono ?_;rintro e w2 ⟨rfl,y⟩;obtain⟨b0,b1,b2,b3⟩:=HN.o _ _ y;obtain⟨ej,ei,eh,ef⟩:=cZ.o _ _ y;obtain⟨jq,ja,jo,iZ⟩:=fU.o _ _ y;have HP:=Z y;clear y)
  |(go_at_call_of 132 u0;refine(HP.o.expr qc.o 1 u0 mX.o lJ.o nh.o J aai).mono ?_;rintro e w2 ⟨rfl,y⟩;obtain⟨b0,b1,b2,b3⟩:=HN.o _ _ y;obtain⟨ej,ei,eh,ef⟩:=cZ.o _ _ y;obtain⟨jq,ja,jo,iZ⟩:=fU.o _ _ y;have HP:=Z y;clear y)
  |(go_at_call_of 38 u1;refine(HP.o.block kT.o d u1 vI.o rQ.o cY.o aai).mono ?_;rintro e w2 ⟨rfl,y⟩;obtain⟨b0,b1,b2,b3⟩:=HN.o _ _ y;obtain⟨ej,ei,eh,ef⟩:=cZ.o _ _ y;obtain⟨jq,ja,jo,iZ⟩:=fU.o _ _ y;have HP:=Z y;clear y))
 go_end0;exact HP.o.ax (by simp[aS])):G:=h
theorem afW (h:G:=by have HQ:=Z (HJ.o _ _ HP.o);exact⟨⟨j+1,O,by go_num,Z (by rw[HX.o];simpa using HQ.o)⟩,by simp[intOf];omega⟩):G:=h
theorem afX (h:G:=by have HQ:=Z (HJ.o _ _ HP.o);exact⟨⟨1,O,by go_num,Z (by rw[HX.o];simpa using HQ.o)⟩,by simp[intOf];omega⟩):G:=h
theorem afY (h:G:=by have aqY:=kk;exact af2):G:=h
theorem afZ (h:G:=by
 have VM:(K.E !=0)=true:=by simp[bm]
 rw[avo bm]at HX gi;have oC:(cP<|cW K.E).size<=1099511627776:=by have:=gi.o;simp only[avu]at this;omega
 have HTD:Hid ((cP<|cW K.E).data.toList=cW K.E):=rfl;rw[<-HTD.o]at HX gi;clear bm htz;generalize cP (cW K.E)=ty at*
 go_wp2_with(first
  |(go_at_call 36;refine(HP.o.add _ aaw).mono ?_;rintro e w3 ⟨rfl,y⟩;obtain⟨f0,f1,f2,f3⟩:=rb.o _ _ y;obtain⟨p0,p1,p2,p3⟩:=HCL.o _ _ y;have HP:=Z y;clear y)
  |(go_at_call 37;refine(HTY.o _).mono ?_;rintro e w4 ⟨rfl,eA⟩;have y:=HP.o.calm eA;obtain⟨f0,f1,f2,f3⟩:=rb.o _ _ y;obtain⟨p0,p1,p2,p3⟩:=HCL.o _ _ y;have HP:=Z y;clear y eA)
  |(go_at_call 38;refine(HP.o.block HBKC.o 0 ul HFB.o Ek.o tB.o aaw).mono ?_;rintro e w3 ⟨rfl,y⟩;obtain⟨f0,f1,f2,f3⟩:=rb.o _ _ y;have HP:=Z y;clear y))
 first
 |clear aqQ
  exact afW
 |clear aqR
  exact afX):G:=h
theorem af0 (h:G:=by
 have VM:(K.E !=0)=false:=by simp[bm]
 rw[avA bm]at HX gi;clear bm HTY htz;go_wp2_with(first
  |(go_at_call 36;refine(HP.o.add _ aaw).mono ?_;rintro e w3 ⟨rfl,y⟩;obtain⟨f0,f1,f2,f3⟩:=rb.o _ _ y;obtain⟨p0,p1,p2,p3⟩:=HCL.o _ _ y;have HP:=Z y;clear y)
  |(go_at_call 38;refine(HP.o.block HBKC.o 0 ul HFB.o Ek.o tB.o aaw).mono ?_;rintro e w3 ⟨rfl,y⟩;obtain⟨f0,f1,f2,f3⟩:=rb.o _ _ y;have HP:=Z y;clear y))
 first
 |clear aqS
  exact afW
 |clear aqT
  exact afX):G:=h
theorem af1 (h:G:=by
 obtain rfl:k=m:=O;obtain⟨ul,zk,hrl⟩:=HKK.o k O;have HCL:=Z fun Y W(h:Pst w1.heap.size own (wf.alloc<|.cells #[.int .i64 K.y,.int .i64 K.E,.string K.z,.slice (some ⟨g3,jW,none⟩) (k+1) me] 25) Y W)=>zk W h.below;have Ek:=Z hrl;have HTY:=Z fun W:World=>Av K.E hnu0 hnu3 W;have htz:(cP<|cW K.E).size=(cW K.E).length:=rfl;have mO:k<k+1:=O;clear zk hrl;generalize K.f k=PL at*
 by_cases bm:K.E=0;first
 |clear aqU
  ·have aqS:=kk;exact af0
  ·have aqQ:=kk;exact afZ
 |clear aqV
  ·have aqT:=kk;exact af0
  ·have aqR:=kk;exact afZ):G:=h
theorem af2 (h:G:=by have kT:=Z (nT (T.f 1) Vu);have cY:=Z (iy k1.1 k1.2);have aqn:=kk;exact afO):G:=h
theorem afO (h:G:=by have aqw:=kk;exact afT):G:=h
theorem afP (h:G:=by
 obtain⟨g,off,nR,hv,hg,bo,z⟩:=gX HR.o O;obtain⟨rfl,rfl⟩:a=some ⟨g,off,none⟩/\cap=nR:=by injection hv with e1 e2 e3;exact⟨e1,e3⟩
 obtain⟨u,hc,pH⟩:=z j be;first
 |clear aqo
  have iX:=FJ.o j be;have Hx:=HE.o j be;obtain⟨LX,h3,xR,pG⟩:=vi Hx;have hL:(T.f j).q=1\/(T.f j).q=2\/(T.f j).q=3:=by rcases h3 with h|h|h<;>omega
  have Zf:=Z<|HI.o j be ((T.f j).q-1) O;have L0:=Nd.aa HF.o be;have ng:=Z L0;have HFG:=Z<|Nd.aa L0 (i:=(T.f j).q-1) O;have rP:=Z<|iy xR pG;have HCJ:=Z<|Wt _ Hx;have ic:Hid (F j=bB d++(bG (T.f j).E (T.f j).z.data.toList (fun i=>aJ<|(T.f j).f i)++([58,10]++(aJ<|(T.f j).f<|(T.f j).q-1).ad (d+1)))):=by
   rw[<-vH.o];exact zD _ LX d
  have zk:(ay F j).length+(d+((bG (T.f j).E (T.f j).z.data.toList fun i=>aJ<|(T.f j).f i).length+(2+((aJ<|(T.f j).f<|(T.f j).q-1).ad<|d+1).length)))<=(ay F T.q).length:=by
   rw[ic.o]at iX;simp only[avu,bB,awQ,length_cons,length_nil]at iX;omega
  have HX:Hid (ay F (j+1)=ay F j++F j):=rfl;rw[ic.o]at HX;obtain⟨g2,vW,zG,rfl,qZ,_,iR⟩:=gX pH O;obtain⟨u2,jQ,zb⟩:=iR ((T.f j).q-1) O;have HC:=Z hc;have oR:=Z jQ;have FF:=Z pH;have HRG:=Z zb;clear z hc pH iX hv bo iR jQ zb Hx LX h3 xR pG L0 ic;generalize T.f j=K at*
  generalize hclT:bG K.E K.z.data.toList (fun i=>aJ<|K.f i)=CT at*
  have HCT:=Z hclT;clear hclT;have HCV:Hid (∀Y W,Pst ob own (w.alloc<|.cells #[.int .i64 15,.int .i64 tn,.string ts,.slice (some ⟨g,off,none⟩) T.q cap] 25) Y W->Y.length+CT.length<=1099511627776->Calls prog 134 #[.pointer<|some ⟨ob,0,none⟩,.agg #[.int .i64 K.y,.int .i64 K.E,.string K.z,.slice (some ⟨g2,vW,none⟩) K.q zG]] W fun e w'=>e=.returned (.tuple #[])/\Pst ob own (w.alloc<|.cells #[.int .i64 15,.int .i64 tn,.string ts,.slice (some ⟨g,off,none⟩) T.q cap] 25) (Y++CT) w'):=by
   intro Y W h I;rw[<-HCT.o]at I⊢;exact h.clause HCJ.o _ ng.o FF.o I
  clear HCT HCJ;generalize K.f (K.q-1)=G at*
  generalize K.q=axf at*
  have hw0:IntKind.i64.wrap 0=0:=rfl;have z7:IntKind.i64.wrap 1=1:=rfl;have Hn:IntKind.i64.wrap 2=2:=rfl;have hwd:IntKind.i64.wrap ((d:Int)+1)=(d:Int)+1:=by simp[IntKind.wrap,IntKind.bits,IntKind.signed];omega
  rcases hL with rfl|rfl|rfl;all_goals simp only[Nat.reduceSub,Nat.zero_mul,Nat.add_zero,awg,Nat.reduceMul]at oR
  all_goals go_wp2_with(first
   |(go_at_call 64;refine(HP.o.cZ d aag).mono ?_;rintro e w2 ⟨rfl,y⟩;obtain⟨b0,b1,b2,b3⟩:=HN.o _ _ y;obtain⟨c0,c1,c2,c3⟩:=HC.o _ y.below;obtain⟨d0,d1,d2,d3⟩:=oR.o _ y.below;have HP:=Z y;clear y)
   |(go_at_call 36;refine(HP.o.add _ aat).mono ?_;rintro e w2 ⟨rfl,y⟩;obtain⟨b0,b1,b2,b3⟩:=HN.o _ _ y;obtain⟨c0,c1,c2,c3⟩:=HC.o _ y.below;obtain⟨d0,d1,d2,d3⟩:=oR.o _ y.below;have HP:=Z y;clear y)
   |(go_at_call 134;refine(HCV.o _ _ HP.o aat).mono ?_;rintro e w2 ⟨rfl,y⟩;obtain⟨b0,b1,b2,b3⟩:=HN.o _ _ y;obtain⟨c0,c1,c2,c3⟩:=HC.o _ y.below;obtain⟨d0,d1,d2,d3⟩:=oR.o _ y.below;have HP:=Z y;clear y))
  all_goals refine wp_region_still_tail 19 aaf aaf ?_
  all_goals change wpStill _ _ (World.drew _) (fun a'=>wpList _ _ _ _ a'<|World.drew _) _ _
  all_goals simp only[take_succ_cons,take_zero,awd,awv]
  all_goals repeat still_step
  all_goals refine wpStill_nil ?_
  all_goals go_wp2_with(go_at_call 63;refine(HP.o.drew.ad Zf.o (d+1) u2 HFG.o HRG.o rP.o aat).mono ?_;rintro e w2 ⟨rfl,y⟩;obtain⟨b0,b1,b2,b3⟩:=HN.o _ _ y;have HP:=Z y;clear y)
  all_goals exact⟨⟨j+1,O,by go_num,Z aaW⟩,by simp[intOf];omega⟩
 |clear aqp
  obtain⟨c0,c1,c2,c3⟩:=hc _ HP.o.below;have hfk:=tC.o j be;obtain⟨⟨hnu0,hnu3⟩,L9,hPK,xR,pG⟩:=zu hfk;have iX:=FJ.o j be;have ic:Hid (F j=(if j=0 then[]else[10])++lY (T.f j)):=by rw[<-vH.o];rfl
  have L0:=Nd.aa HF.o be;have hFL:=Nd.aa L0 (i:=(T.f j).q-1) O;obtain⟨g2,vW,zG,rfl,_,_,_⟩:=gX pH O;obtain⟨own,oE,lV⟩:=HP.o.join;have hmL:(T.f j).q<=9223372036854775807:=Nd.I L0;have zb:=bb oE (ah HP.o.below lr pH)<|.cells #[.int .i64 (T.f j).y,.int .i64 (T.f j).E,.string (T.f j).z,.slice (some ⟨g2,vW,none⟩) (T.f j).q zG] 25;obtain⟨g3,jW,me,he3,oD,hcap3,iR⟩:=gX zb O;obtain⟨rfl,rfl,rfl⟩:g3=g2/\jW=vW/\me=zG:=by
   injection he3 with e1 e2 e3;injection e1 with e1;injection e1 with e1 e4;exact⟨e1.symm,e4.symm,e3.symm⟩
  clear z bo hv pH zb he3;generalize T.f j=K at*
  obtain⟨m,hm⟩:∃m,K.q=m+1:=⟨K.q-1,O⟩;have HKK:=Z iR;have HPK:=Z hPK;have tB:=Z<|iy xR pG;have HFB:=Z hFL;have HBKC:=Z<|nT _ (U9<|K.f<|K.q-1).ad;have HX:=Z<|show ay F (j+1)=ay F j++F j from rfl;rw[ic.o,uM]at HX iX;have HPL:=Z fun i(h:i<K.q-1)=>gO (eI K) h;have gi:Hid ((ay F j).length+((if j=0 then[]else[10]:List UInt8).length+(5+(K.z.size+(1+((ay (eI K)<|K.q-1).length+(2+((if K.E=0 then[]else cW K.E++[32]).length+((aS 0<|(aJ<|K.f<|K.q-1).ad 1).length+1))))))))<=1099511627776):=by
   have e:K.z.data.toList.length=K.z.size:=rfl;have:=HB.o;unfold Hid;simp only[avu,length_cons,length_nil]at iX;omega
  have hkn:K.z.size<=1099511627776:=by have:=gi.o;omega
  have IL:=Z<|Pst.aj oE<|.cells #[.int .i64 K.y,.int .i64 K.E,.string K.z,.slice (some ⟨g3,jW,none⟩) K.q me] 25;have rb:=Z<|Pst.node oE (.int .i64 K.y) (.int .i64 K.E) (.string K.z) (.slice (some ⟨g3,jW,none⟩) K.q me) 25;have HJ:=Z fun Y W(h:Pst w1.heap.size own (wf.alloc<|.cells #[.int .i64 K.y,.int .i64 K.E,.string K.z,.slice (some ⟨g3,jW,none⟩) K.q me] 25) Y W)=>lV Y W _ h;simp only[hm,av1]at*
  clear HP oE lV xR pG hPK hFL L0 iR iX hm hfk ic hc;have HP:=IL;clear IL;by_cases hj0:0<j
  ·have I5:j≠0:=O;go_wp2_with(go_at_call 36;refine(HP.o.add _ (by have:=gi.o;simp[I5]at this⊢;omega)).mono ?_;rintro e w3 ⟨rfl,y⟩;obtain⟨f0,f1,f2,f3⟩:=rb.o _ _ y;have HP:=Z y;clear y)
   go_loopw[7] (fun i W=>∃k:Nat,k<=m/\i=.int .i64 k/\Hid (Pst w1.heap.size own (wf.alloc<|.cells #[.int .i64 K.y,.int .i64 K.E,.string K.z,.slice (some ⟨g3,jW,none⟩) (m+1) me] 25) (ay F j++((if j=0 then[]else[10])++([102,117,110,99,32]++(K.z.data.toList++[40])))++ay (eI K) k) W)) (fun i _=>m-(intOf i).toNat)
   case atStart=>exact⟨0,O,rfl,Z (by simpa[ay,I5]using HP.o)⟩
   case round=>
    obtain⟨k,z,rfl,HP⟩:=hrel;obtain⟨f0,f1,f2,f3⟩:=rb.o _ _ HP.o;by_cases xR:k<m
    ·exact afM
    ·have aqU:=kk;exact af1
  ·obtain rfl:j=0:=O;simp only[Nat.zero_mul,Nat.add_zero]at c0 c1 c2 c3;go_wp2_with(go_at_call 36;refine(HP.o.add _ aaw).mono ?_;rintro e w3 ⟨rfl,y⟩;obtain⟨f0,f1,f2,f3⟩:=rb.o _ _ y;have HP:=Z y;clear y)
   go_loopw[7] (fun i W=>∃k:Nat,k<=m/\i=.int .i64 k/\Hid (Pst w1.heap.size own (wf.alloc<|.cells #[.int .i64 K.y,.int .i64 K.E,.string K.z,.slice (some ⟨g3,jW,none⟩) (m+1) me] 25) (ay F 0++((if(0:Nat)=0 then[]else[10])++([102,117,110,99,32]++(K.z.data.toList++[40])))++ay (eI K) k) W)) (fun i _=>m-(intOf i).toNat)
   case atStart=>exact⟨0,O,rfl,Z aaA⟩
   case round=>
    obtain⟨k,z,rfl,HP⟩:=hrel;obtain⟨f0,f1,f2,f3⟩:=rb.o _ _ HP.o;by_cases xR:k<m
    ·exact afM
    ·have aqV:=kk;exact af1):G:=h
theorem afQ (h:G:=by have aqy:=kk;exact afU):G:=h
theorem afR (h:G:=by have aqx:=kk;exact afT):G:=h
theorem afS (h:G:=by
 go_wp2_with(first
  |(go_at_call 36;refine(HP.o.add _ aag).mono ?_;rintro e w2 ⟨rfl,y⟩;obtain⟨b0,b1,b2,b3⟩:=HN.o _ _ y;have HP:=Z y;clear y))
 first
 |clear aqu
  go_end0;exact HP.o.ax M
 |clear aqv
  go_loopw[6] (fun i wr=>∃j:Nat,j<=T.q/\i=.int .i64 j/\Hid (Pst ob own (w.alloc<|.cells #[.int .i64 15,.int .i64 tn,.string ts,.slice a T.q cap] 25) (X++[115,101,108,101,99,116,32,123,10]++ay F j) wr)) (fun i _=>T.q-(intOf i).toNat)
  case atStart=>exact⟨0,O,rfl,Z aaA⟩
  case round=>
   obtain⟨j,hj,rfl,HP⟩:=hrel;obtain⟨b0,b1,b2,b3⟩:=HN.o _ _ HP.o;by_cases be:j<T.q
   ·have aqo:=kk;exact afP
   ·obtain rfl:j=T.q:=O;go_wp2_with(first
     |(go_at_call 64;refine(HP.o.cZ d aat).mono ?_;rintro e w2 ⟨rfl,y⟩;have HP:=Z y;clear y)
     |(go_at_call 36;refine(HP.o.add _ aat).mono ?_;rintro e w2 ⟨rfl,y⟩;have HP:=Z y;clear y))
    go_end0;exact HP.o.ax M):G:=h
theorem afT (h:G:=by
 obtain⟨g,off,cap,rfl,hg,bo,aZ⟩:=gX hr O;obtain⟨u0,ey,dR⟩:=aZ 0 O;simp only[Nat.zero_mul,Nat.add_zero]at ey;have fy:0<T.q:=O;first
 |clear aqw
  obtain⟨u1,eO,fQ⟩:=aZ 1 O;simp only[awg]at eO;have gY:1<T.q:=O;first
  |clear aqm
   have aE:T.val (.slice (some ⟨g,off,none⟩) T.q cap)=.agg #[.int .i64 16,.int .i64 2,.string T.z,.slice (some ⟨g,off,none⟩) 3 cap]:=by unfold Nd.val;rw[z,bm,h0]
   rw[aE];have HP:=Z<|Pst.aj ab<|.cells #[.int .i64 16,.int .i64 2,.string T.z,.slice (some ⟨g,off,none⟩) 3 cap] 25;have HN:=Z<|Pst.node ab (.int .i64 16) (.int .i64 2) (.string T.z) (.slice (some ⟨g,off,none⟩) 3 cap) 25;have cZ:=Z fun Y W(h:Pst ob own (w.alloc<|.cells #[.int .i64 16,.int .i64 2,.string T.z,.slice (some ⟨g,off,none⟩) 3 cap] 25) Y W)=>ey W<|h.aE ab;have lJ:=Z<|bb ab dR<|.cells #[.int .i64 16,.int .i64 2,.string T.z,.slice (some ⟨g,off,none⟩) 3 cap] 25;have aqG:=kk;exact Iy
  |clear aqn
   first
   |clear aqW
    have aE:T.val (.slice (some ⟨g,off,none⟩) T.q cap)=.agg #[.int .i64 10,.int .i64 T.E,.string T.z,.slice (some ⟨g,off,none⟩) 2 cap]:=by unfold Nd.val;rw[z,h0]
    rw[aE];have HP:=Z<|Pst.aj ab<|.cells #[.int .i64 10,.int .i64 T.E,.string T.z,.slice (some ⟨g,off,none⟩) 2 cap] 25;have HN:=Z<|Pst.node ab (.int .i64 10) (.int .i64 T.E) (.string T.z) (.slice (some ⟨g,off,none⟩) 2 cap) 25;have cZ:=Z fun Y W(h:Pst ob own (w.alloc<|.cells #[.int .i64 10,.int .i64 T.E,.string T.z,.slice (some ⟨g,off,none⟩) 2 cap] 25) Y W)=>ey W<|h.aE ab;have lJ:=Z<|bb ab dR<|.cells #[.int .i64 10,.int .i64 T.E,.string T.z,.slice (some ⟨g,off,none⟩) 2 cap] 25;have aqH:=kk;exact Iy
   |clear aqX
    have aE:T.val (.slice (some ⟨g,off,none⟩) T.q cap)=.agg #[.int .i64 11,.int .i64 T.E,.string T.z,.slice (some ⟨g,off,none⟩) 2 cap]:=by unfold Nd.val;rw[z,h0]
    rw[aE];have HP:=Z<|Pst.aj ab<|.cells #[.int .i64 11,.int .i64 T.E,.string T.z,.slice (some ⟨g,off,none⟩) 2 cap] 25;have HN:=Z<|Pst.node ab (.int .i64 11) (.int .i64 T.E) (.string T.z) (.slice (some ⟨g,off,none⟩) 2 cap) 25;have cZ:=Z fun Y W(h:Pst ob own (w.alloc<|.cells #[.int .i64 11,.int .i64 T.E,.string T.z,.slice (some ⟨g,off,none⟩) 2 cap] 25) Y W)=>ey W<|h.aE ab;have lJ:=Z<|bb ab dR<|.cells #[.int .i64 11,.int .i64 T.E,.string T.z,.slice (some ⟨g,off,none⟩) 2 cap] 25;have aqI:=kk;exact Iy
   |clear aqY
    obtain⟨u2,jQ,qg⟩:=aZ 2 O;simp only[Nat.reduceMul]at jQ;have sM:2<T.q:=O;have aE:T.val (.slice (some ⟨g,off,none⟩) T.q cap)=.agg #[.int .i64 10,.int .i64 T.E,.string T.z,.slice (some ⟨g,off,none⟩) 3 cap]:=by unfold Nd.val;rw[z,h0]
    rw[aE];have HP:=Z<|Pst.aj ab<|.cells #[.int .i64 10,.int .i64 T.E,.string T.z,.slice (some ⟨g,off,none⟩) 3 cap] 25;have HN:=Z<|Pst.node ab (.int .i64 10) (.int .i64 T.E) (.string T.z) (.slice (some ⟨g,off,none⟩) 3 cap) 25;have cZ:=Z fun Y W(h:Pst ob own (w.alloc<|.cells #[.int .i64 10,.int .i64 T.E,.string T.z,.slice (some ⟨g,off,none⟩) 3 cap] 25) Y W)=>ey W<|h.aE ab;have lJ:=Z<|bb ab dR<|.cells #[.int .i64 10,.int .i64 T.E,.string T.z,.slice (some ⟨g,off,none⟩) 3 cap] 25;have aqJ:=kk;exact Iy
 |clear aqx
  first
  |clear aqs
   have aE:T.val (.slice (some ⟨g,off,none⟩) T.q cap)=.agg #[.int .i64 11,.int .i64 T.E,.string T.z,.slice (some ⟨g,off,none⟩) 1 cap]:=by unfold Nd.val;rw[z,h0]
   rw[aE];have HP:=Z<|Pst.aj ab<|.cells #[.int .i64 11,.int .i64 T.E,.string T.z,.slice (some ⟨g,off,none⟩) 1 cap] 25;have HN:=Z<|Pst.node ab (.int .i64 11) (.int .i64 T.E) (.string T.z) (.slice (some ⟨g,off,none⟩) 1 cap) 25;have cZ:=Z fun Y W(h:Pst ob own (w.alloc<|.cells #[.int .i64 11,.int .i64 T.E,.string T.z,.slice (some ⟨g,off,none⟩) 1 cap] 25) Y W)=>ey W<|h.aE ab;have lJ:=Z<|bb ab dR<|.cells #[.int .i64 11,.int .i64 T.E,.string T.z,.slice (some ⟨g,off,none⟩) 1 cap] 25;have aqE:=kk;exact Iy
  |clear aqt
   have aE:T.val (.slice (some ⟨g,off,none⟩) T.q cap)=.agg #[.int .i64 16,.int .i64 1,.string T.z,.slice (some ⟨g,off,none⟩) 2 cap]:=by unfold Nd.val;rw[z,bm,h0]
   rw[aE];have HP:=Z (Pst.aj ab (.cells #[.int .i64 16,.int .i64 1,.string T.z,.slice (some ⟨g,off,none⟩) 2 cap] 25));have HN:=Z (Pst.node ab (.int .i64 16) (.int .i64 1) (.string T.z) (.slice (some ⟨g,off,none⟩) 2 cap) 25);have cZ:=Z (fun Y W(h:Pst ob own (w.alloc (.cells #[.int .i64 16,.int .i64 1,.string T.z,.slice (some ⟨g,off,none⟩) 2 cap] 25)) Y W)=>ey W (h.aE ab));have lJ:=Z (bb ab dR (.cells #[.int .i64 16,.int .i64 1,.string T.z,.slice (some ⟨g,off,none⟩) 2 cap] 25));have aqF:=kk;exact Iy):G:=h
theorem afU (h:G:=by
 obtain⟨ej,ei,eh,ef⟩:=cZ.o _ _ HP.o;obtain⟨jq,ja,jo,iZ⟩:=fU.o _ _ HP.o;generalize T.f 0=K0 at*
 generalize T.f 1=K1 at*
 generalize T.z=ts at*
 first
 |clear aqy
  generalize T.E=tn at*
  first
  |clear aqq
   go_enter func103,ntmps103
   exact afV
  |clear aqr
   go_enter func133,ntmps133
   exact afV
 |clear aqz
  go_enter func134,ntmps134
  go_wp2_with(first
   |(go_at_call 36;refine(HP.o.add _ aag).mono ?_;rintro e w2 ⟨rfl,y⟩;obtain⟨b0,b1,b2,b3⟩:=HN.o _ _ y;obtain⟨ej,ei,eh,ef⟩:=cZ.o _ _ y;obtain⟨jq,ja,jo,iZ⟩:=fU.o _ _ y;have HP:=Z y;clear y)
   |(go_at_call_of 132 u0;refine(HP.o.expr qc.o 1 u0 mX.o lJ.o nh.o J aag).mono ?_;rintro e w2 ⟨rfl,y⟩;obtain⟨b0,b1,b2,b3⟩:=HN.o _ _ y;obtain⟨ej,ei,eh,ef⟩:=cZ.o _ _ y;obtain⟨jq,ja,jo,iZ⟩:=fU.o _ _ y;have HP:=Z y;clear y)
   |(go_at_call_of 132 u1;refine(HP.o.expr CI.o 1 u1 vI.o rQ.o tD.o J aag).mono ?_;rintro e w2 ⟨rfl,y⟩;obtain⟨b0,b1,b2,b3⟩:=HN.o _ _ y;obtain⟨ej,ei,eh,ef⟩:=cZ.o _ _ y;obtain⟨jq,ja,jo,iZ⟩:=fU.o _ _ y;have HP:=Z y;clear y))
  go_end0;exact HP.o.ax M):G:=h
theorem Rf (h:G:=by
 intro ob own X d w v ab hf hr ax I;have hn:=T.I hf;rw[kz T z]at I⊢;first
 |clear aqA
  obtain⟨a,cap,rfl,_⟩:=ar.1 hr;have aE:T.val (.slice a T.q cap)=.agg #[.int .i64 10,.int .i64 T.E,.string T.z,.slice a T.q cap]:=by unfold Nd.val;rw[z]
  rw[aE];have HP:=Z<|Pst.aj ab<|.cells #[.int .i64 10,.int .i64 T.E,.string T.z,.slice a T.q cap] 25;have HN:=Z<|Pst.node ab (.int .i64 10) (.int .i64 T.E) (.string T.z) (.slice a T.q cap) 25;have HBR:=Z fun Y W(h:Pst ob own (w.alloc<|.cells #[.int .i64 10,.int .i64 T.E,.string T.z,.slice a T.q cap] 25) Y W)I=>h.branch (T:=T) ih d (.slice a T.q cap) hf (bb ab hr<|.cells #[.int .i64 10,.int .i64 T.E,.string T.z,.slice a T.q cap] 25) ax I;rw[aE,kz T z]at HBR;have HB:=Z I;clear I hr hf ax ab z aE;generalize hgen:[105,102,32]++((aJ<|T.f 0).ex 1++(32::(aS d ((aJ<|T.f 1).ad<|d+1)++(if T.q=3 then[32,101,108,115,101,32]++(aJ<|T.f 2).st d else[]))))=dN at*
  clear hgen;have aqM:=kk;exact Re
 |clear aqB
  obtain⟨_,jv,k1,_⟩:=lO z ax;rw[avo O]at I⊢;have nh:=Z jv;have aqW:=kk;exact af2
 |clear aqC
  obtain⟨_,jv,k1,k2⟩:=lO z ax;rw[avA h0]at I⊢;have nh:=Z jv;have NC:=Z (k2 h0).2;have iR:((T.f 2).y==10)=true:=by simp[h2]
  have HBR:=Z ih2;have aqO:=kk;exact afY
 |clear aqD
  obtain⟨_,jv,k1,k2⟩:=lO z ax;rw[avA h0,gl _ h2]at I⊢;have nh:=Z jv;have eF:=Z<|iy h2 (k2 h0).2;have iR:((T.f 2).y==10)=false:=by simp[h2]
  have Sd:=Z (nT (T.f 2) ih2);have aqP:=kk;exact afY):G:=h
theorem Iy (h:G:=by
 have qc:=Z<|lH<|T.f 0;have mX:=Z<|Nd.aa hf fy;first
 |clear aqE
  have HB:=Z I;clear k0 ih0 fy h0 I hr hf ax ab z aE ey dR aZ bo;obtain⟨ej,ei,eh,ef⟩:=cZ.o _ _ HP.o;generalize T.f 0=K0 at*
  have aqN:=kk;exact Re
 |clear aqF
  have nh:=Z jv;have HB:=Z I;clear I hr hf ab z aE bm h0 vY ey dR jv fy aZ bo;obtain⟨ej,ei,eh,ef⟩:=cZ.o _ _ HP.o;generalize T.f 0=K0 at*
  generalize T.z=ts at*
  go_enter func134,ntmps134
  go_wp2_with(first
   |(go_at_call 36;refine(HP.o.add _ aag).mono ?_;rintro e w2 ⟨rfl,y⟩;obtain⟨b0,b1,b2,b3⟩:=HN.o _ _ y;obtain⟨ej,ei,eh,ef⟩:=cZ.o _ _ y;have HP:=Z y;clear y)
   |(go_at_call_of 132 u0;refine(HP.o.expr qc.o 6 u0 mX.o lJ.o nh.o J aag).mono ?_;rintro e w2 ⟨rfl,y⟩;obtain⟨b0,b1,b2,b3⟩:=HN.o _ _ y;obtain⟨ej,ei,eh,ef⟩:=cZ.o _ _ y;have HP:=Z y;clear y))
  go_end0;exact HP.o.ax M
 |clear aqG
  have nh:=Z jv;have fU:=Z fun Y W(h:Pst ob own (w.alloc<|.cells #[.int .i64 16,.int .i64 2,.string T.z,.slice (some ⟨g,off,none⟩) 3 cap] 25) Y W)=>eO W<|h.aE ab;have rQ:=Z<|bb ab fQ<|.cells #[.int .i64 16,.int .i64 2,.string T.z,.slice (some ⟨g,off,none⟩) 3 cap] 25;have CI:=Z<|lH<|T.f 1;have vI:=Z<|Nd.aa hf gY;have tD:=Z zn;have HB:=Z I;clear I hr hf ab z aE bm h0 vY ey dR jv fy eO fQ zn gY aZ bo;have aqz:=kk;exact afU
 |clear aqH
  have fU:=Z fun Y W(h:Pst ob own (w.alloc<|.cells #[.int .i64 10,.int .i64 T.E,.string T.z,.slice (some ⟨g,off,none⟩) 2 cap] 25) Y W)=>eO W<|h.aE ab;have rQ:=Z<|bb ab fQ<|.cells #[.int .i64 10,.int .i64 T.E,.string T.z,.slice (some ⟨g,off,none⟩) 2 cap] 25;have CI:=Z<|lH<|T.f 1;have vI:=Z<|Nd.aa hf gY;have HB:=Z I;clear jv k1 Vu fy gY h0 I hr hf ax ab z aE ey dR eO fQ aZ bo;have aqr:=kk;exact afQ
 |clear aqI
  have fU:=Z fun Y W(h:Pst ob own (w.alloc<|.cells #[.int .i64 11,.int .i64 T.E,.string T.z,.slice (some ⟨g,off,none⟩) 2 cap] 25) Y W)=>eO W<|h.aE ab;have rQ:=Z<|bb ab fQ<|.cells #[.int .i64 11,.int .i64 T.E,.string T.z,.slice (some ⟨g,off,none⟩) 2 cap] 25;have CI:=Z<|lH<|T.f 1;have vI:=Z<|Nd.aa hf gY;have HB:=Z I;clear k0 k1 Vu fy gY h0 I hr hf ax ab z aE ey dR eO fQ aZ bo;have aqq:=kk;exact afQ
 |clear aqJ
  have fU:=Z fun Y W(h:Pst ob own (w.alloc<|.cells #[.int .i64 10,.int .i64 T.E,.string T.z,.slice (some ⟨g,off,none⟩) 3 cap] 25) Y W)=>eO W<|h.aE ab;have rQ:=Z<|bb ab fQ<|.cells #[.int .i64 10,.int .i64 T.E,.string T.z,.slice (some ⟨g,off,none⟩) 3 cap] 25;have CI:=Z<|lH<|T.f 1;have vI:=Z<|Nd.aa hf gY;have oR:=Z fun Y W(h:Pst ob own (w.alloc<|.cells #[.int .i64 10,.int .i64 T.E,.string T.z,.slice (some ⟨g,off,none⟩) 3 cap] 25) Y W)=>jQ W<|h.aE ab;have El:=Z<|bb ab qg<|.cells #[.int .i64 10,.int .i64 T.E,.string T.z,.slice (some ⟨g,off,none⟩) 3 cap] 25;have HI2:=Z<|lH<|T.f 2;have R9:=Z<|Nd.aa hf sM;have HB:=Z I;clear jv k1 k2 Vu ih2 h2 fy gY sM h0 I hr hf ax ab z aE ey dR eO fQ jQ qg aZ bo;obtain⟨ej,ei,eh,ef⟩:=cZ.o _ _ HP.o;obtain⟨jq,ja,jo,iZ⟩:=fU.o _ _ HP.o;obtain⟨Ah,Ag,vu,vt⟩:=oR.o _ _ HP.o;generalize T.f 0=K0 at*
  generalize T.f 1=K1 at*
  generalize T.f 2=K2 at*
  generalize T.z=ts at*
  generalize T.E=tn at*
  go_enter func133,ntmps133
  first
  |clear aqO
   go_wp2_with(first
    |(go_at_call 36;refine(HP.o.add _ aai).mono ?_;rintro e w2 ⟨rfl,y⟩;obtain⟨b0,b1,b2,b3⟩:=HN.o _ _ y;obtain⟨ej,ei,eh,ef⟩:=cZ.o _ _ y;obtain⟨jq,ja,jo,iZ⟩:=fU.o _ _ y;obtain⟨Ah,Ag,vu,vt⟩:=oR.o _ _ y;have HP:=Z y;clear y)
    |(go_at_call_of 132 u0;refine(HP.o.expr qc.o 1 u0 mX.o lJ.o nh.o J aai).mono ?_;rintro e w2 ⟨rfl,y⟩;obtain⟨b0,b1,b2,b3⟩:=HN.o _ _ y;obtain⟨ej,ei,eh,ef⟩:=cZ.o _ _ y;obtain⟨jq,ja,jo,iZ⟩:=fU.o _ _ y;obtain⟨Ah,Ag,vu,vt⟩:=oR.o _ _ y;have HP:=Z y;clear y)
    |(go_at_call_of 38 u1;refine(HP.o.block kT.o d u1 vI.o rQ.o cY.o aai).mono ?_;rintro e w2 ⟨rfl,y⟩;obtain⟨b0,b1,b2,b3⟩:=HN.o _ _ y;obtain⟨ej,ei,eh,ef⟩:=cZ.o _ _ y;obtain⟨jq,ja,jo,iZ⟩:=fU.o _ _ y;obtain⟨Ah,Ag,vu,vt⟩:=oR.o _ _ y;have HP:=Z y;clear y)
    |(go_at_call 133;refine(HP.o.branch HBR.o d u2 R9.o El.o NC.o aai).mono ?_;rintro e w2 ⟨rfl,y⟩;have HP:=Z y;clear y))
   go_end0;exact HP.o.ax (by simp[aS])
  |clear aqP
   go_wp2_with(first
    |(go_at_call 36;refine(HP.o.add _ aai).mono ?_;rintro e w2 ⟨rfl,y⟩;obtain⟨b0,b1,b2,b3⟩:=HN.o _ _ y;obtain⟨ej,ei,eh,ef⟩:=cZ.o _ _ y;obtain⟨jq,ja,jo,iZ⟩:=fU.o _ _ y;obtain⟨Ah,Ag,vu,vt⟩:=oR.o _ _ y;have HP:=Z y;clear y)
    |(go_at_call_of 132 u0;refine(HP.o.expr qc.o 1 u0 mX.o lJ.o nh.o J aai).mono ?_;rintro e w2 ⟨rfl,y⟩;obtain⟨b0,b1,b2,b3⟩:=HN.o _ _ y;obtain⟨ej,ei,eh,ef⟩:=cZ.o _ _ y;obtain⟨jq,ja,jo,iZ⟩:=fU.o _ _ y;obtain⟨Ah,Ag,vu,vt⟩:=oR.o _ _ y;have HP:=Z y;clear y)
    |(go_at_call_of 38 u1;refine(HP.o.block kT.o d u1 vI.o rQ.o cY.o aai).mono ?_;rintro e w2 ⟨rfl,y⟩;obtain⟨b0,b1,b2,b3⟩:=HN.o _ _ y;obtain⟨ej,ei,eh,ef⟩:=cZ.o _ _ y;obtain⟨jq,ja,jo,iZ⟩:=fU.o _ _ y;obtain⟨Ah,Ag,vu,vt⟩:=oR.o _ _ y;have HP:=Z y;clear y)
    |(go_at_call_of 38 u2;refine(HP.o.block Sd.o d u2 R9.o El.o eF.o aai).mono ?_;rintro e w2 ⟨rfl,y⟩;obtain⟨b0,b1,b2,b3⟩:=HN.o _ _ y;obtain⟨ej,ei,eh,ef⟩:=cZ.o _ _ y;obtain⟨jq,ja,jo,iZ⟩:=fU.o _ _ y;obtain⟨Ah,Ag,vu,vt⟩:=oR.o _ _ y;have HP:=Z y;clear y))
   go_end0;exact HP.o.ax (by simp[aS])):G:=h
theorem Re (h:G:=by
 generalize T.z=ts at*
 generalize T.E=tn at*
 go_enter func103,ntmps103
 first
 |clear aqK
  go_wp2_with(first
   |(go_at_call 38;refine(gU.o _ _ HP.o HB.o).mono ?_;rintro e w2 ⟨rfl,y⟩;have HP:=Z y;clear y))
  go_end0;exact HP.o.ax rfl
 |clear aqL
  have aqv:=kk;exact afS
 |clear aqM
  go_wp2_with(first
   |(go_at_call 133;refine(HBR.o _ _ HP.o HB.o).mono ?_;rintro e w2 ⟨rfl,y⟩;have HP:=Z y;clear y))
  go_end0;exact HP.o.ax rfl
 |clear aqN
  go_wp2_with(first
   |(go_at_call 36;refine(HP.o.add _ aai).mono ?_;rintro e w2 ⟨rfl,y⟩;obtain⟨b0,b1,b2,b3⟩:=HN.o _ _ y;obtain⟨ej,ei,eh,ef⟩:=cZ.o _ _ y;have HP:=Z y;clear y)
   |(go_at_call_of 38 u0;refine(HP.o.block YB.o d u0 mX.o lJ.o HS0.o aai).mono ?_;rintro e w2 ⟨rfl,y⟩;obtain⟨b0,b1,b2,b3⟩:=HN.o _ _ y;obtain⟨ej,ei,eh,ef⟩:=cZ.o _ _ y;have HP:=Z y;clear y))
  go_end0;exact HP.o.ax (by simp[aS])):G:=h
theorem gl (T:Nd)(z:T.y=4)(d:Nat):(aJ T).st d=aS d ((aJ T).ad<|d+1):=by
 cases T with
 |nil=>simp[Nd.y]at z
 |mk k n s len kids=>obtain rfl:k=4:=z;rfl
theorem kz (T:Nd)(z:T.y=10)(d:Nat):(aJ T).st d=[105,102,32]++((aJ<|T.f 0).ex 1++(32::(aS d ((aJ<|T.f 1).ad<|d+1)++(if T.q=3 then[32,101,108,115,101,32]++(aJ<|T.f 2).st d else[])))):=by
 cases T with
 |nil=>simp[Nd.y]at z
 |mk k n s len kids=>obtain rfl:k=10:=z;rfl
theorem ky (T:Nd)(z:T.y=11)(d:Nat):(aJ T).st d=[102,111,114,32]++((if T.q=2 then(aJ<|T.f 0).ex 1++[32]else[])++aS d ((aJ<|T.f<|T.q-1).ad<|d+1)):=by
 cases T with
 |nil=>simp[Nd.y]at z
 |mk k n s len kids=>obtain rfl:k=11:=z;rfl
theorem px (T:Nd)(z:T.y=15)(d:Nat):(aJ T).st d=[115,101,108,101,99,116,32,123,10]++(ay (fun i=>(aJ<|T.f i).cs d) T.q++(bB d++[125])):=by
 cases T with
 |nil=>simp[Nd.y]at z
 |mk k n s len kids=>obtain rfl:k=15:=z;rfl
def Ui (T:Nd):Prop:=∀(ob:Nat)(own:Option Nat)(X:List UInt8)(d:Nat)(w:World)(v:Value),Buf ob w own X->T.R->Row 0 ob w T v->T.U=true->
 X.length+((aJ T).st d).length<=1099511627776->Calls prog 133 #[.pointer<|some ⟨ob,0,none⟩,T.val v,.int .i64 d] w (vK ob X ((aJ T).st d) own w)
theorem Pst.branch (hT:Ui T)(h:Pst ob ai w0 Y w)(d:Nat)(v:Value)(hf:T.R)(hr:Row 0 ob w0 T v)(ax:T.U=true)(I:Y.length+((aJ T).st d).length<=1099511627776):
  Calls prog 133 #[.pointer<|some ⟨ob,0,none⟩,T.val v,.int .i64 d] w fun e w'=>e=.returned (.tuple #[])/\Pst ob ai w0 (Y++(aJ T).st d) w':=
 h.lift fun own ab=>hT ob own Y d w v ab hf (ah h.below lr hr) ax I
structure PrC (T:Nd):Prop where
 sm:vR T
 ad:qY T
 br:T.y=10->Ui T
 gr:∀i,i<T.q->qY (T.f i)
theorem iz {kk:Nat->Int}{len:Nat}(h:aG e st kk len s=true):len=s.size/\∀i,i<s.size->bT e st kk (s.data.toList.getD i 0).toNat i=true:=by unfold aG at h;simp only[avw,avy]at h;exact⟨h.1,bj.1 h.2⟩
theorem iy (z:T.y=4)(h:T.U=true):∀i,i<T.q->(T.f i).U=true:=by rw[aM,z]at h;simp[aL]at h;exact bj.1 h.2
theorem kP {kk:Nat->Int}(h:bT e st kk 98 i=true):kk i=4/\st i=true:=by simp[bT]at h;exact h
theorem Mx {kk:Nat->Int}(h:bT e st kk 105 i=true):(kk i=4\/kk i=10)/\st i=true:=by simp[bT]at h;exact h
theorem l7 {kk:Nat->Int}(h:bT e st kk 101 i=true):e i=true:=by simpa[bT]using h
theorem lO (z:T.y=10)(h:T.U=true):(T.q=2\/T.q=3)/\(T.f 0).Q=true/\((T.f 1).y=4/\(T.f 1).U=true)/\(T.q=3->((T.f 2).y=4\/(T.f 2).y=10)/\(T.f 2).U=true):=by
 rw[aM,z]at h;simp only[aL,Int.reduceEq,if_true,if_false,or_self,avw,av2]at h;rcases h.2 with h|h
 ·obtain⟨h1,h2⟩:=iz h;have h1:T.q=2:=h1;exact⟨.inl h1,l7<|h2 0 J,kP<|h2 1 J,fun h=>by omega⟩
 ·obtain⟨h1,h2⟩:=iz h;have h1:T.q=3:=h1;exact⟨.inr h1,l7<|h2 0 J,kP<|h2 1 J,fun _=>Mx<|h2 2 J⟩
theorem np (z:T.y=11)(h:T.U=true):(T.q=1/\(T.f 0).y=4/\(T.f 0).U=true)\/(T.q=2/\(T.f 0).Q=true/\((T.f 1).y=4/\(T.f 1).U=true)):=by
 rw[aM,z]at h;simp only[aL,Int.reduceEq,if_true,if_false,or_self,avw,av2]at h;rcases h.2 with h|h
 ·obtain⟨h1,h2⟩:=iz h;exact .inl ⟨h1,kP<|h2 0 J⟩
 ·obtain⟨h1,h2⟩:=iz h;exact .inr ⟨h1,l7<|h2 0 J,kP<|h2 1 J⟩
theorem tN (z:T.y=15)(h:T.U=true):∀i,i<T.q->(T.f i).aH=true:=by rw[aM,z]at h;simp[aL]at h;exact bj.1 h.2
theorem vi (h:T.aH=true):T.y=16/\((T.E=0/\T.q=1)\/(T.E=1/\T.q=2/\(T.f 0).Q=true)\/(T.E=2/\T.q=3/\(T.f 0).Q=true/\(T.f 1).Q=true))/\(T.f<|T.q-1).y=4/\(T.f<|T.q-1).U=true:=by
 rw[lI]at h;by_cases z:T.y=16
 ·simp only[gP,z,if_true,avw]at h;have h:=h.2;by_cases h0:T.E=0
  ·rw[avA h0]at h;obtain⟨h1,h2⟩:=iz h;have h1:T.q=1:=h1;rw[h1];exact⟨z,.inl ⟨h0,rfl⟩,kP<|h2 0 J⟩
  rw[avo h0]at h;by_cases Qp:T.E=1
  ·rw[avA Qp]at h;obtain⟨h1,h2⟩:=iz h;have h1:T.q=2:=h1;rw[h1];exact⟨z,.inr<|.inl ⟨Qp,rfl,l7<|h2 0 J⟩,kP<|h2 1 J⟩
  rw[avo Qp]at h;by_cases h02:T.E=2
  ·rw[avA h02]at h;obtain⟨h1,h2⟩:=iz h;have h1:T.q=3:=h1;rw[h1];exact⟨z,.inr<|.inr ⟨h02,rfl,l7<|h2 0 J,l7<|h2 1 J⟩,kP<|h2 2 J⟩
  rw[avo h02]at h;cases h
 ·simp[gP,z]at h
theorem pst_4 (T:Nd)(z:T.y=4)(ih:qY T):vR T:=by
 intro ob own X d w v ab hf hr ax I;have hn:=T.I hf;rw[gl T z]at I⊢;have hE:=iy z ax;obtain⟨a,cap,rfl,_⟩:=ar.1 hr;have aE:T.val (.slice a T.q cap)=.agg #[.int .i64 4,.int .i64 T.E,.string T.z,.slice a T.q cap]:=by unfold Nd.val;rw[z]
 rw[aE];have HP:=Z<|Pst.aj ab<|.cells #[.int .i64 4,.int .i64 T.E,.string T.z,.slice a T.q cap] 25;have HN:=Z<|Pst.node ab (.int .i64 4) (.int .i64 T.E) (.string T.z) (.slice a T.q cap) 25;have gU:=Z fun Y W(h:Pst ob own (w.alloc<|.cells #[.int .i64 4,.int .i64 T.E,.string T.z,.slice a T.q cap] 25) Y W)I=>h.block (T:=T) (nT T ih) d (.slice a T.q cap) hf (bb ab hr<|.cells #[.int .i64 4,.int .i64 T.E,.string T.z,.slice a T.q cap] 25) hE I;rw[aE]at gU;have HB:=Z I;clear hE I hr hf ax ab z aE;have aqK:=kk;exact Re
theorem U7 (T:Nd)(z:T.y=10)(ih:Ui T):vR T:=by have aqA:=kk;exact Rf
theorem WK (T:Nd)(z:T.y=10)(h0:T.q=2)(Vu:qY (T.f 1)):Ui T:=by have aqB:=kk;exact Rf
theorem WJ (T:Nd)(z:T.y=10)(h0:T.q=3)(h2:(T.f 2).y=10)(Vu:qY (T.f 1))(ih2:Ui (T.f 2)):Ui T:=by have aqC:=kk;exact Rf
theorem WI (T:Nd)(z:T.y=10)(h0:T.q=3)(h2:(T.f 2).y=4)(Vu:qY (T.f 1))(ih2:qY (T.f 2)):Ui T:=by have aqD:=kk;exact Rf
theorem Pu (T:Nd)(z:T.y=11)(h0:T.q=1)(ih0:qY (T.f 0)):vR T:=by
 intro ob own X d w v ab hf hr ax I;have hn:=T.I hf;rw[ky T z]at I⊢;have k0:(T.f 0).y=4/\(T.f 0).U=true:=by rcases np z ax with h|h;exact h.2;omega
 rw[avo O,show T.q-1=0 by omega]at I⊢;have YB:=Z<|nT (T.f 0) ih0;have HS0:=Z<|iy k0.1 k0.2;have aqs:=kk;exact afR
theorem Pt (T:Nd)(z:T.y=11)(h0:T.q=2)(Vu:qY (T.f 1)):vR T:=by
 intro ob own X d w v ab hf hr ax I;have hn:=T.I hf;rw[ky T z]at I⊢;have k0:(T.f 0).Q=true/\((T.f 1).y=4/\(T.f 1).U=true):=by rcases np z ax with h|h;omega;exact h.2
 have k1:=k0.2;rw[avA h0,show T.q-1=1 by omega]at I⊢;have nh:=Z k0.1;have aqX:=kk;exact af2
def Zn (T:Nd):Prop:=∀(ob:Nat)(own:Option Nat)(X:List UInt8)(w:World)(v:Value),Buf ob w own X->T.R->Row 0 ob w T v->
 X.length+(bG T.E T.z.data.toList fun i=>aJ<|T.f i).length<=1099511627776->Calls prog 134 #[.pointer<|some ⟨ob,0,none⟩,T.val v] w (vK ob X (bG T.E T.z.data.toList fun i=>aJ<|T.f i) own w)
theorem Pst.clause (hT:Zn T)(h:Pst ob ai w0 Y w)(v:Value)(hf:T.R)(hr:Row 0 ob w0 T v)(I:Y.length+(bG T.E T.z.data.toList fun i=>aJ<|T.f i).length<=1099511627776):
  Calls prog 134 #[.pointer<|some ⟨ob,0,none⟩,T.val v] w fun e w'=>e=.returned (.tuple #[])/\Pst ob ai w0 (Y++bG T.E T.z.data.toList (fun i=>aJ<|T.f i)) w':=
 h.lift fun own ab=>hT ob own Y w v ab hf (ah h.below lr hr) I
theorem vn (he:s.toList.isEmpty=true)(p:Nat->X7):bG 1 s.data.toList p=[99,97,115,101,32]++([60,45]++(p 0).ex 6):=by
 have h:s.data.toList=[]:=by rw[avx]at he;simpa using he
 rw[h];rfl
theorem vk (he:s.toList.isEmpty=false)(p:Nat->X7):bG 1 s.data.toList p=[99,97,115,101,32]++((s.data.toList++[32,58,61,32])++([60,45]++(p 0).ex 6)):=by
 have h:¬s.data.toList=[]:=by rw[avx]at he;simpa using he
 unfold bG;rw[avo J,avA rfl,avo h]
theorem cl_0 (T:Nd)(z:T.y=16)(bm:T.E=0)(h0:T.q=1):Zn T:=by
 intro ob own X w v ab hf hr I;have hn:=T.I hf;have vY:bG T.E T.z.data.toList (fun i=>aJ<|T.f i)=[100,101,102,97,117,108,116]:=by rw[bm];rfl
 rw[vY]at I⊢;obtain⟨a,cap,rfl,_⟩:=ar.1 hr;have aE:T.val (.slice a T.q cap)=.agg #[.int .i64 16,.int .i64 0,.string T.z,.slice a 1 cap]:=by unfold Nd.val;rw[z,bm,h0]
 rw[aE];have HP:=Z<|Pst.aj ab<|.cells #[.int .i64 16,.int .i64 0,.string T.z,.slice a 1 cap] 25;have HN:=Z<|Pst.node ab (.int .i64 16) (.int .i64 0) (.string T.z) (.slice a 1 cap) 25;have HB:=Z I;clear I hr hf ab z aE bm h0 vY;generalize T.z=ts at*
 go_enter func134,ntmps134
 have aqu:=kk;exact afS
theorem cl_1a (T:Nd)(z:T.y=16)(bm:T.E=1)(h0:T.q=2)(he:T.z.toList.isEmpty=true)(jv:(T.f 0).Q=true):Zn T:=by
 intro ob own X w v ab hf hr I;have hn:=T.I hf;have vY:bG T.E T.z.data.toList (fun i=>aJ<|T.f i)=[99,97,115,101,32]++([60,45]++(aJ<|T.f 0).ex 6):=by rw[bm];exact vn he _
 rw[vY]at I⊢;exact afN
theorem cl_1b (T:Nd)(z:T.y=16)(bm:T.E=1)(h0:T.q=2)(he:T.z.toList.isEmpty=false)(jv:(T.f 0).Q=true):Zn T:=by
 intro ob own X w v ab hf hr I;have hn:=T.I hf;have vY:bG T.E T.z.data.toList (fun i=>aJ<|T.f i)=[99,97,115,101,32]++((T.z.data.toList++[32,58,61,32])++([60,45]++(aJ<|T.f 0).ex 6)):=by rw[bm];exact vk he _
 rw[vY]at I⊢;have hs:T.z.size<=1099511627776:=by
  have:=I;simp at this;omega
 exact afN
theorem cl_2 (T:Nd)(z:T.y=16)(bm:T.E=2)(h0:T.q=3)(jv:(T.f 0).Q=true)(zn:(T.f 1).Q=true):Zn T:=by
 intro ob own X w v ab hf hr I;have hn:=T.I hf;have vY:bG T.E T.z.data.toList (fun i=>aJ<|T.f i)=[99,97,115,101,32]++((aJ<|T.f 0).ex 1++([32,60,45,32]++(aJ<|T.f 1).ex 1)):=by rw[bm];rfl
 rw[vY]at I⊢;have aqm:=kk;exact afO
theorem Wt (T:Nd)(h:T.aH=true):Zn T:=by
 obtain⟨z,h3,_⟩:=vi h;rcases h3 with⟨a,b⟩|⟨a,b,c⟩|⟨a,b,c,d⟩
 ·exact cl_0 T z a b
 ·cases he:T.z.toList.isEmpty
  ·exact cl_1b T z a b he c
  ·exact cl_1a T z a b he c
 ·exact cl_2 T z a b c d
theorem zD (T:Nd)(z:T.y=16)(d:Nat):(aJ T).cs d=bB d++(bG T.E T.z.data.toList (fun i=>aJ<|T.f i)++([58,10]++(aJ<|T.f<|T.q-1).ad (d+1))):=by
 cases T with
 |nil=>simp[Nd.y]at z
 |mk=>rfl
theorem U4 (T:Nd)(z:T.y=15)(ih:∀i,i<T.q->∀k,k<(T.f i).q->qY ((T.f i).f k)):vR T:=by
 intro ob own X d w v ab hf hr ax I;have hn:=T.I hf;rw[px T z]at I⊢;have HE:=Z<|tN z ax;obtain⟨a,cap,rfl,bo,_⟩:=ar.1 hr;have hd:d<=1099511627776:=by have:=I;simp[bB]at this;omega
 unfold Nd.val;rw[z];have HP:=Z<|Pst.aj ab<|.cells #[.int .i64 15,.int .i64 T.E,.string T.z,.slice a T.q cap] 25;have HN:=Z<|Pst.node ab (.int .i64 15) (.int .i64 T.E) (.string T.z) (.slice a T.q cap) 25;have HR:=Z<|bb ab hr<|.cells #[.int .i64 15,.int .i64 T.E,.string T.z,.slice a T.q cap] 25;have HI:=Z ih;have HF:=Z hf;have HB:=Z I;clear I hr hf ab ih bo ax z;generalize hF:(fun i=>(aJ<|T.f i).cs d)=F at*
 have vH:=Z hF;have FJ:=Z fun i(h:i<T.q)=>gO F h;clear hF;have aqL:=kk;exact Re
theorem U9 (T:Nd):PrC T:=by
 have step:∀T:Nd,(∀i,i<T.q->PrC (T.f i))->PrC T:=by
  intro T ih;have Bf:qY T:=JY T fun i hi=>(ih i hi).sm;have hbr:T.y=10->Ui T:=by
   intro z ob own X d w v ab hf hr ax I;obtain⟨hl,_,_,h2⟩:=lO z ax;rcases hl with hl|hl
   ·exact WK T z hl (ih 1 O).ad ob own X d w v ab hf hr ax I
   ·rcases(h2 hl).1 with h|h
    ·exact WI T z hl h (ih 1 O).ad (ih 2 O).ad ob own X d w v ab hf hr ax I
    ·exact WJ T z hl h (ih 1 O).ad ((ih 2 O).br h) ob own X d w v ab hf hr ax I
  refine⟨?_,Bf,hbr,fun i hi=>(ih i hi).ad⟩;intro ob own X d w v ab hf hr ax I;by_cases h4:T.y=4
  ·exact pst_4 T h4 Bf ob own X d w v ab hf hr ax I
  by_cases h5:T.y=5
  ·exact pst_5 T h5 ob own X d w v ab hf hr ax I
  by_cases h6:T.y=6
  ·exact pst_6 T h6 ob own X d w v ab hf hr ax I
  by_cases h7:T.y=7
  ·exact pst_7 T h7 ob own X d w v ab hf hr ax I
  by_cases h8:T.y=8
  ·exact pst_8 T h8 ob own X d w v ab hf hr ax I
  by_cases h9:T.y=9
  ·exact pst_9 T h9 ob own X d w v ab hf hr ax I
  by_cases kK:T.y=10
  ·exact U7 T kK (hbr kK) ob own X d w v ab hf hr ax I
  by_cases nH:T.y=11
  ·rcases np nH ax with h|h
   ·exact Pu T nH h.1 (ih 0 O).ad ob own X d w v ab hf hr ax I
   ·exact Pt T nH h.1 (ih 1 O).ad ob own X d w v ab hf hr ax I
  by_cases qM:T.y=12
  ·by_cases h0:T.q=0
   ·exact Ps T qM h0 ob own X d w v ab hf hr ax I
   ·exact Pr T qM h0 ob own X d w v ab hf hr ax I
  by_cases zr:T.y=13
  ·exact U6 T zr ob own X d w v ab hf hr ax I
  by_cases zq:T.y=14
  ·exact U5 T zq ob own X d w v ab hf hr ax I
  by_cases rF:T.y=15
  ·exact U4 T rF (fun i hi=>(ih i hi).gr) ob own X d w v ab hf hr ax I
  by_cases sQ:T.y=17
  ·exact U3 T sQ ob own X d w v ab hf hr ax I
  by_cases wN:T.y=18
  ·exact U2 T wN ob own X d w v ab hf hr ax I
  by_cases wM:T.y=19
  ·exact U1 T wM ob own X d w v ab hf hr ax I
  by_cases wK:T.y=20
  ·exact U0 T wK ob own X d w v ab hf hr ax I
  by_cases uK:T.y=21
  ·exact UZ T uK ob own X d w v ab hf hr ax I
  rw[aM]at ax;simp[aL,h4,h5,h6,h7,h8,h9,kK,nH,qM,zr,zq,rF,sQ,wN,wM,wK,uK]at ax
 induction T with
 |nil=>exact step .nil fun i hi=>absurd hi<|avJ _
 |mk k n s len kids ih=>exact step _ fun i _=>ih i
theorem Av (n:Int)(h0:0<=n)(h3:n<=3)(w:World):Calls prog 37 #[.int .i64 n] w fun e w'=>e=.returned (.string<|cP<|cW n)/\Below w.heap.size w w':=by
 have HB:Hid (∀o,Below w.heap.size w<|w.alloc o):=fun o=>bA;have h:n=0\/n=1\/n=2\/n=3:=O;clear h0 h3;rcases h with rfl|rfl|rfl|rfl;all_goals go_enter func37,ntmps37
 all_goals go_wp2
 all_goals go_ret
 all_goals exact⟨rfl,HB.o _⟩
theorem MC {W:World}{own:Option Nat}(h:Buf ob W own Y):∃a l c,W.cell? ⟨ob,0,none⟩=some (.slice a l c)/\(convert 22 9<|.slice a l c).run prog W=.ok (.string<|cP Y) W:=by
 obtain⟨v,hv,ho,rfl⟩:=h
 have k0:W.cell? ⟨ob,0,none⟩=some v:=by simp[World.cell?,hv]
 rcases ho.2 with⟨rfl,h0⟩|⟨g,cap,cur,rfl,h1,h2,h3,h4,h5,h6⟩
 ·refine⟨none,0,0,k0,?_⟩;have:Y=[]:=avY h0;subst this;rw[run_convert_bytes_string W 22 9 5 none 0 0 underlying22 underlying5 underlying9];simp[Conv.bytesToString];try rfl
 ·refine⟨some ⟨g,0,none⟩,Y.length,cap,k0,?_⟩;refine run_convert_bytes_back (P:=prog) W 22 9 5 ⟨g,0,none⟩ cap Y underlying22 underlying5 underlying9 ?_;intro j hj;have:=ho.cells (g:=g) rfl j (.int .u8 Y[j].toNat) (by simp[vU,hj]);simpa[Addr.add]using this
theorem Pst.join {wr:World}(h:Pst ob ai w0 Y wr):∃own,Buf ob wr own Y/\∀Y' W o,Pst ob own (wr.alloc o) Y' W->Pst ob ai w0 Y' W:=by obtain⟨own,h1,h2⟩:=h.bI;refine⟨own,h1,fun Y' W o h'=>?_⟩;obtain⟨fl,h3,h4⟩:=h'.bI;exact⟨⟨fl,h3,h2.trans<|(Wrote.alloc ob own wr o).trans h4⟩,h.below.trans<|h'.aE h1⟩
theorem zu (h:b6 T=true):(0<=T.E/\T.E<=3)/\1<=T.q/\(∀i,i<T.q-1->0<=(T.f i).E/\(T.f i).E<=3)/\((T.f<|T.q-1).y=4/\(T.f<|T.q-1).U=true):=by
 unfold b6 at h;simp only[avw,avy]at h;obtain⟨⟨⟨⟨h1,h2⟩,h3⟩,h4⟩,h5,h6⟩:=h
 refine⟨h3,h4,fun i hi=>?_,h6⟩;have:=bj.1 h5 i hi;unfold fh at this;simp only[avw,avy]at this;omega
def eI (T:Nd)(i:Nat):List UInt8:=(if i=0 then[]else[44,32])++((T.f i).z.data.toList++32::cW (T.f i).E)
theorem uM (T:Nd):lY T=[102,117,110,99,32]++(T.z.data.toList++(40::(ay (eI T) (T.q-1)++([41,32]++
    ((if T.E=0 then[]else cW T.E++[32])++(aS 0 ((aJ (T.f (T.q-1))).ad 1)++[10])))))):=rfl
theorem J9 (T:Nd)(w:World)(v:Value)(hi:Nat)(hf:T.R)(gB:hi<=w.heap.size)(hr:Row 0 hi w T v)(ax:∀i,i<T.q->b6 (T.f i)=true)(I:(eL T).length<=1099511627776):
  Calls prog 15 #[T.val v] w fun e w'=>e=.returned (.string<|cP<|eL T)/\Below w.heap.size w w':=by
 have hn:=T.I hf;obtain⟨a,cap,rfl,bo,_⟩:=ar.1 hr;unfold Nd.val;obtain⟨w1,z7⟩:∃w1,w.alloc (.cells #[.int .i64 T.y,.int .i64 T.E,.string T.z,.slice a T.q cap] 25)=w1:=⟨_,rfl⟩;have eu:w1.heap.size=w.heap.size+1:=by rw[<-z7];simp
 have hb1:Below w.heap.size w w1:=by rw[<-z7];exact bA
 have ab:=Buf.new w1;have HP:=Z<|Pst.start ab;obtain⟨w2,Hn⟩:∃w2,w1.alloc (.cells #[.slice none 0 0] 78)=w2:=⟨_,rfl⟩;have hb2:Below w1.heap.size w1 w2:=by rw[<-Hn];exact bA
 rw[Hn]at ab HP;have HR:=Z (aY (ah (hb1.trans<|hb2.mono O) gB hr) lr<|show hi<=w1.heap.size by omega);have tE:Hid (∀Y W,Pst w1.heap.size none w2 Y W->W.cell? ⟨w.heap.size,0,none⟩=some (.int .i64 T.y)/\W.cell? ⟨w.heap.size,1,none⟩=some (.int .i64 T.E)/\W.cell? ⟨w.heap.size,2,none⟩=some (.string T.z)/\W.cell? ⟨w.heap.size,3,none⟩=some (.slice a T.q cap)):=by
  intro Y W h;have e:∀o,W.cell? ⟨w.heap.size,o,none⟩=w1.cell? ⟨w.heap.size,o,none⟩:=fun o=>(h.below.cell (p:=⟨w.heap.size,o,none⟩) aar).trans<|hb2.cell (p:=⟨w.heap.size,o,none⟩) aar;rw[e,e,e,e,<-z7];refine⟨?_,?_,?_,?_⟩<;>simp[go_sem]
 have Oc:Hid (Below w.heap.size w w2):=hb1.trans<|hb2.mono O;have HF:=Z hf;have tC:=Z ax;have HB:=Z I;have Cp:Hid (eL T=ay (fun i=>(if i=0 then[]else[10])++lY (T.f i)) T.q):=rfl;rw[Cp.o]at HB⊢;clear Cp I ax hf hr bo hb1 hb2 ab;have X8:=Z eu;clear eu;generalize hF:(fun i=>(if i=0 then[]else[10])++lY (T.f i))=F at*
 have vH:=Z hF;have FJ:=Z fun i(h:i<T.q)=>gO F h;clear hF;generalize T.z=ts at*
 generalize T.E=tn at*
 generalize T.y=tk at*
 go_enter func15,ntmps15
 go_wp2;clear z7 Hn;go_loopw[4] (fun i wr=>∃j:Nat,j<=T.q/\i=.int .i64 j/\Hid (Pst w1.heap.size none w2 (ay F j) wr)) (fun i _=>T.q-(intOf i).toNat)
 case atStart=>exact⟨0,O,rfl,HP⟩
 case round=>
  obtain⟨j,hj,rfl,HP⟩:=hrel;generalize wr=wf at*
  obtain⟨b0,b1,b2,b3⟩:=tE.o _ _ HP.o;by_cases be:j<T.q
  ·have aqp:=kk;exact afP
  ·obtain rfl:j=T.q:=O;obtain⟨own,oE,_⟩:=HP.o.bI;obtain⟨sa,sl,sc,k0,hcv⟩:=MC oE;have HBE:=Z<|Oc.o.trans<|HP.o.below.mono (by have:=X8.o;omega);clear oE;go_wp2;go_ret;exact⟨rfl,HBE.o⟩
def yl (T:Nd):Int:=if cJ T then 0 else 1
theorem ph (h:cJ T=true):∀i,i<T.q->b6 (T.f i)=true:=by unfold cJ at h;simp only[avw]at h;exact bj.1 h.2
theorem C2 (T:Nd)(w:World)(u:Value)(hi:Nat)(hf:T.R)(gB:hi<=w.heap.size)(hr:Row 0 hi w T u)(hlen:cJ T=true->(eL T).length<=1099511627776):
  Calls prog 6 #[T.val u] w fun e w'=>e=.returned (.tuple #[.string<|cP<|rs T,.int .i64<|yl T])/\Below w.heap.size w w':=by
 obtain⟨a,cap,rfl,_⟩:=ar.1 hr;have aR:Below w.heap.size w (w.alloc<|.cells #[.int .i64 T.y,.int .i64 T.E,.string T.z,.slice a T.q cap] 25):=bA;have SP:=Z fun W(hW:Below w.heap.size w W)=>GM T W (.slice a T.q cap) hi hf (by have:=hW.size;omega)<|ah hW gB hr;have SL:=Z fun(h:cJ T=true)W(hW:Below w.heap.size w W)=>J9 T W (.slice a T.q cap) hi hf (by have:=hW.size;omega) (ah hW gB hr) (ph h)<|hlen h;have dC:=Z aR;have HE:Hid (rs T=if cJ T then eL T else[]):=rfl;have HC:Hid (yl T=if cJ T then 0 else 1):=rfl;clear hf hr hlen aR;unfold Nd.val at*
 cases ht:cJ T
 ·rw[ht]at SP;rw[HE.o,HC.o,ht];clear SL HE HC;go_enter func6,ntmps6
  go_wp2_with(go_at_call 14;refine(SP.o _ (by first|exact avB _ _|exact dC.o)).mono ?_;rintro e w2 ⟨rfl,hb2⟩;have gi:=Z hb2;clear hb2)
  refine avr (v:=.tuple #[.string<|cP [],.int .i64 1]) (by simp[results,results6,go_sem,cP]) rfl ⟨rfl,?_⟩;exact dC.o.trans<|gi.o.mono M
 ·rw[ht]at SP;have SL:=Z<|SL.o ht;rw[HE.o,HC.o,ht];simp only[if_true];have ba:cP (eL T)=cP (eL T):=rfl;generalize cP (eL T)=tx at*
  clear HE HC;go_enter func6,ntmps6
  go_wp2_with(first
   |(go_at_call 14;refine(SP.o _ dC.o).mono ?_;rintro e w2 ⟨rfl,hb2⟩;have gi:=Z<|dC.o.trans<|hb2.mono M;have ed:=hb2.size;have q0:=(hb2.cell (p:=⟨w.heap.size,0,none⟩) M);have q1:=(hb2.cell (p:=⟨w.heap.size,1,none⟩) M);have q2:=(hb2.cell (p:=⟨w.heap.size,2,none⟩) M);have q3:=(hb2.cell (p:=⟨w.heap.size,3,none⟩) M);clear hb2)
   |(go_at_call 15;refine(SL.o _ gi.o).mono ?_;rintro e w3 ⟨rfl,hb3⟩;have lC:=Z (gi.o.trans (hb3.mono abe));clear hb3))
  refine avr (v:=.tuple #[.string tx,.int .i64 0]) (by simp[results,results6,go_sem]) rfl ⟨rfl,?_⟩;exact lC.o
end Go.Proofs.YtgcmhaghebhjnaaGreatDoor
