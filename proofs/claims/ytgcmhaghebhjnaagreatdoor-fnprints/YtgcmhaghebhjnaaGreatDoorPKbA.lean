import Derived.Test.YtgcmhaghebhjnaaGreatDoorPKaBase
import Derived.Deep.LoopGhost
set_option linter.unusedVariables false
set_option maxHeartbeats 16000000
set_option maxRecDepth 100000
namespace Go.Proofs.YtgcmhaghebhjnaaGreatDoor
open Go.RowKit Tryz List
variable {b :Bool} {n:Nat}
variable {G :Prop}
theorem ac6 (h:G:=by have ak5:=kk;exact adp):G:=h
theorem ac7 (h:G:=by have ak0:=kk;exact adm):G:=h
theorem adi (h:G:=by have ak9:=kk;exact XG):G:=h
theorem adr (h:G:=by have ak2:=kk;exact adn):G:=h
theorem adB (h:G:=by
 have LW:(K.y==4)=true:=avV.2 z;replace tB:Hid (res=K.U):=by have:=tB.o;simpa[z,Hid]using this
 clear z;exact adf):G:=h
theorem adJ (h:G:=by
 cases hx:K.Q;all_goals have HX:=Z hx
 all_goals clear hx
 all_goals go_wp2_with(go_at_call 130;refine(HCE.o _ _ hi ng.o aah<|ah (bA) O HU.o).mono ?_;rw[HX.o];rintro e w1 ⟨rfl,hb1⟩)
 ·exact adl
 ·exact adk):G:=h
theorem adK (h:G:=by
 have HO:Hid (b6 T=false):=by unfold Hid;rw[fF.o];simp;omega
 exact adg):G:=h
theorem adL (h:G:=by
 have Yi:Hid (pb=false):=by unfold Hid;rw[CG.o];simp;omega
 exact adh):G:=h
theorem adM (h:G:=by have alF:=kk;exact adD):G:=h
theorem adN (h:G:=by exact adh):G:=h
theorem ac8 (h:G:=by
 replace tB:Hid (res=false):=by have:=tB.o;simpa[z,Hid]using this
 clear z;exact adj):G:=h
theorem ac9 (h:G:=by
 cases h1:(tn !=0);all_goals go_enter func62,ntmps62
 all_goals go_wp2
 all_goals go_ret
 all_goals exact⟨aw (by rw[fF.o];simp only[ao,he];rfl),(HB _).o⟩):G:=h
theorem XJ (h:G:=by
 go_roundg (T.q-(j+1))
 case rel=>exact⟨j+1,rfl,O,by go_num,HY.o HX.o,I.trans<|hb1.mono iY⟩
 case measure=>have:=sV.o;omega):G:=h
theorem ada (h:G:=by obtain rfl:j=T.q:=O;go_wp2;go_ret;exact⟨aw (by rw[fF.o,eZ bl.o];simp only[ao,he,mS h1];rfl),fH⟩):G:=h
theorem adb (h:G:=by
 go_enter func62,ntmps62
 go_wp2;go_ret;exact⟨aw (by rw[fF.o];simp only[ao,he,mS h1];rfl),(HB _).o⟩):G:=h
theorem ade (h:G:=by rw[I.cell (p:=⟨w.heap.size,3,none⟩) aar];simp):G:=h
theorem XI (h:G:=by go_ret;exact⟨aw (HN.o HX.o),fH.trans (hb1.mono sP)⟩):G:=h
theorem adf (h:G:=by
 cases hx:K.U;all_goals have HX:=Z hx
 all_goals clear hx
 all_goals go_wp2_with(go_at_call 62;refine(Sa.o _ _ hi ng.o aah<|ah (bA) O HU.o).mono ?_;rw[HX.o];rintro e w1 ⟨rfl,hb1⟩)
 ·exact adl
 ·exact adk):G:=h
theorem adg (h:G:=by have alD:=kk;exact adC):G:=h
theorem adh (h:G:=by have alM:=kk;exact adH):G:=h
theorem adj (h:G:=by go_wp2;go_ret;exact⟨aw (HN.o (by rw[tB.o])),fH.trans ((avB _ _).alloc O _)⟩):G:=h
theorem adk (h:G:=by
 go_roundg (T.q-(j+1))
 case rel=>exact⟨j+1,rfl,O,by go_num,HY.o (by rw[tB.o,HX.o]),I.trans<|((avB _ _).alloc O _).trans<|hb1.mono aah⟩
 case measure=>have:=sV.o;omega):G:=h
theorem adl (h:G:=by go_ret;exact⟨aw (HN.o (by rw[tB.o,HX.o])),fH.trans (((avB _ _).alloc O _).trans (hb1.mono aah))⟩):G:=h
theorem XH (h:G:=by go_ret;exact⟨aw HO.o.symm,(HB _).o.trans (hb1.mono M)⟩):G:=h
theorem adm (h:G:=by have alg:=kk;exact XF):G:=h
theorem adn (h:G:=by have alh:=kk;exact XF):G:=h
theorem ado (h:G:=by have alr:=kk;exact adx):G:=h
theorem adp (h:G:=by have alj:=kk;exact adu):G:=h
theorem XG (h:G:=by have ali:=kk;exact XF):G:=h
theorem adq (h:G:=by have alm:=kk;exact adv):G:=h
theorem ads (h:G:=by have alk:=kk;exact adu):G:=h
theorem adt (h:G:=by have aln:=kk;exact adv):G:=h
theorem XF (h:G:=by have alo:=kk;exact adw):G:=h
theorem adu (h:G:=by have alp:=kk;exact adw):G:=h
theorem adv (h:G:=by have alq:=kk;exact adx):G:=h
theorem adw (h:G:=by have als:=kk;exact ady):G:=h
theorem adx (h:G:=by have alu:=kk;exact ady):G:=h
theorem ady (h:G:=by have HE:=Z (fun W(I:Below w.heap.size w W)=>hE W v hi hf aaz (ah I gB hr));have alR:=kk;exact XD):G:=h
theorem adz (h:G:=by have amm:=kk;exact M5):G:=h
theorem adA (h:G:=by have HI:=Z ih;have HF:=Z hf;have HR:=Z hq;have amj:=kk;exact XC):G:=h
theorem XE (h:G:=by
 rcases HR.o with h0|⟨g,off,rfl,g1,g2,g3⟩
 ·omega
 obtain⟨u,e0,e1,e2,e3,hu⟩:=g3 j be;have tg:g<w.heap.size:=O;rw[<-fH.cell (p:=⟨g,_,none⟩) tg]at e0 e1 e2 e3;have HU:=Z<|ah fH gB hu;have HC:=HI.o j be;have ng:=Z<|Nd.aa HF.o be;first
 |clear alz
  have HN:Hid (b6 (T.f j)=false->false=cJ T):=fun h=>by rw[HO.o,il be h]
  have HY:Hid (b6 (T.f j)=true->∀i,i<j+1->b6 (T.f i)=true):=fun h i hi=>by
   by_cases e:i=j
   ·subst e;exact h
   ·exact bl.o i O
  unfold NH Nd.val at HC;have Am:=Z HC;clear g3 HC hu bl;generalize T.f j=K at*
  cases hx:b6 K;all_goals have HX:=Z hx
  all_goals clear hx
  all_goals go_wp2_with(go_at_call 35;refine(Am.o _ _ hi ng.o O HU.o).mono ?_;rw[HX.o];rintro e w1 ⟨rfl,hb1⟩)
  ·exact XI
  ·exact XJ
 |clear alA
  have HN:Hid ((T.f j).U=false->false=T.U):=fun h=>by rw[fF.o,il be h];simp
  have HY:Hid ((T.f j).U=true->∀i,i<j+1->(T.f i).U=true):=fun h i hi=>by
   by_cases e:i=j
   ·subst e;exact h
   ·exact bl.o i O
  unfold fq Nd.val at HC;have Am:=Z HC;clear g3 HC hu bl;generalize T.f j=K at*
  have alL:=kk;exact adG
 |clear alB
  have HN:Hid ((T.f j).aH=false->false=T.U):=fun h=>by rw[fF.o,il be h];simp
  have HY:Hid ((T.f j).aH=true->∀i,i<j+1->(T.f i).aH=true):=fun h i hi=>by
   by_cases e:i=j
   ·subst e;exact h
   ·exact bl.o i O
  unfold yy Nd.val at HC;have Am:=Z HC;clear g3 HC hu bl;generalize T.f j=K at*
  cases hx:K.aH;all_goals have HX:=Z hx
  all_goals clear hx
  all_goals go_wp2_with(go_at_call 102;refine(Am.o _ _ hi ng.o O HU.o).mono ?_;rw[HX.o];rintro e w1 ⟨rfl,hb1⟩)
  ·exact XI
  ·exact XJ):G:=h
theorem adC (h:G:=by
 go_enter func35,ntmps35
 go_wp2_with(go_at_call 61;refine(je _ _ HS.o).mono ?_;rw[cm];rintro e w1 ⟨rfl,hb1⟩;have eu:=hb1.size;simp only[avs]at eu;obtain⟨eO,su⟩:=fc hb1)
 first
 |clear alC
  have DP:=hb1;simp only[avs]at DP;clear hb1 eO su eu cm h0 h3;go_loopg [4] T.q (fun gk i wr=>∃(j:Nat),gk=T.q-j/\j<=T.q-1/\i=.int .i64 j/\Hid (∀i,i<j->fh (T.f i)=true)/\Below (w.heap.size+1) (w.alloc<|.cells #[.int .i64 2,.int .i64 tn,.string ts,.slice a T.q cap] 25) wr)
  case atStart=>exact⟨0,O,O,rfl,(fun i hi=>by omega),DP⟩
  case round=>
   obtain⟨j,nE,hj,rfl,bl,I⟩:=hrel;have sV:=Z nE;clear nE DP;have amn:=kk;exact M5
 |clear alD
  exact XH):G:=h
theorem adD (h:G:=by
 go_enter func14,ntmps14
 go_wp2_with(go_at_call 31;refine(HL.o _ (HB _).o).mono ?_;rw[hl];rintro e w1 ⟨rfl,hb1⟩;have eu:=hb1.size;simp only[avs]at eu;obtain⟨eO,su⟩:=fc hb1)
 first
 |clear alE
  have DP:=hb1;simp only[avs]at DP;clear hb1 eO su eu he hl HL;go_loopg [3] T.q (fun gk i wr=>∃(j:Nat),gk=T.q-j/\j<=T.q/\i=.int .i64 j/\Hid (∀i,i<j->b6 (T.f i)=true)/\Below (w.heap.size+1) (w.alloc<|.cells #[.int .i64 1,.int .i64 0,.string ts,.slice a T.q cap] 25) wr)
  case atStart=>exact⟨0,O,O,rfl,(fun i hi=>by omega),DP⟩
  case round=>
   obtain⟨j,nE,hj,rfl,bl,I⟩:=hrel;have sV:=Z nE;clear nE DP;have amo:=kk;exact M5
 |clear alF
  exact XH):G:=h
theorem adE (h:G:=by
 rcases HR.o with h0|⟨g,off,rfl,h1,h2,h3⟩
 ·omega
 obtain⟨u,e0,e1,e2,e3,hu⟩:=h3 j be;have tg:g<w.heap.size:=O;rw[<-fH.cell (p:=⟨g,_,none⟩) tg]at e0 e1 e2 e3;first
 |clear alG
  obtain⟨au,cu,rfl,_⟩:=ar.1 hu;have HU:=Z<|ah fH gB hu;obtain⟨V5,q8⟩:=HI.o j be;have ng:=Z<|Nd.aa HF.o be;have HN:Hid (bT (fun i=>(T.f i).Q) (fun i=>(T.f i).U) T.kk b5[j].toNat j=false->false=aG (fun i=>(T.f i).Q) (fun i=>(T.f i).U) T.kk T.q b5):=fun h=>by
   rw[Zh.o];exact(il VT (by rw[ED VT];exact h)).symm
  have HY:Hid (bT (fun i=>(T.f i).Q) (fun i=>(T.f i).U) T.kk b5[j].toNat j=true->∀i,i<j+1->bT (fun i=>(T.f i).Q) (fun i=>(T.f i).U) T.kk (b5.data.toList.getD i 0).toNat i=true):=fun h i hi=>by
   by_cases e:i=j
   ·subst e;rw[ED VT];exact h
   ·exact bl.o i O
  have tB:Hid (bT (fun i=>(T.f i).Q) (fun i=>(T.f i).U) T.kk b5[j].toNat j=if b5[j].toNat=101 then(T.f j).Q else if b5[j].toNat=99 then decide ((T.f j).y=25)&&(T.f j).Q else if b5[j].toNat=98 then decide ((T.f j).y=4)&&(T.f j).U else(decide ((T.f j).y=4)||decide ((T.f j).y=10))&&(T.f j).U):=rfl;generalize bT (fun i=>(T.f i).Q) (fun i=>(T.f i).U) T.kk b5[j].toNat j=res at*
  unfold jT Nd.val at V5;unfold fq Nd.val at q8;have HCE:=Z V5;have Sa:=Z q8;clear h3 V5 q8 hu bl;generalize T.f j=K at*
  have ll:((b5[j].toNat:Int)==101)=true\/(((b5[j].toNat:Int)==101)=false/\((b5[j].toNat:Int)==99)=true)\/(((b5[j].toNat:Int)==101)=false/\((b5[j].toNat:Int)==99)=false/\((b5[j].toNat:Int)==98)=true)\/
    (((b5[j].toNat:Int)==101)=false/\((b5[j].toNat:Int)==99)=false/\((b5[j].toNat:Int)==98)=false):=by
   cases h1:((b5[j].toNat:Int)==101)<;>cases h2:((b5[j].toNat:Int)==99)<;>cases h3:((b5[j].toNat:Int)==98)<;>simp
  rcases ll with q1|⟨q1,q2⟩|⟨q1,q2,q3⟩|⟨q1,q2,q3⟩
  ·have p1:b5[j].toNat=101:=by have:=avV.1 q1;omega
   replace tB:Hid (res=K.Q):=by have:=tB.o;rw[avA p1]at this;exact this
   clear p1;exact adJ
  ·have p1:¬b5[j].toNat=101:=by have:=avH.1 q1;omega
   have p2:b5[j].toNat=99:=by have:=avV.1 q2;omega
   replace tB:Hid (res=(decide (K.y=25)&&K.Q)):=by have:=tB.o;rw[avo p1,avA p2]at this;exact this
   clear p1 p2;by_cases z:K.y=25
   ·have LW:(K.y==25)=true:=avV.2 z;replace tB:Hid (res=K.Q):=by have:=tB.o;simpa[z,Hid]using this
    clear z;exact adJ
   ·have LW:(K.y==25)=false:=bn z;exact ac8
  ·have p1:¬b5[j].toNat=101:=by have:=avH.1 q1;omega
   have p2:¬b5[j].toNat=99:=by have:=avH.1 q2;omega
   have p3:b5[j].toNat=98:=by have:=avV.1 q3;omega
   replace tB:Hid (res=(decide (K.y=4)&&K.U)):=by have:=tB.o;rw[avo p1,avo p2,avA p3]at this;exact this
   clear p1 p2 p3;by_cases z:K.y=4
   ·exact adB
   ·have LW:(K.y==4)=false:=bn z;exact ac8
  ·have p1:¬b5[j].toNat=101:=by have:=avH.1 q1;omega
   have p2:¬b5[j].toNat=99:=by have:=avH.1 q2;omega
   have p3:¬b5[j].toNat=98:=by have:=avH.1 q3;omega
   replace tB:Hid (res=((decide (K.y=4)||decide (K.y=10))&&K.U)):=by have:=tB.o;rw[avo p1,avo p2,avo p3]at this;exact this
   clear p1 p2 p3;by_cases z:K.y=4
   ·exact adB
   ·have LW:(K.y==4)=false:=bn z;by_cases iR:K.y=10
    ·have hkb2:(K.y==10)=true:=avV.2 iR;replace tB:Hid (res=K.U):=by have:=tB.o;simpa[iR,Hid]using this
     clear z iR;exact adf
    ·have hkb2:(K.y==10)=false:=bn iR;replace tB:Hid (res=false):=by have:=tB.o;simpa[z,iR,Hid]using this
     clear z iR;exact adj
 |clear alH
  have HU:=Z<|ah fH gB hu;have HC:=HI.o j be;have ng:=Z<|Nd.aa HF.o be;have VQ:mz S left j=((left-(S j+1):Nat):Int):=by unfold mz;rw[avA eE]
  have HLN:Hid (o4 (T.f j).size (left-(S j+1))=mz S left (j+1)):=by
   unfold Hid o4 mz;rw[NY];split<;>split<;>omega
  unfold FC Nd.val at HC;have Am:=Z HC;clear h3 HC hu NY;generalize T.f j=K at*
  rw[VQ];go_wp2_with(go_at_call 31;refine(Am.o _ (left-(S j+1)) _ hi ng.o O HU.o O).mono ?_;rw[HLN.o];rintro e w1 ⟨rfl,hb1⟩)
  exact⟨⟨j+1,O,by go_num,rfl,I.trans (hb1.mono iY)⟩,by simp[intOf];omega⟩):G:=h
theorem adF (h:G:=by
 unfold Nd.val at*
 subst hv;clear hf hr hq bY;generalize T.y=tk at*
 generalize T.E=tn at*
 generalize T.z=ts at*
 cases he:ts.toList.isEmpty;all_goals cases h1:(tn !=0)
 first
 |clear alI
  all_goals go_enter func62,ntmps62
  all_goals go_wp2
  all_goals go_ret
  all_goals exact⟨aw fF.o.symm,(HB _).o⟩
 |clear alJ
  all_goals go_enter func130,ntmps130
  all_goals go_wp2
  all_goals go_ret
  all_goals exact⟨aw fF.o.symm,(HB _).o⟩):G:=h
theorem adG (h:G:=by
 cases hx:K.U;all_goals have HX:=Z hx
 all_goals clear hx
 all_goals go_wp2_with(go_at_call 62;refine(Am.o _ _ hi ng.o O HU.o).mono ?_;rw[HX.o];rintro e w1 ⟨rfl,hb1⟩)
 first
 |clear alK
  all_goals go_ret
  all_goals exact⟨aw (by rw[Za.o,HX.o]),fH.trans<|hb1.mono sP⟩
 |clear alL
  ·exact XI
  ·exact XJ):G:=h
theorem adH (h:G:=by
 go_wp2_with(go_at_call 61;refine(je _ _ HSJ.o).mono ?_;rw[cm];rintro e w1 ⟨rfl,hb1⟩;have eu:=hb1.size;simp only[avs]at eu;obtain⟨eO,su⟩:=fc hb1)
 first
 |clear alM
  go_ret;exact⟨aw<|HN.o Yi.o,fH.trans<|(((Tw _).o.trans<|hb1.mono M)).mono sP⟩
 |clear alN
  go_roundg (T.q-(j+1))
  case rel=>exact⟨j+1,rfl,O,by go_num,HY.o Yi.o,I.trans<|(((Tw _).o.trans<|hb1.mono M)).mono iY⟩
  case measure=>have:=sV.o;omega):G:=h
theorem adI (h:G:=by
 intro w v hi hf gB hr;have hn:=T.I hf;have hs:=T.ba hf;obtain⟨a,cap,hv,bo,hq⟩:=ar.1 hr;have HB:∀o:Obj,Hid (Below w.heap.size w<|w.alloc o):=fun o=>bA;first
 |clear alO
  have alS:=kk;exact XD
 |clear alP
  have HS:Hid (T.z.size<=maxLen):=by unfold Hid maxLen;exact hs
  have fF:Hid (b6 T=(decide (T.y=2)&&aK T.z&&(decide (0<=T.E)&&decide (T.E<=3))&&decide (1<=T.q)&&(aD (fun i=>fh<|T.f i) (T.q-1)&&(decide ((T.f<|T.q-1).y=4)&&(T.f<|T.q-1).U)))):=rfl;have HI:=Z ih;have HF:=Z hf;have HR:=Z hq;unfold Nd.val at*
  subst hv;clear hf hr hs hq bo ih;generalize T.y=tk at*
  generalize T.E=tn at*
  generalize T.z=ts at*
  by_cases z:tk=2
  case neg=>
   have m1:(tk !=2)=true:=by rw[awz];exact z
   have HO:Hid (b6 T=false):=by unfold Hid;rw[fF.o];simp[z]
   clear z;go_enter func35,ntmps35
   go_wp2;go_ret;exact⟨aw HO.o.symm,(HB _).o⟩
  subst z;cases cm:aK ts
  ·have HO:Hid (b6 T=false):=by unfold Hid;rw[fF.o,cm];simp
   exact adg
  by_cases h0:tn<0
  ·exact adK
  by_cases h3:3<tn
  ·exact adK
  by_cases hl:T.q<1
  ·exact adK
  have HO:Hid (b6 T=(aD (fun i=>fh<|T.f i) (T.q-1)&&(decide ((T.f<|T.q-1).y=4)&&(T.f<|T.q-1).U))):=by
   unfold Hid;rw[fF.o,cm];have q1:0<=tn:=O;have q2:tn<=3:=O;have q3:1<=T.q:=O;simp[q1,q2,q3]
  clear fF;have LS:(1:Int)<=(T.q:Int):=O;have alC:=kk;exact adC):G:=h
theorem XD (h:G:=by
 have HK:=Z fun W(I:Below w.heap.size w W)b5=>hK W v hi b5 hf aaz<|ah I gB hr;first
 |clear alQ
  have HQ:=Z hq;have amk:=kk;exact XC
 |clear alR
  have HQ:=Z hq;have HS:Hid (T.z.size<=maxLen):=by unfold Hid maxLen;exact hs
  have aml:=kk;exact XC
 |clear alS
  have HS:Hid (T.z.size<=maxLen):=by unfold Hid maxLen;exact hs
  by_cases z:T.y=16
  ·have fF:Hid (T.aH=gP 16 T.E T.z T.q (fun i=>(T.f i).Q) (fun i=>(T.f i).U) T.kk):=by have:=lI T;rw[z]at this;exact this
   unfold Nd.val at HK⊢;rw[z]at HK⊢;subst hv;clear hf hr hK hs z hq bo;generalize T.E=tn at*
   generalize T.z=ts at*
   by_cases c0:tn=0
   ·subst c0;cases he:ts.toList.isEmpty;all_goals cases iV:aG (fun i=>(T.f i).Q) (fun i=>(T.f i).U) T.kk T.q ⟨#[98]⟩
    all_goals go_enter func102,ntmps102
    all_goals go_wp2_with((go_at_call 101;refine(HK.o _ aae ⟨#[98]⟩ J).mono ?_;rw[iV];rintro e w2 ⟨rfl,hb2⟩;have ed:=hb2.size;(try simp only[avs]at ed);obtain⟨jQ,wi⟩:=fc hb2))
    all_goals go_ret
    all_goals refine⟨aw abi,?_⟩
    all_goals first|exact(HB _).o|exact(HB _).o.trans<|hb2.mono M
   by_cases c1:tn=1
   ·subst c1;cases he:ts.toList.isEmpty;all_goals cases cm:aK ts
    all_goals cases iV:aG (fun i=>(T.f i).Q) (fun i=>(T.f i).U) T.kk T.q ⟨#[101,98]⟩
    all_goals go_enter func102,ntmps102
    all_goals go_wp2_with(first|(go_at_call 61;refine(je _ _ HS.o).mono ?_;rw[cm];rintro e w1 ⟨rfl,hb1⟩;have eu:=hb1.size;simp only[avs]at eu;obtain⟨eO,su⟩:=fc hb1)|(go_at_call 101;refine(HK.o _ aae ⟨#[101,98]⟩ J).mono ?_;rw[iV];rintro e w2 ⟨rfl,hb2⟩;have ed:=hb2.size;(try simp only[avs]at ed);obtain⟨jQ,wi⟩:=fc hb2))
    all_goals go_ret
    all_goals refine⟨aw (by rw[fF.o];unfold gP;simp only[ao,he,cm,iV];rfl),?_⟩
    all_goals first|exact(HB _).o|exact(HB _).o.trans (hb1.mono M)|exact(HB _).o.trans (hb2.mono M)|exact((HB _).o.trans<|hb1.mono M).trans<|hb2.mono O
   by_cases c2:tn=2
   ·subst c2;cases he:ts.toList.isEmpty;all_goals cases iV:aG (fun i=>(T.f i).Q) (fun i=>(T.f i).U) T.kk T.q ⟨#[101,101,98]⟩
    all_goals go_enter func102,ntmps102
    all_goals go_wp2_with((go_at_call 101;refine(HK.o _ aae ⟨#[101,101,98]⟩ J).mono ?_;rw[iV];rintro e w2 ⟨rfl,hb2⟩;have ed:=hb2.size;(try simp only[avs]at ed);obtain⟨jQ,wi⟩:=fc hb2))
    all_goals go_ret
    all_goals refine⟨aw abi,?_⟩
    all_goals first|exact(HB _).o|exact(HB _).o.trans<|hb2.mono M
   ·have HF:Hid (T.aH=false):=by unfold Hid;rw[fF.o];unfold gP;rw[avA rfl,avo c0,avo c1,avo c2,Bool.and_false]
    have n0:(tn==0)=false:=bn c0;have n1:(tn==1)=false:=bn c1;have n2:(tn==2)=false:=bn c2;have m1:(tn !=1)=true:=by rw[awz];exact c1
    clear c0 c1 c2;cases he:ts.toList.isEmpty;all_goals go_enter func102,ntmps102
    all_goals go_wp2
    all_goals go_ret
    all_goals exact⟨aw HF.o.symm,(HB _).o⟩
  ·have HF:=Z<|MK T z;have m1:(T.y !=16)=true:=by rw[awz];exact z
   unfold Nd.val at*
   subst hv;clear hf hr hK hs z hq bo;generalize T.y=tk at*
   generalize T.E=tn at*
   generalize T.z=ts at*
   go_enter func102,ntmps102
   go_wp2;go_ret;exact⟨aw HF.o.symm,(HB _).o⟩):G:=h
theorem Rq (h:G:=by
 have sP:=fH.size;have iY:w.heap.size+1<=wr.heap.size:=by have:=I.size;simpa using this
 by_cases be:j<T.q;first
 |clear alT
  first
  |clear alv
   ·have VT:j<b5.size:=by have:=RZ.o;omega
    have alG:=kk;exact adE
   ·obtain rfl:j=T.q:=O;have VT:¬T.q<b5.size:=by have:=RZ.o;omega
    go_wp2;go_ret;exact⟨aw (by rw[Zh.o];exact(eZ (by rw[<-RZ.o];exact bl.o)).symm),fH⟩
  |clear alw
   ·have h1':=N6.o j be;have NY:=mW.o j;by_cases eE:S j+1<=left
    ·have alH:=kk;exact adE
    ·have VQ:mz S left j=-1:=by unfold mz;rw[avo eE]
     rw[VQ];go_wp2;go_ret;exact⟨jI (by unfold o4;rw[HZE.o,avo O]),fH⟩
   ·obtain rfl:j=T.q:=O;go_wp2;go_ret;exact⟨jI (by unfold o4 mz;rw[HZE.o];split<;>split<;>omega),fH⟩
 |clear alU
  ·have alA:=kk;exact XE
  ·exact ada
 |clear alV
  ·have alB:=kk;exact XE
  ·exact ada
 |clear alW
  ·have alz:=kk;exact XE
  ·obtain rfl:j=T.q:=O;go_wp2;go_ret;exact⟨aw (by rw[HO.o,eZ bl.o]),fH⟩):G:=h
theorem kU (h:G:=by
 intro w v hi hf gB hr;have hn:=T.I hf;have hs:=T.ba hf;obtain⟨a,cap,hv,_,hq⟩:=ar.1 hr;first
 |clear alX
  have fF:Hid (T.Q=bq 22 T.E T.z T.q (fun i=>(T.f i).Q) (fun i=>(T.f i).U) T.kk):=by have:=bD T;rw[z]at this;exact this
  have alc:=kk;exact ads
 |clear alY
  have fF:Hid (T.Q=bq 23 T.E T.z T.q (fun i=>(T.f i).Q) (fun i=>(T.f i).U) T.kk):=by have:=bD T;rw[z]at this;exact this
  have ald:=kk;exact ads
 |clear al9
  have fF:Hid (T.Q=bq 24 T.E T.z T.q (fun i=>(T.f i).Q) (fun i=>(T.f i).U) T.kk):=by have:=bD T;rw[z]at this;exact this
  have ala:=kk;exact adq
 |clear amc
  have fF:Hid (T.Q=bq 25 T.E T.z T.q (fun i=>(T.f i).Q) (fun i=>(T.f i).U) T.kk):=by have:=bD T;rw[z]at this;exact this
  have alb:=kk;exact adq
 |clear amd
  have fF:Hid (T.Q=bq 26 T.E T.z T.q (fun i=>(T.f i).Q) (fun i=>(T.f i).U) T.kk):=by have:=bD T;rw[z]at this;exact this
  have ak7:=kk;exact XG
 |clear ame
  have fF:Hid (T.Q=bq 27 T.E T.z T.q (fun i=>(T.f i).Q) (fun i=>(T.f i).U) T.kk):=by have:=bD T;rw[z]at this;exact this
  have ale:=kk;exact adt
 |clear amf
  have fF:Hid (T.Q=bq 28 T.E T.z T.q (fun i=>(T.f i).Q) (fun i=>(T.f i).U) T.kk):=by have:=bD T;rw[z]at this;exact this
  have alf:=kk;exact adt
 |clear amg
  have fF:Hid (T.Q=bq 29 T.E T.z T.q (fun i=>(T.f i).Q) (fun i=>(T.f i).U) T.kk):=by have:=bD T;rw[z]at this;exact this
  have akZ:=kk;exact adm
 |clear amh
  have fF:Hid (T.U=aL 5 T.E T.z T.q (fun i=>(T.f i).Q) (fun i=>(T.f i).U) (fun i=>(T.f i).aH) T.kk):=by have:=aM T;rw[z]at this;exact this
  exact ac6
 |clear ami
  have fF:Hid (T.U=aL 6 T.E T.z T.q (fun i=>(T.f i).Q) (fun i=>(T.f i).U) (fun i=>(T.f i).aH) T.kk):=by have:=aM T;rw[z]at this;exact this
  exact ac6
 |clear alZ
  have fF:Hid (T.U=aL 7 T.E T.z T.q (fun i=>(T.f i).Q) (fun i=>(T.f i).U) (fun i=>(T.f i).aH) T.kk):=by have:=aM T;rw[z]at this;exact this
  have ak6:=kk;exact adp
 |clear al0
  have fF:Hid (T.U=aL 8 T.E T.z T.q (fun i=>(T.f i).Q) (fun i=>(T.f i).U) (fun i=>(T.f i).aH) T.kk):=by have:=aM T;rw[z]at this;exact this
  have ak8:=kk;exact XG
 |clear al1
  have fF:Hid (T.U=aL 17 T.E T.z T.q (fun i=>(T.f i).Q) (fun i=>(T.f i).U) (fun i=>(T.f i).aH) T.kk):=by have:=aM T;rw[z]at this;exact this
  exact adr
 |clear al2
  have fF:Hid (T.U=aL 19 T.E T.z T.q (fun i=>(T.f i).Q) (fun i=>(T.f i).U) (fun i=>(T.f i).aH) T.kk):=by have:=aM T;rw[z]at this;exact this
  exact ac7
 |clear al3
  have fF:Hid (T.U=aL 20 T.E T.z T.q (fun i=>(T.f i).Q) (fun i=>(T.f i).U) (fun i=>(T.f i).aH) T.kk):=by have:=aM T;rw[z]at this;exact this
  exact ac7
 |clear al4
  have fF:Hid (T.U=aL 21 T.E T.z T.q (fun i=>(T.f i).Q) (fun i=>(T.f i).U) (fun i=>(T.f i).aH) T.kk):=by have:=aM T;rw[z]at this;exact this
  exact ac7
 |clear al5
  have fF:Hid (T.U=aL 18 T.E T.z T.q (fun i=>(T.f i).Q) (fun i=>(T.f i).U) (fun i=>(T.f i).aH) T.kk):=by have:=aM T;rw[z]at this;exact this
  exact adr
 |clear al6
  have fF:Hid (T.U=aL 13 T.E T.z T.q (fun i=>(T.f i).Q) (fun i=>(T.f i).U) (fun i=>(T.f i).aH) T.kk):=by have:=aM T;rw[z]at this;exact this
  exact adi
 |clear al7
  have fF:Hid (T.U=aL 14 T.E T.z T.q (fun i=>(T.f i).Q) (fun i=>(T.f i).U) (fun i=>(T.f i).aH) T.kk):=by have:=aM T;rw[z]at this;exact this
  exact adi
 |clear al8
  have fF:Hid (T.U=aL 12 T.E T.z T.q (fun i=>(T.f i).Q) (fun i=>(T.f i).U) (fun i=>(T.f i).aH) T.kk):=by have:=aM T;rw[z]at this;exact this
  have ak1:=kk;exact adn
 |clear ama
  have fF:Hid (T.U=aL 10 T.E T.z T.q (fun i=>(T.f i).Q) (fun i=>(T.f i).U) (fun i=>(T.f i).aH) T.kk):=by have:=aM T;rw[z]at this;exact this
  have ak3:=kk;exact ado
 |clear amb
  have fF:Hid (T.U=aL 11 T.E T.z T.q (fun i=>(T.f i).Q) (fun i=>(T.f i).U) (fun i=>(T.f i).aH) T.kk):=by have:=aM T;rw[z]at this;exact this
  have ak4:=kk;exact ado):G:=h
theorem XC (h:G:=by
 have HB:∀o:Obj,Hid (Below w.heap.size w<|w.alloc o):=fun o=>bA;unfold Nd.val at*
 rw[z]at*
 subst hv;first
 |clear amj
  clear hf hr z hq ih;generalize T.E=tn at*
  generalize T.z=ts at*
  cases he:ts.toList.isEmpty
  ·exact ac9
  cases h1:(tn !=0);first
  |clear alx
   ·go_enter func62,ntmps62
    go_wp2;go_loopg [4] T.q (fun gk i wr=>∃(j:Nat),gk=T.q-j/\j<=T.q/\i=.int .i64 j/\Hid (∀i,i<j->(T.f i).U=true)/\Below (w.heap.size+1) (w.alloc<|.cells #[.int .i64 4,.int .i64 tn,.string ts,.slice a T.q cap] 25) wr)
    case atStart=>exact⟨0,O,O,rfl,(fun i hi=>by omega),avB _ _⟩
    case round=>
     obtain⟨j,nE,hj,rfl,bl,I⟩:=hrel;have sV:=Z nE;clear nE;have amp:=kk;exact M5
   ·exact adb
  |clear aly
   ·go_enter func62,ntmps62
    go_wp2;go_loopg [5] T.q (fun gk i wr=>∃(j:Nat),gk=T.q-j/\j<=T.q/\i=.int .i64 j/\Hid (∀i,i<j->(T.f i).aH=true)/\Below (w.heap.size+1) (w.alloc<|.cells #[.int .i64 15,.int .i64 tn,.string ts,.slice a T.q cap] 25) wr)
    case atStart=>exact⟨0,O,O,rfl,(fun i hi=>by omega),avB _ _⟩
    case round=>
     obtain⟨j,nE,hj,rfl,bl,I⟩:=hrel;have sV:=Z nE;clear nE;have amq:=kk;exact M5
   ·exact adb
 |clear amk
  clear hf hr hK z hq;generalize T.E=tn at*
  generalize T.z=ts at*
  have Tj:T.kk 0=(T.f 0).y:=rfl;cases iV:aG (fun i=>(T.f i).Q) (fun i=>(T.f i).U) T.kk T.q ⟨#[101]⟩
  ·clear Tj;cases he:ts.toList.isEmpty;all_goals cases h1:(tn !=0)
   all_goals go_enter func62,ntmps62
   all_goals go_wp2_with(go_at_call 101;refine(HK.o _ (HB _).o ⟨#[101]⟩ J).mono ?_;rw[iV];rintro e w2 ⟨rfl,hb2⟩;have ed:=hb2.size;simp only[avs]at ed;obtain⟨jQ,wi⟩:=fc hb2)
   all_goals go_ret
   all_goals refine⟨aw aau,?_⟩
   all_goals first|exact(HB _).o|exact(HB _).o.trans<|hb2.mono M
  ·have LS:=yS iV;rcases HQ.o with h0|⟨g,off,rfl,g1,g2,g3⟩
   ·omega
   obtain⟨u,e0,_⟩:=g3 0 O;simp only[Nat.zero_mul,Nat.add_zero]at e0;rw[<-Tj]at e0;have nh:=Z e0;have be:(0:Int)<(T.q:Int):=O;clear Tj LS e0 g3;generalize sN:T.kk 0=k0 at*
   have Yr:=Z sN;clear sN;cases he:ts.toList.isEmpty;all_goals cases h1:(tn !=0)
   all_goals cases h2:(k0==25)
   all_goals cases h3:(k0==29)
   all_goals go_enter func62,ntmps62
   all_goals go_wp2_with(go_at_call 101;refine(HK.o _ (HB _).o ⟨#[101]⟩ J).mono ?_;rw[iV];rintro e w2 ⟨rfl,hb2⟩;have ed:=hb2.size;simp only[avs]at ed;obtain⟨jQ,wi⟩:=fc hb2;have q0:=(((HB _).o.trans<|hb2.mono M).cell (p:=⟨g,off,none⟩) (by show g<_;omega)).trans nh.o)
   all_goals go_ret
   all_goals refine⟨aw (by rw[fF.o];unfold aL;simp only[ao,he,mS h1,iV,Yr.o,uj h2,uj h3];rfl),?_⟩
   all_goals first|exact(HB _).o|exact(HB _).o.trans<|hb2.mono M
 |clear aml
  clear hf hr hE hK hs z hq;generalize T.E=tn at*
  generalize T.z=ts at*
  first
  |clear als
   cases he:ts.toList.isEmpty;first
   |clear alo
    all_goals cases h1:(tn !=0)
    first
    |clear alg
     all_goals cases iV:aG (fun i=>(T.f i).Q) (fun i=>(T.f i).U) T.kk T.q ⟨#[101]⟩
     first
     |clear akZ
      all_goals go_enter func130,ntmps130
      all_goals go_wp2_with(first|(go_at_call 101;refine(HK.o _ aae ⟨#[101]⟩ J).mono ?_;rw[iV];rintro e w2 ⟨rfl,hb2⟩;have ed:=hb2.size;(try simp only[avs]at ed);obtain⟨jQ,wi⟩:=fc hb2))
      all_goals go_ret
      all_goals refine⟨aw (by rw[fF.o];unfold bq;simp only[ao,he,mS h1,iV];rfl),?_⟩
      all_goals first|exact(HB _).o|exact(HB _).o.trans (hb1.mono M)|exact(HB _).o.trans (hb2.mono M)|exact((HB _).o.trans<|hb1.mono M).trans (hb2.mono O)|exact((HB _).o.trans<|hb2.mono M).trans<|hb3.mono O
     |clear ak0
      all_goals go_enter func62,ntmps62
      all_goals go_wp2_with(first|(go_at_call 101;refine(HK.o _ aae ⟨#[101]⟩ J).mono ?_;rw[iV];rintro e w2 ⟨rfl,hb2⟩;have ed:=hb2.size;(try simp only[avs]at ed);obtain⟨jQ,wi⟩:=fc hb2))
      all_goals go_ret
      all_goals refine⟨aw aau,?_⟩
      all_goals first|exact(HB _).o|exact(HB _).o.trans (hb1.mono M)|exact(HB _).o.trans (hb2.mono M)|exact((HB _).o.trans<|hb1.mono M).trans (hb2.mono O)|exact((HB _).o.trans<|hb2.mono M).trans<|hb3.mono O
    |clear alh
     all_goals cases h3:((T.q:Int)==0)
     first
     |clear ak1
      all_goals cases iV:aG (fun i=>(T.f i).Q) (fun i=>(T.f i).U) T.kk T.q ⟨#[101]⟩
      all_goals go_enter func62,ntmps62
      all_goals go_wp2_with(first|(go_at_call 101;refine(HK.o _ aae ⟨#[101]⟩ J).mono ?_;rw[iV];rintro e w2 ⟨rfl,hb2⟩;have ed:=hb2.size;(try simp only[avs]at ed);obtain⟨jQ,wi⟩:=fc hb2))
      all_goals go_ret
      all_goals refine⟨aw (by rw[fF.o];unfold aL;simp only[ao,he,mS h1,rB h3,iV];rfl),?_⟩
      all_goals first|exact(HB _).o|exact(HB _).o.trans (hb1.mono M)|exact(HB _).o.trans (hb2.mono M)|exact((HB _).o.trans<|hb1.mono M).trans (hb2.mono O)|exact((HB _).o.trans<|hb2.mono M).trans<|hb3.mono O
     |clear ak2
      all_goals go_enter func62,ntmps62
      all_goals go_wp2
      all_goals go_ret
      all_goals refine⟨aw (by rw[fF.o];unfold aL;simp only[ao,he,mS h1,rB h3];rfl),?_⟩
      all_goals first|exact(HB _).o|exact(HB _).o.trans (hb1.mono M)|exact(HB _).o.trans (hb2.mono M)|exact((HB _).o.trans<|hb1.mono M).trans (hb2.mono O)|exact((HB _).o.trans<|hb2.mono M).trans<|hb3.mono O
    |clear ali
     first
     |clear ak7
      all_goals cases h2:decide ((T.q:Int)<2)
      all_goals cases hae:aD (fun i=>(T.f i).Q) T.q
      all_goals go_enter func130,ntmps130
      all_goals go_wp2_with(first|(go_at_call 157;refine(HE.o _ aaP).mono ?_;rw[hae];rintro e w2 ⟨rfl,hb2⟩))
      all_goals go_ret
      all_goals refine⟨aw (by rw[fF.o];unfold bq;simp only[ao,he,mS h1,lt2_b h2,hae];rfl),?_⟩
      all_goals first|exact(HB _).o|exact(HB _).o.trans (hb1.mono M)|exact(HB _).o.trans (hb2.mono M)|exact((HB _).o.trans<|hb1.mono M).trans (hb2.mono O)|exact((HB _).o.trans<|hb2.mono M).trans<|hb3.mono O
     |clear ak8
      all_goals cases iV:aG (fun i=>(T.f i).Q) (fun i=>(T.f i).U) T.kk T.q ⟨#[101,101]⟩
      all_goals go_enter func62,ntmps62
      all_goals go_wp2_with(first|(go_at_call 101;refine(HK.o _ aae ⟨#[101,101]⟩ J).mono ?_;rw[iV];rintro e w2 ⟨rfl,hb2⟩;have ed:=hb2.size;(try simp only[avs]at ed);obtain⟨jQ,wi⟩:=fc hb2))
      all_goals go_ret
      all_goals refine⟨aw aau,?_⟩
      all_goals first|exact(HB _).o|exact(HB _).o.trans (hb1.mono M)|exact(HB _).o.trans (hb2.mono M)|exact((HB _).o.trans<|hb1.mono M).trans (hb2.mono O)|exact((HB _).o.trans<|hb2.mono M).trans<|hb3.mono O
     |clear ak9
      all_goals cases iV:aG (fun i=>(T.f i).Q) (fun i=>(T.f i).U) T.kk T.q ⟨#[99]⟩
      all_goals go_enter func62,ntmps62
      all_goals go_wp2_with(first|(go_at_call 101;refine(HK.o _ aae ⟨#[99]⟩ J).mono ?_;rw[iV];rintro e w2 ⟨rfl,hb2⟩;have ed:=hb2.size;(try simp only[avs]at ed);obtain⟨jQ,wi⟩:=fc hb2))
      all_goals go_ret
      all_goals refine⟨aw aau,?_⟩
      all_goals first|exact(HB _).o|exact(HB _).o.trans (hb1.mono M)|exact(HB _).o.trans (hb2.mono M)|exact((HB _).o.trans<|hb1.mono M).trans (hb2.mono O)|exact((HB _).o.trans<|hb2.mono M).trans<|hb3.mono O
   |clear alp
    first
    |clear alj
     all_goals cases cm:aK ts
     first
     |clear ak5
      all_goals cases h1:(tn !=0)
      all_goals cases iV:aG (fun i=>(T.f i).Q) (fun i=>(T.f i).U) T.kk T.q ⟨#[101]⟩
      all_goals go_enter func62,ntmps62
      all_goals go_wp2_with(first|(go_at_call 61;refine(je _ _ HS.o).mono ?_;rw[cm];rintro e w1 ⟨rfl,hb1⟩;have eu:=hb1.size;simp only[avs]at eu;obtain⟨eO,su⟩:=fc hb1)|(go_at_call 101;refine(HK.o _ aae ⟨#[101]⟩ J).mono ?_;rw[iV];rintro e w2 ⟨rfl,hb2⟩;have ed:=hb2.size;(try simp only[avs]at ed);obtain⟨jQ,wi⟩:=fc hb2))
      all_goals go_ret
      all_goals refine⟨aw (by rw[fF.o];unfold aL;simp only[ao,he,cm,mS h1,iV];rfl),?_⟩
      all_goals first|exact(HB _).o|exact(HB _).o.trans (hb1.mono M)|exact(HB _).o.trans (hb2.mono M)|exact((HB _).o.trans<|hb1.mono M).trans (hb2.mono O)|exact((HB _).o.trans<|hb2.mono M).trans<|hb3.mono O
     |clear ak6
      all_goals cases h1:(tn==1)
      all_goals cases h2:(tn==-1)
      all_goals cases h3:((T.q:Int)==0)
      all_goals go_enter func62,ntmps62
      all_goals go_wp2_with(first|(go_at_call 61;refine(je _ _ HS.o).mono ?_;rw[cm];rintro e w1 ⟨rfl,hb1⟩;have eu:=hb1.size;simp only[avs]at eu;obtain⟨eO,su⟩:=fc hb1))
      all_goals go_ret
      all_goals refine⟨aw (by rw[fF.o];unfold aL;simp only[ao,he,cm,uj h1,uj h2,rB h3];rfl),?_⟩
      all_goals first|exact(HB _).o|exact(HB _).o.trans (hb1.mono M)|exact(HB _).o.trans (hb2.mono M)|exact((HB _).o.trans<|hb1.mono M).trans (hb2.mono O)|exact((HB _).o.trans<|hb2.mono M).trans<|hb3.mono O
    |clear alk
     first
     |clear alc
      all_goals cases h1:decide (0<=tn)
      all_goals cases h2:decide (tn<=999999999999999999)
      all_goals cases h3:((T.q:Int)==0)
      all_goals go_enter func130,ntmps130
      all_goals go_wp2
      all_goals go_ret
      all_goals refine⟨aw (by rw[fF.o];unfold bq;simp only[ao,he,h1,h2,rB h3];rfl),?_⟩
      all_goals first|exact(HB _).o|exact(HB _).o.trans (hb1.mono M)|exact(HB _).o.trans (hb2.mono M)|exact((HB _).o.trans<|hb1.mono M).trans (hb2.mono O)|exact((HB _).o.trans<|hb2.mono M).trans<|hb3.mono O
     |clear ald
      all_goals cases h1:(tn==0)
      all_goals cases h2:(tn==1)
      all_goals cases h3:((T.q:Int)==0)
      all_goals go_enter func130,ntmps130
      all_goals go_wp2
      all_goals go_ret
      all_goals refine⟨aw (by rw[fF.o];unfold bq;simp only[ao,he,uj h1,uj h2,rB h3];rfl),?_⟩
      all_goals first|exact(HB _).o|exact(HB _).o.trans (hb1.mono M)|exact(HB _).o.trans (hb2.mono M)|exact((HB _).o.trans<|hb1.mono M).trans (hb2.mono O)|exact((HB _).o.trans<|hb2.mono M).trans<|hb3.mono O
  |clear alu
   first
   |clear alq
    cases h1:(tn !=0);first
    |clear alm
     all_goals cases cm:aK ts
     first
     |clear ala
      all_goals cases h3:((T.q:Int)==0)
      all_goals go_enter func130,ntmps130
      all_goals go_wp2_with(first|(go_at_call 61;refine(je _ _ HS.o).mono ?_;rw[cm];rintro e w1 ⟨rfl,hb1⟩;have eu:=hb1.size;simp only[avs]at eu;obtain⟨eO,su⟩:=fc hb1))
      all_goals go_ret
      all_goals refine⟨aw (by rw[fF.o];unfold bq;simp only[ao,mS h1,cm,rB h3];rfl),?_⟩
      all_goals first|exact(HB _).o|exact(HB _).o.trans (hb1.mono M)|exact(HB _).o.trans (hb2.mono M)|exact((HB _).o.trans<|hb1.mono M).trans (hb2.mono O)|exact((HB _).o.trans<|hb2.mono M).trans<|hb3.mono O
     |clear alb
      all_goals cases hae:aD (fun i=>(T.f i).Q) T.q
      all_goals go_enter func130,ntmps130
      all_goals go_wp2_with(first|(go_at_call 61;refine(je _ _ HS.o).mono ?_;rw[cm];rintro e w1 ⟨rfl,hb1⟩;have eu:=hb1.size;simp only[avs]at eu;obtain⟨eO,su⟩:=fc hb1)|(go_at_call 157;refine(HE.o _ aaP).mono ?_;rw[hae];rintro e w2 ⟨rfl,hb2⟩))
      all_goals go_ret
      all_goals refine⟨aw (by rw[fF.o];unfold bq;simp only[ao,mS h1,cm,hae];rfl),?_⟩
      all_goals first|exact(HB _).o|exact(HB _).o.trans (hb1.mono M)|exact(HB _).o.trans (hb2.mono M)|exact((HB _).o.trans<|hb1.mono M).trans (hb2.mono O)|exact((HB _).o.trans<|hb2.mono M).trans<|hb3.mono O
    |clear aln
     first
     |clear ale
      all_goals cases h2:(ts.toList==[45])
      all_goals cases h3:(ts.toList==[33])
      all_goals cases iV:aG (fun i=>(T.f i).Q) (fun i=>(T.f i).U) T.kk T.q ⟨#[101]⟩
      all_goals go_enter func130,ntmps130
      all_goals go_wp2_with(first|(go_at_call 101;refine(HK.o _ aae ⟨#[101]⟩ J).mono ?_;rw[iV];rintro e w2 ⟨rfl,hb2⟩;have ed:=hb2.size;(try simp only[avs]at ed);obtain⟨jQ,wi⟩:=fc hb2))
      all_goals go_ret
      all_goals refine⟨aw (by rw[fF.o];unfold bq;simp only[ao,mS h1,h2,h3,iV];rfl),?_⟩
      all_goals first|exact(HB _).o|exact(HB _).o.trans (hb1.mono M)|exact(HB _).o.trans (hb2.mono M)|exact((HB _).o.trans<|hb1.mono M).trans (hb2.mono O)|exact((HB _).o.trans<|hb2.mono M).trans<|hb3.mono O
     |clear alf
      all_goals cases h2:decide (0<bV ts)
      all_goals cases iV:aG (fun i=>(T.f i).Q) (fun i=>(T.f i).U) T.kk T.q ⟨#[101,101]⟩
      all_goals go_enter func130,ntmps130
      all_goals go_wp2_with(first|(go_at_call 158;refine(s6 _ _).mono ?_;rintro e w1 ⟨rfl,hb1⟩;have eu:=hb1.size;simp only[avs]at eu;obtain⟨eO,su⟩:=fc hb1)|(go_at_call 101;refine(HK.o _ aae ⟨#[101,101]⟩ J).mono ?_;rw[iV];rintro e w2 ⟨rfl,hb2⟩;have ed:=hb2.size;(try simp only[avs]at ed);obtain⟨jQ,wi⟩:=fc hb2))
      all_goals go_ret
      all_goals refine⟨aw (by rw[fF.o];unfold bq;simp only[ao,mS h1,h2,iV];rfl),?_⟩
      all_goals first|exact(HB _).o|exact(HB _).o.trans (hb1.mono M)|exact(HB _).o.trans (hb2.mono M)|exact((HB _).o.trans<|hb1.mono M).trans (hb2.mono O)|exact((HB _).o.trans<|hb2.mono M).trans<|hb3.mono O
   |clear alr
    have P1:Hid True:=trivial;cases he:ts.toList.isEmpty;all_goals cases h1:(tn !=0)
    first
    |clear ak3
     all_goals cases iV:aG (fun i=>(T.f i).Q) (fun i=>(T.f i).U) T.kk T.q ⟨#[101,98]⟩
     all_goals cases hkt:aG (fun i=>(T.f i).Q) (fun i=>(T.f i).U) T.kk T.q ⟨#[101,98,105]⟩
     all_goals go_enter func62,ntmps62
     all_goals go_wp2_with(first|(go_at_call 101;clear P1;refine(HK.o _ aae ⟨#[101,98]⟩ J).mono ?_;rw[iV];rintro e w2 ⟨rfl,hb2⟩;have ed:=hb2.size;(try simp only[avs]at ed);obtain⟨jQ,wi⟩:=fc hb2)|(go_at_call 101;refine(HK.o _ aae ⟨#[101,98,105]⟩ J).mono ?_;rw[hkt];rintro e w3 ⟨rfl,hb3⟩;have ed:=hb3.size;(try simp only[avs]at ed);obtain⟨jQ,wi⟩:=fc hb3))
     all_goals go_ret
     all_goals refine⟨aw aaZ,?_⟩
     all_goals first|exact(HB _).o|exact(HB _).o.trans (hb1.mono M)|exact(HB _).o.trans (hb2.mono M)|exact((HB _).o.trans<|hb1.mono M).trans (hb2.mono O)|exact((HB _).o.trans<|hb2.mono M).trans<|hb3.mono O
    |clear ak4
     all_goals cases iV:aG (fun i=>(T.f i).Q) (fun i=>(T.f i).U) T.kk T.q ⟨#[98]⟩
     all_goals cases hkt:aG (fun i=>(T.f i).Q) (fun i=>(T.f i).U) T.kk T.q ⟨#[101,98]⟩
     all_goals go_enter func62,ntmps62
     all_goals go_wp2_with(first|(go_at_call 101;clear P1;refine(HK.o _ aae ⟨#[98]⟩ J).mono ?_;rw[iV];rintro e w2 ⟨rfl,hb2⟩;have ed:=hb2.size;(try simp only[avs]at ed);obtain⟨jQ,wi⟩:=fc hb2)|(go_at_call 101;refine(HK.o _ aae ⟨#[101,98]⟩ J).mono ?_;rw[hkt];rintro e w3 ⟨rfl,hb3⟩;have ed:=hb3.size;(try simp only[avs]at ed);obtain⟨jQ,wi⟩:=fc hb3))
     all_goals go_ret
     all_goals refine⟨aw aaZ,?_⟩
     all_goals first|exact(HB _).o|exact(HB _).o.trans (hb1.mono M)|exact(HB _).o.trans (hb2.mono M)|exact((HB _).o.trans (hb1.mono M)).trans (hb2.mono O)|exact((HB _).o.trans (hb2.mono M)).trans (hb3.mono O)):G:=h
theorem M5 (h:G:=by
 have k3:wr.cell? ⟨w.heap.size,3,none⟩=some (.slice a T.q cap):=by
  exact ade
 first
 |clear amm
  have fH:=(HB<|.cells #[.int .i64 tk,.int .i64 tn,.string ts,.slice a T.q cap] 25).o.trans<|I.mono O;have alT:=kk;exact Rq
 |clear amn
  have fH:=(HB<|.cells #[.int .i64 2,.int .i64 tn,.string ts,.slice a T.q cap] 25).o.trans<|I.mono O;have sP:=fH.size;have iY:w.heap.size+1<=wr.heap.size:=by have:=I.size;simpa using this
  have LY:j<T.q:=O;rcases HR.o with h0|⟨g,off,rfl,g1,g2,g3⟩
  ·omega
  obtain⟨u,e0,e1,e2,e3,hu⟩:=g3 j LY;have tg:g<w.heap.size:=O;rw[<-fH.cell (p:=⟨g,_,none⟩) tg]at e0 e1 e2 e3;by_cases be:j<T.q-1
  ·have Hu:(j:Int)<(T.q:Int)-1:=O;obtain⟨au,cu,rfl,_⟩:=ar.1 hu;have Te:=Nd.ba<|Nd.aa HF.o LY;have HSJ:Hid ((T.f j).z.size<=maxLen):=by unfold Hid maxLen;exact Te
   have HN:Hid (fh (T.f j)=false->false=b6 T):=fun h=>by rw[HO.o,il be h];simp
   have HY:Hid (fh (T.f j)=true->∀i,i<j+1->fh (T.f i)=true):=fun h i hi=>by
    by_cases e:i=j
    ·subst e;exact h
    ·exact bl.o i O
   have CG:Hid (fh (T.f j)=(decide ((T.f j).y=3)&&aK (T.f j).z&&(decide (1<=(T.f j).E)&&decide ((T.f j).E<=3))&&decide ((T.f j).q=0))):=rfl;have Tw:∀o:Obj,Hid (Below wr.heap.size wr<|wr.alloc o):=fun o=>bA;clear g3 hu bl Te;generalize fh (T.f j)=pb at*
   generalize T.f j=P at*
   generalize P.y=pk at*
   generalize P.E=pn at*
   generalize P.z=ps at*
   by_cases z:pk=3
   case neg=>
    have m1:(pk !=3)=true:=by rw[awz];exact z
    have Yi:Hid (pb=false):=by unfold Hid;rw[CG.o];simp[z]
    clear z;go_wp2;go_ret;exact⟨aw<|HN.o Yi.o,fH.trans<|(Tw _).o.mono sP⟩
   subst z;cases cm:aK ps
   ·have Yi:Hid (pb=false):=by unfold Hid;rw[CG.o,cm];simp
    exact adN
   by_cases h0:pn<1
   ·exact adL
   by_cases h3:3<pn
   ·exact adL
   cases Hs:((P.q:Int) !=0)
   ·have Yi:Hid (pb=true):=by
     unfold Hid;rw[CG.o,cm];have q1:1<=pn:=O;have q2:pn<=3:=O;have q3:P.q=0:=by have:(P.q:Int)=0:=(by simpa using Hs);omega
     simp[q1,q2,q3]
    have alN:=kk;exact adH
   ·have Yi:Hid (pb=false):=by
     unfold Hid;rw[CG.o];have q3:¬P.q=0:=by
      intro h;rw[h]at Hs;simp at Hs
     simp[q3]
    exact adN
  ·obtain rfl:j=T.q-1:=O;have lj:((T.q-1:Nat):Int)=(T.q:Int)-1:=O;have FK:Hid (aD (fun i=>fh<|T.f i) (T.q-1)=true):=eZ bl.o;have HU:=Z<|ah fH gB hu;have HC:=HI.o (T.q-1) LY;have ng:=Z<|Nd.aa HF.o LY;have hoff:off+(T.q-1)*4=off+(T.q-1)*4:=rfl;unfold fq Nd.val at HC;have Am:=Z HC;have Za:Hid (b6 T=(decide ((T.f<|T.q-1).y=4)&&(T.f<|T.q-1).U)):=by unfold Hid;rw[HO.o,FK.o,Bool.true_and]
   clear g3 hu bl HC HO FK hoff;generalize T.f (T.q-1)=K at*
   rw[lj]at*
   by_cases z:K.y=4
   ·have LW:(K.y==4)=true:=avV.2 z;replace Za:Hid (b6 T=K.U):=by have:=Za.o;simpa[z,Hid]using this
    clear z;have alK:=kk;exact adG
   ·have LW:(K.y==4)=false:=bn z;replace Za:Hid (b6 T=false):=by have:=Za.o;simpa[z,Hid]using this
    clear z;go_wp2;go_ret;exact⟨aw Za.o.symm,fH⟩
 |clear amo
  have fH:=(HB<|.cells #[.int .i64 1,.int .i64 0,.string ts,.slice a T.q cap] 25).o.trans<|I.mono O;have alW:=kk;exact Rq
 |clear amp
  have fH:=(HB<|.cells #[.int .i64 4,.int .i64 tn,.string ts,.slice a T.q cap] 25).o.trans<|I.mono O;have alU:=kk;exact Rq
 |clear amq
  have fH:=(HB (.cells #[.int .i64 15,.int .i64 tn,.string ts,.slice a T.q cap] 25)).o.trans (I.mono O);have alV:=kk;exact Rq):G:=h
def jT (T:Nd):Prop:=∀(w:World)(v:Value)(hi:Nat),T.R->hi<=w.heap.size->Row 0 hi w T v->
 Calls prog 130 #[T.val v] w fun e w'=>e=.returned (.bool T.Q)/\Below w.heap.size w w'
def fq (T:Nd):Prop:=∀(w:World)(v:Value)(hi:Nat),T.R->hi<=w.heap.size->Row 0 hi w T v->
 Calls prog 62 #[T.val v] w fun e w'=>e=.returned (.bool T.U)/\Below w.heap.size w w'
def yy (T:Nd):Prop:=∀(w:World)(v:Value)(hi:Nat),T.R->hi<=w.heap.size->Row 0 hi w T v->
 Calls prog 102 #[T.val v] w fun e w'=>e=.returned (.bool T.aH)/\Below w.heap.size w w'
def eN (T:Nd):Prop:=∀(w:World)(v:Value)(hi:Nat),T.R->hi<=w.heap.size->Row 0 hi w T v->
 Calls prog 157 #[v] w fun e w'=>e=.returned (.bool<|aD (fun i=>(T.f i).Q) T.q)/\Below w.heap.size w w'
def fE (T:Nd):Prop:=∀(w:World)(v:Value)(hi:Nat)(b5:ByteArray),T.R->hi<=w.heap.size->Row 0 hi w T v->b5.size<=10->
 Calls prog 101 #[T.val v,.string b5] w fun e w'=>e=.returned (.bool<|aG (fun i=>(T.f i).Q) (fun i=>(T.f i).U) T.kk T.q b5)/\Below w.heap.size w w'
theorem Mq (T:Nd)(ih:∀i,i<T.q->jT (T.f i)):eN T:=by
 intro w v hi hf gB hr;have hn:=T.I hf;obtain⟨a,cap,rfl,bo,hq⟩:=ar.1 hr;have HI:=Z ih;have HF:=Z hf;have HR:=Z hq;clear hr hf ih hq bo;go_enter func157,ntmps157
 go_wp2;go_loopw[3] (fun i wr=>∃(j:Nat),j<=T.q/\i=.int .i64 j/\Hid (∀i,i<j->(T.f i).Q=true)/\Below w.heap.size w wr) (fun i _=>T.q-(intOf i).toNat)
 case atStart=>exact⟨0,O,rfl,(fun i hi=>by omega),avB _ _⟩
 case round=>
  obtain⟨j,hj,rfl,bl,I⟩:=hrel;have sP:=I.size;by_cases be:j<T.q
  ·rcases HR.o with h0|⟨g,off,rfl,h1,h2,h3⟩
   ·omega
   obtain⟨u,e0,e1,e2,e3,hu⟩:=h3 j be;have tg:g<w.heap.size:=O;rw[<-I.cell (p:=⟨g,_,none⟩) tg]at e0 e1 e2 e3;have HU:=Z<|ah I gB hu;have HC:=HI.o j be;have ng:=Z<|Nd.aa HF.o be;have HN:Hid ((T.f j).Q=false->aD (fun i=>(T.f i).Q) T.q=false):=fun h=>il be h;have HY:Hid ((T.f j).Q=true->∀i,i<j+1->(T.f i).Q=true):=fun h i hi=>by
    by_cases e:i=j
    ·subst e;exact h
    ·exact bl.o i O
   unfold jT Nd.val at HC;have Am:=Z HC;clear h3 HC hu bl;generalize T.f j=K at*
   cases z:K.Q;all_goals have HX:=Z z
   all_goals clear z
   all_goals go_wp2_with(go_at_call 130;refine(Am.o _ _ hi ng.o O HU.o).mono ?_;rw[HX.o];rintro e w1 ⟨rfl,hb1⟩)
   ·go_ret;exact⟨aw (HN.o HX.o).symm,I.trans<|hb1.mono sP⟩
   ·exact⟨⟨j+1,O,by go_num,HY.o HX.o,I.trans<|hb1.mono sP⟩,by simp[intOf];omega⟩
  ·obtain rfl:j=T.q:=O;go_wp2;go_ret;exact⟨aw (eZ bl.o).symm,I⟩
theorem ED {b5:ByteArray}{j:Nat}(h:j<b5.size):b5.data.toList.getD j 0=b5[j]:=by
 have:j<b5.data.toList.length:=by simpa using h
 simp only[List.getD,av4 this,awy];rfl
theorem PQ (T:Nd)(ih:∀i,i<T.q->jT (T.f i)/\fq (T.f i)):fE T:=by
 intro w v hi b5 hf gB hr hs;have hn:=T.I hf;obtain⟨a,cap,rfl,bo,hq⟩:=ar.1 hr;have HI:=Z ih;have HF:=Z hf;have HR:=Z hq;clear hr hf ih hq bo;unfold Nd.val;generalize T.y=tk;generalize T.E=tn;generalize T.z=ts;have HB:∀a:Obj,Hid (Below w.heap.size w<|w.alloc a):=fun a=>bA;by_cases hlen:T.q=b5.size
 ·have Bs:((T.q:Int) !=(b5.size:Int))=false:=by simp[hlen]
  have Zh:Hid (aG (fun i=>(T.f i).Q) (fun i=>(T.f i).U) T.kk T.q b5=aD (fun i=>bT (fun i=>(T.f i).Q) (fun i=>(T.f i).U) T.kk (b5.data.toList.getD i 0).toNat i) b5.size):=by
   unfold Hid aG;simp[hlen]
  have RZ:=Z hlen;clear hlen;have hle:T.q<=10:=by have:=RZ.o;omega
  go_enter func101,ntmps101
  go_wp2;go_loopg [5] T.q (fun gk i wr=>∃(j:Nat),gk=T.q-j/\j<=T.q/\i=.int .i64 j/\Hid (∀i,i<j->bT (fun i=>(T.f i).Q) (fun i=>(T.f i).U) T.kk (b5.data.toList.getD i 0).toNat i=true)/\Below (w.heap.size+1) (w.alloc<|.cells #[.int .i64 tk,.int .i64 tn,.string ts,.slice a T.q cap] 25) wr)
  case atStart=>exact⟨0,O,O,rfl,(fun i hi=>by omega),avB _ _⟩
  case round=>
   obtain⟨j,nE,hj,rfl,bl,I⟩:=hrel;have sV:=Z nE;clear nE;have alv:=kk;exact adz
 ·have Bs:((T.q:Int) !=(b5.size:Int))=true:=by rw[awz];omega
  have Zh:Hid (aG (fun i=>(T.f i).Q) (fun i=>(T.f i).U) T.kk T.q b5=false):=by
   unfold Hid aG;simp[hlen]
  go_enter func101,ntmps101
  go_wp2;go_ret;exact⟨aw Zh.o.symm,(HB _).o⟩
theorem rB (h:((n:Int)==0)=b):decide (n=0)=b:=by subst h;rw[avN];simp
theorem uj {n m:Int}(h:(n==m)=b):decide (n=m)=b:=by subst h;rw[avN];simp
theorem mS {n:Int}(h:(n !=0)=b):decide (n=0)= !b:=by subst h;rw[avN];simp
theorem lt2_b (h:decide ((n:Int)<2)=b):decide (n<2)=b:=by subst h;rw[avN];simp;omega
theorem fc {W w1:World}(I:Below W.heap.size W w1):(∀b o,b<W.heap.size->w1.cell? ⟨b,o,none⟩=W.cell? ⟨b,o,none⟩)/\(∀b o,b<W.heap.size->w1.frozen? ⟨b,o,none⟩=W.frozen? ⟨b,o,none⟩):=
 ⟨fun b o h=>I.cell (p:=⟨b,o,none⟩) h,fun b o h=>I.frozen (p:=⟨b,o,none⟩) h⟩
theorem QJ (T:Nd)(z:T.y=22)(hE:eN T)(hK:fE T):jT T:=by have alX:=kk;exact kU
theorem QI (T:Nd)(z:T.y=23)(hE:eN T)(hK:fE T):jT T:=by have alY:=kk;exact kU
theorem QH (T:Nd)(z:T.y=24)(hE:eN T)(hK:fE T):jT T:=by have al9:=kk;exact kU
theorem QG (T:Nd)(z:T.y=25)(hE:eN T)(hK:fE T):jT T:=by have amc:=kk;exact kU
theorem QF (T:Nd)(z:T.y=26)(hE:eN T)(hK:fE T):jT T:=by have amd:=kk;exact kU
theorem QE (T:Nd)(z:T.y=27)(hE:eN T)(hK:fE T):jT T:=by have ame:=kk;exact kU
theorem QD (T:Nd)(z:T.y=28)(hE:eN T)(hK:fE T):jT T:=by have amf:=kk;exact kU
theorem QC (T:Nd)(z:T.y=29)(hE:eN T)(hK:fE T):jT T:=by have amg:=kk;exact kU
theorem UG (T:Nd)(z:T.y=5)(hE:eN T)(hK:fE T):fq T:=by have amh:=kk;exact kU
theorem UF (T:Nd)(z:T.y=6)(hE:eN T)(hK:fE T):fq T:=by have ami:=kk;exact kU
theorem UE (T:Nd)(z:T.y=7)(hE:eN T)(hK:fE T):fq T:=by have alZ:=kk;exact kU
theorem UD (T:Nd)(z:T.y=8)(hE:eN T)(hK:fE T):fq T:=by have al0:=kk;exact kU
theorem O5 (T:Nd)(z:T.y=17)(hE:eN T)(hK:fE T):fq T:=by have al1:=kk;exact kU
theorem O3 (T:Nd)(z:T.y=19)(hE:eN T)(hK:fE T):fq T:=by have al2:=kk;exact kU
theorem O2 (T:Nd)(z:T.y=20)(hE:eN T)(hK:fE T):fq T:=by have al3:=kk;exact kU
theorem O1 (T:Nd)(z:T.y=21)(hE:eN T)(hK:fE T):fq T:=by have al4:=kk;exact kU
theorem O4 (T:Nd)(z:T.y=18)(hE:eN T)(hK:fE T):fq T:=by have al5:=kk;exact kU
theorem O8 (T:Nd)(z:T.y=13)(hE:eN T)(hK:fE T):fq T:=by have al6:=kk;exact kU
theorem O7 (T:Nd)(z:T.y=14)(hE:eN T)(hK:fE T):fq T:=by have al7:=kk;exact kU
theorem O9 (T:Nd)(z:T.y=12)(hE:eN T)(hK:fE T):fq T:=by have al8:=kk;exact kU
theorem Pb (T:Nd)(z:T.y=10)(hE:eN T)(hK:fE T):fq T:=by have ama:=kk;exact kU
theorem Pa (T:Nd)(z:T.y=11)(hE:eN T)(hK:fE T):fq T:=by have amb:=kk;exact kU
theorem yS {e st:Nat->Bool}{kk:Nat->Int}{len:Nat}(h:aG e st kk len ⟨#[101]⟩=true):len=1:=by unfold aG at h;simp only[avw,avy]at h;exact h.1
theorem UC (T:Nd)(z:T.y=9)(hK:fE T):fq T:=by
 intro w v hi hf gB hr;have hn:=T.I hf;obtain⟨a,cap,hv,_,hq⟩:=ar.1 hr;have fF:Hid (T.U=aL 9 T.E T.z T.q (fun i=>(T.f i).Q) (fun i=>(T.f i).U) (fun i=>(T.f i).aH) T.kk):=by have:=aM T;rw[z]at this;exact this
 have alQ:=kk;exact XD
theorem UH (T:Nd)(z:T.y=4)(ih:∀i,i<T.q->fq (T.f i)):fq T:=by
 intro w v hi hf gB hr;have hn:=T.I hf;obtain⟨a,cap,hv,_,hq⟩:=ar.1 hr;have fF:Hid (T.U=(ao T.z&&decide (T.E=0)&&aD (fun i=>(T.f i).U) T.q)):=by have:=aM T;rw[z]at this;exact this
 have alx:=kk;exact adA
theorem O6 (T:Nd)(z:T.y=15)(ih:∀i,i<T.q->yy (T.f i)):fq T:=by
 intro w v hi hf gB hr;have hn:=T.I hf;obtain⟨a,cap,hv,_,hq⟩:=ar.1 hr;have fF:Hid (T.U=(ao T.z&&decide (T.E=0)&&aD (fun i=>(T.f i).aH) T.q)):=by have:=aM T;rw[z]at this;exact this
 have aly:=kk;exact adA
theorem D1 (T:Nd)(bY:∀k:Int,k∈[22,23,24,25,26,27,28,29]->T.y≠k):jT T:=by
 intro w v hi hf gB hr;have hs:=T.ba hf;obtain⟨a,cap,hv,_,hq⟩:=ar.1 hr;have fF:Hid (T.Q=false):=by
  unfold Hid;rw[bD T];unfold bq;simp only[avZ,av6,awY,forall_eq_or_imp,forall_eq]at bY;simp only[bY,if_false]
 have HB:∀o:Obj,Hid (Below w.heap.size w<|w.alloc o):=fun o=>bA;have n22:(T.y==22)=false:=bn<|bY 22 M;have n23:(T.y==23)=false:=bn<|bY 23 M;have n24:(T.y==24)=false:=bn<|bY 24 M;have n25:(T.y==25)=false:=bn<|bY 25 M;have n26:(T.y==26)=false:=bn<|bY 26 M;have n27:(T.y==27)=false:=bn<|bY 27 M;have n28:(T.y==28)=false:=bn<|bY 28 M;have n29:(T.y==29)=false:=bn<|bY 29 M;have m22:(T.y !=22)=true:=by rw[awz];exact bY 22 M
 have m23:(T.y !=23)=true:=by rw[awz];exact bY 23 M
 have alJ:=kk;exact adF
theorem CY (T:Nd)(bY:∀k:Int,k∈[4,5,6,7,8,9,10,11,12,13,14,15,17,18,19,20,21]->T.y≠k):fq T:=by
 intro w v hi hf gB hr;have hs:=T.ba hf;obtain⟨a,cap,hv,_,hq⟩:=ar.1 hr;have fF:Hid (T.U=false):=by
  unfold Hid;rw[aM T];unfold aL;simp only[avZ,av6,awY,forall_eq_or_imp,forall_eq]at bY;simp only[bY,or_self,if_false]
 have HB:∀o:Obj,Hid (Below w.heap.size w<|w.alloc o):=fun o=>bA;have n4:(T.y==4)=false:=bn<|bY 4 M;have n5:(T.y==5)=false:=bn<|bY 5 M;have n6:(T.y==6)=false:=bn<|bY 6 M;have n7:(T.y==7)=false:=bn<|bY 7 M;have n8:(T.y==8)=false:=bn<|bY 8 M;have n9:(T.y==9)=false:=bn<|bY 9 M;have n10:(T.y==10)=false:=bn<|bY 10 M;have n11:(T.y==11)=false:=bn<|bY 11 M;have n12:(T.y==12)=false:=bn<|bY 12 M;have n13:(T.y==13)=false:=bn<|bY 13 M;have n14:(T.y==14)=false:=bn<|bY 14 M;have n15:(T.y==15)=false:=bn<|bY 15 M;have n17:(T.y==17)=false:=bn<|bY 17 M;have n18:(T.y==18)=false:=bn<|bY 18 M;have n19:(T.y==19)=false:=bn<|bY 19 M;have n20:(T.y==20)=false:=bn<|bY 20 M;have n21:(T.y==21)=false:=bn<|bY 21 M;have m7:(T.y !=7)=true:=by rw[awz];exact bY 7 M
 have alI:=kk;exact adF
theorem MK (T:Nd)(h:T.y≠16):T.aH=false:=by rw[lI];unfold gP;rw[avo h]
theorem ML (T:Nd)(hK:fE T):yy T:=by have alO:=kk;exact adI
def NH (T:Nd):Prop:=∀(w:World)(v:Value)(hi:Nat),T.R->hi<=w.heap.size->Row 0 hi w T v->
 Calls prog 35 #[T.val v] w fun e w'=>e=.returned (.bool<|b6 T)/\Below w.heap.size w w'
theorem Mg (T:Nd)(ih:∀i,i<T.q->fq (T.f i)):NH T:=by have alP:=kk;exact adI
def FC (T:Nd):Prop:=∀(w:World)(left:Nat)(v:Value)(hi:Nat),T.R->hi<=w.heap.size->Row 0 hi w T v->left<=1048576->
 Calls prog 31 #[T.val v,.int .i64 left] w fun e w'=>e=.returned (.int .i64<|o4 T.size left)/\Below w.heap.size w w'
def mz (S:Nat->Nat)(left j:Nat):Int:=if S j+1<=left then((left-(S j+1):Nat):Int)else-1
theorem ER (T:Nd)(ih:∀i,i<T.q->FC (T.f i)):FC T:=by
 intro w left v hi hf gB hr hl;have hn:=T.I hf;have hze:=T.size_eq;obtain⟨a,cap,rfl,bo,hq⟩:=ar.1 hr;clear bo;have HI:=Z ih;have HF:=Z hf;have HR:=Z hq;clear hr hf ih hq;have ba:∀j,j<T.q->aq (fun i=>(T.f i).size) j+(T.f j).size<=aq (fun i=>(T.f i).size) T.q:=fun j hj=>kr _ hj;have eR:∀j,aq (fun i=>(T.f i).size) (j+1)=aq (fun i=>(T.f i).size) j+(T.f j).size:=fun j=>rfl;have h00:aq (fun i=>(T.f i).size) 0=0:=rfl;generalize aq (fun i=>(T.f i).size)=S at*
 have N6:=Z ba;have mW:=Z eR;have HZE:=Z hze;clear ba eR hze;unfold Nd.val;generalize T.y=tk;generalize T.E=tn;generalize T.z=ts;have HB:∀a:Obj,Hid (Below w.heap.size w<|w.alloc a):=fun a=>bA;go_enter func31,ntmps31
 go_wp2;go_loopw[1,5] (fun k i wr=>∃(j:Nat),j<=T.q/\i=.int .i64 j/\k=.int .i64 (mz S left j)/\Below (w.heap.size+1) (w.alloc<|.cells #[.int .i64 tk,.int .i64 tn,.string ts,.slice a T.q cap] 25) wr) (fun _ i _=>T.q-(intOf i).toNat)
 case atStart=>exact⟨0,O,rfl,by unfold mz;rw[h00];congr 1;split<;>omega,avB _ _⟩
 case round=>
  obtain⟨j,hj,rfl,rfl,I⟩:=hrel;have alw:=kk;exact adz
theorem A7 (T:Nd):FC T:=by
 induction T with
 |nil=>exact ER _ fun i hi=>absurd hi<|avJ i
 |mk k n s len kids ih=>exact ER _ fun i _=>ih i
theorem Ve (T:Nd):jT T/\fq T/\yy T:=by
 have step:∀T:Nd,(∀i,i<T.q->jT (T.f i)/\fq (T.f i)/\yy (T.f i))->jT T/\fq T/\yy T:=by
  intro T ih;have hE:=Mq T fun i hi=>(ih i hi).1;have hK:=PQ T fun i hi=>⟨(ih i hi).1,(ih i hi).2.1⟩;refine⟨?_,?_,ML T hK⟩
  ·by_cases Af:T.y=22
   ·exact QJ T Af hE hK
   by_cases vP:T.y=23
   ·exact QI T vP hE hK
   by_cases zp:T.y=24
   ·exact QH T zp hE hK
   by_cases wJ:T.y=25
   ·exact QG T wJ hE hK
   by_cases ti:T.y=26
   ·exact QF T ti hE hK
   by_cases wy:T.y=27
   ·exact QE T wy hE hK
   by_cases zo:T.y=28
   ·exact QD T zo hE hK
   by_cases vO:T.y=29
   ·exact QC T vO hE hK
   exact D1 T fun k z=>by
    simp only[avZ,av6,awY]at z;rcases z with rfl|rfl|rfl|rfl|rfl|rfl|rfl|rfl<;>assumption
  ·by_cases h4:T.y=4
   ·exact UH T h4 fun i hi=>(ih i hi).2.1
   by_cases h9:T.y=9
   ·exact UC T h9 hK
   by_cases rF:T.y=15
   ·exact O6 T rF fun i hi=>(ih i hi).2.2
   by_cases h5:T.y=5
   ·exact UG T h5 hE hK
   by_cases h6:T.y=6
   ·exact UF T h6 hE hK
   by_cases h7:T.y=7
   ·exact UE T h7 hE hK
   by_cases h8:T.y=8
   ·exact UD T h8 hE hK
   by_cases kK:T.y=10
   ·exact Pb T kK hE hK
   by_cases nH:T.y=11
   ·exact Pa T nH hE hK
   by_cases qM:T.y=12
   ·exact O9 T qM hE hK
   by_cases zr:T.y=13
   ·exact O8 T zr hE hK
   by_cases zq:T.y=14
   ·exact O7 T zq hE hK
   by_cases sQ:T.y=17
   ·exact O5 T sQ hE hK
   by_cases wN:T.y=18
   ·exact O4 T wN hE hK
   by_cases wM:T.y=19
   ·exact O3 T wM hE hK
   by_cases wK:T.y=20
   ·exact O2 T wK hE hK
   by_cases uK:T.y=21
   ·exact O1 T uK hE hK
   exact CY T fun k z=>by
    simp only[avZ,av6,awY]at z;rcases z with rfl|rfl|rfl|rfl|rfl|rfl|rfl|rfl|rfl|rfl|rfl|rfl|rfl|rfl|rfl|rfl|rfl<;>assumption
 induction T with
 |nil=>exact step _ fun i hi=>absurd hi<|avJ i
 |mk k n s len kids ih=>exact step _ fun i _=>ih i
theorem GM (T:Nd)(w:World)(v:Value)(hi:Nat)(hf:T.R)(gB:hi<=w.heap.size)(hr:Row 0 hi w T v):
  Calls prog 14 #[T.val v] w fun e w'=>e=.returned (.bool<|cJ T)/\Below w.heap.size w w':=by
 have hn:=T.I hf;obtain⟨a,cap,hv,bo,hq⟩:=ar.1 hr;have HB:∀o:Obj,Hid (Below w.heap.size w<|w.alloc o):=fun o=>bA;have HL:=Z fun W(I:Below w.heap.size w W)=>A7 T W 600 v hi hf aaz (ah I gB hr) O;have fF:Hid (cJ T=(decide (T.size<=600)&&decide (T.y=1)&&decide (T.E=0)&&ao T.z&&aD (fun i=>b6<|T.f i) T.q)):=rfl;have HI:Hid (∀i,i<T.q->NH (T.f i)):=fun i hi=>Mg _ fun j _=>(Ve _).2.1;have HF:=Z hf;have HR:=Z hq;have Nr:Hid (o4 T.size 600=if T.size<=600 then((600-T.size:Nat):Int)else-1):=rfl;unfold Nd.val at*
 subst hv;clear hf hr hq bo;generalize T.y=tk at*
 generalize T.E=tn at*
 generalize T.z=ts at*
 by_cases hz:T.size<=600
 case neg=>
  have HO:Hid (cJ T=false):=by unfold Hid;rw[fF.o];simp[hz]
  have hl:o4 T.size 600=-1:=by have:=Nr.o;rw[avo hz]at this;exact this
  go_enter func14,ntmps14
  go_wp2_with(go_at_call 31;refine(HL.o _ (HB _).o).mono ?_;rw[hl];rintro e w1 ⟨rfl,hb1⟩)
  exact XH
 have hl:o4 T.size 600=((600-T.size:Nat):Int):=by have:=Nr.o;rw[avA hz]at this;exact this
 have Bs:¬(((600-T.size:Nat):Int)<0):=O;by_cases E9:tk=1/\tn=0/\ts.toList.isEmpty=true
 case neg=>
  have HO:Hid (cJ T=false):=by
   unfold Hid;rw[fF.o];cases h1:decide (tk=1)
   ·simp
   cases h2:decide (tn=0)
   ·simp
   cases h3:ts.toList.isEmpty
   ·simp[ao,h3]
   ·exact absurd ⟨aw3 h1,aw3 h2,h3⟩ E9
  have HG:Hid ((tk !=1)=false->(tn !=0)=false->ts.toList.isEmpty=true->False):=fun h1 h2 h3=>E9 ⟨by simpa using h1,by simpa using h2,h3⟩;clear E9 Nr fF;cases h1:(tk !=1)
  ·cases h2:(tn !=0)
   ·cases h3:ts.toList.isEmpty
    ·exact adM
    ·exact(HG.o h1 h2 h3).elim
   ·exact adM
  ·exact adM
 obtain⟨rfl,rfl,he⟩:=E9;have HO:Hid (cJ T=aD (fun i=>b6<|T.f i) T.q):=by unfold Hid;rw[fF.o];simp[hz,ao,he]
 clear fF Nr hz;have alE:=kk;exact adD
end Go.Proofs.YtgcmhaghebhjnaaGreatDoor
