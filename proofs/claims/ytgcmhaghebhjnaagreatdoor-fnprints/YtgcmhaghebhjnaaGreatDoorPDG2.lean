import Derived.Test.YtgcmhaghebhjnaaGreatDoorPDE
set_option linter.unusedVariables false
set_option maxHeartbeats 16000000
set_option maxRecDepth 100000
namespace Go.Proofs.YtgcmhaghebhjnaaGreatDoor
open Go.RowKit Tryz List
variable {G :Prop}
theorem acd (h:G:=by obtain⟨eC,eD⟩:=HS.o.pre bQ;obtain⟨z0,z1,z2,z3,zf⟩:=al (bc kb.o.bo zd eD);exact aci):G:=h
theorem ace (h:G:=by exact aci):G:=h
theorem vQ (h:G:=by exact acj):G:=h
theorem aci (h:G:=by clear eC eD;exact acj):G:=h
theorem acj (h:G:=by go_simp;exact dj.o v (fun _ _ _ h=>h) (HS.o.same O de J J rfl) _ rfl J):G:=h
theorem ack (h:G:=by
 obtain⟨eC,eD⟩:=HS.o.pre bQ;have j4:w6.heap.size<=v.heap.size:=by have:=eD.size;omega
 obtain⟨xj,v2,ec,aQ,fI⟩:=SI.join (sb:=sb) (A:=A) (w:=w) (kb.o.gw.kp (sb:=sb) O eD) kb.o.ok Lz LG O j4 lr (fun g hg=>(kb.o.gw.own.lt g hg).2) O;first
 |clear ajp
  refine mn rfl h36 hx (ec _) ?_;exact dj.o v2 (p8 (Wn.bf aQ fun k z=>(kb.o.gw.own.lt k z).2) bQ ba) (HS.o.join O de J ba O zd aQ fun k z=>by have:=(kb.o.gw.own.lt k z).1;omega) _ fI J
 |clear ajq
  refine mn rfl h88 hx (ec _) ?_;exact dj.o v2 (oN (Wn.bf aQ (fun k z=>(kb.o.gw.own.lt k z).2)) bQ ba) (HS.o.join O de J ba O zd aQ (fun k z=>by have:=(kb.o.gw.own.lt k z).1;omega)) _ fI J):G:=h
theorem acm (h:G:=by
 rw[lT]at htu;have HSV:=Z<|SC.o _ v eC;have j4:=eD.size;clear hx;go_simp;refine(vw Jk.o sb _ n q2 (.slice va n vc) loops v O O O eC.src HSV.o).mono ?_;rintro e' v2⟨T2,u2,rfl,d2⟩;obtain⟨a2,c2,rfl⟩:=bh d2.row;first
 |clear ajr
  exact dj.o v2 (p8 (Wn.bz d2.kp Dz) bQ ba) (HS.o.ask O O de J J bQ ba d2.src d2.kp) _ ⟨T2,a2,c2,⟨d2.aA,rK h0 d2.ok.1,d2.cost⟩,rfl,aY d2.row j4 lr⟩ J
 |clear ajs
  exact dj.o v2 (oN (Wn.bz d2.kp Dz) bQ ba) (HS.o.ask O O de J J bQ ba d2.src d2.kp) _ ⟨T2,a2,c2,⟨d2.aA,rK h0 d2.ok.1,d2.cost⟩,rfl,aY d2.row j4 lr⟩ J):G:=h
theorem acn (h:G:=by have ajk:=kk;exact XS):G:=h
theorem aco (h:G:=by
 have bQ:=eB (f:=40) (j:=7) ml.o aaf de;have ba:=eB (f:=40) (j:=9) ml.o aaf de;obtain⟨eC,eD⟩:=HS.o.pre bQ;have j4:wX.heap.size<=v.heap.size:=by have:=eD.size;omega
 first
 |clear ajv
  have Ek:=Z<|aY (iB RL.o O lr eD) lr eD.size;go_simp;exact dj.o _ (tA (Wn.ab<|bA) bQ ba) (HS.o.calm O de J J rfl bQ ba<|bA) _ ⟨dV 0 0 ⟨#[]⟩ (aC 24 0 ch)<|cC iP TB,_,_,rfl,rfl,LV.two (A:=aC 24 0 ch) (B:=cC iP TB) j4 (eQ _ _ _ _ _ _) Ek.o⟩ J
 |clear ajw
  clear NP Ta;go_simp;exact dj.o _ (tA (Wn.ab (bA)) bQ ba) (HS.o.calm O de J J rfl bQ ba (bA)) _ ⟨cq 0 0 ⟨#[]⟩ T5,_,_,⟨T5,hp5,rfl⟩,rfl,LV.one j4 HR.o⟩ J):G:=h
theorem acp (h:G:=by
 obtain⟨eC,ju⟩:=HS.o.db wg<|dh de;rw[lT]at eC;have o8:=ju.trans kb.o.bo;obtain⟨z0,z1,z2,z3,zf⟩:=al o8;have Uj:=zf 3;obtain⟨a2,c2,hx,I3⟩:=SI.done eC E5 o8 fI;first
 |clear ajx
  have h52:=ae hx;have Yu:=Z I3;clear hx eC ju o8 fI I3 zf;go_simp;exact vS.o _ (fun j x _ hx=>X1 O j x hx) (GS.store O (.inr wg) Yu.o) fun _=>trivial
 |clear ajy
  have h100:=ae hx;have Yu:=Z I3;clear hx eC ju o8 fI I3 zf;go_simp;exact vS.o _ (fun j x _ hx=>RG O j x hx) (GS.store O (.inr wg) Yu.o) (fun _=>trivial)):G:=h
theorem acf (h:G:=by have ajm:=kk;exact XR):G:=h
theorem acg (h:G:=by have aji:=kk;exact ach):G:=h
theorem M8 (h:G:=by have ajn:=kk;exact XR):G:=h
theorem M7 (h:G:=by
 have bQ:=eB (f:=40) (j:=13) ml.o aaf de;have ba:=eB (f:=40) (j:=15) ml.o aaf de;obtain⟨eC,eD⟩:=HS.o.pre bQ;first
 |clear ai8
  go_simp;refine(cM _ _ _ _ _ _ _).mono ?_;rintro e' v2⟨rfl,I⟩;exact dj.o v2 (oN (Wn.ab I) bQ ba) (HS.o.calm O de J J rfl bQ ba I) _ (TV.node (P:=fun _=>True) 16 0 ⟨#[]⟩ (cs15 hB10)<|(Wn.ab I).row HR.o) J
 |clear ai9
  go_simp;refine(ep sb _ 2 v O O eC.src).mono ?_;rintro e' v2⟨q2,jP,rfl,hs,z⟩;exact dj.o v2 (oN (Wn.bz z Dz) bQ ba) (HS.o.ask O O de J J bQ ba hs z) _ ⟨q2,O,rfl⟩ J
 |clear aja
  have j4:=eD.size;go_simp;exact dj.o _ (oN (Wn.ab<|bA) bQ ba) (HS.o.calm O de J J rfl bQ ba<|bA) _ ⟨cq 0 0 ⟨#[]⟩ T9,_,_,⟨T9,hp9,rfl⟩,rfl,LV.one j4 HR.o⟩ J
 |clear ajb
  have j4:w6.heap.size<=v.heap.size:=by have:=eD.size;omega
  clear Lu LC;go_simp;exact dj.o _ (oN (Wn.ab<|bA) bQ ba) (HS.o.calm O de J J rfl bQ ba<|bA) _ ⟨cq 0 0 ⟨#[]⟩ T11,_,_,⟨T11,VI,rfl⟩,rfl,LV.one j4 HR.o⟩ J
 |clear ajc
  have htu:vL (fun i=>if i=7 then 3 else if i=9 then 2*K+10 else 0) l 16+(2*K+10)<=aq (fun i=>if i=7 then 3 else if i=9 then 2*K+10 else 0) 16:=by have:=yF (asks:=fun i=>if i=7 then 3 else if i=9 then 2*K+10 else 0) (n:=16) (i:=9) (dh de) O;exact this
  have ajs:=kk;exact acm):G:=h
theorem Rx (h:G:=by
 have bQ:=eB (f:=40) (j:=7) ml.o aaf de;have ba:=eB (f:=40) (j:=9) ml.o aaf de;obtain⟨eC,eD⟩:=HS.o.pre bQ;first
 |clear ajd
  go_simp;refine(cM _ _ _ _ _ _ _).mono ?_;rintro e' v2⟨rfl,I⟩;exact dj.o v2 (tA (Wn.ab I) bQ ba) (HS.o.calm O de J J rfl bQ ba I) _ (TV.node (P:=fun _=>True) 16 1 ⟨#[118]⟩ (cs13 O Cn.o PB.o hlB2)<|(Wn.ab I).row HR.o) J
 |clear aje
  obtain⟨z0,z1,z2,z3,zf⟩:=al<|bc Ej.o.bo zd eD;exact ace
 |clear ajf
  obtain⟨z0,z1,z2,z3,zf⟩:=al<|bc Yx.o LK eD;exact ace
 |clear ajg
  obtain⟨z0,z1,z2,z3,zf⟩:=al (bc Jg.o pI eD);exact ace):G:=h
theorem ach (h:G:=by have ajl:=kk;exact XS):G:=h
theorem XS (h:G:=by
 have bQ:=eB (f:=40) (j:=8) ml.o aaf de;have ba:=eB (f:=40) (j:=8) ml.o aaf de;obtain⟨eC,eD⟩:=HS.o.pre bQ;first
 |clear ajj
  obtain⟨z0,z1,z2,z3,zf⟩:=al<|bc tE.o pI eD;exact ace
 |clear ajk
  go_simp;refine(aV _ _ _ _ _ _).mono ?_;rintro e' v2⟨rfl,I⟩;first
  |clear ajt
   exact dj.o v2 (qX (Wn.ab I) dR bQ ba) (HS.o.calm O de J J rfl bQ ba I) _ rfl J
  |clear aju
   exact dj.o v2 (qX (Wn.ab I) dR bQ ba) (HS.o.calm O de J J rfl bQ ba I) _ (TV.node (P:=fun _=>True) 20 0 ⟨#[]⟩ rfl<|(Wn.ab I).row HR.o) J
 |clear ajl
  have j4:=eD.size;first
  |clear ajh
   obtain⟨aj,cj,v2,vs,ec,kh,aQ,fs⟩:=kQ (Qd.ck<|show wX.heap.size<=wE.heap.size by omega) (iB RB.o O O eD) O lr hzY O (fun g hg=>.inr aap) O;have uF:=vA Qd (iB RB.o O O eD) O ec;refine mn rfl hx h73 (ec _) ?_;refine dj.o v2 (qX (Wn.ab uF) dR bQ ba) (HS.o.calm O de J J rfl bQ ba uF) _ ⟨_,_,_,_,aj,cj,rfl,kh,rfl,?_,fun i hi=>?_⟩ J
   ·rcases fs with e|⟨k,e,z⟩
    ·rw[e];simp[Value.ownBlock];omega
    ·rw[e];intro h;have:=avq h;omega
   ·by_cases h3:i<1
    ·rw[bp _ _ h3,bp _ _ h3];left;omega
    ·rw[bW _ _ O,bW _ _ O];right;omega
  |clear aji
   go_simp;first
   |clear ai1
    exact dj.o _ (qX (Wn.ab<|bA) dR bQ ba) (HS.o.calm O de J J rfl bQ ba<|bA) _ ⟨cq 0 0 ⟨#[]⟩<|aC 24 0 ⟨#[118]⟩,_,_,rfl,rfl,LV.one (A:=aC 24 0 ⟨#[118]⟩) j4<|eQ _ _ _ _ _ _⟩ J
   |clear ai2
    exact dj.o _ (qX (Wn.ab (bA)) dR bQ ba) (HS.o.calm O de J J rfl bQ ba (bA)) _ (GV.new (A:=iP) rfl j4 HR.o) J):G:=h
theorem XR (h:G:=by
 have bQ:=eB (f:=40) (j:=17) ml.o aaf de;have ba:=eB (f:=40) (j:=19) ml.o aaf de;first
 |clear ajm
  obtain⟨eC,eD⟩:=HS.o.pre bQ;have j4:=eD.size;go_simp;first
  |clear aiZ
   refine(zY.o _ v O eC).mono ?_;rintro e' v2⟨T2,u2,rfl,d2⟩;obtain⟨a2,c2,rfl⟩:=bh d2.row;exact dj.o v2 (p8 (Wn.bz d2.kp Dz) bQ ba) (HS.o.ask O O de J J bQ ba d2.src d2.kp) _ ⟨T2,a2,c2,⟨d2.aA,⟨d2.ok.1,Nat.le_succ_of_le d2.ok.2⟩,d2.cost⟩,rfl,aY d2.row j4 lr⟩ J
  |clear ai0
   exact dj.o _ (p8 (Wn.ab<|bA) bQ ba) (HS.o.calm O de J J rfl bQ ba<|bA) _ ⟨lE 0 0 ⟨#[]⟩ (aC 24 0 ch) T5 T13,_,_,⟨T5,T13,hp5,VH,rfl⟩,rfl,LV.three (A:=aC 24 0 ch) j4 (eQ _ _ _ _ _ _) zS.o HR13.o⟩ J
 |clear ajn
  obtain⟨eC,eD⟩:=HS.o.pre bQ;first
  |clear ai3
   go_simp;refine(cM _ _ _ _ _ _ _).mono ?_;rintro e' v2⟨rfl,I⟩;exact dj.o v2 (p8 (Wn.ab I) bQ ba) (HS.o.calm O de J J rfl bQ ba I) _ (TV.node (P:=fun _=>True) 16 2 ⟨#[]⟩ (cs9 O Cn.o hF14 hB14)<|(Wn.ab I).row HR.o) J
  |clear ai4
   go_simp;refine(ep sb _ 2 v O O eC.src).mono ?_;rintro e' v2⟨q2,jP,rfl,hs,z⟩;exact dj.o v2 (p8 (Wn.bz z Dz) bQ ba) (HS.o.ask O O de J J bQ ba hs z) _ ⟨q2,O,rfl⟩ J
  |clear ai5
   obtain⟨z0,z1,z2,z3,zf⟩:=al<|bc Sb.o LK eD;exact ace
  |clear ai6
   have htu:vL (fun i=>if i=5 then 300 else if i=11 then 3 else if i=13 then 2*K+10 else 0) l 20+(2*K+10)<=aq (fun i=>if i=5 then 300 else if i=11 then 3 else if i=13 then 2*K+10 else 0) 20:=by have:=yF (asks:=fun i=>if i=5 then 300 else if i=11 then 3 else if i=13 then 2*K+10 else 0) (n:=20) (i:=13) (dh de) O;exact this
   have ajr:=kk;exact acm
  |clear ai7
   have j4:w6.heap.size<=v.heap.size:=by have:=eD.size;omega
   clear hx15 hr15;go_simp;exact dj.o _ (p8 (Wn.ab<|bA) bQ ba) (HS.o.calm O de J J rfl bQ ba<|bA) _ ⟨cq 0 0 ⟨#[]⟩ T15,_,_,⟨T15,hp15,rfl⟩,rfl,LV.one j4 HR.o⟩ J
 |clear ajo
  exact acd):G:=h
theorem xn (deep:Int)(C K axe:Nat)(h0:0<deep)(h9:deep<=100)(hC:C<=100000000)(hK:K<=100000000)(E1:CM 1 1 300 300)(BD:Ss (deep-1) C K axe):SLC deep (3*(2*C+401)) (6*K+1000) (axe+3):=by
 intro sb A n v loops w hA hnM h hs;have HD:=Z<|DW.start h;obtain⟨va,vc,rfl,_⟩:=id hs;have aR:=bO w aN;have SC:=Z fun B W(hd:DW sb B w W)=>(hs.keep<|b9 aR _).keep hd.kp;have PV:=Z fun(typ:Int)B W(hB:B+3<=1099511627776)(hd:DW sb B w W)=>ny sb B n typ (.slice va n vc) W hB hd.src<|SC.o B W hd;have CH:=Z fun B W(hB:B+3<=1099511627776)(hd:DW sb B w W)(k:Nat)(z:k<=100)=>pX sb B k W hB O hd.src;have NX:=Z fun B W(hB:B+3<=1099511627776)(hd:DW sb B w W)(k:Nat)(z:k<=100)=>ep sb B k W hB O hd.src;have zY:=Z fun B W(hB:B+300<=1099511627776)(hd:DW sb B w W)=>E1 sb B n (.slice va n vc) W hB hd.src<|SC.o B W hd;have Jk:=Z BD;have di:=pJ;have Hm:IntKind.i64.wrap (deep-1)=deep-1:=gj O O;have ew:sb<w.heap.size:=h.lt;unfold aN at*
 clear h aR E1 BD;go_enter func90,ntmps90
 go_wp2_with fail
 refine(cM _ _ _ _ _ _ _).mono ?_;rintro e w1⟨rfl,I⟩;have qh:=Z<|HD.o.calm I;have eu:=qh.o.size;have og:=Z<|qh.o.alloc<|eS 15 0 ⟨#[]⟩ none 0 0;have zd:w1.heap.size≠sb:=O;clear I HD;go_wp2_with fail
 refine(NX.o _ _ O og.o 3 O).mono ?_;rintro e w3⟨q,hq,rfl,hs,z⟩;have SE0:Hid (SE (3*deep.toNat+9) sb (A+3) (2*C+400) w w1.heap.size 0 w3):=⟨fun _=>.nil,fun _=>undef,fun _=>0,fun _=>0,none,0,og.o.step hs z,O,bc (avv w1 _) zd z,Gw.start _ _ _ _<|awa _ _ _ _,fun i hi=>absurd hi<|avJ _⟩;clear hs z qh og;go_wp2_with fail
 go_loopw[10] (fun i wr=>∃(c j B:Nat),i=.int .i64 c/\c<=2/\j+c<=2/\B+c*(2*K+330)<=A+3+2*(2*K+330)/\SE (3*deep.toNat+9) sb B (2*C+400) w w1.heap.size j wr) (fun i _=>(intOf i).toNat)
 case atStart=>
  exact⟨q,0,A+3,rfl,O,O,by have:q*(2*K+330)<=2*(2*K+330):=avQ _ O;omega,SE0.o⟩
 case round=>
  obtain⟨c,j,B,rfl,hc,hj,hB,Ts,us,s,e,ka,kc,hsi⟩:=hrel;have Y5:=Z hsi;have E5:=hsi.low;clear hsi SE0;by_cases hcz:0<c
  ·skip;obtain⟨c1,eO⟩:∃c1,c=c1+1:=⟨c-1,O⟩;have hwc:IntKind.i64.wrap ((c:Int)-1)=(c1:Int):=by rw[gj O O];omega
   have hcp:(0:Int)<(c:Int):=O;have Wd:B+(2*K+330)+c1*(2*K+330)<=A+3+2*(2*K+330):=by rw[eO,awU]at hB;omega
   have hB2:B+(2*K+330)<=A+3+2*(2*K+330):=O;generalize hY:c1*(2*K+330)=Y at Wd;go_wp2_with fail
   refine(PV.o 3 _ _ O Y5.o.dw).mono ?_;rintro e' w4⟨ch,isChan,cm,rfl,bz,jH⟩;have Ye:=Z<|Y5.o.kp bz jH;have HNC:=Z cm;clear bz jH cm Y5;cases isChan
   ·go_wp2;exact⟨⟨c1,j,B+3,rfl,O,O,O,_,_,_,_,_,_,Ye.o⟩,by simp[intOf];omega⟩
   ·have DF:=HNC.o abg;have hszC:=gm DF;have Cn:=Z DF;clear DF HNC;go_wp2_with fail
    refine(aV _ _ _ _ _ _).mono ?_;rintro e' w5⟨rfl,I⟩;have FE:=Z<|Ye.o.calm I;have Lp:=FE.o.dw.size;have hob5:=(avp.1 FE.o.bo).1;have Yd:=Z<|FE.o.calm<|(avB _ _).alloc lr<|eS 24 0 ch none 0 0;have LK:w5.heap.size≠sb:=O;clear I Ye FE;go_wp2_with fail
    refine(CH.o _ _ O Yd.o.dw 2 O).mono ?_;rintro e' w6⟨t,rfl,hs,z⟩;have kb:=Z<|Yd.o.kp hs z;have Sb:Hid (w6.heap[w5.heap.size]?=some (eS 24 0 ch none 0 0)):=bc (avv w5 _) LK z;have PY:w5.heap.size+1<=w6.heap.size:=by have:=z.size;simpa[eS]using this
    clear hs z Yd;cases t
    ·skip;obtain⟨iv,VU,Du,Dt,Ds⟩:=av0 y8;obtain⟨v3,w7,ec,Cy,hb3⟩:=rM (B:=w6.heap.size) (SC.o _ _ kb.o.dw) lr;obtain⟨a3,c3,rfl⟩:=Cy.shape;obtain⟨f3,Bl,LJ⟩:=id Cy;have mL:=Z ec;have PX:=hb3.size;have lC:=Z hb3;have Np:=Z Bl;have TR:=Z Cy;clear ec Cy hb3 Bl;go_wp2_with(first
      |(at_builtin;refine eo _ rfl _ _ 69 rfl _ _ _ _ rfl rfl mL.o ?_;clear mL)
      |(at_builtin;refine bN _ rfl _ _ 69 rfl w6.heap.size 94 iv (.agg #[.string ⟨#[]⟩,.int .i64 0,.int .i64 0]) 3 32 underlying69 VU Du Dt Ds rfl J _ n _ rfl (Np.o.alloc _) ⟨w7.heap.size,0,none⟩ 1 1 [.string ⟨#[118]⟩,.int .i64 1,.int .i64 0] rfl rfl (oo _ _ _ _ _) (ql _ _ _) aaj O aah ?_;intro v4 wI Bk uE LN Lx;obtain⟨aI,cI,xN⟩:=Lx.o;subst xN)
      |(go_at_call 25;fail))
     have SVI:=Z<|yI (t:=1) LJ (show aK ⟨#[118]⟩=true by decide) Bk.o;have hbI:Below w6.heap.size w6 wI:=Below.bf (lC.o.trans<|(bO w7<|.cells #[.string ⟨#[118]⟩,.int .i64 1,.int .i64 0] 94).mono PX) uE.o aah fun g hg=>(TR.o.lt g hg).1;have Yc:=Z<|kb.o.calm hbI;have HCBI:=Z<|aW Sb.o hbI;have hzI:=hbI.size;clear Bk uE LN Lx TR Np LJ lC hbI kb Sb;refine(NX.o _ _ O Yc.o.dw 2 O).mono ?_;rintro e' wX⟨q,hq,rfl,hs,z⟩;have zR:=Z<|Yc.o.kp hs z;have HCBX:=Z<|bc HCBI.o LK z;have SVX:=Z<|SVI.o.kp (sb:=sb) O z;have hzX:=z.size;clear hs z Yc SVI HCBI;go_wp2_with fail
     refine(vw Jk.o sb _ (n+1) q (.slice aI (n+1) cI) loops wX O O O zR.o.dw.src<|SVX.o.dd O O).mono ?_;rintro e' wY⟨TB,uB,rfl,dB⟩;obtain⟨aB,cB,rfl⟩:=bh dB.row;have Ug:=Z<|zR.o.dw.step dB.src dB.kp;have hzY:=dB.kp.size;have RB:=Z<|ah (bO wY<|eS TB.y TB.E TB.z aB TB.q cB) lr dB.row;have PB:Hid (js (3*deep.toNat+8) (2*C) TB):=⟨dB.aA,rK h0 dB.ok.1,dB.cost⟩;have YN:=Nd.I dB.aA;have hlB2:TB.q<=2:=dB.ok.2;obtain⟨wE,EW⟩:∃W,wY.alloc (eS TB.y TB.E TB.z aB TB.q cB)=W:=⟨_,rfl⟩;have Yq:Hid (Kp sb wX<|wY.alloc<|eS TB.y TB.E TB.z aB TB.q cB):=dB.kp.trans (b9 (bO wY _) _) fun _ _ h=>h;clear dB SVX;unfold Nd.val;have Al:=Z<|Ug.o.alloc<|eS TB.y TB.E TB.z aB TB.q cB;have tE:=Z<|avv wY<|eS TB.y TB.E TB.z aB TB.q cB;have hzE:wY.heap.size+1<=wE.heap.size:=by rw[<-EW];simp
     rw[EW]at Al tE RB Yq;have TU:=Z EW;clear EW Ug;have pI:wY.heap.size≠sb:=O;have dR:wX.heap.size<=wE.heap.size:=O;go_upto_region 12 with fail
     rw[show(wY.alloc<|Obj.cells #[.int .i64 TB.y,.int .i64 TB.E,.string TB.z,.slice aB TB.q cB] 25)=wE from TU.o];clear TU;have lT:aq (fun _=>0) 9=0:=by simp[aq]
     refine dD di aaf z6 (vD wY.heap.size wE.heap.size wX.heap.size aB TB cB) (GS sb (B+3+3+3+(2*K+10)) (fun _=>0) 9 8 8 w wE (wY.heap.size)<|F12 sb (B+3+3+3+(2*K+10)) wX.heap.size wY.heap.size TB w wE) (GS.start _ Al.o) ?_ ?_
     ·intro l a v i hI hr;have I7:i<9:=(bx hr).1;have de:=(bx hr).2;have DK:l.size=9:=hI.aU;have HS:=Z hI.s;have pF:=km (fun _=>0) l 9;rw[lT]at pF;have ml:=Z hI.shut;have dj:=Z fun(v':World)(hw:∀jj x,l.getD jj false=true->vD wY.heap.size wE.heap.size wX.heap.size aB TB cB jj v x->vD wY.heap.size wE.heap.size wX.heap.size aB TB cB jj v' x)(kJ:GS sb (B+3+3+3+(2*K+10)) (fun _=>0) 9 8 8 w wE (wY.heap.size) (F12 sb (B+3+3+3+(2*K+10)) wX.heap.size wY.heap.size TB w wE) (l.setIfInBounds i true) v')(x:Value)(hx:vD wY.heap.size wE.heap.size wX.heap.size aB TB cB i v' x)(cg:z6 i<103)=>hI.put NL hr cg hw kJ hx;have vS:=Z fun(v':World)(hw:∀jj x,l.getD jj false=true->vD wY.heap.size wE.heap.size wX.heap.size aB TB cB jj v x->vD wY.heap.size wE.heap.size wX.heap.size aB TB cB jj v' x)(kJ:GS sb (B+3+3+3+(2*K+10)) (fun _=>0) 9 8 8 w wE (wY.heap.size) (F12 sb (B+3+3+3+(2*K+10)) wX.heap.size wY.heap.size TB w wE) (l.setIfInBounds i true) v')(hx:∀x,vD wY.heap.size wE.heap.size wX.heap.size aB TB cB i v' x)=>hI.none hr hw kJ hx;have bJ:=Z fun(j:Nat)(hj:j<9)(hl:l.getD j false=true)=>hI.bl j hj hl;have bC:=gT hr;have s15:a.tmps[15]?.getD undef=.pointer (some ⟨wY.heap.size,0,none⟩):=ae<|hI.keep 15 (by intro i hi;have h2:i<9:=hi;show 15≠z6 i;have:((List.range 9).all fun i=>decide<|z6 i≠15)=true:=J;have h3:=avE.1 this i<|avG.2 h2;simp at h3;exact fun e=>h3 e.symm);clear hI hr;rcases(O:i=0\/i=1\/i=2\/i=3\/i=4\/i=5\/i=6\/i=7\/i=8)with rfl|rfl|rfl|rfl|rfl|rfl|rfl|rfl|rfl;all_goals(refine gR rfl rfl ?_)
      ·have ajt:=kk;exact acn
      ·have h68:=ae<|show a.eval (.tmp 68)=.agg #[.int .i64 24,.int .i64 0,.string ⟨#[118]⟩,.slice none 0 0]from ag bJ bC 0 rfl;have ai1:=kk;exact acg
      ·obtain⟨T1,a1,c1,I4,I2,fQ⟩:LV wE.heap.size (fun T=>T=cq 0 0 ⟨#[]⟩ (aC 24 0 ⟨#[118]⟩)) v (a.eval<|.tmp 69):=ag bJ bC 1 rfl;subst I4;have h69:=ae I2;have HR:=Z fQ;clear I2 fQ;have aju:=kk;exact acn
      ·obtain⟨T2,a2,c2,Tc,Cw,qg⟩:TV wE.heap.size (fun T=>T=iP) v (a.eval<|.tmp 70):=ag bJ bC 2 rfl;subst Tc;have h70:=ae Cw;unfold Nd.val at h70;have HR:=Z qg;clear Cw qg;have ai2:=kk;exact acg
      ·exact vQ
      ·have h72:=ae<|show a.eval (.tmp 72)=.pointer (some ⟨wY.heap.size,3,none⟩)from ag bJ bC 4 rfl;have ajj:=kk;exact XS
      ·obtain⟨A3,u3,g3,rfl,oD,hx,Qd⟩:GV wE.heap.size (fun A=>A=iP) v (a.eval<|.tmp 71):=ag bJ bC 3 rfl;have h73:a.eval (.tmp 73)=.slice aB TB.q cB:=ag bJ bC 5 rfl;have ajh:=kk;exact ach
      ·exact vQ
      ·have h75:=ae<|show a.eval (.tmp 75)=.pointer (some ⟨wY.heap.size,3,none⟩)from ag bJ bC 7 rfl;obtain⟨Ts2,Zr,s2,e2,a2,c2,hx,kh,rfl,Bp,CC⟩:AV wX.heap.size wY.heap.size (1+TB.q) (fun Ts=>Ts=dL (fun _=>iP) 1 TB.f) v (a.eval<|.tmp 74):=ag bJ bC 6 rfl;have h74:=ae hx;have bQ:=dh de;obtain⟨eC,eD⟩:=HS.o.pre bQ;have o8:=bc tE.o pI eD;obtain⟨z0,z1,z2,z3,zf⟩:=al o8;have Uj:=zf 3;have HF12:Hid (F12 sb (B+3+3+3+(2*K+10)) wX.heap.size wY.heap.size TB w wE<|v.setCell ⟨wY.heap.size,3,none⟩<|.slice a2 (1+TB.q) c2):=⟨(show DW sb (B+3+3+3+(2*K+10)) w v from⟨eC.src.mono O,eC.kp,eC.low⟩).put _ _ _ O,fun k h1 h2 h3=>(avz _ _ _ _ (by show k≠wY.heap.size;exact h3)).trans<|eD.block k h1 h2,abk,Zr,s2,e2,a2,c2,(avD v wY.heap.size 3 _ 25 (.slice a2 (1+TB.q) c2) o8).trans rfl,kh.put Bp CC⟩;clear hx eC eD o8 kh zf;go_simp;exact vS.o _ (fun j x _ hx=>RI O j x hx) (GS.store O (.inl rfl) HF12.o) fun _=>trivial
     ·intro a v cg mP cQ wu fP;obtain⟨l,hS,bl⟩:=wu;have HF:=Z<|hS.fin<|bl 8 J;rw[gh (n:=9) cg mP cQ];generalize (fun i=>a.eval<|.tmp<|z6 i)=ff;clear cg mP cQ fP hS bl;simp only[jV,Act.put,z6,getD_cons_zero,getD_cons_succ,setIfInBounds_toArray,set_cons_succ,set_cons_zero,set_nil];obtain⟨eC,gN,P4,Zr,s2,e2,la,lc,iY,kh⟩:=HF.o;have R0:=Z<|zR.o.dw.dB eC O fun k h1 h2=>(gN k O h2 O).trans<|Yq.o.block k h1 h2;have Ej:=Z<|zR.o.kp eC.src R0.o;have Yx:=Z<|bc HCBX.o LK R0.o;have RL:Hid (Row wX.heap.size v.heap.size v (cC iP TB)<|.slice la (1+TB.q) lc):=kh.row lr TB.y TB.E TB.z;have Jg:=Z iY;have hzG:=(avp.1 iY).1;have hlX:=zR.o;have hobX:=(avp.1 hlX.bo).1;obtain⟨wG,SY⟩:∃W,W=v:=⟨_,rfl⟩;rw[<-SY]at Ej RL Jg hzG Yx⊢;clear eC kh HF iY tE Al RB SY gN Yq R0 hlX P4 HCBX;have lT:aq (fun _=>0) 10=0:=by simp[aq]
      go_upto_region 13 with fail
      refine dD di aaf rU (vC (3*deep.toNat+8) w1.heap.size wX.heap.size (2*C+400) j ka la kc lc ch<|cC iP TB) (GS sb (B+3+3+3+(2*K+10)) (fun _=>0) 10 7 9 w wG (w1.heap.size)<|SE (3*deep.toNat+9) sb (B+3+3+3+(2*K+10)) (2*C+400) w w1.heap.size<|j+1) (GS.start _ Ej.o.dw) ?_ ?_
      ·intro l a v i hI hr;have I7:i<10:=(bx hr).1;have de:=(bx hr).2;have DK:l.size=10:=hI.aU;have HS:=Z hI.s;have pF:=km (fun _=>0) l 10;rw[lT]at pF;have ml:=Z hI.shut;have dj:=Z fun(v':World)(hw:∀jj x,l.getD jj false=true->vC (3*deep.toNat+8) w1.heap.size wX.heap.size (2*C+400) j ka la kc lc ch (cC iP TB) jj v x->vC (3*deep.toNat+8) w1.heap.size wX.heap.size (2*C+400) j ka la kc lc ch (cC iP TB) jj v' x)(kJ:GS sb (B+3+3+3+(2*K+10)) (fun _=>0) 10 7 9 w wG (w1.heap.size) (SE (3*deep.toNat+9) sb (B+3+3+3+(2*K+10)) (2*C+400) w w1.heap.size<|j+1) (l.setIfInBounds i true) v')(x:Value)(hx:vC (3*deep.toNat+8) w1.heap.size wX.heap.size (2*C+400) j ka la kc lc ch (cC iP TB) i v' x)(cg:rU i<103)=>hI.put NK hr cg hw kJ hx;have vS:=Z fun(v':World)(hw:∀jj x,l.getD jj false=true->vC (3*deep.toNat+8) w1.heap.size wX.heap.size (2*C+400) j ka la kc lc ch (cC iP TB) jj v x->vC (3*deep.toNat+8) w1.heap.size wX.heap.size (2*C+400) j ka la kc lc ch (cC iP TB) jj v' x)(kJ:GS sb (B+3+3+3+(2*K+10)) (fun _=>0) 10 7 9 w wG (w1.heap.size) (SE (3*deep.toNat+9) sb (B+3+3+3+(2*K+10)) (2*C+400) w w1.heap.size<|j+1) (l.setIfInBounds i true) v')(hx:∀x,vC (3*deep.toNat+8) w1.heap.size wX.heap.size (2*C+400) j ka la kc lc ch (cC iP TB) i v' x)=>hI.none hr hw kJ hx;have bJ:=Z fun(j:Nat)(hj:j<10)(hl:l.getD j false=true)=>hI.bl j hj hl;have bC:=gT hr;have s9:a.tmps[9]?.getD undef=.pointer (some ⟨w1.heap.size,0,none⟩):=ae<|hI.keep 9 (by intro i hi;have h2:i<10:=hi;show 9≠rU i;have:((List.range 10).all fun i=>decide<|rU i≠9)=true:=J;have h3:=avE.1 this i<|avG.2 h2;simp at h3;exact fun e=>h3 e.symm);have s13:a.tmps[13]?.getD undef=.pointer (some ⟨w5.heap.size,0,none⟩):=ae<|hI.keep 13 (by intro i hi;have h2:i<10:=hi;show 13≠rU i;have:((List.range 10).all fun i=>decide<|rU i≠13)=true:=J;have h3:=avE.1 this i<|avG.2 h2;simp at h3;exact fun e=>h3 e.symm);have s15:a.tmps[15]?.getD undef=.pointer (some ⟨wY.heap.size,0,none⟩):=ae<|hI.keep 15 (by intro i hi;have h2:i<10:=hi;show 15≠rU i;have:((List.range 10).all fun i=>decide<|rU i≠15)=true:=J;have h3:=avE.1 this i<|avG.2 h2;simp at h3;exact fun e=>h3 e.symm);clear hI hr;rcases(O:i=0\/i=1\/i=2\/i=3\/i=4\/i=5\/i=6\/i=7\/i=8\/i=9)with rfl|rfl|rfl|rfl|rfl|rfl|rfl|rfl|rfl|rfl;all_goals(refine gR rfl rfl ?_)
       ·exact vQ
       ·have h76:=ae<|show a.eval (.tmp 76)=.pointer (some ⟨w1.heap.size,3,none⟩)from ag bJ bC 0 rfl;have aje:=kk;exact Rx
       ·have ajf:=kk;exact Rx
       ·have ajg:=kk;exact Rx
       ·have h78:=ae<|show a.eval (.tmp 78)=.agg #[.int .i64 24,.int .i64 0,.string ch,.slice none 0 0]from ag bJ bC 2 rfl;have h79:=ae<|show a.eval (.tmp 79)=.agg #[.int .i64 (cC iP TB).y,.int .i64 (cC iP TB).E,.string (cC iP TB).z,.slice la (cC iP TB).q lc]from ag bJ bC 3 rfl;have ajv:=kk;exact aco
       ·obtain⟨T4,a4,c4,hp4,SW,EZ⟩:LV wX.heap.size (fun T=>T=dV 0 0 ⟨#[]⟩ (aC 24 0 ch) (cC iP TB)) v (a.eval<|.tmp 80):=ag bJ bC 4 rfl;subst hp4;have h80:=ae SW;have HR:=Z EZ;clear SW EZ;have ajd:=kk;exact Rx
       ·obtain⟨T5,a5,c5,hp5,NP,Ta⟩:TV wX.heap.size (CsP (3*deep.toNat+8+1)<|2*C+400) v (a.eval<|.tmp 81):=ag bJ bC 5 rfl;have h81:=ae NP;unfold Nd.val at h81;have HR:=Z Ta;have ajw:=kk;exact aco
       ·have h77:a.eval (.tmp 77)=.slice ka j kc:=ag bJ bC 1 rfl;obtain⟨T3,a3,c3,⟨A3,LG,rfl⟩,hx,Lz⟩:LV wX.heap.size (fun T=>∃A,CsP (3*deep.toNat+8+1) (2*C+400) A/\T=cq 0 0 ⟨#[]⟩ A) v (a.eval<|.tmp 82):=ag bJ bC 6 rfl;have bQ:=dh de;have ba:=eB (f:=40) (j:=9) ml.o aaf de;obtain⟨eC,eD⟩:=HS.o.pre bQ;have j4:wX.heap.size<=v.heap.size:=by have:=eD.size;omega
        obtain⟨xj,v2,ec,aQ,fI⟩:=SI.join (sb:=sb) (A:=A) (w:=w) (Ej.o.gw.kp (sb:=sb) O eD) Ej.o.ok Lz LG O j4 lr (fun g hg=>(zR.o.gw.own.lt g hg).2) O;refine mn rfl h77 hx (ec _) ?_;exact dj.o v2 (tA (Wn.bf aQ fun k z=>(zR.o.gw.own.lt k z).2) bQ ba) (HS.o.join O de J ba O zd aQ fun k z=>by have:=(zR.o.gw.own.lt k z).1;omega) _ fI J
       ·exact vQ
       ·have h84:=ae<|show a.eval (.tmp 84)=.pointer (some ⟨w1.heap.size,3,none⟩)from ag bJ bC 8 rfl;have fI:AV (w1.heap.size+1) w1.heap.size (j+1) (fun Ts=>∀i,i<j+1->CsP (3*deep.toNat+8+1) (2*C+400) (Ts i)) v (a.eval<|.tmp 83):=ag bJ bC 7 rfl;have wg:l.getD 7 false=true:=bC.o _ rfl ⟨7,Ground.data⟩ M rfl;obtain⟨eC,ju⟩:=HS.o.db wg<|dh de;rw[lT]at eC;have o8:=ju.trans Ej.o.bo;obtain⟨z0,z1,z2,z3,zf⟩:=al o8;have Uj:=zf 3;obtain⟨a2,c2,hx,I3⟩:=SI.done eC E5 o8 fI;have h83:=ae hx;have Yu:=Z I3;clear hx eC ju o8 fI I3 zf;go_simp;exact vS.o _ (fun j x _ hx=>RH O j x hx) (GS.store O (.inr wg) Yu.o) fun _=>trivial
      ·intro a v cg mP cQ wu fP;obtain⟨l,hS,bl⟩:=wu;have HF:=Z<|hS.fin<|bl 9 J;rw[gh (n:=10) cg mP cQ];generalize (fun i=>a.eval<|.tmp<|rU i)=ff;clear cg mP cQ fP hS bl;simp only[jV,Act.put,rU,getD_cons_zero,getD_cons_succ,setIfInBounds_toArray,set_cons_succ,set_cons_zero,set_nil];obtain⟨Ts',us',s',e',rD,rC,Bh⟩:=HF.o;have wS:=Z Bh;clear Bh HF Ej zR Yx Jg RL;go_wp2;exact⟨⟨c1,j+1,B+3+3+3+(2*K+10),rfl,O,O,O,_,_,_,_,_,_,wS.o⟩,by simp[intOf];omega⟩
    ·skip;go_upto_region 9 with fail
     have lT:aq (fun i=>if i=5 then 300 else if i=11 then 3 else if i=13 then 2*K+10 else 0) 20=2*K+313:=by simp[aq];omega
     have Dz:sb<w6.heap.size:=O;refine dD di aaf zZ (Nh (3*deep.toNat+8) sb w1.heap.size w6.heap.size (2*C) (2*C+400) n j ka va kc vc ch deep loops) (GS sb (B+3+3) (fun i=>if i=5 then 300 else if i=11 then 3 else if i=13 then 2*K+10 else 0) 20 17 19 w w6 (w1.heap.size)<|SE (3*deep.toNat+9) sb (B+3+3+(2*K+313)) (2*C+400) w w1.heap.size<|j+1) (GS.start _ kb.o.dw) ?_ ?_
     ·intro l a v i hI hr;have I7:i<20:=(bx hr).1;have de:=(bx hr).2;have DK:l.size=20:=hI.aU;have HS:=Z hI.s;have pF:=km (fun i=>if i=5 then 300 else if i=11 then 3 else if i=13 then 2*K+10 else 0) l 20;rw[lT]at pF;have ml:=Z hI.shut;have dj:=Z fun(v':World)(hw:∀jj x,l.getD jj false=true->Nh (3*deep.toNat+8) sb w1.heap.size w6.heap.size (2*C) (2*C+400) n j ka va kc vc ch deep loops jj v x->Nh (3*deep.toNat+8) sb w1.heap.size w6.heap.size (2*C) (2*C+400) n j ka va kc vc ch deep loops jj v' x)(kJ:GS sb (B+3+3) (fun i=>if i=5 then 300 else if i=11 then 3 else if i=13 then 2*K+10 else 0) 20 17 19 w w6 (w1.heap.size) (SE (3*deep.toNat+9) sb (B+3+3+(2*K+313)) (2*C+400) w w1.heap.size<|j+1) (l.setIfInBounds i true) v')(x:Value)(hx:Nh (3*deep.toNat+8) sb w1.heap.size w6.heap.size (2*C) (2*C+400) n j ka va kc vc ch deep loops i v' x)(cg:zZ i<103)=>hI.put Sj hr cg hw kJ hx;have vS:=Z fun(v':World)(hw:∀jj x,l.getD jj false=true->Nh (3*deep.toNat+8) sb w1.heap.size w6.heap.size (2*C) (2*C+400) n j ka va kc vc ch deep loops jj v x->Nh (3*deep.toNat+8) sb w1.heap.size w6.heap.size (2*C) (2*C+400) n j ka va kc vc ch deep loops jj v' x)(kJ:GS sb (B+3+3) (fun i=>if i=5 then 300 else if i=11 then 3 else if i=13 then 2*K+10 else 0) 20 17 19 w w6 (w1.heap.size) (SE (3*deep.toNat+9) sb (B+3+3+(2*K+313)) (2*C+400) w w1.heap.size<|j+1) (l.setIfInBounds i true) v')(hx:∀x,Nh (3*deep.toNat+8) sb w1.heap.size w6.heap.size (2*C) (2*C+400) n j ka va kc vc ch deep loops i v' x)=>hI.none hr hw kJ hx;have bJ:=Z fun(j:Nat)(hj:j<20)(hl:l.getD j false=true)=>hI.bl j hj hl;have bC:=gT hr;have s0:a.tmps[0]?.getD undef=.pointer (some ⟨sb,0,none⟩):=ae<|hI.keep 0 (by intro i hi;have h2:i<20:=hi;show 0≠zZ i;have:((List.range 20).all fun i=>decide<|zZ i≠0)=true:=J;have h3:=avE.1 this i<|avG.2 h2;simp at h3;exact fun e=>h3 e.symm);have s1:a.tmps[1]?.getD undef=.slice va n vc:=ae<|hI.keep 1 (by intro i hi;have h2:i<20:=hi;show 1≠zZ i;have:((List.range 20).all fun i=>decide<|zZ i≠1)=true:=J;have h3:=avE.1 this i<|avG.2 h2;simp at h3;exact fun e=>h3 e.symm);have s2:a.tmps[2]?.getD undef=.int .i64 deep:=ae<|hI.keep 2 (by intro i hi;have h2:i<20:=hi;show 2≠zZ i;have:((List.range 20).all fun i=>decide<|zZ i≠2)=true:=J;have h3:=avE.1 this i<|avG.2 h2;simp at h3;exact fun e=>h3 e.symm);have s3:a.tmps[3]?.getD undef=.bool loops:=ae<|hI.keep 3 (by intro i hi;have h2:i<20:=hi;show 3≠zZ i;have:((List.range 20).all fun i=>decide<|zZ i≠3)=true:=J;have h3:=avE.1 this i<|avG.2 h2;simp at h3;exact fun e=>h3 e.symm);have s9:a.tmps[9]?.getD undef=.pointer (some ⟨w1.heap.size,0,none⟩):=ae<|hI.keep 9 (by intro i hi;have h2:i<20:=hi;show 9≠zZ i;have:((List.range 20).all fun i=>decide<|zZ i≠9)=true:=J;have h3:=avE.1 this i<|avG.2 h2;simp at h3;exact fun e=>h3 e.symm);have s13:a.tmps[13]?.getD undef=.pointer (some ⟨w5.heap.size,0,none⟩):=ae<|hI.keep 13 (by intro i hi;have h2:i<20:=hi;show 13≠zZ i;have:((List.range 20).all fun i=>decide<|zZ i≠13)=true:=J;have h3:=avE.1 this i<|avG.2 h2;simp at h3;exact fun e=>h3 e.symm);clear hI hr;rcases(O:i=0\/i=1\/i=2\/i=3\/i=4\/i=5\/i=6\/i=7\/i=8\/i=9\/i=10\/i=11\/i=12\/i=13\/i=14\/i=15\/i=16\/i=17\/i=18\/i=19)with rfl|rfl|rfl|rfl|rfl|rfl|rfl|rfl|rfl|rfl|rfl|rfl|rfl|rfl|rfl|rfl|rfl|rfl|rfl|rfl;all_goals(refine gR rfl rfl ?_)
      ·exact vQ
      ·have h35:=ae<|show a.eval (.tmp 35)=.pointer (some ⟨w1.heap.size,3,none⟩)from ag bJ bC 0 rfl;have ajo:=kk;exact XR
      ·have ai5:=kk;exact M8
      ·exact vQ
      ·exact vQ
      ·have h38:=ae<|show a.eval (.tmp 38)=.pointer (some ⟨sb,0,none⟩)from ag bJ bC 3 rfl;have h39:=ae<|show a.eval (.tmp 39)=.slice va n vc from ag bJ bC 4 rfl;have aiZ:=kk;exact acf
      ·exact vQ
      ·exact vQ
      ·exact vQ
      ·have h43:=ae<|show a.eval (.tmp 43)=.int .i64 deep from ag bJ bC 8 rfl;exact vQ
      ·exact vQ
      ·have Qo:=ae<|show a.eval (.tmp 45)=.pointer (some ⟨sb,0,none⟩)from ag bJ bC 10 rfl;have ai4:=kk;exact M8
      ·exact vQ
      ·have h41:=ae<|show a.eval (.tmp 41)=.pointer (some ⟨sb,0,none⟩)from ag bJ bC 6 rfl;have h42:=ae<|show a.eval (.tmp 42)=.slice va n vc from ag bJ bC 7 rfl;have h44:=ae<|show a.eval (.tmp 44)=.int .i64 (deep-1)from ag bJ bC 9 rfl;obtain⟨q2,jP,hx⟩:∃q:Nat,q<2/\a.eval (.tmp 46)=.int .i64 (q:Int):=ag bJ bC 11 rfl;have hq46:=ae hx;have TF:=ae<|show a.eval (.tmp 47)=.bool loops from ag bJ bC 12 rfl;have ai6:=kk;exact M8
      ·have h37:=ae<|show a.eval (.tmp 37)=.agg #[.int .i64 24,.int .i64 0,.string ch,.slice none 0 0]from ag bJ bC 2 rfl;obtain⟨T5,a5,c5,hp5,NP,Ta⟩:TV w6.heap.size (Sg 300) v (a.eval<|.tmp 40):=ag bJ bC 5 rfl;have h40:=ae NP;have zS:=Z Ta;obtain⟨T13,a13,iZ,VH,Ls,LB⟩:TV w6.heap.size (js (3*deep.toNat+8)<|2*C) v (a.eval<|.tmp 48):=ag bJ bC 13 rfl;have h48:=ae Ls;have HR13:=Z LB;unfold Nd.val at h40 h48;clear NP Ta Ls LB;have ai0:=kk;exact acf
      ·obtain⟨T14,a14,c14,VG,Lr,LA⟩:LV w6.heap.size (fun T=>∃F B,Sg 300 F/\js (3*deep.toNat+8) (2*C) B/\T=lE 0 0 ⟨#[]⟩ (aC 24 0 ch) F B) v (a.eval<|.tmp 49):=ag bJ bC 14 rfl;obtain⟨F14,B14,hF14,hB14,rfl⟩:=VG;have h49:=ae Lr;have HR:=Z LA;clear Lr LA;have ai3:=kk;exact M8
      ·obtain⟨T15,a15,c15,hp15,hx15,hr15⟩:TV w6.heap.size (CsP (3*deep.toNat+8+1)<|2*C+400) v (a.eval<|.tmp 50):=ag bJ bC 15 rfl;have h50:=ae hx15;unfold Nd.val at h50;have HR:=Z hr15;have ai7:=kk;exact M8
      ·have h36:a.eval (.tmp 36)=.slice ka j kc:=ag bJ bC 1 rfl;obtain⟨T3,a3,c3,⟨A3,LG,rfl⟩,hx,Lz⟩:LV w6.heap.size (fun T=>∃A,CsP (3*deep.toNat+8+1) (2*C+400) A/\T=cq 0 0 ⟨#[]⟩ A) v (a.eval<|.tmp 51):=ag bJ bC 16 rfl;have bQ:=dh de;have ba:=eB (f:=40) (j:=19) ml.o aaf de;have ajp:=kk;exact ack
      ·exact vQ
      ·have h53:=ae<|show a.eval (.tmp 53)=.pointer (some ⟨w1.heap.size,3,none⟩)from ag bJ bC 18 rfl;have fI:AV (w1.heap.size+1) w1.heap.size (j+1) (fun Ts=>∀i,i<j+1->CsP (3*deep.toNat+8+1) (2*C+400) (Ts i)) v (a.eval<|.tmp 52):=ag bJ bC 17 rfl;have wg:l.getD 17 false=true:=bC.o _ rfl ⟨17,Ground.data⟩ M rfl;have ajx:=kk;exact acp
     ·intro a v cg mP cQ wu fP;obtain⟨l,hS,bl⟩:=wu;have HF:=Z<|hS.fin<|bl 19 J;rw[gh (n:=20) cg mP cQ];generalize (fun i=>a.eval<|.tmp<|zZ i)=ff;clear cg mP cQ fP hS bl;simp only[jV,Act.put,zZ,getD_cons_zero,getD_cons_succ,setIfInBounds_toArray,set_cons_succ,set_cons_zero,set_nil];obtain⟨Ts',us',s',e',rD,rC,Bh⟩:=HF.o;have wS:=Z Bh;clear Bh HF kb Sb;go_wp2;exact⟨⟨c1,j+1,B+3+3+(2*K+313),rfl,O,O,O,_,_,_,_,_,_,wS.o⟩,by simp[intOf];omega⟩
  ·skip;obtain rfl:c=0:=O;have Ab:¬(0:Int)<((0:Nat):Int):=O;simp only[Nat.zero_mul,Nat.add_zero]at hB;go_wp2_with fail
   refine(CH.o _ _ O Y5.o.dw 2 O).mono ?_;rintro e' w6⟨t,rfl,hs,z⟩;have kb:=Z<|Y5.o.kp hs z;have hob6:=(avp.1 kb.o.bo).1;clear hs z Y5;cases t
   ·skip;obtain⟨o0,o1,o2,o3,of⟩:=al kb.o.bo;obtain⟨f0,f1,f2,f3,ff⟩:=kb.o.dw.cells;have sU:=Z<|kb.o.gw.row (lo:=w.heap.size+1) O 15 0 ⟨#[]⟩;have Uh:=Z kb.o.dw;have tC:=Z kb.o.ok;clear kb;go_wp2;refine avr (Uh.o.read results90 rfl _ _ _ _) rfl ⟨.mk 15 0 ⟨#[]⟩ (j) Ts,_,rfl,?_⟩;exact(Uh.o.a8 (C:=3*(2*C+401)) sU.o ⟨O,O,J,by show j<=_;omega,fun i hi=>(tC.o i hi).1⟩ (tW fun i hi=>(tC.o i hi).2.1.1) (avK (sI fun i hi=>(tC.o i hi).2.2)<|avQ _ O)<|nD fun i hi=>(tC.o i hi).2.1.2).more O
   ·skip;go_upto_region 15 with fail
    have lT:aq (fun i=>if i=7 then 3 else if i=9 then 2*K+10 else 0) 16=2*K+13:=by simp[aq];omega
    have Dz:sb<w6.heap.size:=O;refine dD di aaf oi (vB (3*deep.toNat+8) sb w1.heap.size w6.heap.size (2*C) (2*C+400) n j ka va kc vc deep loops) (GS sb (B+3) (fun i=>if i=7 then 3 else if i=9 then 2*K+10 else 0) 16 13 15 w w6 (w1.heap.size)<|SE (3*deep.toNat+9) sb (B+3+(2*K+13)) (2*C+400) w w1.heap.size<|j+1) (GS.start _ kb.o.dw) ?_ ?_
    ·intro l a v i hI hr;have I7:i<16:=(bx hr).1;have de:=(bx hr).2;have DK:l.size=16:=hI.aU;have HS:=Z hI.s;have pF:=km (fun i=>if i=7 then 3 else if i=9 then 2*K+10 else 0) l 16;rw[lT]at pF;have ml:=Z hI.shut;have dj:=Z fun(v':World)(hw:∀jj x,l.getD jj false=true->vB (3*deep.toNat+8) sb w1.heap.size w6.heap.size (2*C) (2*C+400) n j ka va kc vc deep loops jj v x->vB (3*deep.toNat+8) sb w1.heap.size w6.heap.size (2*C) (2*C+400) n j ka va kc vc deep loops jj v' x)(kJ:GS sb (B+3) (fun i=>if i=7 then 3 else if i=9 then 2*K+10 else 0) 16 13 15 w w6 (w1.heap.size) (SE (3*deep.toNat+9) sb (B+3+(2*K+13)) (2*C+400) w w1.heap.size<|j+1) (l.setIfInBounds i true) v')(x:Value)(hx:vB (3*deep.toNat+8) sb w1.heap.size w6.heap.size (2*C) (2*C+400) n j ka va kc vc deep loops i v' x)(cg:oi i<103)=>hI.put NJ hr cg hw kJ hx;have vS:=Z fun(v':World)(hw:∀jj x,l.getD jj false=true->vB (3*deep.toNat+8) sb w1.heap.size w6.heap.size (2*C) (2*C+400) n j ka va kc vc deep loops jj v x->vB (3*deep.toNat+8) sb w1.heap.size w6.heap.size (2*C) (2*C+400) n j ka va kc vc deep loops jj v' x)(kJ:GS sb (B+3) (fun i=>if i=7 then 3 else if i=9 then 2*K+10 else 0) 16 13 15 w w6 (w1.heap.size) (SE (3*deep.toNat+9) sb (B+3+(2*K+13)) (2*C+400) w w1.heap.size<|j+1) (l.setIfInBounds i true) v')(hx:∀x,vB (3*deep.toNat+8) sb w1.heap.size w6.heap.size (2*C) (2*C+400) n j ka va kc vc deep loops i v' x)=>hI.none hr hw kJ hx;have bJ:=Z fun(j:Nat)(hj:j<16)(hl:l.getD j false=true)=>hI.bl j hj hl;have bC:=gT hr;have s0:a.tmps[0]?.getD undef=.pointer (some ⟨sb,0,none⟩):=ae<|hI.keep 0 (by intro i hi;have h2:i<16:=hi;show 0≠oi i;have:((List.range 16).all fun i=>decide<|oi i≠0)=true:=J;have h3:=avE.1 this i<|avG.2 h2;simp at h3;exact fun e=>h3 e.symm);have s1:a.tmps[1]?.getD undef=.slice va n vc:=ae<|hI.keep 1 (by intro i hi;have h2:i<16:=hi;show 1≠oi i;have:((List.range 16).all fun i=>decide<|oi i≠1)=true:=J;have h3:=avE.1 this i<|avG.2 h2;simp at h3;exact fun e=>h3 e.symm);have s2:a.tmps[2]?.getD undef=.int .i64 deep:=ae<|hI.keep 2 (by intro i hi;have h2:i<16:=hi;show 2≠oi i;have:((List.range 16).all fun i=>decide<|oi i≠2)=true:=J;have h3:=avE.1 this i<|avG.2 h2;simp at h3;exact fun e=>h3 e.symm);have s3:a.tmps[3]?.getD undef=.bool loops:=ae<|hI.keep 3 (by intro i hi;have h2:i<16:=hi;show 3≠oi i;have:((List.range 16).all fun i=>decide<|oi i≠3)=true:=J;have h3:=avE.1 this i<|avG.2 h2;simp at h3;exact fun e=>h3 e.symm);have s9:a.tmps[9]?.getD undef=.pointer (some ⟨w1.heap.size,0,none⟩):=ae<|hI.keep 9 (by intro i hi;have h2:i<16:=hi;show 9≠oi i;have:((List.range 16).all fun i=>decide<|oi i≠9)=true:=J;have h3:=avE.1 this i<|avG.2 h2;simp at h3;exact fun e=>h3 e.symm);clear hI hr;rcases(O:i=0\/i=1\/i=2\/i=3\/i=4\/i=5\/i=6\/i=7\/i=8\/i=9\/i=10\/i=11\/i=12\/i=13\/i=14\/i=15)with rfl|rfl|rfl|rfl|rfl|rfl|rfl|rfl|rfl|rfl|rfl|rfl|rfl|rfl|rfl|rfl;all_goals(refine gR rfl rfl ?_)
     ·exact vQ
     ·have h87:=ae<|show a.eval (.tmp 87)=.pointer (some ⟨w1.heap.size,3,none⟩)from ag bJ bC 0 rfl;have bQ:=eB (f:=40) (j:=13) ml.o aaf de;have ba:=eB (f:=40) (j:=15) ml.o aaf de;exact acd
     ·exact vQ
     ·exact vQ
     ·exact vQ
     ·have h91:=ae<|show a.eval (.tmp 91)=.int .i64 deep from ag bJ bC 4 rfl;exact vQ
     ·exact vQ
     ·have h93:=ae<|show a.eval (.tmp 93)=.pointer (some ⟨sb,0,none⟩)from ag bJ bC 6 rfl;have ai9:=kk;exact M7
     ·exact vQ
     ·have h89:=ae<|show a.eval (.tmp 89)=.pointer (some ⟨sb,0,none⟩)from ag bJ bC 2 rfl;have h90:=ae<|show a.eval (.tmp 90)=.slice va n vc from ag bJ bC 3 rfl;have h92:=ae<|show a.eval (.tmp 92)=.int .i64 (deep-1)from ag bJ bC 5 rfl;obtain⟨q2,jP,hx⟩:∃q:Nat,q<2/\a.eval (.tmp 94)=.int .i64 (q:Int):=ag bJ bC 7 rfl;have hq94:=ae hx;have h95:=ae<|show a.eval (.tmp 95)=.bool loops from ag bJ bC 8 rfl;have ajc:=kk;exact M7
     ·obtain⟨T9,a9,c9,hp9,hx9,VC⟩:TV w6.heap.size (js (3*deep.toNat+8)<|2*C) v (a.eval<|.tmp 96):=ag bJ bC 9 rfl;have h96:=ae hx9;have HR:=Z VC;unfold Nd.val at h96;clear hx9 VC;have aja:=kk;exact M7
     ·obtain⟨T10,a10,jq,hp10,hx10,hr10⟩:LV w6.heap.size (fun T=>∃B,js (3*deep.toNat+8) (2*C) B/\T=cq 0 0 ⟨#[]⟩ B) v (a.eval<|.tmp 97):=ag bJ bC 10 rfl;obtain⟨B10,hB10,rfl⟩:=hp10;have h97:=ae hx10;have HR:=Z hr10;clear hx10 hr10;have ai8:=kk;exact M7
     ·obtain⟨T11,a11,ja,VI,Lu,LC⟩:TV w6.heap.size (CsP (3*deep.toNat+8+1)<|2*C+400) v (a.eval<|.tmp 98):=ag bJ bC 11 rfl;have h98:=ae Lu;unfold Nd.val at h98;have HR:=Z LC;have ajb:=kk;exact M7
     ·have h88:a.eval (.tmp 88)=.slice ka j kc:=ag bJ bC 1 rfl;obtain⟨T3,a3,c3,⟨A3,LG,rfl⟩,hx,Lz⟩:LV w6.heap.size (fun T=>∃A,CsP (3*deep.toNat+8+1) (2*C+400) A/\T=cq 0 0 ⟨#[]⟩ A) v (a.eval<|.tmp 99):=ag bJ bC 12 rfl;have bQ:=dh de;have ba:=eB (f:=40) (j:=15) ml.o aaf de;have ajq:=kk;exact ack
     ·exact vQ
     ·have h101:=ae<|show a.eval (.tmp 101)=.pointer (some ⟨w1.heap.size,3,none⟩)from ag bJ bC 14 rfl;have fI:AV (w1.heap.size+1) w1.heap.size (j+1) (fun Ts=>∀i,i<j+1->CsP (3*deep.toNat+8+1) (2*C+400) (Ts i)) v (a.eval<|.tmp 100):=ag bJ bC 13 rfl;have wg:l.getD 13 false=true:=bC.o _ rfl ⟨13,Ground.data⟩ M rfl;have ajy:=kk;exact acp
    ·intro a v cg mP cQ wu fP;obtain⟨l,hS,bl⟩:=wu;have HF:=Z<|hS.fin<|bl 15 J;rw[gh (n:=16) cg mP cQ];generalize (fun i=>a.eval<|.tmp<|oi i)=ff;clear cg mP cQ fP hS bl;simp only[jV,Act.put,oi,getD_cons_zero,getD_cons_succ,setIfInBounds_toArray,set_cons_succ,set_cons_zero,set_nil];obtain⟨Ts',us',s',e',rD,rC,Bh⟩:=HF.o;have wS:=Z Bh;clear Bh HF kb;obtain⟨o0,o1,o2,o3,of⟩:=al wS.o.bo;obtain⟨f0,f1,f2,f3,ff⟩:=wS.o.dw.cells;have sU:=Z<|wS.o.gw.row (lo:=w.heap.size+1) O 15 0 ⟨#[]⟩;have Uh:=Z wS.o.dw;have tC:=Z wS.o.ok;clear wS;go_wp2;refine avr (Uh.o.read results90 rfl _ _ _ _) rfl ⟨.mk 15 0 ⟨#[]⟩ (j+1) Ts',_,rfl,?_⟩;exact(Uh.o.a8 (C:=3*(2*C+401)) sU.o ⟨O,O,J,by show j+1<=_;omega,fun i hi=>(tC.o i hi).1⟩ (tW fun i hi=>(tC.o i hi).2.1.1) (avK (sI fun i hi=>(tC.o i hi).2.2)<|avQ _ O)<|nD fun i hi=>(tC.o i hi).2.1.2).more O
end Go.Proofs.YtgcmhaghebhjnaaGreatDoor
