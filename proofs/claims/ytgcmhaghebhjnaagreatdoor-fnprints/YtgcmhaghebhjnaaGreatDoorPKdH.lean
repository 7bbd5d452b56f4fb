import Derived.Test.YtgcmhaghebhjnaaGreatDoorPKdA
import Derived.Deep.RegionHeld3
set_option linter.unusedVariables false
set_option maxHeartbeats 16000000
set_option maxRecDepth 100000
namespace Go.Proofs.YtgcmhaghebhjnaaGreatDoor
open Go.RowKit Tryz List
variable {A C F T:Nd} {E:Sc} {K:SK} {X:List Int} {ai own1:Option Nat} {b cap d j m p:Nat} {cx:Cx} {f:Bool} {loops ret:Int} {s s1:CS} {u v:Value} {w w0 w1:World}
variable {G :Prop}
theorem adO (h:G:=by have amr:=kk;exact adX):G:=h
theorem adP (h:G:=by have ams:=kk;exact adX):G:=h
theorem adW (h:G:=by have anQ:=kk;exact Xr):G:=h
theorem ad4 (h:G:=by have amt:=kk;exact adY):G:=h
theorem aee (h:G:=by have amB:=kk;exact Xx):G:=h
theorem ael (h:G:=by have amu:=kk;exact adY):G:=h
theorem aes (h:G:=by
 go_wp2;have HKEP:=Z HSE.o.kept;clear x0 x1 x2 x3 fH;go_loopw[6] (fun i wr=>∃n:Nat,n<=F.q/\i=.int .i64 n/\∃wz Pw E r,SS K wz Pw (CR.bind (Mj F n) fun X=>.ok (E,X)) r 0 0 wr/\Kept (K.S none) w2 wr) (fun i _=>F.q-(intOf i).toNat)
 case atStart=>exact⟨0,avL _,rfl,_,_,[],0,by rw[fnC_0];exact HSE.o,HKEP.o⟩
 case round=>
  obtain⟨n2,CC,rfl,wz,Pw,E,r,eR,eD⟩:=hrel;have fH:=IX.o _ eD;obtain⟨x0,x1,x2,x3⟩:=HQ.o _ fH;have Oc:=Z<|ni.o.trans<|fH.mono O;by_cases sM:n2<F.q
  ·have hni2:(n2:Int)<(F.q:Int):=O;cases hq:Mj F n2 with
   |error e0=>
    rw[hq]at eR;obtain⟨code2,Vs,hz''⟩:=eR.bC;have vH:Hid (iJ F=.error e0):=Qz hq CC;have mW:=Z eR;clear eR hq;go_wp2;go_ret;exact⟨K,wz,Pw,E,r,rfl,kF,kN,O,by rw[vH.o];exact mW.o,Oc.o⟩
   |ok X=>
    rw[hq]at eR;have Vs:=eR.a1;obtain⟨g2,vW,zG,hv2,hgl2,Tq,Tl⟩:=HKC.o O;injection hv2 with QN ev2 QM;subst QN;subst QM;obtain⟨ga2,oa2,ca2,hu2,hca2',hav2⟩:=HAT.o O;injection hu2 with eu1 eu2 eu3;subst eu1;subst eu3;obtain⟨ud,Ab,Bi⟩:=Tl n2 sM;obtain⟨c0,c1,c2,c3⟩:=Ab _ fH;have an:=hav2 _ eD n2 sM;obtain⟨ownr,hsr,_,_,_⟩:=eR.drew.bQ;have hXl:=DY hF CC X hq;have NA:=Z<|Wh (K:=K) (tJ hF sM) ownr E X r _ ud hsr ⟨by rw[kF];exact hf,by rw[kF,kfv];exact ah fH.drew lr Ek.o,by rw[kF];exact hF⟩ ⟨Nd.aa hf sM,ah fH.drew lr Bi,avK (F.b3 sM) iW⟩ (by rw[hXl,kN];have:=fm F 0 sM;omega);unfold Nd.val at NA;rw[hXl,kF]at NA;have HNX:=Z<|uO F n2;rw[hq]at HNX;have HKK:=Z eD;clear eR hq eD hsr Ab Bi Tl hav2 fH;go_wp2;go_still_tail 10,di
    go_wp2_with(go_at_call 55;refine NA.o.mono ?_;rintro e w5 ⟨rfl,w6,own6,E6,Cz,wj,hk6⟩;have vG:=Z Cz;have HK6:=Z hk6;clear Cz wj hk6)
    refine⟨⟨n2+1,O,by go_num,w6,own6,E6,(F.f n2).E,?_,?_⟩,by simp[intOf];omega⟩
    ·rw[HNX.o];exact vG.o
    ·exact HKK.o.drew.trans HK6.o fun _ _ h=>h
  ·obtain rfl:n2=F.q:=O;have mW:=Z eR;clear eR;go_wp2;go_ret;exact⟨K,wz,Pw,E,r,rfl,kF,kN,O,mW.o,Oc.o⟩):G:=h
theorem aet (h:G:=by have amD:=kk;exact ad1):G:=h
theorem aeu (h:G:=by
 go_still_tail 8,di
 go_wp2_with(go_at_call 92;refine(FK.o w1 own1 _ _ us Cm.o _ oQ.o.drew).mono ?_;rintro e w4 ⟨rfl,oU⟩;have Cz:=gU.o _ _ _ _ _ oU;obtain⟨j9,j10,j11⟩:=Cz.outs;have k9:w4.cell? ⟨K.cb,9,none⟩=some (.int .i64 cx.ret):=j9;have vM:w4.cell? ⟨K.cb,10,none⟩=some (.int .i64<|(cx.loops:Int)+1):=j10;have uz:w4.cell? ⟨K.cb,11,none⟩=some (.int .i64<|(cx.outs:Int)+1):=j11;have f10:=Cz.free 10;have f11:=Cz.free 11;have vG:=Z<|(Cz.b5 cx.loops).bP cx.outs;clear oU Cz j9 j10 j11)
 go_end0;exact⟨rfl,vG.o⟩):G:=h
theorem aev (h:G:=by
 go_quiet (fail);go_wp2_with(go_at_call 54;refine(eM (cY.o.calm<|below_drewN _ _) 9 J q).mono ?_;rintro e w3 ⟨rfl,dP⟩;have fa:=Z dP;clear dP)
 go_end0;exact⟨rfl,gU.o _ _ _ _ _ fa.o⟩):G:=h
theorem adQ (h:G:=by rw[dY K.F O];unfold stM;rw[avo O,avo O,avo O,avo O,avo O,avo O,avo O,avo O,avA z,avo (by simp[hl,h0])]):G:=h
theorem adR (h:G:=by rw[dY K.F O];unfold stM;rw[avo O,avo O,avo O,avo O,avo O,avo O,avo O,avA z];rw[hl];exact Kh.symm):G:=h
theorem adS (h:G:=by rw[z,e2,aw2];clear hr hq ih;exact Xy):G:=h
theorem adT (h:G:=by
 first|go_end0|refine avr (results_none rfl _ _ _) rfl ?_
 exact⟨rfl,gU.o _ _ _ _ _ fa.o⟩):G:=h
theorem XB (h:G:=by clear hr hq ih;exact Xy):G:=h
theorem XA (h:G:=by
 clear hq hr ih;go_enter func122,ntmps122
 go_wp2;go_ret;exact⟨rfl,bA⟩):G:=h
theorem Xz (h:G:=by go_ret;exact⟨rfl,(dC.o _).trans (hb1.mono M)⟩):G:=h
theorem adU (h:G:=by
 go_still_tail 16,di
 go_wp2_with(go_at_call 139;refine(CK.o x1 fk _ _ nc.o _ _ HS1L.o eF.o.drew).mono ?_;rintro e x4 ⟨rfl,oU⟩;have mK:=Z<|kT.o _ _ _ _ _ oU;clear oU)
 refine⟨⟨j+1,O,by go_num,by rw[vH.o],?_⟩,by simp[intOf];omega⟩;rw[Sa.o];exact mK.o):G:=h
theorem adV (h:G:=by refine⟨⟨j+1,O,by go_num,by rw[vH.o],?_⟩,by simp[intOf];omega⟩;rw[Sa.o];exact kT.o _ _ _ _ _ eF.o):G:=h
theorem Xy (h:G:=by
 go_enter func93,ntmps93
 go_wp2;go_ret;exact⟨rfl,dC.o _⟩):G:=h
theorem adX (h:G:=by
 go_wp2;generalize xM:wr.alloc (.cells #[.int .i64 D.y,.int .i64 2,.string D.z,.slice (some ⟨gd,od,none⟩) D.q cd] 25)=wx;have x0:wx.cell? ⟨wr.heap.size,0,none⟩=some (.int .i64 D.y):=by rw[<-xM];simp
 have x1:wx.cell? ⟨wr.heap.size,1,none⟩=some (.int .i64 2):=by rw[<-xM];simp
 have ank:=kk;exact Xs):G:=h
theorem adY (h:G:=by
 go_wp2;generalize xM:wr.alloc (.cells #[.int .i64 D.y,.int .i64 1,.string D.z,.slice (some ⟨gd,od,none⟩) D.q cd] 25)=wx;have x0:wx.cell? ⟨wr.heap.size,0,none⟩=some (.int .i64 D.y):=by rw[<-xM];simp
 have x1:wx.cell? ⟨wr.heap.size,1,none⟩=some (.int .i64 1):=by rw[<-xM];simp
 have anl:=kk;exact Xs):G:=h
theorem adZ (h:G:=by have amL:=kk;exact Xw):G:=h
theorem ad0 (h:G:=by
 clear hf;go_wp2;generalize xM:wr.alloc (.cells #[.int .i64 D.y,.int .i64 0,.string D.z,.slice (some ⟨gd,od,none⟩) D.q cd] 25)=wx;have x0:wx.cell? ⟨wr.heap.size,0,none⟩=some (.int .i64 D.y):=by rw[<-xM];simp
 have x1:wx.cell? ⟨wr.heap.size,1,none⟩=some (.int .i64 0):=by rw[<-xM];simp
 have anm:=kk;exact Xs):G:=h
theorem Xx (h:G:=by have amK:=kk;exact Xw):G:=h
theorem ad1 (h:G:=by have amM:=kk;exact Xw):G:=h
theorem ad2 (h:G:=by rw[I]at HEN;have HB:=Z I;clear I;have amQ:=kk;exact ad5):G:=h
theorem Rp (h:G:=by have amO:=kk;exact ad3):G:=h
theorem Xw (h:G:=by have amN:=kk;exact ad3):G:=h
theorem ad3 (h:G:=by have anw:=kk;exact aeh):G:=h
theorem ad5 (h:G:=by
 go_wp2;go_region_held3 (fun W=>W.cell? ⟨w.heap.size,3,none⟩=some (.slice (some ⟨g,off,none⟩) T.q cap)/\W.cell? ⟨g,off+n*4,none⟩=some (.int .i64 B.y)/\W.cell? ⟨g,off+n*4+1,none⟩=some (.int .i64 B.E)/\W.cell? ⟨g,off+n*4+2,none⟩=some (.string B.z)/\W.cell? ⟨g,off+n*4+3,none⟩=some (.slice aB B.q cB)/\W.cell? ⟨ga,oa+n,none⟩=some (.int .i64 (pb:Nat))) (go_keep) (first
  |(go_at_call 52;refine HATB.o.mono ?_;rintro e w3 ⟨u3,rfl,uJ,hb3⟩;obtain⟨fk,dP,pL,DQ,DO⟩:=HSA.o w3 u3 hb3 uJ;obtain⟨us,pG⟩:=N7.o w3 fk u3 uJ DQ DO;have Qg:=pL _ _ _ _ _ dP;obtain⟨d0,d1,d2,d3⟩:=HG.o.box _ _ _ _ _ Qg;obtain⟨c0,c1,c2,c3⟩:=Sb.o _<|HG.o.below _ _ _ _ _ Qg;have an:=iT.o _ _ _ _ _ Qg n Tf;rw[CG.o]at an;have Yb:=Z pG;have YA:=Z pL;have fa:=Z dP;clear dP pL DQ DO pG uJ hb3 Qg)
  |(go_at_call 92;refine(FK.o w3 fk u3 us Yb.o _ fa.o).mono ?_;rw[Ya.o];rintro e w5 ⟨rfl,o6⟩;have DM:=YA.o _ _ _ _ _ o6;obtain⟨d0,d1,d2,d3⟩:=HG.o.box _ _ _ _ _ DM;obtain⟨c0,c1,c2,c3⟩:=Sb.o _ (HG.o.below _ _ _ _ _ DM);have an:=iT.o _ _ _ _ _ DM n Tf;rw[CG.o]at an;have Vs:=DM.a1;have oQ:=Z DM;have Eo:=Z (HG.o.below _ _ _ _ _ DM);clear o6 DM))
 first
 |clear amP
  go_wp2;go_end0;exact⟨rfl,_,none,s2.1,by rw[Zg.o _ Ya.o,avo fun h=>h.1 H0.o];exact oQ.o,Eo.o,HKP.o _ _ _ _ _ oQ.o⟩
 |clear amQ
  first
  |clear amE
   go_wp2_with(go_at_call 93;refine(HEN.o _ Eo.o).mono ?_;rintro e w6 ⟨rfl,wj⟩;have vG:=Z<|oQ.o.calm wj;have HBL6:=Z<|Eo.o.trans<|wj.mono<|avK (by have:=Eo.o.size;omega) lr;clear wj)
   go_end0;exact⟨rfl,_,none,s2.1,by rw[Zg.o _ Ya.o,avo fun h=>by rw[HB.o]at h;cases h.2];exact vG.o,HBL6.o,HKP.o _ _ _ _ _ vG.o⟩
  |clear amF
   go_wp2_with(first
    |(go_at_call 93;refine(HEN.o _ Eo.o).mono ?_;rintro e w6 ⟨rfl,wj⟩;have vG:=Z<|oQ.o.calm wj;clear wj)
    |(go_at_call 54;refine(eM vG.o 9 J p).mono ?_;rintro e w7 ⟨rfl,hs7⟩;have HBL7:=Z (HG.o.below _ _ _ _ _ hs7);have yv:=Z hs7;clear hs7))
   go_end0;exact⟨rfl,_,none,s2.1,by rw[Zg.o _ Ya.o,avA ⟨H0.o,HB.o⟩];exact yv.o,HBL7.o,HKP.o _ _ _ _ _ yv.o⟩):G:=h
theorem ad6 (h:G:=by have ano:=kk;exact aeg):G:=h
theorem ad7 (h:G:=by clear ba hS zm hE hN z ax ey aZ fz dR hl cg hσ vN xQ NQ Bs h3;have ana:=kk;exact Xu):G:=h
theorem ad8 (h:G:=by clear ba hS zm hE hN z ax ey aZ fz dR hl cg;have aon:=kk;exact ID):G:=h
theorem ad9 (h:G:=by clear ba hS zm hE hN z ax ey aZ fz dR hl cg;have anb:=kk;exact Xu):G:=h
theorem aea (h:G:=by have ane:=kk;exact Xu):G:=h
theorem aeb (h:G:=by
 have fp:=hS.ok.aR;have be:=hS.lt;have iX:=hS.ok.cl;have cg:0<T.size:=by rw[T.size_eq];omega
 have xQ:=hS.lens;obtain⟨a,cap,hv,bo,NS⟩:=ar.1 hN.row;subst hv;clear NS;have anT:=kk;exact Xq):G:=h
theorem aec (h:G:=by
 obtain⟨ud0,ey,dR⟩:=j5 0 O;simp only[Nat.zero_mul,Nat.add_zero]at ey;have cZ:=Z ey;have CF:=Z fun(x1:World)(fk:Option Nat)(b3:Nat)(u3:Value)(oD:SGo K wr.drew x1 fk b3 D (.slice (some ⟨gd,od,none⟩) D.q cd) u3 pj)(X:World)(σ:CR CS)(q:Nat)(ty:Int)(hX:SS K x1 fk σ cx.ret cx.loops cx.outs X)(ha:SAt K (D.f 0) σ q)=>tG (D.f 0) K x1 fk σ cx.ret cx.loops cx.outs X ud0 q ty hX (oD.env HED.o hX) ((HFD.o.a7 O dR).later<|oD.below _ _ _ _ _ hX) ha fz;obtain⟨ud1,eO,fQ⟩:=j5 1 O;simp only[awg]at eO;have fU:=Z eO;first
 |clear am3
  have Ti:=dv D (i:=1) O;have LU:=fm D pj (i:=1) O;have CK:=Z fun(x1:World)(fk:Option Nat)(b3:Nat)(u3:Value)(oD:SGo K wr.drew x1 fk b3 D (.slice (some ⟨gd,od,none⟩) D.q cd) u3 pj)(X:World)(s1:CS)(I4:s1.2.length=bg D pj 1)(hX:SS K x1 fk (.ok s1) cx.ret cx.loops cx.outs X)=>D8 (T:=D.f 1) wv (fun i hi=>Yg.o _ (by have:=dv (D.f 1) hi;omega)) K x1 fk s1 cx X ud1 (bg D pj 1) I4 hX (oD.env HED.o hX) ((HFD.o.a7 O fQ).later<|oD.below _ _ _ _ _ hX) O nG O O D pj;have rT:Hid (SAt K (D.f 0) (.ok<|az sj)<|bg D pj 0):=by rw[<-Y8.o];exact SAt.cm (by rw[Y8.o];omega) fp O
  have Zi:=Z TE;have Yp:=Z hL;have vH:Hid (DX T (j+1)=DX T j):=by unfold Hid;rw[HFN.o,oc.o];simp
  have Sa:Hid (Ja K.F T cx (az s) (j+1)=CR.bind (cV K (D.f 0) 3<|.ok<|az sj) (within (SG D)<|(fw K.F<|D.f 1).ad cx)):=by
   unfold Hid;rw[IQ.o,cs_1 Zi.o oc.o Yp.o];rfl
  cases hσ:cV K (D.f 0) 3 (.ok<|az sj)with
  |error e0=>
   rw[hσ]at Sa;have rP:=Z hσ;clear hσ;clear TE hL j5 wv nG ey dR eO fQ fz;generalize DX T j=fj at*
   cases fj with
   |true=>
    exact ael
   |false=>
    exact ael
  |ok s1=>
   have Ly:s1.2.length=bg D pj 1:=(by obtain⟨q1,e1,e2⟩:=jd fz s1 hσ;injection e1 with e1;subst e1;rw[e2,cr,hpj,fx,s7]);rw[hσ]at Sa;have rP:=Z hσ;have HS1L:=Z Ly;clear hσ Ly;clear TE hL j5 wv nG ey dR eO fQ fz;generalize DX T j=fj at*
   cases fj with
   |true=>
    exact ad4
   |false=>
    exact ad4
 |clear am4
  have N1:=Z fun(x1:World)(fk:Option Nat)(b3:Nat)(u3:Value)(oD:SGo K wr.drew x1 fk b3 D (.slice (some ⟨gd,od,none⟩) D.q cd) u3 pj)(X:World)(σ:CR CS)(q:Nat)(ty:Int)(hX:SS K x1 fk σ cx.ret cx.loops cx.outs X)(ha:SAt K (D.f 1) σ q)=>tG (D.f 1) K x1 fk σ cx.ret cx.loops cx.outs X ud1 q ty hX (oD.env HED.o hX) ((HFD.o.a7 O fQ).later<|oD.below _ _ _ _ _ hX) ha mZ;obtain⟨ud2,jQ,qg⟩:=j5 2 O;simp only[Nat.reduceMul]at jQ;have oR:=Z jQ;have Ti:=dv D (i:=2) O;have LU:=fm D pj (i:=2) O;have CK:=Z fun(x1:World)(fk:Option Nat)(b3:Nat)(u3:Value)(oD:SGo K wr.drew x1 fk b3 D (.slice (some ⟨gd,od,none⟩) D.q cd) u3 pj)(X:World)(s1:CS)(I4:s1.2.length=bg D pj 2)(hX:SS K x1 fk (.ok s1) cx.ret cx.loops cx.outs X)=>D8 (T:=D.f 2) wv (fun i hi=>Yg.o _ (by have:=dv (D.f 2) hi;omega)) K x1 fk s1 cx X ud2 (bg D pj 2) I4 hX (oD.env HED.o hX) ((HFD.o.a7 O qg).later<|oD.below _ _ _ _ _ hX) O nG O O D pj;have rT:Hid (SAt K (D.f 0) (.ok<|az sj)<|bg D pj 0):=by rw[<-Y8.o];exact SAt.cm (by rw[Y8.o];omega) fp O
  have Oe:=Z<|SAt.next (τ:=cV K (D.f 0) 3<|.ok<|az sj) rT.o O O fp<|jd fz;have Zi:=Z TE;have Yp:=Z hL;have vH:Hid (DX T (j+1)=DX T j):=by unfold Hid;rw[HFN.o,oc.o];simp
  have Sa:Hid (Ja K.F T cx (az s) (j+1)=CR.bind (cV K (D.f 1) 1<|cV K (D.f 0) 3<|.ok<|az sj) (within (SG D)<|(fw K.F<|D.f 2).ad cx)):=by
   unfold Hid;rw[IQ.o,cs_2 Zi.o oc.o Yp.o];show _=CR.bind (CR.bind (dz (gJ K.F<|D.f 0) 3<|az sj)<|dz (gJ K.F<|D.f 1) 1) _;cases dz (gJ K.F<|D.f 0) 3 (az sj)<;>rfl
  cases hσ:cV K (D.f 1) 1 (cV K (D.f 0) 3<|.ok<|az sj)with
  |error e0=>
   rw[hσ]at Sa;have rP:=Z hσ;clear hσ;clear TE hL j5 wv nG ey dR eO fQ jQ qg fz mZ;generalize DX T j=fj at*
   cases fj with
   |true=>
    exact adP
   |false=>
    exact adP
  |ok s1=>
   have Ly:s1.2.length=bg D pj 2:=(by obtain⟨q2,e3,e4⟩:=jd mZ s1 hσ;obtain⟨q1,e1,e2⟩:=jd fz q2 e3;injection e1 with e1;subst e1;rw[e4,e2,cr,hpj,fx,fx,s7]);rw[hσ]at Sa;have rP:=Z hσ;have HS1L:=Z Ly;clear hσ Ly;clear TE hL j5 wv nG ey dR eO fQ jQ qg fz mZ;generalize DX T j=fj at*
   cases fj with
   |true=>
    exact adO
   |false=>
    exact adO):G:=h
theorem aed (h:G:=by rw[ba];subst vN;have anG:=kk;exact aen):G:=h
theorem Xv (h:G:=by have anh:=kk;exact Xt):G:=h
theorem Xu (h:G:=by have aoo:=kk;exact ID):G:=h
theorem aef (h:G:=by clear ba hS zm hE hN z cg hl;have aop:=kk;exact ID):G:=h
theorem Xt (h:G:=by rw[ba];have anH:=kk;exact aen):G:=h
theorem Xs (h:G:=by
 have x2:wx.cell? ⟨wr.heap.size,2,none⟩=some (.string D.z):=by rw[<-xM];simp
 have x3:wx.cell? ⟨wr.heap.size,3,none⟩=some (.slice (some ⟨gd,od,none⟩) D.q cd):=by rw[<-xM];simp
 have xa:wx.cell? ⟨ga,oa+j,none⟩=some (.int .i64 (pj:Nat)):=by rw[<-xM];exact(World.cell?_alloc_past _ _ _ hgaw).trans an
 first
 |clear ank
  have Cr:=Z<|dy.o<|.cells #[.int .i64 D.y,.int .i64 2,.string D.z,.slice (some ⟨gd,od,none⟩) D.q cd] 25;rw[xM]at Cr;have HWX:=Z xM;clear xM;go_still_tail 5,di
  go_wp2_with(go_at_call 52;refine Cr.o.mono ?_;rintro e x1 ⟨u1,rfl,bF,hb1⟩;rw[<-HWX.o]at bF hb1;obtain⟨fk,bz,bE,eE⟩:=jS.o x1 u1 _ hb1 bF;obtain⟨ga1,oa1,ca1,rfl,V6,Bz⟩:=eE.b4 O;have nc:=Z eE;have lK:=Z Bz;have kT:=Z bE;obtain⟨b0,b1,b2,b3⟩:=(show x1.cell? ⟨wr.heap.size,0,none⟩=_/\x1.cell? ⟨wr.heap.size,1,none⟩=_/\x1.cell? ⟨wr.heap.size,2,none⟩=_/\x1.cell? ⟨wr.heap.size,3,none⟩=_ from nc.o.box _ _ _ _ _ bz);rw[oc.o]at b1;have an:=iT.o _ _ _ _ _<|kT.o _ _ _ _ _ bz;have a0:=lK.o _ _ _ _ _ bz 0 O;rw[Nat.add_zero]at a0;obtain⟨ej,ei,eh,ef⟩:=cZ.o _<|nc.o.below _ _ _ _ _ bz;have a1:=lK.o _ _ _ _ _ bz 1 O;obtain⟨jq,ja,jo,iZ⟩:=fU.o _<|nc.o.below _ _ _ _ _ bz;have a2:=lK.o _ _ _ _ _ bz 2 O;obtain⟨Ah,Ag,vu,vt⟩:=oR.o _<|nc.o.below _ _ _ _ _ bz;have k5:=bz.a1;have cY:=Z bz;clear bz bE eE Bz bF hb1)
  go_still_tail 8,di
  go_wp2_with(go_at_call 142;refine(CF.o x1 fk _ _ nc.o _ _ _ _ cY.o.drew rT.o).mono ?_;rintro e x3 ⟨rfl,dP⟩;obtain⟨b0,b1,b2,b3⟩:=(show x3.cell? ⟨wr.heap.size,0,none⟩=_/\x3.cell? ⟨wr.heap.size,1,none⟩=_/\x3.cell? ⟨wr.heap.size,2,none⟩=_/\x3.cell? ⟨wr.heap.size,3,none⟩=_ from nc.o.box _ _ _ _ _ dP);rw[oc.o]at b1;have an:=iT.o _ _ _ _ _<|kT.o _ _ _ _ _ dP;have a0:=lK.o _ _ _ _ _ dP 0 O;rw[Nat.add_zero]at a0;obtain⟨ej,ei,eh,ef⟩:=cZ.o _<|nc.o.below _ _ _ _ _ dP;have a1:=lK.o _ _ _ _ _ dP 1 O;obtain⟨jq,ja,jo,iZ⟩:=fU.o _<|nc.o.below _ _ _ _ _ dP;have a2:=lK.o _ _ _ _ _ dP 2 O;obtain⟨Ah,Ag,vu,vt⟩:=oR.o _<|nc.o.below _ _ _ _ _ dP;have fa:=Z dP;clear dP)
  go_still_tail 8,di
  first
  |clear amr
   go_wp2_with(go_at_call 142;refine(N1.o x1 fk _ _ nc.o _ _ _ _ fa.o.drew Oe.o).mono ?_;rintro e x2 ⟨rfl,bP⟩;rw[rP.o]at bP;obtain⟨b0,b1,b2,b3⟩:=(show x2.cell? ⟨wr.heap.size,0,none⟩=_/\x2.cell? ⟨wr.heap.size,1,none⟩=_/\x2.cell? ⟨wr.heap.size,2,none⟩=_/\x2.cell? ⟨wr.heap.size,3,none⟩=_ from nc.o.box _ _ _ _ _ bP);rw[oc.o]at b1;have an:=iT.o _ _ _ _ _<|kT.o _ _ _ _ _ bP;have a0:=lK.o _ _ _ _ _ bP 0 O;rw[Nat.add_zero]at a0;obtain⟨ej,ei,eh,ef⟩:=cZ.o _<|nc.o.below _ _ _ _ _ bP;have a1:=lK.o _ _ _ _ _ bP 1 O;obtain⟨jq,ja,jo,iZ⟩:=fU.o _<|nc.o.below _ _ _ _ _ bP;have a2:=lK.o _ _ _ _ _ bP 2 O;obtain⟨Ah,Ag,vu,vt⟩:=oR.o _<|nc.o.below _ _ _ _ _ bP;have k5:=bP.a1;have eF:=Z bP;clear bP)
   exact adU
  |clear ams
   go_wp2_with(go_at_call 142;refine(N1.o x1 fk _ _ nc.o _ _ _ _ fa.o.drew Oe.o).mono ?_;rintro e x2 ⟨rfl,bP⟩;rw[rP.o]at bP;obtain⟨b0,b1,b2,b3⟩:=(show x2.cell? ⟨wr.heap.size,0,none⟩=_/\x2.cell? ⟨wr.heap.size,1,none⟩=_/\x2.cell? ⟨wr.heap.size,2,none⟩=_/\x2.cell? ⟨wr.heap.size,3,none⟩=_ from nc.o.box _ _ _ _ _ bP);rw[oc.o]at b1;have an:=iT.o _ _ _ _ _<|kT.o _ _ _ _ _ bP;have a0:=lK.o _ _ _ _ _ bP 0 O;rw[Nat.add_zero]at a0;obtain⟨ej,ei,eh,ef⟩:=cZ.o _<|nc.o.below _ _ _ _ _ bP;have a1:=lK.o _ _ _ _ _ bP 1 O;obtain⟨jq,ja,jo,iZ⟩:=fU.o _<|nc.o.below _ _ _ _ _ bP;have a2:=lK.o _ _ _ _ _ bP 2 O;obtain⟨Ah,Ag,vu,vt⟩:=oR.o _<|nc.o.below _ _ _ _ _ bP;obtain⟨code,k5,hz⟩:=bP.bC;have eF:=Z bP;clear bP)
   exact adV
 |clear anl
  have Cr:=Z<|dy.o<|.cells #[.int .i64 D.y,.int .i64 1,.string D.z,.slice (some ⟨gd,od,none⟩) D.q cd] 25;rw[xM]at Cr;have HWX:=Z xM;clear xM;go_still_tail 5,di
  go_wp2_with(go_at_call 52;refine Cr.o.mono ?_;rintro e x1 ⟨u1,rfl,bF,hb1⟩;rw[<-HWX.o]at bF hb1;obtain⟨fk,bz,bE,eE⟩:=jS.o x1 u1 _ hb1 bF;obtain⟨ga1,oa1,ca1,rfl,V6,Bz⟩:=eE.b4 O;have nc:=Z eE;have lK:=Z Bz;have kT:=Z bE;obtain⟨b0,b1,b2,b3⟩:=(show x1.cell? ⟨wr.heap.size,0,none⟩=_/\x1.cell? ⟨wr.heap.size,1,none⟩=_/\x1.cell? ⟨wr.heap.size,2,none⟩=_/\x1.cell? ⟨wr.heap.size,3,none⟩=_ from nc.o.box _ _ _ _ _ bz);rw[oc.o]at b1;have an:=iT.o _ _ _ _ _<|kT.o _ _ _ _ _ bz;have a0:=lK.o _ _ _ _ _ bz 0 O;rw[Nat.add_zero]at a0;obtain⟨ej,ei,eh,ef⟩:=cZ.o _<|nc.o.below _ _ _ _ _ bz;have a1:=lK.o _ _ _ _ _ bz 1 O;obtain⟨jq,ja,jo,iZ⟩:=fU.o _<|nc.o.below _ _ _ _ _ bz;have k5:=bz.a1;have cY:=Z bz;clear bz bE eE Bz bF hb1)
  go_still_tail 8,di
  first
  |clear amt
   go_wp2_with(go_at_call 142;refine(CF.o x1 fk _ _ nc.o _ _ _ _ cY.o.drew rT.o).mono ?_;rintro e x2 ⟨rfl,bP⟩;rw[rP.o]at bP;obtain⟨b0,b1,b2,b3⟩:=(show x2.cell? ⟨wr.heap.size,0,none⟩=_/\x2.cell? ⟨wr.heap.size,1,none⟩=_/\x2.cell? ⟨wr.heap.size,2,none⟩=_/\x2.cell? ⟨wr.heap.size,3,none⟩=_ from nc.o.box _ _ _ _ _ bP);rw[oc.o]at b1;have an:=iT.o _ _ _ _ _<|kT.o _ _ _ _ _ bP;have a0:=lK.o _ _ _ _ _ bP 0 O;rw[Nat.add_zero]at a0;obtain⟨ej,ei,eh,ef⟩:=cZ.o _<|nc.o.below _ _ _ _ _ bP;have a1:=lK.o _ _ _ _ _ bP 1 O;obtain⟨jq,ja,jo,iZ⟩:=fU.o _<|nc.o.below _ _ _ _ _ bP;have k5:=bP.a1;have eF:=Z bP;clear bP)
   exact adU
  |clear amu
   go_wp2_with(go_at_call 142;refine(CF.o x1 fk _ _ nc.o _ _ _ _ cY.o.drew rT.o).mono ?_;rintro e x2 ⟨rfl,bP⟩;rw[rP.o]at bP;obtain⟨b0,b1,b2,b3⟩:=(show x2.cell? ⟨wr.heap.size,0,none⟩=_/\x2.cell? ⟨wr.heap.size,1,none⟩=_/\x2.cell? ⟨wr.heap.size,2,none⟩=_/\x2.cell? ⟨wr.heap.size,3,none⟩=_ from nc.o.box _ _ _ _ _ bP);rw[oc.o]at b1;have an:=iT.o _ _ _ _ _<|kT.o _ _ _ _ _ bP;have a0:=lK.o _ _ _ _ _ bP 0 O;rw[Nat.add_zero]at a0;obtain⟨ej,ei,eh,ef⟩:=cZ.o _<|nc.o.below _ _ _ _ _ bP;have a1:=lK.o _ _ _ _ _ bP 1 O;obtain⟨jq,ja,jo,iZ⟩:=fU.o _<|nc.o.below _ _ _ _ _ bP;obtain⟨code,k5,hz⟩:=bP.bC;have eF:=Z bP;clear bP)
   exact adV
 |clear anm
  have Cr:=Z<|dy.o<|.cells #[.int .i64 D.y,.int .i64 0,.string D.z,.slice (some ⟨gd,od,none⟩) D.q cd] 25;rw[xM]at Cr;have HWX:=Z xM;clear xM;go_still_tail 5,di
  go_wp2_with(go_at_call 52;refine Cr.o.mono ?_;rintro e x1 ⟨u1,rfl,bF,hb1⟩;rw[<-HWX.o]at bF hb1;obtain⟨fk,bz,bE,eE⟩:=jS.o x1 u1 _ hb1 bF;obtain⟨ga1,oa1,ca1,rfl,V6,Bz⟩:=eE.b4 O;have nc:=Z eE;have lK:=Z Bz;have kT:=Z bE;obtain⟨b0,b1,b2,b3⟩:=(show x1.cell? ⟨wr.heap.size,0,none⟩=_/\x1.cell? ⟨wr.heap.size,1,none⟩=_/\x1.cell? ⟨wr.heap.size,2,none⟩=_/\x1.cell? ⟨wr.heap.size,3,none⟩=_ from nc.o.box _ _ _ _ _ bz);rw[oc.o]at b1;have an:=iT.o _ _ _ _ _<|kT.o _ _ _ _ _ bz;have a0:=lK.o _ _ _ _ _ bz 0 O;rw[Nat.add_zero]at a0;obtain⟨ej,ei,eh,ef⟩:=cZ.o _<|nc.o.below _ _ _ _ _ bz;have k5:=bz.a1;have cY:=Z bz;clear bz bE eE Bz bF hb1)
  first
  |clear amx
   go_wp2_with(go_at_call 54;refine(eM cY.o 6 J pj).mono ?_;rintro e x4 ⟨rfl,oU⟩;have mK:=Z<|gi.o _ _ _ _ _<|kT.o _ _ _ _ _ oU;clear oU)
   first|go_end0|refine avr (results_none rfl _ _ _) rfl ?_
   refine⟨rfl,?_⟩;rw[Fv (e:=(6,pj)) (by rw[IQ.o,cs_0f Zi.o oc.o,Y8.o])<|show j+1<=T.q by omega];exact mK.o
  |clear amy
   go_still_tail 16,di
   go_wp2_with(go_at_call 139;refine(CK.o x1 fk _ _ nc.o _ _ (by rw[cr,Y8.o];rfl) cY.o.drew).mono ?_;rintro e x4 ⟨rfl,oU⟩;have mK:=Z<|kT.o _ _ _ _ _ oU;clear oU)
   refine⟨⟨j+1,O,by go_num,by rw[HFN.o,oc.o];rfl,?_⟩,by simp[intOf];omega⟩;rw[IQ.o,cs_0n Zi.o oc.o Yp.o];exact mK.o):G:=h
theorem aeg (h:G:=by have anU:=kk;exact Xq):G:=h
theorem M4 (h:G:=by
 rw[ba];have fp:=hS.ok.aR;have be:=hS.lt;have dy:=Z fun o=>j8 T (w.alloc o) v K.lo s.2.length hN.aA aa3 (ah (hS.box o) lr hN.row) hN.cost O;have HS:=Z fun o=>hS.alloc o;unfold Nd.val at*
 rw[z]at dy⊢;first
 |clear anp
  have H0:=Z<|we.trans h0;clear ba hS zm hE hN z cg we h0;generalize hq:s.2.length=q at*
  go_enter func121,ntmps121
  go_wp2_with(first
   |(go_at_call 52;refine(dy.o _).mono ?_;rintro e w1 ⟨u,rfl,bF,hb1⟩;have cY:=Z<|(HS.o _).calm hb1;have k0:w1.cell? ⟨w.heap.size,0,none⟩=some (.int .i64 6):=(hb1.cell (p:=⟨w.heap.size,0,none⟩) M).trans M;have k2:w1.cell? ⟨w.heap.size,2,none⟩=some (.string T.z):=(hb1.cell (p:=⟨w.heap.size,2,none⟩) M).trans M;have k3:w1.cell? ⟨w.heap.size,3,none⟩=some v:=(hb1.cell (p:=⟨w.heap.size,3,none⟩) M).trans M;clear hb1 bF)
   |(go_at_call 141;refine(kD cY.o _).mono ?_;rw[H0.o];rintro e w2 ⟨rfl,bP⟩;have eF:=Z bP;clear bP)
   |(go_at_call 54;refine(eM eF.o 5 J q).mono ?_;rintro e w3 ⟨rfl,dP⟩;have fa:=Z dP;clear dP))
  first|go_end0|refine avr (results_none rfl _ _ _) rfl ?_
  exact⟨rfl,fa.o⟩
 |clear anq
  have DS:(((cx.outs:Nat):Int)==0)=true:=avV.2 O;have an6:=kk;exact Ro
 |clear anr
  have DS:(((cx.outs:Nat):Int)==0)=false:=bn O;have an7:=kk;exact Ro
 |clear ant
  have DS:(((cx.loops:Nat):Int)==0)=true:=avV.2 O;have an8:=kk;exact Ro
 |clear anu
  have DS:(((cx.loops:Nat):Int)==0)=false:=bn O;have an9:=kk;exact Ro):G:=h
theorem aeh (h:G:=by have anz:=kk;exact aei):G:=h
theorem aei (h:G:=by
 rw[ba];have fp:=hS.ok.aR;have be:=hS.lt;have iX:=hS.ok.cl;obtain⟨g,off,cap,hv,tg,bo,aZ⟩:=jL hN.row O;subst hv;obtain⟨u0,ey,dR⟩:=aZ 0 O;simp only[Nat.zero_mul,Nat.add_zero]at ey;have cZ:=Z ey;first
 |clear anx
  have ann:=kk;exact aeg
 |clear anz
  first
  |clear anv
   obtain⟨u1,eO,fQ⟩:=aZ 1 O;simp only[awg]at eO;have fU:=Z eO;have amR:=kk;exact ad6
  |clear anw
   have amS:=kk;exact ad6):G:=h
theorem aej (h:G:=by
 have N7:=Z fun(w1:World)(own1:Option Nat)(b ga oa ca:Nat)(hg:SGo K w w1 own1 b T (.slice (some ⟨g,off,none⟩) T.q cap) (.slice (some ⟨ga,oa,none⟩) T.q ca) s.2.length)q9 fI=>tU hg hE hN q9 fI 1 O;first
 |clear anA
  have FK:=Z (fun(w1:World)(own1:Option Nat)(lv uv:Value)us(hL:pd K w1 own1 T s.2.length 1 (T.q-1) lv uv us)(W:World)(hW:SS K w1 own1 (cV K (T.f 0) 2<|.ok<|az s) cx.ret cx.loops cx.outs W)=>rN hL (fun i hi=>ih (1+i) O) _ cx W hW O Bm (Ew fz jk) bI (fun i hi=>by have:=dv T (i:=1+i) O;omega) fun i hi=>by have:=dv T (i:=1+i) O;omega);have aoe:=kk;exact IE
 |clear anB
  have FK:=Z (fun(w1:World)(own1:Option Nat)(lv uv:Value)us(hL:pd K w1 own1 T s.2.length 1 (T.q-1) lv uv us)(W:World)(hW:SS K w1 own1 (cV K (T.f 0) 2 (.ok (az s))) cx.ret ((cx.loops:Int)+1) ((cx.outs:Int)+1) W)=>rN hL (fun i hi=>ih (1+i) O) _ ⟨cx.ret,cx.loops+1,cx.outs+1⟩ W hW O Bm (Ew fz jk) bI (fun i hi=>by have:=dv T (i:=1+i) O;show cx.loops+1+_<=_;omega) (fun i hi=>by have:=dv T (i:=1+i) O;show cx.outs+1+_<=_;omega));have anF:=kk;exact aem):G:=h
theorem aek (h:G:=by
 obtain⟨b0,b1,b2,b3⟩:=HG.o.box _ _ _ _ _ o6;rw[jG.o]at b0;have a0:=iT.o _ _ _ _ _ o6 0 O;rw[Nat.add_zero]at a0;obtain⟨ej,ei,eh,ef⟩:=cZ.o _<|HG.o.below _ _ _ _ _ o6;have oQ:=Z o6;clear o6;first
 |clear anC
  generalize (w1.setCell ⟨K.cb,10,none⟩<|.int .i64<|(cx.loops:Int)+1).setCell ⟨K.cb,11,none⟩ (.int .i64<|(cx.outs:Int)+1)=w5 at*
  exact aeu
 |clear anD
  generalize (w3.setCell ⟨K.cb,10,none⟩<|.int .i64<|(cx.loops:Int)+1).setCell ⟨K.cb,11,none⟩ (.int .i64<|(cx.outs:Int)+1)=w5 at*
  clear L9;exact aeu):G:=h
theorem aem (h:G:=by have aof:=kk;exact IE):G:=h
theorem aen (h:G:=by have fp:=hS.ok.aR;have be:=hS.lt;have iX:=hS.ok.cl;have anV:=kk;exact Xq):G:=h
theorem aeo (h:G:=by have anR:=kk;exact aer):G:=h
theorem aep (h:G:=by have an4:=kk;exact wQ):G:=h
theorem aeq (h:G:=by
 intro h0;obtain⟨a,cap,e1,e2,e3,e4⟩:=ha;rcases e4 with e|⟨g,off,rfl,q1,q2,q3⟩
 ·exact absurd e h0
 refine⟨g,off,cap,e1,⟨e2,e3⟩,fun W σ r l o hW i hi=>?_⟩;first
 |clear anM
  rw[cg]at q1;rw[avt (a:=⟨g,off+i,none⟩)<|cQ W σ r l o hW g O q2];exact q3 i hi
 |clear anN
  rw[avt (a:=⟨g,off+i,none⟩) (cQ W σ r l o hW g q1 q2)];exact q3 i hi):G:=h
theorem Xr (h:G:=by have anS:=kk;exact aer):G:=h
theorem aer (h:G:=by have an5:=kk;exact wQ):G:=h
theorem Xq (h:G:=by
 have dy:=Z fun o=>j8 T (w.alloc o) _ K.lo s.2.length hN.aA aah (ah (hS.box o) lr hN.row) hN.cost O;first
 |clear anT
  have jS:=Z fun(w1:World)(u:Value)(t:TypeId)I ha=>pB (w1:=w1) (T:=T) (v:=.slice a T.q cap) (p:=s.2.length) (u:=u) (t:=t) hS I ha;have N7:=Z fun(w1:World)(own1:Option Nat)(b:Nat)(u:Value)(hg:SGo K w w1 own1 b T (.slice a T.q cap) u s.2.length)hu=>Kd hg hE hN hu;first
  |clear am1
   have FK:=Z (fun(w1:World)(own1:Option Nat)(u:Value)us(hL:pd K w1 own1 T s.2.length 0 T.q (.slice a T.q cap) u us)(W:World)(hW:SS K w1 own1 (.ok ([]::s.1,s.2++[0])) cx.ret cx.loops cx.outs W)=>rN hL (fun i hi=>by rw[Nat.zero_add];exact ih i hi) _ cx W hW O (fun i hi=>by rw[Nat.zero_add];exact tT h4 ax i hi) (fun s' e=>by injection e with e;subst e;exact⟨by simp[bg,aq],M⟩) bI (fun i hi=>by rw[Nat.zero_add];have:=dv T hi;omega) fun i hi=>by rw[Nat.zero_add];have:=dv T hi;omega);have HNE:=Z<|Kg (F:=K.F) (cx:=cx) (s:=([]::s.1,s.2++[0])) h4 ax M;have HJ:=Z<|Ca (F:=K.F) (cx:=cx) (s:=s) [] (show T.y≠0 by omega);have jG:=Z h4;have zV:Hid (s.2.length+1<=K.N):=by unfold Hid;omega
   unfold Nd.val at*
   rw[h4]at dy jS⊢;clear hS hE hN h4 ax ih bI cg;generalize hτ:within [] ((fw K.F T).ad cx) s=τ at*
   clear hτ;go_enter func139,ntmps139
   go_wp2_with(first
    |(go_at_call 52;refine(dy.o _).mono ?_;rintro e w1 ⟨u,rfl,bF,hb1⟩;obtain⟨own1,bz,bE,eE⟩:=jS.o w1 u _ hb1 bF;obtain⟨b0,b1,b2,b3⟩:=eE.box _ _ _ _ _ bz;have Dv:T.q=0->∃a' ca,u=.slice a' 0 ca/\ca<=9223372036854775807:=aaH;obtain⟨us,pG⟩:=N7.o w1 own1 _ u eE Dv;have DA:=bz.take zV.o;obtain⟨k8,f8,hd8⟩:=DA.deep;have cY:=Z<|DA.c5 (by rw[cr];have:=xQ.2;exact this);have HG:=Z eE;have Cm:=Z pG;have gU:=Z bE;clear bz DA bE eE bF hb1 pG Dv)
    |(go_at_call 92;refine(FK.o w1 own1 u us Cm.o _ cY.o).mono ?_;rintro e w2 ⟨rfl,bP⟩;have eF:=Z bP;clear bP)
    |(go_at_call 170;refine(xG eF.o HNE.o).mono ?_;rintro e w3 ⟨rfl,dP⟩;have fa:=Z (gU.o _ _ _ _ _ dP);clear dP))
   go_end0;refine⟨rfl,?_⟩;rw[<-HJ.o];exact fa.o
  |clear am2
   have FK:=Z (fun(w1:World)(own1:Option Nat)(u:Value)us(hL:pd K w1 own1 T s.2.length 0 T.q (.slice a T.q cap) u us)(W:World)(hW:SS K w1 own1 (.ok ([(name,1)]::s.1,s.2++[0])) cx.ret cx.loops cx.outs W)=>rN hL (fun i hi=>by rw[Nat.zero_add];exact ih i hi) _ cx W hW O (fun i hi=>by rw[Nat.zero_add];exact tT h4 ax i hi) (fun s' e=>by injection e with e;subst e;exact⟨by simp[bg,aq],M⟩) bI (fun i hi=>by rw[Nat.zero_add];have:=dv T hi;omega) fun i hi=>by rw[Nat.zero_add];have:=dv T hi;omega);have HNE:=Z<|Kg (F:=K.F) (cx:=cx) (s:=([(name,1)]::s.1,s.2++[0])) h4 ax M;have HJ:=Z<|Ca (F:=K.F) (cx:=cx) (s:=s) [(name,1)] (show T.y≠0 by omega);have HDV:Hid (cD ([]::(az s).1)+1<=(az s).2.length):=by
    have e:cD ([]::(az s).1)=cD s.1:=by simp[cD,az]
    unfold Hid;rw[e,cr];omega
   have Zj:Hid (sG ([]::s.1,s.2++[0]) name 1 na=.ok ([(name,1)]::s.1,s.2++[0])):=rfl;obtain⟨Bp,CC⟩:=Dh cm;have jG:=Z h4;have zV:Hid (s.2.length+1<=K.N):=by unfold Hid;omega
   unfold Nd.val at*
   rw[h4]at dy jS⊢;clear hS hE hN h4 ax ih bI cg;generalize hτ:within [(name,1)] ((fw K.F T).ad cx) s=τ at*
   clear hτ;go_enter func139,ntmps139
   go_wp2_with(first
    |(go_at_call 52;refine(dy.o _).mono ?_;rintro e w1 ⟨u,rfl,bF,hb1⟩;obtain⟨own1,bz,bE,eE⟩:=jS.o w1 u _ hb1 bF;obtain⟨b0,b1,b2,b3⟩:=eE.box _ _ _ _ _ bz;have Dv:T.q=0->∃a' ca,u=.slice a' 0 ca/\ca<=9223372036854775807:=aaH;obtain⟨us,pG⟩:=N7.o w1 own1 _ u eE Dv;have DA:=bz.take zV.o;obtain⟨k8,f8,hd8⟩:=DA.deep;have cY:=Z<|DA.c5 (by rw[cr];have:=xQ.2;exact this);have HG:=Z eE;have Cm:=Z pG;have gU:=Z bE;clear bz DA bE eE bF hb1 pG Dv)
    |(go_at_call 91;go_loud (refine(nP cY.o name 1 na M HDV.o).mono ?_;rintro e w4 ⟨rfl,oU⟩;have P5:=oU;rw[show sG ([]::(az s).1,(az s).2) name 1 na=.ok ([(name,1)]::s.1,s.2++[0])from Zj.o]at P5;obtain⟨b0,b1,b2,b3⟩:=HG.o.box _ _ _ _ _ P5;have mK:=Z P5;clear oU P5))
    |(go_at_call 92;refine(FK.o w1 own1 u us Cm.o _ mK.o).mono ?_;rintro e w2 ⟨rfl,bP⟩;have eF:=Z bP;clear bP)
    |(go_at_call 170;refine(xG eF.o HNE.o).mono ?_;rintro e w3 ⟨rfl,dP⟩;have fa:=Z (gU.o _ _ _ _ _ dP);clear dP))
   go_end0;refine⟨rfl,?_⟩;rw[<-HJ.o];exact fa.o
 |clear anU
  have jS:=Z fun(w1:World)(u:Value)(t:TypeId)I ha=>pB (w1:=w1) (T:=T) (v:=.slice (some ⟨g,off,none⟩) T.q cap) (p:=s.2.length) (u:=u) (t:=t) hS I ha;first
  |clear ann
   have Bm:∀i,i<T.q-0->(T.f<|0+i).U=true:=by
    intro i hi;obtain rfl:i=0:=O;exact hb1.2
   have N7:=Z fun(w1:World)(own1:Option Nat)(b ga oa ca:Nat)(hg:SGo K w w1 own1 b T (.slice (some ⟨g,off,none⟩) T.q cap) (.slice (some ⟨ga,oa,none⟩) T.q ca) s.2.length)q9 fI=>tU hg hE hN q9 fI 0 O;have FK:=Z (fun(w1:World)(own1:Option Nat)(lv uv:Value)us(hL:pd K w1 own1 T s.2.length 0 (T.q-0) lv uv us)(W:World)(hW:SS K w1 own1 (.ok<|az s) cx.ret ((cx.loops:Int)+1) ((cx.outs:Int)+1) W)=>rN hL (fun i hi=>ih (0+i) O) _ ⟨cx.ret,cx.loops+1,cx.outs+1⟩ W hW O Bm ((fun s2 e=>by injection e with e;subst e;exact⟨by rw[cr];rfl,jk⟩)) bI (fun i hi=>by have:=dv T (i:=0+i) O;show cx.loops+1+_<=_;omega) fun i hi=>by have:=dv T (i:=0+i) O;show cx.outs+1+_<=_;omega);have anE:=kk;exact aem
  |clear ano
   have CF:=Z fun(w1:World)(own1:Option Nat)(b:Nat)(u:Value)(hg:SGo K w w1 own1 b T (.slice (some ⟨g,off,none⟩) T.q cap) u s.2.length)(W:World)(σ:CR CS)(r l o:Int)(q:Nat)(ty:Int)(hW:SS K w1 own1 σ r l o W)(ha:SAt K (T.f 0) σ q)=>om (l8<|T.f 0) K w1 own1 σ r l o W u0 q ty hW (hg.env hE hW) ((hN.a7 O dR).later<|hg.below _ _ _ _ _ hW) ha fz;have RN:=Z fun(w1:World)(own1:Option Nat)(b:Nat)(u:Value)(hg:SGo K w w1 own1 b T (.slice (some ⟨g,off,none⟩) T.q cap) u s.2.length)(W:World)(σ:CR CS)(r l o:Int)(q:Nat)(hW:SS K w1 own1 σ r l o W)(ha:SAt K (T.f 0) σ q)=>nl (l8<|T.f 0) K w1 own1 σ r l o W u0 q hW (hg.env hE hW) ((hN.a7 O dR).later<|hg.below _ _ _ _ _ hW) ha fz;first
   |clear amR
    have N1:=Z fun(w1:World)(own1:Option Nat)(b:Nat)(u:Value)(hg:SGo K w w1 own1 b T (.slice (some ⟨g,off,none⟩) T.q cap) u s.2.length)(W:World)(σ:CR CS)(r l o:Int)(q:Nat)(ty:Int)(hW:SS K w1 own1 σ r l o W)(ha:SAt K (T.f 1) σ q)=>om (l8<|T.f 1) K w1 own1 σ r l o W u1 q ty hW (hg.env hE hW) ((hN.a7 O fQ).later<|hg.below _ _ _ _ _ hW) ha mZ;have HV1:=Z fun(w1:World)(own1:Option Nat)(b:Nat)(u:Value)(hg:SGo K w w1 own1 b T (.slice (some ⟨g,off,none⟩) T.q cap) u s.2.length)(W:World)(σ:CR CS)(r l o:Int)(q:Nat)(hW:SS K w1 own1 σ r l o W)(ha:SAt K (T.f 1) σ q)=>nl (l8<|T.f 1) K w1 own1 σ r l o W u1 q hW (hg.env hE hW) ((hN.a7 O fQ).later<|hg.below _ _ _ _ _ hW) ha mZ;have rT:=Z<|SAt.cm bI fp O;have Oe:=Z<|SAt.next (τ:=cV K (T.f 0) 3<|.ok<|az s) rT.o O bI fp<|jd fz;have aog:=kk;exact IE
   |clear amS
    have rT:=Z<|SAt.cm bI fp O;first
    |clear amN
     have aoh:=kk;exact IE
    |clear amO
     first
     |clear amG
      have L5:s1.1≠[]:=by rw[Bs.1];exact jk
      have L4:cD s1.1+1<=s1.2.length:=by rw[Bs.1,Bs.2,cr];show cD s.1+1<=_;omega
      have aod:=kk;exact IE
     |clear amH
      have Bm:∀i,i<T.q-1->(T.f<|1+i).U=true:=by
       intro i hi;have:i=0\/i=1:=O;rcases this with rfl|rfl
       ·exact hb1.2
       ·exact(hb2 O).2
      have anA:=kk;exact aej
     |clear amI
      have Bm:∀i,i<T.q-1->(T.f<|1+i).U=true:=by
       intro i hi;obtain rfl:i=0:=O;exact hb1.2
      have anB:=kk;exact aej
     |clear amJ
      have Eh:=Z fun(w1:World)(own1:Option Nat)(b:Nat)(u:Value)(hg:SGo K w w1 own1 b T (.slice (some ⟨g,off,none⟩) T.q cap) u s.2.length)(W:World)(σ:CR CS)(r l o:Int)(q:Nat)(hW:SS K w1 own1 σ r l o W)(ha:SAt K (T.f 0) σ q)=>l8 (T.f 0) K w1 own1 σ r l o W u0 q hW (hg.env hE hW) ((hN.a7 O dR).later<|hg.below _ _ _ _ _ hW) ha fz;have aoi:=kk;exact IE
 |clear anV
  first
  |clear anG
   have jS:=Z fun(w1:World)(u:Value)(t:TypeId)I ha=>pB (w1:=w1) (T:=T) (v:=.slice a0 T.q mV) (p:=s.2.length) (u:=u) (t:=t) hS I ha;unfold Nd.val at*
   rw[z]at dy jS⊢;have jG:=Z z;have hle:¬(0:Int)<(T.q:Int):=O;have hle2:decide ((0:Int)<(T.q:Int))=false:=by simp;omega
   have hle3:decide (0<T.q)=false:=avP O;first
   |clear am5
    have fQ:(cx.ret==0)=true:=avV.2 h0;have qg:(cx.ret !=0)=false:=by simp only[bne,fQ];rfl
    have anf:=kk;exact aef
   |clear am6
    have fQ:(cx.ret==0)=false:=bn h0;have qg:(cx.ret !=0)=true:=by simp only[bne,fQ];rfl
    have ang:=kk;exact aef
  |clear anH
   have jS:=Z fun(w1:World)(u:Value)(t:TypeId)I ha=>pB (w1:=w1) (T:=T) (v:=v) (p:=s.2.length) (u:=u) (t:=t) hS I ha;first
   |clear anh
    unfold Nd.val at*
    rw[z]at dy jS⊢;have jG:=Z z;first
    |clear am7
     have H0:=Z<|we.trans h0;clear we h0;have aoa:=kk;exact Xp
    |clear am8
     have H0:=Z<|we.trans h1;clear we h0 h1;have aob:=kk;exact Xp
    |clear am9
     have H0:Hid (look (az s).1 T.z=look s.1 T.z):=we;have DS:(look s.1 T.z==0)=false:=bn h0;have h1':(look s.1 T.z==1)=false:=bn h1;clear we h0 h1;generalize look s.1 T.z=lk at*
     have aoc:=kk;exact Xp
   |clear ani
    have CK:=Z fun(w1:World)(own1:Option Nat)(b:Nat)(u:Value)(hg:SGo K w w1 own1 b T v u s.2.length)(W:World)(hW:SS K w1 own1 (.ok s) cx.ret cx.loops cx.outs W)=>MO z ih K w1 own1 s cx W v hW (hg.env hE hW) (hN.later<|hg.below _ _ _ _ _ hW) bI ax VO hou1 0;generalize hτ:within [] ((fw K.F T).ad cx) s=τ at*
    unfold Nd.val at*
    rw[z]at dy jS CK⊢;have jG:=Z z;clear ba hS hE hN z hτ;have aoq:=kk;exact ID
   |clear anj
    have HCA:=Z (fun(w1:World)(own1:Option Nat)(b:Nat)(u:Value)(hg:SGo K w w1 own1 b T v u s.2.length)(W:World)(hW:SS K w1 own1 (.ok (az s)) cx.ret cx.loops ((cx.outs:Int)+1) W)=>MI hco iQ hE hN hg ⟨cx.ret,cx.loops,cx.outs+1⟩ W hW jk bI (show cx.loops+T.size<=_ by omega) (show cx.outs+1+T.size<=_ by omega));have ho1:cx.outs<=1099511627776:=O;unfold Nd.val at dy jS⊢;rw[z]at dy jS⊢;unfold Nd.val at HCA;rw[z]at HCA;have jG:=Z z;clear ba hS zm hE hN z ax hco cg iQ;have aor:=kk;exact ID):G:=h
theorem wQ (h:G:=by
 intro K w0 ai s cx w v zm hE hN bI ax jk VO hou1;have cg:0<T.size:=by rw[T.size_eq];omega
 have hS:=zm.take O;first
 |clear anW
  obtain⟨hl,fz,mZ⟩:=GN z ax;have ba:(fw K.F T).st cx s=cV K (T.f 1) 1 (cV K (T.f 0) 3<|.ok<|az s):=by
   rw[dY K.F O];unfold stM;rw[avo O,avo O,avo O,avo O,avA z];rfl
  have anv:=kk;exact aeh
 |clear anX
  have bm:((cx.outs:Nat):Int)=cx.outs:=rfl;by_cases h0:cx.outs=0
  ·have ba:(fw K.F T).st cx s=.error (10,s.2.length):=by
    rw[dY K.F O];unfold stM;rw[avo O,avo O,avo O,avo O,avo O,avo O,avo O,avo O,avo O,avo O,avA z,avA h0]
   have anq:=kk;exact M4
  ·have ba:(fw K.F T).st cx s=.ok (az s):=by
    rw[dY K.F O];unfold stM;rw[avo O,avo O,avo O,avo O,avo O,avo O,avo O,avo O,avo O,avo O,avA z,avo h0]
   have anr:=kk;exact M4
 |clear anY
  have bm:((cx.loops:Nat):Int)=cx.loops:=rfl;by_cases h0:cx.loops=0
  ·have ba:(fw K.F T).st cx s=.error (10,s.2.length):=by
    rw[dY K.F O];unfold stM;rw[avo O,avo O,avo O,avo O,avo O,avo O,avo O,avo O,avo O,avo O,avo O,avA z,avA h0]
   have ant:=kk;exact M4
  ·have ba:(fw K.F T).st cx s=.ok (az s):=by
    rw[dY K.F O];unfold stM;rw[avo O,avo O,avo O,avo O,avo O,avo O,avo O,avo O,avo O,avo O,avo O,avA z,avo h0]
   have anu:=kk;exact M4
 |clear anZ
  obtain⟨a0,mV,vN,hcap0,hq00⟩:=ar.1 hN.row;have HQ00:=Z hq00;clear hq00;rcases AB z ax with hl|⟨hl,fz⟩
  ·by_cases h0:cx.ret=0
   ·have ba:(fw K.F T).st cx s=.ok (az s):=by
     rw[dY K.F O];unfold stM;rw[avo O,avo O,avo O,avo O,avo O,avo O,avo O,avo O,avA z,avA (by simp[hl,h0]),avo O]
    have am5:=kk;exact aed
   ·have ba:(fw K.F T).st cx s=.error (9,s.2.length):=by
     exact adQ
    have am6:=kk;exact aed
  ·by_cases h0:cx.ret=0
   ·have ba:(fw K.F T).st cx s=.error (9,s.2.length):=by
     exact adQ
    have amv:=kk;exact adZ
   ·have ba:(fw K.F T).st cx s=cV K (T.f 0) cx.ret (.ok<|az s):=by
     rw[dY K.F O];unfold stM;rw[avo O,avo O,avo O,avo O,avo O,avo O,avo O,avo O,avA z,avA (by simp[hl,h0]),avA O];rfl
    have amw:=kk;exact adZ
 |clear an0
  obtain⟨hl,fz,hb1,hb2⟩:=AD z ax;have ba:(fw K.F T).st cx s=iN K.F T cx 1 (T.q-1) (cV K (T.f 0) 2<|.ok<|az s):=by
   rw[dY K.F O];unfold stM;rw[avo O,avo O,avo O,avo O,avo O,avo O,avA z];exact Pg.symm
  have amH:=kk;exact Rp
 |clear an1
  have ba:(fw K.F T).st cx s=iN K.F T ⟨cx.ret,cx.loops+1,cx.outs+1⟩ 0 (T.q-0) (.ok<|az s):=by
   exact adR
  have anx:=kk;exact aei
 |clear an2
  have ba:(fw K.F T).st cx s=iN K.F T ⟨cx.ret,cx.loops+1,cx.outs+1⟩ 1 (T.q-1) (cV K (T.f 0) 2<|.ok<|az s):=by
   exact adR
  have amI:=kk;exact Rp
 |clear an3
  have hco:=xi z ax;have ba:(fw K.F T).st cx s=Ja K.F T ⟨cx.ret,cx.loops,cx.outs+1⟩ (az s) T.q:=by
   rw[dY K.F O];unfold stM;rw[avo O,avo O,avo O,avo O,avo O,avo O,avo O,avo O,avo O,avA z];rfl
  have anj:=kk;exact Xt
 |clear an4
  have we:look (az s).1 T.z=look s.1 T.z:=rfl;first
  |clear anK
   obtain⟨hl,fz⟩:=dq O ax;by_cases h0:look s.1 T.z=0
   ·have ba:(fw K.F T).st cx s=.error (5,s.2.length):=by
     rw[dY K.F O];unfold stM;rw[avo O,avo O,avA z,avA h0]
    have anp:=kk;exact M4
   ·have ba:(fw K.F T).st cx s=cV K (T.f 0) (look s.1 T.z) (.ok<|az s):=by
     rw[dY K.F O];unfold stM;rw[avo O,avo O,avA z,avo h0];rfl
    have amC:=kk;exact ad1
  |clear anL
   by_cases h0:look s.1 T.z=0
   ·have ba:(fw K.F T).st cx s=.error (5,s.2.length):=by
     rw[dY K.F O];unfold stM;rw[avo O,avo O,avo O,avA z,avA h0]
    have am7:=kk;exact Xv
   by_cases h1:look s.1 T.z=1
   ·have ba:(fw K.F T).st cx s=.ok (az s):=by
     rw[dY K.F O];unfold stM;rw[avo O,avo O,avo O,avA z,avo h0,avA h1]
    have am8:=kk;exact Xv
   ·have ba:(fw K.F T).st cx s=.error (7,s.2.length):=by
     rw[dY K.F O];unfold stM;rw[avo O,avo O,avo O,avA z,avo h0,avo h1]
    have am9:=kk;exact Xv
 |clear an5
  obtain⟨hl,fz⟩:=dq O ax;first
  |clear anR
   have xQ:=zm.lens;first
   |clear anI
    cases hσ:mo K (T.f 0) (.ok<|az s)with
    |error e0=>
     have vN:=Ex hσ;have ba:(fw K.F T).st cx s=.error e0:=by
      rw[dY K.F O];unfold stM;rw[avo O,avA z,vN];rfl
     exact aee
    |ok s1=>
     obtain⟨t0,vN,NQ⟩:=Jn hσ;have Bs:=(nN K.F _ fz).value _ _ _ vN;have ba:(fw K.F T).st cx s=sG s1 T.z t0 s.2.length:=by
      rw[dY K.F O];unfold stM;rw[avo O,avA z,vN];rfl
     have amG:=kk;exact Rp
   |clear anJ
    cases hσ:mo K (T.f 0) (.ok<|az s)with
    |error e0=>
     have vN:=Ex hσ;have ba:(fw K.F T).st cx s=.error e0:=by
      rw[dY K.F O];unfold stM;rw[avo O,avo O,avo O,avo O,avo O,avo O,avo O,avo O,avo O,avo O,avo O,avo O,avo O,avA z,vN];rfl
     exact aee
    |ok s1=>
     obtain⟨t0,vN,NQ⟩:=Jn hσ;have Bs:=(nN K.F _ fz).value _ _ _ vN;by_cases h3:t0=3
     ·have ba:(fw K.F T).st cx s=.error (7,s.2.length+1):=by
       rw[dY K.F O];unfold stM;rw[avo O,avo O,avo O,avo O,avo O,avo O,avo O,avo O,avo O,avo O,avo O,avo O,avo O,avA z,vN,CR.an,avA h3]
      have amz:=kk;exact Xx
     ·have ba:(fw K.F T).st cx s=.ok s1:=by
       rw[dY K.F O];unfold stM;rw[avo O,avo O,avo O,avo O,avo O,avo O,avo O,avo O,avo O,avo O,avo O,avo O,avo O,avA z,vN,CR.an,avo h3]
      have amA:=kk;exact Xx
  |clear anS
   first
   |clear anO
    have ba:(fw K.F T).st cx s=cV K (T.f 0) 3 (.ok<|az s):=by
     rw[dY K.F O];unfold stM;rw[avo O,avo O,avo O,avo O,avo O,avo O,avo O,avo O,avo O,avo O,avo O,avo O,avA z];rfl
    exact aet
   |clear anP
    have ba:(fw K.F T).st cx s=cV K (T.f 0) 1 (.ok<|az s):=by
     rw[dY K.F O];unfold stM;rw[avo O,avo O,avo O,avo O,avo O,avo O,avo O,avo O,avo O,avo O,avo O,avo O,avo O,avo O,avA z];rfl
    exact aet
   |clear anQ
    have ba:(fw K.F T).st cx s=Y0 K (T.f 0) (.ok<|az s):=by
     rw[dY K.F O];unfold stM;rw[avo O,avo O,avo O,avo O,avo O,avA O];rfl
    have amJ:=kk;exact Rp):G:=h
theorem Ro (h:G:=by
 clear ba hS zm hE hN z cg bm h0;generalize hq:s.2.length=q at*
 go_enter func121,ntmps121
 first
 |clear an6
  go_wp2_with(first
   |(go_at_call 52;refine(dy.o _).mono ?_;rintro e w1 ⟨u,rfl,bF,hb1⟩;have cY:=Z<|(HS.o _).calm hb1;have k0:w1.cell? ⟨w.heap.size,0,none⟩=some (.int .i64 17):=(hb1.cell (p:=⟨w.heap.size,0,none⟩) M).trans M;have k2:w1.cell? ⟨w.heap.size,2,none⟩=some (.string T.z):=(hb1.cell (p:=⟨w.heap.size,2,none⟩) M).trans M;have k3:w1.cell? ⟨w.heap.size,3,none⟩=some v:=(hb1.cell (p:=⟨w.heap.size,3,none⟩) M).trans M;obtain⟨k9,vM,uz⟩:=cY.o.outs;clear hb1 bF)
   |(go_at_call 54;refine(eM cY.o 10 J q).mono ?_;rintro e w3 ⟨rfl,dP⟩;have fa:=Z dP;clear dP))
  go_end0;exact⟨rfl,fa.o⟩
 |clear an7
  go_wp2_with(first
   |(go_at_call 52;refine(dy.o _).mono ?_;rintro e w1 ⟨u,rfl,bF,hb1⟩;have cY:=Z ((HS.o _).calm hb1);have k0:w1.cell? ⟨w.heap.size,0,none⟩=some (.int .i64 17):=(hb1.cell (p:=⟨w.heap.size,0,none⟩) M).trans M;have k2:w1.cell? ⟨w.heap.size,2,none⟩=some (.string T.z):=(hb1.cell (p:=⟨w.heap.size,2,none⟩) M).trans M;have k3:w1.cell? ⟨w.heap.size,3,none⟩=some v:=(hb1.cell (p:=⟨w.heap.size,3,none⟩) M).trans M;obtain⟨k9,vM,uz⟩:=cY.o.outs;clear hb1 bF))
  go_end0;exact⟨rfl,cY.o⟩
 |clear an8
  go_wp2_with(first
   |(go_at_call 52;refine(dy.o _).mono ?_;rintro e w1 ⟨u,rfl,bF,hb1⟩;have cY:=Z<|(HS.o _).calm hb1;have k0:w1.cell? ⟨w.heap.size,0,none⟩=some (.int .i64 18):=(hb1.cell (p:=⟨w.heap.size,0,none⟩) M).trans M;have k2:w1.cell? ⟨w.heap.size,2,none⟩=some (.string T.z):=(hb1.cell (p:=⟨w.heap.size,2,none⟩) M).trans M;have k3:w1.cell? ⟨w.heap.size,3,none⟩=some v:=(hb1.cell (p:=⟨w.heap.size,3,none⟩) M).trans M;obtain⟨k9,vM,uz⟩:=cY.o.outs;clear hb1 bF)
   |(go_at_call 54;refine(eM cY.o 10 J q).mono ?_;rintro e w3 ⟨rfl,dP⟩;have fa:=Z dP;clear dP))
  go_end0;exact⟨rfl,fa.o⟩
 |clear an9
  go_wp2_with(first
   |(go_at_call 52;refine(dy.o _).mono ?_;rintro e w1 ⟨u,rfl,bF,hb1⟩;have cY:=Z ((HS.o _).calm hb1);have k0:w1.cell? ⟨w.heap.size,0,none⟩=some (.int .i64 18):=(hb1.cell (p:=⟨w.heap.size,0,none⟩) M).trans M;have k2:w1.cell? ⟨w.heap.size,2,none⟩=some (.string T.z):=(hb1.cell (p:=⟨w.heap.size,2,none⟩) M).trans M;have k3:w1.cell? ⟨w.heap.size,3,none⟩=some v:=(hb1.cell (p:=⟨w.heap.size,3,none⟩) M).trans M;obtain⟨k9,vM,uz⟩:=cY.o.outs;clear hb1 bF))
  go_end0;exact⟨rfl,cY.o⟩):G:=h
theorem Xp (h:G:=by clear ba hS zm hE hN z cg;have aos:=kk;exact ID):G:=h
theorem IE (h:G:=by
 unfold Nd.val at*
 rw[z]at dy jS⊢;have jG:=Z z;have zc:0<T.q:=O;first
 |clear aod
  have rP:=Z hσ;have Eh:=Z NQ;have qh:=Z L5;have og:=Z L4;clear ba hS zm hE hN z ax ey aZ fz dR hl cg hσ vN xQ NQ Bs L5 L4;generalize hτ:sG s1 T.z t0 s.2.length=τ at*
  have HT:=Z hτ;clear hτ;have am0:=kk;exact aea
 |clear aoe
  have hpi1:(1:Int)<=(T.q:Int):=O;have hpn1:1<=T.q:=O;have hpn2:2<=T.q:=O;have hcn1:¬cap=1:=O;clear ba hS zm hE hN z ax ey aZ fz dR hl cg Bm hb1 hb2 ih;have aot:=kk;exact IC
 |clear aof
  have hpn1:1<=T.q:=O;have LS:cx.loops<=1099511627776:=O;have ho1:cx.outs<=1099511627776:=O;first
  |clear anE
   have L9:(T.q:Int)-1=0:=O;clear ba hS zm hE hN z ax ey aZ dR hl cg Bm hb1 ih;have aou:=kk;exact IC
  |clear anF
   have hpi1:(1:Int)<=(T.q:Int):=O;have hpn2:2<=T.q:=O;have hcn1:¬cap=1:=O;have L9:(T.q:Int)-1=1:=O;clear ba hS zm hE hN z ax ey aZ fz dR hl cg Bm hb1 ih;have aov:=kk;exact IC
 |clear aog
  have LD:(1:Int)<(T.q:Int):=O;have DC:1<T.q:=O;clear ba hS zm hE hN z ax ey eO aZ fz mZ dR fQ hl cg;have aow:=kk;exact IC
 |clear aoh
  first
  |clear amK
   have rP:=Z hσ;first
   |clear amz
    have Eh:Hid (∀t',NI K (T.f 0) (.ok<|az s) t'->t'=3):=by intro t' h;rw[<-h3];exact NQ t' h
    have amT:=kk;exact ad7
   |clear amA
    have Eh:Hid (∀t',NI K (T.f 0) (.ok<|az s) t'->(t'==3)=false):=by intro t' h;rw[NQ t' h];exact bn h3
    have amU:=kk;exact ad7
   |clear amB
    clear ba hS zm hE hN z ax ey aZ fz dR hl cg hσ vN xQ;have amZ:=kk;exact aea
  |clear amL
   have hpi:(0:Int)<(T.q:Int):=O;have hpi2:decide ((0:Int)<(T.q:Int))=true:=by simp;omega
   have hpi3:decide (0<T.q)=true:=avR O;first
   |clear amv
    have VD:(cx.ret==0)=true:=avV.2 h0;have hr2':(cx.ret !=0)=false:=by simp only[bne,VD];rfl
    have amW:=kk;exact ad8
   |clear amw
    have VD:(cx.ret==0)=false:=bn h0;have hr2':(cx.ret !=0)=true:=by simp only[bne,VD];rfl
    have amV:=kk;exact ad8
  |clear amM
   first
   |clear amC
    have H0:Hid (look (az s).1 T.z=look s.1 T.z):=we;have DS:(look s.1 T.z==0)=false:=bn h0;clear ba hS zm hE hN z ax ey aZ fz dR hl cg we h0;generalize look s.1 T.z=lk at*
    have aox:=kk;exact IC
   |clear amD
    have amX:=kk;exact ad9
 |clear aoi
  have amY:=kk;exact ad9):G:=h
theorem Rn (h:G:=by
 obtain⟨vv,code,place,deep,zs,vs,h1,⟨a1,a2,a3,a4,a5,a6,a7,a8⟩,h3⟩:=h.is;first
 |clear aoj
  have:=h.ok.aR;refine⟨?_,h1.free 8,O⟩;rw[<-a3];exact h1.cells.2.2.2.2.2.2.2.2.1
 |clear aok
  have r1:=h1.set h.ok (i:=8) (u:=.int .i64<|(s.1.length:Int)+1) (code':=code) (place':=place) (deep':=(s.1.length:Int)+1) (ret':=ret) (loops':=loops) (outs':=outs) rfl;refine h.b2 (own:=ai) r1 ⟨a1,a2,M,a4,a5,?_,?_,?_⟩ h3 (.inl rfl)<|Kept.setCell (S:=K.S ai) ⟨K.cb,8,none⟩ _<|.inl rfl
  ·rw[a6];simp[varsOf]
  ·have e:cD ([]::s.1,s.2).1=cD s.1:=by simp[cD]
   rw[e];exact a7
  ·show([]::s.1).length<=_;simp;omega
 |clear aol
  exact⟨a7,a8⟩
 |clear aom
  refine⟨h.ok,⟨.slice none 0 0,code,place,1,zs,[],?_,⟨a1,a2,rfl,a4,a5,rfl,avL _,M⟩,.inl rfl⟩,Kept.refl _ _⟩;refine⟨?_,?_,h1.q,awa _ _ _ _⟩
  ·unfold eP;rw[avD _ K.cb 9 _ _ _<|avD _ K.cb 8 _ _ _<|avD _ K.cb 7 _ _ _ h1.av];rfl
  ·rw[lx K w r K.tb (fun e=>h.ok.ne e.symm)];exact h1.cA):G:=h
theorem ID (h:G:=by have aoy:=kk;exact IC):G:=h
theorem IC (h:G:=by
 generalize hq:s.2.length=q at*
 have di:=pJ;go_enter func121,ntmps121
 first
 |clear aot
  go_wp2_with(first
   |(go_at_call 52;refine(dy.o _).mono ?_;rintro e w1 ⟨u,rfl,bF,hb1⟩;obtain⟨own1,bz,bE,eE⟩:=jS.o w1 u _ hb1 bF;obtain⟨ga,oa,ca,rfl,q9,fI⟩:=eE.b4 O;have HG:=Z eE;have iT:=Z fI;have gU:=Z bE;obtain⟨b0,b1,b2,b3⟩:=HG.o.box _ _ _ _ _ bz;rw[jG.o]at b0;have a0:=iT.o _ _ _ _ _ bz 0 O;rw[Nat.add_zero]at a0;obtain⟨ej,ei,eh,ef⟩:=cZ.o _ (HG.o.below _ _ _ _ _ bz);obtain⟨us,pG⟩:=N7.o w1 own1 _ ga oa ca HG.o q9 fI;have Cm:=Z pG;have hcan:¬ca=1:=O;clear pG;have cY:=Z bz;clear bz bE eE fI bF hb1))
  go_still_tail 8,di
  go_wp2_with(go_at_call 142;refine(CF.o _ _ _ _ HG.o _ _ _ _ _ _ _ cY.o.drew rT.o).mono ?_;rintro e w3 ⟨rfl,dP⟩;obtain⟨b0,b1,b2,b3⟩:=HG.o.box _ _ _ _ _ dP;rw[jG.o]at b0;have a0:=iT.o _ _ _ _ _ dP 0 O;rw[Nat.add_zero]at a0;obtain⟨ej,ei,eh,ef⟩:=cZ.o _<|HG.o.below _ _ _ _ _ dP;have fa:=Z dP;clear dP)
  go_still_tail 6,di
  go_wp2_with(go_at_call 92;refine(FK.o w1 own1 _ _ us Cm.o _ fa.o.drew).mono ?_;rintro e w4 ⟨rfl,oU⟩;have mK:=Z<|gU.o _ _ _ _ _ oU;clear oU)
  go_end0;exact⟨rfl,mK.o⟩
 |clear aou
  go_wp2_with(first
   |(go_at_call 52;refine(dy.o _).mono ?_;rintro e w1 ⟨u,rfl,bF,hb1⟩;obtain⟨own1,bz,bE,eE⟩:=jS.o w1 u _ hb1 bF;obtain⟨ga,oa,ca,rfl,q9,fI⟩:=eE.b4 O;have HG:=Z eE;have iT:=Z fI;have gU:=Z bE;obtain⟨b0,b1,b2,b3⟩:=HG.o.box _ _ _ _ _ bz;rw[jG.o]at b0;have a0:=iT.o _ _ _ _ _ bz 0 O;rw[Nat.add_zero]at a0;obtain⟨ej,ei,eh,ef⟩:=cZ.o _ (HG.o.below _ _ _ _ _ bz);obtain⟨us,pG⟩:=N7.o w1 own1 _ ga oa ca HG.o q9 fI;have Cm:=Z pG;clear pG;obtain⟨k9,vM,uz⟩:=bz.outs;have f10:=bz.free 10;have f11:=bz.free 11;have cY:=Z bz;clear bz bE eE fI bF hb1))
  have o6:=(cY.o.b5<|(cx.loops:Int)+1).bP<|(cx.outs:Int)+1;have anC:=kk;exact aek
 |clear aov
  go_wp2_with(first
   |(go_at_call 52;refine(dy.o _).mono ?_;rintro e w1 ⟨u,rfl,bF,hb1⟩;obtain⟨own1,bz,bE,eE⟩:=jS.o w1 u _ hb1 bF;obtain⟨ga,oa,ca,rfl,q9,fI⟩:=eE.b4 O;have HG:=Z eE;have iT:=Z fI;have gU:=Z bE;obtain⟨b0,b1,b2,b3⟩:=HG.o.box _ _ _ _ _ bz;rw[jG.o]at b0;have a0:=iT.o _ _ _ _ _ bz 0 O;rw[Nat.add_zero]at a0;obtain⟨ej,ei,eh,ef⟩:=cZ.o _ (HG.o.below _ _ _ _ _ bz);obtain⟨us,pG⟩:=N7.o w1 own1 _ ga oa ca HG.o q9 fI;have Cm:=Z pG;have hcan:¬ca=1:=O;clear pG;obtain⟨k9,vM,uz⟩:=bz.outs;have f10:=bz.free 10;have f11:=bz.free 11;have cY:=Z bz;clear bz bE eE fI bF hb1))
  go_still_tail 8,di
  go_wp2_with(go_at_call 142;refine(CF.o _ _ _ _ HG.o _ _ _ _ _ _ _ cY.o.drew rT.o).mono ?_;rintro e w3 ⟨rfl,dP⟩;obtain⟨b0,b1,b2,b3⟩:=HG.o.box _ _ _ _ _ dP;rw[jG.o]at b0;have a0:=iT.o _ _ _ _ _ dP 0 O;rw[Nat.add_zero]at a0;obtain⟨ej,ei,eh,ef⟩:=cZ.o _<|HG.o.below _ _ _ _ _ dP;obtain⟨k9,vM,uz⟩:=dP.outs;have f10:=dP.free 10;have f11:=dP.free 11;have fa:=Z dP;clear dP)
  have o6:=(fa.o.b5<|(cx.loops:Int)+1).bP<|(cx.outs:Int)+1;have anD:=kk;exact aek
 |clear aow
  go_wp2_with(first
   |(go_at_call 52;refine(dy.o _).mono ?_;rintro e w1 ⟨u,rfl,bF,hb1⟩;obtain⟨own1,bz,bE,eE⟩:=jS.o w1 u _ hb1 bF;obtain⟨ga,oa,ca,rfl,q9,fI⟩:=eE.b4 O;have HG:=Z eE;have iT:=Z fI;have gU:=Z bE;obtain⟨b0,b1,b2,b3⟩:=HG.o.box _ _ _ _ _ bz;rw[jG.o]at b0;have a0:=iT.o _ _ _ _ _ bz 0 O;rw[Nat.add_zero]at a0;obtain⟨ej,ei,eh,ef⟩:=cZ.o _ (HG.o.below _ _ _ _ _ bz);have a1:=iT.o _ _ _ _ _ bz 1 O;obtain⟨jq,ja,jo,iZ⟩:=fU.o _ (HG.o.below _ _ _ _ _ bz);have cY:=Z bz;clear bz bE eE fI bF hb1))
  go_still_tail 8,di
  go_wp2_with(go_at_call 142;refine(CF.o _ _ _ _ HG.o _ _ _ _ _ _ _ cY.o.drew rT.o).mono ?_;rintro e w3 ⟨rfl,dP⟩;obtain⟨b0,b1,b2,b3⟩:=HG.o.box _ _ _ _ _ dP;rw[jG.o]at b0;have a0:=iT.o _ _ _ _ _ dP 0 O;rw[Nat.add_zero]at a0;obtain⟨ej,ei,eh,ef⟩:=cZ.o _<|HG.o.below _ _ _ _ _ dP;have a1:=iT.o _ _ _ _ _ dP 1 O;obtain⟨jq,ja,jo,iZ⟩:=fU.o _<|HG.o.below _ _ _ _ _ dP;have fa:=Z dP;clear dP)
  go_still_tail 8,di
  go_wp2_with(go_at_call 142;refine(N1.o _ _ _ _ HG.o _ _ _ _ _ _ _ fa.o.drew Oe.o).mono ?_;rintro e w4 ⟨rfl,oU⟩;have mK:=Z<|gU.o _ _ _ _ _ oU;clear oU)
  go_end0;exact⟨rfl,mK.o⟩
 |clear aox
  go_wp2_with(first
   |(go_at_call 52;refine(dy.o _).mono ?_;rintro e w1 ⟨u,rfl,bF,hb1⟩;obtain⟨own1,bz,bE,eE⟩:=jS.o w1 u _ hb1 bF;obtain⟨ga,oa,ca,rfl,q9,fI⟩:=eE.b4 O;have HG:=Z eE;have iT:=Z fI;have gU:=Z bE;obtain⟨b0,b1,b2,b3⟩:=HG.o.box _ _ _ _ _ bz;rw[jG.o]at b0;have a0:=iT.o _ _ _ _ _ bz 0 O;rw[Nat.add_zero]at a0;obtain⟨ej,ei,eh,ef⟩:=cZ.o _<|HG.o.below _ _ _ _ _ bz;have cY:=Z bz;clear bz bE eE fI bF hb1)
   |(go_at_call 141;refine(kD cY.o _).mono ?_;rw[H0.o];rintro e w2 ⟨rfl,bP⟩;obtain⟨b0,b1,b2,b3⟩:=HG.o.box _ _ _ _ _ bP;rw[jG.o]at b0;have a0:=iT.o _ _ _ _ _ bP 0 O;rw[Nat.add_zero]at a0;obtain⟨ej,ei,eh,ef⟩:=cZ.o _ (HG.o.below _ _ _ _ _ bP);have eF:=Z bP;clear bP))
  go_still_tail 9,di
  go_wp2_with(go_at_call 142;refine(CF.o _ _ _ _ HG.o _ _ _ _ _ _ _ eF.o.drew rT.o).mono ?_;rintro e w3 ⟨rfl,dP⟩;have fa:=Z<|gU.o _ _ _ _ _ dP;clear dP)
  go_end0;exact⟨rfl,fa.o⟩
 |clear aoy
  first
  |clear aon
   go_wp2_with(first
    |(go_at_call 52;refine(dy.o _).mono ?_;rintro e w1 ⟨u,rfl,bF,hb1⟩;obtain⟨own1,bz,bE,eE⟩:=jS.o w1 u _ hb1 bF;obtain⟨ga,oa,ca,rfl,q9,fI⟩:=eE.b4 O;have HG:=Z eE;have iT:=Z fI;have gU:=Z bE;obtain⟨b0,b1,b2,b3⟩:=HG.o.box _ _ _ _ _ bz;rw[jG.o]at b0;have a0:=iT.o _ _ _ _ _ bz 0 O;rw[Nat.add_zero]at a0;obtain⟨ej,ei,eh,ef⟩:=cZ.o _ (HG.o.below _ _ _ _ _ bz);obtain⟨k9,vM,uz⟩:=bz.outs;have cY:=Z bz;clear bz bE eE fI bF hb1))
   first
   |clear amV
    go_quiet (fail);have Dy:=cY.o.calm<|below_drewN w1 nq;obtain⟨b0,b1,b2,b3⟩:=HG.o.box _ _ _ _ _ Dy;rw[jG.o]at b0;have a0:=iT.o _ _ _ _ _ Dy 0 O;rw[Nat.add_zero]at a0;obtain⟨ej,ei,eh,ef⟩:=cZ.o _<|HG.o.below _ _ _ _ _ Dy;obtain⟨k9,vM,uz⟩:=Dy.outs;have Y4:=Z Dy;clear Dy;generalize w1.drewN nq=wq at*
    go_wp2;go_still_tail 12,di
    go_wp2_with(go_at_call 142;refine(CF.o _ _ _ _ HG.o _ _ _ _ _ _ _ Y4.o.drew rT.o).mono ?_;rintro e w2 ⟨rfl,bP⟩;have eF:=Z<|gU.o _ _ _ _ _ bP;clear bP)
    go_end0;exact⟨rfl,eF.o⟩
   |clear amW
    exact aev
  |clear aoo
   go_wp2_with(first
    |(go_at_call 52;refine(dy.o _).mono ?_;rintro e w1 ⟨u,rfl,bF,hb1⟩;obtain⟨own1,bz,bE,eE⟩:=jS.o w1 u _ hb1 bF;obtain⟨ga,oa,ca,rfl,q9,fI⟩:=eE.b4 O;have HG:=Z eE;have iT:=Z fI;have gU:=Z bE;obtain⟨b0,b1,b2,b3⟩:=HG.o.box _ _ _ _ _ bz;rw[jG.o]at b0;have a0:=iT.o _ _ _ _ _ bz 0 O;rw[Nat.add_zero]at a0;obtain⟨ej,ei,eh,ef⟩:=cZ.o _ (HG.o.below _ _ _ _ _ bz);have cY:=Z bz;clear bz bE eE fI bF hb1))
   go_still_tail 8,di
   first
   |clear ana
    first
    |clear amT
     go_wp2_with(first
      |(go_at_call 140;refine(RN.o _ _ _ _ HG.o _ _ _ _ _ _ cY.o.drew rT.o).mono ?_;rintro e w2 ⟨t,rfl,hR,bP⟩;rw[rP.o]at bP;obtain⟨b0,b1,b2,b3⟩:=HG.o.box _ _ _ _ _ bP;rw[jG.o]at b0;have a0:=iT.o _ _ _ _ _ bP 0 O;rw[Nat.add_zero]at a0;obtain⟨ej,ei,eh,ef⟩:=cZ.o _<|HG.o.below _ _ _ _ _ bP;have k5:=bP.a1;obtain rfl:t=3:=Eh.o t hR;have eF:=Z bP;clear bP hR)
      |(go_at_call 54;refine(eM eF.o 7 J (bg T q 0)).mono ?_;rintro e w3 ⟨rfl,dP⟩;have fa:=Z dP;clear dP))
     go_end0;exact⟨rfl,gU.o _ _ _ _ _ fa.o⟩
    |clear amU
     go_wp2_with(go_at_call 140;refine(RN.o _ _ _ _ HG.o _ _ _ _ _ _ cY.o.drew rT.o).mono ?_;rintro e w2 ⟨t,rfl,hR,bP⟩;rw[rP.o]at bP;obtain⟨b0,b1,b2,b3⟩:=HG.o.box _ _ _ _ _ bP;rw[jG.o]at b0;have a0:=iT.o _ _ _ _ _ bP 0 O;rw[Nat.add_zero]at a0;obtain⟨ej,ei,eh,ef⟩:=cZ.o _<|HG.o.below _ _ _ _ _ bP;have k5:=bP.a1;have h3n:=Eh.o t hR;have eF:=Z bP;clear bP hR)
     go_end0;exact⟨rfl,gU.o _ _ _ _ _ eF.o⟩
   |clear anb
    first
    |clear amX
     go_wp2_with(go_at_call 142;refine(CF.o _ _ _ _ HG.o _ _ _ _ _ _ _ cY.o.drew rT.o).mono ?_;rintro e w2 ⟨rfl,bP⟩;have eF:=Z<|gU.o _ _ _ _ _ bP;clear bP)
     go_end0;exact⟨rfl,eF.o⟩
    |clear amY
     go_wp2_with(go_at_call 143;refine(Eh.o _ _ _ _ HG.o _ _ _ _ _ _ cY.o.drew rT.o).mono ?_;rintro e w2 ⟨t,rfl,hR,bP⟩;have eF:=Z<|gU.o _ _ _ _ _ bP;clear bP hR)
     go_end0;exact⟨rfl,eF.o⟩
   |clear ane
    first
    |clear amZ
     go_wp2_with(go_at_call 140;refine(RN.o _ _ _ _ HG.o _ _ _ _ _ _ cY.o.drew rT.o).mono ?_;rintro e w2 ⟨t,rfl,hR,bP⟩;rw[rP.o]at bP;obtain⟨b0,b1,b2,b3⟩:=HG.o.box _ _ _ _ _ bP;rw[jG.o]at b0;have a0:=iT.o _ _ _ _ _ bP 0 O;rw[Nat.add_zero]at a0;obtain⟨ej,ei,eh,ef⟩:=cZ.o _<|HG.o.below _ _ _ _ _ bP;obtain⟨code,k5,hz⟩:=bP.bC;have eF:=Z bP;clear bP hR)
     go_end0;exact⟨rfl,gU.o _ _ _ _ _ eF.o⟩
    |clear am0
     go_wp2_with(first
      |(go_at_call 140;refine(RN.o _ _ _ _ HG.o _ _ _ _ _ _ cY.o.drew rT.o).mono ?_;rintro e w2 ⟨t,rfl,hR,bP⟩;rw[rP.o]at bP;obtain⟨b0,b1,b2,b3⟩:=HG.o.box _ _ _ _ _ bP;rw[jG.o]at b0;have a0:=iT.o _ _ _ _ _ bP 0 O;rw[Nat.add_zero]at a0;obtain⟨ej,ei,eh,ef⟩:=cZ.o _<|HG.o.below _ _ _ _ _ bP;have k5:=bP.a1;obtain rfl:t=t0:=Eh.o t hR;have eF:=Z bP;clear bP hR)
      |(go_at_call 91;refine(nP eF.o T.z t q qh.o og.o).mono ?_;rintro e w3 ⟨rfl,dP⟩;have fa:=Z dP;clear dP))
     go_end0;exact⟨rfl,by rw[<-HT.o];exact gU.o _ _ _ _ _ fa.o⟩
  |clear aop
   go_wp2_with(first
    |(go_at_call 52;refine(dy.o _).mono ?_;rintro e w1 ⟨u,rfl,bF,hb1⟩;obtain⟨own1,bz,bE,eE⟩:=jS.o w1 u _ hb1 bF;have HG:=Z eE;have gU:=Z bE;obtain⟨b0,b1,b2,b3⟩:=HG.o.box _ _ _ _ _ bz;rw[jG.o]at b0;obtain⟨k9,vM,uz⟩:=bz.outs;have cY:=Z bz;clear bz bE eE bF hb1))
   first
   |clear anf
    go_quiet (fail);go_wp2;go_end0;exact⟨rfl,gU.o _ _ _ _ _<|cY.o.calm<|below_drewN _ _⟩
   |clear ang
    exact aev
  |clear aoq
   go_wp2_with(first
    |(go_at_call 52;refine(dy.o _).mono ?_;rintro e w1 ⟨u,rfl,bF,hb1⟩;obtain⟨own1,bz,bE,eE⟩:=jS.o w1 u _ hb1 bF;have HG:=Z eE;have gU:=Z bE;obtain⟨b0,b1,b2,b3⟩:=HG.o.box _ _ _ _ _ bz;rw[jG.o]at b0;have cY:=Z bz;clear bz bE eE bF hb1)
    |(go_at_call 139;refine(CK.o _ _ _ _ HG.o _ cY.o).mono ?_;rintro e w3 ⟨rfl,dP⟩;have fa:=Z (gU.o _ _ _ _ _ dP);clear dP))
   go_end0;exact⟨rfl,fa.o⟩
  |clear aor
   go_wp2_with(first
    |(go_at_call 52;refine(dy.o _).mono ?_;rintro e w1 ⟨u,rfl,bF,hb1⟩;obtain⟨own1,bz,bE,eE⟩:=jS.o w1 u _ hb1 bF;have HG:=Z eE;have gU:=Z bE;obtain⟨b0,b1,b2,b3⟩:=HG.o.box _ _ _ _ _ bz;rw[jG.o]at b0;obtain⟨k9,vM,uz⟩:=bz.outs;have f11:=bz.free 11;have oQ:=Z<|bz.bP<|(cx.outs:Int)+1;have cY:=Z bz;clear bz bE eE bF hb1)
    |(go_at_call 144;refine(HCA.o _ _ _ _ HG.o _ oQ.o).mono ?_;rintro e w4 ⟨rfl,oU⟩;have Cz:=gU.o _ _ _ _ _ oU;obtain⟨j9,j10,j11⟩:=Cz.outs;have uz:w4.cell? ⟨K.cb,11,none⟩=some (.int .i64 ((cx.outs:Int)+1)):=j11;have f11:=Cz.free 11;have vG:=Z (Cz.bP cx.outs);clear oU Cz j9 j10 j11))
   go_end0;exact⟨rfl,vG.o⟩
  |clear aos
   first
   |clear aoa
    go_wp2_with(first
     |(go_at_call 52;refine(dy.o _).mono ?_;rintro e w1 ⟨u,rfl,bF,hb1⟩;obtain⟨own1,bz,bE,eE⟩:=jS.o w1 u _ hb1 bF;have HG:=Z eE;have gU:=Z bE;obtain⟨b0,b1,b2,b3⟩:=HG.o.box _ _ _ _ _ bz;rw[jG.o]at b0;have cY:=Z bz;clear bz bE eE bF hb1)
     |(go_at_call 141;refine(kD cY.o _).mono ?_;rw[H0.o];rintro e w2 ⟨rfl,bP⟩;obtain⟨b0,b1,b2,b3⟩:=HG.o.box _ _ _ _ _ bP;rw[jG.o]at b0;have eF:=Z bP;clear bP)
     |(go_at_call 54;refine(eM eF.o 5 J q).mono ?_;rintro e w3 ⟨rfl,dP⟩;have fa:=Z dP;clear dP))
    exact adT
   |clear aob
    go_wp2_with(first
     |(go_at_call 52;refine(dy.o _).mono ?_;rintro e w1 ⟨u,rfl,bF,hb1⟩;obtain⟨own1,bz,bE,eE⟩:=jS.o w1 u _ hb1 bF;have HG:=Z eE;have gU:=Z bE;obtain⟨b0,b1,b2,b3⟩:=HG.o.box _ _ _ _ _ bz;rw[jG.o]at b0;have cY:=Z bz;clear bz bE eE bF hb1)
     |(go_at_call 141;refine(kD cY.o _).mono ?_;rw[H0.o];rintro e w2 ⟨rfl,bP⟩;obtain⟨b0,b1,b2,b3⟩:=HG.o.box _ _ _ _ _ bP;rw[jG.o]at b0;have eF:=Z bP;clear bP))
    first|go_end0|refine avr (results_none rfl _ _ _) rfl ?_
    exact⟨rfl,gU.o _ _ _ _ _ eF.o⟩
   |clear aoc
    go_wp2_with(first
     |(go_at_call 52;refine(dy.o _).mono ?_;rintro e w1 ⟨u,rfl,bF,hb1⟩;obtain⟨own1,bz,bE,eE⟩:=jS.o w1 u _ hb1 bF;have HG:=Z eE;have gU:=Z bE;obtain⟨b0,b1,b2,b3⟩:=HG.o.box _ _ _ _ _ bz;rw[jG.o]at b0;have cY:=Z bz;clear bz bE eE bF hb1)
     |(go_at_call 141;refine(kD cY.o _).mono ?_;rw[H0.o];rintro e w2 ⟨rfl,bP⟩;obtain⟨b0,b1,b2,b3⟩:=HG.o.box _ _ _ _ _ bP;rw[jG.o]at b0;have eF:=Z bP;clear bP)
     |(go_at_call 54;refine(eM eF.o 7 J q).mono ?_;rintro e w3 ⟨rfl,dP⟩;have fa:=Z dP;clear dP))
    exact adT):G:=h
theorem K5 (s:ByteArray):bV s<=5:=by
 unfold bV;repeat' split
 all_goals omega
theorem Jr (ih:∀i,i<T.q->Cu (T.f i)):Ch T:=by
 intro K w0 ai s ret loops outs w v hS hE hN bI ax;rcases iH ax with h|h|h|h|h|h|h|h
 ·exact Zx h K w0 ai s ret loops outs w v hS hE hN bI ax
 ·exact Zw h K w0 ai s ret loops outs w v hS hE hN bI ax
 ·exact Zv h K w0 ai s ret loops outs w v hS hE hN bI ax
 ·exact Zu h ih K w0 ai s ret loops outs w v hS hE hN bI ax
 ·have hl:=(u9 h ax).1;by_cases h0:T.q=0
  ·exact Uv h h0 K w0 ai s ret loops outs w v hS hE hN bI ax
  ·exact Uu h O ih K w0 ai s ret loops outs w v hS hE hN bI ax
 ·cases hn:Df T.z with
  |true=>exact Ur h hn ih K w0 ai s ret loops outs w v hS hE hN bI ax
  |false=>exact Ut h hn ih K w0 ai s ret loops outs w v hS hE hN bI ax
 ·have h0:=(ly h ax).1;have h5:=K5 T.z;cases he:Ig T.z with
  |true=>exact Uq h he ih K w0 ai s ret loops outs w v hS hE hN bI ax
  |false=>
   have:bV T.z=1\/bV T.z=2\/bV T.z=3\/bV T.z=4\/bV T.z=5:=O;rcases this with hl|hl|hl|hl|hl
   ·exact Ow h hl ih K w0 ai s ret loops outs w v hS hE hN bI ax
   ·exact Ov h hl ih K w0 ai s ret loops outs w v hS hE hN bI ax
   ·exact Ou h hl he ih K w0 ai s ret loops outs w v hS hE hN bI ax
   ·exact Ot h hl ih K w0 ai s ret loops outs w v hS hE hN bI ax
   ·exact Oq h hl ih K w0 ai s ret loops outs w v hS hE hN bI ax
 ·exact Zt h ih K w0 ai s ret loops outs w v hS hE hN bI ax
theorem l8 (T:Nd):Cu T:=by
 induction T with
 |nil=>exact Fk<|Jr fun i hi=>absurd hi<|avJ i
 |mk k n s len kids ih=>exact Fk<|Jr fun i _=>ih i
theorem tG (T:Nd):WtS T:=om<|l8 T
def oO (T:Nd):Prop:=∀(K:SK)(w0:World)(ai:Option Nat)(s:CS)(cx:Cx)(w:World)(v:Value),SS K w0 ai (.ok s) cx.ret cx.loops cx.outs w->SEnv K w->SNd K w T v->s.2.length+T.size<=K.N->T.U=true->s.1≠[]->cx.loops+T.size<=1099511627776->cx.outs+T.size<=1099511627776->
 Calls prog 121 #[.pointer<|some ⟨K.cb,0,none⟩,T.val v,.int .i64 s.2.length] w fun e w'=>e=.returned (.tuple #[])/\SS K w0 ai ((fw K.F T).st cx s) cx.ret cx.loops cx.outs w'
structure pd (K:SK)(w1:World)(own1:Option Nat)(T:Nd)(p d m:Nat)(lv uv:Value)(u:Nat->Value):Prop where
  lv:∃a cap,lv=.slice a m cap/\m<=cap/\cap<=9223372036854775807/\∃a' ca,uv=.slice a' m ca/\m<=ca/\ca<=9223372036854775807/\(m=0\/∃g off ga oa,a=some ⟨g,off,none⟩/\a'=some ⟨ga,oa,none⟩/\
    ∀W σ r l o,SS K w1 own1 σ r l o W->∀i,i<m->W.cell? ⟨ga,oa+i,none⟩=some (.int .i64 (bg T p (d+i):Nat))/\
      W.cell? ⟨g,off+i*4,none⟩=some (.int .i64 (T.f (d+i)).y)/\W.cell? ⟨g,off+i*4+1,none⟩=some (.int .i64 (T.f (d+i)).E)/\W.cell? ⟨g,off+i*4+2,none⟩=some (.string (T.f (d+i)).z)/\W.cell? ⟨g,off+i*4+3,none⟩=some (u i))
  env:∀W σ r l o,SS K w1 own1 σ r l o W->SEnv K W
  nd:∀W σ r l o,SS K w1 own1 σ r l o W->∀i,i<m->SNd K W (T.f<|d+i) (u i)
theorem dv (T:Nd){i:Nat}(h:i<T.q):(T.f i).size+1<=T.size:=by have:=fm T 0 h;unfold bg at this;omega
def iN (F T:Nd)(cx:Cx)(d m:Nat)(σ:CR CS):CR CS:=CR.bind σ<|forN (fun i=>(fw F<|T.f<|d+i).st cx) m
theorem rr (F T:Nd)(cx:Cx)(d m:Nat)(σ:CR CS):iN F T cx d (m+1) σ=CR.bind (iN F T cx d m σ) ((fw F<|T.f<|d+m).st cx):=by unfold iN;cases σ<;>rfl
theorem Ki {σ:CR CS}{e:Int×Nat}(h:iN F T cx d m σ=.error e):∀{n:Nat},m<=n->iN F T cx d n σ=.error e:=by
 intro n hn;induction hn with
 |refl=>exact h
 |step _ ih=>rw[rr,ih];rfl
theorem rN {lv uv:Value}{u:Nat->Value}(hL:pd K w1 own1 T p d m lv uv u)(ih:∀i,i<m->oO (T.f<|d+i))(σ:CR CS)(cx:Cx)(w:World)(hS:SS K w1 own1 σ cx.ret cx.loops cx.outs w)
  (hdm:d+m<=T.q) (ax:∀i,i<m->(T.f<|d+i).U=true) (Qk:∀s,σ=.ok s->s.2.length=bg T p d/\s.1≠[]) (bI:p+T.size<=K.N) (hl:∀i,i<m->cx.loops+(T.f<|d+i).size<=1099511627776) (ho:∀i,i<m->cx.outs+(T.f<|d+i).size<=1099511627776):
  Calls prog 92 #[.pointer<|some ⟨K.cb,0,none⟩,lv,uv] w fun e w'=>e=.returned (.tuple #[])/\SS K w1 own1 (iN K.F T cx d m σ) cx.ret cx.loops cx.outs w':=by
 have fp:=hS.ok.aR;obtain⟨a,cap,rfl,eO,jQ,a',ca,rfl,hc3,hc4,gI⟩:=hL.lv;have HL:=Z hL;have Am:=Z gI;have HS:=Z hS;have N6:Hid (∀n,n<=m->∀s,iN K.F T cx d n σ=.ok s->s.2.length=bg T p (d+n)/\s.1≠[]):=by
  intro n;induction n with
  |zero=>
   intro _ s hs;unfold iN at hs;obtain⟨s0,h1,h2⟩:=bw hs;injection h2 with h2;subst h2;exact Qk s0 h1
  |succ n Vt=>
   intro hn s hs;rw[rr]at hs;obtain⟨s0,h1,h2⟩:=bw hs;obtain⟨q1,q2⟩:=Vt O s0 h1;obtain⟨r1,r2,r3,_⟩:=(yW K.F<|T.f<|d+n).st (ax n O) cx s0 s q2 h2;refine⟨?_,?_⟩
   ·rw[r3,q1,show d+(n+1)=d+n+1 by omega,fx]
   ·intro e;rw[e]at r2;exact q2<|awk.1 r2.symm
 have HKA:=Z fun i(h:i<m)=>fm T p (i:=d+i) O;have HIH:=Z ih;have tC:=Z ax;have HHL:=Z hl;have HHO:=Z ho;clear hL gI hS ih ax Qk hl ho;go_enter func92,ntmps92
 go_wp2;have di:=pJ;go_loopw[6] (fun i wr=>∃n:Nat,n<=m/\i=.int .i64 n/\SS K w1 own1 (iN K.F T cx d n σ) cx.ret cx.loops cx.outs wr) (fun i _=>m-(intOf i).toNat)
 case atStart=>
  refine⟨0,avL _,rfl,?_⟩;have:iN K.F T cx d 0 σ=σ:=by unfold iN;cases σ<;>rfl
  rw[this];exact HS.o
 case round=>
  obtain⟨n,hn,rfl,eR⟩:=hrel;by_cases be:n<m
  ·have hni:(n:Int)<(m:Int):=O;rcases Am.o with h0|⟨g,off,ga,oa,rfl,rfl,hc⟩
   ·omega
   obtain⟨an,c0,c1,c2,c3⟩:=hc _ _ _ _ _ eR n be;cases hq:iN K.F T cx d n σ with
   |error e0=>
    rw[hq]at eR;obtain⟨code,k5,hz⟩:=eR.bC;have mW:=Z eR;have HQ:=Z hq;clear eR hq hc;go_wp2;go_end0;refine⟨rfl,?_⟩;rw[Ki HQ.o hn];exact mW.o
   |ok s=>
    rw[hq]at eR;have k5:=eR.a1;obtain⟨y,bz⟩:=N6.o n hn s hq;have VS:=HKA.o n be;have HW:=Z<|HIH.o n be K w1 own1 s cx wr.drew (u n) eR.drew (HL.o.env _ _ _ _ _ eR.drew) (HL.o.nd _ _ _ _ _ eR.drew n be) (by rw[y];omega) (tC.o n be) bz (HHL.o n be)<|HHO.o n be;rw[y]at HW;unfold Nd.val at HW;have HQ:=Z hq;clear eR hq y hc VS;generalize bg T p (d+n)=kp at*
    go_wp2;go_still_tail 9,di
    go_wp2_with(go_at_call 121;refine HW.o.mono ?_;rintro e w5 ⟨rfl,o6⟩;have oQ:=Z o6;clear o6)
    refine⟨⟨n+1,O,by go_num,?_⟩,by simp[intOf];omega⟩;rw[rr,HQ.o];exact oQ.o
  ·have mW:=Z eR;clear eR;go_wp2;go_end0;obtain rfl:n=m:=O;exact⟨rfl,mW.o⟩
theorem SS.deep {outs:Int}(h:SS K w0 ai (.ok s) ret loops outs w):w.cell? ⟨K.cb,8,none⟩=some (.int .i64 (s.1.length:Nat))/\w.frozen? ⟨K.cb,8,none⟩=false/\s.1.length<=1048577:=by have aoj:=kk;exact Rn
theorem SS.c5 {outs:Int}(h:SS K w0 ai (.ok s) ret loops outs w)(hl:s.1.length<=s.2.length):
  SS K w0 ai (.ok ([]::s.1,s.2)) ret loops outs (w.setCell ⟨K.cb,8,none⟩<|.int .i64<|(s.1.length:Int)+1):=by
 have aok:=kk;exact Rn
theorem SS.lens {outs:Int}(h:SS K w0 ai (.ok s) ret loops outs w):cD s.1<=s.2.length/\s.1.length<=s.2.length+1:=by have aol:=kk;exact Rn
theorem Ca (l:List (ByteArray×Int))(z:T.y≠0):yZ (iN F T cx 0 T.q<|.ok (l::s.1,s.2++[0]))=within l ((fw F T).ad cx) s:=by rw[ou F z];unfold yZ iN within r6 az;simp only[CR.an,Nat.zero_add]
theorem Kg (h4:T.y=4)(ax:T.U=true)(hs:s.1≠[]):∀s',iN F T cx 0 T.q (.ok s)=.ok s'->s'.1≠[]:=by intro s' e;unfold iN at e;simp only[CR.an,Nat.zero_add]at e;have:=(StL.bE (g:=fun i=>(T.f i).size) (fun i hi=>(yW F<|T.f i).st (tT h4 ax i hi) cx) lr) s s' hs e;intro h;rw[h]at this;exact hs<|awk.1 this.2.1.symm
theorem Kd {a:Option Addr}(hg:SGo K w w1 own1 b T (.slice a T.q cap) u p)(hE:SEnv K w)(hN:SNd K w T (.slice a T.q cap))(hu:T.q=0->∃a' ca,u=.slice a' 0 ca/\ca<=9223372036854775807):
  ∃us,pd K w1 own1 T p 0 T.q (.slice a T.q cap) u us:=by
 by_cases h0:T.q=0
 ·obtain⟨a',ca,rfl,q9⟩:=hu h0;obtain⟨a2,c2,e2,jQ,_⟩:=ar.1 hN.row;injection e2 with e3 e4 e5;subst e5;refine⟨fun _=>.tuple #[],⟨⟨a,cap,rfl,jQ.1,jQ.2,a',ca,by rw[h0],O,q9,.inl h0⟩,fun W σ r l o hW=>hg.env hE hW,fun W σ r l o hW i hi=>by omega⟩⟩
 ·obtain⟨g,off,nR,hv,tg,bo,aZ⟩:=jL hN.row h0;injection hv with e1 e2 e3;subst e1;subst e3;obtain⟨ga,oa,ca,rfl,q9,fI⟩:=hg.b4 h0;refine⟨fun i=>if h:i<T.q then(aZ i h).choose else .tuple #[],⟨⟨_,cap,rfl,bo.1,bo.2,_,ca,rfl,q9.1,q9.2,.inr ⟨g,off,ga,oa,rfl,rfl,fun W σ r l o hW i hi=>?_⟩⟩,fun W σ r l o hW=>hg.env hE hW,fun W σ r l o hW i hi=>?_⟩⟩
  ·have hx:=(aZ i hi).choose_spec.1 W<|hg.below W σ r l o hW;simp only[Nat.zero_add,hi,dif_pos];exact⟨fI W σ r l o hW i hi,hx⟩
  ·have hx:=(aZ i hi).choose_spec.2;simp only[Nat.zero_add,hi,dif_pos];exact(hN.a7 hi hx).later<|hg.below W σ r l o hW
theorem MO (h4:T.y=4)(ih:∀i,i<T.q->oO (T.f i))(K:SK)(w0:World)(ai:Option Nat)(s:CS)(cx:Cx)(w:World)(v:Value)(hS:SS K w0 ai (.ok s) cx.ret cx.loops cx.outs w)(hE:SEnv K w)(hN:SNd K w T v)(bI:s.2.length+T.size<=K.N)(ax:T.U=true)(hl:cx.loops+T.size<=1099511627776)(ho:cx.outs+T.size<=1099511627776)(na:Nat):
  Calls prog 139 #[.pointer<|some ⟨K.cb,0,none⟩,T.val v,.int .i64 s.2.length,.string ⟨#[]⟩,.int .i64 na] w fun e w'=>e=.returned (.tuple #[])/\SS K w0 ai (within [] ((fw K.F T).ad cx) s) cx.ret cx.loops cx.outs w':=by
 have am1:=kk;exact aeb
theorem ZG (z:T.y=19):oO T:=by have anO:=kk;exact Xr
theorem ZE (z:T.y=21):oO T:=by have anP:=kk;exact Xr
theorem st_8 (z:T.y=8):oO T:=by have anW:=kk;exact wQ
theorem st_9 (z:T.y=9):oO T:=by exact adW
theorem ZL (z:T.y=13):oO T:=by exact adW
theorem ZK (z:T.y=14):oO T:=by exact adW
theorem st_7 (z:T.y=7):oO T:=by have anL:=kk;exact aep
theorem st_6 (z:T.y=6):oO T:=by have anK:=kk;exact aep
theorem Ex {e:Int×Nat}(h:mo K A (.ok s)=.error e):fu (gJ K.F A) s=.error e:=by
 unfold mo at h;simp only[CR.an]at h;cases hv:fu (gJ K.F A) s with
 |error x=>rw[hv,CR.cT]at h;injection h with h;rw[h]
 |ok r=>rw[hv]at h;cases h
theorem Jn (h:mo K A (.ok s)=.ok s1):∃t,fu (gJ K.F A) s=.ok (t,s1)/\∀t',NI K A (.ok s) t'->t'=t:=by unfold mo at h;simp only[CR.an]at h;obtain⟨r,h1,h2⟩:=bw h;injection h2 with h2;subst h2;exact⟨r.1,h1,fun t' h=>h s r rfl (kl h1).1⟩
theorem st_5 (z:T.y=5):oO T:=by have anI:=kk;exact aeo
theorem ZF (z:T.y=20):oO T:=by have anJ:=kk;exact aeo
theorem SS.outs {σ:CR CS}{outs:Int}(h:SS K w0 ai σ ret loops outs w):w.cell? ⟨K.cb,9,none⟩=some (.int .i64 ret)/\w.cell? ⟨K.cb,10,none⟩=some (.int .i64 loops)/\w.cell? ⟨K.cb,11,none⟩=some (.int .i64 outs):=by obtain⟨vv,code,place,deep,zs,vs,h1,_⟩:=h.is;exact⟨h1.cells.2.2.2.2.2.2.2.2.2.1,h1.cells.2.2.2.2.2.2.2.2.2.2.1,h1.cells.2.2.2.2.2.2.2.2.2.2.2⟩
theorem ZI (z:T.y=17):oO T:=by have anX:=kk;exact wQ
theorem ZH (z:T.y=18):oO T:=by have anY:=kk;exact wQ
theorem ZM (z:T.y=12):oO T:=by have anZ:=kk;exact wQ
theorem st_4 (z:T.y=4)(ih:∀i,i<T.q->oO (T.f i)):oO T:=by
 intro K w0 ai s cx w v hS hE hN bI ax jk VO hou1;have ba:(fw K.F T).st cx s=within [] ((fw K.F T).ad cx) s:=by
  rw[dY K.F O];unfold stM;rw[avA z];rw[ou K.F O]
 have ani:=kk;exact Xt
theorem SS.b5 {σ:CR CS}{outs:Int}(h:SS K w0 ai σ ret loops outs w)(n:Int):SS K w0 ai σ ret n outs (w.setCell ⟨K.cb,10,none⟩<|.int .i64 n):=by obtain⟨vv,code,place,deep,zs,vs,h1,h2,h3⟩:=h.is;have r1:=h1.set h.ok (i:=10) (u:=.int .i64 n) (code':=code) (place':=place) (deep':=deep) (ret':=ret) (loops':=n) (outs':=outs) rfl;exact h.b2 (own:=ai) r1 h2 h3 (.inl rfl)<|Kept.setCell (S:=K.S ai) ⟨K.cb,10,none⟩ _<|.inl rfl
theorem SS.bP {σ:CR CS}{outs:Int}(h:SS K w0 ai σ ret loops outs w)(n:Int):SS K w0 ai σ ret loops n (w.setCell ⟨K.cb,11,none⟩<|.int .i64 n):=by obtain⟨vv,code,place,deep,zs,vs,h1,h2,h3⟩:=h.is;have r1:=h1.set h.ok (i:=11) (u:=.int .i64 n) (code':=code) (place':=place) (deep':=deep) (ret':=ret) (loops':=loops) (outs':=n) rfl;exact h.b2 (own:=ai) r1 h2 h3 (.inl rfl)<|Kept.setCell (S:=K.S ai) ⟨K.cb,11,none⟩ _<|.inl rfl
theorem SS.free {σ:CR CS}{outs:Int}(h:SS K w0 ai σ ret loops outs w)(i:Nat):w.frozen? ⟨K.cb,i,none⟩=false:=by obtain⟨vv,code,place,deep,zs,vs,h1,_⟩:=h.is;exact h1.free i
theorem tU {g off ga oa ca:Nat}(hg:SGo K w w1 own1 b T (.slice (some ⟨g,off,none⟩) T.q cap) (.slice (some ⟨ga,oa,none⟩) T.q ca) p)(hE:SEnv K w)(hN:SNd K w T (.slice (some ⟨g,off,none⟩) T.q cap))(q9:T.q<=ca/\ca<=9223372036854775807)
  (fI:∀W σ r l o,SS K w1 own1 σ r l o W->∀i,i<T.q->W.cell? ⟨ga,oa+i,none⟩=some (.int .i64 (bg T p i:Nat))) (d:Nat) (hd:d<T.q):
  ∃us,pd K w1 own1 T p d (T.q-d) (.slice (some ⟨g,off+d*4,none⟩) (T.q-d)<|cap-d) (.slice (some ⟨ga,oa+d,none⟩) (T.q-d)<|ca-d) us:=by
 obtain⟨g',Vg,nR,hv,tg,bo,aZ⟩:=jL hN.row O;injection hv with e1 e2 e3;injection e1 with e1;injection e1 with e1 e4;subst e1 e3 e4;refine⟨fun i=>if h:d+i<T.q then(aZ (d+i) h).choose else .tuple #[],⟨⟨_,cap-d,rfl,O,O,_,ca-d,rfl,O,O,.inr ⟨g,off+d*4,ga,oa+d,rfl,rfl,fun W σ r l o hW i hi=>?_⟩⟩,fun W σ r l o hW=>hg.env hE hW,fun W σ r l o hW i hi=>?_⟩⟩
 ·have ir:d+i<T.q:=O;have hx:=(aZ (d+i) ir).choose_spec.1 W<|hg.below W σ r l o hW;have ho:off+(d+i)*4=off+d*4+i*4:=O;have hu:=(aZ (d+i) ir).choose;simp only[ir,dif_pos];generalize (aZ (d+i) ir).choose=uu at hx⊢;rw[ho]at hx;refine⟨?_,hx⟩;rw[av9];exact fI W σ r l o hW (d+i) ir
 ·have ir:d+i<T.q:=O;have hx:=(aZ (d+i) ir).choose_spec.2;simp only[ir,dif_pos];exact(hN.a7 ir hx).later<|hg.below W σ r l o hW
theorem Pg {n:Nat}{σ:CR CS}:iN F T cx 1 n σ=CR.bind σ (forN (fun i=>(fw F<|T.f<|i+1).st cx) n):=by
 unfold iN;have:(fun i=>(fw F<|T.f<|1+i).st cx)=(fun i=>(fw F<|T.f<|i+1).st cx):=by funext i;rw[Nat.add_comm]
 rw[this]
theorem Kh {σ:CR CS}:iN F T cx d 1 σ=CR.bind σ ((fw F<|T.f d).st cx):=by unfold iN;cases σ<;>rfl
theorem Ew {t:Int}(he:(T.f 0).Q=true)(hs:s.1≠[]):∀s',cV K (T.f 0) t (.ok<|az s)=.ok s'->s'.2.length=bg T s.2.length 1/\s'.1≠[]:=by intro s' e;have h1:dz (gJ K.F<|T.f 0) t (az s)=.ok s':=e;obtain⟨a1,a2⟩:=(nN K.F _ he).want t _ _ h1;rw[cr]at a2;refine⟨by rw[a2];unfold bg;simp only[aq];omega,?_⟩;rw[a1];exact hs
theorem ZN (z:T.y=10)(ih:∀i,i<T.q->oO (T.f i)):oO T:=by have an0:=kk;exact wQ
theorem UQ (z:T.y=11)(hl:T.q=1)(hb1:(T.f 0).y=4/\(T.f 0).U=true)(ih:∀i,i<T.q->oO (T.f i)):oO T:=by have an1:=kk;exact wQ
theorem UP (z:T.y=11)(hl:T.q=2)(fz:(T.f 0).Q=true)(hb1:(T.f 1).y=4/\(T.f 1).U=true)(ih:∀i,i<T.q->oO (T.f i)):oO T:=by have an2:=kk;exact wQ
theorem Dh {s:ByteArray}(h:ao s=false):(s.toList==[])=false/\(s.toList !=[])=true:=by
 have e1:(⟨#[]⟩:ByteArray).toList=[]:=by rw[avx]
 have h1:(s.toList==(⟨#[]⟩:ByteArray).toList)=false:=rj (fun e=>by subst e;simp[ao]at h);rw[e1]at h1;exact⟨h1,by simp only[bne,h1];rfl⟩
theorem WL (h4:T.y=4)(ih:∀i,i<T.q->oO (T.f i))(K:SK)(w0:World)(ai:Option Nat)(s:CS)(cx:Cx)(w:World)(v:Value)(hS:SS K w0 ai (.ok s) cx.ret cx.loops cx.outs w)(hE:SEnv K w)(hN:SNd K w T v)(bI:s.2.length+T.size<=K.N)(ax:T.U=true)(hl:cx.loops+T.size<=1099511627776)(ho:cx.outs+T.size<=1099511627776)(name:ByteArray)(na:Nat)(cm:ao name=false):
  Calls prog 139 #[.pointer<|some ⟨K.cb,0,none⟩,T.val v,.int .i64 s.2.length,.string name,.int .i64 na] w fun e w'=>e=.returned (.tuple #[])/\SS K w0 ai (within [(name,1)] ((fw K.F T).ad cx) s) cx.ret cx.loops cx.outs w':=by
 have am2:=kk;exact aeb
def SG (T:Nd):List (ByteArray×Int):=if ao T.z then[]else[(T.z,1)]
theorem Mw {s:ByteArray}(h:ao s=true):s=⟨#[]⟩:=by
 have h1:s.toList=[]:=by simpa[ao]using h
 rw[avx]at h1;have h2:s.data=#[]:=by simpa using h1
 cases s;simp_all
theorem Q8 (h4:T.y=4)(ih:∀i,i<T.q->oO (T.f i))(K:SK)(w0:World)(ai:Option Nat)(s:CS)(cx:Cx)(w:World)(v:Value)(hS:SS K w0 ai (.ok s) cx.ret cx.loops cx.outs w)(hE:SEnv K w)(hN:SNd K w T v)(bI:s.2.length+T.size<=K.N)(ax:T.U=true)(hl:cx.loops+T.size<=1099511627776)(ho:cx.outs+T.size<=1099511627776)(C:Nd)(na:Nat):
  Calls prog 139 #[.pointer<|some ⟨K.cb,0,none⟩,T.val v,.int .i64 s.2.length,.string C.z,.int .i64 na] w fun e w'=>e=.returned (.tuple #[])/\SS K w0 ai (within (SG C) ((fw K.F T).ad cx) s) cx.ret cx.loops cx.outs w':=by
 unfold SG;cases he:ao C.z with
 |true=>rw[Mw he];exact MO h4 ih K w0 ai s cx w v hS hE hN bI ax hl ho na
 |false=>exact WL h4 ih K w0 ai s cx w v hS hE hN bI ax hl ho C.z na he
theorem cs_0f (z:C.y=16)(hn:C.E=0):(fw F C).cs true cx s=.error (6,s.2.length):=by rw[vj F O];unfold NZ;rw[avA ⟨hn,rfl⟩]
theorem cs_0n (z:C.y=16)(hn:C.E=0)(hl:C.q=1):(fw F C).cs false cx s=within (SG C) ((fw F<|C.f 0).ad cx) (az s):=by rw[vj F O];unfold NZ;rw[avo M,avo O,CR.an,avo O,CR.an,hl];rfl
theorem cs_1 (z:C.y=16)(hn:C.E=1)(hl:C.q=2):(fw F C).cs f cx s=CR.bind (dz (gJ F<|C.f 0) 3<|az s) (within (SG C)<|(fw F<|C.f 1).ad cx):=by
 rw[vj F O];unfold NZ;rw[avo O,avA O];cases dz (gJ F<|C.f 0) 3 (az s)with
 |error e=>rfl
 |ok s1=>simp only[CR.an];rw[avo O,CR.an,hl];rfl
theorem cs_2 (z:C.y=16)(hn:C.E=2)(hl:C.q=3):(fw F C).cs f cx s=CR.bind (dz (gJ F<|C.f 0) 3<|az s) (fun s1=>CR.bind (dz (gJ F<|C.f 1) 1 s1)<|within (SG C)<|(fw F<|C.f 2).ad cx):=by
 rw[vj F O];unfold NZ;rw[avo O,avA O];cases dz (gJ F<|C.f 0) 3 (az s)with
 |error e=>rfl
 |ok s1=>simp only[CR.an];rw[avA hn,hl];rfl
def DX (T:Nd)(j:Nat):Bool:=nX (fun i=>decide<|(T.f i).E=0) j
def Ja (F T:Nd)(cx:Cx)(s:CS)(j:Nat):CR CS:=forN (fun i=>(fw F<|T.f i).cs (DX T i) cx) j s
theorem BX (F T:Nd)(cx:Cx)(s:CS)(j:Nat):Ja F T cx s (j+1)=CR.bind (Ja F T cx s j) ((fw F<|T.f j).cs (DX T j) cx):=rfl
theorem Fv {e:Int×Nat}(h:Ja F T cx s j=.error e):∀{n:Nat},j<=n->Ja F T cx s n=.error e:=by
 intro n hn;induction hn with
 |refl=>exact h
 |step _ ih=>rw[BX,ih];rfl
theorem Ws (ax:∀i,i<T.q->(T.f i).aH=true)(hs:s.1≠[]):∀{j:Nat},j<=T.q->∀s',Ja F T cx (az s) j=.ok s'->s'.2.length=bg T s.2.length j/\s'.1≠[]:=by intro j hj s' e;have:=(StL.bE (g:=fun i=>(T.f i).size) (fun i hi=>(yW F<|T.f i).cs (ax i hi) _ _) hj) (az s) s' hs e;obtain⟨r1,r2,r3,r4⟩:=this;refine⟨by rw[r3,cr];unfold bg;rfl,fun h=>?_⟩;rw[h]at r2;exact hs<|awk.1 r2.symm
theorem D8 (h4:T.y=4)(ih:∀i,i<T.q->oO (T.f i))(K:SK)(w0:World)(ai:Option Nat)(s:CS)(cx:Cx)(w:World)(v:Value)(p:Nat)(y:s.2.length=p)(hS:SS K w0 ai (.ok s) cx.ret cx.loops cx.outs w)(hE:SEnv K w)(hN:SNd K w T v)(bI:p+T.size<=K.N)(ax:T.U=true)(hl:cx.loops+T.size<=1099511627776)(ho:cx.outs+T.size<=1099511627776)(C:Nd)(na:Nat):
  Calls prog 139 #[.pointer<|some ⟨K.cb,0,none⟩,T.val v,.int .i64 p,.string C.z,.int .i64 na] w fun e w'=>e=.returned (.tuple #[])/\SS K w0 ai (within (SG C) ((fw K.F T).ad cx) s) cx.ret cx.loops cx.outs w':=by
 subst y;exact Q8 h4 ih K w0 ai s cx w v hS hE hN bI ax hl ho C na
theorem MI (ax:∀i,i<T.q->(T.f i).aH=true)(iQ:∀U:Nd,U.size<T.size->oO U)(hE:SEnv K w)(hN:SNd K w T v)(hg:SGo K w w1 own1 b T v u s.2.length)(cx:Cx)(W:World)(hS:SS K w1 own1 (.ok<|az s) cx.ret cx.loops cx.outs W)
  (jk:s.1≠[]) (bI:s.2.length+T.size<=K.N) (hl:cx.loops+T.size<=1099511627776+1) (ho:cx.outs+T.size<=1099511627776+1):
  Calls prog 144 #[.pointer<|some ⟨K.cb,0,none⟩,T.val v,u] W fun e w'=>e=.returned (.tuple #[])/\SS K w1 own1 (Ja K.F T cx (az s) T.q) cx.ret cx.loops cx.outs w':=by
 have hn:=T.I hN.aA;have fp:=hS.ok.aR;obtain⟨a,cap,hv,bo,hq⟩:=ar.1 hN.row;subst hv;obtain⟨vV,dP,uI,DN⟩:=hS.boxed<|nO T<|.slice a T.q cap;have fa:=Z dP;have gi:=Z uI;have tE:=Z DN;have HG:=Z hg;have HEV:=Z hE;have HND:=Z hN;have tC:=Z ax;have Yg:=Z iQ;have HCT:=Z fun j(hj:j<=T.q)=>Ws (F:=K.F) (cx:=cx) ax jk hj;have IS:=Z fun(h0:T.q≠0)=>jL hN.row h0;have HKA:=Z fun i(h:i<T.q)=>fm T s.2.length h;have Ze:=Z fun i(h:i<T.q)=>dv T h;have di:=pJ;clear dP uI DN hg hE hN ax iQ hS hq;unfold Nd.val;generalize y:s.2.length=p at*
 go_enter func144,ntmps144
 go_wp2;go_loopw[6,7] (fun fd i wr=>∃j:Nat,j<=T.q/\i=.int .i64 j/\fd=.bool (DX T j)/\SS K (W.alloc<|nO T<|.slice a T.q cap) vV (Ja K.F T cx (az s) j) cx.ret cx.loops cx.outs wr) (fun _ i _=>T.q-(intOf i).toNat)
 case atStart=>exact⟨0,avL _,rfl,rfl,fa.o⟩
 case round=>
  obtain⟨j,hj,rfl,rfl,eR⟩:=hrel;have ju:=gi.o _ _ _ _ _ eR;have I8:=tE.o _ _ _ _ _ eR;have n3:wr.cell? ⟨W.heap.size,3,none⟩=some (.slice a T.q cap):=by simp[World.cell?,I8]
  clear I8;by_cases be:j<T.q
  ·have hji:(j:Int)<(T.q:Int):=O;obtain⟨g,off,nR,Ho,tg,Tt,aZ⟩:=IS.o O;injection Ho with QN ev2 QM;subst QN;subst QM;obtain⟨ga,oa,ca,hu',q9,fI⟩:=HG.o.b4 O;subst hu';obtain⟨ud,Ab,Bi⟩:=aZ j be;cases hq:Ja K.F T cx (az s) j with
   |error e0=>
    rw[hq]at eR;obtain⟨code,k5,hz⟩:=eR.bC;have mW:=Z eR;have HQ:=Z hq;clear eR hq aZ Ab Bi fI ju;go_wp2;go_end0;refine⟨rfl,?_⟩;rw[Fv HQ.o hj];exact gi.o _ _ _ _ _ mW.o
   |ok sj=>
    obtain⟨hpj,hsj⟩:=HCT.o j hj sj hq;rw[hq]at eR;have k5:=eR.a1;have fT:=HG.o.below _ _ _ _ _ ju;obtain⟨c0,c1,c2,c3⟩:=Ab _ fT;have an:=fI _ _ _ _ _ ju j be;have hgaw:=awJ wr ⟨ga,oa+j,none⟩ an;dsimp only at hgaw;have VS:=HKA.o j be;have iV:=Ze.o j be;have YX:=(HND.o.a7 be Bi).later fT.drew;have hEd:=HEV.o.later fT.drew;have hAV2:∀X σ r l o,SS K (W.alloc<|nO T<|.slice (some ⟨g,off,none⟩) T.q cap) vV σ r l o X->X.cell? ⟨ga,oa+j,none⟩=some (.int .i64 (bg T p j:Nat)):=fun X σ r l o h=>fI _ _ _ _ _ (gi.o _ _ _ _ _ h) j be;obtain⟨TE,hDn,wv,nG⟩:=ym<|tC.o j be;have hD1:(T.f j).q≠0:=by rcases hDn with h|h|h<;>omega
    obtain⟨gd,od,cd,hvd,NT,hcd,j5⟩:=jL YX.row hD1;subst hvd;have hsz0:0<(T.f j).size:=by rw[(T.f j).size_eq];omega
    have hsd:=(eR.take O).drew;have iX:=eR.ok.cl;have hwl:=eR.lt;have HSD:=Z hsd;have dy:Hid (∀o,Calls prog 52 #[(T.f j).val<|.slice (some ⟨gd,od,none⟩) (T.f j).q cd,.int .i64 (bg T p j:Nat)] ((wr.alloc o).drew) fun e w'=>∃u,e=.returned u/\St w' (wr.alloc o).heap.size u (T.f j).q (fun i=>(bg (T.f j) (bg T p j) i:Int))/\Below (wr.alloc o).heap.size ((wr.alloc o).drew) w'):=fun o=>j8 (T.f j) ((wr.alloc o).drew) _ K.lo (bg T p j) YX.aA (by show K.lo<=(wr.alloc o).heap.size;simp;omega) (ah (hsd.box o) lr YX.row) YX.cost O;have jS:=Z fun(x1:World)(u:Value)(t:TypeId)I ha=>pB (w1:=x1) (T:=T.f j) (v:=.slice (some ⟨gd,od,none⟩) (T.f j).q cd) (p:=bg T p j) (u:=u) (t:=t) hsd I ha;have HQ:=Z hq;have HSJ:=Z hsj;have Y8:=Z hpj;have IQ:Hid (Ja K.F T cx (az s) (j+1)=(fw K.F<|T.f j).cs (DX T j) cx sj):=by unfold Hid;rw[BX,hq];rfl
    have HFN:Hid (DX T (j+1)=(DX T j||decide ((T.f j).E=0))):=rfl;have iT:=Z hAV2;have HFD:=Z YX;have HED:=Z hEd;have hDf:=Nd.I YX.aA;clear eR hq Ab Bi fI ju fT hAV2 aZ;unfold Nd.val at dy;generalize T.f j=D at*
    generalize bg T p j=pj at*
    rcases hDn with⟨hN0,hL⟩|⟨TC,hL,fz⟩|⟨hN2,hL,fz,mZ⟩
    ·rw[hL]at wv nG;have oc:=Z hN0;rw[hN0]at dy jS c1;have L9:(D.q:Int)-1=0:=O;have zc:0<D.q:=O;obtain⟨ud0,ey,dR⟩:=j5 0 O;simp only[Nat.zero_mul,Nat.add_zero]at ey;have cZ:=Z ey;have Ti:=dv D (i:=0) O;have LU:=fm D pj (i:=0) O;have CK:=Z fun(x1:World)(fk:Option Nat)(b3:Nat)(u3:Value)(oD:SGo K wr.drew x1 fk b3 D (.slice (some ⟨gd,od,none⟩) D.q cd) u3 pj)(X:World)(s1:CS)(I4:s1.2.length=bg D pj 0)(hX:SS K x1 fk (.ok s1) cx.ret cx.loops cx.outs X)=>D8 (T:=D.f 0) wv (fun i hi=>Yg.o _ (by have:=dv (D.f 0) hi;omega)) K x1 fk s1 cx X ud0 (bg D pj 0) I4 hX (oD.env HED.o hX) ((HFD.o.a7 O dR).later<|oD.below _ _ _ _ _ hX) O nG O O D pj;have Zi:=Z TE;have Yp:=Z hL;clear TE hL j5 wv nG ey dR;cases hf:DX T j with
     |true=>
      rw[hf]at IQ;have amx:=kk;exact ad0
     |false=>
      rw[hf]at IQ HFN;have amy:=kk;exact ad0
    ·rw[hL]at wv nG;have oc:=Z TC;rw[TC]at dy jS c1;have L9:(D.q:Int)-1=1:=O;have zc:0<D.q:=O;have LD:(1:Int)<(D.q:Int):=O;have DC:1<D.q:=O;have am3:=kk;exact aec
    ·rw[hL]at wv nG;have oc:=Z hN2;rw[hN2]at dy jS c1;have L9:(D.q:Int)-1=2:=O;have zc:0<D.q:=O;have LD:(1:Int)<(D.q:Int):=O;have DC:1<D.q:=O;have hpos2:(2:Int)<(D.q:Int):=O;have hpos2n:2<D.q:=O;have am4:=kk;exact aec
  ·have mW:=Z eR;clear eR ju;go_wp2;go_end0;obtain rfl:j=T.q:=O;exact⟨rfl,gi.o _ _ _ _ _ mW.o⟩
theorem ZJ (z:T.y=15)(iQ:∀U:Nd,U.size<T.size->oO U):oO T:=by have an3:=kk;exact wQ
theorem UO (iQ:∀U:Nd,U.size<T.size->oO U):oO T:=by
 have ih:∀i,i<T.q->oO (T.f i):=fun i hi=>iQ _ (by have:=dv T hi;omega);intro K w0 ai s cx w v hS hE hN bI ax jk fT z8;rcases iA ax with h|h|h|h|h|h|h|h|h|h|h|h|h|h|h|h|h
 ·exact st_4 h ih K w0 ai s cx w v hS hE hN bI ax jk fT z8
 ·exact st_5 h K w0 ai s cx w v hS hE hN bI ax jk fT z8
 ·exact st_6 h K w0 ai s cx w v hS hE hN bI ax jk fT z8
 ·exact st_7 h K w0 ai s cx w v hS hE hN bI ax jk fT z8
 ·exact st_8 h K w0 ai s cx w v hS hE hN bI ax jk fT z8
 ·exact st_9 h K w0 ai s cx w v hS hE hN bI ax jk fT z8
 ·exact ZN h ih K w0 ai s cx w v hS hE hN bI ax jk fT z8
 ·rcases AC h ax with⟨hl,I⟩|⟨hl,he,I⟩
  ·exact UQ h hl I ih K w0 ai s cx w v hS hE hN bI ax jk fT z8
  ·exact UP h hl he I ih K w0 ai s cx w v hS hE hN bI ax jk fT z8
 ·exact ZM h K w0 ai s cx w v hS hE hN bI ax jk fT z8
 ·exact ZL h K w0 ai s cx w v hS hE hN bI ax jk fT z8
 ·exact ZK h K w0 ai s cx w v hS hE hN bI ax jk fT z8
 ·exact ZJ h iQ K w0 ai s cx w v hS hE hN bI ax jk fT z8
 ·exact ZI h K w0 ai s cx w v hS hE hN bI ax jk fT z8
 ·exact ZH h K w0 ai s cx w v hS hE hN bI ax jk fT z8
 ·exact ZG h K w0 ai s cx w v hS hE hN bI ax jk fT z8
 ·exact ZF h K w0 ai s cx w v hS hE hN bI ax jk fT z8
 ·exact ZE h K w0 ai s cx w v hS hE hN bI ax jk fT z8
theorem J5 :∀T:Nd,oO T:=by
 have h:∀n:Nat,∀T:Nd,T.size<=n->oO T:=by
  intro n;induction n with
  |zero=>intro T hT;have:=T.size_eq;omega
  |succ n ih=>intro T hT;exact UO fun U hU=>ih U O
 exact fun T=>h _ T lr
def BrS (T:Nd):Prop:=∀(w:World)(v:Value)(hi:Nat),T.R->hi<=w.heap.size->Row 0 hi w T v->
 Calls prog 122 #[T.val v] w fun e w'=>e=.returned (.bool<|gz T)/\Below w.heap.size w w'
theorem Is (T:Nd):gz T=if T.y=17 then true else if T.y=11\/T.y=15 then false else nX (fun i=>gz<|T.f i) T.q:=by cases T<;>rfl
theorem TM (T:Nd)(ih:∀i,i<T.q->BrS (T.f i)):BrS T:=by
 intro w v hi hf gB hr;have hn:=T.I hf;rw[Is];obtain⟨a,cap,rfl,bo,hq⟩:=ar.1 hr;have HR:=Z hq;have HF:=Z hf;have HIH:=Z ih;unfold Nd.val;by_cases sQ:T.y=17
 ·rw[avA sQ,sQ];exact XA
 rw[avo sQ];have h17':(T.y==17)=false:=bn sQ;by_cases nH:T.y=11
 ·rw[avA<|.inl nH];rw[nH]at*
  exact XA
 by_cases rF:T.y=15
 ·rw[avA<|.inr rF];rw[rF]at*
  exact XA
 rw[avo O];have h11':(T.y==11)=false:=bn nH;have h15':(T.y==15)=false:=bn rF;clear hq hr ih sQ nH rF hf;generalize z:T.y=tk at*
 generalize hm:T.E=tn at*
 generalize hs:T.z=ts at*
 clear z hm hs;have dC:Hid (Below w.heap.size w<|w.alloc<|.cells #[.int .i64 tk,.int .i64 tn,.string ts,.slice a T.q cap] 25):=bA;go_enter func122,ntmps122
 go_wp2;go_loopw[3] (fun i wr=>∃j:Nat,j<=T.q/\i=.int .i64 j/\nX (fun i=>gz<|T.f i) j=false/\Below (w.heap.size+1) (w.alloc<|.cells #[.int .i64 tk,.int .i64 tn,.string ts,.slice a T.q cap] 25) wr) (fun i _=>T.q-(intOf i).toNat)
 case atStart=>exact⟨0,avL _,rfl,rfl,by have:=avB (w.heap.size+1)<|w.alloc<|.cells #[.int .i64 tk,.int .i64 tn,.string ts,.slice a T.q cap] 25;exact this⟩
 case round=>
  obtain⟨j,hj,rfl,hany,I⟩:=hrel;have k3:wr.cell? ⟨w.heap.size,3,none⟩=some (.slice a T.q cap):=by
   rw[I.cell (p:=⟨w.heap.size,3,none⟩) aar];simp
  have iY:w.heap.size+1<=wr.heap.size:=by have:=I.size;simpa using this
  have HB:=Z I;have HANY:=Z hany;clear I hany;by_cases be:j<T.q
  ·rcases HR.o with h0|⟨g,off,rfl,h1,h2,h3⟩
   ·omega
   obtain⟨u,e0,e1,e2,e3,hu⟩:=h3 j be;have tg:g<w.heap.size:=O;have Bx:=dC.o.trans<|HB.o.mono<|av8 _;rw[<-Bx.cell (p:=⟨g,_,none⟩) tg]at e0 e1 e2 e3;have HC:=Z<|HIH.o j be wr u hi (Nd.aa HF.o be) O<|ah Bx gB hu;unfold Nd.val at HC;have LY:(j:Int)<(T.q:Int):=O;clear h3 hu Bx;cases YS:gz (T.f j)with
   |true=>
    rw[YS]at HC;have HA:Hid (nX (fun i=>gz<|T.f i) T.q=true):=by
     have bl:∀n,j<n->nX (fun i=>gz<|T.f i) n=true:=by
      intro n hn;induction n with
      |zero=>omega
      |succ n ih=>
       simp only[nX,av2];by_cases e:j=n
       ·subst e;exact .inr YS
       ·exact .inl<|ih O
     exact bl _ be
    clear YS;go_wp2_with(go_at_call 122;refine HC.o.mono ?_;rintro e w1 ⟨rfl,hb1⟩)
    go_ret;exact⟨by rw[HA.o];rfl,dC.o.trans<|(HB.o.mono<|av8 _).trans<|hb1.mono O⟩
   |false=>
    rw[YS]at HC;have HN:Hid (nX (fun i=>gz<|T.f i) (j+1)=false):=by
     unfold Hid;simp only[nX,HANY.o,YS,Bool.or_self]
    clear YS;go_wp2_with(go_at_call 122;refine HC.o.mono ?_;rintro e w1 ⟨rfl,hb1⟩)
    exact⟨⟨j+1,O,by go_num,HN.o,HB.o.trans<|hb1.mono iY⟩,by simp[intOf];omega⟩
  ·go_wp2;go_ret;obtain rfl:j=T.q:=O;exact⟨by rw[HANY.o];rfl,dC.o.trans<|HB.o.mono<|av8 _⟩
theorem WH (T:Nd):BrS T:=by
 induction T with
 |nil=>exact TM _ fun i hi=>absurd hi<|avJ i
 |mk k n s len kids ih=>exact TM _ fun i _=>ih i
def Og (T:Nd):Prop:=∀(w:World)(v:Value)(hi:Nat),T.R->hi<=w.heap.size->Row 0 hi w T v->
 Calls prog 93 #[T.val v] w fun e w'=>e=.returned (.bool<|kO T)/\Below w.heap.size w w'
theorem tv (T:Nd):kO T=if T.y=12\/T.y=21 then true else if T.y=4 then decide (0<T.q)&&kO (T.f<|T.q-1)else if T.y=10 then decide (T.q=3)&&(kO (T.f 1)&&kO (T.f 2))else if T.y=11 then decide (T.q=1)&& !gz (T.f 0)else false:=by cases T<;>rfl
theorem D5 {hi:Nat}(hf:T.R)(hr:Row 0 hi w T v)(ih:∀i,i<T.q->Og (T.f i))(gB:hi<=w.heap.size)(h0:T.q≠0):∃g off cap,v=.slice (some ⟨g,off,none⟩) T.q cap/\g<hi/\(T.q<=cap/\cap<=9223372036854775807)/\∀i,i<T.q->
    ∃u,(∀W,Below w.heap.size w W->W.cell? ⟨g,off+i*4,none⟩=some (.int .i64 (T.f i).y)/\W.cell? ⟨g,off+i*4+1,none⟩=some (.int .i64 (T.f i).E)/\
        W.cell? ⟨g,off+i*4+2,none⟩=some (.string (T.f i).z)/\W.cell? ⟨g,off+i*4+3,none⟩=some u)/\
      ∀W,Below w.heap.size w W->(Calls prog 93 #[.agg #[.int .i64 (T.f i).y,.int .i64 (T.f i).E,.string (T.f i).z,u]] W fun e w'=>e=.returned (.bool<|kO<|T.f i)/\Below W.heap.size W w')/\
        (Calls prog 122 #[.agg #[.int .i64 (T.f i).y,.int .i64 (T.f i).E,.string (T.f i).z,u]] W fun e w'=>e=.returned (.bool<|gz<|T.f i)/\Below W.heap.size W w'):=by
  obtain⟨g,off,cap,hv,hg,hc,z⟩:=jL hr h0;refine⟨g,off,cap,hv,hg,hc,fun i ir=>?_⟩;obtain⟨u,h1,h2⟩:=z i ir;refine⟨u,fun W I=>h1 W<|I.mono gB,fun W I=>⟨?_,?_⟩⟩
  · exact ih i ir W u hi (Nd.aa hf ir) (avK gB I.size)<|ah (I.mono gB) lr h2
  · exact WH (T.f i) W u hi (Nd.aa hf ir) (avK gB I.size)<|ah (I.mono gB) lr h2
theorem en_4 (z:T.y=4)(ih:∀i,i<T.q->Og (T.f i)):Og T:=by
 intro w v hi hf gB hr;have hn:=T.I hf;rw[tv,avo O,avA z];have dC:=Z fun o=>bO w o;have di:=pJ;by_cases h0:T.q=0
 ·obtain⟨a,cap,rfl,bo,hq⟩:=ar.1 hr;unfold Nd.val;rw[z,h0];exact XB
 ·obtain⟨g,off,cap,rfl,hg,bo,aZ⟩:=D5 hf hr ih gB h0;obtain⟨m,hm⟩:∃m,T.q=m+1:=⟨T.q-1,O⟩;obtain⟨u,hc,Tu⟩:=aZ m O;have HC:=Z<|hc _<|dC.o<|.cells #[.int .i64 4,.int .i64 T.E,.string T.z,.slice (some ⟨g,off,none⟩) T.q cap] 25;have HE:=Z fun W I=>(Tu W I).1;unfold Nd.val;rw[z];have zc:(0:Int)<(T.q:Int):=O;have e1:T.q-1=m:=O;have e2:decide (0<T.q)=true:=avR O;have hlm:(T.q:Int)-1=m:=O;have hml:m<T.q:=O;rw[e1,e2,Bool.true_and];clear hr ih hc Tu aZ hf z e1 hm;generalize T.q=axf at*
  generalize T.f m=axe at*
  obtain⟨c0,c1,c2,c3⟩:=HC.o;have kh:g<w.heap.size:=O;generalize kO axe=eb at*
  go_enter func93,ntmps93
  go_wp2_with(go_at_call 93;refine(HE.o _<|dC.o _).mono ?_;rintro e w1 ⟨rfl,hb1⟩)
  exact Xz
theorem en_10 (z:T.y=10)(ih:∀i,i<T.q->Og (T.f i)):Og T:=by
 intro w v hi hf gB hr;have hn:=T.I hf;rw[tv,avo O,avo O,avA z];have dC:=Z fun o=>bO w o;by_cases h0:T.q=3
 ·obtain⟨g,off,cap,rfl,hg,bo,aZ⟩:=D5 hf hr ih gB O;obtain⟨u1,eO,uG⟩:=aZ 1 O;obtain⟨u2,jQ,L6⟩:=aZ 2 O;have fU:=Z eO;have oR:=Z jQ;have tD:=Z fun W I=>(uG W I).1;have NC:=Z fun W I=>(L6 W I).1;unfold Nd.val;rw[z];rw[h0]at*
  have e2:decide (3=3)=true:=J;rw[e2,Bool.true_and];clear hr ih eO uG jQ L6 aZ hf z e2;generalize T.f 1=M1 at*
  generalize T.f 2=M2 at*
  obtain⟨jq,ja,jo,iZ⟩:=fU.o _<|dC.o<|.cells #[.int .i64 10,.int .i64 T.E,.string T.z,.slice (some ⟨g,off,none⟩) 3 cap] 25;simp only[awg]at jq ja jo iZ;have kh:g<w.heap.size:=O;cases hb1:kO M1 with
  |false=>
   rw[hb1]at tD;clear hb1;go_enter func93,ntmps93
   go_wp2_with(go_at_call 93;refine(tD.o _<|dC.o _).mono ?_;rintro e w1 ⟨rfl,hb1⟩)
   exact Xz
  |true=>
   rw[hb1]at tD;clear hb1;have P1:Hid True:=trivial;generalize kO M2=eb at*
   go_enter func93,ntmps93
   go_wp2_with(first
    |(clear P1;go_at_call 93;refine(tD.o _<|dC.o _).mono ?_;rintro e w1 ⟨rfl,hb1⟩;have fH:=(dC.o _).trans<|hb1.mono M;obtain⟨Ah,Ag,vu,vt⟩:=oR.o _ fH;have k3:w1.cell? ⟨w.heap.size,3,none⟩=some (.slice (some ⟨g,off,none⟩) 3 cap):=(hb1.cell (p:=⟨w.heap.size,3,none⟩) M).trans M;have Oc:=Z fH;clear fH hb1)
    |(go_at_call 93;refine(NC.o _ Oc.o).mono ?_;rintro e w2 ⟨rfl,hb2⟩))
   go_ret;exact⟨rfl,Oc.o.trans<|hb2.mono Oc.o.size⟩
 ·obtain⟨a,cap,rfl,bo,hq⟩:=ar.1 hr;unfold Nd.val;have e2:decide (T.q=3)=false:=avP h0;have e3:((T.q:Int)==3)=false:=bn O;exact adS
theorem en_11 (z:T.y=11)(ih:∀i,i<T.q->Og (T.f i)):Og T:=by
 intro w v hi hf gB hr;have hn:=T.I hf;rw[tv,avo O,avo O,avo O,avA z];have dC:=Z fun o=>bO w o;by_cases h0:T.q=1
 ·obtain⟨g,off,cap,rfl,hg,bo,aZ⟩:=D5 hf hr ih gB O;obtain⟨u1,eO,uG⟩:=aZ 0 O;have fU:=Z eO;have tD:=Z fun W I=>(uG W I).2;unfold Nd.val;rw[z];rw[h0]at*
  have e2:decide (1=1)=true:=J;rw[e2,Bool.true_and];clear hr ih eO uG aZ hf z e2;generalize T.f 0=M1 at*
  obtain⟨jq,ja,jo,iZ⟩:=fU.o _<|dC.o<|.cells #[.int .i64 11,.int .i64 T.E,.string T.z,.slice (some ⟨g,off,none⟩) 1 cap] 25;simp only[Nat.zero_mul,Nat.add_zero]at jq ja jo iZ;have kh:g<w.heap.size:=O;generalize gz M1=eb at*
  have hnot:∀(x:Bool)(w:World),(Op.unary .not<|.bool x).run prog w=.ok (.bool<| !x) w:=fun _ _=>rfl;go_enter func93,ntmps93
  go_wp2_with(go_at_call 122;refine(tD.o _<|dC.o _).mono ?_;rintro e w1 ⟨rfl,hb1⟩)
  exact Xz
 ·obtain⟨a,cap,rfl,bo,hq⟩:=ar.1 hr;unfold Nd.val;have e2:decide (T.q=1)=false:=avP h0;have e3:((T.q:Int)==1)=false:=bn O;exact adS
theorem TJ (T:Nd)(ih:∀i,i<T.q->Og (T.f i)):Og T:=by
 by_cases h4:T.y=4
 ·exact en_4 h4 ih
 by_cases kK:T.y=10
 ·exact en_10 kK ih
 by_cases nH:T.y=11
 ·exact en_11 nH ih
 intro w v hi hf gB hr;rw[tv];have dC:=Z fun o=>bO w o;obtain⟨a,cap,rfl,bo,hq⟩:=ar.1 hr;unfold Nd.val;by_cases qM:T.y=12
 ·rw[avA<|.inl qM,qM];exact XB
 by_cases uK:T.y=21
 ·rw[avA<|.inr uK,uK];exact XB
 rw[avo O,avo h4,avo kK,avo nH];have q4:(T.y==4)=false:=bn h4;have q10:(T.y==10)=false:=bn kK;have q11:(T.y==11)=false:=bn nH;have q12:(T.y==12)=false:=bn qM;have q21:(T.y==21)=false:=bn uK;clear hr hq ih h4 kK nH qM uK;generalize T.y=tk at*
 exact Xy
theorem Wp (T:Nd):Og T:=by
 induction T with
 |nil=>exact TJ _ fun i hi=>absurd hi<|avJ i
 |mk k n s len kids ih=>exact TJ _ fun i _=>ih i
def eP (K:SK)(w:World)(r:Int):World:=((w.setCell ⟨K.cb,7,none⟩<|.slice none 0 0).setCell ⟨K.cb,8,none⟩<|.int .i64 1).setCell ⟨K.cb,9,none⟩<|.int .i64 r
theorem lx (K:SK)(w:World)(r:Int)(k:Nat)(h:k≠K.cb):(eP K w r).heap[k]?=w.heap[k]?:=by unfold eP;rw[avz _ ⟨K.cb,9,none⟩ _ k h,avz _ ⟨K.cb,8,none⟩ _ k h,avz _ ⟨K.cb,7,none⟩ _ k h]
theorem lq (K:SK)(w:World)(r:Int):(eP K w r).heap.size=w.heap.size:=by simp[eP,World.setCell]
theorem zv (K:SK)(w:World)(r:Int)(h:K.lo<=K.cb):Below K.lo w (eP K w r):=
 ⟨by simp[eP,World.setCell],by simp[eP,World.setCell],by simp[eP,World.setCell],by rw[lq];exact avF _,fun k z=>lx K w r k O⟩
theorem SS.fresh {outs:Int}(h:SS K w0 ai (.ok (E,X)) ret loops outs w)(r:Int):SS K (eP K w r) none (.ok ([[]],X)) r loops outs (eP K w r):=by have aom:=kk;exact Rn
theorem GQ {outs:Int}{t:TypeId}(h:SS K w0 ai (.ok (E,X)) ret loops outs w)(r:Int)
  (I:Below (w.alloc<|.cells #[.int .i64 T.y,.int .i64 T.E,.string T.z,v] t).heap.size (w.alloc<|.cells #[.int .i64 T.y,.int .i64 T.E,.string T.z,v] t) w1)
  (ha:St w1 (w.alloc<|.cells #[.int .i64 T.y,.int .i64 T.E,.string T.z,v] t).heap.size u T.q (fun i=>(bg T p i:Nat))):
  SS K (eP K w1 r) none (.ok ([[]],X)) r loops outs (eP K w1 r)/\SGo K w (eP K w1 r) none w.heap.size T v u p:=by
 have h1:=(h.alloc<|.cells #[.int .i64 T.y,.int .i64 T.E,.string T.z,v] t).calm I;have be:=h.lt;have iX:=h.ok.cl;have cg:(w.alloc<|.cells #[.int .i64 T.y,.int .i64 T.E,.string T.z,v] t).heap.size=w.heap.size+1:=M;have bz:=I.size;rw[cg]at bz;have fH:Below K.lo w w1:=(h.box _).trans<|I.mono aa1;have oE:Below K.lo w (eP K w1 r):=fH.trans<|zv K w1 r iX;have cQ:∀W σ r' l o,SS K (eP K w1 r) none σ r' l o W->∀k,w.heap.size<=k->k<w1.heap.size->W.heap[k]?=w1.heap[k]?:=by
  intro W σ r' l o hW k jH iR;rw[hW.keep (k:=k) (by rw[lq];exact iR) O O fun e=>by cases e];exact lx K w1 r k O
 refine⟨h1.fresh r,oE,?_,?_,?_⟩
 ·intro W σ r l o hW;have e1:=cQ W σ r l o hW w.heap.size lr O;have e2:w1.heap[w.heap.size]?=some (.cells #[.int .i64 T.y,.int .i64 T.E,.string T.z,v] t):=(I.block _ aa1).trans<|avv w _;rw[e2]at e1;refine⟨?_,?_,?_,?_⟩<;>simp[World.cell?,e1]
 ·have anM:=kk;exact aeq
 ·intro W σ r l o hW;exact oE.trans (hW.below (by rw[lq];omega) fun k z=>by cases z)
theorem UW {σ:CR CS}{outs:Int}(h:SS K w0 ai σ ret loops outs w)(I:Below w.heap.size w w1)(ha:St w1 w.heap.size u T.q (fun i=>(bg T p i:Nat))):
  ∃own1,SS K w1 own1 σ ret loops outs w1/\(∀σ' r l o W,SS K w1 own1 σ' r l o W->SS K w0 ai σ' r l o W)/\
   (T.q≠0->∃g off cap,u=.slice (some ⟨g,off,none⟩) T.q cap/\(T.q<=cap/\cap<=9223372036854775807)/\∀W σ r l o,SS K w1 own1 σ r l o W->∀i,i<T.q->W.cell? ⟨g,off+i,none⟩=some (.int .i64 (bg T p i:Nat)))/\
   ∀W σ r l o,SS K w1 own1 σ r l o W->Below K.lo w W:=by
 have h1:=h.calm I;obtain⟨vv,code,place,deep,zs,vs,qK,_⟩:=h.is;obtain⟨own1,g1,g2,g3,g4⟩:=h1.bQ;have be:=h.lt;have iX:=h.ok.cl;have bz:=I.size;have fH:Below K.lo w w1:=I.mono O;have dd:∀k,own1=some k->k<w.heap.size:=by
  intro k z;obtain⟨Um,c',p',d',z',s',q1,q2,q3⟩:=g1.is;rcases q3 with q3|⟨j,q3,q4⟩
  ·have e1:=q1.av;rw[I.block K.cb be.1,qK.av]at e1;have e3:Um=vv:=by
    injection e1 with e1;injection e1 with e1;have:=congrArg (fun a:Array Value=>a[7]?) e1;simpa[SK.cells]using this.symm
   rw[e3,z]at q3;exact(qK.var.lt k q3).2
  ·have:=(q1.var.lt j q3).2;omega
 have cQ:∀W σ r l o,SS K w1 own1 σ r l o W->∀k,w.heap.size<=k->k<w1.heap.size->W.heap[k]?=w1.heap[k]?:=by
  intro W σ r l o hW k jH iR;exact hW.keep iR O O (fun e=>by have:=dd k e.symm;omega)
 refine⟨own1,g1,g4,?_,?_⟩
 ·have anN:=kk;exact aeq
 ·intro W σ r l o hW;refine fH.trans<|hW.below O fun k z=>?_;have:=(g2 k z).1;have:=h.ok.cu;omega
theorem GO {lo:Nat}(hE:SEnv K w)(hN:SNd K w T v)(ha:St w1 lo u T.q (fun i=>(bg T p i:Nat)))
  (Qk:T.q≠0->∃g off cap,u=.slice (some ⟨g,off,none⟩) T.q cap/\(T.q<=cap/\cap<=9223372036854775807)/\∀W σ r l o,SS K w1 own1 σ r l o W->∀i,i<T.q->W.cell? ⟨g,off+i,none⟩=some (.int .i64 (bg T p i:Nat)))
  (qL:∀W σ r l o,SS K w1 own1 σ r l o W->Below K.lo w W):∃us,pd K w1 own1 T p 0 T.q v u us:=by
 obtain⟨a,cap,hv,hc,_⟩:=ar.1 hN.row;subst hv;by_cases h0:T.q=0
 ·obtain⟨a',ca,hu,eO,jQ,_⟩:=ha;refine⟨fun _=>.tuple #[],⟨⟨a,cap,rfl,hc.1,hc.2,a',ca,hu,eO,jQ,.inl h0⟩,fun W σ r l o hW=>hE.later<|qL W σ r l o hW,fun W σ r l o hW i hi=>by omega⟩⟩
 ·obtain⟨g,off,nR,hv,tg,bo,aZ⟩:=jL hN.row h0;injection hv with e1 e2 e3;subst e1;subst e3;obtain⟨ga,oa,ca,rfl,q9,fI⟩:=Qk h0;refine⟨fun i=>if h:i<T.q then(aZ i h).choose else .tuple #[],⟨⟨_,cap,rfl,bo.1,bo.2,_,ca,rfl,q9.1,q9.2,.inr ⟨g,off,ga,oa,rfl,rfl,fun W σ r l o hW i hi=>?_⟩⟩,fun W σ r l o hW=>hE.later<|qL W σ r l o hW,fun W σ r l o hW i hi=>?_⟩⟩
  ·have hx:=(aZ i hi).choose_spec.1 W<|qL W σ r l o hW;simp only[Nat.zero_add,hi,dif_pos];exact⟨fI W σ r l o hW i hi,hx⟩
  ·have hx:=(aZ i hi).choose_spec.2;simp only[Nat.zero_add,hi,dif_pos];exact(hN.a7 hi hx).later<|qL W σ r l o hW
theorem BF {σ:Type}{f:Nat->σ->CR σ}{s:σ}{e:Int×Nat}(h:forN f j s=.error e):∀{n:Nat},j<=n->forN f n s=.error e:=by
 intro n hn;induction hn with
 |refl=>exact h
 |step _ ih=>simp only[forN,ih];rfl
theorem TG (h:b6 T=true):T.y=2/\1<=T.q/\(∀i,i<T.q-1->(T.f i).q=0/\aK (T.f i).z=true/\1<=(T.f i).E)/\(T.f<|T.q-1).y=4/\(T.f<|T.q-1).U=true/\0<=T.E:=by
 unfold b6 at h;simp only[avw,avy]at h;obtain⟨⟨⟨⟨h1,h2⟩,h3⟩,h4⟩,h5,h6,h7⟩:=h
 refine⟨h1,h4,fun i hi=>?_,h6,h7,h3.1⟩;have:=bj.1 h5 i hi;unfold fh at this;simp only[avw,avy]at this;exact⟨this.2,this.1.1.2,this.1.2.1⟩
def rz (T:Nd)(X:List Int)(n:Nat):CR CS:=forN (ry T) n ([[]],X++[0])
theorem xx (T:Nd)(X:List Int)(n:Nat):rz T X (n+1)=CR.bind (rz T X n) (ry T n):=rfl
theorem EG (y:∀i,i<m->(T.f i).q=0):∀{n:Nat},n<=m->∀s,rz T X n=.ok s->s.2.length=bg T X.length n/\s.1≠[]/\cD s.1<=n/\n<=s.2.length:=by
 intro n;induction n with
 |zero=>
  intro _ s e;injection e with e;subst e;exact⟨by simp[bg,aq],M,by simp[cD],avL _⟩
 |succ n ih=>
  intro hn s e;rw[xx]at e;obtain⟨s0,h1,h2⟩:=bw e;obtain⟨q1,q2,q3,q4⟩:=ih O s0 h1;unfold ry at h2;split at h2
  ·cases h2
  ·injection h2 with h2;subst h2;have hz:(T.f n).size=1:=by rw[(T.f n).size_eq,y n O];rfl
   obtain⟨p1,p2,p3⟩:=oz q2 (T.f n).z (T.f n).E;refine⟨by rw[fx,hz];simp[q1],?_,?_,?_⟩
   ·intro h0;apply q2;have DS:iE s0.1 (T.f n).z (T.f n).E=[]:=h0;rw[DS]at p2;exact awk.1 p2.symm
   ·show cD (iE s0.1 (T.f n).z (T.f n).E)<=_;omega
   ·simp;omega
def DT (F T:Nd)(X:List Int)(E:Sc):CR CS:=CR.bind (uN F T X) fun X'=>.ok (E,X')
theorem Wk {e:Int×Nat}(h:rz T X (T.q-1)=.error e):DT F T X []=.error e:=by unfold DT uN;unfold rz at h;rw[h];rfl
theorem Wj {e:Int×Nat}(h:rz T X (T.q-1)=.ok s1)(h2:iN F (T.f<|T.q-1) ⟨T.E,0,0⟩ 0 (T.f<|T.q-1).q (.ok<|az s1)=.error e)(z:(T.f<|T.q-1).y=4):DT F T X []=.error e:=by unfold DT uN;unfold rz at h;rw[h,CR.an,ou F O];unfold iN at h2;simp only[CR.an,Nat.zero_add]at h2;unfold r6;rw[h2];rfl
theorem Wi {s2:CS}(h:rz T X (T.q-1)=.ok s1)(h2:iN F (T.f<|T.q-1) ⟨T.E,0,0⟩ 0 (T.f<|T.q-1).q (.ok<|az s1)=.ok s2)(z:(T.f<|T.q-1).y=4):DT F T X s2.1=if T.E≠0/\kO (T.f<|T.q-1)=false then .error (9,X.length)else .ok s2:=by unfold DT uN;unfold rz at h;rw[h,CR.an,ou F O];unfold iN at h2;simp only[CR.an,Nat.zero_add]at h2;unfold r6;rw[h2,CR.an];split<;>rfl
theorem DU {o:Obj}{r:Int}(I:Below (w.alloc o).heap.size (w.alloc o) w1):∀W σ r' l o',SS K (eP K w1 r) none σ r' l o' W->Kept (K.S none) w W:=by intro W σ r' l o' h;have h1:Kept (K.S none) w w1:=b9 (((avB _ _).alloc lr o).trans<|I.mono M) _;have h2:Kept (K.S none) w1 (eP K w1 r):=⟨by simp[eP,World.setCell],by simp[eP,World.setCell],by simp[eP,World.setCell],by rw[lq];exact avF _,fun k _ hn=>lx K w1 r k fun e=>hn<|.inl e⟩;exact(h1.trans h2 fun _ _ h=>h).trans h.kept fun _ _ h=>h
def FuS (K:SK)(T:Nd):Prop:=∀(own:Option Nat)(E:Sc)(X:List Int)(ret:Int)(w:World)(v:Value),SS K w own (.ok (E,X)) ret 0 0 w->SEnv K w->SNd K w T v->X.length+T.size<=K.N->
 Calls prog 55 #[.pointer<|some ⟨K.cb,0,none⟩,T.val v,.int .i64 X.length] w fun e w'=>e=.returned (.tuple #[])/\∃w2 vV E',SS K w2 vV (DT K.F T X E') T.E 0 0 w'/\Below K.lo w w'/\Kept (K.S none) w w'
theorem Wh (hF:b6 T=true):FuS K T:=by
 intro own E X ret w v hS hE hN bI;obtain⟨z,hl,P8,wv,nG,YM⟩:=TG hF;have fp:=hS.ok.aR;have be:=hS.lt;have iX:=hS.ok.cl;have hn:=T.I hN.aA;obtain⟨m,hm⟩:∃m,T.q=m+1:=⟨T.q-1,O⟩;have CD:T.q-1=m:=O;obtain⟨g,off,cap,hv,tg,bo,aZ⟩:=jL hN.row O;subst hv;rw[CD]at wv nG;have hfit1:X.length+1<=K.N:=by have:=T.size_eq;omega
 have dy:=Z fun o=>j8 T (w.alloc o) _ K.lo X.length hN.aA aah (ah (hS.box o) lr hN.row) hN.cost O;have jS:=Z fun(w1:World)(u:Value)(t:TypeId)I ha=>GQ (w1:=w1) (T:=T) (v:=.slice (some ⟨g,off,none⟩) T.q cap) (p:=X.length) (u:=u) (t:=t) hS T.E I ha;have FG:=Z fun n(hn:n<=m)=>EG (X:=X) (m:=m) (fun i hi=>(P8 i O).1) hn;have VS:=fm T X.length (i:=m) O;have IS:=Z aZ;have HEV:=Z hE;have HND:=Z hN;have HM:=Z hm;have Y6:=Z fun o w1(I:Below (w.alloc o).heap.size (w.alloc o) w1)=>(hS.alloc o).calm I;have di:=pJ;unfold Nd.val at*
 have HKL:=Z fun i(h:i<T.q)=>fm T X.length h;have L9:(T.q:Int)-1=m:=O;have Tf:m<T.q:=O;have hmI:(m:Int)<(T.q:Int):=O;have HK:=Z z;have zU:=Z CD;have mh:=Z wv;have HBO:=Z nG;clear hS hE hN z P8 aZ hF hm CD wv nG;generalize y:X.length=p at*
 go_enter func55,ntmps55
 go_wp2_with(go_at_call 52;go_loud (refine(dy.o _).mono ?_;rintro e w1 ⟨u,rfl,bF,hb1⟩;obtain⟨bz,eE⟩:=jS.o w1 u _ hb1 bF;have hq:=Y6.o _ w1 hb1;have f7:=hq.free 7;have f8:=hq.free 8;have f9:=hq.free 9;have b1:w1.cell? ⟨w.heap.size,1,none⟩=some (.int .i64 T.E):=(hb1.cell (p:=⟨w.heap.size,1,none⟩) M).trans M;have b3:w1.cell? ⟨w.heap.size,3,none⟩=some (.slice (some ⟨g,off,none⟩) T.q cap):=(hb1.cell (p:=⟨w.heap.size,3,none⟩) M).trans M;have z7:=hq.lt;obtain⟨vv0,code0,place0,deep0,zs0,vs0,dR,_⟩:=hq.is;obtain⟨k0,k1,k2,k3,k4,k5,k6,k7,k8,k9,vM,uz⟩:=dR.cells;obtain⟨ga,oa,ca,rfl,q9,fI⟩:=eE.b4 O;have HKP:=Z<|DU (K:=K) (r:=T.E) hb1;have HG:=Z eE;have iT:=Z fI;have cY:=Z<|bz.take (by show X.length+1<=K.N;rw[y];exact hfit1);clear bz eE hq bF hb1 dR fI))
 go_loopw[8] (fun i wr=>∃n:Nat,n<=m/\i=.int .i64 n/\SS K (eP K w1 T.E) none (rz T X n) T.E 0 0 wr) (fun i _=>m-(intOf i).toNat)
 case atStart=>exact⟨0,avL _,rfl,cY.o⟩
 case round=>
  obtain⟨n,hn',rfl,eR⟩:=hrel;have ju:=HG.o.below _ _ _ _ _ eR;obtain⟨d0,d1,d2,d3⟩:=HG.o.box _ _ _ _ _ eR;cases hq:rz T X n with
  |error e0=>
   rw[hq]at eR;obtain⟨code,k5',hz⟩:=eR.bC;have mW:=Z eR;have HBKK:=Z ju;have HQ:Hid (rz T X (T.q-1)=.error e0):=by unfold Hid;rw[zU.o];exact BF hq hn'
   clear eR hq ju;by_cases be:n<m;all_goals go_wp2
   all_goals go_end0
   all_goals exact⟨rfl,_,none,[],by rw[Wk HQ.o];exact mW.o,HBKK.o,HKP.o _ _ _ _ _ mW.o⟩
  |ok st=>
   obtain⟨I4,Tc,LG,hp4⟩:=FG.o n hn' st hq;rw[hq]at eR;have k5':=eR.a1;by_cases be:n<m
   ·have hnT:n<T.q:=O;have hnI:(n:Int)<(T.q:Int):=O;have xR:=HKL.o n hnT;obtain⟨un,Ab,Bi⟩:=IS.o n hnT;obtain⟨c0,c1,c2,c3⟩:=Ab _ ju;have an:=iT.o _ _ _ _ _ eR n hnT;have hsz0:0<(T.f n).size:=by rw[(T.f n).size_eq];omega
    have ba:=(eR.take O).drew;have Al:=Z<|nP ba (T.f n).z (T.f n).E (bg T p n) Tc (by rw[cr];show cD st.1+1<=_;omega);have HPD:Hid (sG (az st) (T.f n).z (T.f n).E (bg T p n)=ry T n st):=by unfold Hid;rw[<-I4];rfl
    have HQ:=Z hq;rw[HPD.o]at Al;clear eR ba hq ju Ab Bi;go_wp2;go_still_tail 17,di
    go_wp2_with(go_at_call 91;refine Al.o.mono ?_;rintro e w5 ⟨rfl,o6⟩;have oQ:=Z o6;clear o6)
    refine⟨⟨n+1,O,by go_num,?_⟩,by simp[intOf];omega⟩;rw[xx,HQ.o];exact oQ.o
   ·obtain rfl:n=m:=O;have xR:=HKL.o n Tf;obtain⟨uB,hcB,hrB⟩:=IS.o n Tf;obtain⟨aB,cB,huB,hcpB,hqB⟩:=ar.1 hrB;subst huB;have HQB:=Z hqB;obtain⟨c0,c1,c2,c3⟩:=hcB _ ju;have an:=iT.o _ _ _ _ _ eR n Tf;have hNB:=HND.o.a7 Tf hrB;have hsz0:0<(T.f n).size:=by rw[(T.f n).size_eq];omega
    have ba:=(eR.take O).drew;have hNBd:=hNB.later ju.drew;have hEd:=HEV.o.later ju.drew;have Hm:=eR.lt;have HATB:=Z<|j8 (T.f n) wr.drew _ K.lo (bg T p n) hNB.aA (by show K.lo<=wr.heap.size;omega) (ah ju.drew lr hrB) hNB.cost O;have HSA:=Z fun(w3:World)(u3:Value)hb3 YV=>UW (w1:=w3) (T:=T.f n) (u:=u3) (p:=bg T p n) ba hb3 YV;have N7:=Z fun(w3:World)(fk:Option Nat)(u3:Value)(YV:St w3 wr.drew.heap.size u3 (T.f n).q (fun i=>(bg (T.f n) (bg T p n) i:Nat)))DQ DO=>GO (w1:=w3) (own1:=fk) hEd hNBd YV DQ DO;have FK:=Z (fun(w3:World)(fk:Option Nat)(u3:Value)us(hL:pd K w3 fk (T.f n) (bg T p n) 0 (T.f n).q (.slice aB (T.f n).q cB) u3 us)(W:World)(hW:SS K w3 fk (.ok<|az st) T.E 0 0 W)=>rN hL (fun i hi=>J5 _) _ ⟨T.E,0,0⟩ W hW O (fun i hi=>by rw[Nat.zero_add];exact tT mh.o HBO.o i hi) (fun s' e=>by injection e with e;subst e;exact⟨by rw[cr,I4];rfl,Tc⟩) O (fun i hi=>by have:=dv (T.f n) hi;simp only[Nat.zero_add];omega) fun i hi=>by have:=dv (T.f n) hi;simp only[Nat.zero_add];omega);have HEN:=Z fun W(I:Below K.lo w W)=>Wp (T.f n) W _ K.lo hNB.aA (avK O I.size)<|ah I lr hrB;have HQ:Hid (rz T X (T.q-1)=.ok st):=by unfold Hid;rw[zU.o];exact hq
    have R9:=Z fun e h=>Wj (F:=K.F) (e:=e) HQ.o h (by rw[zU.o];exact mh.o);have Zg:=Z fun s2 h=>Wi (F:=K.F) (s2:=s2) HQ.o h (by rw[zU.o];exact mh.o);have Sb:=Z hcB;have fT:K.lo<=wr.heap.size:=O;rw[zU.o,y]at Zg;rw[zU.o]at R9;unfold Nd.val at*
    clear eR ba hq ju hcB hrB hNB hNBd hEd hqB;generalize hpb:bg T p n=pb at*
    have CG:=Z hpb;clear hpb;generalize T.f n=B at*
    cases hτ:iN K.F B ⟨T.E,0,0⟩ 0 B.q (.ok<|az st)with
    |error e0=>
     have Ya:=Z hτ;clear hτ;go_wp2;go_region_held3 (fun W=>W.cell? ⟨w.heap.size,3,none⟩=some (.slice (some ⟨g,off,none⟩) T.q cap)/\W.cell? ⟨g,off+n*4,none⟩=some (.int .i64 B.y)/\W.cell? ⟨g,off+n*4+1,none⟩=some (.int .i64 B.E)/\W.cell? ⟨g,off+n*4+2,none⟩=some (.string B.z)/\W.cell? ⟨g,off+n*4+3,none⟩=some (.slice aB B.q cB)/\W.cell? ⟨ga,oa+n,none⟩=some (.int .i64 (pb:Nat))) (go_keep) (first
      |(go_at_call 52;refine HATB.o.mono ?_;rintro e w3 ⟨u3,rfl,uJ,hb3⟩;obtain⟨fk,dP,pL,DQ,DO⟩:=HSA.o w3 u3 hb3 uJ;obtain⟨us,pG⟩:=N7.o w3 fk u3 uJ DQ DO;have Qg:=pL _ _ _ _ _ dP;obtain⟨d0,d1,d2,d3⟩:=HG.o.box _ _ _ _ _ Qg;obtain⟨c0,c1,c2,c3⟩:=Sb.o _<|HG.o.below _ _ _ _ _ Qg;have an:=iT.o _ _ _ _ _ Qg n Tf;rw[CG.o]at an;have Yb:=Z pG;have YA:=Z pL;have fa:=Z dP;clear dP pL DQ DO pG uJ hb3 Qg)
      |(go_at_call 92;refine(FK.o w3 fk u3 us Yb.o _ fa.o).mono ?_;rw[Ya.o];rintro e w5 ⟨rfl,o6⟩;have DM:=YA.o _ _ _ _ _ o6;obtain⟨d0,d1,d2,d3⟩:=HG.o.box _ _ _ _ _ DM;obtain⟨c0,c1,c2,c3⟩:=Sb.o _ (HG.o.below _ _ _ _ _ DM);have an:=iT.o _ _ _ _ _ DM n Tf;rw[CG.o]at an;obtain⟨code,Vs,hz⟩:=DM.bC;have oQ:=Z DM;have Eo:=Z (HG.o.below _ _ _ _ _ DM);clear o6 DM))
     go_wp2;go_end0;exact⟨rfl,_,none,[],by rw[R9.o _ Ya.o];exact oQ.o,Eo.o,HKP.o _ _ _ _ _ oQ.o⟩
    |ok s2=>
     have Ya:=Z hτ;clear hτ;by_cases h0:T.E=0
     ·have DS:(T.E==0)=true:=avV.2 h0;have h0n:(T.E !=0)=false:=by simp only[bne,DS];rfl
      have H0:=Z h0;clear h0;have amP:=kk;exact ad5
     ·have DS:(T.E==0)=false:=bn h0;have h0n:(T.E !=0)=true:=by simp only[bne,DS];rfl
      have H0:=Z h0;have hnot:∀(x:Bool)(w:World),(Op.unary .not<|.bool x).run prog w=.ok (.bool<| !x) w:=fun _ _=>rfl;clear h0;cases I:kO B with
      |true=>
       have amE:=kk;exact ad2
      |false=>
       have amF:=kk;exact ad2
theorem Ha (n:Nat):madeCells #[Value.int .i64 0] n=(List.replicate n<|Value.int .i64 0).toArray:=by
 apply Array.ext_getElem?;intro i;simp[madeCells];by_cases h:i<n
 ·simp[h,Nat.mod_one]
 ·simp[h]
theorem AZ (n:Nat)(hn:n<=1048576)(w:World):(Instr.makeSlice 68 (.int .i64 (n:Int))<|.int .i64 (n:Int)).run prog w=.ok (.slice (some ⟨w.heap.size,0,none⟩) n n) (w.alloc<|.cells (List.replicate n<|Value.int .i64 0).toArray 3):=by obtain⟨i0,nB,mT,eu,ed⟩:=av0 SU;have:=run_make (P:=prog) w 68 3 i0 (.int .i64 0) underlying68 nB mT .i64 .i64 n n O (Int.le_refl _) (by rw[ed];omega) O;rw[this,eu];simp only[Int.toNat_natCast,Nat.mul_one];rw[show(Value.int .i64 0).cells=#[Value.int .i64 0]from rfl,Ha]
theorem Kept.drew {S:Nat->Prop}{w':World}(h:Kept S w w'):Kept S w w'.drew:=⟨h.os,h.tape,h.output,h.size,h.block⟩
theorem Mh (hF:b6 T=true){X':List Int}(h:uN F T X=.ok X'):X'.length=X.length+T.size:=by
 obtain⟨z,hl,P8,wv,nG,YM⟩:=TG hF;unfold uN at h;obtain⟨s1,h1,h2⟩:=bw h;obtain⟨s2,h3,h4⟩:=bw h2;obtain⟨p1,p2,_,_⟩:=EG (X:=X) (m:=T.q-1) (fun i hi=>(P8 i hi).1) lr s1 h1;obtain⟨_,_,q3,_⟩:=(yW F<|T.f<|T.q-1).ad nG wv _ s1 s2 p2 h3;split at h4
 ·cases h4
 ·injection h4 with h4;subst h4;rw[q3,p1,<-fx,show T.q-1+1=T.q by omega,oB]
def Mj (F:Nd)(n:Nat):CR (List Int):=CR.bind (forN (gH F) F.q ()) fun _=>forN (fun i=>uN F<|F.f i) n [0]
theorem uO (F:Nd)(n:Nat):Mj F (n+1)=CR.bind (Mj F n) (uN F<|F.f n):=by unfold Mj;cases forN (gH F) F.q ()<;>rfl
theorem Qz {e:Int×Nat}(h:Mj F j=.error e):∀{n:Nat},j<=n->Mj F n=.error e:=by
 intro n hn;induction hn with
 |refl=>exact h
 |step _ ih=>rw[uO,ih];rfl
theorem DY (hF:cJ F=true):∀{n:Nat},n<=F.q->∀X,Mj F n=.ok X->X.length=bg F 0 n:=by
 intro n;induction n with
 |zero=>
  intro _ X e;unfold Mj at e;obtain⟨_,_,h2⟩:=bw e;injection h2 with h2;subst h2;rfl
 |succ n ih=>
  intro hn X e;rw[uO]at e;obtain⟨Y,h1,h2⟩:=bw e;rw[Mh (tJ hF O) h2,ih O Y h1,fx]
theorem fnC_0 :(CR.bind (Mj F 0) fun X=>.ok (([]:Sc),X))=CR.bind (forN (gH F) F.q ()) fun _=>.ok ([],[0]):=by unfold Mj;cases forN (gH F) F.q ()<;>rfl
theorem RE (F:Nd)(w:World)(v:Value)(hi:Nat)(hF:cJ F=true)(hf:F.R)(gB:hi<=w.heap.size)(hr:Row 0 hi w F v)(iW:F.cost<=1048576):
    Calls prog 32 #[F.val v] w fun e w'=>∃(K:SK)(w2:World)(vV:Option Nat)(E:Sc)(r:Int),e=.returned (.pointer<|some ⟨K.cb,0,none⟩)/\K.F=F/\K.N=F.size/\w.heap.size<=K.lo/\SS K w2 vV (CR.bind (iJ F) fun X=>.ok (E,X)) r 0 0 w'/\Below w.heap.size w w':=by
  have hz:=F.be;have hn:=F.I hf;have vZ:F.size<=600:=by unfold cJ at hF;simp only[avw,avy]at hF;exact hF.1.1.1.1
  obtain⟨a,cap,hv,bo,hq⟩:=ar.1 hr;subst hv;have HMK:=Z<|AZ F.size O;have hmk:=AZ F.size O;have dC:=Z fun o=>bO w o;have Nr:=Z fun W(I:Below w.heap.size w W)=>ES F W _ hi hf (avK gB I.size) (ah I gB hr) iW;have HRW:=Z fun W(I:Below w.heap.size w W)=>ah I gB hr;unfold Nd.val at*
  have lJ:=Z hr;clear hr hq;go_enter func32,ntmps32
  go_wp2;go_region_held3 (fun W=>W.cell? ⟨w.heap.size,0,none⟩=some (.int .i64 F.y)/\W.cell? ⟨w.heap.size,1,none⟩=some (.int .i64 F.E)/\W.cell? ⟨w.heap.size,2,none⟩=some (.string F.z)/\W.cell? ⟨w.heap.size,3,none⟩=some (.slice a F.q cap)) (go_keep) (first
    | (go_at_call 51;refine(Nr.o _ (dC.o _).drew).mono ?_;rintro e w1 ⟨rfl,hb1⟩;have q0:w1.cell? ⟨w.heap.size,0,none⟩=some (.int .i64 F.y):=(hb1.cell (p:=⟨w.heap.size,0,none⟩) M).trans M;have q1:w1.cell? ⟨w.heap.size,1,none⟩=some (.int .i64 F.E):=(hb1.cell (p:=⟨w.heap.size,1,none⟩) M).trans M;have q2:w1.cell? ⟨w.heap.size,2,none⟩=some (.string F.z):=(hb1.cell (p:=⟨w.heap.size,2,none⟩) M).trans M;have q3:w1.cell? ⟨w.heap.size,3,none⟩=some (.slice a F.q cap):=(hb1.cell (p:=⟨w.heap.size,3,none⟩) M).trans M;have HBS:=Z hb1;clear hb1))
  have ni:Hid (Below w.heap.size w w1):=(dC.o _).drew.trans<|HBS.o.mono M;have z7:w.heap.size+1<=w1.heap.size:=by have:=HBS.o.size;simpa using this
  obtain⟨K,hK⟩:∃K:SK,K=⟨w1.heap.size+1,w1.heap.size,w1.heap.size,w1.heap.size+2,F.size,F,.slice a F.q cap⟩:=⟨_,rfl⟩;obtain⟨Bb,ktb,klo,kup,kN,kF,kfv⟩:K.cb=w1.heap.size+1/\K.tb=w1.heap.size/\K.lo=w1.heap.size/\K.up=w1.heap.size+2/\K.N=F.size/\K.F=F/\K.fv=.slice a F.q cap:=by subst hK;exact⟨rfl,rfl,rfl,rfl,rfl,rfl,rfl⟩
  have hKok:K.Ok:=⟨O,O,O,O,O,O,.inl O⟩;have HS0:Hid (SRaw K ((w1.alloc<|.cells (Array.replicate F.size<|.int .i64 0) 3).alloc<|.cells #[.int .i64 F.y,.int .i64 F.E,.string F.z,.slice a F.q cap,.slice (some ⟨w1.heap.size,0,none⟩) F.size F.size,.int .i64 0,.int .i64 0,.slice none 0 0,.int .i64 0,.int .i64 0,.int .i64 0,.int .i64 0] 71) (.slice none 0 0) 0 0 0 0 0 0 (List.replicate F.size 0) []):=by
    refine⟨?_,?_,by rw[awQ,kN],awa _ _ _ _⟩
    · rw[Bb];have:=avv (w1.alloc<|.cells (Array.replicate F.size<|.int .i64 0) 3)<|.cells #[.int .i64 F.y,.int .i64 F.E,.string F.z,.slice a F.q cap,.slice (some ⟨w1.heap.size,0,none⟩) F.size F.size,.int .i64 0,.int .i64 0,.slice none 0 0,.int .i64 0,.int .i64 0,.int .i64 0,.int .i64 0] 71;simp only[avs]at this;rw[this];unfold SK.cells;rw[kF,kfv,ktb,kN]
    · rw[ktb,avI _ _ _ M,avv];simp
  have hszW:((w1.alloc<|.cells (Array.replicate F.size<|.int .i64 0) 3).alloc<|.cells #[.int .i64 F.y,.int .i64 F.E,.string F.z,.slice a F.q cap,.slice (some ⟨w1.heap.size,0,none⟩) F.size F.size,.int .i64 0,.int .i64 0,.slice none 0 0,.int .i64 0,.int .i64 0,.int .i64 0,.int .i64 0] 71).heap.size=w1.heap.size+2:=M;have VO:K.lo<=K.cb:=O;have hlo2:K.lo<=K.tb:=O;have hup1:K.cb+1<=((w1.alloc<|.cells (Array.replicate F.size<|.int .i64 0) 3).alloc<|.cells #[.int .i64 F.y,.int .i64 F.E,.string F.z,.slice a F.q cap,.slice (some ⟨w1.heap.size,0,none⟩) F.size F.size,.int .i64 0,.int .i64 0,.slice none 0 0,.int .i64 0,.int .i64 0,.int .i64 0,.int .i64 0] 71).heap.size:=O;have hup2:K.tb+1<=((w1.alloc<|.cells (Array.replicate F.size<|.int .i64 0) 3).alloc<|.cells #[.int .i64 F.y,.int .i64 F.E,.string F.z,.slice a F.q cap,.slice (some ⟨w1.heap.size,0,none⟩) F.size F.size,.int .i64 0,.int .i64 0,.slice none 0 0,.int .i64 0,.int .i64 0,.int .i64 0,.int .i64 0] 71).heap.size:=O;have Ek:Hid (Row 0 K.lo w1 F<|.slice a F.q cap):=aY (ah ni.o gB lJ.o) lr O;have zW:Hid (Below K.lo w1<|(w1.alloc<|.cells (Array.replicate F.size<|.int .i64 0) 3).alloc<|.cells #[.int .i64 F.y,.int .i64 F.E,.string F.z,.slice a F.q cap,.slice (some ⟨w1.heap.size,0,none⟩) F.size F.size,.int .i64 0,.int .i64 0,.slice none 0 0,.int .i64 0,.int .i64 0,.int .i64 0,.int .i64 0] 71):=((avB _ _).alloc O _).alloc aah _;have HQ:Hid (∀W,Below K.lo w1 W->W.cell? ⟨w.heap.size,0,none⟩=some (.int .i64 F.y)/\W.cell? ⟨w.heap.size,1,none⟩=some (.int .i64 F.E)/\W.cell? ⟨w.heap.size,2,none⟩=some (.string F.z)/\W.cell? ⟨w.heap.size,3,none⟩=some (.slice a F.q cap)):=by
    intro W I;have hc:∀o,W.cell? ⟨w.heap.size,o,none⟩=w1.cell? ⟨w.heap.size,o,none⟩:=fun o=>I.cell (p:=⟨w.heap.size,o,none⟩) (by show w.heap.size<K.lo;omega);exact⟨(hc _).trans q0,(hc _).trans q1,(hc _).trans q2,(hc _).trans q3⟩
  clear q0 q1 q2 q3;have hkcb:w1.heap.size+1=K.cb:=Bb.symm;simp only[hkcb]at*
  generalize sw:((w1.alloc<|.cells (Array.replicate F.size<|.int .i64 0) 3).alloc<|.cells #[.int .i64 F.y,.int .i64 F.E,.string F.z,.slice a F.q cap,.slice (some ⟨w1.heap.size,0,none⟩) F.size F.size,.int .i64 0,.int .i64 0,.slice none 0 0,.int .i64 0,.int .i64 0,.int .i64 0,.int .i64 0] 71)=W0 at*
  clear sw;have dy:=Z<|j8 F W0 _ K.lo 0 hf (by rw[klo];exact zW.o.size) (ah zW.o lr Ek.o) iW O;unfold Nd.val at dy;rw[show((0:Nat):Int)=0 from rfl]at dy;obtain⟨bx0,bx1,bx2,bx3⟩:=HQ.o W0 zW.o;have HKC:=Z fun(h0:F.q≠0)=>jL Ek.o h0;have HINI:Hid (∀w2,Below W0.heap.size W0 w2->SS K w2 none (.ok ([],[0])) 0 0 0 w2):=fun w2 I=>SS.take (s:=([],[])) ⟨hKok,⟨.slice none 0 0,0,0,0,List.replicate F.size 0,[],HS0.o.calm I,⟨rfl,rfl,rfl,by rw[kN];rfl,avL _,rfl,avL _,avL _⟩,.inl rfl⟩,Kept.refl _ _⟩ (by rw[kN];have:=F.size_eq;show 0+1<=_;omega);have CK:Hid (∀w2,Below W0.heap.size W0 w2->∀W,Kept (K.S none) w2 W->Below K.lo w1 W):=fun w2 I W z=>zW.o.trans ((I.mono O).trans<|z.below aaz fun k h=>by rcases h with h|h|h;omega;omega;cases h);have HATC:Hid (∀w2 u,Below W0.heap.size W0 w2->St w2 W0.heap.size u F.q (fun i=>(bg F 0 i:Nat))->F.q≠0->∃g off cap,u=.slice (some ⟨g,off,none⟩) F.q cap/\(F.q<=cap/\cap<=9223372036854775807)/\∀W,Kept (K.S none) w2 W->∀i,i<F.q->W.cell? ⟨g,off+i,none⟩=some (.int .i64 (bg F 0 i:Nat))):=by
    intro w2 u I ha h0;obtain⟨a1,c1,e1,e2,e3,e4⟩:=ha;rcases e4 with e|⟨g,off,rfl,p1,p2,p3⟩
    · exact absurd e h0
    refine⟨g,off,c1,e1,⟨e2,e3⟩,fun W z i ir=>?_⟩;rw[avt (a:=⟨g,off+i,none⟩)<|z.block g p2 (by rintro(h|h|h);omega;omega;cases h)];exact p3 i ir
  have di:=pJ;clear hKok hK hmk HMK Nr HRW dC HBS;go_wp2_with(go_at_call 52;refine dy.o.mono ?_;rintro e w2 ⟨u,rfl,bF,hb2⟩;have bP:=HINI.o w2 hb2;have hatc:=HATC.o w2 u hb2 bF;obtain⟨y0,y1,y2,y3⟩:=HQ.o w2<|CK.o w2 hb2 w2<|Kept.refl _ _;have k5:=bP.a1;have Dv:∃a' ca,u=.slice a' F.q ca/\F.q<=ca/\ca<=9223372036854775807:=(by obtain⟨z1,z2,z3,z4,z5,_⟩:=bF;exact⟨z1,z2,z3,z4,z5⟩);have eF:=Z bP;have HAT:=Z hatc;have IX:=Z<|CK.o w2 hb2;have HW2:=Z hb2;clear bP hatc bF hb2)
  obtain⟨a',ca,rfl,V6,hca2⟩:=Dv;go_loopw[5] (fun i wr=>∃n:Nat,n<=F.q/\i=.int .i64 n/\SS K w2 none (CR.bind (forN (gH F) n ()) fun _=>.ok ([],[0])) 0 0 0 wr) (fun i _=>F.q-(intOf i).toNat)
  case atStart=>exact⟨0,avL _,rfl,eF.o⟩
  case round=>
    obtain⟨n,hn',rfl,eR⟩:=hrel;have fH:=IX.o _ eR.kept;obtain⟨x0,x1,x2,x3⟩:=HQ.o wr fH;by_cases be:n<F.q
    · have hni:(n:Int)<(F.q:Int):=O;cases hq:forN (gH F) n ()with
      | error e0=>
        rw[hq]at eR;obtain⟨code,k5',hz'⟩:=eR.bC;have HSE:Hid (SS K w2 none (CR.bind (forN (gH F) F.q ()) fun _=>.ok ([],[0])) 0 0 0 wr):=by unfold Hid;rw[BF hq hn'];exact eR
        clear eR hq;exact aes
      | ok un=>
        rw[hq]at eR;have k5':=eR.a1;obtain⟨g,off,nR,Ho,tg,Tt,aZ⟩:=HKC.o O;injection Ho with QN ev2 QM;subst QN;subst QM;obtain⟨ga,oa,ca',hu',hca',fI⟩:=HAT.o O;injection hu' with eu1 eu2 eu3;subst eu1;subst eu3;obtain⟨ud,Ab,Bi⟩:=aZ n be;obtain⟨c0,c1,c2,c3⟩:=Ab _ fH;have an:=fI _ eR.kept n be;have Hm:K.lo<=wr.heap.size:=by have:=eR.lt;omega
        have HFI:=Z<|BK F wr.drew _ K.lo (F.f n).z hf Hm<|ah fH.drew lr Ek.o;unfold Nd.val at HFI;have HNX:Hid (forN (gH F) (n+1) ()=gH F n ()):=by unfold Hid;simp only[forN,hq];rfl
        have mW:=Z eR;have HCN:=Z Ab;have HAVV:=Z fI;by_cases YQ:findF F (F.f n).z=some n
        · have hfi:mQ F (F.f n).z=n:=by unfold mQ;rw[YQ]
          have HTW:Hid (gH F n ()=.ok ()):=by unfold Hid gH;rw[avA YQ]
          rw[hfi]at HFI;clear eR hq Ab Bi aZ fI hfi YQ;go_wp2;go_region_held3 (fun W=>W.cell? ⟨w.heap.size,0,none⟩=some (.int .i64 F.y)/\W.cell? ⟨w.heap.size,1,none⟩=some (.int .i64 F.E)/\W.cell? ⟨w.heap.size,2,none⟩=some (.string F.z)/\W.cell? ⟨w.heap.size,3,none⟩=some (.slice (some ⟨g,off,none⟩) F.q cap)/\W.cell? ⟨g,off+n*4+2,none⟩=some (.string (F.f n).z)) (go_keep) (first
            | (go_at_call 53;refine HFI.o.mono ?_;rintro e w5 ⟨rfl,wk⟩;have o6:=mW.o.drew.calm wk;obtain⟨x0,x1,x2,x3⟩:=HQ.o w5 (IX.o _ o6.kept);obtain⟨c0,c1,c2,c3⟩:=HCN.o _ (IX.o _ o6.kept);have oQ:=Z o6;clear wk o6))
          go_wp2;refine⟨⟨n+1,O,by go_num,?_⟩,by simp[intOf];omega⟩;rw[HNX.o,HTW.o];exact oQ.o
        · have hfi:((mQ F (F.f n).z)==(n:Int))=false:=by
            refine bn fun e=>YQ ?_;unfold mQ at e;cases hx:findF F (F.f n).z with
            | none=>rw[hx]at e;have e':(-1:Int)=n:=e;exact absurd e' O
            | some j => rw[hx]at e;have e':(j:Int)=n:=e;have e2:j=n:=by omega
                        rw[e2]
          have HTW:Hid (gH F n ()=.error (6,bg F 0 n)):=by unfold Hid gH;rw[avo YQ];simp[bg]
          generalize mQ F (F.f n).z=fi at*
          clear eR hq Ab Bi aZ fI YQ;go_wp2;go_region_held3 (fun W=>W.cell? ⟨w.heap.size,0,none⟩=some (.int .i64 F.y)/\W.cell? ⟨w.heap.size,1,none⟩=some (.int .i64 F.E)/\W.cell? ⟨w.heap.size,2,none⟩=some (.string F.z)/\W.cell? ⟨w.heap.size,3,none⟩=some (.slice (some ⟨g,off,none⟩) F.q cap)/\W.cell? ⟨g,off+n*4+2,none⟩=some (.string (F.f n).z)) (go_keep) (first
            | (go_at_call 53;refine HFI.o.mono ?_;rintro e w5 ⟨rfl,wk⟩;have o6:=mW.o.drew.calm wk;obtain⟨x0,x1,x2,x3⟩:=HQ.o w5 (IX.o _ o6.kept);obtain⟨c0,c1,c2,c3⟩:=HCN.o _ (IX.o _ o6.kept);have an:=HAVV.o _ o6.kept n be;have oQ:=Z o6;clear wk o6))
          go_wp2_with(first
            | (go_at_call 54;refine(eM oQ.o 6 J (bg F 0 n)).mono ?_;rintro e w6 ⟨rfl,Cz⟩;have vG:=Z Cz;clear Cz))
          refine⟨⟨n+1,O,by go_num,?_⟩,by simp[intOf];omega⟩;rw[HNX.o,HTW.o];exact vG.o
    · obtain rfl:n=F.q:=O;have HSE:=Z eR;clear eR;exact aes
def Jq (T:Nd):List Int:=if cJ T then(match iJ T with|.ok X=>X|.error _=>[])else[]
def pa (T:Nd):Int:=if cJ T then(match iJ T with|.ok _=>0|.error p=>p.1)else 1
def Ky (T:Nd):Int:=if cJ T then(match iJ T with|.ok _=>0|.error p=>(p.2:Int))else 0
structure Done (T:Nd)(w w':World)(cb:Nat):Prop where
 code:w'.cell? ⟨cb,5,none⟩=some (.int .i64 (match iJ T with|.ok _=>0|.error p=>p.1))
 place:w'.cell? ⟨cb,6,none⟩=some (.int .i64 (match iJ T with|.ok _=>0|.error p=>(p.2:Int)))
 nz:∀p,iJ T=.error p->p.1≠0
 lt:w.heap.size<=cb/\cb<w'.heap.size
 types:∀X,iJ T=.ok X->∃tb,w'.cell? ⟨cb,4,none⟩=some (.slice (some ⟨tb,0,none⟩) X.length X.length)/\w'.ownsRow w.heap.size 3 1 (.slice (some ⟨tb,0,none⟩) X.length X.length) X.length (X.map<|Value.int .i64)
 below:Below w.heap.size w w'
theorem Nc (T:Nd)(w:World)(v:Value)(hi:Nat)(ht:cJ T=true)(hf:T.R)(gB:hi<=w.heap.size)(hr:Row 0 hi w T v)(iW:T.cost<=1048576):
  Calls prog 32 #[T.val v] w fun e w'=>∃cb,e=.returned (.pointer<|some ⟨cb,0,none⟩)/\Done T w w' cb:=by
 refine(RE T w v hi ht hf gB hr iW).mono ?_;rintro e w'⟨K,w2,vV,E,r,rfl,hF,hN,fT,eR,I⟩;have vZ:T.size<=600:=by unfold cJ at ht;simp only[avw,avy]at ht;exact ht.1.1.1.1
 obtain⟨vv,code,place,deep,zs,vs,qK,I6,_⟩:=eR.is;have ax:=eR.ok;have iX:=ax.cl;have htl:=ax.tl;have be:=eR.lt;have hc:∀o,w'.cell? ⟨K.cb,o,none⟩=(K.cells vv code place deep r 0 0)[o]?:=fun o=>avS _ _ _ _ _ (0,0) qK.av;refine⟨K.cb,rfl,?_,?_,?_,⟨O,be.1⟩,?_,I⟩
 ·rw[hc];cases hM:iJ T with
  |ok X=>rw[hM]at I6;obtain⟨h1,_⟩:=I6;subst h1;rfl
  |error p=>rw[hM]at I6;obtain⟨h1,_⟩:=I6;subst h1;rfl
 ·rw[hc];cases hM:iJ T with
  |ok X=>rw[hM]at I6;obtain⟨_,h1,_⟩:=I6;subst h1;rfl
  |error p=>rw[hM]at I6;obtain⟨_,_,h1⟩:=I6;subst h1;rfl
 ·intro p hM;rw[hM]at I6;exact I6.2.1
 ·intro X hM;have hX:X.length=T.size:=by
   have:=DY ht lr X hM;rw[this,oB];omega
  rw[hM]at I6;obtain⟨_,_,_,YH,_⟩:=I6;have hzs':zs=X:=by
   have e:K.N-X.length=0:=O;have hzs2:zs=X++List.replicate (K.N-X.length) 0:=YH;rw[e]at hzs2;simpa using hzs2
  have hNX:K.N=X.length:=O;refine⟨K.tb,?_,M,.inr ⟨K.tb,X.length,_,rfl,?_,qK.cA,avF _,?_,?_,?_⟩⟩
  ·rw[hc,<-hNX];rfl
  ·omega
  ·have:X.length<=600:=O;exact avK this J
  ·subst hzs';simp
  ·subst hzs';rw[Nat.mul_one];exact awe M
end Go.Proofs.YtgcmhaghebhjnaaGreatDoor
