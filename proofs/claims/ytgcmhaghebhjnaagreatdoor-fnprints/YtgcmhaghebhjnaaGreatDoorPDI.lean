import Derived.Test.YtgcmhaghebhjnaaGreatDoorPDE
set_option linter.unusedVariables false
set_option maxHeartbeats 16000000
set_option maxRecDepth 100000
namespace Go.Proofs.YtgcmhaghebhjnaaGreatDoor
open Go.RowKit Tryz List
variable {G :Prop}
theorem acq (h:G:=by
 skip;cases isChan
 ·exact acx
 ·have ajW:=kk;exact acQ):G:=h
theorem acr (h:G:=by
 skip;go_wp2_with fail
 refine(kA Cl sb _ w4.heap.size 0 3 3 _ O O O (by have:=fO.o.src.lt;omega) (fO.o.alloc _).src (ku Cl w4 [⟨#[97]⟩,⟨#[98]⟩,⟨#[120]⟩] 9 (by intro s hs;simp only[avZ,av6,awY]at hs;unfold Cl;rcases hs with rfl|rfl|rfl<;>decide))).mono ?_;rintro e w5⟨sg,mN,rfl,hs,z⟩;have hkA:=(b9 (bO w4 _) (fun k=>k=sb)).trans z (fun _ _ h=>h);clear z;have z:=hkA;clear hkA;have rP:=Z mN.1;have hszS:=mN.2;clear mN;have akM:=kk;exact Rs):G:=h
theorem Rw (h:G:=by exact acx):G:=h
theorem acM (h:G:=by
 skip;go_wp2_with fail
 refine(NX.o _ _ O ft.o 2 O).mono ?_;rintro e w6⟨q,hq,rfl,hs,z⟩;have akX:=kk;exact M6):G:=h
theorem acV (h:G:=by
 skip;go_wp2_with fail
 refine(NX.o _ _ O fR.o 2 O).mono ?_;rintro e w7⟨q,hq,rfl,hs,z⟩;have jx:=Z<|fR.o.step hs z;have Jh:=Z<|bc Ji.o bY z;clear hs z fR Ji;rcases(O:q=0\/q=1)with rfl|rfl
 ·skip;go_wp2_with fail
  refine(Er.o _ _ O jx.o).mono ?_;exact acz
 ·skip;go_wp2_with fail
  refine(IY.o _ _ O jx.o).mono ?_;exact acz):G:=h
theorem ac1 (h:G:=by have Qn:=ae (show a.eval (.tmp 63)=.pointer (some ⟨sb,0,none⟩)from ag bJ bC 0 rfl);obtain⟨g,hg,hx,hc⟩:∃g,w.heap.size+1<=g/\a.eval (.tmp 64)=.slice (some ⟨g,0,none⟩) 2 2/\∀i,i<2->∃s,Cl s/\v.cell? ⟨g,0+i,none⟩=some (.string s):=ag bJ bC 1 rfl;have h64:=ae hx;have HC:=Z hc;clear hx hc;go_simp;refine(kA Cl sb _ g 0 2 2 v O O O O (mW.o.2 (dh de)) HC.o).mono ?_;rintro e v2 ⟨sg,mN,rfl,hs,z⟩;exact dj.o 2 O v2 (Wr.bz z) (mW.o.pick O de hs z) _ ⟨sg,mN,rfl⟩):G:=h
theorem ac2 (h:G:=by have h68:=ae hx;have bl:∀i,i<6->listed.getD i false=true:=fun i hi=>bC.o _ rfl ⟨i,Ground.phase⟩ (by rcases(O:i=0\/i=1\/i=2\/i=3\/i=4\/i=5)with rfl|rfl|rfl|rfl|rfl|rfl<;>simp) rfl;obtain⟨f0,f1,f2,f3,ff⟩:=(mW.o.1.last O de bl).1.1.cells;have N6:=Z (mW.o.store O de bl mN hg gN);clear hx gN bl;go_simp;exact vS.o _ (Wr.cv sb w.heap.size v 5 0 sg (.slice (some ⟨gx,0,none⟩) 1 1)) rfl N6.o):G:=h
theorem ac3 (h:G:=by have hkv:=(mW.o.1.low (show 3<6 by omega) de).2.2;obtain⟨m0,m1,m2,m3⟩:=HM.o;have n0:=tw m0 hkv Ht;have n1:=tw m1 hkv Ht;have n2:=tw m2 hkv Ht;have n3:=tw m3 hkv Ht;clear m0 m1 m2 m3 hkv;go_simp;exact dj.o 3 O v (Wr.ab (avB _ _)) (mW.o.calm O O de (avB _ _)) _ rfl):G:=h
theorem ac4 (h:G:=by have h65:=ae hx;have h67:=ae hy;have gU:=Z gN;clear hx hy gN;go_simp;refine(aV _ _ _ _ _ _).mono ?_;rintro e v2 ⟨rfl,I⟩;exact dj.o 5 O v2 (Wr.ab I) (mW.o.calm O O de I) _ ⟨sg,gx,mN,hg,rfl,aW gU.o I⟩):G:=h
theorem ac5 (h:G:=by have j4:=(mW.o.1.low (show 1<6 by omega) de).2.1.size;go_simp;exact dj.o 1 O _ (Wr.ab (bA)) (mW.o.calm O O de (bA)) _ ⟨v.heap.size,j4,rfl,fun i hi=>ku Cl v [⟨#[99]⟩,⟨#[100]⟩] 9 hNP i hi⟩):G:=h
theorem acs (h:G:=by obtain⟨eC,eD⟩:=HS.o.pre bQ;obtain⟨z0,z1,z2,z3,zf⟩:=al (bc tE.o pI eD);clear eC eD;exact acA):G:=h
theorem acu (h:G:=by rintro e v2 ⟨rfl,I⟩;exact dj.o v2 (kR (Wn.ab I) bQ ba) (HS.o.calm O de J J rfl bQ ba I) _ rfl J):G:=h
theorem acv (h:G:=by go_simp;exact dj.o 4 O _ (Wr.ab (bA)) (mW.o.calm O O de (bA)) _ ⟨v.heap.size,j4,rfl,avv v _⟩):G:=h
theorem acw (h:G:=by go_simp;exact dj.o 0 O v (Wr.ab (avB _ _)) (mW.o.calm O O de (avB _ _)) _ rfl):G:=h
theorem sR (h:G:=by exact acA):G:=h
theorem acx (h:G:=by skip;have akf:=kk;exact acX):G:=h
theorem acy (h:G:=by have ajJ:=kk;exact acJ):G:=h
theorem acz (h:G:=by rintro e w8 ⟨T,uT,rfl,dT⟩;obtain⟨aT,cT,rfl⟩:=bh dT.row;have hs:=dT.src;have z:=dT.kp;have RT:=Z (RW.aI jx.o dT);have akC:=kk;exact Rt):G:=h
theorem acA (h:G:=by go_simp;exact dj.o v (fun _ _ _ h=>h) (HS.o.same O de J J rfl) _ rfl J):G:=h
theorem acB (h:G:=by have ajF:=kk;exact acH):G:=h
theorem acC (h:G:=by exact(vJ.o.a8 (C:=E) RR.o (bR O O J FT.o) (ox O OT.o) aaK).more O):G:=h
theorem acD (h:G:=by exact(jx.o.a8 (C:=E) RR.o (bR O O J FT.o) (ox O OT.o) aaK).more O):G:=h
theorem acE (h:G:=by
 have bJ:=Z fun(j:Nat)(hj:j<7)(hl:listed.getD j false=true)=>hI.bl j hj<|tp hl;have bC:=gT hr;have s0:a.tmps[0]?.getD undef=.pointer (some ⟨sb,0,none⟩):=ae<|hI.keep 0 (by intro i hi;show 0≠(if i<6 then 63+i else 300+i);split<;>omega);have s8:a.tmps[8]?.getD undef=.pointer (some ⟨w.heap.size,0,none⟩):=ae<|hI.keep 8 (by intro i hi;show 8≠(if i<6 then 63+i else 300+i);split<;>omega);have s14:a.tmps[14]?.getD undef=.pointer (some ⟨w5.heap.size,0,none⟩):=ae<|hI.keep 14 (by intro i hi;show 14≠(if i<6 then 63+i else 300+i);split<;>omega);have mW:=Z hS;clear hI hr hS;rcases(O:i=0\/i=1\/i=2\/i=3\/i=4\/i=5\/i=6)with rfl|rfl|rfl|rfl|rfl|rfl|rfl;all_goals(refine gR rfl rfl ?_)
 ·exact acw
 ·exact ac5
 ·exact ac1
 ·exact ac3
 first
 |clear ajz
  ·have j4:=(mW.o.1.low (show 4<6 by omega) de).2.1.size;have h66:=ae<|show a.eval (.tmp 66)=.agg #[.int .i64 26,.int .i64 0,.string ⟨#[]⟩,.slice none 0 0]from ag bJ bC 3 rfl;exact acv
  ·obtain⟨sg,mN,hx⟩:∃s,Cl s/\a.eval (.tmp 65)=.string s:=ag bJ bC 2 rfl;obtain⟨gx,hg,hy,gN⟩:∃gx,w.heap.size+1<=gx/\a.eval (.tmp 67)=.slice (some ⟨gx,0,none⟩) 1 1/\v.heap[gx]?=some (SH (aC 26 0 ⟨#[]⟩)<|.slice none 0 0):=ag bJ bC 4 rfl;exact ac4
  ·obtain⟨sg,gx,mN,hg,hx,gN⟩:∃s gx,Cl s/\w.heap.size+1<=gx/\a.eval (.tmp 68)=.agg #[.int .i64 5,.int .i64 0,.string s,.slice (some ⟨gx,0,none⟩) 1 1]/\v.heap[gx]?=some (SH (aC 26 0 ⟨#[]⟩)<|.slice none 0 0):=ag bJ bC 5 rfl;exact ac2
 |clear ajA
  ·have j4:=(mW.o.1.low (show 4<6 by omega) de).2.1.size;have h66:=ae<|show a.eval (.tmp 66)=.agg #[.int .i64 26,.int .i64 0,.string ⟨#[]⟩,.slice (some ⟨g,0,none⟩) 1 cap]from ag bJ bC 3 rfl;exact acv
  ·obtain⟨sg,mN,hx⟩:∃s,Cl s/\a.eval (.tmp 65)=.string s:=ag bJ bC 2 rfl;obtain⟨gx,hg,hy,gN⟩:∃gx,w.heap.size+1<=gx/\a.eval (.tmp 67)=.slice (some ⟨gx,0,none⟩) 1 1/\v.heap[gx]?=some (SH (cq 26 0 ⟨#[]⟩<|aC 22 q ⟨#[]⟩)<|.slice (some ⟨g,0,none⟩) 1 cap):=ag bJ bC 4 rfl;exact ac4
  ·obtain⟨sg,gx,mN,hg,hx,gN⟩:∃s gx,Cl s/\w.heap.size+1<=gx/\a.eval (.tmp 68)=.agg #[.int .i64 5,.int .i64 0,.string s,.slice (some ⟨gx,0,none⟩) 1 1]/\v.heap[gx]?=some (SH (cq 26 0 ⟨#[]⟩ (aC 22 q ⟨#[]⟩)) (.slice (some ⟨g,0,none⟩) 1 cap)):=ag bJ bC 5 rfl;exact ac2):G:=h
theorem acF (h:G:=by
 skip;go_wp2_with fail
 refine(zY.o _ _ O ft.o).mono ?_;have ajL:=kk;exact acK):G:=h
theorem acG (h:G:=by
 skip;go_wp2_with fail
 refine(zY.o _ _ O fR.o).mono ?_;have ajK:=kk;exact acJ):G:=h
theorem acH (h:G:=by have ajM:=kk;exact acK):G:=h
theorem acI (h:G:=by rintro e w5 ⟨T,uT,rfl,dT⟩;obtain⟨aT,cT,rfl⟩:=bh dT.row;have hs:=dT.src;have z:=dT.kp;have RT:=Z (RW.aI fO.o dT);have akz:=kk;exact Rt):G:=h
theorem acJ (h:G:=by rintro e w7 ⟨T,uT,rfl,dT⟩;obtain⟨aT,cT,rfl⟩:=bh dT.row;have hs:=dT.src;have z:=dT.kp;have RT:=Z (RW.aI fR.o dT);have akB:=kk;exact Rt):G:=h
theorem acK (h:G:=by rintro e w6 ⟨T,uT,rfl,dT⟩;obtain⟨aT,cT,rfl⟩:=bh dT.row;have hs:=dT.src;have z:=dT.kp;have RT:=Z (RW.aI ft.o dT);have akA:=kk;exact Rt):G:=h
theorem acL (h:G:=by have aj1:=kk;exact acR):G:=h
theorem acN (h:G:=by have aj3:=kk;exact acS):G:=h
theorem acO (h:G:=by
 have rP:=Z mN.1;have hszS:=mN.2;rw[gh (n:=7) cg mP cQ];generalize (fun i=>a.eval<|.tmp<|if i<6 then 63+i else 300+i)=ff;clear cg mP cQ fP hS bl hl hl7 eC eD mN gN;simp only[jV,Act.put,Nat.reduceLT,if_true,if_false,Nat.reduceAdd,setIfInBounds_toArray,set_cons_succ,set_cons_zero];go_wp2;first
 |clear ajR
  refine avr (ND.o.read results49 rfl _ _ _ _) rfl ⟨cq 5 0 sg<|aC 26 0 ⟨#[]⟩,_,rfl,?_⟩;exact(ND.o.a8 (C:=E) RR.o (bR O O O<|aO O O J) (ow (.inl rfl) rP.o Ii) (by rw[cO,bH];omega)).more O
 |clear ajS
  refine avr (ND.o.read results49 rfl _ _ _ _) rfl ⟨cq 5 0 sg (cq 26 0 ⟨#[]⟩ (aC 22 q ⟨#[]⟩)),_,rfl,?_⟩;exact(ND.o.a8 (C:=E) RR.o (bR O O O (bR O O J (aO O O J))) (ow (.inl rfl) rP.o (Ih (j6 O))) (by rw[cO,cO,bH];omega)).more O):G:=h
theorem acP (h:G:=by
 skip;go_wp2_with fail
 refine(cM _ _ _ _ _ _ _).mono ?_;rintro e w7⟨rfl,I⟩;have jx:=Z<|fR.o.calm I;have Jh:=Z<|aW Ji.o I;clear I fR Ji;have cg:ByteArray.size ⟨#[]⟩=0:=J;obtain⟨f0,f1,f2,f3,ff⟩:=jx.o.cells;go_wp2;first
 |clear ajT
  refine avr (jx.o.read results49 rfl _ _ _ _) rfl ⟨aC 17 0 ⟨#[]⟩,.slice none 0 0,rfl,?_⟩;exact(jx.o.a8 (C:=E) (RW.leaf w _ 17 0 ⟨#[]⟩) (aO O O J) (EF O) aa2).more O
 |clear ajU
  refine avr (jx.o.read results49 rfl _ _ _ _) rfl ⟨aC 18 0 ⟨#[]⟩,.slice none 0 0,rfl,?_⟩;exact(jx.o.a8 (C:=E) (RW.leaf w _ 18 0 ⟨#[]⟩) (aO O O J) (EF O) aa2).more O):G:=h
theorem acQ (h:G:=by have akR:=kk;exact Rr):G:=h
theorem XQ (h:G:=by have aka:=kk;exact acU):G:=h
theorem acR (h:G:=by
 have bM:=(bO w7<|.cells #[.int .i64 T.y,.int .i64 T.E,.string T.z,.slice aT T.q cT] 25).trans<|I.mono M;clear I;have I:=bM;clear bM;have vJ:=Z<|jx.o.calm I;have CB8:=Z<|aW Jh.o I;clear I jx Jh;first
 |clear aj0
  go_wp2_with fail
  refine(aV _ _ _ _ _ _).mono ?_;rintro e w9⟨rfl,I⟩;have RR:=Z<|RW.one (A:=cq 25 0 ⟨#[115,104,111,119]⟩ T) vJ.o.size R1.o (I.mono M) 14 0 ⟨#[]⟩;have bM:=(bO w8<|.cells #[.int .i64 25,.int .i64 0,.string ⟨#[115,104,111,119]⟩,.slice (some ⟨w7.heap.size,0,none⟩) 1 1] 25).trans<|I.mono M;have akK:=kk;exact XK
 |clear aj1
  clear RT;have cg:ByteArray.size ⟨#[]⟩=0:=J;obtain⟨f0,f1,f2,f3,ff⟩:=vJ.o.cells;go_wp2;first
  |clear ajN
   refine avr (vJ.o.read results49 rfl _ _ _ _) rfl ⟨cq 20 0 ⟨#[]⟩ T,.slice (some ⟨w7.heap.size,0,none⟩) 1 1,rfl,?_⟩;exact acC
  |clear ajO
   refine avr (vJ.o.read results49 rfl _ _ _ _) rfl ⟨cq 21 0 ⟨#[]⟩ T,.slice (some ⟨w7.heap.size,0,none⟩) 1 1,rfl,?_⟩;exact acC):G:=h
theorem acS (h:G:=by
 have bM:=(bO w6<|.cells #[.int .i64 T.y,.int .i64 T.E,.string T.z,.slice aT T.q cT] 25).trans<|I.mono M;clear I;have I:=bM;clear bM;have jx:=Z<|fR.o.calm I;have Jh:=Z<|aW Ji.o I;clear I fR Ji;first
 |clear aj2
  go_wp2_with fail
  refine(aV _ _ _ _ _ _).mono ?_;rintro e w8⟨rfl,I⟩;have RR:=Z<|RW.one (A:=cq 25 0 ⟨#[115,104,111,119]⟩ T) jx.o.size R1.o (I.mono M) 14 0 ⟨#[]⟩;have bM:=(bO w7<|.cells #[.int .i64 25,.int .i64 0,.string ⟨#[115,104,111,119]⟩,.slice (some ⟨w6.heap.size,0,none⟩) 1 1] 25).trans<|I.mono M;clear I;have I:=bM;clear bM;have vJ:=Z<|jx.o.calm I;have CB8:=Z<|aW Jh.o I;clear I jx Jh;clear R1 RT;have cg:ByteArray.size ⟨#[]⟩=0:=J;have vZ:ByteArray.size ⟨#[115,104,111,119]⟩<=10:=J;obtain⟨f0,f1,f2,f3,ff⟩:=vJ.o.cells;go_wp2;refine avr (vJ.o.read results49 rfl _ _ _ _) rfl ⟨cq 14 0 ⟨#[]⟩<|cq 25 0 ⟨#[115,104,111,119]⟩ T,.slice (some ⟨w7.heap.size,0,none⟩) 1 1,rfl,?_⟩;exact(vJ.o.a8 (C:=E) RR.o (bR O O J<|bR O O J FT.o) (yP O rfl<|yj J OT.o) (by rw[cO,cO];omega)).more O
 |clear aj3
  clear RT;have cg:ByteArray.size ⟨#[]⟩=0:=J;obtain⟨f0,f1,f2,f3,ff⟩:=jx.o.cells;go_wp2;first
  |clear ajP
   refine avr (jx.o.read results49 rfl _ _ _ _) rfl ⟨cq 21 0 ⟨#[]⟩ T,.slice (some ⟨w6.heap.size,0,none⟩) 1 1,rfl,?_⟩;exact acD
  |clear ajQ
   refine avr (jx.o.read results49 rfl _ _ _ _) rfl ⟨cq 20 0 ⟨#[]⟩ T,.slice (some ⟨w6.heap.size,0,none⟩) 1 1,rfl,?_⟩;exact acD):G:=h
theorem acT (h:G:=by
 intro a v cg mP cQ wu fP;obtain⟨l,hl,hS,bl⟩:=wu;have hl7:l.size=7:=hl;obtain⟨v0,sg,gx,⟨eC,eD⟩,mN,hg,gN,rfl⟩:=hS.1.2.2<|getD_in O<|bl 6 (by show 6<7;omega);have ND:=Z eC;first
 |clear aj4
  have RR:=Z<|EI (A:=aC 26 0 ⟨#[]⟩) hg gN (RW.step HRM.o (fR.o) eD) 5 0 sg;have ajR:=kk;exact acO
 |clear aj5
  have RR:=Z (EI (A:=cq 26 0 ⟨#[]⟩ (aC 22 q ⟨#[]⟩)) hg gN (RW.step HRM.o (Jf.o) eD) 5 0 sg);have ajS:=kk;exact acO):G:=h
theorem Rv (h:G:=by have aks:=kk;exact Ru):G:=h
theorem acU (h:G:=by have aku:=kk;exact Ru):G:=h
theorem acW (h:G:=by skip;have akr:=kk;exact ac0):G:=h
theorem acX (h:G:=by
 go_wp2_with fail
 refine(NX.o _ _ O fO.o 2 O).mono ?_;rintro e w5⟨q,hq,rfl,hs,z⟩;have akP:=kk;exact Rs):G:=h
theorem acY (h:G:=by have akt:=kk;exact Ru):G:=h
theorem XP (h:G:=by
 have bQ:=eB (f:=40) (j:=11) ml.o aaf de;have ba:=eB (f:=40) (j:=13) ml.o aaf de;obtain⟨eC,eD⟩:=HS.o.pre bQ;first
 |clear aki
  go_simp;refine(ep sb _ 3 v O O eC.src).mono ?_;rintro e v2⟨q2,jP,rfl,hs,z⟩;exact dj.o v2 (zQ (Wn.bz z S7) bQ ba) (HS.o.ask O O de J J bQ ba hs z) _ ⟨q2,O,rfl⟩ J
 |clear akj
  have htu:vL (fun i=>if i=7 then 3 else if i=9 then 2*K+10 else 0) l 14+(2*K+10)<=2*K+13:=by have:=yF (asks:=fun i=>if i=7 then 3 else if i=9 then 2*K+10 else 0) (n:=14) (i:=9) (dh de) O;rw[lT]at this;exact this
  have HSV:=Z<|SC.o _ v eC;have j4:=eD.size;clear hx;go_simp;refine(vw Jk.o sb _ n q2 (.slice va n vc) loops v O O O eC.src HSV.o).mono ?_;rintro e v2⟨T2,u2,rfl,d2⟩;obtain⟨a2,c2,rfl⟩:=bh d2.row;exact dj.o v2 (zQ (Wn.bz d2.kp S7) bQ ba) (HS.o.ask O O de J J bQ ba d2.src d2.kp) _ ⟨T2,a2,c2,⟨d2.aA,rK NU d2.ok.1,d2.cost⟩,rfl,aY d2.row j4 lr⟩ J
 |clear akk
  have El:=Z qg;have j4:=eD.size;clear hx qg;go_simp;exact dj.o _ (zQ (Wn.ab (bA)) bQ ba) (HS.o.calm O de J J rfl bQ ba (bA)) _ ⟨cq 0 0 ⟨#[]⟩ T2,_,_,⟨T2,Tc,rfl⟩,rfl,LV.one j4 El.o⟩ J):G:=h
theorem XO (h:G:=by have akv:=kk;exact Ru):G:=h
theorem acZ (h:G:=by
 go_upto_region 12 with fail
 have hNP:∀s∈([⟨#[99]⟩,⟨#[100]⟩]:List ByteArray),Cl s:=by intro s hs;simp only[avZ,av6,awY]at hs;unfold Cl;rcases hs with rfl|rfl<;>decide
 first
 |clear ako
  have hsrcW:=fR.o.low;have DJ:prog.follows Departure.mixedOrders=true:=aaf;have HRM:=Z<|RW.leaf w w6 26 0 ⟨#[]⟩;have HM:=Z<|And.intro m0<|And.intro m1<|And.intro m2 m3;clear m0 m1 m2 m3;refine jt DJ aaf (fun i=>(if i<6 then 63+i else 300+i)) (Y2 (w.heap.size+1) sb (aC 26 0 ⟨#[]⟩)<|.slice none 0 0) (S12 sb _ w w6 (aC 26 0 ⟨#[]⟩)<|.slice none 0 0) (S12.start (aC 26 0 ⟨#[]⟩) (.slice none 0 0)<|fR.o) ?_ ?_
  ·intro listed a v i hI hr;have I7:i<7:=(bx hr).1;have de:=(bx hr).2;have hS:=hI.s;have DK:listed.size=7:=hI.aU;have dj:=Z fun(i:Nat)(hi:i<6)(v':World)(hw:Wr sb w.heap.size v v')(kJ:S12 sb _ w w6 (aC 26 0 ⟨#[]⟩) (.slice none 0 0) (listed.setIfInBounds i true) v')(x:Value)(hx:Y2 (w.heap.size+1) sb (aC 26 0 ⟨#[]⟩) (.slice none 0 0) i v' x)=>hI.c7 (w':=v') (fun i j hi hj h=>by have:i<7:=hi;have:j<7:=hj;have h':(if i<6 then 63+i else 300+i)=(if j<6 then 63+j else 300+j):=h;split at h'<;>split at h'<;>omega) (i:=i) aaQ (mJ hw O O) kJ (show i<7 by omega) hx;have vS:=Z fun(v':World)(hw:Wr sb w.heap.size v v')(h6:i=6)(kJ:S12 sb _ w w6 (aC 26 0 ⟨#[]⟩) (.slice none 0 0) (listed.setIfInBounds i true) v')=>hI.none (w':=v') (mJ hw O O) kJ I7 (by intro x;subst h6;exact trivial);have ajz:=kk;exact acE
  ·have aj4:=kk;exact acT
 |clear akp
  have hsrcW:=Jf.o.low;have DJ:prog.follows Departure.mixedOrders=true:=aaf;have HRM:=Z<|RX.o;have HM:=Z<|And.intro m0<|And.intro m1<|And.intro m2 m3;clear m0 m1 m2 m3;refine jt DJ aaf (fun i=>(if i<6 then 63+i else 300+i)) (Y2 (w.heap.size+1) sb (cq 26 0 ⟨#[]⟩<|aC 22 q ⟨#[]⟩)<|.slice (some ⟨g,0,none⟩) 1 cap) (S12 sb _ w wc (cq 26 0 ⟨#[]⟩<|aC 22 q ⟨#[]⟩)<|.slice (some ⟨g,0,none⟩) 1 cap) (S12.start (cq 26 0 ⟨#[]⟩<|aC 22 q ⟨#[]⟩) (.slice (some ⟨g,0,none⟩) 1 cap)<|Jf.o) ?_ ?_
  ·intro listed a v i hI hr;have I7:i<7:=(bx hr).1;have de:=(bx hr).2;have hS:=hI.s;have DK:listed.size=7:=hI.aU;have dj:=Z fun(i:Nat)(hi:i<6)(v':World)(hw:Wr sb w.heap.size v v')(kJ:S12 sb _ w wc (cq 26 0 ⟨#[]⟩<|aC 22 q ⟨#[]⟩) (.slice (some ⟨g,0,none⟩) 1 cap) (listed.setIfInBounds i true) v')(x:Value)(hx:Y2 (w.heap.size+1) sb (cq 26 0 ⟨#[]⟩<|aC 22 q ⟨#[]⟩) (.slice (some ⟨g,0,none⟩) 1 cap) i v' x)=>hI.c7 (w':=v') (fun i j hi hj h=>by have:i<7:=hi;have:j<7:=hj;have h':(if i<6 then 63+i else 300+i)=(if j<6 then 63+j else 300+j):=h;split at h'<;>split at h'<;>omega) (i:=i) aaQ (mJ hw O O) kJ (show i<7 by omega) hx;have vS:=Z fun(v':World)(hw:Wr sb w.heap.size v v')(h6:i=6)(kJ:S12 sb _ w wc (cq 26 0 ⟨#[]⟩<|aC 22 q ⟨#[]⟩) (.slice (some ⟨g,0,none⟩) 1 cap) (listed.setIfInBounds i true) v')=>hI.none (w':=v') (mJ hw O O) kJ I7 (by intro x;subst h6;exact trivial);have ajA:=kk;exact acE
  ·have aj5:=kk;exact acT):G:=h
theorem ac0 (h:G:=by
 go_wp2_with fail
 refine(CH.o _ _ O fO.o 3 O).mono ?_;have aky:=kk;exact XN):G:=h
theorem Ru (h:G:=by
 have bQ:=eB (f:=40) (j:=15) ml.o aaf de;have ba:=eB (f:=40) (j:=15) ml.o aaf de;obtain⟨eC,eD⟩:=HS.o.pre bQ;first
 |clear aks
  go_simp;refine(aV _ _ _ _ _ _).mono ?_;rintro e v2⟨rfl,I⟩;first
  |clear aj6
   exact dj.o v2 (kR (Wn.ab I) bQ ba) (HS.o.calm O de J J rfl bQ ba I) _ (TV.node (P:=fun _=>True) 5 0 ⟨#[105]⟩ rfl<|(Wn.ab I).row HR.o) J
  |clear aj7
   exact dj.o v2 (kR (Wn.ab I) bQ ba) (HS.o.calm O de J J rfl bQ ba I) _ (TV.node (P:=fun _=>True) 28 0 ⟨#[60]⟩ ⟨q2,jP,rfl⟩<|(Wn.ab I).row HR.o) J
  |clear aj8
   exact dj.o v2 (kR (Wn.ab I) bQ ba) (HS.o.calm O de J J rfl bQ ba I) _ (TV.node (P:=fun _=>True) 11 0 ⟨#[]⟩ ⟨q2,jP,rfl⟩<|(Wn.ab I).row HR.o) J
  |clear aj9
   exact dj.o v2 (kR (Wn.ab I) bQ ba) (HS.o.calm O de J J rfl bQ ba I) _ (TV.node (P:=fun _=>True) 4 0 ⟨#[]⟩ ⟨q2,jP,rfl⟩<|(Wn.ab I).row HR.o) J
 |clear akt
  go_simp;refine(lg _ _).mono ?_;first
  |clear akg
   rintro e v2⟨rfl,I⟩;exact dj.o v2 (kR (Wn.ab I) bQ ba) (HS.o.calm O de J J rfl bQ ba I) _ ⟨q2,jP,rfl⟩ J
  |clear akh
   exact acu
 |clear aku
  have j4:w.heap.size+1<=v.heap.size:=by have:=eD.size;omega
  first
  |clear aka
   go_simp;first
   |clear ajX
    exact dj.o _ (kR (Wn.ab<|bA) bQ ba) (HS.o.calm O de J J rfl bQ ba<|bA) _ ⟨cq 0 0 ⟨#[]⟩<|aC 22 0 ⟨#[]⟩,_,_,rfl,rfl,LV.one (A:=aC 22 0 ⟨#[]⟩) j4<|eQ _ _ _ _ _ _⟩ J
   |clear ajY
    exact dj.o _ (kR (Wn.ab<|bA) bQ ba) (HS.o.calm O de J J rfl bQ ba<|bA) _ ⟨dV 0 0 ⟨#[]⟩ (aC 24 0 ⟨#[105]⟩)<|aC 22 (1+(q2:Int)) ⟨#[]⟩,_,_,⟨q2,jP,rfl⟩,rfl,LV.two (A:=aC 24 0 ⟨#[105]⟩) (B:=aC 22 (1+(q2:Int)) ⟨#[]⟩) j4 (eQ _ _ _ _ _ _)<|eQ _ _ _ _ _ _⟩ J
   |clear ajZ
    exact dj.o _ (kR (Wn.ab<|bA) bQ ba) (HS.o.calm O de J J rfl bQ ba<|bA) _ ⟨dV 0 0 ⟨#[]⟩ vh<|zw q2<|cC dp TB,_,_,⟨q2,jP,rfl⟩,rfl,LV.two (A:=vh) (B:=zw q2<|cC dp TB) j4 El.o HR.o⟩ J
  |clear akb
   have Ek:=Z<|aY (iB RL.o O lr eD) lr eD.size;go_simp;exact dj.o _ (kR (Wn.ab<|bA) bQ ba) (HS.o.calm O de J J rfl bQ ba<|bA) _ ⟨dV 0 0 ⟨#[]⟩ (nQ q2)<|cC dp TB,_,_,⟨q2,jP,rfl⟩,rfl,LV.two (A:=nQ q2) (B:=cC dp TB) j4 HR.o Ek.o⟩ J
 |clear akv
  first
  |clear akl
   go_simp;refine(aV _ _ _ _ _ _).mono ?_;exact acu
  |clear akm
   go_simp;refine(ep sb _ 3 v O O eC.src).mono ?_;rintro e v2⟨q2,jP,rfl,hs,z⟩;exact dj.o v2 (kR (Wn.bz z hsb56) bQ ba) (HS.o.ask O O de J J bQ ba hs z) _ ⟨q2,O,rfl⟩ J
  |clear akn
   obtain⟨z0,z1,z2,z3,zf⟩:=al (bc Jg.o pI eD);clear eC eD;exact sR):G:=h
theorem XN (h:G:=by rintro e w5 ⟨t,rfl,hs,z⟩;have akN:=kk;exact Rs):G:=h
theorem Rt (h:G:=by
 have FT:=Z dT.aA;have OT:=Z dT.ok.1;have qT:=dT.ok.2;have zj:=dT.cost;have E8:=Nd.I dT.aA;clear dT;first
 |clear akz
  have akO:=kk;exact Rs
 |clear akA
  have akW:=kk;exact M6
 |clear akB
  have jx:=Z<|fR.o.step hs z;have Jh:=Z<|bc Ji.o bY z;clear hs z fR Ji;unfold Nd.val;go_wp2_with fail
  first
  |clear ajJ
   refine(aV _ _ _ _ _ _).mono ?_;rintro e w8⟨rfl,I⟩;have RR:=Z<|RW.one (A:=T) jx.o.size RT.o (I.mono M) 20 0 ⟨#[]⟩;have ajN:=kk;exact acL
  |clear ajK
   first
   |clear ajD
    refine(aV _ _ _ _ _ _).mono ?_;rintro e w8⟨rfl,I⟩;have RR:=Z<|RW.one (A:=T) jx.o.size RT.o (I.mono M) 21 0 ⟨#[]⟩;have ajO:=kk;exact acL
   |clear ajE
    refine(nS _ _ _ _ _).mono ?_;rintro e w8⟨rfl,I⟩;have R1:=Z<|RW.one (A:=T) jx.o.size RT.o (I.mono M) 25 0 ⟨#[115,104,111,119]⟩;have aj0:=kk;exact acR
 |clear akC
  have vJ:=Z<|jx.o.step hs z;have CB8:=Z<|bc Jh.o bY z;clear hs z jx Jh;unfold Nd.val;go_wp2_with fail
  refine(aV _ _ _ _ _ _).mono ?_;rintro e w9⟨rfl,I⟩;have RR:=Z (RW.one (A:=T) vJ.o.size RT.o (I.mono M) 20 0 ⟨#[]⟩);have bM:=(bO w8 (.cells #[.int .i64 T.y,.int .i64 T.E,.string T.z,.slice aT T.q cT] 25)).trans (I.mono M);have akL:=kk;exact XK):G:=h
theorem XM (h:G:=by
 have bQ:=eB (f:=40) (j:=4) ml.o aaf de;have ba:=eB (f:=40) (j:=6) ml.o aaf de;first
 |clear akD
  exact acs
 |clear akE
  obtain⟨eC,eD⟩:=HS.o.pre bQ;go_simp;refine(cM _ _ _ _ _ _ _).mono ?_;rintro e v2⟨rfl,I⟩;exact dj.o v2 (Ec (Wn.ab I) bQ ba) (HS.o.calm O de J J rfl bQ ba I) _ rfl J
 |clear akF
  obtain⟨eC,eD⟩:=HS.o.pre bQ;have j4:=eD.size;go_simp;exact dj.o _ (Ec (Wn.ab (bA)) bQ ba) (HS.o.calm O de J J rfl bQ ba (bA)) _ (GV.new (A:=dp) rfl j4 (eQ _ _ _ _ _ _)) J):G:=h
theorem XL (h:G:=by
 clear I;have I:=bM;clear bM;have fR:=Z<|ft.o.calm I;have Ji:=Z<|aW Es.o I;clear I ft Es;first
 |clear akG
  clear k0 k1 k2 k3 kf;have cg:ByteArray.size ⟨#[]⟩=0:=J;obtain⟨f0,f1,f2,f3,ff⟩:=fR.o.cells;go_wp2;refine avr (fR.o.read results49 rfl _ _ _ _) rfl ⟨cq 19 0 ⟨#[]⟩<|aC 24 0 ch,.slice (some ⟨w5.heap.size,0,none⟩) 1 1,rfl,?_⟩;exact(fR.o.a8 (C:=E) RR.o (bR O O J<|aO O O O) (ox O<|iI Cn.o) (by rw[cO,bH];omega)).more O
 |clear akH
  clear R1;have cg:ByteArray.size ⟨#[]⟩=0:=J;obtain⟨f0,f1,f2,f3,ff⟩:=fR.o.cells;go_wp2;refine avr (fR.o.read results49 rfl _ _ _ _) rfl ⟨cq 20 0 ⟨#[]⟩<|cq 29 0 ⟨#[]⟩<|aC 24 0 ch,.slice (some ⟨w5.heap.size,0,none⟩) 1 1,rfl,?_⟩;exact(fR.o.a8 (C:=E) RR.o (bR O O J<|bR O O J<|aO O O O) (ox O<|vf<|iI Cn.o) (by rw[cO,cO,bH];omega)).more O
 |clear akI
  clear RT;obtain⟨f0,f1,f2,f3,ff⟩:=fR.o.cells;go_wp2;refine avr (fR.o.read results49 rfl _ _ _ _) rfl ⟨cq 6 0 num T,.slice (some ⟨w5.heap.size,0,none⟩) 1 1,rfl,?_⟩;exact(fR.o.a8 (C:=E) RR.o (bR O O O FT.o) (ow (.inr rfl) Yk.o OT.o) aaK).more O):G:=h
theorem XK (h:G:=by
 clear I;have I:=bM;clear bM;have IV:=Z<|vJ.o.calm I;have CB9:=Z<|aW CB8.o I;clear I vJ CB8;first
 |clear akJ
  go_wp2_with fail
  refine(aV _ _ _ _ _ _).mono ?_;rintro e w10⟨rfl,I⟩;have RR:=Z<|RW.one (A:=dV 28 0 ⟨#[43]⟩ T<|aC 22 q ⟨#[]⟩) IV.o.size R1.o (I.mono M) 5 0 sg;have bM:=(bO w9<|.cells #[.int .i64 28,.int .i64 0,.string ⟨#[43]⟩,.slice (some ⟨w8.heap.size,0,none⟩) 2 2] 25).trans<|I.mono M;clear I;have I:=bM;clear bM;have Yv:=Z<|IV.o.calm I;have CB10:=Z<|aW CB9.o I;clear I IV CB9;clear RT R1;have cg:ByteArray.size ⟨#[]⟩=0:=J;have vZ:ByteArray.size ⟨#[43]⟩=1:=J;obtain⟨f0,f1,f2,f3,ff⟩:=Yv.o.cells;go_wp2;refine avr (Yv.o.read results49 rfl _ _ _ _) rfl ⟨cq 5 0 sg<|dV 28 0 ⟨#[43]⟩ T<|aC 22 q ⟨#[]⟩,.slice (some ⟨w9.heap.size,0,none⟩) 1 1,rfl,?_⟩;exact(Yv.o.a8 (C:=E) RR.o (bR O O O<|fB O O J FT.o<|aO O O J) (ow (.inl rfl) rP.o<|qP J OT.o<|j6 O) (by rw[cO,fD,bH];omega)).more O
 |clear akK
  clear R1 RT;have cg:ByteArray.size ⟨#[]⟩=0:=J;have vZ:ByteArray.size ⟨#[115,104,111,119]⟩<=10:=J;obtain⟨f0,f1,f2,f3,ff⟩:=IV.o.cells;go_wp2;refine avr (IV.o.read results49 rfl _ _ _ _) rfl ⟨cq 14 0 ⟨#[]⟩<|cq 25 0 ⟨#[115,104,111,119]⟩ T,.slice (some ⟨w8.heap.size,0,none⟩) 1 1,rfl,?_⟩;exact(IV.o.a8 (C:=E) RR.o (bR O O J<|bR O O J FT.o) (yP O rfl<|yj J OT.o) (by rw[cO,cO];omega)).more O
 |clear akL
  clear RT;have cg:ByteArray.size ⟨#[]⟩=0:=J;obtain⟨f0,f1,f2,f3,ff⟩:=IV.o.cells;go_wp2;refine avr (IV.o.read results49 rfl _ _ _ _) rfl ⟨cq 20 0 ⟨#[]⟩ T,.slice (some ⟨w8.heap.size,0,none⟩) 1 1,rfl,?_⟩;exact(IV.o.a8 (C:=E) RR.o (bR O O J FT.o) (ox O OT.o) aaK).more O):G:=h
theorem Rs (h:G:=by
 have ft:=Z<|fO.o.step hs z;have Es:=Z<|bc Jj.o bY z;clear hs z fO Jj;first
 |clear akM
  go_wp2_with fail
  refine(zY.o _ _ O ft.o).mono ?_;have ajG:=kk;exact acH
 |clear akN
  cases t;first
  |clear akw
   ·exact acM
   ·have ajB:=kk;exact acF
  |clear akx
   ·exact acM
   ·skip;have Jk:=Z (BD NU);have LM:prog.follows Departure.mixedOrders=true:=aaf;obtain⟨iv,VU,Du,Dt,Ds⟩:=av0 y8;obtain⟨v3,w3,ec,Cy,hb3⟩:=rM (B:=w5.heap.size) (SC.o _ _ ft.o) lr;obtain⟨a3,c3,rfl⟩:=Cy.shape;obtain⟨f3,Bl,LJ⟩:=id Cy;have mL:=Z ec;have HD3x:=Z (ft.o.calm hb3);have hszk:=ft.o.size;have hlowk:=ft.o.low;have hz3x:=hb3.size;have Np:=Z Bl;have TR:=Z Cy;clear ec Cy hb3 ft Es Si zY Er IY SL PV Bl;go_wp2_with(first
     |(at_builtin;refine eo _ rfl _ _ 69 rfl _ _ _ _ rfl rfl mL.o ?_;clear mL)
     |(at_builtin;refine bN _ rfl _ _ 69 rfl w5.heap.size 94 iv (.agg #[.string ⟨#[]⟩,.int .i64 0,.int .i64 0]) 3 32 underlying69 VU Du Dt Ds rfl J _ n _ rfl (Np.o.alloc _) ⟨w3.heap.size,0,none⟩ 1 1 [.string ⟨#[105]⟩,.int .i64 1,.int .i64 0] rfl rfl (oo _ _ _ _ _) (ql _ _ _) aaj O aah ?_;intro v4 wI Bk uE LN Lx;obtain⟨aI,cI,xN⟩:=Lx.o;subst xN)
     |(go_at_call 25;fail))
    have SVI:=Z<|yI (t:=1) LJ (show aK ⟨#[105]⟩=true by decide) Bk.o;have HDI:=Z ((HD3x.o.alloc<|.cells #[.string ⟨#[105]⟩,.int .i64 1,.int .i64 0] 94).grown uE.o fun g hg=>by have:=(TR.o.lt g hg).1;omega);have hszI:=HDI.o.size;clear Bk uE LN Lx HD3x TR Np LJ;refine(NX.o _ _ O HDI.o 3 O).mono ?_;rintro e wX⟨q,hq,rfl,hs,z⟩;have Jf:=Z<|HDI.o.step hs z;have SVX:=Z<|SVI.o.kp (sb:=sb) O z;clear hs z HDI SVI;go_wp2_with fail
    refine(vw Jk.o sb _ (n+1) q (.slice aI (n+1) cI) true wX O O O Jf.o.src<|SVX.o.dd O O).mono ?_;rintro e wY⟨TB,uB,rfl,dB⟩;obtain⟨aB,cB,rfl⟩:=bh dB.row;have Ug:=Z<|Jf.o.step dB.src dB.kp;have hsX:=Jf.o.size;have hzY:=dB.kp.size;have RB:=Z<|ah (bO wY<|eS TB.y TB.E TB.z aB TB.q cB) lr dB.row;have PB:Hid (js (3*deep.toNat+8) (2*C) TB):=⟨dB.aA,rK NU dB.ok.1,dB.cost⟩;have YN:=Nd.I dB.aA;have hlB2:TB.q<=2:=dB.ok.2;clear dB Jf SVX;unfold Nd.val;obtain⟨wE,EW⟩:∃W,wY.alloc (eS TB.y TB.E TB.z aB TB.q cB)=W:=⟨_,rfl⟩;have Al:=Z<|Ug.o.alloc<|eS TB.y TB.E TB.z aB TB.q cB;have tE:=Z<|avv wY<|eS TB.y TB.E TB.z aB TB.q cB;have hzE:wY.heap.size+1<=wE.heap.size:=by rw[<-EW];simp
    rw[EW]at Al tE RB;have TU:=Z EW;clear EW Ug;have pI:wY.heap.size≠sb:=O;go_upto_region 55 with fail
    rw[show(wY.alloc<|Obj.cells #[.int .i64 TB.y,.int .i64 TB.E,.string TB.z,.slice aB TB.q cB] 25)=wE from TU.o];clear TU;have lT:aq (fun _=>0) 7=0:=by simp[aq]
    refine dD LM aaf So (Nl wY.heap.size wE.heap.size (w.heap.size+1) aB TB cB) (GS sb (A+3+3+3+3+3+(2*K+10)) (fun _=>0) 7 4 6 w wE (wY.heap.size)<|F55 sb (A+3+3+3+3+3+(2*K+10)) (w.heap.size+1) wY.heap.size dp TB w) (GS.start _ Al.o) ?_ ?_
    ·intro l a v i hI hr;have I7:i<7:=(bx hr).1;have de:=(bx hr).2;have DK:l.size=7:=hI.aU;have HS:=Z hI.s;have ml:=Z hI.shut;have dj:=Z fun(v':World)(hw:∀jj x,l.getD jj false=true->Nl wY.heap.size wE.heap.size (w.heap.size+1) aB TB cB jj v x->Nl wY.heap.size wE.heap.size (w.heap.size+1) aB TB cB jj v' x)(kJ:GS sb (A+3+3+3+3+3+(2*K+10)) (fun _=>0) 7 4 6 w wE (wY.heap.size) (F55 sb (A+3+3+3+3+3+(2*K+10)) (w.heap.size+1) wY.heap.size dp TB w) (l.setIfInBounds i true) v')(x:Value)(hx:Nl wY.heap.size wE.heap.size (w.heap.size+1) aB TB cB i v' x)(cg:So i<258)=>hI.put Sn hr cg hw kJ hx;have vS:=Z fun(v':World)(hw:∀jj x,l.getD jj false=true->Nl wY.heap.size wE.heap.size (w.heap.size+1) aB TB cB jj v x->Nl wY.heap.size wE.heap.size (w.heap.size+1) aB TB cB jj v' x)(kJ:GS sb (A+3+3+3+3+3+(2*K+10)) (fun _=>0) 7 4 6 w wE (wY.heap.size) (F55 sb (A+3+3+3+3+3+(2*K+10)) (w.heap.size+1) wY.heap.size dp TB w) (l.setIfInBounds i true) v')(hx:∀x,Nl wY.heap.size wE.heap.size (w.heap.size+1) aB TB cB i v' x)=>hI.none hr hw kJ hx;have bJ:=Z fun(j:Nat)(hj:j<7)(hl:l.getD j false=true)=>hI.bl j hj hl;have bC:=gT hr;have s17:a.tmps[17]?.getD undef=.pointer (some ⟨wY.heap.size,0,none⟩):=ae<|hI.keep 17 (by intro i hi;have h2:i<7:=hi;show 17≠So i;have:((List.range 7).all fun i=>decide<|So i≠17)=true:=J;have h3:=avE.1 this i<|avG.2 h2;simp at h3;exact fun e=>h3 e.symm);clear hI hr;rcases(O:i=0\/i=1\/i=2\/i=3\/i=4\/i=5\/i=6)with rfl|rfl|rfl|rfl|rfl|rfl|rfl;all_goals(refine gR rfl rfl ?_)
     ·have akE:=kk;exact XM
     ·have h229:=ae<|show a.eval (.tmp 229)=.agg #[.int .i64 7,.int .i64 1,.string ⟨#[105]⟩,.slice none 0 0]from ag bJ bC 0 rfl;have akF:=kk;exact XM
     ·exact sR
     ·have h231:=ae<|show a.eval (.tmp 231)=.pointer (some ⟨wY.heap.size,3,none⟩)from ag bJ bC 2 rfl;have akD:=kk;exact XM
     ·obtain⟨A3,u3,g3,rfl,oD,hx,Qd⟩:GV wE.heap.size (fun A=>A=dp) v (a.eval<|.tmp 230):=ag bJ bC 1 rfl;have h232:a.eval (.tmp 232)=.slice aB TB.q cB:=ag bJ bC 3 rfl;have bQ:=dh de;have ba:=eB (f:=40) (j:=6) ml.o aaf de;obtain⟨eC,eD⟩:=HS.o.pre bQ;have j4:=eD.size;obtain⟨aj,cj,v2,vs,ec,kh,aQ,fs⟩:=kQ (Qd.ck<|show w.heap.size+1<=wE.heap.size by omega) (iB RB.o O O eD) O O hzY O (fun g hg=>.inr aap) O;have uF:=vA Qd (iB RB.o O O eD) O ec;refine mn rfl hx h232 (ec _) ?_;refine dj.o v2 (Ec (Wn.ab uF) bQ ba) (HS.o.join O de J ba O pI aQ fun k z=>by simp[Value.ownBlock]at z;omega) _ ⟨_,_,_,_,aj,cj,rfl,kh,rfl,?_,fun i hi=>?_⟩ J
      ·rcases fs with e|⟨k,e,z⟩
       ·rw[e];simp[Value.ownBlock];omega
       ·rw[e];intro h;have:=avq h;omega
      ·by_cases h3:i<1
       ·rw[bp _ _ h3,bp _ _ h3];left;omega
       ·rw[bW _ _ O,bW _ _ O];right;omega
     ·exact sR
     ·have h234:=ae<|show a.eval (.tmp 234)=.pointer (some ⟨wY.heap.size,3,none⟩)from ag bJ bC 5 rfl;obtain⟨Ts,us,s2,e2,a2,c2,hx,kh,rfl,Bp,CC⟩:AV (w.heap.size+1) wY.heap.size (1+TB.q) (fun Ts=>Ts=dL (fun _=>dp) 1 TB.f) v (a.eval<|.tmp 233):=ag bJ bC 4 rfl;have h233:=ae hx;have Aa:l.getD 4 false=true:=bC.o _ rfl ⟨4,Ground.data⟩ M rfl;obtain⟨eC,ju⟩:=HS.o.db Aa<|dh de;rw[lT]at eC;have o8:=ju.trans tE.o;obtain⟨z0,z1,z2,z3,zf⟩:=al o8;have Uj:=zf 3;have HF55:Hid (F55 sb (A+3+3+3+3+3+(2*K+10)) (w.heap.size+1) wY.heap.size dp TB w<|v.setCell ⟨wY.heap.size,3,none⟩<|.slice a2 (1+TB.q) c2):=⟨eC.put _ _ _ O,us,s2,e2,a2,c2,(avD v wY.heap.size 3 _ 25 (.slice a2 (1+TB.q) c2) o8).trans rfl,kh.put Bp CC⟩;clear hx eC ju o8 kh zf;go_simp;exact vS.o _ (fun j x _ hx=>X5 O j x hx) (GS.store O (.inr Aa) HF55.o) fun _=>trivial
    ·intro a v cg mP cQ wu fP;obtain⟨l,hS,bl⟩:=wu;have HF:=Z<|hS.fin<|bl 6 J;rw[gh (n:=7) cg mP cQ];generalize (fun i=>a.eval<|.tmp<|So i)=ff;clear cg mP cQ fP hS bl;simp only[jV,Act.put,So,getD_cons_zero,getD_cons_succ,setIfInBounds_toArray,set_cons_succ,set_cons_zero,set_nil];obtain⟨eC,us,s2,e2,la,lc,iY,kh⟩:=HF.o;have HDG:=Z eC;have RL:Hid (Row (w.heap.size+1) v.heap.size v (cC dp TB)<|.slice la (1+TB.q) lc):=kh.row lr TB.y TB.E TB.z;have Jg:=Z iY;have hzG:=(avp.1 iY).1;obtain⟨wG,SY⟩:∃W,W=v:=⟨_,rfl⟩;rw[<-SY]at HDG RL Jg hzG⊢;clear eC kh HF iY tE Al RB SY;have hsum6:aq (fun i=>if i=5 then 3 else 0) 16=3:=by simp[aq]
     have hsb56:sb<w.heap.size+1:=O;have P4:=HDG.o.size;go_upto_region 56 with fail
     refine dD LM aaf I0 (Nk sb (w.heap.size+1) la (cC dp TB) lc) (GS sb (A+3+3+3+3+3+(2*K+10)) (fun i=>if i=5 then 3 else 0) 16 15 15 w wG (0)<|F56 sb (A+3+3+3+3+3+(2*K+10)+3) (cC dp TB) w) (GS.start _ HDG.o) ?_ ?_
     ·intro l a v i hI hr;have I7:i<16:=(bx hr).1;have de:=(bx hr).2;have DK:l.size=16:=hI.aU;have HS:=Z hI.s;have pF:=km (fun i=>if i=5 then 3 else 0) l 16;rw[hsum6]at pF;have ml:=Z hI.shut;have dj:=Z fun(v':World)(hw:∀jj x,l.getD jj false=true->Nk sb (w.heap.size+1) la (cC dp TB) lc jj v x->Nk sb (w.heap.size+1) la (cC dp TB) lc jj v' x)(kJ:GS sb (A+3+3+3+3+3+(2*K+10)) (fun i=>if i=5 then 3 else 0) 16 15 15 w wG (0) (F56 sb (A+3+3+3+3+3+(2*K+10)+3) (cC dp TB) w) (l.setIfInBounds i true) v')(x:Value)(hx:Nk sb (w.heap.size+1) la (cC dp TB) lc i v' x)(cg:I0 i<258)=>hI.put Sm hr cg hw kJ hx;have vS:=Z fun(v':World)(hw:∀jj x,l.getD jj false=true->Nk sb (w.heap.size+1) la (cC dp TB) lc jj v x->Nk sb (w.heap.size+1) la (cC dp TB) lc jj v' x)(kJ:GS sb (A+3+3+3+3+3+(2*K+10)) (fun i=>if i=5 then 3 else 0) 16 15 15 w wG (0) (F56 sb (A+3+3+3+3+3+(2*K+10)+3) (cC dp TB) w) (l.setIfInBounds i true) v')(hx:∀x,Nk sb (w.heap.size+1) la (cC dp TB) lc i v' x)=>hI.none hr hw kJ hx;have bJ:=Z fun(j:Nat)(hj:j<16)(hl:l.getD j false=true)=>hI.bl j hj hl;have bC:=gT hr;have s0:a.tmps[0]?.getD undef=.pointer (some ⟨sb,0,none⟩):=ae<|hI.keep 0 (by intro i hi;have h2:i<16:=hi;show 0≠I0 i;have:((List.range 16).all fun i=>decide<|I0 i≠0)=true:=J;have h3:=avE.1 this i<|avG.2 h2;simp at h3;exact fun e=>h3 e.symm);have s8:a.tmps[8]?.getD undef=.pointer (some ⟨w.heap.size,0,none⟩):=ae<|hI.keep 8 (by intro i hi;have h2:i<16:=hi;show 8≠I0 i;have:((List.range 16).all fun i=>decide<|I0 i≠8)=true:=J;have h3:=avE.1 this i<|avG.2 h2;simp at h3;exact fun e=>h3 e.symm);have s17:a.tmps[17]?.getD undef=.pointer (some ⟨wY.heap.size,0,none⟩):=ae<|hI.keep 17 (by intro i hi;have h2:i<16:=hi;show 17≠I0 i;have:((List.range 16).all fun i=>decide<|I0 i≠17)=true:=J;have h3:=avE.1 this i<|avG.2 h2;simp at h3;exact fun e=>h3 e.symm);clear hI hr;rcases(O:i=0\/i=1\/i=2\/i=3\/i=4\/i=5\/i=6\/i=7\/i=8\/i=9\/i=10\/i=11\/i=12\/i=13\/i=14\/i=15)with rfl|rfl|rfl|rfl|rfl|rfl|rfl|rfl|rfl|rfl|rfl|rfl|rfl|rfl|rfl|rfl;all_goals(refine gR rfl rfl ?_)
      ·have akh:=kk;exact acY
      ·have h235:=ae<|show a.eval (.tmp 235)=.agg #[.int .i64 22,.int .i64 0,.string ⟨#[]⟩,.slice none 0 0]from ag bJ bC 0 rfl;have ajX:=kk;exact XQ
      ·obtain⟨T1,a1,c1,I4,I2,fQ⟩:LV (w.heap.size+1) (fun T=>T=cq 0 0 ⟨#[]⟩ (aC 22 0 ⟨#[]⟩)) v (a.eval<|.tmp 236):=ag bJ bC 1 rfl;subst I4;have h236:=ae I2;have HR:=Z fQ;clear I2 fQ;have aj6:=kk;exact Rv
      ·have akl:=kk;exact XO
      ·exact sR
      ·have h239:=ae<|show a.eval (.tmp 239)=.pointer (some ⟨sb,0,none⟩)from ag bJ bC 4 rfl;have akm:=kk;exact XO
      ·obtain⟨q2,jP,hx⟩:∃q:Nat,q<3/\a.eval (.tmp 240)=.int .i64 (q:Int):=ag bJ bC 5 rfl;have h240:=ae hx;have hwq:IntKind.i64.wrap (1+(q2:Int))=1+(q2:Int):=gj O O;clear hx;go_simp;exact dj.o v (fun _ _ _ h=>h) (HS.o.same O de J J rfl) _ ⟨q2,jP,rfl⟩ J
      ·obtain⟨q2,jP,hx⟩:∃q:Nat,q<3/\a.eval (.tmp 241)=.int .i64 (1+(q:Int)):=ag bJ bC 6 rfl;have h241:=ae hx;clear hx;have akg:=kk;exact acY
      ·have h238:=ae<|show a.eval (.tmp 238)=.agg #[.int .i64 24,.int .i64 0,.string ⟨#[105]⟩,.slice none 0 0]from ag bJ bC 3 rfl;obtain⟨q2,jP,hx⟩:∃q:Nat,q<3/\a.eval (.tmp 242)=.agg #[.int .i64 22,.int .i64<|1+(q:Int),.string ⟨#[]⟩,.slice none 0 0]:=ag bJ bC 7 rfl;have h242:=ae hx;clear hx;have ajY:=kk;exact XQ
      ·obtain⟨T8,a8,c8,hp8,hx8,hr8⟩:LV (w.heap.size+1) (fun T=>∃q:Nat,q<3/\T=dV 0 0 ⟨#[]⟩ (aC 24 0 ⟨#[105]⟩) (aC 22 (1+(q:Int)) ⟨#[]⟩)) v (a.eval<|.tmp 243):=ag bJ bC 8 rfl;obtain⟨q2,jP,rfl⟩:=hp8;have h243:=ae hx8;have HR:=Z hr8;clear hx8 hr8;have aj7:=kk;exact Rv
      ·have akn:=kk;exact XO
      ·obtain⟨T9,a9,c9,hp9,hx9,VC⟩:TV (w.heap.size+1) (fun T=>∃q:Nat,q<3/\T=nQ q) v (a.eval<|.tmp 244):=ag bJ bC 9 rfl;obtain⟨q2,jP,rfl⟩:=hp9;have h244:=ae hx9;have HR:=Z VC;have h245:=ae<|show a.eval (.tmp 245)=.agg #[.int .i64 TB.y,.int .i64 TB.E,.string TB.z,.slice la (1+TB.q) lc]from ag bJ bC 10 rfl;unfold Nd.val at h244;clear hx9 VC;have akb:=kk;exact acU
      ·obtain⟨T11,a11,ja,VI,Lu,LC⟩:LV (w.heap.size+1) (fun T=>∃q:Nat,q<3/\T=dV 0 0 ⟨#[]⟩ (nQ q) (cC dp TB)) v (a.eval<|.tmp 246):=ag bJ bC 11 rfl;obtain⟨q2,jP,rfl⟩:=VI;have h246:=ae Lu;have HR:=Z LC;clear Lu LC;have aj8:=kk;exact Rv
      ·obtain⟨T2,a2,c2,Tc,Cw,qg⟩:TV (w.heap.size+1) (fun T=>T=vh) v (a.eval<|.tmp 237):=ag bJ bC 2 rfl;subst Tc;have h237:=ae Cw;have El:=Z qg;obtain⟨T12,a12,jo,hp12,hx12,hr12⟩:TV (w.heap.size+1) (fun T=>∃q:Nat,q<3/\T=zw q (cC dp TB)) v (a.eval<|.tmp 247):=ag bJ bC 12 rfl;obtain⟨q2,jP,rfl⟩:=hp12;have h247:=ae hx12;have HR:=Z hr12;unfold Nd.val at h237 h247;clear Cw qg hx12 hr12;have ajZ:=kk;exact XQ
      ·obtain⟨T13,a13,iZ,VH,Ls,LB⟩:LV (w.heap.size+1) (fun T=>∃q:Nat,q<3/\T=dV 0 0 ⟨#[]⟩ vh (zw q<|cC dp TB)) v (a.eval<|.tmp 248):=ag bJ bC 13 rfl;obtain⟨q2,jP,rfl⟩:=VH;have h248:=ae Ls;have HR:=Z LB;clear Ls LB;have aj9:=kk;exact Rv
      ·obtain⟨T14,a14,c14,VG,Lr,LA⟩:TV (w.heap.size+1) (fun T=>∃q:Nat,q<3/\T=mM q (cC dp TB)) v (a.eval<|.tmp 249):=ag bJ bC 14 rfl;obtain⟨q2,jP,rfl⟩:=VG;have h249:=ae Lr;unfold Nd.val at h249;have bQ:=dh de;obtain⟨eC,eD⟩:=HS.o.pre bQ;obtain⟨f0,f1,f2,f3,ff⟩:=eC.cells;have HF56:Hid (F56 sb (A+3+3+3+3+3+(2*K+10)+3) (cC dp TB) w<|dn v w.heap.size 4 0 ⟨#[]⟩<|.slice a14 2 c14):=⟨v,q2,a14,c14,⟨eC.src.mono O,eC.kp,eC.low⟩,jP,LA,rfl⟩;clear Lr LA eC eD;go_simp;exact vS.o _ (fun j x _ hx=>X4 (Wn.cv O) j x hx) (GS.store O (.inl rfl) HF56.o) fun _=>trivial
     ·intro a v cg mP cQ wu fP;obtain⟨l,hS,bl⟩:=wu;have HF:=Z<|hS.fin<|bl 15 J;rw[gh (n:=16) cg mP cQ];generalize (fun i=>a.eval<|.tmp<|I0 i)=ff;clear cg mP cQ fP hS bl;simp only[jV,Act.put,I0,getD_cons_zero,getD_cons_succ,setIfInBounds_toArray,set_cons_succ,set_cons_zero,set_nil];obtain⟨v0,q2,a2,c2,eC,jP,fM,rfl⟩:=HF.o;have ND:=Z eC;have HRq:=Z fM;have hcB:=PB.o.2.2;have hcL:=rJ dp TB;have hsI:dp.cost<=40:=J;have Wa:Hid ((mM q2<|cC dp TB).sH (3*deep.toNat+8+2)/\(mM q2<|cC dp TB).R/\(mM q2<|cC dp TB).cost<=2*C+200):=PP jP (AG (.inl rfl) J) J PB.o.1 PB.o.2.1.1 O PB.o.2.1.2 O O;clear eC fM HF Jg RL HDG;go_wp2;refine avr (ND.o.read results49 rfl _ _ _ _) rfl ⟨mM q2<|cC dp TB,_,rfl,?_⟩;exact(ND.o.a8 (C:=E) HRq.o Wa.o.2.1 Wa.o.1.1 (by have:=Wa.o.2.2;omega) (by have:=Wa.o.1.2;omega)).more O
  |clear aky
   first
   |clear akq
    ·skip;go_wp2_with fail
     refine(CH.o _ _ O ft.o 3 O).mono ?_;rintro e w6⟨t,rfl,hs,z⟩;have akU:=kk;exact M6
    ·skip;obtain⟨k0,k1,k2,k3,kf⟩:=al Es.o;go_wp2_with fail
     refine(aV _ _ _ _ _ _).mono ?_;rintro e w6⟨rfl,I⟩;have RR:=Z<|RW.one (A:=aC 24 0 ch) ft.o.size (RW.leaf w _ 24 0 ch) (I.mono M) 19 0 ⟨#[]⟩;have bM:=(bO w5<|.cells #[.int .i64 24,.int .i64 0,.string ch,.slice none 0 0] 25).trans<|I.mono M;have akG:=kk;exact XL
   |clear akr
    first
    |clear akc
     ·exact acM
     ·have ajC:=kk;exact acF
    |clear akd
     ·skip;go_wp2_with fail
      refine(CH.o _ _ O ft.o 6 O).mono ?_;rintro e w6⟨t,rfl,hs,z⟩;have akV:=kk;exact M6
     ·skip;have hzB:=ft.o.size;go_wp2_with fail
      refine(NX.o _ _ O (ft.o.alloc _) 2 O).mono ?_;rintro e w6⟨q,hq,rfl,hs,z⟩;have ew:=ft.o.low;have qL:w6.heap[w5.heap.size]?=some (.cells #[.int .i64 17,.int .i64 18] 3 (0,0)):=(z.block _ M O).trans<|avv w5 _;have ey:w6.cell? ⟨w5.heap.size,0,none⟩=some (.int .i64 17):=by rw[avS _ _ _ _ _ (0,0) qL];rfl
      have eO:w6.cell? ⟨w5.heap.size,1,none⟩=some (.int .i64 18):=by rw[avS _ _ _ _ _ (0,0) qL];rfl
      have hkA:=(b9 (bO w5 _) fun k=>k=sb).trans z fun _ _ h=>h;clear z qL;have z:=hkA;clear hkA;have akY:=kk;exact M6
 |clear akO
  unfold Nd.val;first
  |clear ajH
   go_wp2_with fail
   refine(aV _ _ _ _ _ _).mono ?_;rintro e w6⟨rfl,I⟩;have RR:=Z<|RW.one (A:=T) ft.o.size RT.o (I.mono M) 6 0 num;have bM:=(bO w5<|.cells #[.int .i64 T.y,.int .i64 T.E,.string T.z,.slice aT T.q cT] 25).trans<|I.mono M;have akI:=kk;exact XL
  |clear ajI
   obtain⟨f0,f1,f2,f3,ff⟩:=ft.o.cells;go_wp2;refine avr (ft.o.read results49 rfl _ _ _ _) rfl ⟨T,.slice aT T.q cT,rfl,?_⟩;exact(ft.o.a8 (C:=E) RT.o FT.o OT.o O O).more O
 |clear akP
  first
  |clear ake
   go_wp2_with fail
   refine(cM _ _ _ _ _ _ _).mono ?_;rintro e w6⟨rfl,I⟩;have fR:=Z<|ft.o.calm I;have Ji:=Z<|aW Es.o I;clear I ft Es;obtain⟨f0,f1,f2,f3,ff⟩:=fR.o.cells;go_wp2;refine avr (fR.o.read results49 rfl _ _ _ _) rfl ⟨aC 7 (1-2*(q:Int)) num,.slice none 0 0,rfl,?_⟩;exact(fR.o.a8 (C:=E) (RW.leaf w _ 7 (1-2*(q:Int)) num) (aO O O O) (AG O Yk.o) aa2).more O
  |clear akf
   rcases(O:q=0\/q=1)with rfl|rfl
   ·skip;go_wp2_with fail
    refine(Er.o _ _ O ft.o).mono ?_;exact acB
   ·skip;go_wp2_with fail
    refine(IY.o _ _ O ft.o).mono ?_;exact acB):G:=h
theorem Rr (h:G:=by
 have DF:=HNC.o abg;have hszC:=gm DF;have Cn:=Z DF;clear DF HNC;first
 |clear akQ
  go_wp2_with fail
  obtain⟨k0,k1,k2,k3,kf⟩:=al Jj.o;have EXd:=Z (Si.o _ w4.drew O fO.o.drew);have cg:ByteArray.size ⟨#[]⟩=0:=J;have vZ:ByteArray.size ⟨#[119,111,114,107]⟩<=10:=J;go_region_with(first
   |(go_at_call 87;refine EXd.o.mono ?_;rintro e w5 ⟨T,uT,rfl,dT⟩;obtain⟨aT,cT,rfl⟩:=bh dT.row;have ft:=Z<|fO.o.drew.step dT.src dT.kp;have Es:=Z<|bc (W:=w4.drew) Jj.o bY dT.kp;obtain⟨j0,j1,j2,j3,jf⟩:=al Es.o;have RT:=Z<|RW.aI fO.o.drew dT;have FT:=Z dT.aA;have OT:=Z dT.ok.1;have qT:=dT.ok.2;have zj:=dT.cost;have E8:=Nd.I dT.aA;clear dT;unfold Nd.val)
   |(go_at_call 89;refine(nS _ _ _ _ _).mono ?_;rintro e w6 ⟨rfl,I⟩;have bM:=(bO w5<|.cells #[.int .i64 24,.int .i64 0,.string ch,.slice none 0 0,.int .i64 T.y,.int .i64 T.E,.string T.z,.slice aT T.q cT] 25).trans<|I.mono M;have R1:=Z<|RW.two (A:=aC 24 0 ch) (B:=T) ft.o.size (RW.leaf w _ 24 0 ch) RT.o (I.mono M) 25 0 ⟨#[119,111,114,107]⟩;have fR:=Z<|ft.o.calm bM;clear I bM)
   |(go_at_call 27;refine(aV _ _ _ _ _ _).mono ?_;rintro e w7 ⟨rfl,I⟩;have bM:=(bO w6 (.cells #[.int .i64 25,.int .i64 0,.string ⟨#[119,111,114,107]⟩,.slice (some ⟨w5.heap.size,0,none⟩) 2 2] 25)).trans (I.mono M);have RR:=Z (RW.one (A:=dV 25 0 ⟨#[119,111,114,107]⟩ (aC 24 0 ch) T) fR.o.size R1.o (I.mono M) 13 0 ⟨#[]⟩);have jx:=Z (fR.o.calm bM);obtain⟨f0,f1,f2,f3,ff⟩:=jx.o.cells;clear I bM))
  all_goals
   go_wp2;refine avr (jx.o.read results49 rfl _ _ _ _) rfl ⟨cq 13 0 ⟨#[]⟩<|dV 25 0 ⟨#[119,111,114,107]⟩ (aC 24 0 ch) T,.slice (some ⟨w6.heap.size,0,none⟩) 1 1,rfl,?_⟩;exact(jx.o.a8 (C:=E) RR.o (bR O O J<|fB O O J (aO O O O) FT.o) (yP O rfl<|rI J (iI Cn.o) OT.o) (by rw[cO,fD,bH];omega)).more O
 |clear akR
  go_wp2_with fail
  obtain⟨k0,k1,k2,k3,kf⟩:=al Jj.o;have EXd:=Z<|zY.o _ w4.drew O fO.o.drew;have cg:ByteArray.size ⟨#[]⟩=0:=J;first
  |clear ajV
   have vZ:ByteArray.size ⟨#[112,117,116]⟩<=10:=J;go_region_with(first
    |(go_at_call 87;refine EXd.o.mono ?_;rintro e w5 ⟨T,uT,rfl,dT⟩;obtain⟨aT,cT,rfl⟩:=bh dT.row;have ft:=Z<|fO.o.drew.step dT.src dT.kp;have Es:=Z<|bc (W:=w4.drew) Jj.o bY dT.kp;obtain⟨j0,j1,j2,j3,jf⟩:=al Es.o;have RT:=Z<|RW.aI fO.o.drew dT;have FT:=Z dT.aA;have OT:=Z dT.ok.1;have qT:=dT.ok.2;have zj:=dT.cost;have E8:=Nd.I dT.aA;clear dT;unfold Nd.val)
    |(go_at_call 89;refine(nS _ _ _ _ _).mono ?_;rintro e w6 ⟨rfl,I⟩;have bM:=(bO w5<|.cells #[.int .i64 24,.int .i64 0,.string ch,.slice none 0 0,.int .i64 T.y,.int .i64 T.E,.string T.z,.slice aT T.q cT] 25).trans<|I.mono M;have R1:=Z<|RW.two (A:=aC 24 0 ch) (B:=T) ft.o.size (RW.leaf w _ 24 0 ch) RT.o (I.mono M) 25 0 ⟨#[112,117,116]⟩;have fR:=Z<|ft.o.calm bM;clear I bM)
    |(go_at_call 27;refine(aV _ _ _ _ _ _).mono ?_;rintro e w7 ⟨rfl,I⟩;have bM:=(bO w6 (.cells #[.int .i64 25,.int .i64 0,.string ⟨#[112,117,116]⟩,.slice (some ⟨w5.heap.size,0,none⟩) 2 2] 25)).trans (I.mono M);have RR:=Z (RW.one (A:=dV 25 0 ⟨#[112,117,116]⟩ (aC 24 0 ch) T) fR.o.size R1.o (I.mono M) 13 0 ⟨#[]⟩);have jx:=Z (fR.o.calm bM);obtain⟨f0,f1,f2,f3,ff⟩:=jx.o.cells;clear I bM))
   all_goals
    go_wp2;refine avr (jx.o.read results49 rfl _ _ _ _) rfl ⟨cq 13 0 ⟨#[]⟩<|dV 25 0 ⟨#[112,117,116]⟩ (aC 24 0 ch) T,.slice (some ⟨w6.heap.size,0,none⟩) 1 1,rfl,?_⟩;exact(jx.o.a8 (C:=E) RR.o (bR O O J<|fB O O J (aO O O O) FT.o) (yP O rfl<|rI J (iI Cn.o) OT.o) (by rw[cO,fD,bH];omega)).more O
  |clear ajW
   go_region_with(first
    |(go_at_call 87;refine EXd.o.mono ?_;rintro e w5 ⟨T,uT,rfl,dT⟩;obtain⟨aT,cT,rfl⟩:=bh dT.row;have ft:=Z<|fO.o.drew.step dT.src dT.kp;have Es:=Z<|bc (W:=w4.drew) Jj.o bY dT.kp;obtain⟨j0,j1,j2,j3,jf⟩:=al Es.o;have RT:=Z<|RW.aI fO.o.drew dT;have FT:=Z dT.aA;have OT:=Z dT.ok.1;have qT:=dT.ok.2;have zj:=dT.cost;have E8:=Nd.I dT.aA;clear dT;unfold Nd.val)
    |(go_at_call 27;refine(aV _ _ _ _ _ _).mono ?_;rintro e w6 ⟨rfl,I⟩;have bM:=(bO w5 (.cells #[.int .i64 24,.int .i64 0,.string ch,.slice none 0 0,.int .i64 T.y,.int .i64 T.E,.string T.z,.slice aT T.q cT] 25)).trans (I.mono M);have RR:=Z (RW.two (A:=aC 24 0 ch) (B:=T) ft.o.size (RW.leaf w _ 24 0 ch) RT.o (I.mono M) 8 0 ⟨#[]⟩);have fR:=Z (ft.o.calm bM);obtain⟨f0,f1,f2,f3,ff⟩:=fR.o.cells;clear I bM))
   all_goals
    go_wp2;refine avr (fR.o.read results49 rfl _ _ _ _) rfl ⟨dV 8 0 ⟨#[]⟩ (aC 24 0 ch) T,.slice (some ⟨w5.heap.size,0,none⟩) 2 2,rfl,?_⟩;exact(fR.o.a8 (C:=E) RR.o (fB O O J (aO O O O) FT.o) (Km (iI Cn.o) OT.o) (by rw[fD,bH];omega)).more O
 |clear akS
  obtain⟨k0,k1,k2,k3,kf⟩:=al Jj.o;go_wp2_with fail
  refine(aV _ _ _ _ _ _).mono ?_;rintro e w5⟨rfl,I⟩;have R1:=Z<|RW.one (A:=aC 24 0 ch) fO.o.size (RW.leaf w _ 24 0 ch) (I.mono M) 29 0 ⟨#[]⟩;have bM:=(bO w4<|.cells #[.int .i64 24,.int .i64 0,.string ch,.slice none 0 0] 25).trans<|I.mono M;clear I;have I:=bM;clear bM;have ft:=Z<|fO.o.calm I;have Es:=Z<|aW Jj.o I;clear I fO Jj;clear k0 k1 k2 k3 kf;go_wp2_with fail
  refine(aV _ _ _ _ _ _).mono ?_;rintro e w6⟨rfl,I⟩;have RR:=Z<|RW.one (A:=cq 29 0 ⟨#[]⟩<|aC 24 0 ch) ft.o.size R1.o (I.mono M) 20 0 ⟨#[]⟩;have bM:=(bO w5<|.cells #[.int .i64 29,.int .i64 0,.string ⟨#[]⟩,.slice (some ⟨w4.heap.size,0,none⟩) 1 1] 25).trans<|I.mono M;have akH:=kk;exact XL
 |clear akT
  have akq:=kk;exact ac0):G:=h
theorem M6 (h:G:=by
 have fR:=Z<|ft.o.step hs z;have Ji:=Z<|bc Es.o bY z;clear hs z ft Es;first
 |clear akU
  cases t
  ·exact acV
  ·have ajE:=kk;exact acG
 |clear akV
  cases t
  ·exact acV
  ·have ajD:=kk;exact acG
 |clear akW
  unfold Nd.val;go_wp2_with fail
  first
  |clear ajL
   first
   |clear ajB
    refine(aV _ _ _ _ _ _).mono ?_;rintro e w7⟨rfl,I⟩;have RR:=Z<|RW.one (A:=T) fR.o.size RT.o (I.mono M) 21 0 ⟨#[]⟩;have ajP:=kk;exact acN
   |clear ajC
    refine(nS _ _ _ _ _).mono ?_;rintro e w7⟨rfl,I⟩;have R1:=Z<|RW.one (A:=T) fR.o.size RT.o (I.mono M) 25 0 ⟨#[115,104,111,119]⟩;have aj2:=kk;exact acS
  |clear ajM
   first
   |clear ajF
    refine(aV _ _ _ _ _ _).mono ?_;rintro e w7⟨rfl,I⟩;have RR:=Z<|RW.one (A:=T) fR.o.size RT.o (I.mono M) 20 0 ⟨#[]⟩;have ajQ:=kk;exact acN
   |clear ajG
    refine(NX.o _ _ O fR.o 4 O).mono ?_;rintro e w7⟨q,hq,rfl,hs,z⟩;have Ck:=Z<|RW.step RT.o fR.o z;clear RT;have RT:=Ck;clear Ck;have jx:=Z<|fR.o.step hs z;have Jh:=Z<|bc Ji.o bY z;clear hs z fR Ji;go_wp2_with fail
    refine(lg _ _).mono ?_;rintro e w8⟨rfl,I⟩;have Ck:=Z<|RW.calm RT.o I;clear RT;have RT:=Ck;clear Ck;have vJ:=Z<|jx.o.calm I;have CB8:=Z<|aW Jh.o I;clear I jx Jh;go_wp2_with fail
    refine(aV _ _ _ _ _ _).mono ?_;rintro e w9⟨rfl,I⟩;have R1:=Z<|RW.two (A:=T) (B:=aC 22 q ⟨#[]⟩) vJ.o.size RT.o (RW.leaf w _ 22 q ⟨#[]⟩) (I.mono M) 28 0 ⟨#[43]⟩;have bM:=(bO w8<|.cells #[.int .i64 T.y,.int .i64 T.E,.string T.z,.slice aT T.q cT,.int .i64 22,.int .i64 (q:Int),.string ⟨#[]⟩,.slice none 0 0] 25).trans<|I.mono M;have akJ:=kk;exact XK
 |clear akX
  rcases(O:q=0\/q=1)with rfl|rfl
  ·skip;go_wp2_with fail
   refine(Er.o _ _ O fR.o).mono ?_;exact acy
  ·skip;go_wp2_with fail
   refine(IY.o _ _ O fR.o).mono ?_;exact acy
 |clear akY
  rcases(O:q=0\/q=1)with rfl|rfl
  ·have ajT:=kk;exact acP
  ·have ajU:=kk;exact acP):G:=h
theorem J3 (deep:Int)(C K axe C1 K1 M1 E:Nat)(hE:4*C+1000<=E)(zn:C1<=E)(h0:0<=deep)(h9:deep<=100)(hC:C<=100000000)(hK:K<=100000000)(hC1:C1<=100000000)(hK1:K1<=100000000)(E0:CM 1 0 100 100)(E1:CM 1 1 300 300)(E2:CM 1 2 700 700)(E2B:CM 2 2 700 700)
  (BD:0<deep->Ss (deep-1) C K axe) (SL:0<deep->SLC deep C1 K1 M1):STC deep E (4*K+K1+2000) (axe+M1+3):=by
 intro sb A n v loops w hA hnM h hs;have HD:=Z<|DW.start h;obtain⟨va,vc,rfl,_⟩:=id hs;have aR:=bO w aN;have SC:=Z fun B W(hd:DW sb B w W)=>(hs.keep<|b9 aR _).keep hd.kp;have PV:=Z fun(typ:Int)B W(hB:B+3<=1099511627776)(hd:DW sb B w W)=>ny sb B n typ (.slice va n vc) W hB hd.src<|SC.o B W hd;have CH:=Z fun B W(hB:B+3<=1099511627776)(hd:DW sb B w W)(k:Nat)(z:k<=100)=>pX sb B k W hB O hd.src;have NX:=Z fun B W(hB:B+3<=1099511627776)(hd:DW sb B w W)(k:Nat)(z:k<=100)=>ep sb B k W hB O hd.src;have Si:=Z fun B W(hB:B+100<=1099511627776)(hd:DW sb B w W)=>E0 sb B n (.slice va n vc) W hB hd.src<|SC.o B W hd;have zY:=Z fun B W(hB:B+300<=1099511627776)(hd:DW sb B w W)=>E1 sb B n (.slice va n vc) W hB hd.src<|SC.o B W hd;have Er:=Z fun B W(hB:B+700<=1099511627776)(hd:DW sb B w W)=>E2 sb B n (.slice va n vc) W hB hd.src<|SC.o B W hd;have IY:=Z fun B W(hB:B+700<=1099511627776)(hd:DW sb B w W)=>E2B sb B n (.slice va n vc) W hB hd.src<|SC.o B W hd;unfold aN at*
 clear h aR E0 E1 E2 E2B;go_enter func49,ntmps49
 go_wp2_with fail
 refine(PV.o 3 _ _ O HD.o).mono ?_;rintro e w1⟨ch,isChan,cm,rfl,bz,jH⟩;have qh:=Z<|HD.o.step bz jH;have HNC:=Z cm;clear bz jH HD cm;go_wp2_with fail
 refine(PV.o 1 _ _ O qh.o).mono ?_;rintro e w2⟨num,isInt,cm,rfl,bz,jH⟩;have og:=Z<|qh.o.step bz jH;have HNI:=Z cm;clear bz jH qh cm;go_wp2_with fail
 refine(aV _ _ _ _ _ _).mono ?_;rintro e w3⟨rfl,I⟩;have iS:=Z<|og.o.calm I;have hzC:=iS.o.size;have hlC:=iS.o.low;have bY:w3.heap.size≠sb:=O;clear I og;go_wp2_with fail
 refine(NX.o _ _ O (iS.o.alloc _) 16 O).mono ?_;rintro e w4⟨r,hr,rfl,bz,jH⟩;have Jj:Hid (w4.heap[w3.heap.size]?=some (eS 24 0 ch none 0 0)):=bc (avv w3 _) bY jH;have fO:=Z<|(iS.o.alloc _).step bz jH;clear bz jH iS;rcases(O:r=0\/r=1\/r=2\/r=3\/r=4\/r=5\/r=6\/r=7\/r=8\/r=9\/r=10\/r=11\/r=12\/r=13\/r=14\/r=15)with rfl|rfl|rfl|rfl|rfl|rfl|rfl|rfl|rfl|rfl|rfl|rfl|rfl|rfl|rfl|rfl
 ·exact acr
 ·exact acr
 ·skip;go_wp2_with fail
  refine(cM _ _ _ _ _ _ _).mono ?_;rintro e w5⟨rfl,I⟩;have hzM:=(fO.o.calm I).size;have CJ:=Z<|(fO.o.calm I).alloc<|.cells #[.int .i64 26,.int .i64 0,.string ⟨#[]⟩,.slice none 0 0] 25;clear I fO Jj;go_wp2_with fail
  refine(CH.o _ _ O CJ.o 2 O).mono ?_;rintro e w6⟨t,rfl,hs,z⟩;have fR:=Z<|CJ.o.step hs z;have hz:w5.heap.size+1<=w6.heap.size:=by have:=z.size;simpa using this
  have ew:=CJ.o.low;have Ht:¬w5.heap.size=sb:=O;have qL:w6.heap[w5.heap.size]?=some (eS 26 0 ⟨#[]⟩ none 0 0):=(z.block _ M Ht).trans<|avv w5 _;obtain⟨m0,m1,m2,m3,mf⟩:=al qL;have hblN:=qL;clear hs z CJ qL Si zY Er IY BD SL;have cg:ByteArray.size ⟨#[]⟩=0:=J;cases t
  ·skip;have ako:=kk;exact acZ
  ·skip;have NXd:=Z<|ep sb _ 3 w6.drew O O fR.o.drew.src;have mf3:=mf 3;clear mf;have di:=pJ;obtain⟨i0,nB,mT,eu,ed⟩:=av0 si;go_upto_region 11 with fail
   go_cut []from 55 fun wx=>∃(q cap g:Nat),q<3/\Ap sb (A+3+3+3+3+3) w wx w5.heap.size 26 0 ⟨#[]⟩ (aC 22 q ⟨#[]⟩) (.slice (some ⟨g,0,none⟩) 1 cap)
   case first=>
    refine jt di aaf (fun i=>55+i) (V11 sb w5.heap.size) (RK sb w5.heap.size (A+3+3+3+3) w) ?_ ?_ ?_
    ·exact⟨fR.o.drew,fun _=>hblN,fun h=>by simp at h⟩
    ·intro listed a v i hI hr;have hi:i<9:=(bx hr).1;have de:=(bx hr).2;have hS:=hI.s;have DK:listed.size=9:=hI.aU;have KQ:i<8->listed.getD 8 false=false:=by
      intro h8;cases e:listed.getD 8 false with
      |false=>rfl
      |true=>have:=tp<|(hS.2.2 e).1 i h8;rw[de]at this;cases this
     have dj:=Z fun(i:Nat)(hi:i<9)(v':World)(hw:Wr sb w5.heap.size v v')(x:Value)(hx:V11 sb w5.heap.size i v' x)(kJ:RK sb w5.heap.size (A+3+3+3+3) w (listed.setIfInBounds i true) v')=>hI.put (fun i j _ _ h=>by omega) (fun i hi=>by show 55+i<258;have:i<9:=hi;omega) (vF hw O) kJ hi hx;have vS:=Z fun(v':World)(hw:Wr sb w5.heap.size v v')(h8:i=8)(kJ:RK sb w5.heap.size (A+3+3+3+3) w (listed.setIfInBounds i true) v')=>hI.none (vF hw O) kJ hi (by intro x;subst h8;exact trivial);have bJ:=Z fun(j:Nat)(hj:j<9)(hl:listed.getD j false=true)=>hI.bl j hj<|tp hl;have bC:=gT hr;have e14:=ae<|hI.keep 14 (by intro i hi;have:i<9:=hi;omega);have e0:=ae<|hI.keep 0 (by intro i hi;have:i<9:=hi;omega);clear hI hr;rcases(O:i=0\/i=1\/i=2\/i=3\/i=4\/i=5\/i=6\/i=7\/i=8)with rfl|rfl|rfl|rfl|rfl|rfl|rfl|rfl|rfl;all_goals(refine gR rfl rfl ?_)
     ·go_simp;exact dj.o 0 O v (Wr.ab<|avB _ _) _ rfl<|kS hS O O (KQ O)<|avB _ _
     ·have h55:=ae<|show a.eval (.tmp 55)=.pointer (some ⟨w5.heap.size,3,none⟩)from ag bJ bC 0 rfl;obtain⟨z0,z1,z2,z3,zf⟩:=al<|hS.2.1<|KQ O;go_simp;exact dj.o 1 O v (Wr.ab<|avB _ _) _ rfl<|kS hS O O (KQ O)<|avB _ _
     ·go_simp;exact dj.o 2 O v (Wr.ab<|avB _ _) _ rfl<|kS hS O O (KQ O)<|avB _ _
     ·have h57:=ae<|show a.eval (.tmp 57)=.pointer (some ⟨sb,0,none⟩)from ag bJ bC 2 rfl;have eC:=hS.1;rw[avo (by rw[dh de];simp)]at eC;go_simp;refine(ep sb _ 3 v O O eC.src).mono ?_;rintro e v2⟨q,hq,rfl,hs,z⟩;exact dj.o 3 O v2 (Wr.bz z) _ ⟨q,O,rfl⟩<|No hS O (KQ O) hs z Ht
     ·obtain⟨q,hq,hx⟩:∃q:Nat,q<3/\a.eval (.tmp 58)=.int .i64 (q:Int):=ag bJ bC 3 rfl;have h58:=ae hx;go_simp;refine(lg _ _).mono ?_;rintro e v2⟨rfl,I⟩;exact dj.o 4 O v2 (Wr.ab I) _ ⟨q,hq,rfl⟩<|kS hS O O (KQ O) I
     ·obtain⟨q,hq,hx⟩:∃q:Nat,q<3/\a.eval (.tmp 59)=.agg #[.int .i64 22,.int .i64 (q:Int),.string ⟨#[]⟩,.slice none 0 0]:=ag bJ bC 4 rfl;have BC:=ae hx;have o8:=(avp.1<|hS.2.1<|KQ O).1;go_simp;exact dj.o 5 O _ (Wr.ab<|bA) _ ⟨v.heap.size,q,hq,o8,rfl,avv v _⟩<|kS hS O O (KQ O)<|bA
     ·have h56:a.eval (.tmp 56)=.slice none 0 0:=ag bJ bC 1 rfl;obtain⟨g,q,hq,hbg,h60,gN⟩:∃g q:Nat,q<3/\w5.heap.size<g/\a.eval (.tmp 60)=.slice (some ⟨g,0,none⟩) 1 1/\v.heap[g]?=some (eS 22 q ⟨#[]⟩ none 0 0):=ag bJ bC 5 rfl;have o8:=(avp.1<|hS.2.1<|KQ O).1;have ec:=run_append_nil (P:=prog) v 23 23 25 i0 _ underlying23 nB mT ⟨g,0,none⟩ 1 1 [.int .i64 22,.int .i64 (q:Int),.string ⟨#[]⟩,.slice none 0 0] (by rw[eu];rfl) (KS gN) O O (by rw[ed];omega);refine mn rfl h56 h60 ec ?_;have hcp:1<=grownCap v 1 0 25/\grownCap v 1 0 25<=9223372036854775807:=Wz v;rcases RD (b:=w5.heap.size) (g:=0) (q:=q) (v:=v) O hcp with fM|e
      ·exact dj.o 6 O _ (Wr.ab<|((avB _ _).drew).alloc lr _) _ ⟨v.heap.size,_,q,hq,hcp,o8,rfl,fM⟩<|kS hS O O (KQ O)<|((avB _ _).drew).alloc lr _
      ·omega
     ·go_simp;exact dj.o 7 O v (Wr.ab<|avB _ _) _ rfl<|kS hS O O (KQ O)<|avB _ _
     ·have h62:=ae<|show a.eval (.tmp 62)=.pointer (some ⟨w5.heap.size,3,none⟩)from ag bJ bC 7 rfl;obtain⟨g,cap,q,hq,hc,hbg,hx,fM⟩:∃g cap q:Nat,q<3/\(1<=cap/\cap<=9223372036854775807)/\w5.heap.size<g/\a.eval (.tmp 61)=.slice (some ⟨g,0,none⟩) 1 cap/\Row (w5.heap.size+1) v.heap.size v (cq 26 0 ⟨#[]⟩<|aC 22 q ⟨#[]⟩) (a.eval<|.tmp 61):=ag bJ bC 6 rfl;have h61:=ae hx;rw[hx]at fM;have h8:=dh de;obtain⟨z0,z1,z2,z3,zf⟩:=al<|hS.2.1 h8;have Uj:=zf 3;have bl:∀i,i<8->listed.getD i false=true:=by
       intro i hi;rcases(O:i=0\/i=1\/i=2\/i=3\/i=4\/i=5\/i=6\/i=7)with rfl|rfl|rfl|rfl|rfl|rfl|rfl|rfl
       ·exact bC.o _ rfl ⟨0,Ground.phase⟩ M rfl
       ·exact bC.o _ rfl ⟨1,Ground.phase⟩ M rfl
       ·exact bC.o _ rfl ⟨2,Ground.phase⟩ M rfl
       ·exact bC.o _ rfl ⟨3,Ground.phase⟩ M rfl
       ·exact bC.o _ rfl ⟨4,Ground.phase⟩ M rfl
       ·exact bC.o _ rfl ⟨5,Ground.phase⟩ M rfl
       ·exact bC.o _ rfl ⟨6,Ground.data⟩ M rfl
       ·exact bC.o _ rfl ⟨7,Ground.data⟩ M rfl
      go_simp;exact vS.o _ (Wr.b1 _ _ _ _ _) rfl<|II hS O bl h8 O hq fM
    ·intro a v cg mP cQ wu fP;obtain⟨l,hl,hS,bl⟩:=wu;have hl9:l.size=9:=hl;obtain⟨_,q,g,cap,hq,hAp⟩:=hS.2.2<|getD_in O<|bl 8 (by show 8<9;omega);have HAp:=Z hAp;have ha:=gh (d:=fun i=>55+i) (n:=9) cg mP cQ;generalize (fun i=>a.eval<|.tmp<|(fun i=>55+i) i)=f at ha;clear cg mP cQ fP hS bl hAp hl hl9;subst ha;simp only[jV,Act.put,Nat.reduceAdd,setIfInBounds_toArray,set_cons_succ,set_cons_zero];go_wp2_with fail
     go_meet
     case rel=>exact⟨q,cap,g,hq,HAp.o⟩
   case rest=>
    obtain⟨q,cap,g,hq,hX⟩:=hcut;have HX:=Z hX;clear hX m0 m1 m2 m3 mf3 NXd fR nB mT eu ed;obtain⟨m0,m1,m2,m3⟩:=And.intro HX.o.c0<|And.intro HX.o.c1<|And.intro HX.o.c2 HX.o.c3;have Jf:=Z HX.o.dw;have RX:=Z HX.o.row;clear HX;have akp:=kk;exact acZ
 ·skip;cases isInt
  ·exact Rw
  ·have DE:=HNI.o abg;have hszI:=gm DE;have Yk:=Z DE;clear DE HNI;go_wp2_with fail
   refine(Er.o _ _ O fO.o).mono ?_;have ajH:=kk;exact acI
 ·skip;cases isInt
  ·exact Rw
  ·have DE:=HNI.o abg;have hszI:=gm DE;have Yk:=Z DE;clear DE HNI;have ake:=kk;exact acX
 ·exact acq
 ·exact acq
 ·skip;cases isChan
  ·exact Rw
  ·have ajV:=kk;exact acQ
 ·skip;cases isChan
  ·exact Rw
  ·have akQ:=kk;exact Rr
 ·skip;cases isChan
  ·exact Rw
  ·have akS:=kk;exact Rr
 ·skip;rcases(O:deep=0\/0<deep)with rfl|NU
  ·exact Rw
  ·have Hm:IntKind.i64.wrap (deep-1)=deep-1:=gj O O;have Jk:=Z<|BD NU;have VN:prog.follows Departure.mixedOrders=true:=aaf;go_wp2_with fail
   refine(IY.o _ _ O fO.o).mono ?_;rintro e wA⟨TA,uA,rfl,dA⟩;obtain⟨aA,cA,rfl⟩:=bh dA.row;have CJ:=Z<|fO.o.step dA.src dA.kp;have RA:=Z dA.row;have PA:Hid (TA.R/\TA.eH 4/\TA.cost<=700):=⟨dA.aA,dA.ok,dA.cost⟩;have Qc:=Nd.I dA.aA;have hsA:=fO.o.size;have hzA:=dA.kp.size;clear dA fO Jj Si zY Er SL PV;unfold Nd.val;go_wp2_with fail
   refine(NX.o _ _ O CJ.o 3 O).mono ?_;rintro e wB⟨q,hq,rfl,hs,z⟩;have HDB:=Z<|CJ.o.step hs z;have RA2:=Z<|iB RA.o (by have:=CJ.o.low;omega) lr z;have hzB:=z.size;clear hs z CJ RA;go_wp2_with fail
   refine(vw Jk.o sb _ n q (.slice va n vc) loops wB O O O HDB.o.src<|SC.o _ wB HDB.o).mono ?_;rintro e wC⟨TB,uB,rfl,dB⟩;obtain⟨aB,cB,rfl⟩:=bh dB.row;have Zj:=Z<|HDB.o.step dB.src dB.kp;have hsC:=Zj.o.size;have hzC:=dB.kp.size;have RA3:=Z<|iB RA2.o (by have:=HDB.o.low;omega) O dB.kp;have RB:=Z dB.row;have PB:Hid (js (3*deep.toNat+8) (2*C) TB):=⟨dB.aA,rK NU dB.ok.1,dB.cost⟩;have YN:=Nd.I dB.aA;clear dB HDB RA2;unfold Nd.val;go_wp2_with fail
   refine(aV _ _ _ _ _ _).mono ?_;rintro e wD⟨rfl,I⟩;have GW:=Z<|Gw.two (B:=w.heap.size+1) RA3.o RB.o ⟨O,O,O⟩ ⟨O,O,O⟩ O<|I.mono M;have bM:=(bO wC<|.cells #[.int .i64 TA.y,.int .i64 TA.E,.string TA.z,.slice aA TA.q cA,.int .i64 TB.y,.int .i64 TB.E,.string TB.z,.slice aB TB.q cB] 25).trans<|I.mono M;have HDD:=Z<|Zj.o.calm bM;have hzD:=I.size;simp only[avs]at hzD;have hIF:Hid (IfP (3*deep.toNat+8) 2 (2*C)<|oY (fun _=>TB) 0 TA):=⟨by rw[dc];exact PA.o,fun i h1 h2=>by rw[dF _ _ O];exact PB.o⟩;have hlow10:=Zj.o.low;clear I bM Zj RA3 RB PA;have Al:=Z<|HDD.o.alloc<|eS 10 0 ⟨#[]⟩ (some ⟨wC.heap.size,0,none⟩) 2 2;have GWE:=Z<|GW.o.calm<|bO wD<|eS 10 0 ⟨#[]⟩ (some ⟨wC.heap.size,0,none⟩) 2 2;go_wp2_with fail
   refine(CH.o _ _ O Al.o 2 O).mono ?_;rintro e wF⟨t,rfl,hs,z⟩;have HDF:=Z<|Al.o.step hs z;have pI:wD.heap.size≠sb:=O;have tE:Hid (wF.heap[wD.heap.size]?=some (eS 10 0 ⟨#[]⟩ (some ⟨wC.heap.size,0,none⟩) 2 2)):=bc (avv wD _) pI z;have GWF:=Z<|GWE.o.kp (sb:=sb) O z;have hzF:wD.heap.size+1<=wF.heap.size:=by have:=z.size;simpa[eS]using this
   clear hs z Al HDD GW GWE;obtain⟨o36,f36,c36⟩:=EE (k:=0) (s:=⟨#[]⟩) O (.inl rfl) hIF.o;have H36:=Z<|And.intro o36<|And.intro f36 c36;clear o36 f36 c36;cases t
   ·obtain⟨m0,m1,m2,m3,mf⟩:=al tE.o;obtain⟨f0,f1,f2,f3,ff⟩:=HDF.o.cells;go_wp2;refine avr (HDF.o.read results49 rfl _ _ _ _) rfl ⟨.mk 10 0 ⟨#[]⟩ 2<|oY (fun _=>TB) 0 TA,_,rfl,?_⟩;exact(HDF.o.a8 (C:=E) (GWF.o.row lr 10 0 ⟨#[]⟩) H36.o.2.1 H36.o.1.1 (by have:=H36.o.2.2;omega) (by have:=H36.o.1.2;omega)).more O
   ·go_upto_region 36 with fail
    have lT:aq (fun i=>if i=7 then 3 else if i=9 then 2*K+10 else 0) 14=2*K+13:=by simp[aq];omega
    have S7:sb<wF.heap.size:=O;refine dD VN aaf Cv (Nm (3*deep.toNat+8) sb wD.heap.size wF.heap.size (w.heap.size+1) (2*C) n (some ⟨wC.heap.size,0,none⟩) va 2 vc deep loops) (GS sb (A+3+3+3+700+3+(2*K+10)+3) (fun i=>if i=7 then 3 else if i=9 then 2*K+10 else 0) 14 11 13 w wF (wD.heap.size)<|F36 (3*deep.toNat+8) sb (A+3+3+3+700+3+(2*K+10)+3+(2*K+13)) (w.heap.size+1) wD.heap.size (2*C) w) (GS.start _ HDF.o) ?_ ?_
    ·intro l a v i hI hr;have I7:i<14:=(bx hr).1;have de:=(bx hr).2;have DK:l.size=14:=hI.aU;have HS:=Z hI.s;have pF:=km (fun i=>if i=7 then 3 else if i=9 then 2*K+10 else 0) l 14;rw[lT]at pF;have ml:=Z hI.shut;have dj:=Z fun(v':World)(hw:∀jj x,l.getD jj false=true->Nm (3*deep.toNat+8) sb wD.heap.size wF.heap.size (w.heap.size+1) (2*C) n (some ⟨wC.heap.size,0,none⟩) va 2 vc deep loops jj v x->Nm (3*deep.toNat+8) sb wD.heap.size wF.heap.size (w.heap.size+1) (2*C) n (some ⟨wC.heap.size,0,none⟩) va 2 vc deep loops jj v' x)(kJ:GS sb (A+3+3+3+700+3+(2*K+10)+3) (fun i=>if i=7 then 3 else if i=9 then 2*K+10 else 0) 14 11 13 w wF (wD.heap.size) (F36 (3*deep.toNat+8) sb (A+3+3+3+700+3+(2*K+10)+3+(2*K+13)) (w.heap.size+1) wD.heap.size (2*C) w) (l.setIfInBounds i true) v')(x:Value)(hx:Nm (3*deep.toNat+8) sb wD.heap.size wF.heap.size (w.heap.size+1) (2*C) n (some ⟨wC.heap.size,0,none⟩) va 2 vc deep loops i v' x)(cg:Cv i<258)=>hI.put Sq hr cg hw kJ hx;have vS:=Z fun(v':World)(hw:∀jj x,l.getD jj false=true->Nm (3*deep.toNat+8) sb wD.heap.size wF.heap.size (w.heap.size+1) (2*C) n (some ⟨wC.heap.size,0,none⟩) va 2 vc deep loops jj v x->Nm (3*deep.toNat+8) sb wD.heap.size wF.heap.size (w.heap.size+1) (2*C) n (some ⟨wC.heap.size,0,none⟩) va 2 vc deep loops jj v' x)(kJ:GS sb (A+3+3+3+700+3+(2*K+10)+3) (fun i=>if i=7 then 3 else if i=9 then 2*K+10 else 0) 14 11 13 w wF (wD.heap.size) (F36 (3*deep.toNat+8) sb (A+3+3+3+700+3+(2*K+10)+3+(2*K+13)) (w.heap.size+1) wD.heap.size (2*C) w) (l.setIfInBounds i true) v')(hx:∀x,Nm (3*deep.toNat+8) sb wD.heap.size wF.heap.size (w.heap.size+1) (2*C) n (some ⟨wC.heap.size,0,none⟩) va 2 vc deep loops i v' x)=>hI.none hr hw kJ hx;have bJ:=Z fun(j:Nat)(hj:j<14)(hl:l.getD j false=true)=>hI.bl j hj hl;have bC:=gT hr;have s0:a.tmps[0]?.getD undef=.pointer (some ⟨sb,0,none⟩):=ae<|hI.keep 0 (by intro i hi;have h2:i<14:=hi;show 0≠Cv i;have:((List.range 14).all fun i=>decide<|Cv i≠0)=true:=J;have h3:=avE.1 this i<|avG.2 h2;simp at h3;exact fun e=>h3 e.symm);have s1:a.tmps[1]?.getD undef=.slice va n vc:=ae<|hI.keep 1 (by intro i hi;have h2:i<14:=hi;show 1≠Cv i;have:((List.range 14).all fun i=>decide<|Cv i≠1)=true:=J;have h3:=avE.1 this i<|avG.2 h2;simp at h3;exact fun e=>h3 e.symm);have s2:a.tmps[2]?.getD undef=.int .i64 deep:=ae<|hI.keep 2 (by intro i hi;have h2:i<14:=hi;show 2≠Cv i;have:((List.range 14).all fun i=>decide<|Cv i≠2)=true:=J;have h3:=avE.1 this i<|avG.2 h2;simp at h3;exact fun e=>h3 e.symm);have s3:a.tmps[3]?.getD undef=.bool loops:=ae<|hI.keep 3 (by intro i hi;have h2:i<14:=hi;show 3≠Cv i;have:((List.range 14).all fun i=>decide<|Cv i≠3)=true:=J;have h3:=avE.1 this i<|avG.2 h2;simp at h3;exact fun e=>h3 e.symm);have s15:a.tmps[15]?.getD undef=.pointer (some ⟨wD.heap.size,0,none⟩):=ae<|hI.keep 15 (by intro i hi;have h2:i<14:=hi;show 15≠Cv i;have:((List.range 14).all fun i=>decide<|Cv i≠15)=true:=J;have h3:=avE.1 this i<|avG.2 h2;simp at h3;exact fun e=>h3 e.symm);clear hI hr;rcases(O:i=0\/i=1\/i=2\/i=3\/i=4\/i=5\/i=6\/i=7\/i=8\/i=9\/i=10\/i=11\/i=12\/i=13)with rfl|rfl|rfl|rfl|rfl|rfl|rfl|rfl|rfl|rfl|rfl|rfl|rfl|rfl;all_goals(refine gR rfl rfl ?_)
     ·exact sR
     ·have h146:=ae<|show a.eval (.tmp 146)=.pointer (some ⟨wD.heap.size,3,none⟩)from ag bJ bC 0 rfl;have bQ:=eB (f:=40) (j:=11) ml.o aaf de;have ba:=eB (f:=40) (j:=13) ml.o aaf de;exact acs
     ·exact sR
     ·exact sR
     ·exact sR
     ·have h150:=ae<|show a.eval (.tmp 150)=.int .i64 deep from ag bJ bC 4 rfl;exact sR
     ·exact sR
     ·have h152:=ae<|show a.eval (.tmp 152)=.pointer (some ⟨sb,0,none⟩)from ag bJ bC 6 rfl;have aki:=kk;exact XP
     ·exact sR
     ·have h148:=ae<|show a.eval (.tmp 148)=.pointer (some ⟨sb,0,none⟩)from ag bJ bC 2 rfl;have h149:=ae<|show a.eval (.tmp 149)=.slice va n vc from ag bJ bC 3 rfl;have h151:=ae<|show a.eval (.tmp 151)=.int .i64 (deep-1)from ag bJ bC 5 rfl;obtain⟨q2,jP,hx⟩:∃q:Nat,q<3/\a.eval (.tmp 153)=.int .i64 (q:Int):=ag bJ bC 7 rfl;have h153:=ae hx;have h154:=ae<|show a.eval (.tmp 154)=.bool loops from ag bJ bC 8 rfl;have akj:=kk;exact XP
     ·obtain⟨T2,a2,c2,Tc,hx,qg⟩:TV wF.heap.size (js (3*deep.toNat+8)<|2*C) v (a.eval<|.tmp 155):=ag bJ bC 9 rfl;have h155:=ae hx;unfold Nd.val at h155;have akk:=kk;exact XP
     ·have h147:a.eval (.tmp 147)=.slice (some ⟨wC.heap.size,0,none⟩) 2 2:=ag bJ bC 1 rfl;obtain⟨T3,a3,c3,⟨A3,LG,rfl⟩,hx,Lz⟩:LV wF.heap.size (fun T=>∃A,js (3*deep.toNat+8) (2*C) A/\T=cq 0 0 ⟨#[]⟩ A) v (a.eval<|.tmp 156):=ag bJ bC 10 rfl;have bQ:=dh de;have ba:=eB (f:=40) (j:=13) ml.o aaf de;obtain⟨eC,eD⟩:=HS.o.pre bQ;have j4:=eD.size;obtain⟨aj,cj,v2,vs,ec,kh,aQ,fs⟩:=kQ (GWF.o.kp (sb:=sb) O eD) Lz O O j4 lr (fun g hg=>.inl aap) (by show 2+1<=_;omega);refine mn rfl h147 hx (ec _) ?_;refine dj.o v2 (zQ (Wn.bf aQ fun k z=>by simp[Value.ownBlock]at z;omega) bQ ba) (HS.o.join O de J ba O pI aQ fun k z=>by simp[Value.ownBlock]at z;omega) _ ⟨_,_,_,_,aj,cj,rfl,kh,⟨?_,fun i h1 h2=>?_⟩,?_,fun i hi=>?_⟩ J
      ·rw[bp _ _ O];exact hIF.o.1
      ·by_cases h3:i<2
       ·rw[bp _ _ h3];exact hIF.o.2 i h1 h3
       ·rw[bW _ _ O];exact LG
      ·rcases fs with e|⟨k,e,z⟩
       ·have e3:(Value.slice aj 3 cj).ownBlock=(Value.slice (some ⟨wC.heap.size,0,none⟩) 2 2).ownBlock:=e;rw[e3];simp[Value.ownBlock];omega
       ·have e3:(Value.slice aj 3 cj).ownBlock=some k:=e;rw[e3];intro h;have:=avq h;omega
      ·by_cases h3:i<2
       ·rw[bp _ _ h3,bp _ _ h3];right;have:=(GWF.o.apart i h3 wC.heap.size rfl);rcases(O:i=0\/i=1)with rfl|rfl
        ·rw[dc];omega
        ·rw[dF _ _ O];omega
       ·rw[bW _ _ O,bW _ _ O];left;omega
     ·exact sR
     ·have h158:=ae<|show a.eval (.tmp 158)=.pointer (some ⟨wD.heap.size,3,none⟩)from ag bJ bC 12 rfl;obtain⟨Ts,us,s2,e2,a2,c2,hx,kh,hP,Bp,CC⟩:AV (w.heap.size+1) wD.heap.size 3 (IfP (3*deep.toNat+8) 3<|2*C) v (a.eval<|.tmp 157):=ag bJ bC 11 rfl;have h157:=ae hx;have hl11:l.getD 11 false=true:=bC.o _ rfl ⟨11,Ground.data⟩ M rfl;obtain⟨eC,ju⟩:=HS.o.db hl11<|dh de;rw[lT]at eC;have o8:=ju.trans tE.o;obtain⟨z0,z1,z2,z3,zf⟩:=al o8;have Uj:=zf 3;have HF36:Hid (F36 (3*deep.toNat+8) sb (A+3+3+3+700+3+(2*K+10)+3+(2*K+13)) (w.heap.size+1) wD.heap.size (2*C) w<|v.setCell ⟨wD.heap.size,3,none⟩<|.slice a2 3 c2):=⟨eC.put _ _ _ O,Ts,us,s2,e2,a2,c2,(avD v wD.heap.size 3 _ 25 (.slice a2 3 c2) o8).trans rfl,kh.put Bp CC,hP⟩;clear hx eC ju o8 kh zf;go_simp;exact vS.o _ (fun j x _ hx=>X6 O j x hx) (GS.store O (.inr hl11) HF36.o) fun _=>trivial
    ·intro a v cg mP cQ wu fP;obtain⟨l,hS,bl⟩:=wu;have HF:=Z<|hS.fin<|bl 13 J;rw[gh (n:=14) cg mP cQ];generalize (fun i=>a.eval<|.tmp<|Cv i)=ff;clear cg mP cQ fP hS bl;simp only[jV,Act.put,Cv,getD_cons_zero,getD_cons_succ,setIfInBounds_toArray,set_cons_succ,set_cons_zero,set_nil];obtain⟨eC,Ts,us,s2,e2,a2,c2,iY,kh,hP⟩:=HF.o;have ND:=Z eC;have HGq:=Z kh;obtain⟨o3,f3',c3'⟩:=EE (k:=0) (s:=⟨#[]⟩) O (.inr rfl) hP;have H37:=Z<|And.intro o3<|And.intro f3' c3';obtain⟨m0,m1,m2,m3,mf⟩:=al iY;obtain⟨f0,f1,f2,f3,ff'⟩:=ND.o.cells;clear eC kh HF iY hP o3 f3' c3' tE GWF HDF;go_wp2;refine avr (ND.o.read results49 rfl _ _ _ _) rfl ⟨.mk 10 0 ⟨#[]⟩ 3 Ts,_,rfl,?_⟩;exact(ND.o.a8 (C:=E) (HGq.o.row lr 10 0 ⟨#[]⟩) H37.o.2.1 H37.o.1.1 (by have:=H37.o.2.2;omega) (by have:=H37.o.1.2;omega)).more O
 ·skip;rcases(O:deep=0\/0<deep)with rfl|NU
  ·exact Rw
  ·have Hm:IntKind.i64.wrap (deep-1)=deep-1:=gj O O;have SLX:=Z fun B W(hB:B+K1<=1099511627776)(hd:DW sb B w W)=>SL NU sb B n (.slice va n vc) loops W hB O hd.src<|SC.o B W hd;go_wp2_with fail
   refine(SLX.o _ _ O fO.o).mono ?_;have ajI:=kk;exact acI
 ·skip;cases isChan
  ·have akc:=kk;exact acW
  ·have akT:=kk;exact Rr
 ·skip;cases loops
  ·skip;go_wp2_with fail
   refine(CH.o _ _ O fO.o 6 O).mono ?_;have akw:=kk;exact XN
  ·have akd:=kk;exact acW
 ·skip;rcases(O:deep=0\/0<deep)with rfl|NU
  ·exact Rw
  ·have Hm:IntKind.i64.wrap (deep-1)=deep-1:=gj O O;go_wp2_with fail
   refine(CH.o _ _ O fO.o 2 O).mono ?_;have akx:=kk;exact XN
 ·exact Rw
end Go.Proofs.YtgcmhaghebhjnaaGreatDoor
