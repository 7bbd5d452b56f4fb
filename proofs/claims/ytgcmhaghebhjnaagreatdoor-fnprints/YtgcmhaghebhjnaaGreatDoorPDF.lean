import Derived.Test.YtgcmhaghebhjnaaGreatDoorPKdH
import Derived.Test.YtgcmhaghebhjnaaGreatDoorPKbA
import Derived.Test.YtgcmhaghebhjnaaGreatDoorPDI
import Derived.Test.YtgcmhaghebhjnaaGreatDoorPDG2
set_option linter.unusedVariables false
set_option maxHeartbeats 16000000
set_option maxRecDepth 100000
namespace Go.Proofs.YtgcmhaghebhjnaaGreatDoor
open Go.RowKit Tryz List
variable {G :Prop}
theorem aew (h:G:=by
 clear I kG kh;go_wp2_with fail
 refine(NX.o _ _ O tD.o 9 O).mono ?_;rintro e' v2⟨q,hq,rfl,hs,z⟩;have NC:=Z<|tD.o.step hs z;have G2:=Z<|G1.o.kp (sb:=sb) O z;have hzk:=z.size;clear hs z tD G1;go_wp2_with fail
 refine(lg _ _).mono ?_;rintro e' v3⟨rfl,I⟩;have HE3:=Z<|NC.o.calm I;have G3:=Z<|G2.o.calm I;have td:v2.heap.size<=v3.heap.size:=I.size;clear I NC G2;go_wp2_with fail
 refine(aV _ _ _ _ _ _).mono ?_;rintro e' v4⟨rfl,I⟩;have Qc:Row v2.heap.size _ _ (cq 0 0 ⟨#[]⟩<|aC 22 q ⟨#[]⟩) _:=LV.one (A:=aC 22 q ⟨#[]⟩) td<|eQ _ _ _ _ _ _;have R4:Hid (Row v2.heap.size v4.heap.size v4 (cq 20 0 ⟨#[]⟩<|aC 22 q ⟨#[]⟩)<|.slice (some ⟨v3.heap.size,0,none⟩) 1 1):=(ar (T:=cq 20 0 ⟨#[]⟩<|aC 22 q ⟨#[]⟩)).2<|(ar (T:=cq 0 0 ⟨#[]⟩<|aC 22 q ⟨#[]⟩)).1<|aY (ah I lr Qc) lr I.size;have bM:=(bO v3<|.cells #[.int .i64 22,.int .i64 (q:Int),.string ⟨#[]⟩,.slice none 0 0] 25).trans<|I.mono M;have HE4:=Z<|HE3.o.calm bM;have G4:=Z<|G3.o.calm bM;have EV:v2.heap.size<=v4.heap.size:=avK td bM.size;clear I bM Qc HE3 G3;go_wp2_with fail
 refine(aV _ _ _ _ _ _).mono ?_;rintro e' v5⟨rfl,I⟩;have Qc:Row v2.heap.size _ _ (cq 0 0 ⟨#[]⟩<|cq 20 0 ⟨#[]⟩<|aC 22 q ⟨#[]⟩) _:=LV.one (A:=cq 20 0 ⟨#[]⟩<|aC 22 q ⟨#[]⟩) EV R4.o;have R5:Hid (Row v2.heap.size v5.heap.size v5 (cq 4 0 ⟨#[]⟩<|cq 20 0 ⟨#[]⟩<|aC 22 q ⟨#[]⟩)<|.slice (some ⟨v4.heap.size,0,none⟩) 1 1):=(ar (T:=cq 4 0 ⟨#[]⟩<|cq 20 0 ⟨#[]⟩<|aC 22 q ⟨#[]⟩)).2<|(ar (T:=cq 0 0 ⟨#[]⟩<|cq 20 0 ⟨#[]⟩<|aC 22 q ⟨#[]⟩)).1<|aY (ah I lr Qc) lr I.size;have bM:=(bO v4<|.cells #[.int .i64 20,.int .i64 0,.string ⟨#[]⟩,.slice (some ⟨v3.heap.size,0,none⟩) 1 1] 25).trans<|I.mono M;have HE5:=Z<|HE4.o.calm bM;have G5:=Z<|G4.o.calm bM;have Lp:v2.heap.size<=v5.heap.size:=avK EV bM.size;clear I bM Qc HE4 G4;go_wp2_with fail
 refine(cM _ _ _ _ _ _ _).mono ?_;rintro e' v6⟨rfl,I⟩;have Qc:Row v2.heap.size _ _ (cq 0 0 ⟨#[]⟩<|cq 4 0 ⟨#[]⟩<|cq 20 0 ⟨#[]⟩<|aC 22 q ⟨#[]⟩) _:=LV.one (A:=cq 4 0 ⟨#[]⟩<|cq 20 0 ⟨#[]⟩<|aC 22 q ⟨#[]⟩) Lp R5.o;have R6:Hid (Row v2.heap.size v6.heap.size v6 (cq 2 0 ⟨#[84,101,115,116,48]⟩<|cq 4 0 ⟨#[]⟩<|cq 20 0 ⟨#[]⟩<|aC 22 q ⟨#[]⟩)<|.slice (some ⟨v5.heap.size,0,none⟩) 1 1):=(ar (T:=cq 2 0 ⟨#[84,101,115,116,48]⟩<|cq 4 0 ⟨#[]⟩<|cq 20 0 ⟨#[]⟩<|aC 22 q ⟨#[]⟩)).2<|(ar (T:=cq 0 0 ⟨#[]⟩<|cq 4 0 ⟨#[]⟩<|cq 20 0 ⟨#[]⟩<|aC 22 q ⟨#[]⟩)).1<|aY (ah I lr Qc) lr I.size;have bM:=(bO v5<|.cells #[.int .i64 4,.int .i64 0,.string ⟨#[]⟩,.slice (some ⟨v4.heap.size,0,none⟩) 1 1] 25).trans<|I.mono M;have HE6:=Z<|HE5.o.calm bM;have G6:=Z<|G5.o.calm bM;have PY:v2.heap.size<=v6.heap.size:=avK Lp bM.size;clear I bM Qc HE5 G5;have hlF:Row v2.heap.size _ _ (cq 0 0 ⟨#[]⟩<|cq 2 0 ⟨#[84,101,115,116,48]⟩<|cq 4 0 ⟨#[]⟩<|cq 20 0 ⟨#[]⟩<|aC 22 q ⟨#[]⟩) _:=LV.one (A:=cq 2 0 ⟨#[84,101,115,116,48]⟩<|cq 4 0 ⟨#[]⟩<|cq 20 0 ⟨#[]⟩<|aC 22 q ⟨#[]⟩) PY R6.o;have Ae:=bO v6<|.cells #[.int .i64 2,.int .i64 0,.string ⟨#[84,101,115,116,48]⟩,.slice (some ⟨v5.heap.size,0,none⟩) 1 1] 25;have Vy:=HE6.o.size;obtain⟨aj,cj,v7,vs,ec,hgw7,aQ,fs⟩:=kQ (T:=cq 0 0 ⟨#[]⟩<|cq 2 0 ⟨#[84,101,115,116,48]⟩<|cq 4 0 ⟨#[]⟩<|cq 20 0 ⟨#[]⟩<|aC 22 q ⟨#[]⟩) (G6.o.calm Ae) hlF aah O aah lr (fun g hg=>.inl aap) (by show 4+1<=_;omega);have HE7:=Z ((HE6.o.calm Ae).grown aQ fun k z=>by simp[Value.ownBlock]at z;omega);have mL:=Z ec;have G7:=Z hgw7;clear hlF Ae hgw7 aQ fs ec G6 HE6;go_wp2_with(at_builtin;refine eo _ rfl _ _ 23 rfl _ _ _ _ rfl rfl mL.o ?_;clear mL)
 refine(cM _ _ _ _ _ _ _).mono ?_;rintro e' v8⟨rfl,I⟩;have HE8:=Z (HE7.o.calm I);have R8:=Z ((G7.o.calm I).row (lo:=w.heap.size+1) lr 1 0 ⟨#[]⟩);obtain⟨f0,f1,f2,f3,ff⟩:=HE8.o.cells;clear I G7 HE7;go_wp2;refine avr (HE8.o.read results11 rfl _ _ _ _) rfl ⟨xt q,aj,cj,rfl,?_⟩;exact(HE8.o.fin (T:=xt q) (P:=fun T=>pa T=0/\T.ak<=19) (C:=1000000) R8.o (ug q O).1 (ug q O).2.1 (ug q O).2.2).more O):G:=h
theorem aex (h:G:=by
 rintro e w4⟨sg,mN,rfl,hs,z⟩;have fO:=Z<|(iS.o.alloc _).step hs z;have rP:=Z mN.1;have cg:=mN.2;clear hs z iS mN;go_wp2_with fail
 refine(Sh.o _ _ O fO.o).mono ?_;have aoH:=kk;exact aeC):G:=h
theorem aeH (h:G:=by
 skip;go_wp2_with fail
 refine(aV _ _ _ _ _ _).mono ?_;rintro e w4⟨rfl,I⟩;have fO:=Z (iS.o.calm I);clear I iS;have cm:=Zc.o abg;have Te:=gm cm;have Yj:=Z cm;clear cm;obtain⟨f0,f1,f2,f3,ff⟩:=fO.o.cells;go_wp2;refine avr (fO.o.read results87 rfl _ _ _ _) rfl ⟨aC 24 0 s,.slice none 0 0,rfl,?_⟩;exact(fO.o.bu (C:=2*C+100) (RW.leaf w _ 24 0 s) (aO O O O) (iI Yj.o) aa2).more O):G:=h
theorem aeL (h:G:=by
 skip;go_wp2_with fail
 refine(aV _ _ _ _ _ _).mono ?_;rintro e w3⟨rfl,I⟩;have iS:=Z (og.o.calm I);clear I og;have cm:=Zc.o abg;have Te:=gm cm;have Yj:=Z cm;clear cm;obtain⟨f0,f1,f2,f3,ff⟩:=iS.o.cells;go_wp2;refine avr (iS.o.read results87 rfl _ _ _ _) rfl ⟨aC 24 0 s,.slice none 0 0,rfl,?_⟩;exact(iS.o.bu (C:=100) (RW.leaf w _ 24 0 s) (aO O O O) (iI Yj.o) aa2).more O):G:=h
theorem aeM (h:G:=by clear eC eD;exact aeO):G:=h
theorem Y1 (h:G:=by exact aeO):G:=h
theorem aeN (h:G:=by rintro e w6 ⟨U,uU,rfl,dU⟩;obtain⟨aU,cU,rfl⟩:=bh dU.row;have fR:=Z (ft.o.step dU.src dU.kp);have RU:=Z (RW.aI ft.o dU);have apb:=kk;exact Rk):G:=h
theorem aeO (h:G:=by go_simp;exact dj.o v (fun _ _ _ h=>h) (HS.o.same O de J J rfl) _ rfl J):G:=h
theorem aeP (h:G:=by have aoA:=kk;exact aey):G:=h
theorem aeQ (h:G:=by have aoz:=kk;exact aey):G:=h
theorem aey (h:G:=by
 intro sb A n v w hA h hs;have HD:=Z<|DW.start h;obtain⟨va,vc,rfl,_⟩:=id hs;have aR:=bO w aN;have SC:=Z fun B W(hd:DW sb B w W)=>(hs.keep<|b9 aR _).keep hd.kp;have PV:=Z fun(typ:Int)B W(hB:B+3<=1099511627776)(hd:DW sb B w W)=>ny sb B n typ (.slice va n vc) W hB hd.src<|SC.o B W hd;have CH:=Z fun B W(hB:B+3<=1099511627776)(hd:DW sb B w W)(k:Nat)(z:k<=100)=>pX sb B k W hB O hd.src;have NX:=Z fun B W(hB:B+3<=1099511627776)(hd:DW sb B w W)(k:Nat)(z:k<=100)=>ep sb B k W hB O hd.src;first
 |clear aoz
  unfold aN at*
  clear h hs aR;go_enter func87,ntmps87
  go_wp2_with fail
  first
  |clear apt
   refine(PV.o 1 _ _ O HD.o).mono ?_;have apk:=kk;exact Xm
  |clear apu
   refine(PV.o 2 _ _ O HD.o).mono ?_;have apl:=kk;exact Xm
 |clear aoA
  have Sh:=Z fun B W(hB:B+K<=1099511627776)(hd:DW sb B w W)=>IHI sb B n (.slice va n vc) W hB hd.src<|SC.o B W hd;first
  |clear apr
   have EXB:=Z fun B W(hB:B+K<=1099511627776)(hd:DW sb B w W)=>IHB sb B n (.slice va n vc) W hB hd.src<|SC.o B W hd;have aoQ:=kk;exact aeG
  |clear aps
   have aoP:=kk;exact aeG):G:=h
theorem aez (h:G:=by have aoJ:=kk;exact aeD):G:=h
theorem aeA (h:G:=by
 skip;go_wp2_with fail
 refine(NX.o _ _ O og.o 2 O).mono ?_;have apm:=kk;exact Ri):G:=h
theorem aeB (h:G:=by
 skip;go_wp2_with fail
 refine(NX.o _ _ O og.o 6 O).mono ?_;have apn:=kk;exact Ri):G:=h
theorem aeC (h:G:=by rintro e w5 ⟨T,uT,rfl,dT⟩;obtain⟨aT,cT,rfl⟩:=bh dT.row;have ft:=Z (fO.o.step dT.src dT.kp);have RT:=Z (RW.aI fO.o dT);have apf:=kk;exact Rj):G:=h
theorem aeD (h:G:=by rintro e w4 ⟨T,uT,rfl,dT⟩;obtain⟨aT,cT,rfl⟩:=bh dT.row;have fO:=Z (iS.o.step dT.src dT.kp);have RT:=Z (RW.aI iS.o dT);have apg:=kk;exact Rj):G:=h
theorem aeE (h:G:=by have apj:=kk;exact Xm):G:=h
theorem aeF (h:G:=by
 have bQ:=eB (f:=40) (j:=9) ml.o aaf de;have ba:=eB (f:=40) (j:=11) ml.o aaf de;obtain⟨eC,eD⟩:=HS.o.pre bQ;have j4:wX.heap.size<=v.heap.size:=by have:=eD.size;omega
 first
 |clear aoN
  have Ek:=Z<|aY (iB RLP.o O lr eD) lr eD.size;go_simp;exact dj.o _ (vE (Wn.ab<|bA) bQ ba) (HS.o.calm O de J J rfl bQ ba<|bA) _ ⟨cq 0 0 ⟨#[]⟩<|Nd.mk 4 0 ⟨#[]⟩ jb Tb,_,_,rfl,rfl,LV.one (A:=Nd.mk 4 0 ⟨#[]⟩ jb Tb) j4 Ek.o⟩ J
 |clear aoO
  clear hx7 hr7;go_simp;exact dj.o _ (vE (Wn.ab (bA)) bQ ba) (HS.o.calm O de J J rfl bQ ba (bA)) _ ⟨cq 0 0 ⟨#[]⟩ T7,_,_,⟨T7,hp7,rfl⟩,rfl,LV.one j4 HR.o⟩ J):G:=h
theorem aeG (h:G:=by
 have hle:¬deep<=0:=O;have Hm:IntKind.i64.wrap (deep-1)=deep-1:=gj O O;unfold aN at*
 clear h hs aR;go_enter func87,ntmps87
 go_wp2_with fail
 first
 |clear aoP
  refine(PV.o 1 _ _ O HD.o).mono ?_;have aoM:=kk;exact aeE
 |clear aoQ
  refine(PV.o 2 _ _ O HD.o).mono ?_;have aoL:=kk;exact aeE):G:=h
theorem Xo (h:G:=by have ao7:=kk;exact aeK):G:=h
theorem aeI (h:G:=by
 skip;go_wp2_with fail
 refine(CH.o _ _ O qh.o 3 O).mono ?_;rintro e w2⟨t,rfl,hs,z⟩;have og:=Z<|qh.o.step hs z;clear hs z qh;cases t
 ·exact aeL
 first
 |clear aoU
  ·have aoF:=kk;exact aeB
 |clear aoV
  ·have aoD:=kk;exact aeA):G:=h
theorem aeJ (h:G:=by
 skip;go_wp2_with fail
 refine(CH.o _ _ O og.o 3 O).mono ?_;rintro e w3⟨t,rfl,hs,z⟩;have iS:=Z<|og.o.step hs z;clear hs z og;cases t
 ·exact aeH
 first
 |clear aoW
  ·skip;go_wp2_with fail
   refine(NX.o _ _ O iS.o 2 O).mono ?_;rintro e w4⟨r,hr,rfl,hs,z⟩;have fO:=Z<|iS.o.step hs z;clear hs z iS;go_wp2_with fail
   refine(cM _ _ _ _ _ _ _).mono ?_;rintro e w5⟨rfl,I⟩;have ft:=Z<|fO.o.calm I;clear I fO;obtain⟨f0,f1,f2,f3,ff⟩:=ft.o.cells;go_wp2;refine avr (ft.o.read results87 rfl _ _ _ _) rfl ⟨aC 23 r ⟨#[]⟩,.slice none 0 0,rfl,?_⟩;exact(ft.o.bu (C:=2*C+100) (RW.leaf w _ 23 r ⟨#[]⟩) (aO O O J) (qO O) aaq).more O
 |clear aoX
  ·skip;go_wp2_with fail
   refine(NX.o _ _ O iS.o 6 O).mono ?_;rintro e w4⟨r,hr,rfl,hs,z⟩;have fO:=Z<|iS.o.step hs z;clear hs z iS;go_wp2_with fail
   refine(lg _ _).mono ?_;rintro e w5⟨rfl,I⟩;have ft:=Z (fO.o.calm I);clear I fO;obtain⟨f0,f1,f2,f3,ff⟩:=ft.o.cells;go_wp2;refine avr (ft.o.read results87 rfl _ _ _ _) rfl ⟨aC 22 r ⟨#[]⟩,.slice none 0 0,rfl,?_⟩;exact(ft.o.bu (C:=2*C+100) (RW.leaf w _ 22 r ⟨#[]⟩) (aO O O J) (j6 O) aaq).more O):G:=h
theorem Rm (h:G:=by have ao9:=kk;exact Xn):G:=h
theorem Rl (h:G:=by
 have bQ:=eB (f:=40) (j:=9) ml.o aaf de;have ba:=eB (f:=40) (j:=11) ml.o aaf de;obtain⟨eC,eD⟩:=HS.o.pre bQ;first
 |clear ao2
  go_simp;refine(cM _ _ _ _ _ _ _).mono ?_;rintro e' v2⟨rfl,I⟩;exact dj.o v2 (vE (Wn.ab I) bQ ba) (HS.o.calm O de J J rfl bQ ba I) _ (TV.node (P:=fun _=>True) 2 0 (wW k) (Qy be BLK.o)<|(Wn.ab I).row HR.o) J
 |clear ao3
  go_simp;refine(DG.o _).mono ?_;rintro e' v2⟨rfl,I⟩;exact dj.o v2 (vE (Wn.ab I) bQ ba) (HS.o.calm O de J J rfl bQ ba I) _ rfl J
 |clear ao4
  obtain⟨z0,z1,z2,z3,zf⟩:=al<|bc N8.o.bo zd eD;exact aeM
 |clear ao5
  obtain⟨z0,z1,z2,z3,zf⟩:=al (bc HBP.o pI eD);exact aeM):G:=h
theorem aeK (h:G:=by have apa:=kk;exact Xn):G:=h
theorem Xn (h:G:=by
 have bQ:=eB (f:=40) (j:=12) ml.o aaf de;have ba:=eB (f:=40) (j:=12) ml.o aaf de;obtain⟨eC,eD⟩:=HS.o.pre bQ;first
 |clear ao8
  obtain⟨z0,z1,z2,z3,zf⟩:=al<|bc tE.o pI eD;exact aeM
 |clear ao9
  go_simp;first
  |clear aoY
   refine(cM _ _ _ _ _ _ _).mono ?_;rintro e' v2⟨rfl,I⟩;exact dj.o v2 (nZ (Wn.ab I) dR bQ ba) (HS.o.calm O de J J rfl bQ ba I) _ (TV.node (P:=fun _=>True) 26 0 ⟨#[]⟩ ⟨q2,jP,rfl⟩<|(Wn.ab I).row HR.o) J
  |clear aoZ
   refine(ep sb _ 2 v O O eC.src).mono ?_;rintro e' v2⟨q2,jP,rfl,hs,z⟩;exact dj.o v2 (nZ (Wn.bz z O) dR bQ ba) (HS.o.ask O O de J J bQ ba hs z) _ ⟨q2,O,rfl⟩ J
  |clear ao0
   refine(lg _ _).mono ?_;rintro e' v2⟨rfl,I⟩;exact dj.o v2 (nZ (Wn.ab I) dR bQ ba) (HS.o.calm O de J J rfl bQ ba I) _ ⟨q2,jP,rfl⟩ J
  |clear ao1
   refine(aV _ _ _ _ _ _).mono ?_;rintro e' v2⟨rfl,I⟩;exact dj.o v2 (nZ (Wn.ab I) dR bQ ba) (HS.o.calm O de J J rfl bQ ba I) _ (TV.node (P:=fun _=>True) 5 0 ⟨#[109]⟩ ⟨q2,jP,rfl⟩<|(Wn.ab I).row HR.o) J
 |clear apa
  have j4:=eD.size;first
  |clear ao6
   obtain⟨aj,cj,v2,vs,ec,kh,aQ,fs⟩:=kQ (Qd.ck<|show wX.heap.size<=wE.heap.size by omega) (iB RB.o O O eD) O lr hzY O (fun g hg=>.inr aap) O;have uF:=vA Qd (iB RB.o O O eD) O ec;refine mn rfl hx zo (ec _) ?_;refine dj.o v2 (nZ (Wn.ab uF) dR bQ ba) (HS.o.calm O de J J rfl bQ ba uF) _ ⟨_,_,_,_,aj,cj,rfl,kh,⟨q2,jP,rfl⟩,?_,fun i hi=>?_⟩ J
   ·rcases fs with e|⟨k,e,z⟩
    ·rw[e];simp[Value.ownBlock];omega
    ·rw[e];intro h;have:=avq h;omega
   ·by_cases h3:i<1
    ·rw[bp _ _ h3,bp _ _ h3];left;omega
    ·rw[bW _ _ O,bW _ _ O];right;omega
  |clear ao7
   go_simp;first
   |clear aoR
    exact dj.o _ (nZ (Wn.ab<|bA) dR bQ ba) (HS.o.calm O de J J rfl bQ ba<|bA) _ ⟨cq 0 0 ⟨#[]⟩<|aC 22 q2 ⟨#[]⟩,_,_,⟨q2,jP,rfl⟩,rfl,LV.one (A:=aC 22 q2 ⟨#[]⟩) j4<|eQ _ _ _ _ _ _⟩ J
   |clear aoS
    exact dj.o _ (nZ (Wn.ab<|bA) dR bQ ba) (HS.o.calm O de J J rfl bQ ba<|bA) _ ⟨cq 0 0 ⟨#[]⟩<|PJ q2,_,_,⟨q2,jP,rfl⟩,rfl,LV.one (A:=PJ q2) j4 HR.o⟩ J
   |clear aoT
    exact dj.o _ (nZ (Wn.ab (bA)) dR bQ ba) (HS.o.calm O de J J rfl bQ ba (bA)) _ (GV.new (A:=qQ q2) ⟨q2,jP,rfl⟩ j4 HR.o) J):G:=h
theorem Rk (h:G:=by
 have FU:=Z dU.aA;have OU:Hid (U.Q=true):=dU.ok.1;have qU:=dU.ok.2;have hcostU:=dU.cost;have hlenU:=Nd.I dU.aA;first
 |clear apb
  have Ck:=Z<|RW.step RT.o ft.o dU.kp;clear RT;have RT:=Ck;clear Ck;clear dU ft;unfold Nd.val;go_wp2_with fail
  refine(aV _ _ _ _ _ _).mono ?_;rintro e w7⟨rfl,I⟩;have jx:=Z<|(fR.o.alloc<|.cells #[.int .i64 T.y,.int .i64 T.E,.string T.z,.slice aT T.q cT,.int .i64 U.y,.int .i64 U.E,.string U.z,.slice aU U.q cU] 25).calm I;have RR:=Z<|RW.two fR.o.size RT.o RU.o (I.mono M) 28 0 sg;clear I fR RT RU;obtain⟨f0,f1,f2,f3,ff⟩:=jx.o.cells;go_wp2;refine avr (jx.o.read results87 rfl _ _ _ _) rfl ⟨dV 28 0 sg T U,.slice (some ⟨w6.heap.size,0,none⟩) 2 2,rfl,?_⟩;exact(jx.o.bu (C:=2*C+100) RR.o (fB O O O FT.o FU.o) (qP rP.o OT.o OU.o) (by rw[fD];omega)).more O
 |clear apc
  have Ck:=Z<|RW.step RT.o fO.o dU.kp;clear RT;have RT:=Ck;clear Ck;clear dU fO;unfold Nd.val;go_wp2_with fail
  refine(nS _ _ _ _ _).mono ?_;rintro e w6⟨rfl,I⟩;have fR:=Z<|(ft.o.alloc<|.cells #[.int .i64 T.y,.int .i64 T.E,.string T.z,.slice aT T.q cT,.int .i64 U.y,.int .i64 U.E,.string U.z,.slice aU U.q cU] 25).calm I;have RR:=Z<|RW.two ft.o.size RT.o RU.o (I.mono M) 25 0 ⟨#[97,100,100]⟩;clear I ft RT RU;have cg:ByteArray.size ⟨#[97,100,100]⟩=3:=J;obtain⟨f0,f1,f2,f3,ff⟩:=fR.o.cells;go_wp2;refine avr (fR.o.read results87 rfl _ _ _ _) rfl ⟨dV 25 0 ⟨#[97,100,100]⟩ T U,.slice (some ⟨w5.heap.size,0,none⟩) 2 2,rfl,?_⟩;exact(fR.o.bu (C:=2*C+100) RR.o (fB O O J FT.o FU.o) (rI J OT.o OU.o) (by rw[fD];omega)).more O
 |clear apd
  have Ck:=Z<|RW.step RT.o fR.o dU.kp;clear RT;have RT:=Ck;clear Ck;clear dU fR;unfold Nd.val;go_wp2_with fail
  refine(aV _ _ _ _ _ _).mono ?_;rintro e w8⟨rfl,I⟩;have vJ:=Z<|(jx.o.alloc<|.cells #[.int .i64 T.y,.int .i64 T.E,.string T.z,.slice aT T.q cT,.int .i64 U.y,.int .i64 U.E,.string U.z,.slice aU U.q cU] 25).calm I;have RR:=Z<|RW.two jx.o.size RT.o RU.o (I.mono M) 28 0 sg;clear I jx RT RU;obtain⟨f0,f1,f2,f3,ff⟩:=vJ.o.cells;go_wp2;refine avr (vJ.o.read results87 rfl _ _ _ _) rfl ⟨dV 28 0 sg T U,.slice (some ⟨w7.heap.size,0,none⟩) 2 2,rfl,?_⟩;exact(vJ.o.bu (C:=2*C+100) RR.o (fB O O O FT.o FU.o) (qP rP.o OT.o OU.o) (by rw[fD];omega)).more O
 |clear ape
  have Ck:=Z<|RW.step RT.o jx.o dU.kp;clear RT;have RT:=Ck;clear Ck;clear dU jx;unfold Nd.val;go_wp2_with fail
  refine(aV _ _ _ _ _ _).mono ?_;rintro e w9⟨rfl,I⟩;have IV:=Z ((vJ.o.alloc (.cells #[.int .i64 T.y,.int .i64 T.E,.string T.z,.slice aT T.q cT,.int .i64 U.y,.int .i64 U.E,.string U.z,.slice aU U.q cU] 25)).calm I);have RR:=Z (RW.two vJ.o.size RT.o RU.o (I.mono M) 28 0 sg);clear I vJ RT RU;obtain⟨f0,f1,f2,f3,ff⟩:=IV.o.cells;go_wp2;refine avr (IV.o.read results87 rfl _ _ _ _) rfl ⟨dV 28 0 sg T U,.slice (some ⟨w8.heap.size,0,none⟩) 2 2,rfl,?_⟩;exact(IV.o.bu (C:=2*C+100) RR.o (fB O O O FT.o FU.o) (qP rP.o OT.o OU.o) (by rw[fD];omega)).more O):G:=h
theorem Rj (h:G:=by
 have FT:=Z dT.aA;have OT:Hid (T.Q=true):=dT.ok.1;have qT:=dT.ok.2;have zj:=dT.cost;have E8:=Nd.I dT.aA;first
 |clear apf
  clear dT fO;unfold Nd.val;go_wp2_with fail
  first
  |clear aoH
   refine(Sh.o _ _ O ft.o).mono ?_;exact aeN
  |clear aoI
   refine(EXB.o _ _ O ft.o).mono ?_;exact aeN
 |clear apg
  clear dT iS;unfold Nd.val;go_wp2_with fail
  first
  |clear aoJ
   refine(aV _ _ _ _ _ _).mono ?_;rintro e w5⟨rfl,I⟩;have ft:=Z<|(fO.o.alloc<|nO T<|.slice aT T.q cT).calm I;first
   |clear aoB
    have RR:=Z<|RW.one fO.o.size RT.o (I.mono M) 27 0 ⟨#[33]⟩;clear I fO RT;have cg:ByteArray.size ⟨#[33]⟩<=1:=J;obtain⟨f0,f1,f2,f3,ff⟩:=ft.o.cells;go_wp2;refine avr (ft.o.read results87 rfl _ _ _ _) rfl ⟨cq 27 0 ⟨#[33]⟩ T,.slice (some ⟨w4.heap.size,0,none⟩) 1 1,rfl,?_⟩;exact(ft.o.bu (C:=2*C+100) RR.o (bR O O J FT.o) (QS OT.o) aaK).more O
   |clear aoC
    have RR:=Z<|RW.one fO.o.size RT.o (I.mono M) 27 0 ⟨#[45]⟩;clear I fO RT;have cg:ByteArray.size ⟨#[45]⟩<=1:=J;obtain⟨f0,f1,f2,f3,ff⟩:=ft.o.cells;go_wp2;refine avr (ft.o.read results87 rfl _ _ _ _) rfl ⟨cq 27 0 ⟨#[45]⟩ T,.slice (some ⟨w4.heap.size,0,none⟩) 1 1,rfl,?_⟩;exact(ft.o.bu (C:=2*C+100) RR.o (bR O O J FT.o) (QT OT.o) aaK).more O
  |clear aoK
   refine(Sh.o _ _ O fO.o).mono ?_;rintro e w5⟨U,uU,rfl,dU⟩;obtain⟨aU,cU,rfl⟩:=bh dU.row;have ft:=Z<|fO.o.step dU.src dU.kp;have RU:=Z<|RW.aI fO.o dU;have apc:=kk;exact Rk
 |clear aph
  clear dT ft;unfold Nd.val;go_wp2_with fail
  refine(Sh.o _ _ O fR.o).mono ?_;rintro e w7⟨U,uU,rfl,dU⟩;obtain⟨aU,cU,rfl⟩:=bh dU.row;have jx:=Z<|fR.o.step dU.src dU.kp;have RU:=Z<|RW.aI fR.o dU;have apd:=kk;exact Rk
 |clear api
  clear dT fR;unfold Nd.val;go_wp2_with fail
  refine(Sh.o _ _ O jx.o).mono ?_;rintro e w8⟨U,uU,rfl,dU⟩;obtain⟨aU,cU,rfl⟩:=bh dU.row;have vJ:=Z (jx.o.step dU.src dU.kp);have RU:=Z (RW.aI jx.o dU);have ape:=kk;exact Rk):G:=h
theorem Xm (h:G:=by
 rintro e w1⟨s,ok,cm,rfl,bz,jH⟩;have qh:=Z<|HD.o.step bz jH;have Zc:=Z cm;clear bz jH HD cm;first
 |clear apj
  go_wp2_with fail
  refine(CH.o _ _ O qh.o 3 O).mono ?_;rintro e w2⟨t,rfl,hs,z⟩;have og:=Z<|qh.o.step hs z;clear hs z qh;cases t;first
  |clear aoL
   ·skip;go_wp2_with fail
    refine(NX.o _ _ O og.o 5 O).mono ?_;have apo:=kk;exact Ri
   ·skip;cases ok
    ·have aoE:=kk;exact aeA
    ·have aoW:=kk;exact aeJ
  |clear aoM
   ·skip;go_wp2_with fail
    refine(NX.o _ _ O og.o 8 O).mono ?_;have apq:=kk;exact Ri
   ·skip;cases ok
    ·have aoG:=kk;exact aeB
    ·have aoX:=kk;exact aeJ
 |clear apk
  cases ok
  ·skip;go_wp2_with fail
   refine(NX.o _ _ O qh.o 6 O).mono ?_;rintro e w2⟨r,hr,rfl,hs,z⟩;have og:=Z<|qh.o.step hs z;clear hs z qh;go_wp2_with fail
   refine(lg _ _).mono ?_;rintro e w3⟨rfl,I⟩;have iS:=Z<|og.o.calm I;clear I og;obtain⟨f0,f1,f2,f3,ff⟩:=iS.o.cells;go_wp2;refine avr (iS.o.read results87 rfl _ _ _ _) rfl ⟨aC 22 r ⟨#[]⟩,.slice none 0 0,rfl,?_⟩;exact(iS.o.bu (C:=100) (RW.leaf w _ 22 r ⟨#[]⟩) (aO O O J) (j6 O) aaq).more O
  ·have aoU:=kk;exact aeI
 |clear apl
  cases ok
  ·skip;go_wp2_with fail
   refine(NX.o _ _ O qh.o 2 O).mono ?_;rintro e w2⟨r,hr,rfl,hs,z⟩;have og:=Z<|qh.o.step hs z;clear hs z qh;go_wp2_with fail
   refine(cM _ _ _ _ _ _ _).mono ?_;rintro e w3⟨rfl,I⟩;have iS:=Z<|og.o.calm I;clear I og;obtain⟨f0,f1,f2,f3,ff⟩:=iS.o.cells;go_wp2;refine avr (iS.o.read results87 rfl _ _ _ _) rfl ⟨aC 23 r ⟨#[]⟩,.slice none 0 0,rfl,?_⟩;exact(iS.o.bu (C:=100) (RW.leaf w _ 23 r ⟨#[]⟩) (aO O O J) (qO O) aaq).more O
  ·have aoV:=kk;exact aeI):G:=h
theorem Ri (h:G:=by
 rintro e w3⟨r,hr,rfl,hs,z⟩;have iS:=Z<|og.o.step hs z;clear hs z og;first
 |clear apm
  go_wp2_with fail
  refine(cM _ _ _ _ _ _ _).mono ?_;rintro e w4⟨rfl,I⟩;have fO:=Z<|iS.o.calm I;clear I iS;obtain⟨f0,f1,f2,f3,ff⟩:=fO.o.cells;go_wp2;refine avr (fO.o.read results87 rfl _ _ _ _) rfl ⟨aC 23 r ⟨#[]⟩,.slice none 0 0,rfl,?_⟩;first
  |clear aoD
   exact(fO.o.bu (C:=100) (RW.leaf w _ 23 r ⟨#[]⟩) (aO O O J) (qO O) aaq).more O
  |clear aoE
   exact(fO.o.bu (C:=2*C+100) (RW.leaf w _ 23 r ⟨#[]⟩) (aO O O J) (qO O) aaq).more O
 |clear apn
  go_wp2_with fail
  refine(lg _ _).mono ?_;rintro e w4⟨rfl,I⟩;have fO:=Z<|iS.o.calm I;clear I iS;obtain⟨f0,f1,f2,f3,ff⟩:=fO.o.cells;go_wp2;refine avr (fO.o.read results87 rfl _ _ _ _) rfl ⟨aC 22 r ⟨#[]⟩,.slice none 0 0,rfl,?_⟩;first
  |clear aoF
   exact(fO.o.bu (C:=100) (RW.leaf w _ 22 r ⟨#[]⟩) (aO O O J) (j6 O) aaq).more O
  |clear aoG
   exact(fO.o.bu (C:=2*C+100) (RW.leaf w _ 22 r ⟨#[]⟩) (aO O O J) (j6 O) aaq).more O
 |clear apo
  rcases(O:r=0\/r=1\/2<=r)with rfl|rfl|hge
  ·skip;go_wp2_with fail
   refine(EXB.o _ _ O iS.o).mono ?_;have aoB:=kk;exact aez
  ·skip;go_wp2_with fail
   refine(kA Ed sb _ w3.heap.size 0 4 4 _ O O O aa7 (iS.o.alloc _).src<|ku Ed w3 [⟨#[38,38]⟩,⟨#[124,124]⟩,⟨#[61,61]⟩,⟨#[33,61]⟩] 9 (by intro s hs;simp only[avZ,av6,awY]at hs;unfold Ed;rcases hs with rfl|rfl|rfl|rfl<;>decide)).mono ?_;rintro e w4⟨sg,mN,rfl,hs,z⟩;have fO:=Z<|(iS.o.alloc _).step hs z;have rP:=Z mN.1;have cg:=mN.2;clear hs z iS mN;go_wp2_with fail
   refine(EXB.o _ _ O fO.o).mono ?_;have aoI:=kk;exact aeC
  ·have YM:¬(r:Int)=0:=O;have Bp:¬(r:Int)=1:=O;skip;go_wp2_with fail
   refine(kA Ed sb _ w3.heap.size 0 6 6 _ O O O aa7 (iS.o.alloc _).src<|ku Ed w3 [⟨#[60]⟩,⟨#[60,61]⟩,⟨#[62]⟩,⟨#[62,61]⟩,⟨#[61,61]⟩,⟨#[33,61]⟩] 9 (by intro s hs;simp only[avZ,av6,awY]at hs;unfold Ed;rcases hs with rfl|rfl|rfl|rfl|rfl|rfl<;>decide)).mono ?_;exact aex
 |clear apq
  rcases(O:r=0\/r=1\/r=2\/3<=r)with rfl|rfl|rfl|hge
  ·skip;go_wp2_with fail
   refine(Sh.o _ _ O iS.o).mono ?_;have aoC:=kk;exact aez
  ·skip;go_wp2_with fail
   refine(Sh.o _ _ O iS.o).mono ?_;have aoK:=kk;exact aeD
  ·skip;go_wp2_with fail
   refine(PV.o 3 _ _ O iS.o).mono ?_;rintro e w4⟨s2,there,cm,rfl,hs,z⟩;have fO:=Z<|iS.o.step hs z;have HNM3:=Z cm;clear hs z iS cm;cases there
   ·skip;go_wp2_with fail
    refine(kA Ed sb _ w4.heap.size 0 7 7 _ O O O (by have:=fO.o.src.lt;omega) (fO.o.alloc _).src<|ku Ed w4 [⟨#[43]⟩,⟨#[45]⟩,⟨#[42]⟩,⟨#[47]⟩,⟨#[37]⟩,⟨#[43]⟩,⟨#[45]⟩] 9 aam).mono ?_;rintro e w5⟨sg,mN,rfl,hs,z⟩;have ft:=Z<|(fO.o.alloc _).step hs z;have rP:=Z mN.1;have cg:=mN.2;clear hs z fO mN;go_wp2_with fail
    refine(Sh.o _ _ O ft.o).mono ?_;rintro e w6⟨T,uT,rfl,dT⟩;obtain⟨aT,cT,rfl⟩:=bh dT.row;have fR:=Z<|ft.o.step dT.src dT.kp;have RT:=Z<|RW.aI ft.o dT;have aph:=kk;exact Rj
   ·skip;go_wp2_with fail
    refine(CH.o _ _ O fO.o 2 O).mono ?_;rintro e w5⟨t,rfl,hs,z⟩;have ft:=Z<|fO.o.step hs z;clear hs z fO;cases t
    ·skip;go_wp2_with fail
     refine(kA Ed sb _ w5.heap.size 0 7 7 _ O O O (by have:=ft.o.src.lt;omega) (ft.o.alloc _).src<|ku Ed w5 [⟨#[43]⟩,⟨#[45]⟩,⟨#[42]⟩,⟨#[47]⟩,⟨#[37]⟩,⟨#[43]⟩,⟨#[45]⟩] 9 aam).mono ?_;rintro e w6⟨sg,mN,rfl,hs,z⟩;have fR:=Z<|(ft.o.alloc _).step hs z;have rP:=Z mN.1;have cg:=mN.2;clear hs z ft mN;go_wp2_with fail
     refine(Sh.o _ _ O fR.o).mono ?_;rintro e w7⟨T,uT,rfl,dT⟩;obtain⟨aT,cT,rfl⟩:=bh dT.row;have jx:=Z<|fR.o.step dT.src dT.kp;have RT:=Z<|RW.aI fR.o dT;have api:=kk;exact Rj
    ·skip;go_wp2_with fail
     refine(aV _ _ _ _ _ _).mono ?_;rintro e w6⟨rfl,I⟩;have fR:=Z<|ft.o.calm I;clear I ft;go_wp2_with fail
     refine(aV _ _ _ _ _ _).mono ?_;rintro e w7⟨rfl,I⟩;have jx:=Z<|(fR.o.alloc<|.cells #[.int .i64 24,.int .i64 0,.string s2,.slice none 0 0] 25).calm I;have RR:=Z<|RW.one (A:=aC 24 0 s2) fR.o.size (RW.leaf w _ 24 0 s2) (I.mono M) 29 0 ⟨#[]⟩;have cm:=HNM3.o abg;have Te:=gm cm;have HNM4:=Z cm;clear I fR cm;have cg:ByteArray.size ⟨#[]⟩<=1:=J;obtain⟨f0,f1,f2,f3,ff⟩:=jx.o.cells;go_wp2;refine avr (jx.o.read results87 rfl _ _ _ _) rfl ⟨cq 29 0 ⟨#[]⟩<|aC 24 0 s2,.slice (some ⟨w6.heap.size,0,none⟩) 1 1,rfl,?_⟩;exact(jx.o.bu (C:=2*C+100) RR.o (bR O O J<|aO O O O) (vf<|iI HNM4.o) (by rw[cO,bH];omega)).more O
  ·have YM:¬(r:Int)=0:=O;have Bp:¬(r:Int)=1:=O;have CC:¬(r:Int)=2:=O;skip;go_wp2_with fail
   refine(kA Ed sb _ w3.heap.size 0 7 7 _ O O O aa7 (iS.o.alloc _).src (ku Ed w3 [⟨#[43]⟩,⟨#[45]⟩,⟨#[42]⟩,⟨#[47]⟩,⟨#[37]⟩,⟨#[43]⟩,⟨#[45]⟩] 9 aam)).mono ?_;exact aex):G:=h
def Nz {α:Type}(r:CR α):Prop:=∀e,r=.error e->e.1≠0
theorem Nz.ok {α:Type}(a:α):Nz (.ok a:CR α):=fun e h=>by cases h
theorem Nz.err {α:Type}{c:Int}{n:Nat}(h:c≠0):Nz (.error (c,n):CR α):=fun e he=>by cases he;exact h
theorem Nz.bind {α β:Type}{r:CR α}{f:α->CR β}(h:Nz r)(hf:∀a,Nz<|f a):Nz (CR.bind r f):=by
 cases r with
 |error e=>exact fun e' he=>h e' (by cases he;rfl)
 |ok a=>exact hf a
theorem Nz.bE {σ:Type}{f:Nat->σ->CR σ}(h:∀i s,Nz<|f i s):∀n s,Nz (forN f n s)
 |0,s=>Nz.ok s
 |n+1,s=>Nz.bind (Nz.bE h n s)<|h n
theorem Nz.ite {α:Type}{c:Prop} [Decidable c]{a b:CR α}(ha:Nz a)(I:Nz b):Nz (if c then a else b):=by by_cases h:c<;>simp only[h,if_true,if_false]<;>assumption
theorem qB {m:zX}(h:∀s,Nz<|m s)(s:CS):Nz (fu m s):=Nz.bind (h s) fun r=>Nz.ite (Nz.err J)<|Nz.ok _
theorem eV {m:zX}(h:∀s,Nz<|m s)(t:Int)(s:CS):Nz (dz m t s):=Nz.bind (qB h s) fun r=>Nz.ite (Nz.ok _)<|Nz.err J
theorem PH (F:Nd)(k:Int)(name:ByteArray)(len:Nat)(kids:Nat->zX)(h:∀i s,Nz<|kids i s)(s:CS)(a:Nat):Nz (dW F k name len kids s a):=by
 unfold dW;refine Nz.ite (Nz.ok _)<|Nz.ite (Nz.ok _)<|Nz.ite (Nz.ite (Nz.err J)<|Nz.ok _)<|Nz.ite ?_<|Nz.ite (Nz.bind (Nz.bE (fun i=>eV (h i) 1) _ _) fun _=>Nz.ok _)<|Nz.ite (Nz.bind (eV (h 0) _ _) fun _=>Nz.ok _)<|Nz.ite (Nz.bind (eV (h 0) _ _) fun _=>Nz.ok _)<|Nz.ite (Nz.bind (qB (h 0) _) fun r=>Nz.bind (eV (h 1) _ _) fun _=>Nz.ok _)<|Nz.bind (eV (h 0) _ _) fun _=>Nz.bind (eV (h 1) _ _) fun _=>Nz.ok _;cases findF F name with
 |none=>exact Nz.err J
 |some j=>exact Nz.ite (Nz.bind (Nz.bE (fun i=>eV (h i) _) _ _) fun _=>Nz.ok _)<|Nz.err J
theorem KO (F:Nd):∀(T:Nd)(s:CS),Nz (gJ F T s)
 |.nil,s=>Nz.ok _
 |.mk k n name len kids,s=>by
  show Nz (exM F k name len (fun i=>gJ F<|kids i) s)
  exact Nz.bind (PH F k name len _ (fun i=>KO F<|kids i) _ _) fun _=>Nz.ok _
theorem xy {l:List (ByteArray×Int)}{m:CS->CR CS}(h:∀s,Nz<|m s)(s:CS):Nz (within l m s):=Nz.bind (h _) fun _=>Nz.ok _
theorem EJ (len:Nat)(kids:Nat->TQ)(h:∀i cx s,Nz<|kids i cx s)(cx:Cx)(s:CS):Nz (r6 len kids cx s):=Nz.bE (fun i=>h i cx) _ _
theorem nz_st (F:Nd)(k:Int)(name:ByteArray)(len:Nat)(num:Nat->Int)(ex:Nat->zX)(kids:Nat->Mn)(he:∀i s,Nz<|ex i s)(h1:∀i cx s,Nz<|(kids i).st cx s)(h3:∀i b cx s,Nz<|(kids i).cs b cx s)(cx:Cx)(s:CS):Nz (stM F k name len num ex kids cx s):=by unfold stM;refine Nz.ite (xy (fun s=>EJ _ _ h1 _ _) _)<|Nz.ite (Nz.bind (qB (he 0) _) fun _=>Nz.ite (Nz.err J)<|Nz.ok _)<|Nz.ite (Nz.ite (Nz.err J)<|eV (he 0) _ _)<|Nz.ite (Nz.ite (Nz.err J)<|Nz.ite (Nz.ok _)<|Nz.err J)<|Nz.ite (Nz.bind (eV (he 0) _ _) fun _=>eV (he 1) _ _)<|Nz.ite (Nz.bind (he 0 _) fun _=>Nz.ok _)<|Nz.ite (Nz.bind (eV (he 0) _ _) fun _=>Nz.bE (fun i=>h1 (i+1) cx) _ _) ?_;refine Nz.ite (Nz.bind (Nz.ite (eV (he 0) _ _)<|Nz.ok _) fun _=>h1 _ _ _)<|Nz.ite (Nz.ite (Nz.ite (eV (he 0) _ _)<|Nz.ok _)<|Nz.err J)<|Nz.ite (Nz.bE (fun i=>h3 i _ _) _ _)<|Nz.ite (Nz.ite (Nz.err J)<|Nz.ok _)<|Nz.ite (Nz.ite (Nz.err J)<|Nz.ok _)<|Nz.ite (eV (he 0) _ _)<|Nz.ite (Nz.bind (qB (he 0) _) fun _=>Nz.ite (Nz.err J)<|Nz.ok _)<|Nz.ite (eV (he 0) _ _)<|Nz.ok _
theorem nz_cs (n:Int)(name:ByteArray)(len:Nat)(ex:Nat->zX)(kids:Nat->Mn)(he:∀i s,Nz<|ex i s)(h2:∀i cx s,Nz<|(kids i).ad cx s)(b:Bool)(cx:Cx)(s:CS):Nz (NZ n name len ex kids b cx s):=by unfold NZ;exact Nz.ite (Nz.err J)<|Nz.bind (Nz.ite (eV (he 0) _ _)<|Nz.ok _) fun _=>Nz.bind (Nz.ite (eV (he 1) _ _)<|Nz.ok _) fun _=>xy (fun _=>h2 _ _ _) _
theorem AT (F:Nd):∀(T:Nd),(∀cx s,Nz<|(fw F T).st cx s)/\(∀cx s,Nz<|(fw F T).ad cx s)/\(∀b cx s,Nz<|(fw F T).cs b cx s)
  | .nil=>⟨fun _ _=>Nz.ok _,fun _ _=>Nz.ok _,fun _ _ _=>Nz.ok _⟩
  | .mk k n name len kids=>
    ⟨fun cx s=>nz_st F k name len _ _ _ (fun i=>KO F (kids i)) (fun i=>(AT F (kids i)).1) (fun i=>(AT F (kids i)).2.2) cx s,
     fun cx s=>EJ len _ (fun i=>(AT F<|kids i).1) cx s,
     fun b cx s=>nz_cs n name len _ _ (fun i=>KO F (kids i)) (fun i=>(AT F (kids i)).2.1) b cx s⟩
theorem Vh (F T:Nd)(X:List Int):Nz (uN F T X):=by unfold uN;exact Nz.bind (Nz.bE (fun i s=>by unfold ry;exact Nz.ite (Nz.err J)<|Nz.ok _) _ _) fun _=>Nz.bind ((AT F _).2.1 _ _) fun _=>Nz.ite (Nz.err J)<|Nz.ok _
theorem KN (F:Nd)(i:Nat)(u:Unit):Nz (gH F i u):=by unfold gH;exact Nz.ite (Nz.ok _)<|Nz.err J
theorem KP (T:Nd):Nz (iJ T):=Nz.bind (Nz.bE (KN T) _ _) fun _=>Nz.bE (fun i=>Vh T<|T.f i) _ _
theorem Io {T:Nd}(h:pa T=0):cJ T=true/\Ky T=0/\(Jq T).length=T.size:=by
 unfold pa at h;by_cases ht:cJ T=true
 ·rw[avA ht]at h;cases hM:iJ T with
  |error p=>rw[hM]at h;exact absurd h<|KP T p hM
  |ok X=>
   have hX:X.length=T.size:=by
    have:=DY ht lr X hM;rw[this,oB];omega
   exact⟨ht,by unfold Ky;rw[avA ht,hM],by unfold Jq;rw[avA ht,hM];exact hX⟩
 ·rw[avo ht]at h;omega
def PRC :Prop:=∀(sb A:Nat)(w:World),A<=1000000000->Src sb A w->Calls prog 11 #[.pointer<|some ⟨sb,0,none⟩] w fun e w'=>∃T a c,e=.returned (T.val<|.slice a T.q c)/\Drawn sb (A+7000000) (fun T=>pa T=0/\T.ak<=19) 1000000 w T (.slice a T.q c) w'
structure Pgm (w:World)(T:Nd)(u:Value)(w':World):Prop where
 row:Row w.heap.size w'.heap.size w' T u
 aA:T.R
 code:pa T=0
 cost:T.cost<=1000000
 below:Below w.heap.size w w'
 ak:T.ak<=19
theorem AO (PR:PRC)(ca:Option Addr)(cn cc:Nat)(w:World)(fp:cn<=1048576)(fM:Bytes w.heap.size w ca cn):
  Calls prog 4 #[.slice ca cn cc] w fun e w'=>∃T a c,e=.returned (T.val<|.slice a T.q c)/\Pgm w T (.slice a T.q c) w':=by
 have dC:=Z<|bO w aN;have SA:=Z<|C4 ca cn cc (w.alloc aN) fp<|fM.wide dC.o;have HZ:=Z<|avv w aN;have PA:=Z PR;rw[avs]at SA;unfold aN at SA;clear fM;go_enter func4,ntmps4
 go_wp2_with fail
 refine SA.o.mono ?_;rintro e w1⟨rfl,bz,hb1,eu⟩;go_wp2_with fail
 refine(PA.o _ 0 _ O bz).mono ?_;rintro e w2⟨T,a,c,rfl,hd⟩;have ed:=hd.kp.size;have gU:Hid (w2.heap[w.heap.size]?=some aN):=(hd.kp.block _ O O).trans<|(hb1.block _ O).trans HZ.o;have ni:Hid (Below w.heap.size w w2):=by
  have Qp:=dC.o.trans<|hb1.mono<|av8 _;refine⟨hd.kp.os.trans Qp.os,hd.kp.tape.trans Qp.tape,hd.kp.output.trans Qp.output,avK Qp.size hd.kp.size,fun k z=>(hd.kp.block k O O).trans<|Qp.block k z⟩
 have HR:=Z hd.row;have HF:=Z hd.aA;have HC:=Z hd.ok;have HK:=Z hd.cost;obtain⟨c0,c1,c2,c3,c4⟩:=aP gU.o;clear hd bz hb1;unfold Nd.val;go_wp2;refine avr (v:=.agg #[.int .i64 T.y,.int .i64 T.E,.string T.z,.slice a T.q c]) (tX gU.o results4 rfl T.y T.E T.z<|.slice a T.q c) rfl ⟨T,a,c,rfl,?_,HF.o,HC.o.1,HK.o,ue ni.o _ _ _ _,HC.o.2⟩;have hs:=fG w2 w.heap.size T.y T.E T.z<|.slice a T.q c;exact aY (cL lr lr (fun g o h1 h2=>avt (a:=⟨g,o,none⟩)<|et w2 w.heap.size T.y T.E T.z (.slice a T.q c) g O) HR.o) O<|Nat.le_of_eq hs.symm
section
open Go Go.RowKit
def xt (q:Nat):Nd:=.mk 1 0 ⟨#[]⟩ (4+1)<|dL (cE oS) 4 (cq 0 0 ⟨#[]⟩<|cq 2 0 ⟨#[84,101,115,116,48]⟩<|cq 4 0 ⟨#[]⟩<|cq 20 0 ⟨#[]⟩<|aC 22 q ⟨#[]⟩).f
theorem ug (q:Nat)(h:q<9):(xt q).R/\(pa (xt q)=0/\(xt q).ak<=19)/\(xt q).cost<=1000000:=by
 refine⟨⟨O,O,J,O,fun i hi=>?_⟩,?_,?_⟩
 ·by_cases lh:i<4
  ·rw[bp _ _ lh];exact(vx i lh).1
  ·rw[bW _ _ O];exact bR O O J<|bR O O J<|bR O O J<|aO O O J
 ·refine⟨?_,nD fun i hi=>?_⟩
  ·rcases(O:q=0\/q=1\/q=2\/q=3\/q=4\/q=5\/q=6\/q=7\/q=8)with rfl|rfl|rfl|rfl|rfl|rfl|rfl|rfl|rfl<;>kernel_rfl
  ·by_cases lh:i<4
   ·rw[bp _ _ lh];exact(vx i lh).2.2
   ·rw[bW _ _ O];show Nd.ak (cq 2 0 _ _)<=18;simp only[nC,kI];omega
 ·show ByteArray.size ⟨#[]⟩+((4+1)+aq (fun i=>(dL (cE oS) 4 _ i).cost) (4+1))<=_;simp only[aq];rcases(O:q=0\/q=1\/q=2\/q=3\/q=4\/q=5\/q=6\/q=7\/q=8)with rfl|rfl|rfl|rfl|rfl|rfl|rfl|rfl|rfl<;>decide
end
theorem Db (C K axe:Nat)(hC:C<=46184)(hK:K<=100000000)(hM:axe<=100)(BD:Ss 2 C K axe)(sb A:Nat)(w:World)(hA:A+(30*K+1000)<=1099511627776)(h:Src sb A w):
    Calls prog 11 #[.pointer<|some ⟨sb,0,none⟩] w fun e w'=>∃T a c,e=.returned (T.val<|.slice a T.q c)/\Drawn sb (A+(30*K+1000)) (fun T=>pa T=0/\T.ak<=19) 1000000 w T (.slice a T.q c) w':=by
  have HD:=Z<|DW.start h;have NX:=Z fun B W(hB:B+3<=1099511627776)(hd:DW sb B w W)(k:Nat)(z:k<=100)=>ep sb B k W hB O hd.src;have ew:sb<w.heap.size:=h.lt;have Jk:=Z BD;have di:=pJ;unfold aN at*
  clear h;go_enter func11,ntmps11
  go_wp2_with fail
  refine(vy _).mono ?_;rintro e w1⟨vb,rfl,kG,I⟩;rw[avs]at kG;have qh:=Z<|HD.o.calm I;obtain⟨gb,ub,rfl,hgb1,hgb2,kh⟩:∃g us,vb=.slice (some ⟨g,0,none⟩) 4 4/\w.heap.size+1<=g/\g<w1.heap.size/\Gw (w.heap.size+1) (cE oS) us (fun _=>w.heap.size+1) (fun _=>g) 4 (.slice (some ⟨g,0,none⟩) 4 4) w1:=C8 kG J;have Ys:=Z kh;clear I HD kG kh;go_wp2_with fail
  refine(cM _ _ _ _ _ _ _).mono ?_;rintro e w2⟨rfl,I⟩;have ed:=I.size;have eu:=qh.o.size;have PE0:Hid (PE sb A (7*C+250) w w2.heap.size 0<|w2.alloc<|eS 1 0 ⟨#[]⟩ (some ⟨gb,0,none⟩) 4 4):=by
    have bM:=bO w2<|eS 1 0 ⟨#[]⟩ (some ⟨gb,0,none⟩) 4 4;exact⟨cE oS,ub,_,_,some ⟨gb,0,none⟩,4,(qh.o.calm I).calm bM,O,avv w2 _,(Ys.o.calm I).calm bM,fun e=>by simp[Value.ownBlock]at e;omega,fun i hi=>.inr O,fun i hi=>vx i O,by show aq (fun i=>(cE oS i).cost) 4<=1000+0*_;have:=MT;omega⟩
  have zd:w2.heap.size≠sb:=O;clear I qh Ys;go_wp2_with fail
  go_loopw[4] (fun i wr=>∃(k:Nat),i=.int .i64 k/\k<=2/\PE sb (A+k*(13*K+30)) (7*C+250) w w2.heap.size k wr) (fun i _=>2-(intOf i).toNat)
  case atStart=>exact⟨0,rfl,O,by rw[Nat.zero_mul,Nat.add_zero];exact PE0.o⟩
  case round=>
    obtain⟨k,rfl,iR,Ts,us,s,e,ka,kc,hpi⟩:=hrel;have IK:=Z hpi;have E5:=hpi.low;clear hpi PE0;by_cases be:k<2
    · skip;have hki:(k:Int)<2:=O;have YO:k*(13*K+30)<=1*(13*K+30):=avQ _ O;have iV:(k+1)*(13*K+30)=k*(13*K+30)+(13*K+30):=by rw[awU,awg]
      rw[awg]at YO;have Ze:=Z iV;clear iV;generalize k*(13*K+30)=Y at YO IK Ze;go_wp2_with fail
      refine(Kf sb _ _ IK.o.dw.src).mono ?_;rintro e' w3⟨r,hr,rfl,SZ⟩;subst SZ;go_wp2_with fail
      refine(NX.o _ _ O IK.o.dw r O).mono ?_;rintro e' wX⟨q,hq,rfl,hs,z⟩;have hq4:q<=4:=O;have IJ:=Z<|IK.o.kp hs z;have hwq:IntKind.i64.wrap (2+(q:Int))=((2+q:Nat):Int):=by rw[gj O O];omega
      have hmk:(2+q)*K<=6*K:=avQ _ O;have hmc:(2+q)*C<=6*C:=avQ _ O;clear hs z IK;go_wp2_with fail
      refine(Jk.o sb (A+Y+3) 0 (2+q) (.slice none 0 0) false wX O O IJ.o.dw.src ⟨none,0,rfl,O,O,.inl rfl⟩).mono ?_;rintro e' wY⟨TB,uB,rfl,dB⟩;obtain⟨aB,cB,rfl⟩:=bh dB.row;have Ug:=Z<|IJ.o.dw.step dB.src dB.kp;have hzY:=dB.kp.size;have hzX:=IJ.o.dw.size;have RB:=Z<|ah (bO wY<|eS TB.y TB.E TB.z aB TB.q cB) lr dB.row;have YN:TB.q=2+q:=dB.ok.2.2;have hlB6:TB.q<=6:=O;obtain⟨wE,EW⟩:∃W,wY.alloc (eS TB.y TB.E TB.z aB TB.q cB)=W:=⟨_,rfl⟩;have Yq:Hid (Kp sb wX<|wY.alloc<|eS TB.y TB.E TB.z aB TB.q cB):=dB.kp.trans (b9 (bO wY _) _) fun _ _ h=>h;clear dB YN;unfold Nd.val;have Al:=Z<|Ug.o.alloc<|eS TB.y TB.E TB.z aB TB.q cB;have tE:=Z<|avv wY<|eS TB.y TB.E TB.z aB TB.q cB;have hzE:wY.heap.size+1<=wE.heap.size:=by rw[<-EW];simp
      rw[EW]at Al tE RB Yq;have TU:=Z EW;clear EW Ug;have pI:wY.heap.size≠sb:=O;have dR:wX.heap.size<=wE.heap.size:=O;go_upto_region 6 with fail
      rw[show(wY.alloc<|Obj.cells #[.int .i64 TB.y,.int .i64 TB.E,.string TB.z,.slice aB TB.q cB] 25)=wE from TU.o];clear TU;have lT:aq (fun i=>if i=1 then 3 else 0) 13=3:=by simp[aq]
      have Dz:sb<wE.heap.size:=O;refine dD di aaf NM (Nj sb wY.heap.size wE.heap.size wX.heap.size aB TB cB) (GS sb (A+Y+3+(2+q)*K+10) (fun i=>if i=1 then 3 else 0) 13 12 12 w wE (wY.heap.size)<|F6 sb (A+Y+3+(2+q)*K+10+3) wX.heap.size wY.heap.size TB w wE) (GS.start _ Al.o) ?_ ?_
      · intro l a v i hI hr;have I7:i<13:=(bx hr).1;have de:=(bx hr).2;have DK:l.size=13:=hI.aU;have HS:=Z hI.s;have pF:=km (fun i=>if i=1 then 3 else 0) l 13;rw[lT]at pF;have ml:=Z hI.shut;have dj:=Z fun(v':World)(hw:∀jj x,l.getD jj false=true->Nj sb wY.heap.size wE.heap.size wX.heap.size aB TB cB jj v x->Nj sb wY.heap.size wE.heap.size wX.heap.size aB TB cB jj v' x)(kJ:GS sb (A+Y+3+(2+q)*K+10) (fun i=>if i=1 then 3 else 0) 13 12 12 w wE (wY.heap.size) (F6 sb (A+Y+3+(2+q)*K+10+3) wX.heap.size wY.heap.size TB w wE) (l.setIfInBounds i true) v')(x:Value)(hx:Nj sb wY.heap.size wE.heap.size wX.heap.size aB TB cB i v' x)(cg:NM i<70)=>hI.put Sl hr cg hw kJ hx;have vS:=Z fun(v':World)(hw:∀jj x,l.getD jj false=true->Nj sb wY.heap.size wE.heap.size wX.heap.size aB TB cB jj v x->Nj sb wY.heap.size wE.heap.size wX.heap.size aB TB cB jj v' x)(kJ:GS sb (A+Y+3+(2+q)*K+10) (fun i=>if i=1 then 3 else 0) 13 12 12 w wE (wY.heap.size) (F6 sb (A+Y+3+(2+q)*K+10+3) wX.heap.size wY.heap.size TB w wE) (l.setIfInBounds i true) v')(hx:∀x,Nj sb wY.heap.size wE.heap.size wX.heap.size aB TB cB i v' x)=>hI.none hr hw kJ hx;have bJ:=Z fun(j:Nat)(hj:j<13)(hl:l.getD j false=true)=>hI.bl j hj hl;have bC:=gT hr;have s0:a.tmps[0]?.getD undef=.pointer (some ⟨sb,0,none⟩):=ae<|hI.keep 0 (by intro i hi;have h2:i<13:=hi;show 0≠NM i;have:((List.range 13).all fun i=>decide<|NM i≠0)=true:=J;have h3:=avE.1 this i<|avG.2 h2;simp at h3;exact fun e=>h3 e.symm);have s5:a.tmps[5]?.getD undef=.pointer (some ⟨wY.heap.size,0,none⟩):=ae<|hI.keep 5 (by intro i hi;have h2:i<13:=hi;show 5≠NM i;have:((List.range 13).all fun i=>decide<|NM i≠5)=true:=J;have h3:=avE.1 this i<|avG.2 h2;simp at h3;exact fun e=>h3 e.symm);clear hI hr;rcases(O:i=0\/i=1\/i=2\/i=3\/i=4\/i=5\/i=6\/i=7\/i=8\/i=9\/i=10\/i=11\/i=12)with rfl|rfl|rfl|rfl|rfl|rfl|rfl|rfl|rfl|rfl|rfl|rfl|rfl;all_goals(refine gR rfl rfl ?_)
        · exact Y1
        · have wM:=ae<|show a.eval (.tmp 19)=.pointer (some ⟨sb,0,none⟩)from ag bJ bC 0 rfl;have aoZ:=kk;exact Rm
        · obtain⟨q2,jP,hx⟩:∃q:Nat,q<2/\a.eval (.tmp 20)=.int .i64 (q:Int):=ag bJ bC 1 rfl;have wK:=ae hx;clear hx;have ao0:=kk;exact Rm
        · obtain⟨q2,jP,hx⟩:∃q:Nat,q<2/\a.eval (.tmp 21)=.agg #[.int .i64 22,.int .i64 (q:Int),.string ⟨#[]⟩,.slice none 0 0]:=ag bJ bC 2 rfl;have uK:=ae hx;clear hx;have aoR:=kk;exact Xo
        · obtain⟨T3,a3,c3,LG,Lq,Lz⟩:LV wE.heap.size (fun T=>∃q:Nat,q<2/\T=cq 0 0 ⟨#[]⟩ (aC 22 q ⟨#[]⟩)) v (a.eval<|.tmp 22):=ag bJ bC 3 rfl;obtain⟨q2,jP,rfl⟩:=LG;have Af:=ae Lq;have HR:=Z Lz;clear Lq Lz;have aoY:=kk;exact Rm
        · obtain⟨T4,a4,c4,hp4,SW,EZ⟩:TV wE.heap.size (fun T=>∃q:Nat,q<2/\T=PJ q) v (a.eval<|.tmp 23):=ag bJ bC 4 rfl;obtain⟨q2,jP,rfl⟩:=hp4;have vP:=ae SW;unfold Nd.val at vP;have HR:=Z EZ;clear SW EZ;have aoS:=kk;exact Xo
        · obtain⟨T5,a5,c5,hp5,NP,Ta⟩:LV wE.heap.size (fun T=>∃q:Nat,q<2/\T=cq 0 0 ⟨#[]⟩ (PJ q)) v (a.eval<|.tmp 24):=ag bJ bC 5 rfl;obtain⟨q2,jP,rfl⟩:=hp5;have zp:=ae NP;have HR:=Z Ta;clear NP Ta;have ao1:=kk;exact Rm
        · obtain⟨T6,a6,c6,hp6,SV,hr6⟩:TV wE.heap.size (fun T=>∃q:Nat,q<2/\T=qQ q) v (a.eval<|.tmp 25):=ag bJ bC 6 rfl;obtain⟨q2,jP,rfl⟩:=hp6;have wJ:=ae SV;unfold Nd.val at wJ;have HR:=Z hr6;clear SV hr6;have aoT:=kk;exact Xo
        · exact Y1
        · have wy:=ae<|show a.eval (.tmp 27)=.pointer (some ⟨wY.heap.size,3,none⟩)from ag bJ bC 8 rfl;have ao8:=kk;exact Xn
        · obtain⟨A3,u3,g3,⟨q2,jP,rfl⟩,oD,hx,Qd⟩:GV wE.heap.size (fun T=>∃q:Nat,q<2/\T=qQ q) v (a.eval<|.tmp 26):=ag bJ bC 7 rfl;have zo:a.eval (.tmp 28)=.slice aB TB.q cB:=ag bJ bC 9 rfl;have ao6:=kk;exact aeK
        · exact Y1
        · have h30:=ae<|show a.eval (.tmp 30)=.pointer (some ⟨wY.heap.size,3,none⟩)from ag bJ bC 11 rfl;obtain⟨Ts2,Zr,s2,e2,a2,c2,hx,kh,⟨q2,jP,rfl⟩,Bp,CC⟩:AV wX.heap.size wY.heap.size (1+TB.q) (fun Ts=>∃q:Nat,q<2/\Ts=dL (fun _=>qQ q) 1 TB.f) v (a.eval<|.tmp 29):=ag bJ bC 10 rfl;have vO:=ae hx;have bQ:=dh de;obtain⟨eC,eD⟩:=HS.o.pre bQ;have o8:=bc tE.o pI eD;obtain⟨z0,z1,z2,z3,zf⟩:=al o8;have Uj:=zf 3;have HF6:Hid (F6 sb (A+Y+3+(2+q)*K+10+3) wX.heap.size wY.heap.size TB w wE<|v.setCell ⟨wY.heap.size,3,none⟩<|.slice a2 (1+TB.q) c2):=⟨q2,jP,(show DW sb (A+Y+3+(2+q)*K+10+3) w v from⟨eC.src.mono O,eC.kp,eC.low⟩).put _ _ _ O,fun k h1 h2 h3=>(avz _ _ _ _ (by show k≠wY.heap.size;exact h3)).trans<|eD.block k h1 h2,abk,Zr,s2,e2,a2,c2,(avD v wY.heap.size 3 _ 25 (.slice a2 (1+TB.q) c2) o8).trans rfl,kh.put Bp CC,CC 0 O⟩;clear hx eC eD o8 kh zf;go_simp;exact vS.o _ (fun j x _ hx=>X3 O j x hx) (GS.store O (.inl rfl) HF6.o) fun _=>trivial
      · intro a v cg mP cQ wu fP;obtain⟨l,hS,bl⟩:=wu;have HF:=Z<|hS.fin<|bl 12 J;rw[gh (n:=13) cg mP cQ];generalize (fun i=>a.eval<|.tmp<|NM i)=ff;clear cg mP cQ fP hS bl;simp only[jV,Act.put,NM,getD_cons_zero,getD_cons_succ,setIfInBounds_toArray,set_cons_succ,set_cons_zero,set_nil];obtain⟨q2,jP,eC,gN,P4,Zr,s2,e2,la,lc,iY,kh,hs20⟩:=HF.o;have R0:=Z<|IJ.o.dw.dB eC O fun k h1 h2=>(gN k O h2 O).trans<|Yq.o.block k h1 h2;have HPG:=Z<|IJ.o.kp eC.src R0.o;have Jg:=Z iY;have hzG:=(avp.1 iY).1;obtain⟨kd0,kd1,kd2,kd3⟩:=Gw.kd (sb:=sb) kh O O;have KD0:Hid (KD sb (s2 0) (e2 0) (qQ q2) la v):=kd0;have hobX:=(avp.1 IJ.o.bo).1;obtain⟨wG,SY⟩:∃W,W=v:=⟨_,rfl⟩;rw[<-SY]at HPG Jg hzG KD0 kd3 R0⊢;clear eC kh HF iY tE Al RB SY gN Yq P4 kd0;obtain⟨x0,x1,x2,x3,xf⟩:=al Jg.o;go_wp2_with fail
        refine(Nf C K axe O hK hM Jk.o sb (A+Y+3+(2+q)*K+10+3) (s2 0) (e2 0) (cC (qQ q2) TB) la lc wG O (by show 1<=1+TB.q;omega) (by show 1+TB.q<=7;omega) HPG.o.dw.src O kd2 kd3 KD0.o (QV q2 jP)).mono ?_;rintro e' wH⟨jb,Tb,ubb,sbb,ebb,ET,Bb,rfl,hgwb,Td,Tk,Tv,hsrc,eD⟩;have HPH:=Z (HPG.o.kp hsrc eD);have HBH:=Z (bc Jg.o pI eD);have hzH:=eD.size;have BLK:=Z Tv;have hgwP:=hgwb.keep (w':=dn wH wY.heap.size 4 0 ⟨#[]⟩ (.slice ET jb Bb)) aa5 (fun k _ _ hh=>et wH _ _ _ _ _ k (by
          rcases hh with hh|⟨i,hi,h1,h2⟩
          · have:=Td k hh;omega
          · have:=Tk i hi;omega))
        have RLP:=Z<|(hgwP.ck kd1).row lr 4 0 ⟨#[]⟩;have HBP:=Z<|Pp 4 0 ⟨#[]⟩ ET jb Bb HBH.o;have hzP:=fG wH wY.heap.size 4 0 ⟨#[]⟩<|.slice ET jb Bb;have DWP:=Z<|HPH.o.dw.any (W':=dn wH wY.heap.size 4 0 ⟨#[]⟩<|.slice ET jb Bb) rfl rfl rfl (by rw[hzP];exact avF _) fun k z=>et wH _ _ _ _ _ k O;have N8:=Z<|IJ.o.kp DWP.o.src<|IJ.o.dw.dB DWP.o O fun k h1 h2=>(et wH _ _ _ _ _ k O).trans<|(eD.block k (by have:=R0.o.size;omega) h2).trans<|R0.o.block k h1 h2;obtain⟨y0,y1,y2,y3,yf⟩:=al HBH.o;have yf0:=yf 0;have yf1:=yf 1;have yf2:=yf 2;have yf3:=yf 3;obtain⟨wP,hwP⟩:∃W,dn wH wY.heap.size 4 0 ⟨#[]⟩ (.slice ET jb Bb)=W:=⟨_,rfl⟩;rw[hwP]at RLP HBP DWP N8 hzP;have HWP:=Z hwP;have hzP2:wH.heap.size<=wP.heap.size:=O;clear hwP hgwP hgwb Td Tk Tv hsrc eD HPH HPG Jg KD0 R0 x0 x1 x2 x3 xf yf hzP;go_upto_region 8 with fail
        rw[show((((wH.setCell ⟨wY.heap.size,0,none⟩<|.int .i64 4).setCell ⟨wY.heap.size,1,none⟩<|.int .i64 0).setCell ⟨wY.heap.size,2,none⟩<|.string ⟨#[]⟩).setCell ⟨wY.heap.size,3,none⟩<|.slice ET jb Bb)=wP from HWP.o];clear HWP y0 y1 y2 y3 yf0 yf1 yf2 yf3 HBH;have Cy:(cP<|bS 20 k).size<=1000:=by have:=mH 20 k;rw[ov];omega
        have DG:=Z fun W=>zB k W O;have S5:aq (fun _=>0) 12=0:=by simp[aq]
        refine dD di aaf IZ (Ni w2.heap.size wX.heap.size (w.heap.size+1) (7*C+250) (4+k) k Ts ka ET kc Bb<|Nd.mk 4 0 ⟨#[]⟩ jb Tb) (GS sb (A+Y+3+(2+q)*K+10+3+(7*K+10)) (fun _=>0) 12 9 11 w wP (w2.heap.size)<|PE sb (A+Y+3+(2+q)*K+10+3+(7*K+10)) (7*C+250) w w2.heap.size<|k+1) (GS.start _ N8.o.dw) ?_ ?_
        · intro l a v i hI hr;have I7:i<12:=(bx hr).1;have de:=(bx hr).2;have DK:l.size=12:=hI.aU;have HS:=Z hI.s;have pF:=km (fun _=>0) l 12;rw[S5]at pF;have ml:=Z hI.shut;have dj:=Z fun(v':World)(hw:∀jj x,l.getD jj false=true->Ni w2.heap.size wX.heap.size (w.heap.size+1) (7*C+250) (4+k) k Ts ka ET kc Bb (Nd.mk 4 0 ⟨#[]⟩ jb Tb) jj v x->Ni w2.heap.size wX.heap.size (w.heap.size+1) (7*C+250) (4+k) k Ts ka ET kc Bb (Nd.mk 4 0 ⟨#[]⟩ jb Tb) jj v' x)(kJ:GS sb (A+Y+3+(2+q)*K+10+3+(7*K+10)) (fun _=>0) 12 9 11 w wP (w2.heap.size) (PE sb (A+Y+3+(2+q)*K+10+3+(7*K+10)) (7*C+250) w w2.heap.size<|k+1) (l.setIfInBounds i true) v')(x:Value)(hx:Ni w2.heap.size wX.heap.size (w.heap.size+1) (7*C+250) (4+k) k Ts ka ET kc Bb (Nd.mk 4 0 ⟨#[]⟩ jb Tb) i v' x)(cg:IZ i<70)=>hI.put Sk hr cg hw kJ hx;have vS:=Z fun(v':World)(hw:∀jj x,l.getD jj false=true->Ni w2.heap.size wX.heap.size (w.heap.size+1) (7*C+250) (4+k) k Ts ka ET kc Bb (Nd.mk 4 0 ⟨#[]⟩ jb Tb) jj v x->Ni w2.heap.size wX.heap.size (w.heap.size+1) (7*C+250) (4+k) k Ts ka ET kc Bb (Nd.mk 4 0 ⟨#[]⟩ jb Tb) jj v' x)(kJ:GS sb (A+Y+3+(2+q)*K+10+3+(7*K+10)) (fun _=>0) 12 9 11 w wP (w2.heap.size) (PE sb (A+Y+3+(2+q)*K+10+3+(7*K+10)) (7*C+250) w w2.heap.size<|k+1) (l.setIfInBounds i true) v')(hx:∀x,Ni w2.heap.size wX.heap.size (w.heap.size+1) (7*C+250) (4+k) k Ts ka ET kc Bb (Nd.mk 4 0 ⟨#[]⟩ jb Tb) i v' x)=>hI.none hr hw kJ hx;have bJ:=Z fun(j:Nat)(hj:j<12)(hl:l.getD j false=true)=>hI.bl j hj hl;have bC:=gT hr;have s3:a.tmps[3]?.getD undef=.pointer (some ⟨w2.heap.size,0,none⟩):=ae<|hI.keep 3 (by intro i hi;have h2:i<12:=hi;show 3≠IZ i;have:((List.range 12).all fun i=>decide<|IZ i≠3)=true:=J;have h3:=avE.1 this i<|avG.2 h2;simp at h3;exact fun e=>h3 e.symm);have s4:a.tmps[4]?.getD undef=.int .i64 (k:Int):=ae<|hI.keep 4 (by intro i hi;have h2:i<12:=hi;show 4≠IZ i;have:((List.range 12).all fun i=>decide<|IZ i≠4)=true:=J;have h3:=avE.1 this i<|avG.2 h2;simp at h3;exact fun e=>h3 e.symm);have s5:a.tmps[5]?.getD undef=.pointer (some ⟨wY.heap.size,0,none⟩):=ae<|hI.keep 5 (by intro i hi;have h2:i<12:=hi;show 5≠IZ i;have:((List.range 12).all fun i=>decide<|IZ i≠5)=true:=J;have h3:=avE.1 this i<|avG.2 h2;simp at h3;exact fun e=>h3 e.symm);clear hI hr;rcases(O:i=0\/i=1\/i=2\/i=3\/i=4\/i=5\/i=6\/i=7\/i=8\/i=9\/i=10\/i=11)with rfl|rfl|rfl|rfl|rfl|rfl|rfl|rfl|rfl|rfl|rfl|rfl;all_goals(refine gR rfl rfl ?_)
          · exact Y1
          · have h34:=ae<|show a.eval (.tmp 34)=.pointer (some ⟨w2.heap.size,3,none⟩)from ag bJ bC 0 rfl;have ao4:=kk;exact Rl
          · exact Y1
          · have h36:=ae<|show a.eval (.tmp 36)=.int .i64 (k:Int)from ag bJ bC 2 rfl;have ao3:=kk;exact Rl
          · have h37:=ae<|show a.eval (.tmp 37)=.string (cP<|bS 20 k)from ag bJ bC 3 rfl;have h4:ByteArray.size ⟨#[84,101,115,116]⟩=4:=J;have hadd:¬(ByteArray.size ⟨#[84,101,115,116]⟩+(cP<|bS 20 k).size>9223372036854775807):=O;have hadd2:¬(9223372036854775807<ByteArray.size ⟨#[84,101,115,116]⟩+(cP<|bS 20 k).size):=hadd;have hadd3:¬(9223372036854775807<4+(cP<|bS 20 k).size):=O;have hadds:=fun W=>run_string_add_sum (P:=prog) (w:=W) ⟨#[84,101,115,116]⟩ (cP<|bS 20 k) O;go_simp;exact dj.o v (fun _ _ _ h=>h) (HS.o.same O de J J rfl) (.string<|(⟨#[84,101,115,116]⟩:ByteArray)++cP (bS 20 k)) rfl J
          · have ao5:=kk;exact Rl
          · have h39:=ae<|show a.eval (.tmp 39)=.agg #[.int .i64 (Nd.mk 4 0 ⟨#[]⟩ jb Tb).y,.int .i64 (Nd.mk 4 0 ⟨#[]⟩ jb Tb).E,.string (Nd.mk 4 0 ⟨#[]⟩ jb Tb).z,.slice ET (Nd.mk 4 0 ⟨#[]⟩ jb Tb).q Bb]from ag bJ bC 5 rfl;have aoN:=kk;exact aeF
          · have h38:=ae<|show a.eval (.tmp 38)=.string (wW k)from ag bJ bC 4 rfl;obtain⟨T6,a6,c6,hp6,SV,hr6⟩:LV wX.heap.size (fun T=>T=cq 0 0 ⟨#[]⟩ (Nd.mk 4 0 ⟨#[]⟩ jb Tb)) v (a.eval<|.tmp 40):=ag bJ bC 6 rfl;subst hp6;have h40:=ae SV;have HR:=Z hr6;clear SV hr6;have ao2:=kk;exact Rl
          · obtain⟨T7,a7,c7,hp7,hx7,hr7⟩:TV wX.heap.size (Of<|7*C+250) v (a.eval<|.tmp 41):=ag bJ bC 7 rfl;have h41:=ae hx7;unfold Nd.val at h41;have HR:=Z hr7;have aoO:=kk;exact aeF
          · have h35:a.eval (.tmp 35)=.slice ka (4+k) kc:=ag bJ bC 1 rfl;obtain⟨T3,a3,c3,⟨A3,LG,rfl⟩,hx,Lz⟩:LV wX.heap.size (fun T=>∃A,Of (7*C+250) A/\T=cq 0 0 ⟨#[]⟩ A) v (a.eval<|.tmp 42):=ag bJ bC 8 rfl;have bQ:=dh de;have ba:=eB (f:=40) (j:=11) ml.o aaf de;obtain⟨eC,eD⟩:=HS.o.pre bQ;have j4:wX.heap.size<=v.heap.size:=by have:=eD.size;omega
            obtain⟨xj,v2,ec,aQ,fI⟩:=PI.join (N8.o.gw.kp (sb:=sb) O eD) N8.o.ne N8.o.ap Lz LG O O j4 lr (fun g hg=>(IJ.o.gw.own.lt g hg).2) O;refine mn rfl h35 hx (ec _) ?_;exact dj.o v2 (vE (Wn.bf aQ fun k z=>(IJ.o.gw.own.lt k z).2) bQ ba) (HS.o.join O de J ba O zd aQ fun k z=>⟨by have:=(IJ.o.gw.own.lt k z).1;omega,fun e=>IJ.o.ne<|e▸z⟩) _ fI J
          · exact Y1
          · have h44:=ae<|show a.eval (.tmp 44)=.pointer (some ⟨w2.heap.size,3,none⟩)from ag bJ bC 10 rfl;have fI:AV (w.heap.size+1) w2.heap.size (4+k+1) (fun Us=>∃A,Of (7*C+250) A/\Us=dL Ts (4+k) (cq 0 0 ⟨#[]⟩ A).f) v (a.eval<|.tmp 43):=ag bJ bC 9 rfl;have wg:l.getD 9 false=true:=bC.o _ rfl ⟨9,Ground.data⟩ M rfl;obtain⟨eC,ju⟩:=HS.o.db wg<|dh de;rw[S5]at eC;have o8:=ju.trans N8.o.bo;obtain⟨z0,z1,z2,z3,zf⟩:=al o8;have Uj:=zf 3;obtain⟨a2,c2,hx,I3⟩:=PI.done eC E5 o8 fI N8.o.ok N8.o.sum;have h43:=ae hx;have Yu:=Z I3;clear hx eC ju o8 fI I3 zf;go_simp;exact vS.o _ (fun j x _ hx=>X2 O j x hx) (GS.store O (.inr wg) Yu.o) fun _=>trivial
        · intro a v cg mP cQ wu fP;obtain⟨l,hS,bl⟩:=wu;have HF:=Z<|hS.fin<|bl 11 J;rw[gh (n:=12) cg mP cQ];generalize (fun i=>a.eval<|.tmp<|IZ i)=ff;clear cg mP cQ fP hS bl;simp only[jV,Act.put,IZ,getD_cons_zero,getD_cons_succ,setIfInBounds_toArray,set_cons_succ,set_cons_zero,set_nil];have HPE:=Z<|PI.more (A':=A+(k+1)*(13*K+30)) HF.o (by rw[Ze.o];omega);clear HF N8 IJ;go_wp2;exact⟨⟨k+1,by go_num,O,HPE.o⟩,by simp[intOf];omega⟩
    · skip;obtain rfl:k=2:=O;have hki:¬(((2:Nat):Int)<2):=O;have hsum2:aq (fun i=>(Ts i).cost) 6<=1000+2*(7*C+250):=IK.o.sum;have VJ:wr.heap[w2.heap.size]?=some (eS 1 0 ⟨#[]⟩ ka 6 kc):=IK.o.bo;obtain⟨o0,o1,o2,o3,of⟩:=al VJ;have Fa:(Nd.mk 1 0 ⟨#[]⟩ 6 Ts).R:=⟨O,O,J,O,fun i hi=>(IK.o.ok i hi).1⟩;have iW:(Nd.mk 1 0 ⟨#[]⟩ 6 Ts).cost<=1000000:=by
        show ByteArray.size ⟨#[]⟩+(6+aq (fun i=>(Ts i).cost) 6)<=_;have e0:ByteArray.size ⟨#[]⟩=0:=J;omega
      have LZ:∀i,i<6->b6 (Ts i)=true:=fun i hi=>(IK.o.ok i hi).2.1;have HHG:Hid ((Nd.mk 1 0 ⟨#[]⟩ 6 Ts).ak<=19):=nD fun i hi=>(IK.o.ok i hi).2.2;have HFUN:=Z LZ;have fM:=IK.o.gw.row (lo:=w.heap.size+1) lr 1 0 ⟨#[]⟩;have sU:Hid (Row (w.heap.size+1) wr.heap.size wr (Nd.mk 1 0 ⟨#[]⟩ 6 Ts)<|.slice ka 6 kc):=fM;have LEFT:=Z fun W(I:Below wr.heap.size wr W)=>A7 (Nd.mk 1 0 ⟨#[]⟩ 6 Ts) W 600 (.slice ka 6 kc) wr.heap.size Fa I.size (ah I lr<|aY sU.o (avL _) lr) O;have ALL:=Z fun(ht:cJ (Nd.mk 1 0 ⟨#[]⟩ 6 Ts)=true)W(I:Below wr.heap.size wr W)=>Nc (Nd.mk 1 0 ⟨#[]⟩ 6 Ts) W (.slice ka 6 kc) wr.heap.size ht Fa I.size (ah I lr<|aY sU.o (avL _) lr) O;have HFC:=Z<|And.intro Fa iW;have Jf:=Z IK.o.dw;have HOX:=Z VJ;clear Fa iW LZ fM VJ IK;go_wp2_with fail
      refine(LEFT.o wr<|avB _ _).mono ?_;rintro e' wL⟨rfl,I⟩;have CK:=Z I;clear I LEFT;by_cases cg:(Nd.mk 1 0 ⟨#[]⟩ 6 Ts).size<=600
      · have hl:o4 (Nd.mk 1 0 ⟨#[]⟩ 6 Ts).size 600=((600-(Nd.mk 1 0 ⟨#[]⟩ 6 Ts).size:Nat):Int):=avA cg;rw[hl];have ht:cJ (Nd.mk 1 0 ⟨#[]⟩ 6 Ts)=true:=by
          unfold cJ;have h6:aD (fun i=>b6<|Ts i) 6=true:=eZ HFUN.o;have e0:ao ⟨#[]⟩=true:=aaf;simp only[Nd.y,Nd.E,Nd.z,Nd.q,Nd.f,h6,e0,cg,decide_true,Bool.and_true]
        have HT:=Z ht;clear ht;generalize (600-(Nd.mk 1 0 ⟨#[]⟩ 6 Ts).size)=lf;have Bn:¬((lf:Int)<0):=O;have oL:=al<|aW HOX.o CK.o;obtain⟨p0,p1,p2,p3,pf⟩:=oL;go_wp2_with fail
        refine(ALL.o HT.o wL CK.o).mono ?_;rintro e' wA⟨cb,rfl,hd⟩;have zW:=Z<|CK.o.trans<|hd.below.mono CK.o.size;cases hM:iJ (Nd.mk 1 0 ⟨#[]⟩ 6 Ts)with
        | ok X=>
          have hc:wA.cell? ⟨cb,5,none⟩=some (.int .i64 0):=by have:=hd.code;rw[hM]at this;exact this
          have tC:Hid (pa (Nd.mk 1 0 ⟨#[]⟩ 6 Ts)=0):=by unfold Hid pa;rw[HT.o,hM];rfl
          have CJ:=Z<|Jf.o.calm zW.o;obtain⟨r0,r1,r2,r3,rf⟩:=al<|aW HOX.o zW.o;obtain⟨f0,f1,f2,f3,ff⟩:=CJ.o.cells;have HRA:=Z<|aY (ah zW.o lr sU.o) lr zW.o.size;clear hd hM ALL;go_wp2;refine avr (CJ.o.read results11 rfl _ _ _ _) rfl ⟨Nd.mk 1 0 ⟨#[]⟩ 6 Ts,ka,kc,rfl,?_⟩;exact(CJ.o.fin (P:=fun T=>pa T=0/\T.ak<=19) (C:=1000000) HRA.o HFC.o.1 ⟨tC.o,HHG.o⟩ HFC.o.2).more O
        | error p=>
          have hc:wA.cell? ⟨cb,5,none⟩=some (.int .i64 p.1):=by have:=hd.code;rw[hM]at this;exact this
          have hnz:p.1≠0:=hd.nz p hM;have hnz2:(p.1==0)=false:=bn hnz;have hnz3:(p.1 !=0)=true:=by simp[bne,hnz2]
          have CJ:=Z<|Jf.o.calm zW.o;clear hd hM ALL;have hzW:=CJ.o.size;go_wp2_with fail
          refine(vy _).mono ?_;rintro e' v1⟨vb,rfl,kG,I⟩;have tD:=Z<|CJ.o.calm I;obtain⟨gq,uq,rfl,hgq1,hgq2,kh⟩:∃g us,vb=.slice (some ⟨g,0,none⟩) 4 4/\wA.heap.size<=g/\g<v1.heap.size/\Gw wA.heap.size (cE oS) us (fun _=>wA.heap.size) (fun _=>g) 4 (.slice (some ⟨g,0,none⟩) 4 4) v1:=C8 kG J;have G1:=Z (kh.ck<|show w.heap.size+1<=wA.heap.size by omega);exact aew
      · have hl:o4 (Nd.mk 1 0 ⟨#[]⟩ 6 Ts).size 600=-1:=avo cg;rw[hl];have HDL:=Z<|Jf.o.calm CK.o;clear ALL;have hzW:=HDL.o.size;go_wp2_with fail
        refine(vy _).mono ?_;rintro e' v1⟨vb,rfl,kG,I⟩;have tD:=Z<|HDL.o.calm I;obtain⟨gq,uq,rfl,hgq1,hgq2,kh⟩:∃g us,vb=.slice (some ⟨g,0,none⟩) 4 4/\wL.heap.size<=g/\g<v1.heap.size/\Gw wL.heap.size (cE oS) us (fun _=>wL.heap.size) (fun _=>g) 4 (.slice (some ⟨g,0,none⟩) 4 4) v1:=C8 kG J;have G1:=Z (kh.ck<|show w.heap.size+1<=wL.heap.size by omega);exact aew
theorem qN :CM 1 0 100 100:=by have apt:=kk;exact aeQ
theorem QK :CM 2 0 100 100:=by have apu:=kk;exact aeQ
theorem Fm (deep:Int)(C K:Nat)(h0:0<deep)(h9:deep<=100)(hC:C<=100000)(hK:K<=100000)(IHI:CM 1 (deep-1) C K)(IHB:CM 2 (deep-1) C K):CM 2 deep (2*C+100) (2*K+100):=by have apr:=kk;exact aeP
theorem Mr (deep:Int)(C K:Nat)(h0:0<deep)(h9:deep<=100)(hC:C<=100000)(hK:K<=100000)(IHI:CM 1 (deep-1) C K):CM 1 deep (2*C+100) (2*K+100):=by have aps:=kk;exact aeP
theorem u6 :CM 1 1 300 300:=Mr 1 100 100 O O O O qN
theorem Mt :CM 1 2 700 700:=Mr 2 300 300 O O O O u6
theorem ex2_1 :CM 2 1 300 300:=Fm 1 100 100 O O O O qN QK
theorem Ms :CM 2 2 700 700:=Fm 2 300 300 O O O O u6 ex2_1
theorem st_0 :STC 0 1000 2000 3:=J3 0 0 0 0 0 0 0 1000 O O O O O O O O qN u6 Mt Ms (fun h=>absurd h O) fun h=>absurd h O
theorem bd_0 :Ss 0 1041 2000 3:=zN 0 1000 2000 3 O O O O st_0
theorem sl_1 :SLC 1 7449 13000 6:=xn 1 1041 2000 3 O O O O u6 bd_0
theorem st_1 :STC 1 7449 23000 12:=J3 1 1041 2000 3 7449 13000 6 7449 O O O O O O O O qN u6 Mt Ms (fun _=>bd_0) fun _=>sl_1
theorem bd_1 :Ss 1 7490 23000 12:=zN 1 7449 23000 12 O O O O st_1
theorem sl_2 :SLC 2 46143 139000 15:=xn 2 7490 23000 12 O O O O u6 bd_1
theorem st_2 :STC 2 46143 233000 30:=J3 2 7490 23000 12 46143 139000 15 46143 O O O O O O O O qN u6 Mt Ms (fun _=>bd_1) fun _=>sl_2
theorem bd_2 :Ss 2 46184 233000 30:=zN 2 46143 233000 30 O O O O st_2
end Go.Proofs.YtgcmhaghebhjnaaGreatDoor
