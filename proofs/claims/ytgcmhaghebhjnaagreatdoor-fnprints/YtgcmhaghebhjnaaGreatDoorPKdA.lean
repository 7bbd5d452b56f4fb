import Derived.Test.YtgcmhaghebhjnaaGreatDoorPKaBase
import Derived.BigQuiet
import Derived.Deep.RegionLaw
import Derived.Deep.AppendLies
import Derived.StillTailTactics
import Derived.Deep.LoopGhost
set_option linter.unusedVariables false
set_option maxHeartbeats 16000000
set_option maxRecDepth 100000
namespace Go.Proofs.YtgcmhaghebhjnaaGreatDoor
open Go.RowKit Tryz List
variable {A B T:Nd} {P:Program} {a:Option Addr} {ai:Option Nat} {base cap i j k len n p:Nat} {code deep loops' outs' place ret' t x:Int} {e:Nat->Bool} {g:Nat->Nat} {u v vv:Value} {w w' w0 w1:World} {xs:List Value} {zs:List Int}
variable {G :Prop}
theorem abt (h:G:=by have aiv:=kk;exact Ry):G:=h
theorem abu (h:G:=by have aiw:=kk;exact Ry):G:=h
theorem abD (h:G:=by have ain:=kk;exact XV):G:=h
theorem abM (h:G:=by obtain⟨s1,h3,h4⟩:=bw h1;injection h4 with h4;subst h4;have:=Fi (g:=fun i=>(T.f i).size) (fun i hi=>(ih i hi (he i hi)).want _) lr _ _ h3;exact⟨this.1,by rw[this.2];omega⟩):G:=h
theorem abO (h:G:=by obtain⟨s1,h3,h4⟩:=bw h1;injection h4 with h4;subst h4;have:=aZ 0 O he _ _ _ h3;rw[hl]at hz;simp only[aq]at hz;exact⟨this.1,by rw[this.2];omega⟩):G:=h
theorem abP (h:G:=by unfold dW;rw[avo O,avo O,avo O,avo O,avo O,avA z,mN];rfl):G:=h
theorem abQ (h:G:=by injection e1 with e1;injection e1 with e1;have:=congrArg (fun a:Array Value=>a[7]?) e1;simpa[SK.cells]using this.symm):G:=h
theorem abR (h:G:=by have ht:=cr s;have YJ:(az s).1=s.1:=rfl;rw[a1,YJ];exact⟨rfl,rfl,O,O⟩):G:=h
theorem abS (h:G:=by unfold dW;rw[avo O,avo O,avo O,avo O,avA z,hl];rfl):G:=h
theorem abT (h:G:=by rw[hl]at hz;simp only[aq]at hz;exact⟨rfl,by show(az s).2.length=_;omega⟩):G:=h
theorem Rz (h:G:=by rw[hz];exact((hE 0 O he).want _).st.take s s' hs e):G:=h
theorem abv (h:G:=by have ahW:=kk;exact abC):G:=h
theorem XY (h:G:=by unfold dW;rw[avo O,avo O,avo O,avo O,avo O,avo O,avo O,avo (by rw[bY];simp)];rw[Br];exact MQ):G:=h
theorem abw (h:G:=by have ahS:=kk;exact abA):G:=h
theorem abx (h:G:=by have ahT:=kk;exact abA):G:=h
theorem aby (h:G:=by have ahU:=kk;exact abB):G:=h
theorem abz (h:G:=by rw[oC];have ahV:=kk;exact abB):G:=h
theorem abA (h:G:=by rw[oC];have aie:=kk;exact abJ):G:=h
theorem abB (h:G:=by have aif:=kk;exact abJ):G:=h
theorem abC (h:G:=by have ail:=kk;exact abN):G:=h
theorem abE (h:G:=by
 have dy:=Z fun o=>j8 T (w.alloc o) _ K.lo s.2.length hN.aA aah (ah (hS.box o) lr hN.row) hN.cost O;have jS:=Z fun(w1:World)(u:Value)(t:TypeId)I ha=>pB (w1:=w1) (T:=T) (v:=.slice (some ⟨g,off,none⟩) T.q cap) (p:=s.2.length) (u:=u) (t:=t) hS I ha;have CF:=Z fun(w1:World)(own1:Option Nat)(b:Nat)(u:Value)(hg:SGo K w w1 own1 b T (.slice (some ⟨g,off,none⟩) T.q cap) u s.2.length)(W:World)(σ:CR CS)(r l o:Int)(q:Nat)(ty:Int)(hW:SS K w1 own1 σ r l o W)(ha:SAt K (T.f 0) σ q)=>om (ih 0 O) K w1 own1 σ r l o W u0 q ty hW (hg.env hE hW) ((hN.a7 O dR).later<|hg.below _ _ _ _ _ hW) ha fz;have RN:=Z fun(w1:World)(own1:Option Nat)(b:Nat)(u:Value)(hg:SGo K w w1 own1 b T (.slice (some ⟨g,off,none⟩) T.q cap) u s.2.length)(W:World)(σ:CR CS)(r l o:Int)(q:Nat)(hW:SS K w1 own1 σ r l o W)(ha:SAt K (T.f 0) σ q)=>nl (ih 0 O) K w1 own1 σ r l o W u0 q hW (hg.env hE hW) ((hN.a7 O dR).later<|hg.below _ _ _ _ _ hW) ha fz;first
 |clear ahY
  have N1:=Z fun(w1:World)(own1:Option Nat)(b:Nat)(u:Value)(hg:SGo K w w1 own1 b T (.slice (some ⟨g,off,none⟩) T.q cap) u s.2.length)(W:World)(σ:CR CS)(r l o:Int)(q:Nat)(ty:Int)(hW:SS K w1 own1 σ r l o W)(ha:SAt K (T.f 1) σ q)=>om (ih 1 O) K w1 own1 σ r l o W u1 q ty hW (hg.env hE hW) ((hN.a7 O fQ).later<|hg.below _ _ _ _ _ hW) ha mZ;have HV1:=Z fun(w1:World)(own1:Option Nat)(b:Nat)(u:Value)(hg:SGo K w w1 own1 b T (.slice (some ⟨g,off,none⟩) T.q cap) u s.2.length)(W:World)(σ:CR CS)(r l o:Int)(q:Nat)(hW:SS K w1 own1 σ r l o W)(ha:SAt K (T.f 1) σ q)=>nl (ih 1 O) K w1 own1 σ r l o W u1 q hW (hg.env hE hW) ((hN.a7 O fQ).later<|hg.below _ _ _ _ _ hW) ha mZ;have rT:=Z<|SAt.cm bI fp O;first
  |clear ahS
   have Oe:=Z<|SAt.next (τ:=cV K (T.f 0) 1<|.ok<|az s) rT.o O bI fp<|jd fz;first
   |clear ahK
    have ahX:=kk;exact abC
   |clear ahL
    exact abv
  |clear ahT
   first
   |clear ahM
    have Oe:=Z<|SAt.next (τ:=mo K (T.f 0)<|.ok<|az s) rT.o O bI fp<|Jo fz;have Zh:=Z fun t(h:NI K (T.f 0) (.ok<|az s) t)=>QO (K:=K) (A:=T.f 0) (B:=T.f 1) (s:=az s) h;have aim:=kk;exact abN
   |clear ahN
    have Oe:=Z<|SAt.next (τ:=cV K (T.f 0) 2<|.ok<|az s) rT.o O bI fp<|jd fz;exact abv
 |clear ahZ
  have rT:=Z<|SAt.cm bI fp O;unfold Nd.val at*
  rw[z]at dy jS⊢;have jG:=Z z;have zc:0<T.q:=O;first
  |clear ahU
   clear oC hS hE hN z ax ih ey aZ fz dR hl mN;have ah2:=kk;exact abG
  |clear ahV
   clear oC hS hE hN z ax ih ey aZ fz dR hl;have ah3:=kk;exact abG):G:=h
theorem abF (h:G:=by have ah5:=kk;exact abH):G:=h
theorem abG (h:G:=by
 generalize hq:s.2.length=q at*
 have di:=pJ;go_enter func171,ntmps171
 go_wp2_with(first
  |(go_at_call 52;refine(dy.o _).mono ?_;rintro e w1 ⟨u,rfl,bF,hb1⟩;obtain⟨own1,bz,bE,eE⟩:=jS.o w1 u _ hb1 bF;obtain⟨ga,oa,ca,rfl,q9,fI⟩:=eE.b4 O;have HG:=Z eE;have iT:=Z fI;have gU:=Z bE;obtain⟨b0,b1,b2,b3⟩:=HG.o.box _ _ _ _ _ bz;rw[jG.o]at b0;have a0:=iT.o _ _ _ _ _ bz 0 O;rw[Nat.add_zero]at a0;obtain⟨ej,ei,eh,ef⟩:=cZ.o _ (HG.o.below _ _ _ _ _ bz);have cY:=Z bz;clear bz bE eE fI bF hb1))
 first
 |clear ah2
  go_outline;go_still_tail 9,di
  first
  |clear ahO
   exact abD
  |clear ahP
   have aio:=kk;exact XV
 |clear ah3
  first
  |clear ahQ
   go_still_tail 8,di
   exact abD
  |clear ahR
   go_outline;go_still_tail 8,di
   have aip:=kk;exact XV):G:=h
theorem abH (h:G:=by
 have fp:=hS.ok.aR;have be:=hS.lt;have iX:=hS.ok.cl;have dy:=Z fun o=>j8 T (w.alloc o) v K.lo s.2.length hN.aA aa3 (ah (hS.box o) lr hN.row) hN.cost O;have jS:=Z fun(w1:World)(u:Value)(t:TypeId)I ha=>pB (w1:=w1) (T:=T) (v:=v) (p:=s.2.length) (u:=u) (t:=t) hS I ha;have HF:=Z fun W(I:Below K.lo w W)(hz:K.lo<=W.heap.size)=>BK K.F W K.fv K.lo T.z hE.aA hz<|ah I lr hE.row;first
 |clear ah4
  have Ub:Hid (mQ K.F T.z=-1):=by unfold Hid mQ;rw[CB]
  have jG:=Z z;unfold Nd.val at*
  rw[z]at dy jS⊢;clear hS hE hN z CB;have ah6:=kk;exact XX
 |clear ah5
  have LY:=(sA hj).1;obtain⟨gF,oF,cF,hfv,hgF,hcF,hkF⟩:=jL hE.row O;obtain⟨uf,V4,hrf⟩:=hkF j LY;have VY:=Qt<|tJ hE.ok LY;have hffine:=Nd.I<|Nd.aa hE.aA LY;obtain⟨af,cf,huf,hcpf,hqf⟩:=ar.1 hrf;have HQF:=Z hqf;clear hqf;subst huf;have HCF:=Z V4;have Ub:Hid (mQ K.F T.z=j):=by unfold Hid mQ;rw[show findF K.F T.z=some j from hj]
  have jG:=Z z;have HFV:=Z hfv;have hTl:=T.I hN.aA;obtain⟨a,cap,hv,bo,NS⟩:=ar.1 hN.row;have Y7:=Z NS;clear NS;subst hv;first
  |clear ah0
   have To:((T.q:Int)==((K.F.f j).q:Int)-1)=false:=bn O;have hjF:(j:Int)<(K.F.q:Int):=O;unfold Nd.val at*
   rw[z]at dy jS⊢;clear hS hE hN z hj V4 hkF hrf hfv;have ah7:=kk;exact XX
  |clear ah1
   have To:((T.q:Int)==((K.F.f j).q:Int)-1)=true:=avV.2 O;have hcnt2:((T.q:Int) !=((K.F.f j).q:Int)-1)=false:=by simp only[bne,To,Bool.not_true]
   have hcl':T.q<(K.F.f j).q:=O;have hjF:(j:Int)<(K.F.q:Int):=O;have hj0:decide ((j:Int)<0)=false:=M;unfold Nd.val at*
   rw[z]at dy jS⊢;have HCN:=Z V3;have HEE:=Z (ye jG.o ax);have HIH:=Z ih;have IS:=Z (fun(h0:T.q≠0)=>jL hN.row h0);have HAT:=Z (fun n(hn:n<T.q)=>Na (K:=K) (f:=K.F.f j) HEE.o hn bI fp);have HEV:=Z hE;have HND:=Z hN;clear hS hE hN z hj V4 hkF hrf hfv V3 ih;have ah8:=kk;exact XX):G:=h
theorem XX (h:G:=by
 generalize hq:s.2.length=q at*
 have di:=pJ;go_enter func171,ntmps171
 go_wp2_with(go_at_call 52;refine(dy.o _).mono ?_;rintro e w1 ⟨u,rfl,bF,hb1⟩;obtain⟨own1,bz,bE,eE⟩:=jS.o w1 u _ hb1 bF;obtain⟨b0,b1,b2,b3⟩:=eE.box _ _ _ _ _ bz;rw[jG.o]at b0;obtain⟨x0,x1,x2,x3⟩:=bz.file;obtain⟨y0,y1⟩:=bz.lt;have HG:=Z eE;have cY:=Z bz;have gU:=Z bE;clear hb1 bF bz eE bE)
 go_still_tail 6,di
 first
 |clear ah6
  go_wp2_with(first
   |(go_at_call 53;refine(HF.o _ (HG.o.below _ _ _ _ _ cY.o.drew) (by have:K.cb<w1.heap.size:=y0;show K.lo<=w1.heap.size;omega)).mono ?_;rw[Ub.o];rintro e w2 ⟨rfl,hb2⟩;have bP:=cY.o.drew.calm hb2;obtain⟨b0,b1,b2,b3⟩:=HG.o.box _ _ _ _ _ bP;rw[jG.o]at b0;obtain⟨x0,x1,x2,x3⟩:=bP.file;obtain⟨z0,z1⟩:=bP.lt;have z3:=awJ w2 ⟨w.heap.size,3,none⟩ b3;dsimp only at z3;have eF:=Z bP;clear hb2 bP)
   |(go_at_call 54;refine(eM eF.o 5 J q).mono ?_;rintro e w3 ⟨rfl,dP⟩;have fa:=Z (gU.o _ _ _ _ _ dP);clear dP))
  go_ret;exact⟨rfl,fa.o⟩
 |clear ah7
  go_wp2_with(first
   |(go_at_call 53;refine(HF.o _ (HG.o.below _ _ _ _ _ cY.o.drew) (by have:K.cb<w1.heap.size:=y0;show K.lo<=w1.heap.size;omega)).mono ?_;rw[Ub.o];rintro e w2 ⟨rfl,hb2⟩;have bP:=cY.o.drew.calm hb2;obtain⟨b0,b1,b2,b3⟩:=HG.o.box _ _ _ _ _ bP;rw[jG.o]at b0;obtain⟨x0,x1,x2,x3⟩:=bP.file;obtain⟨z0,z1⟩:=bP.lt;have z3:=awJ w2 ⟨w.heap.size,3,none⟩ b3;dsimp only at z3;rw[HFV.o]at x3;obtain⟨f0,f1,f2,f3⟩:=HCF.o _<|HG.o.below _ _ _ _ _ bP;have eF:=Z bP;clear hb2 bP)
   |(go_at_call 54;refine(eM (eF.o.alloc _) 8 J q).mono ?_;rintro e w3 ⟨rfl,dP⟩;have fa:=Z (gU.o _ _ _ _ _ dP);clear dP))
  go_ret;exact⟨rfl,fa.o⟩
 |clear ah8
  go_wp2_with(first
   |(go_at_call 53;refine(HF.o _ (HG.o.below _ _ _ _ _ cY.o.drew) (by have:K.cb<w1.heap.size:=y0;show K.lo<=w1.heap.size;omega)).mono ?_;rw[Ub.o];rintro e w2 ⟨rfl,hb2⟩;have bP:=cY.o.drew.calm hb2;obtain⟨b0,b1,b2,b3⟩:=HG.o.box _ _ _ _ _ bP;rw[jG.o]at b0;obtain⟨x0,x1,x2,x3⟩:=bP.file;obtain⟨z0,z1⟩:=bP.lt;have z3:=awJ w2 ⟨w.heap.size,3,none⟩ b3;dsimp only at z3;rw[HFV.o]at x3;obtain⟨f0,f1,f2,f3⟩:=HCF.o _ (HG.o.below _ _ _ _ _ bP);have eF:=Z bP;clear hb2 bP))
  obtain⟨vV,dP,uI,DN⟩:=eF.o.boxed<|nO (K.F.f j)<|.slice af (K.F.f j).q cf;have fa:=Z dP;have gi:=Z uI;have tE:=Z DN;clear dP uI DN;go_loopg [11] T.q (fun gk i wr=>∃n:Nat,gk=T.q-n/\n<=T.q/\i=.int .i64 n/\SS K (w2.alloc<|nO (K.F.f j)<|.slice af (K.F.f j).q cf) vV (ys K.F T (K.F.f j) n<|az s) ret loops outs wr)
  case atStart=>exact⟨0,O,avL _,rfl,fa.o⟩
  case round=>
   obtain⟨n,nE,hn,rfl,eR⟩:=hrel;have sV:=Z nE;clear nE;have ju:=gi.o _ _ _ _ _ eR;obtain⟨d0,d1,d2,d3⟩:=HG.o.box _ _ _ _ _ ju;have I8:=tE.o _ _ _ _ _ eR;have e0:wr.cell? ⟨w2.heap.size,0,none⟩=some (.int .i64 (K.F.f j).y):=by simp[World.cell?,I8]
   have e1:wr.cell? ⟨w2.heap.size,1,none⟩=some (.int .i64 (K.F.f j).E):=by simp[World.cell?,I8]
   have e3:wr.cell? ⟨w2.heap.size,3,none⟩=some (.slice af (K.F.f j).q cf):=by simp[World.cell?,I8]
   have fT:=HG.o.below _ _ _ _ _ ju;have mW:=Z eR;have Sd:=Z ju;have HLO:=Z fT;clear I8 eR ju fT;by_cases be:n<T.q
   ·obtain⟨g,off,nR,Ho,tg,Tt,aZ⟩:=IS.o O;injection Ho with QN ev2 QM;subst QN;subst QM;obtain⟨ga,oa,ca,hu',q9,fI⟩:=HG.o.b4 O;subst hu';obtain⟨un,Ab,Bi⟩:=aZ n be;obtain⟨c0,c1,c2,c3⟩:=Ab _ HLO.o;have an:=fI _ _ _ _ _ Sd.o n be;have hqf:=HQF.o;rcases hqf with h0|⟨gf,of,haf,_,hgf,VE⟩
    ·omega
    subst haf;obtain⟨up,p0,p1,p2,p3,_⟩:=VE n O;have p1':=(HLO.o.cell (p:=⟨gf,of+n*4+1,none⟩) hgf).trans p1;have HWN:=Z<|om (HIH.o n be) K _ vV _ ret loops outs wr.drew un (bg T q n) ((K.F.f j).f n).E mW.o.drew (HEV.o.later HLO.o.drew) ((HND.o.a7 be Bi).later HLO.o.drew) (HAT.o n be)<|HEE.o n be;unfold Nd.val at HWN;have hni:(n:Int)<(T.q:Int):=O;have hnf:(n:Int)<((K.F.f j).q:Int):=O;clear Ab Bi fI VE p0 p1 p2 p3 aZ;go_wp2;go_still_tail 16,di
    go_wp2_with(go_at_call 142;refine HWN.o.mono ?_;rintro e w5 ⟨rfl,o6⟩;have oQ:=Z o6;clear o6)
    go_roundg (T.q-(n+1))
    case rel=>
     refine⟨n+1,rfl,O,by go_num,?_⟩;rw[<-Ea K.F T (K.F.f j) K rfl n (az s)];exact oQ.o
    case measure=>have:=sV.o;omega
   ·go_wp2;go_ret;obtain rfl:n=T.q:=O;exact⟨rfl,gU.o _ _ _ _ _ Sd.o⟩):G:=h
theorem abI (h:G:=by have aih:=kk;exact abK):G:=h
theorem XW (h:G:=by have aii:=kk;exact abK):G:=h
theorem abJ (h:G:=by
 have fp:=hS.ok.aR;have be:=hS.lt;have iX:=hS.ok.cl;obtain⟨g,off,cap,hv,tg,bo,aZ⟩:=jL hN.row O;subst hv;obtain⟨u0,ey,dR⟩:=aZ 0 O;simp only[Nat.zero_mul,Nat.add_zero]at ey;have cZ:=Z ey;first
 |clear aie
  obtain⟨u1,eO,fQ⟩:=aZ 1 O;simp only[awg]at eO;have fU:=Z eO;have ahY:=kk;exact abE
 |clear aif
  have ahZ:=kk;exact abE):G:=h
theorem abK (h:G:=by
 rw[oC];have fp:=hS.ok.aR;have be:=hS.lt;have dy:=Z fun o=>j8 T (w.alloc o) v K.lo s.2.length hN.aA aa3 (ah (hS.box o) lr hN.row) hN.cost O;have HS:=Z fun o=>hS.alloc o;unfold Nd.val at*
 rw[z]at dy⊢;first
 |clear aih
  clear oC hS hE hN z;generalize hq:s.2.length=q at*
  first
  |clear ah9
   generalize T.E=tn at*
   generalize T.z=ts at*
   go_enter func171,ntmps171
   go_wp2_with(go_at_call 52;refine(dy.o _).mono ?_;rintro e w1 ⟨u,rfl,bF,hb1⟩;have ni:=Z hb1;have Oe:=Z bF;have k0:w1.cell? ⟨w.heap.size,0,none⟩=some (.int .i64 22):=(hb1.cell (p:=⟨w.heap.size,0,none⟩) M).trans M;clear hb1 bF)
   go_ret;exact⟨1,rfl,fun r h=>aaE,(HS.o _).calm ni.o⟩
  |clear aia
   go_enter func171,ntmps171
   go_wp2_with(go_at_call 52;refine(dy.o _).mono ?_;rintro e w1 ⟨u,rfl,bF,hb1⟩;have cY:=Z<|(HS.o _).calm hb1;have k0:w1.cell? ⟨w.heap.size,0,none⟩=some (.int .i64 23):=(hb1.cell (p:=⟨w.heap.size,0,none⟩) M).trans M;have k2:w1.cell? ⟨w.heap.size,2,none⟩=some (.string T.z):=(hb1.cell (p:=⟨w.heap.size,2,none⟩) M).trans M;have k3:w1.cell? ⟨w.heap.size,3,none⟩=some v:=(hb1.cell (p:=⟨w.heap.size,3,none⟩) M).trans M;clear hb1 bF)
   go_ret;exact⟨2,rfl,fun r h=>aaE,cY.o⟩
 |clear aii
  first
  |clear aib
   have H0:=Z<|we.trans h0;clear oC hS hE hN z we h0;generalize hq:s.2.length=q at*
   go_enter func171,ntmps171
   go_wp2_with(first
    |(go_at_call 52;refine(dy.o _).mono ?_;rintro e w1 ⟨u,rfl,bF,hb1⟩;have cY:=Z<|(HS.o _).calm hb1;have k0:w1.cell? ⟨w.heap.size,0,none⟩=some (.int .i64 24):=(hb1.cell (p:=⟨w.heap.size,0,none⟩) M).trans M;have k2:w1.cell? ⟨w.heap.size,2,none⟩=some (.string T.z):=(hb1.cell (p:=⟨w.heap.size,2,none⟩) M).trans M;have k3:w1.cell? ⟨w.heap.size,3,none⟩=some v:=(hb1.cell (p:=⟨w.heap.size,3,none⟩) M).trans M;clear hb1 bF)
    |(go_at_call 141;refine(kD cY.o _).mono ?_;rw[H0.o];rintro e w2 ⟨rfl,bP⟩;have eF:=Z bP;clear bP)
    |(go_at_call 54;refine(eM eF.o 5 J q).mono ?_;rintro e w3 ⟨rfl,dP⟩;have fa:=Z dP;clear dP))
   go_ret;exact⟨0,rfl,fun r h=>(by cases h),fa.o⟩
  |clear aic
   have H0:Hid (look (az s).1 T.z=look s.1 T.z):=we;have DS:(look s.1 T.z==0)=false:=bn h0;clear oC hS hE hN z we h0;generalize look s.1 T.z=lk at*
   generalize hq:s.2.length=q at*
   go_enter func171,ntmps171
   go_wp2_with(first
    |(go_at_call 52;refine(dy.o _).mono ?_;rintro e w1 ⟨u,rfl,bF,hb1⟩;have cY:=Z<|(HS.o _).calm hb1;have k0:w1.cell? ⟨w.heap.size,0,none⟩=some (.int .i64 24):=(hb1.cell (p:=⟨w.heap.size,0,none⟩) M).trans M;have k2:w1.cell? ⟨w.heap.size,2,none⟩=some (.string T.z):=(hb1.cell (p:=⟨w.heap.size,2,none⟩) M).trans M;have k3:w1.cell? ⟨w.heap.size,3,none⟩=some v:=(hb1.cell (p:=⟨w.heap.size,3,none⟩) M).trans M;clear hb1 bF)
    |(go_at_call 141;refine(kD cY.o _).mono ?_;rw[H0.o];rintro e w2 ⟨rfl,bP⟩;have eF:=Z bP;clear bP))
   go_ret;exact⟨lk,rfl,fun r h=>aaE,eF.o⟩
  |clear aid
   obtain⟨a,cap,rfl,_⟩:=ar.1 hN.row;rw[hl]at*
   clear oC hS hE hN z hl;generalize hq:s.2.length=q at*
   go_enter func171,ntmps171
   go_wp2_with(go_at_call 52;refine(dy.o _).mono ?_;rintro e w1 ⟨u,rfl,bF,hb1⟩;have cY:=Z<|(HS.o _).calm hb1;have k0:w1.cell? ⟨w.heap.size,0,none⟩=some (.int .i64 26):=(hb1.cell (p:=⟨w.heap.size,0,none⟩) M).trans M;have k2:w1.cell? ⟨w.heap.size,2,none⟩=some (.string T.z):=(hb1.cell (p:=⟨w.heap.size,2,none⟩) M).trans M;have k3:w1.cell? ⟨w.heap.size,3,none⟩=some (.slice a 0 cap):=(hb1.cell (p:=⟨w.heap.size,3,none⟩) M).trans M;clear hb1 bF)
   go_ret;exact⟨3,rfl,fun r h=>aaE,cY.o⟩):G:=h
theorem abL (h:G:=by
  have k8':(wr.drewN nq).cell? ⟨K.cb,8,none⟩=some (.int .i64<|(el:Int)+1):=k8;have cg:K.cb<(wr.drewN nq).heap.size:=hup.1;have hupq:K.up<=(wr.drewN nq).heap.size:=hKl;generalize wr.drewN nq=wq at*
  first
  | clear aij
    go_region_law ((refine step_append_lies _ aan _ _ 69 aan K.up 94 i0 (.agg #[.string ⟨#[]⟩,.int .i64 0,.int .i64 0]) 3 32 underlying69 nB mT eu ed rfl J (.slice a vs.length cap) vs.length (gD vs) aan (HE.o _).1 ⟨wq.heap.size,0,none⟩ 1 1 [.string t,.int .i64 ty,.int .i64 ((el:Int)+1)] aan rfl (vq wq _ _ _ _) (vp _ _ _) J aaj O aah (wq.heap.size+1) M ?_
                    intro g1 B9 w1 HW HG HA gY
                    have LL:some K.cb≠(Value.slice a vs.length cap).ownBlock:=by
                      intro e;have:=((HE.o<|.cells #[] 0).1.lt _ e.symm).1;have:=hK.cu;omega
                    have q7:w1.cell? ⟨K.cb,7,none⟩=some (.slice a vs.length cap):=HG.cell (HE.o _).2.1 LL
                    have qf:w1.frozen? ⟨K.cb,7,none⟩=false:=(World.frozen?_of_block<|HG.block _ aah LL).trans (HE.o _).2.2.2.1
                    have HW:=Z HW
                    have HG:=Z HG
                    have HA:=Z HA))
    all_goals(try go_wp2)
    all_goals go_end0
    all_goals exact sF (l:=l) (E:=E) hvs hm L1 HS.o RS.o HK'.o En.o (HE.o _).2.2.2.2 HG.o HW.o HA.o HO.o HC.o HIT.o HPV.o HPL.o h6 h7 hv h9
  | clear aik
    go_region_law ((refine step_append_lies _ aan _ _ 69 aan K.up 94 i0 (.agg #[.string ⟨#[]⟩,.int .i64 0,.int .i64 0]) 3 32 underlying69 nB mT eu ed rfl J (.slice (some ⟨g,0,none⟩) vs.length cap) vs.length (gD vs) aan (HE.o _).1 ⟨wq.heap.size,0,none⟩ 1 1 [.string t,.int .i64 ty,.int .i64 ((el:Int)+1)] aan rfl (vq wq _ _ _ _) (vp _ _ _) J aaj O aah (wq.heap.size+1) M ?_
                    intro g1 B9 w1 HW HG HA gY
                    have LL:some K.cb≠(Value.slice (some ⟨g,0,none⟩) vs.length cap).ownBlock:=by
                      intro e;have:=((HE.o<|.cells #[] 0).1.lt _ e.symm).1;have:=hK.cu;omega
                    have q7:w1.cell? ⟨K.cb,7,none⟩=some (.slice (some ⟨g,0,none⟩) vs.length cap):=HG.cell (HE.o _).2.1 LL
                    have qf:w1.frozen? ⟨K.cb,7,none⟩=false:=(World.frozen?_of_block<|HG.block _ aah LL).trans (HE.o _).2.2.2.1
                    have HW:=Z HW
                    have HG:=Z HG
                    have HA:=Z HA))
    all_goals(try go_wp2)
    all_goals go_end0
    all_goals exact sF (l:=l) (E:=E) hvs hm L1 HS.o RS.o HK'.o En.o (HE.o _).2.2.2.2 HG.o HW.o HA.o HO.o HC.o HIT.o HPV.o HPL.o h6 h7 hv h9):G:=h
theorem abN (h:G:=by
 unfold Nd.val at*
 rw[z]at dy jS⊢;have jG:=Z z;have RY:=Z Br;have zc:0<T.q:=O;have LD:(1:Int)<(T.q:Int):=O;have DC:1<T.q:=O;first
 |clear ail
  clear oC hS hE hN z ax ih ey eO aZ fz mZ dR fQ hl Br bY;generalize hq:s.2.length=q at*
  have di:=pJ;go_enter func171,ntmps171
  go_wp2_with(first
   |(go_at_call 52;refine(dy.o _).mono ?_;rintro e w1 ⟨u,rfl,bF,hb1⟩;obtain⟨own1,bz,bE,eE⟩:=jS.o w1 u _ hb1 bF;obtain⟨ga,oa,ca,rfl,q9,fI⟩:=eE.b4 O;have HG:=Z eE;have iT:=Z fI;have gU:=Z bE;obtain⟨b0,b1,b2,b3⟩:=HG.o.box _ _ _ _ _ bz;rw[jG.o]at b0;have a0:=iT.o _ _ _ _ _ bz 0 O;rw[Nat.add_zero]at a0;obtain⟨ej,ei,eh,ef⟩:=cZ.o _<|HG.o.below _ _ _ _ _ bz;have a1:=iT.o _ _ _ _ _ bz 1 O;obtain⟨jq,ja,jo,iZ⟩:=fU.o _<|HG.o.below _ _ _ _ _ bz;have cY:=Z bz;clear bz bE eE fI bF hb1)
   |(go_at_call 158;refine(s6 _ _).mono ?_;rw[RY.o];rintro e w2 ⟨rfl,hb2⟩;have bP:=cY.o.calm hb2;clear hb2;obtain⟨b0,b1,b2,b3⟩:=HG.o.box _ _ _ _ _ bP;rw[jG.o]at b0;have a0:=iT.o _ _ _ _ _ bP 0 O;rw[Nat.add_zero]at a0;obtain⟨ej,ei,eh,ef⟩:=cZ.o _ (HG.o.below _ _ _ _ _ bP);have a1:=iT.o _ _ _ _ _ bP 1 O;obtain⟨jq,ja,jo,iZ⟩:=fU.o _ (HG.o.below _ _ _ _ _ bP);have eF:=Z bP;clear bP))
  go_still_tail 8,di
  go_wp2_with(go_at_call 142;refine(CF.o _ _ _ _ HG.o _ _ _ _ _ _ _ eF.o.drew rT.o).mono ?_;rintro e w3 ⟨rfl,dP⟩;obtain⟨b0,b1,b2,b3⟩:=HG.o.box _ _ _ _ _ dP;rw[jG.o]at b0;have a0:=iT.o _ _ _ _ _ dP 0 O;rw[Nat.add_zero]at a0;obtain⟨ej,ei,eh,ef⟩:=cZ.o _<|HG.o.below _ _ _ _ _ dP;have a1:=iT.o _ _ _ _ _ dP 1 O;obtain⟨jq,ja,jo,iZ⟩:=fU.o _<|HG.o.below _ _ _ _ _ dP;have fa:=Z dP;clear dP)
  go_still_tail 8,di
  go_wp2_with(go_at_call 142;refine(N1.o _ _ _ _ HG.o _ _ _ _ _ _ _ fa.o.drew Oe.o).mono ?_;rintro e w4 ⟨rfl,oU⟩;have mK:=Z<|gU.o _ _ _ _ _ oU;clear oU)
  go_ret;first
  |clear ahW
   exact⟨2,rfl,iw.1,by rw[iw.2];exact mK.o⟩
  |clear ahX
   exact⟨1,rfl,iw.1,by rw[iw.2];exact mK.o⟩
 |clear aim
  have cm:=QQ heq;clear oC hS hE hN z ax ih ey eO aZ fz mZ dR fQ hl Br heq;generalize hq:s.2.length=q at*
  have di:=pJ;rcases cm with⟨Bp,CC⟩|⟨Bp,CC⟩;all_goals go_enter func171,ntmps171
  all_goals go_wp2_with(first
   |(go_at_call 52;refine(dy.o _).mono ?_;rintro e w1 ⟨u,rfl,bF,hb1⟩;obtain⟨own1,bz,bE,eE⟩:=jS.o w1 u _ hb1 bF;obtain⟨ga,oa,ca,rfl,q9,fI⟩:=eE.b4 O;have HG:=Z eE;have iT:=Z fI;have gU:=Z bE;obtain⟨b0,b1,b2,b3⟩:=HG.o.box _ _ _ _ _ bz;rw[jG.o]at b0;have a0:=iT.o _ _ _ _ _ bz 0 O;rw[Nat.add_zero]at a0;obtain⟨ej,ei,eh,ef⟩:=cZ.o _<|HG.o.below _ _ _ _ _ bz;have a1:=iT.o _ _ _ _ _ bz 1 O;obtain⟨jq,ja,jo,iZ⟩:=fU.o _<|HG.o.below _ _ _ _ _ bz;have cY:=Z bz;clear bz bE eE fI bF hb1)
   |(go_at_call 158;refine(s6 _ _).mono ?_;rw[RY.o];rintro e w2 ⟨rfl,hb2⟩;have bP:=cY.o.calm hb2;clear hb2;obtain⟨b0,b1,b2,b3⟩:=HG.o.box _ _ _ _ _ bP;rw[jG.o]at b0;have a0:=iT.o _ _ _ _ _ bP 0 O;rw[Nat.add_zero]at a0;obtain⟨ej,ei,eh,ef⟩:=cZ.o _ (HG.o.below _ _ _ _ _ bP);have a1:=iT.o _ _ _ _ _ bP 1 O;obtain⟨jq,ja,jo,iZ⟩:=fU.o _ (HG.o.below _ _ _ _ _ bP);have eF:=Z bP;clear bP))
  all_goals go_still_tail 8,di
  all_goals go_wp2_with(go_at_call 140;refine(RN.o _ _ _ _ HG.o _ _ _ _ _ _ eF.o.drew rT.o).mono ?_;rintro e w3 ⟨t,rfl,hR,dP⟩;obtain⟨b0,b1,b2,b3⟩:=HG.o.box _ _ _ _ _ dP;rw[jG.o]at b0;have a0:=iT.o _ _ _ _ _ dP 0 O;rw[Nat.add_zero]at a0;obtain⟨ej,ei,eh,ef⟩:=cZ.o _<|HG.o.below _ _ _ _ _ dP;have a1:=iT.o _ _ _ _ _ dP 1 O;obtain⟨jq,ja,jo,iZ⟩:=fU.o _<|HG.o.below _ _ _ _ _ dP;have fa:=Z dP;have HR:=Z hR;clear dP hR)
  all_goals go_still_tail 9,di
  all_goals go_wp2_with(go_at_call 142;refine(N1.o _ _ _ _ HG.o _ _ _ _ _ _ _ fa.o.drew Oe.o).mono ?_;rintro e w4 ⟨rfl,oU⟩;have mK:=Z<|gU.o _ _ _ _ _ oU;clear oU)
  all_goals go_ret
  all_goals exact⟨2,rfl,iw.1,by rw[iw.2,<-Zh.o _ HR.o];exact mK.o⟩):G:=h
theorem XV (h:G:=by
 go_wp2_with(go_at_call 142;refine(CF.o _ _ _ _ HG.o _ _ _ _ _ _ _ cY.o.drew rT.o).mono ?_;rintro e w2 ⟨rfl,bP⟩;have eF:=Z<|gU.o _ _ _ _ _ bP;clear bP)
 go_ret;first
 |clear ain
  exact⟨1,rfl,iw.1,by rw[iw.2];exact eF.o⟩
 |clear aio
  exact⟨2,rfl,iw.1,by rw[iw.2];exact eF.o⟩
 |clear aip
  exact⟨3,rfl,iw.1,by rw[iw.2];exact eF.o⟩):G:=h
theorem XU (h:G:=by
  rcases HR.o with h0|⟨g,off,rfl,h1,h2,h3⟩
  · omega
  obtain⟨u,e0,e1,e2,e3,hu⟩:=h3 j be;have tg:g<w.heap.size:=O;first
  | clear aiq
    rw[<-fH.cell (p:=⟨g,_,none⟩) tg]at e0 e1 e2 e3;have HU:=Z<|ah fH gB hu;have h1':=N6.o j be;have NY:=mW.o j;have hkc:=HK.o j be;have HC:=HI.o j be;have ng:=Z<|Nd.aa HF.o be;unfold Cj Nd.val at HC;have Am:=Z HC;clear h3 HC hu;generalize T.f j=K at*
    go_wp2_with(go_at_call 51;refine(Am.o _ _ hi ng.o O HU.o O).mono ?_;rintro e w1 ⟨rfl,hb1⟩)
    have iY:w.heap.size+1<=wr.heap.size:=by have:=I.size;simpa using this
    exact⟨⟨j+1,O,by go_num,by rw[NY];congr 1;omega,I.trans<|hb1.mono iY⟩,by simp[intOf];omega⟩
  | clear air
    have h1':=HKL.o j be;have NY:=Ze.o j;have hkc:=HK.o j be;have ng:=Z<|Nd.aa HF.o be;have HC:=ES<|T.f j;unfold Cj Nd.val at HC;have Am:=Z HC;have HU:=Z hu;have Te:qG T at' (j+1)=qG T at' j++[(bg T at' j:Int)]:=rfl;clear h3 HC hu;have HE:Hid (w.cell? ⟨g,off+j*4,none⟩=some (.int .i64 (T.f j).y)/\w.cell? ⟨g,off+j*4+1,none⟩=some (.int .i64 (T.f j).E)/\w.cell? ⟨g,off+j*4+2,none⟩=some (.string (T.f j).z)/\w.cell? ⟨g,off+j*4+3,none⟩=some u):=⟨e0,e1,e2,e3⟩;clear e0 e1 e2 e3;have HNS:=Z Te;clear Te;generalize T.f j=K at*
    generalize z:bg T at' j=kj at*
    go_wp2_with(first
      | (at_builtin;refine wpList_append_own _ rfl _ _ 68 rfl (w.heap.size+1) 3 i0 (.int .i64 0) 1 8 underlying68 nB mT eu ed rfl J _ j _ rfl (Yh.o.alloc _) ⟨wr.heap.size,0,none⟩ 1 1 [.int .i64 (kj:Int)] rfl rfl (by intro i u hu;rcases i with _|i<;>simp_all[Addr.add]) aaN aaj O aah ?_
         intro v' w3 lU aQ Bo
         have fH:Below (w.heap.size+1) (w.alloc<|.cells #[.int .i64 tk,.int .i64 tn,.string ts,.slice (some ⟨g,off,none⟩) T.q cap] 25) w3:=(HB.o.alloc iY _).grown aQ aah fun k z=>((Yh.o.alloc<|.cells #[.int .i64 (kj:Int)] 3).lt k z).1
         have Bx:=dC.o.trans<|fH.mono<|av8 _
         obtain⟨e0,e1,e2,e3⟩:=HE.o
         rw[<-Bx.cell (p:=⟨g,_,none⟩) tg]at e0 e1 e2 e3
         have k3:w3.cell? ⟨w.heap.size,3,none⟩=some (.slice (some ⟨g,off,none⟩) T.q cap):=by
           rw[fH.cell (p:=⟨w.heap.size,3,none⟩) aar];simp
         have HU3:=Z<|ah Bx gB HU.o
         have HO3:=Z lU
         have lC:=Z fH
         have dP:=Bx.size
         clear lU aQ Bo fH Bx)
      | (go_at_call 51;refine(Am.o _ _ hi ng.o O HU3.o O).mono ?_;rintro e w1 ⟨rfl,hb1⟩))
    obtain⟨sa',sc',rfl⟩:∃sa' sc',v'=.slice sa' (j+1) sc':=by
      rcases HO3.o.2 with⟨rfl,h⟩|⟨g,cp,cur,rfl,_⟩
      · omega
      · exact⟨_,_,rfl⟩
    have Lq:w.heap.size+1<=w3.heap.size:=by have:=lC.o.size;simpa using this
    refine⟨⟨j+1,sa',sc',O,by go_num,by rw[NY];go_num,rfl,?_,lC.o.trans<|hb1.mono Lq⟩,by simp[intOf];omega⟩;rw[HNS.o,awE];exact qA HO3.o fun k z=>hb1.block k (HO3.o.lt k z).2
  | clear ais
    have e2':=(dC.o.cell (p:=⟨g,off+j*4+2,none⟩) tg).trans e2;clear h3 e0 e1 e2 e3 hu;by_cases hs:(T.f j).z=s
    · have ht:((T.f j).z.toList==s.toList)=true:=by rw[hs];exact beq_self_eq_true _
      go_wp2;go_ret;refine⟨jI ?_,dC.o⟩;unfold mQ findF;rw[HS.o j Ub.o hs be]
    · have ht:((T.f j).z.toList==s.toList)=false:=rj hs;go_wp2;refine⟨⟨trivial,j+1,O,by go_num,fun k z=>?_⟩,by simp only[intOf];omega⟩;by_cases e:k=j
      · subst e;exact hs
      · exact Ub.o k O):G:=h
theorem Ry (h:G:=by
 intro K w0 ai s ret loops outs w v hS hE hN bI ax;obtain⟨_,hl,fz,mZ⟩:=ly z ax;first
 |clear ait
  have hq1:=(Mu bY).1;have jP:=(Mu bY).2;have oC:dW K.F T.y T.z T.q (fun i=>gJ K.F<|T.f i) (az s) s.2.length=CR.bind (cV K (T.f 1) 1<|cV K (T.f 0) 1<|.ok<|az s) fun s1=>.ok (2,s1):=by
   exact XY
  have ahL:=kk;exact abw
 |clear aiu
  have Br:=TH heq;have oC:dW K.F T.y T.z T.q (fun i=>gJ K.F<|T.f i) (az s) s.2.length=CR.bind (eqC K (T.f 0) (T.f 1)<|az s) fun s1=>.ok (2,s1):=by
   unfold dW;rw[avo O,avo O,avo O,avo O,avo O,avo O,avo O,avA heq];exact QP
  have ahM:=kk;exact abx
 |clear aiv
  have bY:Ig T.z=false:=Fp O;have oC:dW K.F T.y T.z T.q (fun i=>gJ K.F<|T.f i) (az s) s.2.length=CR.bind (cV K (T.f 1) 1<|cV K (T.f 0) 1<|.ok<|az s) fun s1=>.ok (1,s1):=by
   exact XY
  have ahK:=kk;exact abw
 |clear aiw
  have bY:Ig T.z=false:=Fp O;have oC:dW K.F T.y T.z T.q (fun i=>gJ K.F<|T.f i) (az s) s.2.length=CR.bind (cV K (T.f 1) 2<|cV K (T.f 0) 2<|.ok<|az s) fun s1=>.ok (2,s1):=by
   exact XY
  have ahN:=kk;exact abx):G:=h
abbrev Sc :=List<|List<|ByteArray×Int
abbrev CS :=Sc×List Int
abbrev CR (α:Type):=Except (Int×Nat) α
def CR.bind {α β:Type}(r:CR α)(f:α->CR β):CR β:=match r with|.error e=>.error e|.ok a=>f a
theorem CR.an {α β:Type}(a:α)(f:α->CR β):CR.bind (.ok a) f=f a:=rfl
theorem CR.cT {α β:Type}(e:Int×Nat)(f:α->CR β):CR.bind (.error e:CR α) f=.error e:=rfl
def ZQ (l:List (ByteArray×Int))(s:ByteArray):Int:=match l.find? (fun p=>decide<|p.1=s)with|some p=>p.2|none=>0
def look (E:Sc)(s:ByteArray):Int:=ZQ E.flatten s
def xI (E:Sc)(s:ByteArray):Bool:=match E with|[]=>false|l::_=>l.any fun p=>decide<|p.1=s
def iE (E:Sc)(s:ByteArray)(t:Int):Sc:=match E with|[]=>[[(s,t)]]|l::E=>((s,t)::l)::E
def forN {σ:Type}(f:Nat->σ->CR σ):Nat->σ->CR σ
 |0,s=>.ok s
 |n+1,s=>CR.bind (forN f n s)<|f n
abbrev zX :=CS->CR (Int×CS)
def az (s:CS):CS:=(s.1,s.2++[0])
def fu (m:zX):zX:=fun s=>CR.bind (m s) fun r=>if r.1=0 then .error (9,s.2.length)else .ok r
def dz (m:zX)(t:Int):CS->CR CS:=fun s=>CR.bind (fu m s) fun r=>if r.1=t then .ok r.2 else .error (7,s.2.length)
def Ig (s:ByteArray):Bool:=hasB [⟨#[61,61]⟩,⟨#[33,61]⟩] s
def Df (s:ByteArray):Bool:=hasB [⟨#[33]⟩] s
def lF (F:Nd)(s:ByteArray):Nat->Option Nat
 |0=>none
 |n+1=>match lF F s n with|some i=>some i|none=>if(F.f n).z=s then some n else none
def findF (F:Nd)(s:ByteArray):Option Nat:=lF F s F.q
def dW (F:Nd)(k:Int)(name:ByteArray)(len:Nat)(kids:Nat->zX)(s:CS)(at':Nat):CR (Int×CS):=
 if k=22 then .ok (1,s)
 else if k=23 then .ok (2,s)
 else if k=24 then(if look s.1 name=0 then .error (5,at')else .ok (look s.1 name,s))
 else if k=25 then
  match findF F name with
  |none=>.error (5,at')
  |some j=>if len+1=(F.f j).q then CR.bind (forN (fun i=>dz (kids i) ((F.f j).f i).E) len s) fun s1=>.ok ((F.f j).E,s1)else .error (8,at')
 else if k=26 then CR.bind (forN (fun i=>dz (kids i) 1) len s) fun s1=>.ok (3,s1)
 else if k=27 then CR.bind (dz (kids 0) (if Df name then 2 else 1) s) fun s1=>.ok (if Df name then 2 else 1,s1)
 else if k=29 then CR.bind (dz (kids 0) 3 s) fun s1=>.ok (1,s1)
 else if Ig name then CR.bind (fu (kids 0) s) fun r=>CR.bind (dz (kids 1) r.1 r.2) fun s2=>.ok (2,s2)
 else CR.bind (dz (kids 0) (if bV name=1\/bV name=2 then 2 else 1) s) fun s1=>
  CR.bind (dz (kids 1) (if bV name=1\/bV name=2 then 2 else 1) s1) fun s2=>
   .ok (if bV name=1\/bV name=2\/bV name=3 then 2 else 1,s2)
def exM (F:Nd)(k:Int)(name:ByteArray)(len:Nat)(kids:Nat->zX):zX:=fun s=>
 CR.bind (dW F k name len kids (az s) s.2.length) fun r=>.ok (r.1,(r.2.1,r.2.2.set s.2.length r.1))
def gJ (F:Nd):Nd->zX
 |.nil=>fun s=>.ok (0,az s)
 |.mk k _ name len kids=>exM F k name len fun i=>gJ F<|kids i
theorem D3 (F:Nd)(h:T.Q=true):gJ F T=exM F T.y T.z T.q (fun i=>gJ F<|T.f i):=by cases T with|nil=>simp[Nd.Q,yT]at h|mk=>rfl
structure Cx where
 ret:Int
 loops:Nat
 outs:Nat
abbrev TQ :=Cx->CS->CR CS
def within (l:List (ByteArray×Int))(m:CS->CR CS):CS->CR CS:=fun s=>CR.bind (m (l::s.1,s.2)) fun s1=>.ok (s1.1.tail,s1.2)
def r6 (len:Nat)(kids:Nat->TQ):TQ:=fun cx s=>forN (fun i=>kids i cx) len<|az s
def nX (p:Nat->Bool):Nat->Bool
 |0=>false
 |n+1=>nX p n||p n
structure Mn where
 st:TQ
 ad:TQ
 cs:Bool->TQ
def stM (F:Nd)(k:Int)(name:ByteArray)(len:Nat)(num:Nat->Int)(ex:Nat->zX)(kids:Nat->Mn):TQ:=fun cx s=>
 if k=4 then within [] (r6 len (fun i=>(kids i).st) cx) s
 else if k=5 then CR.bind (fu (ex 0)<|az s) fun r=>if xI r.2.1 name then .error (6,s.2.length)else .ok (iE r.2.1 name r.1,r.2.2)
 else if k=6 then(if look s.1 name=0 then .error (5,s.2.length)else dz (ex 0) (look s.1 name) (az s))
 else if k=7 then(if look s.1 name=0 then .error (5,s.2.length)else if look s.1 name=1 then .ok (az s)else .error (7,s.2.length))
 else if k=8 then CR.bind (dz (ex 0) 3<|az s) (dz (ex 1) 1)
 else if k=9\/k=13\/k=14 then CR.bind (ex 0<|az s) fun r=>.ok r.2
 else if k=10 then CR.bind (dz (ex 0) 2<|az s) (forN (fun i=>(kids<|i+1).st cx)<|len-1)
 else if k=11 then CR.bind (if len=2 then dz (ex 0) 2 (az s)else .ok (az s)) ((kids<|len-1).st {cx with loops:=cx.loops+1,outs:=cx.outs+1})
 else if k=12 then(if decide (0<len)=decide (cx.ret≠0)then(if 0<len then dz (ex 0) cx.ret (az s)else .ok (az s))else .error (9,s.2.length))
 else if k=15 then forN (fun i=>(kids i).cs (nX (fun j=>decide<|num j=0) i) {cx with outs:=cx.outs+1}) len (az s)
 else if k=17 then(if cx.outs=0 then .error (10,s.2.length)else .ok (az s))
 else if k=18 then(if cx.loops=0 then .error (10,s.2.length)else .ok (az s))
 else if k=19 then dz (ex 0) 3 (az s)
 else if k=20 then CR.bind (fu (ex 0)<|az s) fun r=>if r.1=3 then .error (7,s.2.length+1)else .ok r.2
 else if k=21 then dz (ex 0) 1 (az s)
 else .ok (az s)
def NZ (n:Int)(name:ByteArray)(len:Nat)(ex:Nat->zX)(kids:Nat->Mn)(found:Bool):TQ:=fun cx s=>
 if n=0/\found=true then .error (6,s.2.length)
 else CR.bind (if 0<n then dz (ex 0) 3 (az s)else .ok (az s)) fun s1=>
  CR.bind (if n=2 then dz (ex 1) 1 s1 else .ok s1) fun s2=>
   within (if ao name then[]else[(name,1)]) ((kids<|len-1).ad cx) s2
def fw (F:Nd):Nd->Mn
  | .nil=>⟨fun _ s=>.ok s,fun _ s=>.ok s,fun _ _ s=>.ok s⟩
  | .mk k n name len kids=>
    ⟨stM F k name len (fun i=>(kids i).E) (fun i=>gJ F (kids i)) (fun i=>fw F (kids i)),
     r6 len (fun i=>(fw F<|kids i).st),
     NZ n name len (fun i=>gJ F (kids i)) (fun i=>fw F (kids i))⟩
def gz :Nd->Bool
 |.nil=>false
 |.mk k _ _ len kids=>if k=17 then true else if k=11\/k=15 then false else nX (fun i=>gz<|kids i) len
def kO :Nd->Bool
 |.nil=>false
 |.mk k _ _ len kids=>
  if k=12\/k=21 then true
  else if k=4 then decide (0<len)&&kO (kids<|len-1)
  else if k=10 then decide (len=3)&&(kO (kids 1)&&kO (kids 2))
  else if k=11 then decide (len=1)&& !gz (kids 0)
  else false
def ry (T:Nd)(i:Nat):CS->CR CS:=fun s=>if xI s.1 (T.f i).z then .error (6,s.2.length)else .ok (iE s.1 (T.f i).z (T.f i).E,s.2++[0])
def uN (F T:Nd):List Int->CR (List Int):=fun X=>
 CR.bind (forN (ry T) (T.q-1) ([[]],X++[0])) fun s1=>
  CR.bind ((fw F<|T.f<|T.q-1).ad ⟨T.E,0,0⟩ s1) fun s2=>
   if T.E≠0/\kO (T.f<|T.q-1)=false then .error (9,X.length)else .ok s2.2
def gH (F:Nd)(i:Nat):Unit->CR Unit:=fun _=>if findF F (F.f i).z=some i then .ok ()else .error (6,1+aq (fun j=>(F.f j).size) i)
def iJ (F:Nd):CR (List Int):=
 CR.bind (forN (gH F) F.q ()) fun _=>forN (fun i=>uN F<|F.f i) F.q [0]
def Nd.ea (T:Nd)(n:Nat):Nat:=aq (fun i=>(T.f i).size) n
theorem BE {σ:Type}{f:Nat->σ->CR σ}{m:σ->Nat}{g:Nat->Nat}{P:σ->Prop}{n:Nat}(h:∀i s s',i<n->P s->f i s=.ok s'->m s'=m s+g i/\P s'):
  ∀{k:Nat},k<=n->∀{s s':σ},P s->forN f k s=.ok s'->m s'=m s+aq g k/\P s'
 |0,_,s,s',y,e=>by injection e with e;subst e;exact⟨rfl,y⟩
 |k+1,z,s,s',y,e=>by
  rw[forN]at e
  cases hr:forN f k s with
  |error x=>rw[hr]at e;cases e
  |ok s1=>
   rw[hr,CR.an]at e
   obtain⟨h1,h2⟩:=BE h (Nat.le_of_succ_le z) y hr
   obtain⟨h3,h4⟩:=h k s1 s' z h2 e
   exact⟨by simp only[aq];omega,h4⟩
theorem kE {st:Nat->Bool}{kk:Nat->Int}{s:ByteArray}(h:aG e st kk len s=true):len=s.size/\∀i,i<s.size->bT e st kk (s.data.toList.getD i 0).toNat i=true:=by unfold aG at h;simp only[avw,avy]at h;exact⟨h.1,bj.1 h.2⟩
theorem Do {st:Nat->Bool}{kk:Nat->Int}(h:bT e st kk 98 i=true):kk i=4/\st i=true:=by simp[bT]at h;exact h
theorem ko_i {st:Nat->Bool}{kk:Nat->Int}(h:bT e st kk 105 i=true):(kk i=4\/kk i=10)/\st i=true:=by simp[bT]at h;exact h
theorem y4 {st:Nat->Bool}{kk:Nat->Int}(h:bT e st kk 101 i=true):e i=true:=by simpa[bT]using h
theorem ko_c {st:Nat->Bool}{kk:Nat->Int}(h:bT e st kk 99 i=true):e i=true:=by simp[bT]at h;exact h.2
theorem qF {st:Nat->Bool}{kk:Nat->Int}(h:aG e st kk len ⟨#[101]⟩=true):len=1/\e 0=true:=⟨(kE h).1,y4<|(kE h).2 0 J⟩
theorem SR {st:Nat->Bool}{kk:Nat->Int}(h:aG e st kk len ⟨#[99]⟩=true):len=1/\e 0=true:=⟨(kE h).1,ko_c<|(kE h).2 0 J⟩
theorem SQ {st:Nat->Bool}{kk:Nat->Int}(h:aG e st kk len ⟨#[101,101]⟩=true):len=2/\e 0=true/\e 1=true:=⟨(kE h).1,y4<|(kE h).2 0 J,y4<|(kE h).2 1 J⟩
theorem iH (h:T.Q=true):T.y=22\/T.y=23\/T.y=24\/T.y=25\/T.y=26\/T.y=27\/T.y=28\/T.y=29:=by
 rw[bD]at h;unfold bq at h;repeat' split at h
 all_goals first|omega|cases h
theorem zz (z:T.y=22\/T.y=23\/T.y=24)(h:T.Q=true):T.q=0:=by
 rw[bD]at h;rcases z with z|z|z<;>rw[z]at h<;>simp[bq]at h
 ·exact h.2.2
 ·exact h.2.2
 ·exact h.2.2
theorem ye (z:T.y=25)(h:T.Q=true):∀i,i<T.q->(T.f i).Q=true:=by rw[bD,z]at h;simp[bq]at h;exact bj.1 h.2.2
theorem u9 (z:T.y=26)(h:T.Q=true):T.q<2/\∀i,i<T.q->(T.f i).Q=true:=by rw[bD,z]at h;simp[bq]at h;exact⟨h.2.1,bj.1 h.2.2⟩
theorem u7 (z:T.y=27)(h:T.Q=true):T.q=1/\(T.f 0).Q=true:=by rw[bD,z]at h;simp[bq]at h;exact qF h.2.2
theorem yd (z:T.y=29)(h:T.Q=true):T.q=1/\(T.f 0).Q=true:=by rw[bD,z]at h;simp[bq]at h;exact qF h.2
theorem ly (z:T.y=28)(h:T.Q=true):0<bV T.z/\T.q=2/\(T.f 0).Q=true/\(T.f 1).Q=true:=by rw[bD,z]at h;simp[bq]at h;exact⟨h.2.1,SQ h.2.2⟩
theorem iA (h:T.U=true):T.y=4\/T.y=5\/T.y=6\/T.y=7\/T.y=8\/T.y=9\/T.y=10\/T.y=11\/T.y=12\/T.y=13\/T.y=14\/T.y=15\/T.y=17\/T.y=18\/T.y=19\/T.y=20\/T.y=21:=by refine aww fun hn=>?_;simp only[not_or]at hn;obtain⟨h1,h2,h3,h4,h5,h6,h7,h8,h9,kK,nH,qM,zr,zq,rF,Wf,sQ⟩:=hn;rw[aM]at h;simp[aL,h1,h2,h3,h4,h5,h6,h7,h8,h9,kK,nH,qM,zr,zq,rF,Wf,sQ]at h
theorem tT (z:T.y=4)(h:T.U=true):∀i,i<T.q->(T.f i).U=true:=by rw[aM,z]at h;simp[aL]at h;exact bj.1 h.2
theorem dq (z:T.y=5\/T.y=6\/T.y=9\/T.y=13\/T.y=14\/T.y=19\/T.y=20\/T.y=21)(h:T.U=true):T.q=1/\(T.f 0).Q=true:=by
 rw[aM]at h;rcases z with z|z|z|z|z|z|z|z<;>rw[z]at h<;>simp[aL]at h
 ·exact qF h.2
 ·exact qF h.2
 ·exact qF h.2.1
 ·exact SR h.2
 ·exact SR h.2
 ·exact qF h.2
 ·exact qF h.2
 ·exact qF h.2
theorem mx (z:T.y=7\/T.y=17\/T.y=18)(h:T.U=true):T.q=0:=by
 rw[aM]at h;rcases z with z|z|z<;>rw[z]at h<;>simp[aL]at h
 ·exact h.2.2
 ·exact h.2
 ·exact h.2
theorem GN (z:T.y=8)(h:T.U=true):T.q=2/\(T.f 0).Q=true/\(T.f 1).Q=true:=by rw[aM,z]at h;simp[aL]at h;exact SQ h.2
theorem AD (z:T.y=10)(h:T.U=true):(T.q=2\/T.q=3)/\(T.f 0).Q=true/\((T.f 1).y=4/\(T.f 1).U=true)/\(T.q=3->((T.f 2).y=4\/(T.f 2).y=10)/\(T.f 2).U=true):=by
 rw[aM,z]at h;simp only[aL,Int.reduceEq,if_true,if_false,or_self,avw,av2]at h;rcases h.2 with h|h
 ·obtain⟨h1,h2⟩:=kE h;have h1:T.q=2:=h1;exact⟨.inl h1,y4<|h2 0 J,Do<|h2 1 J,fun h=>by omega⟩
 ·obtain⟨h1,h2⟩:=kE h;have h1:T.q=3:=h1;exact⟨.inr h1,y4<|h2 0 J,Do<|h2 1 J,fun _=>ko_i<|h2 2 J⟩
theorem AC (z:T.y=11)(h:T.U=true):(T.q=1/\(T.f 0).y=4/\(T.f 0).U=true)\/(T.q=2/\(T.f 0).Q=true/\((T.f 1).y=4/\(T.f 1).U=true)):=by
 rw[aM,z]at h;simp only[aL,Int.reduceEq,if_true,if_false,or_self,avw,av2]at h;rcases h.2 with h|h
 ·obtain⟨h1,h2⟩:=kE h;exact .inl ⟨h1,Do<|h2 0 J⟩
 ·obtain⟨h1,h2⟩:=kE h;exact .inr ⟨h1,y4<|h2 0 J,Do<|h2 1 J⟩
theorem AB (z:T.y=12)(h:T.U=true):T.q=0\/(T.q=1/\(T.f 0).Q=true):=by
 rw[aM,z]at h;simp[aL]at h;rcases h.2 with h|h
 ·exact .inl h
 ·exact .inr<|qF h
theorem xi (z:T.y=15)(h:T.U=true):∀i,i<T.q->(T.f i).aH=true:=by rw[aM,z]at h;simp[aL]at h;exact bj.1 h.2
theorem ym (h:T.aH=true):T.y=16/\((T.E=0/\T.q=1)\/(T.E=1/\T.q=2/\(T.f 0).Q=true)\/(T.E=2/\T.q=3/\(T.f 0).Q=true/\(T.f 1).Q=true))/\(T.f<|T.q-1).y=4/\(T.f<|T.q-1).U=true:=by
 rw[lI]at h;by_cases z:T.y=16
 ·simp only[gP,z,if_true,avw]at h;have h:=h.2;by_cases h0:T.E=0
  ·rw[avA h0]at h;obtain⟨h1,h2⟩:=kE h;have h1:T.q=1:=h1;have h3:=Do<|h2 0 J;refine⟨z,.inl ⟨h0,h1⟩,?_⟩;rw[h1];exact h3
  rw[avo h0]at h;by_cases h1:T.E=1
  ·rw[avA h1]at h;obtain⟨h4,h2⟩:=kE h;have h4:T.q=2:=h4;refine⟨z,.inr<|.inl ⟨h1,h4,y4<|h2 0 J⟩,?_⟩;rw[h4];exact Do<|h2 1 J
  rw[avo h1]at h;by_cases h2:T.E=2
  ·rw[avA h2]at h;obtain⟨h4,h5⟩:=kE h;have h4:T.q=3:=h4;refine⟨z,.inr<|.inr ⟨h2,h4,y4<|h5 0 J,y4<|h5 1 J⟩,?_⟩;rw[h4];exact Do<|h5 2 J
  ·rw[avo h2]at h;cases h
 ·simp only[gP,z,if_false]at h;cases h
theorem bw {α β:Type}{r:CR α}{f:α->CR β}{b:β}(h:CR.bind r f=.ok b):∃a,r=.ok a/\f a=.ok b:=by
 cases r with
 |error e=>cases h
 |ok a=>exact⟨a,rfl,h⟩
theorem kl {m:zX}{s:CS}{r:Int×CS}(h:fu m s=.ok r):m s=.ok r/\r.1≠0:=by
 obtain⟨a,h1,h2⟩:=bw h;split at h2
 ·cases h2
 ·injection h2 with h2;subst h2;exact⟨h1,by assumption⟩
theorem FQ {m:zX}{s s':CS}(h:dz m t s=.ok s'):m s=.ok (t,s')/\t≠0:=by
 obtain⟨a,h1,h2⟩:=bw h;obtain⟨h3,h4⟩:=kl h1;split at h2
 ·injection h2 with h2;subst h2;rename_i e;subst e;exact⟨h3,h4⟩
 ·cases h2
def ExL (m:zX)(n:Nat):Prop:=∀s t s',m s=.ok (t,s')->s'.1=s.1/\s'.2.length=s.2.length+n
def WtL (m:CS->CR CS)(n:Nat):Prop:=∀s s',m s=.ok s'->s'.1=s.1/\s'.2.length=s.2.length+n
theorem ExL.value {m:zX}(h:ExL m n):ExL (fu m) n:=fun s t s' e=>h s t s' (kl e).1
theorem ExL.want {m:zX}(h:ExL m n)(t:Int):WtL (dz m t) n:=fun s s' e=>h s t s' (FQ e).1
theorem cr (s:CS):(az s).2.length=s.2.length+1:=by simp[az]
theorem Fi {f:Nat->CS->CR CS}(h:∀i,i<n->WtL (f i) (g i))(z:k<=n):WtL (forN f k) (aq g k):=by
  intro s s' e;have:=BE (f:=f) (m:=fun s:CS=>s.2.length) (g:=g) (P:=fun s':CS=>s'.1=s.1) (n:=n) (fun i a b hi y e=>by
    obtain⟨h1,h2⟩:=h i hi a b e
    exact⟨h2,h1.trans y⟩) z rfl e
  exact⟨this.2,this.1⟩
theorem nN (F:Nd):∀T:Nd,T.Q=true->ExL (gJ F T) T.size:=by
 have step:∀T:Nd,(∀i,i<T.q->(T.f i).Q=true->ExL (gJ F<|T.f i) (T.f i).size)->T.Q=true->ExL (gJ F T) T.size:=by
  intro T ih ax s t s' e;rw[D3 F ax]at e;obtain⟨r,h1,h2⟩:=bw e;injection h2 with h2;have hs:s'.1=r.2.1/\s'.2.length=r.2.2.length:=by
   injection h2 with h3 h4;subst h4;exact⟨rfl,M⟩
  have hz:=T.size_eq;have key:r.2.1=s.1/\r.2.2.length=s.2.length+T.size:=by
   have ht:=cr s;have YJ:(az s).1=s.1:=rfl;have aZ:∀i,i<T.q->(T.f i).Q=true->∀(x:Int)(a b:CS),dz (gJ F<|T.f i) x a=.ok b->b.1=a.1/\b.2.length=a.2.length+(T.f i).size:=fun i hi he x a b e=>(ih i hi he).want x a b e;unfold dW at h1;by_cases Af:T.y=22
   ·rw[avA Af]at h1;injection h1 with h1;subst h1;have hl:=zz (.inl Af) ax;exact abT
   rw[avo Af]at h1;by_cases vP:T.y=23
   ·rw[avA vP]at h1;injection h1 with h1;subst h1;have hl:=zz (.inr<|.inl vP) ax;exact abT
   rw[avo vP]at h1;by_cases zp:T.y=24
   ·rw[avA zp]at h1;split at h1
    ·cases h1
    injection h1 with h1;subst h1;have hl:=zz (.inr<|.inr zp) ax;exact abT
   rw[avo zp]at h1;by_cases wJ:T.y=25
   ·rw[avA wJ]at h1;have he:=ye wJ ax;split at h1
    ·cases h1
    split at h1
    ·exact abM
    ·cases h1
   rw[avo wJ]at h1;by_cases ti:T.y=26
   ·rw[avA ti]at h1;obtain⟨_,he⟩:=u9 ti ax;exact abM
   rw[avo ti]at h1;by_cases wy:T.y=27
   ·rw[avA wy]at h1;obtain⟨hl,he⟩:=u7 wy ax;exact abO
   rw[avo wy]at h1;by_cases vO:T.y=29
   ·rw[avA vO]at h1;obtain⟨hl,he⟩:=yd vO ax;exact abO
   rw[avo vO]at h1;have zo:T.y=28:=by have:=iH ax;omega
   obtain⟨_,hl,fz,mZ⟩:=ly zo ax;rw[hl]at hz;simp only[aq]at hz;split at h1
   ·obtain⟨r0,h3,h4⟩:=bw h1;obtain⟨s2,h5,h6⟩:=bw h4;injection h6 with h6;subst h6;obtain⟨a1,a2⟩:=(ih 0 O fz).value _ _ _ h3;have:=aZ 1 O mZ _ _ _ h5;exact⟨this.1.trans a1,by rw[this.2,a2];omega⟩
   ·obtain⟨r0,h3,h4⟩:=bw h1;obtain⟨s2,h5,h6⟩:=bw h4;injection h6 with h6;subst h6;obtain⟨a1,a2⟩:=aZ 0 O fz _ _ _ h3;have:=aZ 1 O mZ _ _ _ h5;exact⟨this.1.trans a1,by rw[this.2,a2];omega⟩
  exact⟨hs.1.trans key.1,hs.2.trans key.2⟩
 intro T;induction T with
 |nil=>intro h;simp[Nd.Q,yT]at h
 |mk k n s len kids ih=>exact step _ fun i _=>ih i
def cD (E:Sc):Nat:=E.flatten.length
theorem oz {E:Sc}(h:E≠[])(s:ByteArray)(t:Int):(iE E s t).tail=E.tail/\(iE E s t).length=E.length/\cD (iE E s t)=cD E+1:=by
 cases E with
 |nil=>exact absurd rfl h
 |cons l E=>exact⟨rfl,rfl,by simp[iE,cD]⟩
def StL (m:CS->CR CS)(n:Nat):Prop:=∀s s',s.1≠[]->m s=.ok s'->s'.1.tail=s.1.tail/\s'.1.length=s.1.length/\s'.2.length=s.2.length+n/\cD s'.1<=cD s.1+n
theorem WtL.st {m:CS->CR CS}(h:WtL m n):StL m n:=fun s s' _ e=>by
 obtain⟨h1,h2⟩:=h s s' e
 rw[h1];exact⟨rfl,rfl,h2,O⟩
theorem StL.comp {m m':CS->CR CS}(h:StL m n)(h':StL m' k)(e:n+k=j):StL (fun s=>CR.bind (m s) m') j:=by
 intro s s' hs e';obtain⟨s1,h1,h2⟩:=bw e';obtain⟨a1,a2,a3,a4⟩:=h s s1 hs h1;have bz:s1.1≠[]:=by intro e0;rw[e0]at a2;exact hs<|awk.1 a2.symm
 obtain⟨b1,b2,b3,b4⟩:=h' s1 s' bz h2;exact⟨b1.trans a1,b2.trans a2,O,O⟩
theorem StL.take {m:CS->CR CS}(h:StL m n):StL (fun s=>m<|az s) (1+n):=by intro s s' hs e;obtain⟨b1,b2,b3,b4⟩:=h (az s) s' hs e;have:=cr s;have e1:(az s).1=s.1:=rfl;rw[e1]at b1 b2 b4;exact⟨b1,b2,O,O⟩
theorem StL.bE {f:Nat->CS->CR CS}{g:Nat->Nat}{n:Nat}(h:∀i,i<n->StL (f i) (g i)):∀{k:Nat},k<=n->StL (forN f k) (aq g k)
 |0,_,s,s',_,e=>by injection e with e;subst e;exact⟨rfl,rfl,rfl,Nat.le_add_right _ _⟩
 |k+1,z,s,s',hs,e=>(StL.bE h<|Nat.le_of_succ_le z).comp (h k z) rfl s s' hs e
theorem StL.within {m:CS->CR CS}(h:StL m n)(l:List (ByteArray×Int))(hl:l.length<=1):WtL (within l m) n:=by intro s s' e;obtain⟨s1,h1,h2⟩:=bw e;injection h2 with h2;subst h2;obtain⟨b1,b2,b3,b4⟩:=h (l::s.1,s.2) s1 M h1;exact⟨b1,b3⟩
theorem lM :aq g 1=g 0:=by simp[aq]
theorem Di (F:Nd)(h:T.y≠0):fw F T=⟨stM F T.y T.z T.q (fun i=>(T.f i).E) (fun i=>gJ F<|T.f i) fun i=>fw F<|T.f i,r6 T.q fun i=>(fw F<|T.f i).st,NZ T.E T.z T.q (fun i=>gJ F<|T.f i) fun i=>fw F<|T.f i⟩:=by
 cases T with
 |nil=>exact absurd rfl h
 |mk=>rfl
theorem dY (F:Nd)(h:T.y≠0):(fw F T).st=stM F T.y T.z T.q (fun i=>(T.f i).E) (fun i=>gJ F<|T.f i) (fun i=>fw F<|T.f i):=by rw[Di F h]
theorem ou (F:Nd)(h:T.y≠0):(fw F T).ad=r6 T.q (fun i=>(fw F<|T.f i).st):=by rw[Di F h]
theorem vj (F:Nd)(h:T.y≠0):(fw F T).cs=NZ T.E T.z T.q (fun i=>gJ F<|T.f i) (fun i=>fw F<|T.f i):=by rw[Di F h]
structure MnL (F T:Nd):Prop where
 st:T.U=true->∀cx,StL ((fw F T).st cx) T.size
 ad:T.U=true->T.y=4->∀cx,StL ((fw F T).ad cx) T.size
 cs:T.aH=true->∀b cx,StL ((fw F T).cs b cx) T.size
theorem StL.de :StL (fun s=>.ok<|az s) 1:=by intro s s' hs e;injection e with e;subst e;exact⟨rfl,rfl,cr s,Nat.le_add_right _ _⟩
theorem UJ (F T:Nd)(ih:∀i,i<T.q->MnL F (T.f i)):MnL F T:=by
 have hz:=T.size_eq;have hE:∀i,i<T.q->(T.f i).Q=true->ExL (gJ F<|T.f i) (T.f i).size:=fun i hi h=>nN F _ h;have Bf:T.U=true->T.y=4->∀cx,StL ((fw F T).ad cx) T.size:=by
  intro ax h4 cx;rw[ou F O,hz];exact(StL.bE (fun i hi=>(ih i hi).st (tT h4 ax i hi) cx) lr).take
 refine⟨?_,Bf,?_⟩
 ·intro ax cx;have Tj:=iA ax;rw[dY F O];have oU:T.y=4->StL ((fw F T).ad cx) T.size:=fun h=>Bf ax h cx;intro s s' hs e;unfold stM at e;by_cases h4:T.y=4
  ·rw[avA h4]at e;have:=oU h4;rw[ou F O]at this;exact(this.within [] M).st s s' hs e
  rw[avo h4]at e;by_cases h5:T.y=5
  ·rw[avA h5]at e;obtain⟨hl,he⟩:=dq (.inl h5) ax;rw[hl,lM]at hz;obtain⟨r,h1,h2⟩:=bw e;obtain⟨a1,a2⟩:=(hE 0 O he).value _ _ _ h1;have ht:=cr s;have YJ:(az s).1=s.1:=rfl;split at h2
   ·cases h2
   ·injection h2 with h2;subst h2;rw[YJ]at a1;obtain⟨p1,p2,p3⟩:=oz (E:=r.2.1) (by rw[a1];exact hs) T.z r.1;refine⟨by rw[p1,a1],by rw[p2,a1],by show r.2.2.length=_;omega,?_⟩;show cD (iE r.2.1 T.z r.1)<=_;rw[p3,a1];omega
  rw[avo h5]at e;by_cases h6:T.y=6
  ·rw[avA h6]at e;obtain⟨hl,he⟩:=dq (.inr<|.inl h6) ax;rw[hl,lM]at hz;split at e
   ·cases e
   ·exact Rz
  rw[avo h6]at e;by_cases h7:T.y=7
  ·rw[avA h7]at e;have hl:=mx (.inl h7) ax;rw[hl]at hz;simp only[aq]at hz;split at e
   ·cases e
   split at e
   ·rw[hz];exact StL.de s s' hs e
   ·cases e
  rw[avo h7]at e;by_cases h8:T.y=8
  ·rw[avA h8]at e;obtain⟨hl,fz,mZ⟩:=GN h8 ax;rw[hl]at hz;simp only[aq]at hz;rw[hz];exact(((hE 0 O fz).want _).st.comp ((hE 1 O mZ).want _).st (O:_=0+(T.f 0).size+(T.f 1).size)).take s s' hs e
  rw[avo h8]at e;by_cases h9:T.y=9\/T.y=13\/T.y=14
  ·rw[avA h9]at e;obtain⟨hl,he⟩:=dq O ax;rw[hl,lM]at hz;obtain⟨r,h1,h2⟩:=bw e;injection h2 with h2;subst h2;obtain⟨a1,a2⟩:=hE 0 O he _ _ _ h1;exact abR
  rw[avo h9]at e;by_cases kK:T.y=10
  ·rw[avA kK]at e;obtain⟨hl,fz,hb1,hb2⟩:=AD kK ax;have z:∀i,i<T.q-1->StL ((fw F<|T.f<|i+1).st cx) (T.f<|i+1).size:=by
    intro i hi;have:i=0\/i=1:=O;rcases this with rfl|rfl
    ·exact(ih 1 O).st hb1.2 cx
    ·exact(ih 2 O).st (hb2 O).2 cx
   have lT:1+((T.f 0).size+aq (fun i=>(T.f<|i+1).size) (T.q-1))=T.size:=by
    rw[hz];rcases hl with hl|hl<;>rw[hl]<;>simp[aq]<;>omega
   rw[<-lT];exact(((hE 0 O fz).want _).st.comp (StL.bE z lr) rfl).take s s' hs e
  rw[avo kK]at e;by_cases nH:T.y=11
  ·rw[avA nH]at e;rcases AC nH ax with⟨hl,sN,I⟩|⟨hl,he,I⟩
   ·rw[hl]at hz e;simp only[aq]at hz;rw[avo O]at e;have:=(ih 0 O).st I {cx with loops:=cx.loops+1,outs:=cx.outs+1};rw[hz,Nat.zero_add];exact this.take s s' hs e
   ·rw[hl]at hz e;simp only[aq]at hz;rw[avA rfl]at e;have:=(ih 1 O).st I.2 {cx with loops:=cx.loops+1,outs:=cx.outs+1};rw[hz];exact(((hE 0 O he).want _).st.comp this (O:_=0+(T.f 0).size+(T.f 1).size)).take s s' hs e
  rw[avo nH]at e;by_cases qM:T.y=12
  ·rw[avA qM]at e;split at e
   ·rcases AB qM ax with hl|⟨hl,he⟩
    ·rw[hl]at hz e;simp only[aq]at hz;rw[avo O]at e;rw[hz];exact StL.de s s' hs e
    ·rw[hl,lM]at hz;rw[avA O]at e;exact Rz
   ·cases e
  rw[avo qM]at e;by_cases rF:T.y=15
  ·rw[avA rF]at e;rw[hz];exact(StL.bE (g:=fun i=>(T.f i).size) (fun i hi=>(ih i hi).cs (xi rF ax i hi) _ _) lr).take s s' hs e
  rw[avo rF]at e;by_cases sQ:T.y=17
  ·rw[avA sQ]at e;have hl:=mx (.inr<|.inl sQ) ax;rw[hl]at hz;simp only[aq]at hz;split at e
   ·cases e
   ·rw[hz];exact StL.de s s' hs e
  rw[avo sQ]at e;by_cases wN:T.y=18
  ·rw[avA wN]at e;have hl:=mx (.inr<|.inr wN) ax;rw[hl]at hz;simp only[aq]at hz;split at e
   ·cases e
   ·rw[hz];exact StL.de s s' hs e
  rw[avo wN]at e;have DD:T.y=19\/T.y=20\/T.y=21:=O;obtain⟨hl,he⟩:=dq O ax;rw[hl,lM]at hz;by_cases wM:T.y=19
  ·rw[avA wM]at e;exact Rz
  rw[avo wM]at e;by_cases wK:T.y=20
  ·rw[avA wK]at e;obtain⟨r,h1,h2⟩:=bw e;split at h2
   ·cases h2
   injection h2 with h2;subst h2;obtain⟨a1,a2⟩:=(hE 0 O he).value _ _ _ h1;exact abR
  rw[avo wK,avA O]at e;exact Rz
 ·intro ax b cx;obtain⟨z,hn,eA,hbo⟩:=ym ax;rw[vj F O];intro s s' hs e;unfold NZ at e;split at e
  ·cases e
  have mO:WtL (within (if ao T.z then[]else[(T.z,1)])<|(fw F<|T.f<|T.q-1).ad cx) (T.f<|T.q-1).size:=by
   refine((ih (T.q-1) (by rcases hn with h|h|h<;>omega)).ad hbo eA cx).within _ ?_;split<;>simp
  rcases hn with⟨h0,hl⟩|⟨h1,hl,he⟩|⟨h2,hl,fz,mZ⟩
  ·rw[hl]at hz mO e;simp only[aq]at hz;rw[avo O]at e;simp only[CR.an]at e;rw[avo O]at e;rw[hz,Nat.zero_add];exact mO.st.take s s' hs e
  ·rw[hl]at hz mO e;simp only[aq]at hz;rw[avA O]at e;obtain⟨s1,h3,h4⟩:=bw e;rw[avo O]at h4;rw[hz];refine(((hE 0 O he).want 3).st.comp mO.st (M:_=0+(T.f 0).size+(T.f 1).size)).take s s' hs ?_;dsimp only;rw[h3];exact h4
  ·rw[hl]at hz mO e;simp only[aq]at hz;rw[avA O]at e;obtain⟨s1,h3,h4⟩:=bw e;rw[avA h2]at h4;rw[hz];refine(((hE 0 O fz).want 3).st.comp (((hE 1 O mZ).want 1).st.comp mO.st rfl) (by simp;omega:_=0+(T.f 0).size+(T.f 1).size+(T.f 2).size)).take s s' hs ?_;dsimp only;rw[h3];exact h4
theorem yW (F:Nd):∀T:Nd,MnL F T:=by
 intro T;induction T with
 |nil=>exact⟨fun h=>by simp[Nd.U,yT]at h,fun h=>by simp[Nd.U,yT]at h,fun h=>by simp[Nd.aH,yT]at h⟩
 |mk k n s len kids ih=>exact UJ F _ fun i _=>ih i
theorem nY (g j:Nat):(⟨g,0,none⟩:Addr).add j=⟨g,j,none⟩:=by
 unfold Addr.add;split
 ·rename_i h;subst h;rfl
 ·simp
theorem qA {e:TypeId}{size:Nat}(h:w.ownsRow base e size v n xs)(I:∀k,v.ownBlock=some k->w'.heap[k]?=w.heap[k]?):w'.ownsRow base e size v n xs:=by
 refine⟨h.1,?_⟩;rcases h.2 with h|⟨g,cap,cur,rfl,h2,h3,h4⟩
 ·exact .inl h
 ·exact .inr ⟨g,cap,cur,rfl,h2,(I g rfl).trans h3,h4⟩
structure Kept (S:Nat->Prop)(w w':World):Prop where
 os:w'.os=w.os
 tape:w'.tape=w.tape
 output:w'.output=w.output
 size:w.heap.size<=w'.heap.size
 block:∀k,k<w.heap.size->¬S k->w'.heap[k]?=w.heap[k]?
theorem Kept.refl (S:Nat->Prop)(w:World):Kept S w w:=⟨rfl,rfl,rfl,avF _,fun _ _ _=>rfl⟩
theorem Kept.trans {S S':Nat->Prop}{a b c:World}(h:Kept S a b)(k:Kept S' b c)(hs:∀i,i<a.heap.size->S' i->S i):Kept S a c:=
 ⟨k.os.trans h.os,k.tape.trans h.tape,k.output.trans h.output,avK h.size k.size,fun i hi hn=>(k.block i (awB hi h.size) fun h'=>hn<|hs i hi h').trans<|h.block i hi hn⟩
theorem b9 (h:Below w.heap.size w w')(S:Nat->Prop):Kept S w w':=⟨h.os,h.tape,h.output,h.size,fun k z _=>h.block k z⟩
theorem Kept.below {S:Nat->Prop}(h:Kept S w w'){B:Nat}(hB:B<=w.heap.size)(hS:∀k,S k->B<=k):Below B w w':=
 ⟨h.os,h.tape,h.output,h.size,fun k z=>h.block k O fun hs=>by have:=hS k hs;omega⟩
theorem Kept.setCell {S:Nat->Prop}(a:Addr)(v:Value)(hs:S a.block):Kept S w (w.setCell a v):=
 ⟨by simp[World.setCell],by simp[World.setCell],by simp[World.setCell],by simp[World.setCell],fun k _ hn=>avz w a v k fun e=>hn<|e▸hs⟩
theorem Kept.grown {S:Nat->Prop}{own:Option Nat}(h:w.grownBy w' own)(hs:∀k,own=some k->S k):Kept S w w':=
 ⟨h.os,h.tape,h.output,h.size,fun k z hn=>h.block k z fun e=>hn<|hs k e.symm⟩
structure SK where
 cb:Nat
 tb:Nat
 lo:Nat
 up:Nat
 N:Nat
 F:Nd
 fv:Value
structure SK.Ok (K:SK):Prop where
 cl:K.lo<=K.cb
 tl:K.lo<=K.tb
 cu:K.cb<K.up
 tu:K.tb<K.up
 ne:K.cb≠K.tb
 aR:K.N<=1048576
 tight:K.up<=K.cb+1\/K.up<=K.tb+1
abbrev Vr :=ByteArray×Int×Nat
variable {E :Sc} {K:SK} {m:CS->CR CS} {s:CS} {vs:List Vr}
def gD :List Vr->List Value
 |[]=>[]
 |v::l=>.string v.1::.int .i64 v.2.1::.int .i64 v.2.2::gD l
theorem zx (a b:List Vr):gD (a++b)=gD a++gD b:=by
 induction a with
 |nil=>rfl
 |cons v a ih=>simp[gD,ih]
def varsOf :Sc->List Vr
 |[]=>[]
 |l::E=>varsOf E++l.reverse.map fun p=>(p.1,p.2,E.length+1)
theorem tH (E:Sc):(varsOf E).length=cD E:=by
 induction E with
 |nil=>rfl
 |cons l E ih=>simp[varsOf,cD,ih];unfold cD at ih;simp at ih⊢;omega
def SK.cells (K:SK)(vv:Value)(code place deep ret loops outs:Int):Array Value:=
 #[.int .i64 K.F.y,.int .i64 K.F.E,.string K.F.z,K.fv,.slice (some ⟨K.tb,0,none⟩) K.N K.N,.int .i64 code,.int .i64 place,vv,.int .i64 deep,.int .i64 ret,.int .i64 loops,.int .i64 outs]
structure SRaw (K:SK)(w:World)(vv:Value)(code place deep ret loops outs:Int)(zs:List Int)(vs:List Vr):Prop where
 av:w.heap[K.cb]?=some (.cells (K.cells vv code place deep ret loops outs) 71 (0,0))
 cA:w.heap[K.tb]?=some (.cells (zs.map<|Value.int .i64).toArray 3 (0,0))
 q:zs.length=K.N
 var:w.ownsRow K.up 94 3 vv vs.length (gD vs)
def SIs (K:SK):CR CS->Int->Int->Int->List Int->List Vr->Prop
 |.ok s,code,place,deep,zs,vs=>code=0/\place=0/\deep=s.1.length/\zs=s.2++List.replicate (K.N-s.2.length) 0/\s.2.length<=K.N/\vs=varsOf s.1/\cD s.1<=s.2.length/\s.1.length<=s.2.length+1
 |.error e,code,place,_,_,_=>code=e.1/\e.1≠0/\place=(e.2:Int)
def SK.S (K:SK)(own:Option Nat):Nat->Prop:=fun k=>k=K.cb\/k=K.tb\/some k=own
structure SS (K:SK)(w0:World)(ai:Option Nat)(σ:CR CS)(ret loops outs:Int)(w:World):Prop where
 ok:K.Ok
 is:∃vv code place deep zs vs,SRaw K w vv code place deep ret loops outs zs vs/\SIs K σ code place deep zs vs/\(vv.ownBlock=ai\/∃k,vv.ownBlock=some k/\w0.heap.size<=k)
 kept:Kept (K.S ai) w0 w
theorem SRaw.lt {ret loops outs:Int}(h:SRaw K w vv code place deep ret loops outs zs vs):K.cb<w.heap.size/\K.tb<w.heap.size:=
 ⟨(avp.1 h.av).1,(avp.1 h.cA).1⟩
theorem SRaw.room (hK:K.Ok){ret loops outs:Int}(h:SRaw K w vv code place deep ret loops outs zs vs):K.up<=w.heap.size:=by have:=h.lt;have:=hK.tight;omega
theorem SS.lt {σ:CR CS}{ret loops outs:Int}(h:SS K w0 ai σ ret loops outs w):K.cb<w.heap.size/\K.tb<w.heap.size:=by obtain⟨vv,code,place,deep,zs,vs,h1,_⟩:=h.is;exact h1.lt
theorem SRaw.calm {ret loops outs:Int}(h:SRaw K w vv code place deep ret loops outs zs vs)(I:Below w.heap.size w w'):SRaw K w' vv code place deep ret loops outs zs vs:=
 ⟨(I.block _ h.lt.1).trans h.av,(I.block _ h.lt.2).trans h.cA,h.q,qA h.var fun k z=>I.block k (h.var.lt k z).2⟩
theorem SS.calm {σ:CR CS}{ret loops outs:Int}(h:SS K w0 ai σ ret loops outs w)(I:Below w.heap.size w w'):SS K w0 ai σ ret loops outs w':=by obtain⟨vv,code,place,deep,zs,vs,h1,h2,h3⟩:=h.is;exact⟨h.ok,⟨vv,code,place,deep,zs,vs,h1.calm I,h2,h3⟩,h.kept.trans (b9 I<|K.S ai) fun _ _ h=>h⟩
theorem SS.alloc {σ:CR CS}{ret loops outs:Int}(h:SS K w0 ai σ ret loops outs w)(o:Obj):SS K w0 ai σ ret loops outs (w.alloc o):=
 h.calm (bA)
theorem SS.drew {σ:CR CS}{ret loops outs:Int}(h:SS K w0 ai σ ret loops outs w):SS K w0 ai σ ret loops outs w.drew:=
 h.calm ⟨rfl,rfl,rfl,avF _,fun _ _=>rfl⟩
theorem SS.bQ {σ:CR CS}{ret loops outs:Int}(h:SS K w0 ai σ ret loops outs w):
  ∃own,SS K w own σ ret loops outs w/\(∀k,own=some k->K.up<=k/\k<w.heap.size)/\(own=ai\/∃k,own=some k/\w0.heap.size<=k)/\
   ∀σ' r' l' o' w',SS K w own σ' r' l' o' w'->SS K w0 ai σ' r' l' o' w':=by
 obtain⟨vv,code,place,deep,zs,vs,h1,h2,h3⟩:=h.is;have z:=h.kept;have hs0:=z.size;refine⟨vv.ownBlock,⟨h.ok,⟨vv,code,place,deep,zs,vs,h1,h2,.inl rfl⟩,Kept.refl _ _⟩,h1.var.lt,h3,?_⟩;intro σ' r' l' o' w' h';obtain⟨Um,code',place',deep',zs',vs',k1,k2,k3⟩:=h'.is;refine⟨h.ok,⟨Um,code',place',deep',zs',vs',k1,k2,?_⟩,z.trans h'.kept ?_⟩
 ·rcases k3 with e|⟨k,e,z⟩
  ·rw[e];exact h3
  ·exact .inr ⟨k,e,O⟩
 ·rintro i hi(e|e|e)
  ·exact .inl e
  ·exact .inr<|.inl e
  ·rcases h3 with e3|⟨k,e3,z⟩
   ·exact .inr<|.inr<|e.trans e3
   ·rw[e3]at e;injection e with e;omega
theorem SS.keep {σ:CR CS}{ret loops outs:Int}(h:SS K w0 ai σ ret loops outs w)(z:k<w0.heap.size)(h1:k≠K.cb)(h2:k≠K.tb)(h3:some k≠ai):w.heap[k]?=w0.heap[k]?:=
 h.kept.block k z (by rintro(e|e|e)<;>contradiction)
theorem SS.below {σ:CR CS}{ret loops outs:Int}(h:SS K w0 ai σ ret loops outs w)(h0:K.lo<=w0.heap.size)(ho:∀k,ai=some k->K.lo<=k):Below K.lo w0 w:=
 h.kept.below h0 (by rintro k (e|e|e);have:=h.ok.cl;omega;have:=h.ok.tl;omega;exact ho k e.symm)
theorem SRaw.cells {ret loops outs:Int}(h:SRaw K w vv code place deep ret loops outs zs vs):
  w.cell? ⟨K.cb,0,none⟩=some (.int .i64 K.F.y)/\w.cell? ⟨K.cb,1,none⟩=some (.int .i64 K.F.E)/\w.cell? ⟨K.cb,2,none⟩=some (.string K.F.z)/\w.cell? ⟨K.cb,3,none⟩=some K.fv/\
  w.cell? ⟨K.cb,4,none⟩=some (.slice (some ⟨K.tb,0,none⟩) K.N K.N)/\w.cell? ⟨K.cb,5,none⟩=some (.int .i64 code)/\w.cell? ⟨K.cb,6,none⟩=some (.int .i64 place)/\w.cell? ⟨K.cb,7,none⟩=some vv/\
  w.cell? ⟨K.cb,8,none⟩=some (.int .i64 deep)/\w.cell? ⟨K.cb,9,none⟩=some (.int .i64 ret)/\w.cell? ⟨K.cb,10,none⟩=some (.int .i64 loops)/\w.cell? ⟨K.cb,11,none⟩=some (.int .i64 outs):=by
 have:=h.av;refine⟨?_,?_,?_,?_,?_,?_,?_,?_,?_,?_,?_,?_⟩<;>simp[World.cell?,this,SK.cells]
theorem SRaw.free {ret loops outs:Int}(h:SRaw K w vv code place deep ret loops outs zs vs)(i:Nat):w.frozen? ⟨K.cb,i,none⟩=false:=av3 w K.cb i _ _ h.av
theorem SRaw.set (hK:K.Ok){ret loops outs code' place' deep':Int}(h:SRaw K w vv code place deep ret loops outs zs vs)
  (e:(K.cells vv code place deep ret loops outs).set! i u=K.cells vv code' place' deep' ret' loops' outs'):SRaw K (w.setCell ⟨K.cb,i,none⟩ u) vv code' place' deep' ret' loops' outs' zs vs:=by
 refine⟨?_,?_,h.q,av7 h.var (show K.cb<K.up from hK.cu) u⟩
 ·rw[avD w K.cb i _ _ u h.av,<-e];simp
 ·rw[avz w ⟨K.cb,i,none⟩ u K.tb fun e=>hK.ne e.symm];exact h.cA
theorem gQ (w:World)(base:Nat)(t ty e:TypeId)(i:TypeInfo)(axa:Value)(size bytes:Nat)(ht:P.underlying t=some (.slice e))(hi:P.info? e=some i)(hz:i.zero=some axa)
  (iG:i.size=size) (th:i.bytes=bytes) (YH:axa.cells.size=size) (cg:0<size) (v:Value) (n:Nat) (xs:List Value) (dd:w.ownsRow base e size v n xs)
  (a:Addr) (m c:Nat) (news:List Value) (hl:news.length=m*size) (kH:∀j u,news[j]?=some u->w.cell? (a.add j)=some u) (h1:∀u∈news,u.oneCell'=true) (Qn:n+m<=maxLen) (I:(n+m)*bytes<=140737488355328) (ln:base<=w.heap.size):
  ∃v' w',(Builtin.append_ #[t,t] ty #[v,.slice (some a) m c]).run P w=.ok v' w'/\w'.ownsRow base e size v' (n+m) (xs++news)/\w.grownBy w' v.ownBlock/\(v'.ownBlock=v.ownBlock\/∃k,v'.ownBlock=some k/\w.heap.size<=k)/\
   ∃a c,v'=.slice a (n+m) c:=by
 obtain⟨v',w',hr,h2,h3,h4⟩:=run_append_own (P:=P) w base t ty e i axa size bytes ht hi hz iG th YH cg v n xs dd a m c news hl kH h1 Qn I ln;subst iG;subst th;have hsmall:n+m<=9223372036854775807:=by simp only[maxLen]at Qn;omega
 have sq:∃a c,v'=.slice a (n+m) c:=by
  rcases h2.2 with⟨rfl,e⟩|⟨g,cap,cur,rfl,_⟩
  ·exact⟨none,0,by rw[e]⟩
  ·exact⟨_,_,rfl⟩
 refine⟨v',w',hr,h2,h3,?_,sq⟩;rcases dd.2 with⟨rfl,rfl⟩|⟨g,cap,cur,rfl,hbg,hg,hnc,Ac,q8,S4⟩
 ·by_cases hm:m=0
  ·exact .inl abl
  ·have wa:=run_append_nil (P:=P) w t ty e i axa ht hi hz a m c news hl kH O O (by have I:=I;simp only[Nat.zero_add]at I;omega);rw[wa]at hr;injection hr with e1 e2;subst e1;exact .inr ⟨w.heap.size,rfl,avF _⟩
 ·by_cases xP:n+m<=cap
  ·have bI:n*i.size+news.length<=cur.size:=by rw[hl,q8,<-awU];exact avQ _ xP
   have wa:=run_append_room (P:=P) w t ty e i ht hi g n cap cur hg a m c news hl kH h1 xP bI;rw[wa]at hr;injection hr with e1 e2;subst e1;exact .inl rfl
  ·have holds:∀j u,xs[j]?=some u->w.cell? ((⟨g,0,none⟩:Addr).add j)=some u:=dd.cells (g:=g) rfl;have wa:=run_append_grow (P:=P) w t ty e i axa ht hi hz ⟨g,0,none⟩ n cap xs dd.1 holds a m c news hl kH O O<|growslice_fits O I;rw[wa]at hr;injection hr with e1 e2;subst e1;exact .inr ⟨w.heap.size,rfl,avF _⟩
theorem bN (w:World){ops:Array Oper}{rest:List Oper}{o:Oper}{a:Act}{Q:Exit->Act->World->Prop}(NT:o.guard=none)(sl x:Operand)(t:TypeId)
  (ho:o.op=.call {callee:=.builtin .append,args:=#[sl,x],argTypes:=#[t,t]})
  (base:Nat) (e:TypeId) (i:TypeInfo) (axa:Value) (size bytes:Nat) (ht:P.underlying t=some (.slice e)) (hi:P.info? e=some i) (hz:i.zero=some axa)
  (iG:i.size=size) (th:i.bytes=bytes) (YH:axa.cells.size=size) (cg:0<size)
  (v:Value) (n:Nat) (xs:List Value) (hs:a.eval sl=v) (dd:w.ownsRow base e size v n xs)
  (ad:Addr) (m c:Nat) (news:List Value) (hx:a.eval x=.slice (some ad) m c) (hl:news.length=m*size) (kH:∀j u,news[j]?=some u->w.cell? (ad.add j)=some u) (h1:∀u∈news,u.oneCell'=true)
  (Qn:n+m<=maxLen) (uH:(n+m)*bytes<=140737488355328) (ln:base<=w.heap.size)
  (h:∀v' w',Hid (w'.ownsRow base e size v' (n+m)<|xs++news)->Hid (w.grownBy w' v.ownBlock)->Hid (v'.ownBlock=v.ownBlock\/∃k,v'.ownBlock=some k/\w.heap.size<=k)->Hid (∃a c,v'=.slice a (n+m) c)->wpList P ops Q rest (a.put o.dst v') w'):wpList P ops Q (o::rest) a w:=by
 refine wpList_plain NT fun K hK=>?_;obtain⟨v',w',hr,h2,h3,h4,h5⟩:=gQ (P:=P) w base t o.type e i axa size bytes ht hi hz iG th YH cg v n xs dd ad m c news hl kH h1 Qn uH ln;unfold Oper.wp execOp;simp only[ho,resolve,invoke,builtin,awr,Sem.run_pure,awR,awS,awD,awP,hs,hx,hr];exact hK _ _<|h v' w' h2 h3 h4 h5
def Cj (T:Nd):Prop:=∀(w:World)(v:Value)(hi:Nat),T.R->hi<=w.heap.size->Row 0 hi w T v->T.cost<=1048576->
 Calls prog 51 #[T.val v] w fun e w'=>e=.returned (.int .i64 (T.size:Int))/\Below w.heap.size w w'
theorem uy (T:Nd)(ih:∀i,i<T.q->Cj (T.f i)):Cj T:=by
 intro w v hi hf gB hr iW;have hn:=T.I hf;have hz:=T.be;have hze:=T.size_eq;have Tp:∀j,j<T.q->(T.f j).cost<=1048576:=fun j hj=>avK (T.b3 hj) iW;obtain⟨a,cap,rfl,bo,hq⟩:=ar.1 hr;clear bo;have HI:=Z ih;have HF:=Z hf;have HR:=Z hq;have HK:=Z Tp;clear hr hf ih hq Tp;have ba:∀j,j<T.q->aq (fun i=>(T.f i).size) j+(T.f j).size<=aq (fun i=>(T.f i).size) T.q:=fun j hj=>kr _ hj;have eR:∀j,aq (fun i=>(T.f i).size) (j+1)=aq (fun i=>(T.f i).size) j+(T.f j).size:=fun j=>rfl;have h00:aq (fun i=>(T.f i).size) 0=0:=rfl;generalize aq (fun i=>(T.f i).size)=S at*
 have N6:=Z ba;have mW:=Z eR;clear ba eR;unfold Nd.val;generalize T.y=tk;generalize T.E=tn;generalize T.z=ts;have HB:∀a:Obj,Hid (Below w.heap.size w<|w.alloc a):=fun a=>bA;go_enter func51,ntmps51
 go_wp2;go_loopw[3,4] (fun k i wr=>∃(j:Nat),j<=T.q/\i=.int .i64 j/\k=.int .i64 ((1+S j:Nat):Int)/\Below (w.heap.size+1) (w.alloc<|.cells #[.int .i64 tk,.int .i64 tn,.string ts,.slice a T.q cap] 25) wr) (fun _ i _=>T.q-(intOf i).toNat)
 case atStart=>exact⟨0,O,rfl,by simp[h00],avB _ _⟩
 case round=>
  obtain⟨j,hj,rfl,rfl,I⟩:=hrel;have k3:wr.cell? ⟨w.heap.size,3,none⟩=some (.slice a T.q cap):=by
   rw[I.cell (p:=⟨w.heap.size,3,none⟩) aar];simp
  have fH:=(HB<|.cells #[.int .i64 tk,.int .i64 tn,.string ts,.slice a T.q cap] 25).o.trans<|I.mono O;have sP:=fH.size;by_cases be:j<T.q
  ·have aiq:=kk;exact XU
  ·go_wp2;go_ret;obtain rfl:j=T.q:=O;exact⟨jI O,fH⟩
theorem ES (T:Nd):Cj T:=by
 induction T with
 |nil=>exact uy _ fun i hi=>absurd hi<|avJ i
 |mk k n s len kids ih=>exact uy _ fun i _=>ih i
def St (w:World)(lo:Nat)(v:Value)(n:Nat)(f:Nat->Int):Prop:=
 ∃a cap,v=.slice a n cap/\n<=cap/\cap<=9223372036854775807/\(n=0\/∃g off,a=some ⟨g,off,none⟩/\lo<=g/\g<w.heap.size/\∀i,i<n->w.cell? ⟨g,off+i,none⟩=some (.int .i64<|f i))
def bg (T:Nd)(at':Nat)(i:Nat):Nat:=at'+1+aq (fun j=>(T.f j).size) i
theorem s7 (T:Nd)(at':Nat):bg T at' 0=at'+1:=rfl
theorem fx (T:Nd)(at' i:Nat):bg T at' (i+1)=bg T at' i+(T.f i).size:=by simp only[bg,aq];omega
theorem oB (T:Nd)(at':Nat):bg T at' T.q=at'+T.size:=by unfold bg;rw[T.size_eq];omega
theorem fm (T:Nd)(at':Nat)(h:i<T.q):bg T at' i+(T.f i).size<=at'+T.size:=by rw[<-oB T at'];have:=kr (fun j=>(T.f j).size) h;unfold bg;omega
def qG (T:Nd)(at':Nat):Nat->List Int
 |0=>[]
 |n+1=>qG T at' n++[(bg T at' n:Int)]
theorem oA (T:Nd)(at' n:Nat):(qG T at' n).length=n:=by
 induction n with
 |zero=>rfl
 |succ n ih=>simp[qG,ih]
theorem Ba (T:Nd)(at':Nat):∀{n i:Nat},i<n->(qG T at' n)[i]?=some (bg T at' i:Int)
 |n+1,i,h=>by
  simp only[qG]
  by_cases e:i<n
  ·rw[avU (by rw[oA];exact e)];exact Ba T at' e
  ·obtain rfl:i=n:=O
   rw[avO (by rw[oA];exact avF _),oA];simp
theorem SU :(prog.info? 3).map (fun i=>(i.zero,i.size,i.bytes))=some (some<|.int .i64 0,1,8):=by kernel_rfl
theorem RC {W:World}{lo:Nat}{xs:List Int}(h:w.ownsRow lo 3 1 v n (xs.map<|Value.int .i64))(f:Nat->Int)(hx:∀i,i<n->xs[i]?=some (f i)):St w lo v n f:=by
 have hc:=h
 rcases h.2 with⟨rfl,e⟩|⟨g,cap,cur,rfl,h2,h3,h4,h5,h6⟩
 ·exact⟨none,0,by rw[e],O,O,.inl e⟩
 ·refine⟨_,cap,rfl,h4,by unfold maxLen at h5;omega,.inr ⟨g,0,rfl,h2,(avp.1 h3).1,fun i hi=>?_⟩⟩;have:=hc.cells (g:=g) rfl i (.int .i64<|f i) (by rw[awq,hx i hi];rfl);rw[nY]at this;rw[Nat.zero_add];exact this
theorem j8 (T:Nd)(w:World)(v:Value)(hi at':Nat)(hf:T.R)(gB:hi<=w.heap.size)(hr:Row 0 hi w T v)(iW:T.cost<=1048576)(Qk:at'<=1099511627776):
  Calls prog 52 #[T.val v,.int .i64 at'] w fun e w'=>∃u,e=.returned u/\St w' w.heap.size u T.q (fun i=>(bg T at' i:Int))/\Below w.heap.size w w':=by
 have hn:=T.I hf;have hz:=T.be;have hcz:=T.bJ;have Tp:∀j,j<T.q->(T.f j).cost<=1048576:=fun j hj=>avK (T.b3 hj) iW;obtain⟨a,cap,rfl,bo,hq⟩:=ar.1 hr;obtain⟨i0,nB,mT,eu,ed⟩:=av0 SU;have sN:=s7 T at';have Ze:=Z<|fx T at';have HKL:=Z fun i(h:i<T.q)=>fm T at' h;have HNL:=Z<|oA T at';have HF:=Z hf;have HR:=Z hq;have HK:=Z Tp;have hlen:T.q<=1048576:=O;have cg:T.size<=1048577:=O;clear hr hf hq Tp bo hcz;unfold Nd.val;generalize T.y=tk;generalize T.E=tn;generalize T.z=ts;go_enter func52,ntmps52
 go_wp2;have dC:Hid (Below w.heap.size w<|w.alloc<|.cells #[.int .i64 tk,.int .i64 tn,.string ts,.slice a T.q cap] 25):=bA;go_loopw[1,5,6] (fun at1 out i wr=>∃(j:Nat)(sa:Option Addr)(sc:Nat),j<=T.q/\i=.int .i64 j/\at1=.int .i64 (bg T at' j:Nat)/\out=.slice sa j sc/\wr.ownsRow (w.heap.size+1) 3 1 (.slice sa j sc) j ((qG T at' j).map<|Value.int .i64)/\Below (w.heap.size+1) (w.alloc<|.cells #[.int .i64 tk,.int .i64 tn,.string ts,.slice a T.q cap] 25) wr) (fun _ _ i _=>T.q-(intOf i).toNat)
 case atStart=>
  refine⟨0,_,_,O,rfl,by rw[sN];rfl,rfl,?_,?_⟩
  ·have hh:=World.ownsRow_made (base:=w.heap.size+1) (e:=3) (size:=1) (w.alloc<|.cells #[.int .i64 tk,.int .i64 tn,.string ts,.slice a T.q cap] 25) #[] 0 M aaj M;simpa[qG]using hh
  ·refine(avB _ _).alloc ?_ _;simp
 case round=>
  obtain⟨j,sa,sc,hj,rfl,rfl,rfl,dd,I⟩:=hrel;have k3:wr.cell? ⟨w.heap.size,3,none⟩=some (.slice a T.q cap):=by
   rw[I.cell (p:=⟨w.heap.size,3,none⟩) aar];simp
  have iY:w.heap.size+1<=wr.heap.size:=by have:=I.size;simpa using this
  have Yh:=Z dd;have HB:=Z I;clear dd I;by_cases be:j<T.q
  ·have air:=kk;exact XU
  ·go_wp2;go_ret;obtain rfl:j=T.q:=O;refine⟨_,rfl,?_,dC.o.trans<|HB.o.mono<|av8 _⟩;have:=RC (W:=w) Yh.o (fun i=>(bg T at' i:Int)) fun i hi=>Ba T at' hi;obtain⟨a1,c1,e1,e2,e3,e4⟩:=this;refine⟨a1,c1,e1,e2,e3,?_⟩;rcases e4 with h|⟨g,off,h5,h6,h7⟩
   ·exact .inl h
   ·exact .inr ⟨g,off,h5,O,h7⟩
def failC (σ:CR CS)(c:Int)(p:Nat):CR CS:=match σ with|.ok _=>.error (c,p)|.error e=>.error e
theorem eM {σ:CR CS}{ret loops outs:Int}(h:SS K w0 ai σ ret loops outs w)(c:Int)(hc:c≠0)(p:Nat):
  Calls prog 54 #[.pointer<|some ⟨K.cb,0,none⟩,.int .i64 c,.int .i64 p] w fun e w'=>e=.returned (.tuple #[])/\SS K w0 ai (failC σ c p) ret loops outs w':=by
 obtain⟨vv,code,place,deep,zs,vs,h1,h2,h3⟩:=h.is;obtain⟨k0,k1,k2,k3,k4,k5,k6,k7,k8,k9,vM,uz⟩:=h1.cells;have f5:=h1.free 5;have f6:=h1.free 6;have HS:=Z h;have HR:=Z h1;have HI:=Z h2;have HO:=Z h3;clear h h1 h2 h3 k0 k1 k2 k3 k4 k7 k8 k9 vM uz;cases σ with
 |ok s=>
  have hz:code=0:=HI.o.1;subst hz;go_enter func54,ntmps54
  go_wp2;go_end0;have r1:=HR.o.set HS.o.ok (i:=5) (u:=.int .i64 c) (code':=c) (place':=place) (deep':=deep) (ret':=ret) (loops':=loops) (outs':=outs) rfl;have r2:=r1.set HS.o.ok (i:=6) (u:=.int .i64 p) (code':=c) (place':=p) (deep':=deep) (ret':=ret) (loops':=loops) (outs':=outs) rfl;refine⟨rfl,HS.o.ok,⟨vv,c,p,deep,zs,vs,r2,⟨rfl,hc,rfl⟩,HO.o⟩,?_⟩;exact(HS.o.kept.trans (Kept.setCell _ _<|.inl rfl) fun _ _ h=>h).trans (Kept.setCell _ _<|.inl rfl) fun _ _ h=>h
 |error e=>
  have hz:(code==0)=false:=bn (by rw[HI.o.1];exact HI.o.2.1);go_enter func54,ntmps54
  go_wp2;go_end0;exact⟨rfl,HS.o⟩
def kW (vs:List Vr)(i:Nat):Vr:=vs.getD i (⟨#[]⟩,0,0)
theorem BH :∀(vs:List Vr)(i:Nat),i<vs.length->(gD vs)[i*3]?=some (.string (kW vs i).1)/\(gD vs)[i*3+1]?=some (.int .i64 (kW vs i).2.1)/\(gD vs)[i*3+2]?=some (.int .i64 (kW vs i).2.2)
 |[],i,h=>absurd h<|avJ _
 |v::l,0,_=>⟨rfl,rfl,rfl⟩
 |v::l,i+1,h=>by
  have e0:(i+1)*3=i*3+1+1+1:=O
  have e1:(i+1)*3+1=i*3+1+1+1+1:=O
  have e2:(i+1)*3+2=i*3+2+1+1+1:=O
  rw[e1,e2,e0]
  exact BH l i (by simpa using h)
theorem SRaw.vars {ret loops outs:Int}(h:SRaw K w vv code place deep ret loops outs zs vs):
  ∃a cap,vv=.slice a vs.length cap/\vs.length<=cap/\cap<=9223372036854775807/\(vs.length=0\/∃g,a=some ⟨g,0,none⟩/\∀i,i<vs.length->w.cell? ⟨g,i*3,none⟩=some (.string (kW vs i).1)/\w.cell? ⟨g,i*3+1,none⟩=some (.int .i64 (kW vs i).2.1)/\w.cell? ⟨g,i*3+2,none⟩=some (.int .i64 (kW vs i).2.2)):=by
 have hv:=h.var;rcases h.var.2 with⟨rfl,e⟩|⟨g,cap,cur,rfl,h2,h3,h4,h5,h6⟩
 ·exact⟨none,0,by rw[e],by rw[e];exact avF _,O,.inl e⟩
 ·refine⟨_,cap,rfl,h4,by unfold maxLen at h5;omega,.inr ⟨g,rfl,fun i hi=>?_⟩⟩;have hc:=hv.cells (g:=g) rfl;obtain⟨a0,a1,a2⟩:=BH vs i hi;refine⟨?_,?_,?_⟩
  ·rw[<-nY];exact hc _ _ a0
  ·rw[<-nY];exact hc _ _ a1
  ·rw[<-nY];exact hc _ _ a2
theorem rj {a b:ByteArray}(h:¬a=b):(a.toList==b.toList)=false:=by rw[oK];simpa using h
def iU (vs:List Vr)(s:ByteArray):Nat->Int
 |0=>0
 |n+1=>if(kW vs n).1=s then(kW vs n).2.1 else iU vs s n
theorem K8 {ret loops outs:Int}(h:SRaw K w vv code place deep ret loops outs zs vs)(s:ByteArray)(hn:vs.length<=1048576):
  Calls prog 141 #[.pointer<|some ⟨K.cb,0,none⟩,.string s] w fun e w'=>e=.returned (.int .i64<|iU vs s vs.length)/\Below w.heap.size w w':=by
 obtain⟨a,cap,rfl,eO,jQ,hv⟩:=h.vars;obtain⟨k0,k1,k2,k3,k4,k5,k6,k7,k8,k9,vM,uz⟩:=h.cells;clear h k0 k1 k2 k3 k4 k5 k6 k8 k9 vM uz;have HV:=Z hv;clear hv;go_enter func141,ntmps141
 go_wp2;go_loopw[5] (fun i wr=>wr=w/\∃n:Nat,n<=vs.length/\i=.int .i64 ((n:Int)-1)/\iU vs s vs.length=iU vs s n) (fun i _=>(intOf i+1).toNat)
 case atStart=>exact⟨rfl,vs.length,avF _,rfl,rfl⟩
 case round=>
  obtain⟨rfl,n,hnl,rfl,hl⟩:=hrel;have HL:=Z hl;clear hl;cases n with
  |zero=>
   go_wp2;go_ret;exact⟨by rw[HL.o];rfl,avB _ _⟩
  |succ n=>
   rcases HV.o with h0|⟨g,rfl,hv⟩
   ·omega
   obtain⟨c0,c1,c2⟩:=hv n O;have e1:((n+1:Nat):Int)-1=n:=O;rw[e1];by_cases hs:(kW vs n).1=s
   ·have ht:((kW vs n).1.toList==s.toList)=true:=by rw[hs];exact beq_self_eq_true _
    have hL:iU vs s (n+1)=(kW vs n).2.1:=by simp[iU,hs]
    rw[hL]at HL;go_wp2;go_ret;exact⟨by rw[HL.o];rfl,avB _ _⟩
   ·have ht:((kW vs n).1.toList==s.toList)=false:=rj hs;have hL:iU vs s (n+1)=iU vs s n:=by simp[iU,hs]
    go_wp2;refine⟨⟨trivial,n,O,rfl,by rw[HL.o];exact hL⟩,by simp only[intOf];omega⟩
theorem tI (a b:List Vr)(h:i<a.length):kW (a++b) i=kW a i:=by simp[kW,List.getElem?_append_left h]
theorem ri (a b:List Vr)(h:a.length<=i):kW (a++b) i=kW b (i-a.length):=by simp[kW,List.getElem?_append_right h]
theorem uw (a b:List Vr)(s:ByteArray):∀{n:Nat},n<=a.length->iU (a++b) s n=iU a s n
 |0,_=>rfl
 |n+1,h=>by simp only[iU];rw[tI a b h,uw a b s O]
theorem Dm (a:List Vr)(v:Vr)(s:ByteArray):iU (a++[v]) s (a++[v]).length=if v.1=s then v.2.1 else iU a s a.length:=by have e:(a++[v]).length=a.length+1:=M;rw[e];simp only[iU];rw[ri a [v] lr,awO,uw a [v] s lr];rfl
theorem ur (a:List Vr)(d:Nat)(s:ByteArray):∀l:List (ByteArray×Int),iU (a++l.reverse.map fun p=>(p.1,p.2,d)) s (a++l.reverse.map fun p=>(p.1,p.2,d)).length=(match l.find? (fun p=>decide<|p.1=s)with|some p=>p.2|none=>iU a s a.length)
 |[]=>by simp
 |p::l=>by
  have ih:=ur a d s l
  rw[reverse_cons,awE,<-avM]
  rw[awD,awP,Dm,ih]
  by_cases h:p.1=s<;>simp[h]
theorem K9 (E:Sc)(s:ByteArray):iU (varsOf E) s (varsOf E).length=look E s:=by
 induction E with
 |nil=>rfl
 |cons l E ih=>
  rw[varsOf,ur,ih];unfold look ZQ;rw[flatten_cons,List.find?_append];cases List.find? (fun p=>decide<|p.1=s) l<;>rfl
theorem kD {ret loops outs:Int}(h:SS K w0 ai (.ok s) ret loops outs w)(t:ByteArray):
  Calls prog 141 #[.pointer<|some ⟨K.cb,0,none⟩,.string t] w fun e w'=>e=.returned (.int .i64<|look s.1 t)/\SS K w0 ai (.ok s) ret loops outs w':=by
 obtain⟨vv,code,place,deep,zs,vs,h1,⟨_,_,_,_,h6,h7,h8,_⟩,_⟩:=h.is;subst h7;have:=h.ok.aR;refine(K8 h1 t (by rw[tH];omega)).mono ?_;rintro e w'⟨rfl,I⟩;exact⟨by rw[K9],h.calm I⟩
theorem Mp (hK:K.Ok){ret loops outs:Int}(h:SRaw K w vv code place deep ret loops outs zs vs)(c:Int)(p:Nat):
  Calls prog 54 #[.pointer<|some ⟨K.cb,0,none⟩,.int .i64 c,.int .i64 p] w fun e w'=>e=.returned (.tuple #[])/\SRaw K w' vv (if code=0 then c else code) (if code=0 then(p:Int)else place) deep ret loops outs zs vs/\Kept (fun k=>k=K.cb) w w':=by
 obtain⟨k0,k1,k2,k3,k4,k5,k6,k7,k8,k9,vM,uz⟩:=h.cells;have f5:=h.free 5;have f6:=h.free 6;have HR:=Z h;clear h k0 k1 k2 k3 k4 k7 k8 k9 vM uz;by_cases hz:code=0
 ·subst hz;go_enter func54,ntmps54
  go_wp2;go_end0;have r1:=HR.o.set hK (i:=5) (u:=.int .i64 c) (code':=c) (place':=place) (deep':=deep) (ret':=ret) (loops':=loops) (outs':=outs) rfl;have r2:=r1.set hK (i:=6) (u:=.int .i64 p) (code':=c) (place':=p) (deep':=deep) (ret':=ret) (loops':=loops) (outs':=outs) rfl;exact⟨rfl,r2,(Kept.setCell (S:=fun k=>k=K.cb) ⟨K.cb,5,none⟩ _ rfl).trans (Kept.setCell (S:=fun k=>k=K.cb) ⟨K.cb,6,none⟩ _ rfl) fun _ _ h=>h⟩
 ·have hz':(code==0)=false:=bn hz;go_enter func54,ntmps54
  go_wp2;go_end0;exact⟨rfl,HR.o,Kept.refl _ _⟩
theorem Oi (l:List (ByteArray×Int))(d i:Nat)(h:i<l.length):(kW (l.map fun p=>(p.1,p.2,d)) i).2.2=d:=by unfold kW;rw[avX,awq,av4 h];rfl
theorem yE (l:List (ByteArray×Int))(E:Sc)(h:(varsOf E).length<=i)(h2:i<(varsOf<|l::E).length):(kW (varsOf<|l::E) i).2.2=E.length+1:=by unfold varsOf at h2⊢;rw[ri _ _ h,Oi];rw[avu]at h2;simp at h2⊢;omega
theorem Un (E:Sc):∀{i:Nat},i<(varsOf E).length->(kW (varsOf E) i).2.2<=E.length:=by
 induction E with
 |nil=>intro i h;exact absurd h<|avJ _
 |cons l E ih=>
  intro i h;by_cases h1:i<(varsOf E).length
  ·unfold varsOf;rw[tI _ _ h1];have:=ih h1;simp;omega
  ·rw[yE l E O h];simp
theorem Ey (l:List (ByteArray×Int))(E:Sc)(h:i<(varsOf E).length):(kW (varsOf<|l::E) i).2.2<=E.length:=by unfold varsOf;rw[tI _ _ h];exact Un E h
theorem Hf (l:List (ByteArray×Int))(E:Sc)(s:ByteArray):xI (l::E) s=true↔∃i,(varsOf E).length<=i/\i<(varsOf<|l::E).length/\(kW (varsOf<|l::E) i).1=s:=by
 have hl:(varsOf<|l::E).length=(varsOf E).length+l.length:=by simp[varsOf]
 have hv:∀j,j<l.length->(kW (varsOf<|l::E)<|(varsOf E).length+j).1=(l.reverse.getD j (⟨#[]⟩,0)).1:=by
  intro j hj;rw[show varsOf (l::E)=varsOf E++l.reverse.map fun p=>(p.1,p.2,E.length+1)from rfl];rw[ri _ _<|Nat.le_add_right _ _,Nat.add_sub_cancel_left];unfold kW;rw[avX,awq,avX,av4 aa0];rfl
 simp only[xI,any_eq_true,avy];constructor
 ·rintro⟨p,y,rfl⟩;obtain⟨j,hj,rfl⟩:=getElem_of_mem<|List.mem_reverse.2 y;simp at hj;refine⟨(varsOf E).length+j,Nat.le_add_right _ _,O,?_⟩;rw[hv j hj,avX,av4 aa0];rfl
 ·rintro⟨i,h1,h2,h3⟩;obtain⟨j,rfl⟩:∃j,i=(varsOf E).length+j:=⟨i-(varsOf E).length,O⟩;have hj:j<l.length:=O;rw[hv j hj,avX,av4 aa0]at h3;refine⟨_,List.mem_reverse.1<|getElem_mem aa0,h3⟩
theorem infoV :(prog.info? 94).map (fun i=>(i.zero,i.size,i.bytes))=some (some<|.agg #[.string ⟨#[]⟩,.int .i64 0,.int .i64 0],3,32):=by kernel_rfl
theorem below_drewN (w:World)(n:Nat):Below w.heap.size w (w.drewN n):=⟨rfl,rfl,rfl,avF _,fun _ _=>rfl⟩
theorem vq (w:World)(a b c:Value)(t:TypeId):∀j u,[a,b,c][j]?=some u->(w.alloc<|.cells #[a,b,c] t).cell? ((⟨w.heap.size,0,none⟩:Addr).add j)=some u:=by intro j u h;rw[nY];rcases j with _|_|_|j<;>simp_all
theorem vp (b:ByteArray)(a c:Int):∀u∈[Value.string b,.int .i64 a,.int .i64 c],u.oneCell'=true:=by intro u hu;simp at hu;rcases hu with rfl|rfl|rfl<;>rfl
theorem SRaw.dy (hK:K.Ok){v1:Value}{ret loops outs:Int}{vs1:List Vr}(h:SRaw K w vv code place deep ret loops outs zs vs)
  (hg:w.grownBy w1 vv.ownBlock) (ho:w1.ownsRow K.up 94 3 v1 vs1.length (gD vs1)):SRaw K (w1.setCell ⟨K.cb,7,none⟩ v1) v1 code place deep ret loops outs zs vs1:=by
 have hcu:=hK.cu;have htu:=hK.tu;have hc:w1.heap[K.cb]?=w.heap[K.cb]?:=hg.block _ h.lt.1 (fun e=>by have:=(h.var.lt _ e.symm).1;omega);have ht:w1.heap[K.tb]?=w.heap[K.tb]?:=hg.block _ h.lt.2 (fun e=>by have:=(h.var.lt _ e.symm).1;omega);refine⟨?_,?_,h.q,av7 ho (show K.cb<K.up from hK.cu) v1⟩
 ·rw[avD w1 K.cb 7 _ _ v1<|hc.trans h.av];rfl
 ·rw[avz w1 ⟨K.cb,7,none⟩ v1 K.tb fun e=>hK.ne e.symm,ht];exact h.cA
theorem SS.b2 {σ σ':CR CS}{ret loops outs:Int}(h:SS K w0 ai σ ret loops outs w)
  (h1:SRaw K w' vv code place deep ret' loops' outs' zs vs) (h2:SIs K σ' code place deep zs vs) (h3:vv.ownBlock=ai\/∃k,vv.ownBlock=some k/\w0.heap.size<=k) {own:Option Nat} (ho:own=ai\/∃k,own=some k/\w0.heap.size<=k) (z:Kept (K.S own) w w'):SS K w0 ai σ' ret' loops' outs' w':=by
 refine⟨h.ok,⟨vv,code,place,deep,zs,vs,h1,h2,h3⟩,h.kept.trans z ?_⟩;rintro i hi(e|e|e)
 ·exact .inl e
 ·exact .inr<|.inl e
 ·rcases ho with e3|⟨k,e3,z⟩
  ·exact .inr<|.inr<|e.trans e3
  ·rw[e3]at e;injection e with e;omega
def sG (s:CS)(t:ByteArray)(ty:Int)(p:Nat):CR CS:=if xI s.1 t=true then .error (6,p)else .ok (iE s.1 t ty,s.2)
theorem sF {X:List Int}{ret loops outs:Int}{wr wq:World}{l:List (ByteArray×Int)}{t:ByteArray}{ty:Int}{m0 el B9:Nat}{g1:Nat}{o:Obj}
  (hvs:varsOf (l::E)=vs) (hm:(varsOf E).length=m0) (L1:E.length=el)
  (hS:SS K w0 ai (.ok (l::E,X)) ret loops outs w) (hR:SRaw K wr (.slice a vs.length cap) code place ((el:Int)+1) ret loops outs zs vs) (z:Kept (fun k=>k=K.cb) w wr) (hq:Below wr.heap.size wr wq)
  (hR2:SRaw K (wq.alloc o) (.slice a vs.length cap) code place ((el:Int)+1) ret loops outs zs vs)
  (sO:(wq.alloc o).drew.grownBy w1 (Value.slice a vs.length cap).ownBlock) (hw:w1.ownsRow K.up 94 3 (.slice (some ⟨g1,0,none⟩) (vs.length+1) B9) (vs.length+1) (gD vs++[.string t,.int .i64 ty,.int .i64<|(el:Int)+1]))
  (Qk:(Value.slice a vs.length cap).ownBlock=some g1\/g1=wq.heap.size+1) (ho:(Value.slice a vs.length cap).ownBlock=ai\/∃k,(Value.slice a vs.length cap).ownBlock=some k/\w0.heap.size<=k)
  (hc:(code=0/\place=0/\∀j,m0<=j->j<vs.length->(kW vs j).1≠t)\/(code=6/\place=(p:Int)/\∃j,m0<=j/\j<vs.length/\(kW vs j).1=t))
  (hit:xI (l::E) t=true↔∃i,m0<=i/\i<vs.length/\(kW vs i).1=t) (hpv:varsOf (iE (l::E) t ty)=vs++[(t,ty,el+1)]) (Hs:cD (iE (l::E) t ty)=cD (l::E)+1/\(iE (l::E) t ty).length=(l::E).length)
  (h6:zs=X++List.replicate (K.N-X.length) 0) (h7:X.length<=K.N) (hv:cD (l::E)+1<=X.length) (h9:(l::E).length<=X.length+1):
  Ending.returned (.tuple #[])=Ending.returned (.tuple #[])/\SS K w0 ai (sG (l::E,X) t ty p) ret loops outs (w1.setCell ⟨K.cb,7,none⟩<|.slice (some ⟨g1,0,none⟩) (vs.length+1) B9):=by
 have hg:(wq.alloc o).grownBy w1 (Value.slice a vs.length cap).ownBlock:=⟨sO.os,sO.tape,sO.output,sO.size,sO.block⟩;have hK:=hS.ok;have VY:gD (vs++[(t,ty,el+1)])=gD vs++[.string t,.int .i64 ty,.int .i64<|(el:Int)+1]:=by rw[zx];rfl
 have hll:(vs++[(t,ty,el+1)]).length=vs.length+1:=M;have hP:=SRaw.dy (vs1:=vs++[(t,ty,el+1)]) hK hR2 hg (by rw[VY,hll];exact hw);have iV:Kept (K.S (Value.slice a vs.length cap).ownBlock) w (w1.setCell ⟨K.cb,7,none⟩<|.slice (some ⟨g1,0,none⟩) (vs.length+1) B9):=by
  have e1:Kept (K.S (Value.slice a vs.length cap).ownBlock) w wr:=⟨z.os,z.tape,z.output,z.size,fun k ig hn=>z.block k ig fun e=>hn<|.inl e⟩;have e2:=e1.trans (b9 hq<|K.S (Value.slice a vs.length cap).ownBlock) fun _ _ h=>h;have e3:=e2.trans (b9 ((avB _ _).alloc lr o)<|K.S (Value.slice a vs.length cap).ownBlock) fun _ _ h=>h;have e4:=e3.trans (Kept.grown (S:=K.S (Value.slice a vs.length cap).ownBlock) hg fun k h=>.inr<|.inr h.symm) fun _ _ h=>h;exact e4.trans (Kept.setCell (S:=K.S (Value.slice a vs.length cap).ownBlock) ⟨K.cb,7,none⟩ _<|.inl rfl) fun _ _ h=>h
 have cg:=hS.kept.size;have hsz2:=z.size;have Hp:=hq.size;have dd:(Value.slice (some ⟨g1,0,none⟩) (vs.length+1) B9).ownBlock=ai\/∃k,(Value.slice (some ⟨g1,0,none⟩) (vs.length+1) B9).ownBlock=some k/\w0.heap.size<=k:=by
  show some g1=ai\/∃k,some g1=some k/\w0.heap.size<=k;rcases Qk with e|e
  ·rw[<-e];exact ho
  ·exact .inr ⟨g1,rfl,O⟩
 refine⟨rfl,hS.b2 hP ?_ dd ho iV⟩;unfold sG;rcases hc with⟨rfl,rfl,CB⟩|⟨rfl,rfl,hyes⟩
 ·rw[avo (by rw[hit];rintro⟨i,a1,a2,a3⟩;exact CB i a1 a2 a3)];refine⟨rfl,rfl,?_,h6,h7,hpv.symm,?_,?_⟩
  ·rw[Hs.2,<-L1];simp
  ·show cD (iE (l::E) t ty)<=X.length;rw[Hs.1];exact hv
  ·show(iE (l::E) t ty).length<=X.length+1;rw[Hs.2];exact h9
 ·rw[avA<|hit.2 hyes];exact⟨rfl,(J:(6:Int)≠0),rfl⟩
theorem nP {ret loops outs:Int}(h:SS K w0 ai (.ok s) ret loops outs w)(t:ByteArray)(ty:Int)(p:Nat)(hs:s.1≠[])(hv:cD s.1+1<=s.2.length):
    Calls prog 91 #[.pointer<|some ⟨K.cb,0,none⟩,.string t,.int .i64 ty,.int .i64 p] w fun e w'=>e=.returned (.tuple #[])/\SS K w0 ai (sG s t ty p) ret loops outs w':=by
  obtain⟨E,X⟩:=s;cases E with
  | nil=>exact absurd rfl hs
  | cons l E=>
  obtain⟨vv,code,place,deep,zs,vs,h1,⟨rfl,rfl,rfl,h6,h7,rfl,h8,h9⟩,h3⟩:=h.is;have hK:=h.ok;have fp:=hK.aR;have hvl:=tH<|l::E;dsimp only at hv h6 h7 h8 h9;have hlen:(varsOf<|l::E).length<=1048576:=O;have hm0:(varsOf E).length<=(varsOf<|l::E).length:=by simp[varsOf]
  have hEl:E.length<=1048576:=by simp at h9;omega
  have hdeep:(((l::E).length:Nat):Int)=(E.length:Int)+1:=M;obtain⟨i0,nB,mT,eu,ed⟩:=av0 infoV;obtain⟨a,cap,rfl,eO,jQ,gI⟩:=h1.vars;have HT:=Z fun i(a:(varsOf E).length<=i)(b:i<(varsOf<|l::E).length)=>yE l E a b;have HL:=Z fun i(a:i<(varsOf E).length)=>Ey l E a;have HIT:=Z<|Hf l E t;have HS:=Z h;have HR:=Z h1;have HO:=Z h3;have HPV:Hid (varsOf (iE (l::E) t ty)=varsOf (l::E)++[(t,ty,E.length+1)]):=by
    unfold Hid;simp[iE,varsOf]
  have HPL:Hid (cD (iE (l::E) t ty)=cD (l::E)+1/\(iE (l::E) t ty).length=(l::E).length):=⟨(oz M t ty).2.2,(oz M t ty).2.1⟩;have HVL:=Z hvl;clear h h1 h3 gI hs hvl;rw[hdeep]at*
  generalize hvs:varsOf (l::E)=vs at*
  generalize hm:(varsOf E).length=m0 at*
  generalize L1:E.length=el at*
  obtain⟨k0,k1,k2,k3,k4,k5,k6,k7,k8,k9,vM,uz⟩:=HR.o.cells;clear k0 k1 k2 k3 k4 k5 k6 k9 vM uz;go_enter func91,ntmps91
  go_wp2;go_loopw[8] (fun i wr=>∃(n:Nat)(code place:Int),m0<=n/\n<=vs.length/\i=.int .i64 ((n:Int)-1)/\SRaw K wr (.slice a vs.length cap) code place ((el:Int)+1) ret loops outs zs vs/\Kept (fun k=>k=K.cb) w wr/\
    ((code=0/\place=0/\∀j,n<=j->j<vs.length->(kW vs j).1≠t)\/(code=6/\place=(p:Int)/\∃j,m0<=j/\j<vs.length/\(kW vs j).1=t))) (fun i _=>(intOf i+1).toNat)
  case atStart=>exact⟨vs.length,0,0,hm0,avF _,rfl,HR.o,Kept.refl _ _,.inl ⟨rfl,rfl,fun j a b=>by omega⟩⟩
  case round=>
    obtain⟨n,code,place,YM,Bp,rfl,qK,xS,ll⟩:=hrel;have RS:=Z qK;have HK':=Z xS;have HC:=Z ll;obtain⟨a',nR,hva,_,_,gI⟩:=qK.vars;injection hva with hva1 hva2 hva3;subst hva1;obtain⟨_,_,_,_,_,k5,k6,k7,k8,_,_,_⟩:=qK.cells;have be:=qK.lt;clear qK xS ll hva2 hva3;by_cases mU:n=m0
    · have vN:n=0\/(0<n/\∃g,a=some ⟨g,0,none⟩/\wr.cell? ⟨g,(n-1)*3+2,none⟩=some (.int .i64 ((kW vs<|n-1).2.2:Nat))/\(kW vs<|n-1).2.2<=el):=by
        by_cases h0:n=0
        · exact .inl h0
        · rcases gI with hc|⟨g,rfl,hc⟩
          · omega
          · exact .inr ⟨O,g,rfl,(hc (n-1) O).2.2,HL.o (n-1) O⟩
      clear gI;have HEnd:Hid (∀wq,Below wr.heap.size wr wq->∀o:Obj,(wq.alloc o).ownsRow K.up 94 3 (.slice a vs.length cap) vs.length (gD vs)/\(wq.alloc o).cell? ⟨K.cb,7,none⟩=some (.slice a vs.length cap)/\(wq.alloc o).cell? ⟨K.cb,8,none⟩=some (.int .i64<|(el:Int)+1)/\(wq.alloc o).frozen? ⟨K.cb,7,none⟩=false/\SRaw K (wq.alloc o) (.slice a vs.length cap) code place ((el:Int)+1) ret loops outs zs vs):=by
        intro wq hq o;have hr:=(RS.o.calm hq).calm<|(avB _ _).alloc lr o;exact⟨hr.var,hr.cells.2.2.2.2.2.2.2.1,hr.cells.2.2.2.2.2.2.2.2.1,hr.free 7,hr⟩
      have hup:=RS.o.lt;have hKl:=RS.o.room hK;subst mU;rcases vN with rfl|⟨zc,g,rfl,hc2',hle⟩
      · go_wp2;go_quiet (fail);go_wp2;have En:=Z<|below_drewN wr nq;have HE:=Z<|HEnd.o _ En.o;have k7':(wr.drewN nq).cell? ⟨K.cb,7,none⟩=some (.slice a vs.length cap):=k7;have aij:=kk;exact abL
      · obtain⟨n',rfl⟩:∃n',n=n'+1:=⟨n-1,O⟩;have e1:((n'+1:Nat):Int)-1=n':=O;rw[e1];clear e1;rw[av1]at hc2' hle;have bY:(((kW vs n').2.2:Int)==(el:Int)+1)=false:=bn O;go_wp2;go_quiet (fail);go_wp2;have En:=Z<|below_drewN wr nq;have HE:=Z<|HEnd.o _ En.o;have k7':(wr.drewN nq).cell? ⟨K.cb,7,none⟩=some (.slice (some ⟨g,0,none⟩) vs.length cap):=k7;have aik:=kk;exact abL
    · rcases gI with hc|⟨g,rfl,hc⟩
      · omega
      obtain⟨n',rfl⟩:∃n',n=n'+1:=⟨n-1,O⟩;have e1:((n'+1:Nat):Int)-1=n':=O;rw[e1];clear e1;obtain⟨c0,c1,c2⟩:=hc n' O;have NU:=HT.o n' O O;rw[NU]at c2;have V1:(((el+1:Nat):Int)==(el:Int)+1)=true:=M;clear hc;by_cases cm:(kW vs n').1=t
      · have ht:((kW vs n').1.toList==t.toList)=true:=by rw[cm];exact beq_self_eq_true _
        go_wp2;go_quiet (fail);go_wp2_with(go_at_call 54;refine(Mp hK (RS.o.calm<|below_drewN _ _) 6 p).mono ?_;rintro e w1 ⟨rfl,fQ,jH⟩)
        refine⟨⟨n',_,_,O,O,rfl,fQ,?_,?_⟩,by simp only[intOf];omega⟩
        · exact(HK'.o.trans (b9 (below_drewN wr nq) _) fun _ _ h=>h).trans jH fun _ _ h=>h
        · refine .inr ?_;rcases HC.o with⟨rfl,rfl,_⟩|⟨rfl,rfl,h⟩
          · exact⟨rfl,rfl,n',O,O,cm⟩
          · exact⟨rfl,rfl,h⟩
      · have ht:((kW vs n').1.toList==t.toList)=false:=rj cm;go_wp2;go_quiet (fail);go_wp2;go_wp2;refine⟨⟨n',code,place,O,O,rfl,RS.o.calm<|below_drewN _ _,?_,?_⟩,by simp only[intOf];omega⟩
        · exact HK'.o.trans (b9 (below_drewN wr nq) _) fun _ _ h=>h
        · rcases HC.o with⟨rfl,rfl,h⟩|h
          · refine .inl ⟨rfl,rfl,fun j a b=>?_⟩;by_cases e:j=n'
            · subst e;exact cm
            · exact h j O b
          · exact .inr h
theorem Px {e:TypeId}{size:Nat}(h:w.ownsRow base e size (.slice a n cap) n xs)(z:k<=n):w.ownsRow base e size (.slice a k cap) k (xs.take<|k*size):=by
 refine⟨?_,?_⟩
 ·rw[length_take,h.1];exact awT<|avQ _ z
 ·rcases h.2 with⟨h1,h2⟩|⟨g,c,cur,h1,h2,h3,h4,h5,h6,h7⟩
  ·injection h1 with e1 e2 e3;subst e1 e2 e3;obtain rfl:k=0:=O;exact .inl ⟨rfl,rfl⟩
  ·injection h1 with e1 e2 e3;subst e1 e3;refine .inr ⟨g,cap,cur,rfl,h2,h3,O,h5,h6,?_⟩;rw[<-h7,take_take];congr 1;exact(awT<|avQ _ z).symm
theorem uP :∀(vs:List Vr)(k:Nat),(gD vs).take (k*3)=gD (vs.take k)
 |[],k=>by simp[gD]
 |v::l,0=>by simp[gD]
 |v::l,k+1=>by
  have e:(k+1)*3=k*3+1+1+1:=O
  rw[e]
  simp[gD,uP l k]
theorem At (l:List (ByteArray×Int))(E:Sc):(varsOf<|l::E).take (varsOf E).length=varsOf E:=by rw[show varsOf (l::E)=varsOf E++l.reverse.map fun p=>(p.1,p.2,E.length+1)from rfl];exact take_left
def yZ (σ:CR CS):CR CS:=CR.bind σ fun s=>.ok (s.1.tail,s.2)
theorem w64 (n:Int)(h:-9223372036854775808<=n/\n<=9223372036854775807):wrap64 n=n:=by unfold wrap64;omega
theorem xF {σ:CR CS}{ret loops outs:Int}{q:Nat}
  (hS:SS K w0 ai σ ret loops outs w) (hR:SRaw K w (.slice a vs.length cap) code place deep ret loops outs zs vs) (hI:SIs K σ code place deep zs vs) (hO:(Value.slice a vs.length cap).ownBlock=ai\/∃k,(Value.slice a vs.length cap).ownBlock=some k/\w0.heap.size<=k)
  (hN:∀s,σ=.ok s->s.1≠[]) (hn:n<=vs.length) (bl:∀j,n<=j->j<vs.length->((kW vs j).2.2:Int)=deep) (mO:n=0\/(0<n/\((kW vs<|n-1).2.2:Int)≠deep)):
  Ending.returned (.tuple #[])=Ending.returned (.tuple #[])/\SS K w0 ai (yZ σ) ret loops outs (((w.drewN q).setCell ⟨K.cb,7,none⟩<|.slice a n cap).setCell ⟨K.cb,8,none⟩<|.int .i64<|wrap64<|deep-1):=by
 have hK:=hS.ok;have LI:(Value.slice a n cap).ownBlock=(Value.slice a vs.length cap).ownBlock:=by cases a<;>rfl
 have hR1:=hR.calm<|below_drewN w q;have dd:(w.drewN q).ownsRow K.up 94 3 (.slice a n cap) (vs.take n).length (gD<|vs.take n):=by
  have:=Px hR1.var hn;rw[uP]at this;rw[show(vs.take n).length=n by rw[length_take];omega];exact this
 have hP:=SRaw.dy (vs1:=vs.take n) hK hR1 (w1:=w.drewN q) ⟨rfl,rfl,rfl,avF _,fun _ _ _=>rfl⟩ dd;have hP2:=hP.set hK (i:=8) (u:=.int .i64<|wrap64<|deep-1) (code':=code) (place':=place) (deep':=wrap64<|deep-1) (ret':=ret) (loops':=loops) (outs':=outs) rfl;refine⟨rfl,hS.b2 (own:=(Value.slice a vs.length cap).ownBlock) hP2 ?_ (by rw[LI];exact hO) hO ?_⟩
 ·cases σ with
  |error e=>exact hI
  |ok s=>
   obtain⟨E,X⟩:=s;cases E with
   |nil=>exact absurd rfl<|hN _ rfl
   |cons l E=>
    obtain⟨h1,h2,h3,h4,h5,rfl,h7,h8⟩:=hI;have fp:=hK.aR;dsimp only at h3 h4 h5 h7 h8;have hm0:(varsOf E).length<=(varsOf<|l::E).length:=by simp[varsOf]
    have hn':n<=(varsOf<|l::E).length:=hn;have e3:(((l::E).length:Nat):Int)=E.length+1:=M;have cm:n=(varsOf E).length:=by
     rcases Nat.lt_trichotomy n (varsOf E).length with h|h|h
     ·have e1:=bl n lr (show n<(varsOf<|l::E).length by omega);have e2:=Ey l E h;have e4:((kW (varsOf<|l::E) n).2.2:Int)=E.length+1:=e1.trans<|h3.trans e3;omega
     ·exact h
     ·rcases mO with h0|⟨h0,h9⟩
      ·omega
      ·have e2:=yE l E (i:=n-1) O O;exact absurd (by rw[e2,h3];simp) h9
    refine⟨h1,h2,?_,h4,h5,?_,?_,?_⟩
    ·rw[h3,e3,w64 _ (by simp only[length_cons]at h8;omega)];show(E.length:Int)+1-1=(E.length:Int);omega
    ·rw[cm];exact At l E
    ·have:cD (l::E)=l.length+cD E:=by simp[cD]
     show cD E<=X.length;omega
    ·show E.length<=X.length+1;simp at h8;omega
 ·have e1:Kept (K.S (Value.slice a vs.length cap).ownBlock) w (w.drewN q):=b9 (below_drewN w q) _;have e2:=e1.trans (Kept.setCell (S:=K.S (Value.slice a vs.length cap).ownBlock) ⟨K.cb,7,none⟩ (.slice a n cap)<|.inl rfl) fun _ _ h=>h;exact e2.trans (Kept.setCell (S:=K.S (Value.slice a vs.length cap).ownBlock) ⟨K.cb,8,none⟩ _<|.inl rfl) fun _ _ h=>h
theorem xG {σ:CR CS}{ret loops outs:Int}(h:SS K w0 ai σ ret loops outs w)(hs:∀s,σ=.ok s->s.1≠[]):
  Calls prog 170 #[.pointer<|some ⟨K.cb,0,none⟩] w fun e w'=>e=.returned (.tuple #[])/\SS K w0 ai (yZ σ) ret loops outs w':=by
 obtain⟨vv,code,place,deep,zs,vs,h1,h2,h3⟩:=h.is;have hK:=h.ok;obtain⟨a,cap,rfl,eO,jQ,gI⟩:=h1.vars;have HS:=Z h;have HR:=Z h1;have HO:=Z h3;have HI:=Z h2;have HC:=Z gI;have HN:=Z hs;obtain⟨k0,k1,k2,k3,k4,k5,k6,k7,k8,k9,vM,uz⟩:=h1.cells;have f7:=h1.free 7;have f8:=h1.free 8;clear k0 k1 k2 k3 k4 k5 k6 k9 vM uz h h1 h2 h3 gI hs;go_enter func170,ntmps170
 go_wp2;go_loopw[2] (fun k wr=>∃(q n:Nat),wr=w.drewN q/\n<=vs.length/\k=.int .i64 n/\∀j,n<=j->j<vs.length->((kW vs j).2.2:Int)=deep) (fun k _=>(intOf k).toNat)
 case atStart=>exact⟨0,vs.length,rfl,avF _,rfl,fun j a b=>by omega⟩
 case round=>
  obtain⟨q,n,rfl,hn,rfl,bl⟩:=hrel;have HA:=Z bl;clear bl;by_cases h0:n=0
  ·subst h0;go_wp2;go_quiet (fail);go_wp2;go_end0;exact xF HS.o HR.o HI.o HO.o HN.o (avL _) HA.o<|.inl rfl
  ·obtain⟨n',rfl⟩:∃n',n=n'+1:=⟨n-1,O⟩;rcases HC.o with hc|⟨g,rfl,hc⟩
   ·omega
   obtain⟨c0,c1,c2⟩:=hc n' O;have e1:((n'+1:Nat):Int)-1=n':=O;have zc:(((n'+1:Nat):Int)>0):=O;clear hc;by_cases hd:((kW vs n').2.2:Int)=deep
   ·have V1:(((kW vs n').2.2:Int)==deep)=true:=by rw[hd];exact beq_self_eq_true _
    go_wp2;go_quiet (fail);go_wp2;refine⟨⟨_,n',rfl,O,rfl,fun j a b=>?_⟩,by simp only[intOf];omega⟩;by_cases e:j=n'
    ·subst e;exact hd
    ·exact HA.o j O b
   ·have V1:(((kW vs n').2.2:Int)==deep)=false:=bn hd;go_wp2;go_quiet (fail);go_wp2;go_end0;exact xF HS.o HR.o HI.o HO.o HN.o O HA.o<|.inr ⟨O,by rw[av1];exact hd⟩
def mQ (F:Nd)(s:ByteArray):Int:=match findF F s with|some i=>(i:Int)|none=>-1
theorem nK {F:Nd}{s:ByteArray}:∀{n:Nat},(∀j,j<n->(F.f j).z≠s)->lF F s n=none
 |0,_=>rfl
 |n+1,h=>by
  simp only[lF,nK (n:=n) fun j hj=>h j O]
  rw[avo<|h n O]
theorem sB {F:Nd}{s:ByteArray}{i:Nat}(h:∀j,j<i->(F.f j).z≠s)(hi:(F.f i).z=s):∀{n:Nat},i<n->lF F s n=some i
 |n+1,hn=>by
  by_cases e:i<n
  ·simp only[lF,sB h hi e]
  ·obtain rfl:i=n:=O
   simp only[lF,nK h]
   rw[avA hi]
theorem sA {F:Nd}{s:ByteArray}:∀{n i:Nat},lF F s n=some i->i<n/\(F.f i).z=s
 |n+1,i,h=>by
  simp only[lF]at h
  cases hr:lF F s n with
  |some k=>rw[hr]at h;injection h with h;subst h;have:=sA hr;exact⟨O,this.2⟩
  |none=>
   rw[hr]at h
   dsimp only at h
   split at h
   ·injection h with h;subst h;exact⟨O,by assumption⟩
   ·cases h
theorem BK (T:Nd)(w:World)(v:Value)(hi:Nat)(s:ByteArray)(hf:T.R)(gB:hi<=w.heap.size)(hr:Row 0 hi w T v):
  Calls prog 53 #[T.val v,.string s] w fun e w'=>e=.returned (.int .i64<|mQ T s)/\Below w.heap.size w w':=by
 have hn:=T.I hf;obtain⟨a,cap,rfl,bo,hq⟩:=ar.1 hr;have HR:=Z hq;have HS:=Z fun i(h:∀j,j<i->(T.f j).z≠s)(hi:(T.f i).z=s)(hl:i<T.q)=>sB h hi hl;have HZ:=Z fun(h:∀j,j<T.q->(T.f j).z≠s)=>nK h;clear hr hf hq bo;unfold Nd.val;generalize T.y=tk;generalize T.E=tn;generalize T.z=ts;have dC:Hid (Below w.heap.size w<|w.alloc<|.cells #[.int .i64 tk,.int .i64 tn,.string ts,.slice a T.q cap] 25):=bA;go_enter func53,ntmps53
 go_wp2;go_loopw[5] (fun i wr=>wr=w.alloc (.cells #[.int .i64 tk,.int .i64 tn,.string ts,.slice a T.q cap] 25)/\∃j:Nat,j<=T.q/\i=.int .i64 j/\∀k,k<j->(T.f k).z≠s) (fun i _=>T.q-(intOf i).toNat)
 case atStart=>exact⟨rfl,0,avL _,rfl,fun k z=>absurd z<|avJ _⟩
 case round=>
  obtain⟨rfl,j,hj,rfl,CB⟩:=hrel;have Ub:=Z CB;clear CB;by_cases be:j<T.q
  ·have ais:=kk;exact XU
  ·go_wp2;go_ret;obtain rfl:j=T.q:=O;refine⟨jI ?_,dC.o⟩;unfold mQ findF;rw[HZ.o Ub.o]
structure SEnv (K:SK)(w:World):Prop where
 aA:K.F.R
 row:Row 0 K.lo w K.F K.fv
 ok:cJ K.F=true
structure SNd (K:SK)(w:World)(T:Nd)(v:Value):Prop where
 aA:T.R
 row:Row 0 K.lo w T v
 cost:T.cost<=1048576
def SAt (K:SK)(T:Nd)(σ:CR CS)(p:Nat):Prop:=p<=1048576/\∀s,σ=.ok s->p=s.2.length/\p+T.size<=K.N
def Y0 (K:SK)(T:Nd)(σ:CR CS):CR CS:=CR.bind σ fun s=>CR.bind (gJ K.F T s) fun r=>.ok r.2
def mo (K:SK)(T:Nd)(σ:CR CS):CR CS:=CR.bind σ fun s=>CR.bind (fu (gJ K.F T) s) fun r=>.ok r.2
def cV (K:SK)(T:Nd)(t:Int)(σ:CR CS):CR CS:=CR.bind σ<|dz (gJ K.F T) t
def NI (K:SK)(T:Nd)(σ:CR CS)(t:Int):Prop:=∀s r,σ=.ok s->gJ K.F T s=.ok r->t=r.1
def Cu (T:Nd):Prop:=∀(K:SK)(w0:World)(ai:Option Nat)(σ:CR CS)(ret loops outs:Int)(w:World)(v:Value)(p:Nat),SS K w0 ai σ ret loops outs w->SEnv K w->SNd K w T v->SAt K T σ p->T.Q=true->
 Calls prog 143 #[.pointer<|some ⟨K.cb,0,none⟩,T.val v,.int .i64 p] w fun e w'=>∃t,e=.returned (.int .i64 t)/\NI K T σ t/\SS K w0 ai (Y0 K T σ) ret loops outs w'
theorem SEnv.later (h:SEnv K w)(I:Below K.lo w w'):SEnv K w':=⟨h.aA,ah I lr h.row,h.ok⟩
theorem SNd.later (h:SNd K w T v)(I:Below K.lo w w'):SNd K w' T v:=⟨h.aA,ah I lr h.row,h.cost⟩
theorem SS.box {σ:CR CS}{ret loops outs:Int}(h:SS K w0 ai σ ret loops outs w)(o:Obj):Below K.lo w (w.alloc o):=
 (avB _ _).alloc (by have:=h.lt;have:=h.ok.cl;omega) _
theorem SS.a1 {ret loops outs:Int}(h:SS K w0 ai (.ok s) ret loops outs w):w.cell? ⟨K.cb,5,none⟩=some (.int .i64 0):=by obtain⟨vv,code,place,deep,zs,vs,h1,h2,h3⟩:=h.is;have:=h1.cells.2.2.2.2.2.1;rw[h2.1]at this;exact this
theorem SS.bC {e:Int×Nat}{ret loops outs:Int}(h:SS K w0 ai (.error e) ret loops outs w):∃code,w.cell? ⟨K.cb,5,none⟩=some (.int .i64 code)/\(code==0)=false:=by obtain⟨vv,code,place,deep,zs,vs,h1,h2,h3⟩:=h.is;exact⟨code,h1.cells.2.2.2.2.2.1,bn (by rw[h2.1];exact h2.2.1)⟩
theorem nl (hT:Cu T)(K:SK)(w0:World)(ai:Option Nat)(σ:CR CS)(ret loops outs:Int)(w:World)(v:Value)(p:Nat)(hS:SS K w0 ai σ ret loops outs w)(hE:SEnv K w)(hN:SNd K w T v)(hA:SAt K T σ p)(ax:T.Q=true):
  Calls prog 140 #[.pointer<|some ⟨K.cb,0,none⟩,T.val v,.int .i64 p] w fun e w'=>∃t,e=.returned (.int .i64 t)/\NI K T σ t/\SS K w0 ai (mo K T σ) ret loops outs w':=by
 have HC:=Z fun o=>hT K w0 ai σ ret loops outs (w.alloc o) v p (hS.alloc o) (hE.later<|hS.box o) (hN.later<|hS.box o) hA ax;have HA:=Z hA;clear hS hE hN hA;unfold Nd.val at*
 generalize T.y=tk at*
 generalize T.E=tn at*
 generalize T.z=ts at*
 cases hσ:Y0 K T σ with
 |error e0=>
  have hv:mo K T σ=.error e0:=by
   unfold Y0 at hσ;unfold mo fu;cases σ with
   |error x=>exact hσ
   |ok s=>
    simp only[CR.an]at hσ⊢;cases hx:gJ K.F T s with
    |error axd=>rw[hx]at hσ;exact hσ
    |ok r=>rw[hx]at hσ;cases hσ
  rw[hv];rw[hσ]at HC;clear hσ hv;go_enter func140,ntmps140
  go_wp2_with(go_at_call 143;refine(HC.o _).mono ?_;rintro e w1 ⟨t,rfl,hR,hs⟩;obtain⟨code,k5,hz⟩:=hs.bC;have cY:=Z hs;have HR:=Z hR;clear hs hR)
  go_ret;exact⟨_,rfl,HR.o,cY.o⟩
 |ok s1=>
  obtain⟨s,hs0,bz⟩:=bw hσ;obtain⟨r,dR,fQ⟩:=bw bz;injection fQ with fQ;subst fQ;rw[hσ]at HC;subst hs0;have HX:=Z (show∀t,NI K T (.ok s) t->t=r.1 from fun t h=>h s r rfl dR);have HP:Hid (p=s.2.length):=(HA.o.2 s rfl).1;clear HA;by_cases h0:r.1=0
  ·have hv:mo K T (.ok s)=.error (9,p):=by
    unfold mo fu;rw[CR.an,dR,CR.an,avA h0,HP.o];rfl
   rw[hv];have H0:=Z h0;clear hσ hv dR bz h0;go_enter func140,ntmps140
   go_wp2_with(first
    |(go_at_call 143;refine(HC.o _).mono ?_;rintro e w1 ⟨t,rfl,hR,hs⟩;obtain rfl:t=0:=(HX.o t hR).trans H0.o;have k5:=hs.a1;have cY:=Z hs;have HR:=Z hR;clear hs hR)
    |(go_at_call 54;refine(eM cY.o 9 J p).mono ?_;rintro e w2 ⟨rfl,bP⟩;have eF:=Z bP;clear bP))
   go_ret;exact⟨_,rfl,HR.o,eF.o⟩
  ·have hv:mo K T (.ok s)=.ok r.2:=by
    unfold mo fu;rw[CR.an,dR,CR.an,avo h0];rfl
   have H0:Hid ((r.1==0)=false):=bn h0;rw[hv];clear hσ hv dR bz h0;go_enter func140,ntmps140
   go_wp2_with(go_at_call 143;refine(HC.o _).mono ?_;rintro e w1 ⟨t,rfl,hR,hs⟩;have DS:(t==0)=false:=(congrArg (fun x:Int=>x==0)<|HX.o t hR).trans H0.o;have k5:=hs.a1;have cY:=Z hs;have HR:=Z hR;clear hs hR)
   go_ret;exact⟨_,rfl,HR.o,cY.o⟩
def WtS (T:Nd):Prop:=∀(K:SK)(w0:World)(ai:Option Nat)(σ:CR CS)(ret loops outs:Int)(w:World)(v:Value)(p:Nat)(ty:Int),SS K w0 ai σ ret loops outs w->SEnv K w->SNd K w T v->SAt K T σ p->T.Q=true->
 Calls prog 142 #[.pointer<|some ⟨K.cb,0,none⟩,T.val v,.int .i64 p,.int .i64 ty] w fun e w'=>e=.returned (.tuple #[])/\SS K w0 ai (cV K T ty σ) ret loops outs w'
theorem om (hT:Cu T):WtS T:=by
 intro K w0 ai σ ret loops outs w v p ty hS hE hN hA ax;have HC:=Z fun o=>nl hT K w0 ai σ ret loops outs (w.alloc o) v p (hS.alloc o) (hE.later<|hS.box o) (hN.later<|hS.box o) hA ax;have HA:=Z hA;clear hS hE hN hA;unfold Nd.val at*
 generalize T.y=tk at*
 generalize T.E=tn at*
 generalize T.z=ts at*
 cases hσ:mo K T σ with
 |error e0=>
  have hv:cV K T ty σ=.error e0:=by
   unfold mo at hσ;unfold cV dz;cases σ with
   |error x=>exact hσ
   |ok s=>
    simp only[CR.an]at hσ⊢;cases hx:fu (gJ K.F T) s with
    |error axd=>rw[hx]at hσ;exact hσ
    |ok r=>rw[hx]at hσ;cases hσ
  rw[hv];rw[hσ]at HC;clear hσ hv;go_enter func142,ntmps142
  go_wp2_with(go_at_call 140;refine(HC.o _).mono ?_;rintro e w1 ⟨t,rfl,hR,hs⟩;obtain⟨code,k5,hz⟩:=hs.bC;have cY:=Z hs;have HR:=Z hR;clear hs hR)
  go_end0;exact⟨rfl,cY.o⟩
 |ok s1=>
  obtain⟨s,hs0,bz⟩:=bw hσ;obtain⟨r,dR,fQ⟩:=bw bz;injection fQ with fQ;subst fQ;rw[hσ]at HC;subst hs0;have hx:=(kl dR).1;have HX:=Z (show∀t,NI K T (.ok s) t->t=r.1 from fun t h=>h s r rfl hx);have HP:Hid (p=s.2.length):=(HA.o.2 s rfl).1;clear HA;by_cases h0:r.1=ty
  ·have hv:cV K T ty (.ok s)=.ok r.2:=by
    unfold cV dz;rw[CR.an,dR,CR.an,avA h0]
   rw[hv];have H0:Hid ((r.1==ty)=true):=avV.2 h0;clear hσ hv dR bz h0 hx;go_enter func142,ntmps142
   go_wp2_with(go_at_call 140;refine(HC.o _).mono ?_;rintro e w1 ⟨t,rfl,hR,hs⟩;have DS:(t==ty)=true:=(congrArg (fun x:Int=>x==ty)<|HX.o t hR).trans H0.o;have k5:=hs.a1;have cY:=Z hs;clear hs hR)
   go_end0;exact⟨rfl,cY.o⟩
  ·have hv:cV K T ty (.ok s)=.error (7,p):=by
    unfold cV dz;rw[CR.an,dR,CR.an,avo h0,HP.o]
   have H0:Hid ((r.1==ty)=false):=bn h0;rw[hv];clear hσ hv dR bz h0 hx;go_enter func142,ntmps142
   go_wp2_with(first
    |(go_at_call 140;refine(HC.o _).mono ?_;rintro e w1 ⟨t,rfl,hR,hs⟩;have DS:(t==ty)=false:=(congrArg (fun x:Int=>x==ty)<|HX.o t hR).trans H0.o;have k5:=hs.a1;have cY:=Z hs;clear hs hR)
    |(go_at_call 54;refine(eM cY.o 7 J p).mono ?_;rintro e w2 ⟨rfl,bP⟩;have eF:=Z bP;clear bP))
   go_end0;exact⟨rfl,eF.o⟩
def Ch (T:Nd):Prop:=∀(K:SK)(w0:World)(ai:Option Nat)(s:CS)(ret loops outs:Int)(w:World)(v:Value),SS K w0 ai (.ok<|az s) ret loops outs w->SEnv K w->SNd K w T v->s.2.length+T.size<=K.N->T.Q=true->
 Calls prog 171 #[.pointer<|some ⟨K.cb,0,none⟩,T.val v,.int .i64 s.2.length] w fun e w'=>∃t,e=.returned (.int .i64 t)/\(∀r,dW K.F T.y T.z T.q (fun i=>gJ K.F<|T.f i) (az s) s.2.length=.ok r->t=r.1)/\
  SS K w0 ai (CR.bind (dW K.F T.y T.z T.q (fun i=>gJ K.F<|T.f i) (az s) s.2.length) fun r=>.ok r.2) ret loops outs w'
theorem Po (n:Nat)(h:0<n):List.replicate n (0:Int)=0::List.replicate (n-1) 0:=by
 cases n with
 |zero=>omega
 |succ n=>rfl
theorem SS.take {ret loops outs:Int}(h:SS K w0 ai (.ok s) ret loops outs w)(hn:s.2.length+1<=K.N):SS K w0 ai (.ok<|az s) ret loops outs w:=by
 obtain⟨vv,code,place,deep,zs,vs,h1,⟨a1,a2,a3,a4,a5,a6,a7,a8⟩,h3⟩:=h.is;refine⟨h.ok,⟨vv,code,place,deep,zs,vs,h1,⟨a1,a2,a3,?_,?_,a6,?_,?_⟩,h3⟩,h.kept⟩
 ·rw[a4,Po (K.N-s.2.length) O];simp only[az,avu,length_cons,length_nil,avM,cons_append,nil_append];rw[show K.N-s.2.length-1=K.N-(s.2.length+(0+1)) by omega]
 ·rw[cr];exact hn
 ·show cD s.1<=_;rw[cr];omega
 ·show s.1.length<=_;rw[cr];omega
def UT (τ:CR CS)(p:Nat)(t:Int):CR CS:=CR.bind τ fun s=>.ok (s.1,s.2.set p t)
theorem SS.store {τ:CR CS}{ret loops outs:Int}(h:SS K w0 ai τ ret loops outs w)(p:Nat)(t:Int)(y:∀s,τ=.ok s->p<s.2.length):
  SS K w0 ai (UT τ p t) ret loops outs (w.setCell ⟨K.tb,p,none⟩<|.int .i64 t):=by
 obtain⟨vv,code,place,deep,zs,vs,h1,h2,h3⟩:=h.is;have hr:SRaw K (w.setCell ⟨K.tb,p,none⟩<|.int .i64 t) vv code place deep ret loops outs (zs.set p t) vs:=by
  refine⟨?_,?_,by rw[awF];exact h1.q,av7 h1.var (show K.tb<K.up from h.ok.tu) _⟩
  ·rw[avz w ⟨K.tb,p,none⟩ _ K.cb h.ok.ne];exact h1.av
  ·rw[avD w K.tb p _ _ _ h1.cA];simp[map_set]
 refine h.b2 (own:=ai) hr ?_ h3 (.inl rfl)<|Kept.setCell (S:=K.S ai) ⟨K.tb,p,none⟩ _<|.inr<|.inl rfl;cases τ with
 |error e=>exact h2
 |ok s=>
  obtain⟨a1,a2,a3,a4,a5,a6,a7,a8⟩:=h2;refine⟨a1,a2,a3,?_,?_,a6,?_,?_⟩
  ·rw[a4,set_append_left _ _<|y s rfl,awF]
  ·rw[awF];exact a5
  ·rw[awF];exact a7
  ·rw[awF];exact a8
theorem SS.dP {τ:CR CS}{ret loops outs:Int}(h:SS K w0 ai τ ret loops outs w)(p:Nat)(y:p<K.N):
  w.cell? ⟨K.cb,4,none⟩=some (.slice (some ⟨K.tb,0,none⟩) K.N K.N)/\w.frozen? ⟨K.tb,p,none⟩=false/\∃u,w.cell? ⟨K.tb,p,none⟩=some u:=by
 obtain⟨vv,code,place,deep,zs,vs,h1,h2,h3⟩:=h.is;refine⟨h1.cells.2.2.2.2.1,av3 w K.tb p _ _ h1.cA,.int .i64<|zs[p]'(by rw[h1.q];exact y),?_⟩;have hl:=h1.q;simp[World.cell?,h1.cA,hl,y]
theorem Fk (hT:Ch T):Cu T:=by
 intro K w0 ai σ ret loops outs w v p hS hE hN hA ax;have fp:=hS.ok.aR;cases σ with
 |error e0=>
  have HS:=Z fun o=>hS.alloc o;obtain⟨code,k5,hz⟩:=hS.bC;have be:=hS.lt;clear hS hE hN hA hT;unfold Nd.val;go_enter func143,ntmps143
  go_wp2;go_ret;exact⟨0,rfl,fun s r h=>(by cases h),HS.o _⟩
 |ok s=>
  obtain⟨rfl,bI⟩:=hA.2 s rfl;have cg:0<T.size:=by rw[T.size_eq];omega
  have HC:=Z fun o=>hT K w0 ai s ret loops outs (w.alloc o) v ((hS.alloc o).take O) (hE.later<|hS.box o) (hN.later<|hS.box o) bI ax;have k5:=hS.a1;have be:=hS.lt;have hpn:s.2.length<K.N:=O;have HP:Hid (∀r,dW K.F T.y T.z T.q (fun i=>gJ K.F<|T.f i) (az s) s.2.length=.ok r->s.2.length<r.2.2.length):=by
   intro r hr;have hx:gJ K.F T s=.ok (r.1,(r.2.1,r.2.2.set s.2.length r.1)):=by rw[D3 K.F ax];unfold exM;rw[hr];rfl
   have:=(nN K.F T ax s _ _ hx).2;rw[awF]at this;omega
  have hexc:∀t,(∀r,dW K.F T.y T.z T.q (fun i=>gJ K.F<|T.f i) (az s) s.2.length=.ok r->t=r.1)->NI K T (.ok s) t/\Y0 K T (.ok s)=UT (CR.bind (dW K.F T.y T.z T.q (fun i=>gJ K.F<|T.f i) (az s) s.2.length) fun r=>.ok r.2) s.2.length t:=by
   intro t ht;unfold NI Y0 UT;rw[D3 K.F ax];unfold exM;cases hr:dW K.F T.y T.z T.q (fun i=>gJ K.F<|T.f i) (az s) s.2.length with
   |error x=>exact⟨fun s' r' h1 h2=>(by injection h1 with h1;subst h1;rw[hr]at h2;cases h2),(by simp only[CR.an,hr];rfl)⟩
   |ok r=>
    obtain rfl:=ht r hr;exact⟨fun s' r' h1 h2=>(by injection h1 with h1;subst h1;rw[hr]at h2;injection h2 with h2;subst h2;rfl),(by simp only[CR.an,hr])⟩
  have HX:=Z hexc;clear hS hE hN hA hT hexc cg bI ax;unfold Nd.val at*
  generalize T.y=tk at*
  generalize T.E=tn at*
  generalize T.z=ts at*
  generalize hτ:dW K.F tk ts T.q (fun i=>gJ K.F<|T.f i) (az s) s.2.length=τ at*
  clear hτ;generalize hq:s.2.length=q at*
  go_enter func143,ntmps143
  go_wp2_with(go_at_call 171;refine(HC.o _).mono ?_;rintro e w1 ⟨t,rfl,hR,hs⟩;obtain⟨k4,f4,u4,c4⟩:=hs.dP q hpn;have cY:=Z hs;have HR:=Z hR;clear hs hR)
  go_ret;obtain⟨b1,b2⟩:=HX.o t HR.o;refine⟨t,rfl,b1,?_⟩;rw[b2];refine cY.o.store q t fun s' S8=>?_;obtain⟨r,fQ,qg⟩:=bw S8;injection qg with qg;subst qg;exact HP.o r fQ
theorem jL {lo:Nat}(hr:Row 0 lo w0 T v)(h0:T.q≠0):∃g off cap,v=.slice (some ⟨g,off,none⟩) T.q cap/\g<lo/\(T.q<=cap/\cap<=9223372036854775807)/\∀i,i<T.q->
    ∃u,(∀W,Below lo w0 W->W.cell? ⟨g,off+i*4,none⟩=some (.int .i64 (T.f i).y)/\W.cell? ⟨g,off+i*4+1,none⟩=some (.int .i64 (T.f i).E)/\
        W.cell? ⟨g,off+i*4+2,none⟩=some (.string (T.f i).z)/\W.cell? ⟨g,off+i*4+3,none⟩=some u)/\Row 0 lo w0 (T.f i) u:=by
  obtain⟨a,cap,rfl,hc,h⟩:=ar.1 hr;rcases h with h|⟨g,off,rfl,_,h2,h3⟩
  · exact absurd h h0
  refine⟨g,off,cap,rfl,h2,hc,fun i hi=>?_⟩;obtain⟨u,e0,e1,e2,e3,hr⟩:=h3 i hi;refine⟨u,fun W I=>?_,hr⟩;have hc:∀o,W.cell? ⟨g,o,none⟩=w0.cell? ⟨g,o,none⟩:=fun o=>I.cell (p:=⟨g,o,none⟩) h2;exact⟨(hc _).trans e0,(hc _).trans e1,(hc _).trans e2,(hc _).trans e3⟩
structure SGo (K:SK)(w w1:World)(own1:Option Nat)(b:Nat)(T:Nd)(v u:Value)(p:Nat):Prop where
 lo:Below K.lo w w1
 box:∀W σ r l o,SS K w1 own1 σ r l o W->W.cell? ⟨b,0,none⟩=some (.int .i64 T.y)/\W.cell? ⟨b,1,none⟩=some (.int .i64 T.E)/\W.cell? ⟨b,2,none⟩=some (.string T.z)/\W.cell? ⟨b,3,none⟩=some v
 b4:T.q≠0->∃g off cap,u=.slice (some ⟨g,off,none⟩) T.q cap/\(T.q<=cap/\cap<=9223372036854775807)/\∀W σ r l o,SS K w1 own1 σ r l o W->∀i,i<T.q->W.cell? ⟨g,off+i,none⟩=some (.int .i64 (bg T p i:Nat))
 below:∀W σ r l o,SS K w1 own1 σ r l o W->Below K.lo w W
theorem pB {σ:CR CS}{ret loops outs:Int}{t:TypeId}(h:SS K w0 ai σ ret loops outs w)
  (I:Below (w.alloc<|.cells #[.int .i64 T.y,.int .i64 T.E,.string T.z,v] t).heap.size (w.alloc<|.cells #[.int .i64 T.y,.int .i64 T.E,.string T.z,v] t) w1)
  (ha:St w1 (w.alloc<|.cells #[.int .i64 T.y,.int .i64 T.E,.string T.z,v] t).heap.size u T.q (fun i=>(bg T p i:Nat))):
  ∃own1,SS K w1 own1 σ ret loops outs w1/\(∀σ' r l o W,SS K w1 own1 σ' r l o W->SS K w0 ai σ' r l o W)/\SGo K w w1 own1 w.heap.size T v u p:=by
 have h1:=(h.alloc<|.cells #[.int .i64 T.y,.int .i64 T.E,.string T.z,v] t).calm I;obtain⟨vv,code,place,deep,zs,vs,qK,_⟩:=h.is;obtain⟨own,hr,_,_,_⟩:=h.bQ;obtain⟨own1,g1,g2,g3,g4⟩:=h1.bQ;have be:=h.lt;have iX:=h.ok.cl;have cg:(w.alloc<|.cells #[.int .i64 T.y,.int .i64 T.E,.string T.z,v] t).heap.size=w.heap.size+1:=M;have bz:=I.size;rw[cg]at bz;have fH:Below K.lo w w1:=(h.box _).trans<|I.mono aa1;have dd:∀k,own1=some k->k<w.heap.size:=by
  intro k z;obtain⟨Um,c',p',d',z',s',q1,q2,q3⟩:=g1.is;rcases q3 with q3|⟨j,q3,q4⟩
  ·have e1:=q1.av;have e2:=(h1.is);have gN:w1.heap[K.cb]?=w.heap[K.cb]?:=(I.block K.cb aa1).trans<|avI w _ K.cb be.1;rw[gN,qK.av]at e1;have e3:Um=vv:=by
    exact abQ
   rw[e3]at q3;rw[z]at q3;exact(qK.var.lt k q3).2
  ·have:=(q1.var.lt j q3).2;omega
 have cQ:∀W σ r l o,SS K w1 own1 σ r l o W->∀k,w.heap.size<=k->k<w1.heap.size->W.heap[k]?=w1.heap[k]?:=by
  intro W σ r l o hW k jH iR;exact hW.keep iR O O (fun e=>by have:=dd k e.symm;omega)
 refine⟨own1,g1,g4,fH,?_,?_,?_⟩
 ·intro W σ r l o hW;have e1:=cQ W σ r l o hW w.heap.size lr O;have e2:w1.heap[w.heap.size]?=some (.cells #[.int .i64 T.y,.int .i64 T.E,.string T.z,v] t):=(I.block _ aa1).trans<|avv w _;rw[e2]at e1;refine⟨?_,?_,?_,?_⟩<;>simp[World.cell?,e1]
 ·intro h0;obtain⟨a,cap,e1,e2,e3,e4⟩:=ha;rcases e4 with e|⟨g,off,rfl,q1,q2,q3⟩
  ·exact absurd e h0
  refine⟨g,off,cap,e1,⟨e2,e3⟩,fun W σ r l o hW i hi=>?_⟩;rw[cg]at q1;rw[avt (a:=⟨g,off+i,none⟩)<|cQ W σ r l o hW g O q2];exact q3 i hi
 ·intro W σ r l o hW;refine fH.trans<|hW.below O fun k z=>?_;have:=(g2 k z).1;have:=h.ok.cu;omega
theorem SGo.env {own1:Option Nat}{b:Nat}(h:SGo K w w1 own1 b T v u p)(hE:SEnv K w){W:World}{σ:CR CS}{r l o:Int}(hW:SS K w1 own1 σ r l o W):SEnv K W:=hE.later<|h.below W σ r l o hW
theorem SNd.a7 (h:SNd K w T v)(hi:i<T.q)(hr:Row 0 K.lo w (T.f i) u):SNd K w (T.f i) u:=⟨Nd.aa h.aA hi,hr,avK (T.b3 hi) h.cost⟩
theorem SAt.cm (bI:s.2.length+T.size<=K.N)(hN:K.N<=1048576)(h:0<T.q):SAt K (T.f 0) (.ok<|az s) (bg T s.2.length 0):=by have:=fm T s.2.length h;refine⟨O,fun s' e=>?_⟩;injection e with e;subst e;rw[cr];exact⟨s7 T _,O⟩
theorem SAt.next {σ τ:CR CS}{q:Nat}(h:SAt K (T.f i) σ (bg T q i))(hi:i+1<T.q)(bI:q+T.size<=K.N)(hN:K.N<=1048576)
  (hτ:∀s',τ=.ok s'->∃s,σ=.ok s/\s'.2.length=s.2.length+(T.f i).size):SAt K (T.f<|i+1) τ (bg T q<|i+1):=by
 have:=fm T q hi;refine⟨O,fun s' e=>?_⟩;obtain⟨s,h1,h2⟩:=hτ s' e;have h5:=(h.2 s h1).1;have h6:=fx T q i;exact⟨O,O⟩
theorem jd {σ:CR CS}(ax:T.Q=true):∀s',cV K T t σ=.ok s'->∃s,σ=.ok s/\s'.2.length=s.2.length+T.size:=by intro s' e;obtain⟨s,h1,h2⟩:=bw e;exact⟨s,h1,((nN K.F T ax).want t s s' h2).2⟩
theorem Jo {σ:CR CS}(ax:T.Q=true):∀s',mo K T σ=.ok s'->∃s,σ=.ok s/\s'.2.length=s.2.length+T.size:=by intro s' e;obtain⟨s,h1,h2⟩:=bw e;obtain⟨r,h3,h4⟩:=bw h2;injection h4 with h4;subst h4;exact⟨s,h1,((nN K.F T ax).value s _ _ h3).2⟩
theorem Zx (z:T.y=22):Ch T:=by
 intro K w0 ai s ret loops outs w v hS hE hN bI ax;have oC:dW K.F T.y T.z T.q (fun i=>gJ K.F<|T.f i) (az s) s.2.length=.ok (1,az s):=by unfold dW;rw[avA z]
 have ah9:=kk;exact abI
theorem iw {X:CR CS}:(∀r,CR.bind X (fun s1=>.ok (t,s1))=.ok r->t=r.1)/\(CR.bind (CR.bind X fun s1=>.ok (t,s1)) fun r=>.ok r.2)=X:=by
 refine⟨fun r h=>?_,?_⟩
 ·obtain⟨a,_,h2⟩:=bw h;injection h2 with h2;subst h2;rfl
 ·cases X<;>rfl
theorem Zt (z:T.y=29)(ih:∀i,i<T.q->Cu (T.f i)):Ch T:=by
 intro K w0 ai s ret loops outs w v hS hE hN bI ax;obtain⟨hl,fz⟩:=yd z ax;have oC:dW K.F T.y T.z T.q (fun i=>gJ K.F<|T.f i) (az s) s.2.length=CR.bind (cV K (T.f 0) 3<|.ok<|az s) fun s1=>.ok (1,s1):=by
  unfold dW;rw[avo O,avo O,avo O,avo O,avo O,avo O,avA z];rfl
 have ahQ:=kk;exact abz
theorem Zw (z:T.y=23):Ch T:=by
 intro K w0 ai s ret loops outs w v hS hE hN bI ax;have oC:dW K.F T.y T.z T.q (fun i=>gJ K.F<|T.f i) (az s) s.2.length=.ok (2,az s):=by
  unfold dW;rw[avo O,avA z];done
 have aia:=kk;exact abI
theorem Zv (z:T.y=24):Ch T:=by
 intro K w0 ai s ret loops outs w v hS hE hN bI ax;have we:look (az s).1 T.z=look s.1 T.z:=rfl;by_cases h0:look s.1 T.z=0
 ·have oC:dW K.F T.y T.z T.q (fun i=>gJ K.F<|T.f i) (az s) s.2.length=.error (5,s.2.length):=by
   unfold dW;rw[avo O,avo O,avA z,avA<|we.trans h0]
  have aib:=kk;exact XW
 ·have oC:dW K.F T.y T.z T.q (fun i=>gJ K.F<|T.f i) (az s) s.2.length=.ok (look s.1 T.z,az s):=by
   unfold dW;rw[avo O,avo O,avA z,avo fun e=>h0<|we.symm.trans e];rfl
  have aic:=kk;exact XW
theorem EL (s:ByteArray):Df s=(s.toList==[33]):=by
 have h:(s.toList==(⟨#[33]⟩:ByteArray).toList)=decide (s=⟨#[33]⟩):=oK s ⟨#[33]⟩;have e:(⟨#[33]⟩:ByteArray).toList=[33]:=by rw[avx]
 rw[e]at h;rw[h];unfold Df hasB;simp[eq_comm]
theorem Ur (z:T.y=27)(mN:Df T.z=true)(ih:∀i,i<T.q->Cu (T.f i)):Ch T:=by
 intro K w0 ai s ret loops outs w v hS hE hN bI ax;obtain⟨hl,fz⟩:=u7 z ax;have oC:dW K.F T.y T.z T.q (fun i=>gJ K.F<|T.f i) (az s) s.2.length=CR.bind (cV K (T.f 0) 2<|.ok<|az s) fun s1=>.ok (2,s1):=by
  exact abP
 rw[oC];have hsg':(T.z.toList==[33])=true:=by rw[<-EL];exact mN
 have ahP:=kk;exact aby
theorem Ut (z:T.y=27)(mN:Df T.z=false)(ih:∀i,i<T.q->Cu (T.f i)):Ch T:=by
 intro K w0 ai s ret loops outs w v hS hE hN bI ax;obtain⟨hl,fz⟩:=u7 z ax;have oC:dW K.F T.y T.z T.q (fun i=>gJ K.F<|T.f i) (az s) s.2.length=CR.bind (cV K (T.f 0) 1<|.ok<|az s) fun s1=>.ok (1,s1):=by
  exact abP
 rw[oC];have hsg':(T.z.toList==[33])=false:=by rw[<-EL];exact mN
 have ahO:=kk;exact aby
theorem Uv (z:T.y=26)(hl:T.q=0):Ch T:=by
 intro K w0 ai s ret loops outs w v hS hE hN bI ax;have oC:dW K.F T.y T.z T.q (fun i=>gJ K.F<|T.f i) (az s) s.2.length=.ok (3,az s):=by
  exact abS
 have aid:=kk;exact XW
theorem Uu (z:T.y=26)(hl:T.q=1)(ih:∀i,i<T.q->Cu (T.f i)):Ch T:=by
 intro K w0 ai s ret loops outs w v hS hE hN bI ax;have fz:=(u9 z ax).2 0 O;have oC:dW K.F T.y T.z T.q (fun i=>gJ K.F<|T.f i) (az s) s.2.length=CR.bind (cV K (T.f 0) 1<|.ok<|az s) fun s1=>.ok (3,s1):=by
  exact abS
 have ahR:=kk;exact abz
theorem MQ {t':Int}:(CR.bind (dz (gJ K.F A) t s) fun s1=>CR.bind (dz (gJ K.F B) t' s1) fun s2=>.ok (x,s2))=CR.bind (cV K B t'<|cV K A t<|.ok s) fun s1=>.ok (x,s1):=by unfold cV;simp only[CR.an];cases dz (gJ K.F A) t s<;>rfl
def eqC (K:SK)(A B:Nd)(s:CS):CR CS:=CR.bind (fu (gJ K.F A) s) fun r=>dz (gJ K.F B) r.1 r.2
theorem QP :(CR.bind (fu (gJ K.F A) s) fun r=>CR.bind (dz (gJ K.F B) r.1 r.2) fun s2=>.ok (x,s2))=CR.bind (eqC K A B s) fun s1=>.ok (x,s1):=by unfold eqC;cases fu (gJ K.F A) s<;>rfl
theorem QO (h:NI K A (.ok s) t):cV K B t (mo K A<|.ok s)=eqC K A B s:=by
 unfold eqC cV mo;simp only[CR.an];cases hv:fu (gJ K.F A) s with
 |error e=>rfl
 |ok r=>rw[h s r rfl (kl hv).1];rfl
theorem Fo {s:ByteArray}(h:Ig s=true):s=⟨#[61,61]⟩\/s=⟨#[33,61]⟩:=by have:=(eK _ _).1 h;simpa using this
theorem TH {s:ByteArray}(h:Ig s=true):bV s=3:=by rcases Fo h with rfl|rfl<;>decide
theorem Fp {s:ByteArray}(h:bV s≠3):Ig s=false:=by
 cases he:Ig s with
 |false=>rfl
 |true=>exact absurd (TH he) h
theorem Mu {s:ByteArray}(h:Ig s=false):(s.toList==[61,61])=false/\(s.toList==[33,61])=false:=by
 have e1:(⟨#[61,61]⟩:ByteArray).toList=[61,61]:=by rw[avx]
 have e2:(⟨#[33,61]⟩:ByteArray).toList=[33,61]:=by rw[avx]
 have h':¬(s=⟨#[61,61]⟩\/s=⟨#[33,61]⟩):=by
  intro e;have:Ig s=true:=(eK _ _).2 (by simpa using e);rw[h]at this;cases this
 exact⟨by rw[<-e1];exact rj fun e=>h'<|.inl e,by rw[<-e2];exact rj fun e=>h'<|.inr e⟩
theorem QQ {s:ByteArray}(h:Ig s=true):((s.toList==[61,61])=true/\True)\/((s.toList==[61,61])=false/\(s.toList==[33,61])=true):=by
 rcases Fo h with rfl|rfl
 ·exact .inl ⟨by rw[avx];rfl,trivial⟩
 ·exact .inr ⟨by rw[avx];rfl,by rw[avx];rfl⟩
theorem Ow (z:T.y=28)(Br:bV T.z=1)(ih:∀i,i<T.q->Cu (T.f i)):Ch T:=by exact abu
theorem Ov (z:T.y=28)(Br:bV T.z=2)(ih:∀i,i<T.q->Cu (T.f i)):Ch T:=by exact abu
theorem Ou (z:T.y=28)(Br:bV T.z=3)(bY:Ig T.z=false)(ih:∀i,i<T.q->Cu (T.f i)):Ch T:=by have ait:=kk;exact Ry
theorem Ot (z:T.y=28)(Br:bV T.z=4)(ih:∀i,i<T.q->Cu (T.f i)):Ch T:=by exact abt
theorem Oq (z:T.y=28)(Br:bV T.z=5)(ih:∀i,i<T.q->Cu (T.f i)):Ch T:=by exact abt
theorem Uq (z:T.y=28)(heq:Ig T.z=true)(ih:∀i,i<T.q->Cu (T.f i)):Ch T:=by have aiu:=kk;exact Ry
theorem tJ {F:Nd}(h:cJ F=true)(hj:j<F.q):b6 (F.f j)=true:=by unfold cJ at h;simp only[avw]at h;exact bj.1 h.2 j hj
theorem Qt (h:b6 T=true):1<=T.q:=by unfold b6 at h;simp only[avw,avy]at h;exact h.1.2
theorem SS.file {σ:CR CS}{ret loops outs:Int}(h:SS K w0 ai σ ret loops outs w):w.cell? ⟨K.cb,0,none⟩=some (.int .i64 K.F.y)/\w.cell? ⟨K.cb,1,none⟩=some (.int .i64 K.F.E)/\w.cell? ⟨K.cb,2,none⟩=some (.string K.F.z)/\w.cell? ⟨K.cb,3,none⟩=some K.fv:=by obtain⟨vv,code,place,deep,zs,vs,h1,_⟩:=h.is;exact⟨h1.cells.1,h1.cells.2.1,h1.cells.2.2.1,h1.cells.2.2.2.1⟩
def ys (F T f:Nd)(n:Nat)(s:CS):CR CS:=forN (fun i=>dz (gJ F<|T.f i) (f.f i).E) n s
theorem Ea (F T f:Nd)(K:SK)(hF:K.F=F)(n:Nat)(s:CS):cV K (T.f n) (f.f n).E (ys F T f n s)=ys F T f (n+1) s:=by subst hF;rfl
theorem Na {f:Nd}(hE:∀i,i<T.q->(T.f i).Q=true)(hn:n<T.q)(bI:s.2.length+T.size<=K.N)(hN:K.N<=1048576):SAt K (T.f n) (ys K.F T f n<|az s) (bg T s.2.length n):=by have h1:=fm T s.2.length hn;refine⟨O,fun s' e=>?_⟩;have:=Fi (g:=fun i=>(T.f i).size) (fun i hi=>(nN K.F _<|hE i hi).want _) (Nat.le_of_lt hn) _ _ e;rw[cr]at this;exact⟨by unfold bg;omega,O⟩
theorem SS.boxed {σ:CR CS}{ret loops outs:Int}(h:SS K w0 ai σ ret loops outs w)(o:Obj):∃own,SS K (w.alloc o) own σ ret loops outs (w.alloc o)/\(∀σ' r' l' o' W,SS K (w.alloc o) own σ' r' l' o' W->SS K w0 ai σ' r' l' o' W)/\
  ∀σ' r' l' o' W,SS K (w.alloc o) own σ' r' l' o' W->W.heap[w.heap.size]?=some o:=by
 obtain⟨vv,code,place,deep,zs,vs,h1,h2,h3⟩:=h.is;have I:Below w.heap.size w (w.alloc o):=bA;have be:=h1.lt;obtain⟨own,g1,g2,g3,g4⟩:=(h.alloc o).bQ;refine⟨own,g1,g4,fun σ' r' l' o' W hW=>?_⟩;have dd:∀k,own=some k->k<w.heap.size:=by
  intro k z;obtain⟨Um,c',p',d',z',s',q1,q2,q3⟩:=g1.is;rcases q3 with q3|⟨i,q3,q4⟩
  ·have e1:=q1.av;rw[avI w o K.cb be.1,h1.av]at e1;have e3:Um=vv:=by
    exact abQ
   rw[e3,z]at q3;exact(h1.var.lt k q3).2
  ·have:=(q1.var.lt i q3).2;omega
 rw[hW.keep (k:=w.heap.size) M O O fun e=>by have:=dd _ e.symm;omega];exact avv w o
theorem Uy (z:T.y=25)(K:SK)(w0:World)(ai:Option Nat)(s:CS)(ret loops outs:Int)(w:World)(v:Value)(hS:SS K w0 ai (.ok<|az s) ret loops outs w)(hE:SEnv K w)(hN:SNd K w T v)(bI:s.2.length+T.size<=K.N)(ax:T.Q=true)(CB:findF K.F T.z=none):
  Calls prog 171 #[.pointer<|some ⟨K.cb,0,none⟩,T.val v,.int .i64 s.2.length] w fun e w'=>e=.returned (.int .i64 0)/\SS K w0 ai (.error (5,s.2.length)) ret loops outs w':=by
 have ah4:=kk;exact abH
theorem Ux (z:T.y=25)(K:SK)(w0:World)(ai:Option Nat)(s:CS)(ret loops outs:Int)(w:World)(v:Value)(hS:SS K w0 ai (.ok<|az s) ret loops outs w)(hE:SEnv K w)(hN:SNd K w T v)(bI:s.2.length+T.size<=K.N)(ax:T.Q=true)(j:Nat)(hj:findF K.F T.z=some j)(V3:T.q+1≠(K.F.f j).q):
  Calls prog 171 #[.pointer<|some ⟨K.cb,0,none⟩,T.val v,.int .i64 s.2.length] w fun e w'=>e=.returned (.int .i64 0)/\SS K w0 ai (.error (8,s.2.length)) ret loops outs w':=by
 have ah0:=kk;exact abF
theorem Uw (z:T.y=25)(K:SK)(w0:World)(ai:Option Nat)(s:CS)(ret loops outs:Int)(w:World)(v:Value)(hS:SS K w0 ai (.ok<|az s) ret loops outs w)(hE:SEnv K w)(hN:SNd K w T v)(bI:s.2.length+T.size<=K.N)(ax:T.Q=true)(j:Nat)(hj:findF K.F T.z=some j)(V3:T.q+1=(K.F.f j).q)(ih:∀i,i<T.q->Cu (T.f i)):
  Calls prog 171 #[.pointer<|some ⟨K.cb,0,none⟩,T.val v,.int .i64 s.2.length] w fun e w'=>e=.returned (.int .i64 (K.F.f j).E)/\SS K w0 ai (ys K.F T (K.F.f j) T.q<|az s) ret loops outs w':=by
 have ah1:=kk;exact abF
theorem Zu (z:T.y=25)(ih:∀i,i<T.q->Cu (T.f i)):Ch T:=by
  intro K w0 ai s ret loops outs w v hS hE hN bI ax;have oC:dW K.F T.y T.z T.q (fun i=>gJ K.F (T.f i)) (az s) s.2.length=(match findF K.F T.z with
    | none=>.error (5,s.2.length)
    | some j=>if T.q+1=(K.F.f j).q then CR.bind (ys K.F T (K.F.f j) T.q (az s)) fun s1=>.ok ((K.F.f j).E,s1)else .error (8,s.2.length)):=by
    unfold dW;rw[avo O,avo O,avo O,avA z];rfl
  rw[oC];cases hj:findF K.F T.z with
  | none=>
    refine(Uy z K w0 ai s ret loops outs w v hS hE hN bI ax hj).mono ?_;rintro e w'⟨rfl,h⟩;exact⟨0,rfl,fun r h=>(by cases h),h⟩
  | some j=>
    dsimp only;by_cases hc:T.q+1=(K.F.f j).q
    · rw[avA hc];refine(Uw z K w0 ai s ret loops outs w v hS hE hN bI ax j hj hc ih).mono ?_;rintro e w'⟨rfl,h⟩;exact⟨_,rfl,iw.1,by rw[iw.2];exact h⟩
    · rw[avo hc];refine(Ux z K w0 ai s ret loops outs w v hS hE hN bI ax j hj hc).mono ?_;rintro e w'⟨rfl,h⟩;exact⟨0,rfl,fun r h=>(by cases h),h⟩
end Go.Proofs.YtgcmhaghebhjnaaGreatDoor
