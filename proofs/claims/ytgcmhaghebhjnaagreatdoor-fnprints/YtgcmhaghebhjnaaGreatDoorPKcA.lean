import Derived.Test.YtgcmhaghebhjnaaGreatDoorPKbA
import Derived.Lib.Strings
import Derived.Test.YtgcmhaghebhjnaaGreatDoorPKaWalk
set_option linter.unusedVariables false
set_option maxHeartbeats 16000000
set_option maxRecDepth 100000
namespace Go.Proofs.YtgcmhaghebhjnaaGreatDoor
open Go.RowKit Tryz List
variable {T :Nd} {a:Option Addr} {cap d g l len off t:Nat} {m:Int} {s:ByteArray} {w:World}
variable {G :Prop}
theorem ae1 (h:G:=by rw[<-hm]at Cp;have apS:=kk;exact afm):G:=h
theorem ae2 (h:G:=by
 show(!ao s&&aK s&&decide (n=0)&&aG (fun i=>fL (kk i)&&g i) (fun i=>iM (kk i)&&g i) kk len ⟨#[101]⟩)=(decide (n=0)&&aK s&&aX kk len 1 [101] 0&&aD g len);rw[l6,nt];simp only[show(101:UInt8).toNat=101 from rfl,I1,bT];by_cases hl:len=1
 ·subst hl;simp only[aD,decide_true,Bool.true_and];have bY:=xz s;cases cm:aK s
  ·cases decide (n=0)<;>cases ao s<;>rfl
  rw[bY cm];cases decide (n=0)<;>cases fL (kk 0)<;>cases g 0<;>rfl
 ·simp[hl]):G:=h
theorem afa (h:G:=by
 show(ao s&&decide (n=0)&&aG (fun i=>fL (kk i)&&g i) (fun i=>iM (kk i)&&g i) kk len ⟨#[99]⟩)=(decide (n=0)&&ao s&&aX kk len 1 [99] 0&&aD g len);rw[l6,nt];simp only[show(99:UInt8).toNat=99 from rfl,ofC,bT];by_cases hl:len=1
 ·subst hl;simp only[aD];have hc:=call1<|kk 0;cases hx:decide (kk 0=25)
  ·exact Xk
  ·rw[hc hx];exact Xk
 ·simp[hl]):G:=h
theorem afi (h:G:=by
 show(ao s&&decide (n=0)&&aG (fun i=>fL (kk i)&&g i) (fun i=>iM (kk i)&&g i) kk len ⟨#[101]⟩)=(decide (n=0)&&ao s&&aX kk len 1 [101] 0&&aD g len);rw[l6,nt];simp only[show(101:UInt8).toNat=101 from rfl,I1,bT];by_cases hl:len=1
 ·subst hl;simp only[aD,decide_true,Bool.true_and];cases decide (n=0)<;>cases ao s<;>cases fL (kk 0)<;>cases g 0<;>rfl
 ·simp[hl]):G:=h
theorem afo (h:G:=by
 go_roundg s1.size
 case rel=>exact⟨d+1,_,rfl,by have:=eF.o;omega,rfl,O,AM (t:=1) cy O O O (fun h=>by first|rfl|omega),(show aX kk len s1.size s1.data.toList (d+1)=res by rw[tq Ob.o,Cp.o,Nx.o,avo O]),iY⟩
 case measure=>have:=eF.o;have:=sV.o;omega):G:=h
theorem afp (h:G:=by
 go_enter func82,ntmps82
 go_wp2_with(first|(go_at_call 106;refine(gg _ _).mono ?_;rintro e w' ⟨rfl,rfl⟩)|(go_at_call 118;refine(lS _ _ HS.o).mono ?_;rw[HN.o];rintro e w' ⟨rfl,rfl⟩)|(go_at_call 119;refine(wZ _ _ HR.o).mono ?_;rintro e w' ⟨rfl,rfl⟩))
 go_ret;exact⟨aw hb2.o.symm,rfl⟩):G:=h
theorem Xj (h:G:=by
 cases cm:aK s;all_goals go_enter func46,ntmps46
 all_goals go_wp2_with(go_at_call 82;refine(xK _ _ HS.o (HR _).o).mono ?_;rw[cm];rintro e w1 ⟨rfl,rfl⟩)
 all_goals go_ret
 all_goals exact⟨aw (by unfold KR;simp[cm]),(HB _).o⟩):G:=h
theorem afq (h:G:=by
 go_enter func47,ntmps47
 go_wp2_with fail
 go_region_with(go_at_call 84;refine(HL.o _ (HB _).o.drew).mono ?_;rw[<-fF.o];rintro e w1 ⟨rfl,hb1⟩)
 all_goals go_wp2
 all_goals go_ret
 all_goals exact⟨rfl,(HB _).o.drew.trans (hb1.mono M)⟩):G:=h
theorem afr (h:G:=by cases aK T.z<;>cases (decide (0<=T.E)&&decide (T.E<=3))<;>cases decide (1<=m+1)<;>cases aD (fun i=>decide (T.kk i=3)) m<;>cases aD (fun i=>gu (T.f i)) m<;>cases gu (T.f m)<;>rfl):G:=h
theorem afs (h:G:=by
 show(ao s&&decide (n=0)&&decide (len=0))=(decide (n=0)&&ao s&&aX kk len 0 [] 0&&aD g len);rw[ki];by_cases hl:len=0
 ·subst hl;cases decide (n=0)<;>cases ao s<;>rfl
 ·simp[hl]):G:=h
theorem ae3 (h:G:=by rintro l pre ⟨D,d,v⟩ W K ⟨_,NO,_⟩ hK;obtain⟨a,c,hv,_⟩:=ar.1 NO;have hv:v=.slice a D.q c:=hv;subst hv;simp only[CO,Nd.val];gi_wp2;exact hK):G:=h
theorem IB (h:G:=by
 go_enter func45,ntmps45
 go_wp2;all_goals go_ret
 all_goals refine⟨aw ?_,(HB _).o⟩
 all_goals(rw[avN];simp[vX])
 all_goals omega):G:=h
theorem zO (h:G:=by
 go_enter func120,ntmps120
 go_wp2;all_goals go_ret
 all_goals refine⟨aw ?_,rfl⟩
 all_goals(rw[avN];simp[eU])
 all_goals omega):G:=h
theorem ae4 (h:G:=by
 rcases len with _|_|n
 ·simp[aX,iL]
 ·cases h:eU (kk 0) c.toNat<;>simp[aX,iL,h]
 ·cases h:eU (kk 0) c.toNat<;>simp[aX,iL,h]):G:=h
theorem ae5 (h:G:=by cases h:eU (kk 0) c.toNat<;>cases h':eU (kk 1) c'.toNat<;>cases YZ:eU (kk 2) TL.toNat<;>simp[aX,iL,h,h',YZ,h1,h2,h3,h4]):G:=h
theorem ae6 (h:G:=by cases decide (n=0)<;>cases ao s<;>cases fL (kk 0)<;>cases g 0<;>cases g 1<;>cases decide (kk 0=4)<;>cases iM (kk 0)<;>rfl):G:=h
theorem ae7 (h:G:=by cases h:eU (kk 0) 101<;>cases h':eU (kk 1) 98<;>cases YZ:eU (kk 2) 111<;>simp[aX,iL,h,h',YZ]):G:=h
theorem ae8 (h:G:=by cases h:eU (kk 0) 101<;>cases h':eU (kk 0) 98<;>cases YZ:eU (kk 1) 98<;>simp_all[aX,iL]):G:=h
theorem ae9 (h:G:=by cases h:eU (kk 0) c.toNat<;>cases h':eU (kk 1) c'.toNat<;>simp[aX,iL,h,h',h1,h2]):G:=h
theorem Xl (h:G:=by cases decide (n=0)<;>cases ao s<;>cases fL (kk 0)<;>cases g 0<;>cases g 1<;>rfl):G:=h
theorem Rh (h:G:=by exact hb3.grown gp abm (fun k e=>by have:=avq e;omega)):G:=h
theorem IA (h:G:=by cases decide (n=0)<;>cases ao s<;>cases fL (kk 0)<;>cases g 0<;>rfl):G:=h
theorem afb (h:G:=by
 go_roundg (s1.extract 1 s1.size).size
 case rel=>exact⟨d+t,_,rfl,by have:=eF.o;omega,rfl,O,AM cy O O O (fun h=>by first|rfl|omega),(by rw[tq yu.o,Cp.o,Nx.o];exact(ij _ _ _ aav).symm),iY⟩
 case measure=>have:=eF.o;have:=sV.o;omega):G:=h
theorem afc (h:G:=by
 go_wp2;go_roundg (s1.extract 1 s1.size).size
 case rel=>exact⟨d,_,rfl,by have:=eF.o;omega,rfl,O,Ks O O,(by rw[tq yu.o,Cp.o,Nx.o,Nat.add_zero];exact(ij _ _ _ aav).symm),iY⟩
 case measure=>have:=eF.o;have:=sV.o;omega):G:=h
theorem afd (h:G:=by
 go_roundg (m-(t+1))
 case rel=>exact⟨t+1,rfl,O,by go_num,HY.o HO.o,iY⟩
 case measure=>have:=HG2.o;omega):G:=h
theorem afe (h:G:=by rw[iY.cell (p:=⟨g,_,none⟩) hg,show off+d*4+t*4=off+(d+t)*4 by omega];exact cy (d+t) O O):G:=h
theorem Xk (h:G:=by cases decide (n=0)<;>cases ao s<;>cases g 0<;>rfl):G:=h
theorem aff (h:G:=by
 have qr:=oW.res.cell;have qrf:=oW.res.frozen;have sP:W3.heap.size=W1.heap.size+1:=by rw[nF];simp
 have iY:W3.heap[W1.heap.size]?=some (nO D<|.slice av D.q cv):=by
  rw[nF,World.putObj_heap_other O];exact World.alloc_heap_new W1 _
 have x0:W3.cell? ⟨W1.heap.size,0,none⟩=some (.int .i64 D.y):=(avS _ _ 0 _ _ (0,0) iY).trans rfl;have x1:W3.cell? ⟨W1.heap.size,1,none⟩=some (.int .i64 D.E):=(avS _ _ 1 _ _ (0,0) iY).trans rfl;have x2:W3.cell? ⟨W1.heap.size,2,none⟩=some (.string D.z):=(avS _ _ 2 _ _ (0,0) iY).trans rfl;have x3:W3.cell? ⟨W1.heap.size,3,none⟩=some (.slice av D.q cv):=(avS _ _ 3 _ _ (0,0) iY).trans rfl;first
 |clear apF
  have eu:=ir.size;have d1:¬W1.heap.size=w.heap.size+1+1+1:=O;have d2:¬w.heap.size+1+1+1=W1.heap.size:=O;have Se:Hid (m<((1+lens (pre.map key)+D.q:Nat):Int)->ld T m=false):=fun h=>KW gC h;have HI:=Z oW;obtain⟨ls,DK⟩:∃ls,lens (pre.map key)=ls:=⟨_,rfl⟩;have Uc:=Z DK;rw[DK]at q fp Se;clear DK;have Zg:∀u:Value,Hid (KeptF (fun k=>k=w.heap.size+1+1+1) W3<|W3.setCell ⟨w.heap.size+1+1+1,0,none⟩ u):=fun u=>⟨by simp[World.setCell],fun k z hm=>avz _ _ _ _ hm⟩;have hzi:=HI.o.size;clear gC NO YI ir oW nF CE I9 Tx c0 c1 c2 c3 c4 iY;have hcst:((1+ls:Nat):Int)+(D.q:Int)=((1+ls+D.q:Nat):Int):=O;have HCST:=Z hcst;clear hcst;by_cases hbig:m<((1+ls:Nat):Int)+(D.q:Int)
  ·have gi:=Z<|Se.o (by rw[<-HCST.o];exact hbig);gi_wp2_with(refine⟨trivial,?_⟩)
   refine⟨(KeepsOthers.setCell _ _ _).trans<|KeepsOthers.setCell _ _ _,rfl,(HI.o.below.setCell (p:=⟨w.heap.size+1+1+1,0,none⟩) aaD _).setCell (p:=⟨w.heap.size+1+1,0,none⟩) aas _,?_,gi.o,?_⟩
   ·have RR:∀u:Value,Boxed (W3.setCell ⟨w.heap.size+1+1+1,0,none⟩ u) (w.heap.size+1+1) 4 (.bool false):=fun u=>(avz _ _ _ _ aa4).trans HI.o.res;exact(RR _).set<|.bool false
   ·simp[World.setCell];omega
  ·gi_wp2_with(refine⟨trivial,?_⟩)
   refine⟨KeepsOthers.setCell _ _ _,(Zg _).o,HI.o.below.setCell (p:=⟨w.heap.size+1+1+1,0,none⟩) aaD _,(avz _ _ _ _ (by show w.heap.size+1≠w.heap.size+1+1+1;omega)).trans HI.o.dU,(avz _ _ _ _ aa4).trans HI.o.res,?_,?_,by simp[World.setCell];omega⟩
   ·rw[show lens ((pre++[(⟨D,d,.slice av D.q cv⟩:jr)]).map key)=ls+D.q by rw[awE,lR,Uc.o];simp[lens,key]];have e:(1:Int)+(ls:Int)+(D.q:Int)=((1+(ls+D.q):Nat):Int):=O;rw[<-e];exact HI.o.cQ.set _
   ·rw[show lens ((pre++[(⟨D,d,.slice av D.q cv⟩:jr)]).map key)=ls+D.q by rw[awE,lR,Uc.o];simp[lens,key]];omega
 |clear apG
  have eu:=hi.size;have Se:Hid (mF D=false->jO T=false):=fun h=>Dp gC h;have HI:=Z oW;have rb:=Z<|yU D k z O W3 (.slice av D.q cv) w.heap.size YI oW.below.size O (ah oW.below lr NO)<|gW HT.o oW.below;have tC:=Z hi.ok;unfold Nd.val at rb;have hzi:=HI.o.size;clear gC NO YI hi oW nF CE I9 Tx c0 c1 c2 c3 c4 iY z jH ze;cases I8:mF D
  ·have gi:=Z<|Se.o I8;gi_wp2_with((refine⟨trivial,?_⟩;gi_at_call 21;refine(CallsIn.inRound l<|avT.2 rb.o).mono ?_;rw[I8];rintro e w' ⟨rfl,hb3⟩;have td:=hb3.size;have B3:=Z<|HI.o.below.trans<|hb3.mono O;have R3:=Z<|show Boxed w' (w.heap.size+1) 4 (.bool false)from(hb3.block _ O).trans HI.o.res;have K3:=Z<|sf hb3;have qr3:=R3.o.cell;have qf3:=R3.o.frozen;clear hb3))
   refine⟨K3.o.trans<|KeepsOthers.setCell _ _ _,rfl,B3.o.setCell (p:=⟨w.heap.size+1,0,none⟩) aao _,R3.o.set<|.bool false,gi.o,?_⟩;simp[World.setCell];omega
  ·gi_wp2_with((refine⟨trivial,?_⟩;gi_at_call 21;refine(CallsIn.inRound l<|avT.2 rb.o).mono ?_;rw[I8];rintro e w' ⟨rfl,hb3⟩;have td:=hb3.size;have B3:=Z<|HI.o.below.trans<|hb3.mono O;have R3:=Z<|show Boxed w' (w.heap.size+1) 4 (.bool false)from(hb3.block _ O).trans HI.o.res;have K3:=Z<|sf hb3;have F3:Hid (KeptF (fun k=>False) W3 w'):=⟨hb3.size,fun k z _=>hb3.block k z⟩;clear hb3))
   refine⟨K3.o,F3.o,B3.o,R3.o,?_,O⟩;intro x hx;rcases awb.1 hx with hx|hx
   ·exact tC.o x hx
   ·rw[awc.1 hx];exact I8):G:=h
theorem afg (h:G:=by
 have hrz:1<=r.length:=by
  have:=HQ.o;cases r with
  |nil=>cases this
  |cons=>simp
 have yu:Hid (((s.extract 1 s.size).extract 1 (s.extract 1 s.size).size).data.toList=r.tail):=by unfold Hid;rw[xb,Ob.o]
 have eu:(s.extract 1 s.size).size=r.length:=by rw[<-fX,Ob.o]
 have hi1:(1:Int)<=((s.extract 1 s.size).size:Int):=O;have X8:=Z eu;have eF:Hid (((s.extract 1 s.size).extract 1 (s.extract 1 s.size).size).size+2<=s.size/\s.size<=100):=by
  unfold Hid;rw[<-fX,yu.o,length_tail];have:=Nr.o;omega
 clear eu zV;generalize s.extract 1 s.size=s1 at*
 go_quiet (fail);go_wp2;clear VW Ud;first
 |clear apH
  have hmn:∃m:Nat,m=min 1 (len-d):=⟨_,rfl⟩;obtain⟨m,hm⟩:=hmn;have hml:m<=len-d:=O;have CD:(min 1 ((len-d:Nat):Int):Int)=(m:Int):=O;exact ae1
 |clear apI
  have hmn:∃m:Nat,m=len-d:=⟨_,rfl⟩;obtain⟨m,hm⟩:=hmn;have hml:m<=len-d:=O;have hml2:len-d<=m:=O;exact ae1):G:=h
theorem afh (h:G:=by
 obtain rfl:=ha O;have iX:wr.cell? ⟨g,off+d*4+t*4,none⟩=some (.int .i64<|kk<|d+t):=by
  exact afe
 have HY:Hid (eU (kk<|d+t) s[0].toNat=true->∀i,i<t+1->eU (kk<|d+i) s[0].toNat=true):=fun h i hi=>by
  by_cases e:i=t
  ·subst e;exact h
  ·exact bl.o i O
 clear bl;first
 |clear apJ
  have YJ:t<1:=O;have apT:=kk;exact afn
 |clear apK
  have apU:=kk;exact afn):G:=h
theorem afj (h:G:=by
 rintro D c pre W hD _ hx hK;obtain rfl:=hx.ret;have hb3:=hx.below;have r0:=hx.res;have HO:=Z hx.bad;clear hx CE I9 Tx c0 c1 c2 c3 c4;gi_wp2;refine⟨M,.inl ⟨_,_,rfl,run_takeDeferred hK,?_⟩⟩;have gp:=grownBy_putObj' W D<|.deferred none;have p0:=(r0.kept gp fun e=>by have:=avq e;omega).cell;first
 |clear apL
  refine⟨.bool false,by simp[results,results19,go_sem,p0],aw HO.o.symm,?_⟩;exact Rh
 |clear apM
  refine⟨.bool false,by simp[results,results8,go_sem,p0],aw HO.o.symm,?_⟩;exact Rh):G:=h
theorem afk (h:G:=by
 obtain⟨t,hgk2,ht,rfl,bl,iY⟩:=hrel;have HG2:=Z hgk2;clear hgk2;have leave:∀o5:t=m\/eU (kk<|d+t) s[0].toNat=false,iL kk s[0].toNat m d=t:=fun o5=>EB bl.o ht o5;have RY:=Z leave;clear leave;by_cases be:t<m;first
 |clear apN
  ·have apJ:=kk;exact afh
  ·have Vx:t=m:=O;have HLT:=RY.o<|.inl Vx;have Nx:=Z HLT;clear HLT RY bl;by_cases hdl:d<len
   ·obtain rfl:=ha hdl;subst Vx;obtain rfl:t=1:=by have:=HM.o;omega
    go_wp2
    ·exact afo
    ·exact afo
   ·obtain rfl:d=len:=O;obtain rfl:m=0:=O;obtain rfl:t=0:=O;clear Vx;go_wp2;go_ret;exact⟨aw (by rw[Cp.o,Nx.o];rfl),iY⟩
 |clear apO
  ·have apK:=kk;exact afh
  ·have Vx:t=m:=O;have HLT:=RY.o<|.inl Vx;have Nx:=Z HLT;clear HLT RY bl;by_cases hdl:d<len
   ·obtain rfl:=ha hdl;subst Vx;go_wp2
    ·exact afb
    ·exact afb
   ·obtain rfl:d=len:=O;obtain rfl:m=0:=O;obtain rfl:t=0:=O;clear Vx;cases a
    ·exact afc
    ·exact afc):G:=h
theorem afl (h:G:=by
 intro r0 Ff hb3;refine⟨M,.inl ⟨_,_,rfl,run_takeDeferred Ff,?_⟩⟩;have gp:=grownBy_putObj' X D<|.deferred none;have p0:=(r0.kept gp fun e=>by have:=avq e;omega).cell;first
 |clear apP
  refine⟨.bool true,by simp[results,results19,go_sem,p0],aw HG.o.symm,?_⟩;exact Rh
 |clear apQ
  refine⟨.bool true,by simp[results,results8,go_sem,p0],aw HG.o.symm,?_⟩;exact Rh):G:=h
theorem afm (h:G:=by
 have HM:=Z hm;clear hm;go_loopg [8] m (fun k2 i wx=>∃(t:Nat),k2=m-t/\t<=m/\i=.int .i64 t/\Hid (∀i,i<t->eU (kk<|d+i) s[0].toNat=true)/\Below w.heap.size w wx)
 first
 |clear apR
  case atStart=>exact⟨0,O,O,rfl,(fun i hi=>by omega),I⟩
  case round=>
   have apN:=kk;exact afk
 |clear apS
  case atStart=>exact⟨0,O,O,rfl,(fun i hi=>by omega),(show Below w.heap.size w _ from(I.trans<|show Below w.heap.size _ _ from Cb _ _ _))⟩
  case round=>
   have apO:=kk;exact afk):G:=h
theorem afn (h:G:=by
 cases ho:eU (kk<|d+t) s[0].toNat;all_goals have HO:=Z ho
 all_goals clear ho
 all_goals go_wp2_with(go_at_call 120;refine(Li _ _ _).mono ?_;rw[HO.o];rintro e _ ⟨rfl,rfl⟩)
 first
 |clear apT
  ·go_ret;exact⟨aw (by rw[Cp.o,RY.o<|.inr HO.o,avA YJ]),iY⟩
  ·exact afd
 |clear apU
  ·go_roundg (s1.extract 1 s1.size).size
   case rel=>exact⟨d+t,_,rfl,by have:=eF.o;omega,rfl,O,GR cy O O O (fun h=>by first|rfl|omega),(by rw[tq yu.o,Cp.o,RY.o<|.inr HO.o];exact(ij _ _ _ aav).symm),iY⟩
   case measure=>have:=eF.o;have:=sV.o;omega
  ·exact afd):G:=h
theorem xK (s:ByteArray)(w:World)(hs:s.size<=maxLen)(hr:bX w 4 bd):
  Calls prog 82 #[.string s] w fun e w'=>e=.returned (.bool<|aK s)/\w'=w:=by
 have HS:Hid (s.size<=maxLen):=hs;have HR:Hid (bX w 4 bd):=hr;unfold maxLen at hs;clear hr;by_cases h1:s.size=0
 ·have I:Hid (aK s=false):=by simp[Hid,aK,dE];omega
  have he:s.toList.isEmpty=true:=by rw[avx,isEmpty_iff];exact avY (by simpa using h1)
  clear h1;go_enter func82,ntmps82
  go_wp2;go_ret;exact⟨aw I.o.symm,rfl⟩
 have he:s.toList.isEmpty=false:=by
  rw[avx,isEmpty_eq_false_iff];intro h;have:=congrArg List.length h;simp at this;exact h1 (by simp[ByteArray.size,this])
 by_cases h2:40<s.size
 ·have I:Hid (aK s=false):=by simp[Hid,aK,dE];omega
  go_enter func82,ntmps82
  go_wp2;go_ret;exact⟨aw I.o.symm,rfl⟩
 have h0:0<s.size:=O;have hh:=Fb s h0;cases hl:bZ s[0].toNat
 ·have I:Hid (aK s=false):=by unfold Hid aK dE;rw[hh,hl];simp
  clear hh;go_enter func82,ntmps82
  go_wp2_with(go_at_call 106;refine(gg _ _).mono ?_;rintro e w' ⟨rfl,rfl⟩)
  go_ret;exact⟨aw I.o.symm,rfl⟩
 ·have I:Hid (dE s=decide (dk s.data.toList=s.size)):=by
   have:1<=s.size/\s.size<=40:=O;unfold Hid dE;rw[hh,hl];simp[this]
  clear hh h1;generalize hn:dk s.data.toList=n at I;have HN:Hid (dk s.data.toList=n):=hn;clear hn;by_cases hW:n=s.size
  ·subst hW;have hb2:Hid (aK s= !hasB bd s):=by simp[Hid,aK,I.o]
   exact afp
  ·have hb2:Hid (aK s=false):=by simp[Hid,aK,I.o,hW]
   have bY:((n:Int)==(s.size:Int))=false:=by simp;omega
   exact afp
theorem QW (t:ByteArray)(l:List UInt8):decide ((⟨l.toArray⟩:ByteArray)=t)=(t.toList==l):=by
 rw[avN,avx];simp only[avy,avV];constructor
 ·intro h;rw[<-h]
 ·intro h;cases t;simp only at h;rw[<-h]
theorem Vk (s:ByteArray):bV s=if s.toList==[124,124]then 1 else if s.toList==[38,38]then 2 else
  if(s.toList==[61,61]||s.toList==[33,61]||s.toList==[60]||s.toList==[60,61]||s.toList==[62]||s.toList==[62,61])then 3 else
  if(s.toList==[43]||s.toList==[45])then 4 else if(s.toList==[42]||s.toList==[47]||s.toList==[37])then 5 else 0:=by
 unfold bV;simp only[bK,hasB,any_cons,any_nil,Bool.or_false,QW,Bool.or_assoc]
theorem lA (s:ByteArray)(w:World):Calls prog 83 #[.string s] w fun e w'=>e=.returned (.int .i64 (bV s:Int))/\w'=w:=by
 have HE:=Z<|Vk s;go_enter func83,ntmps83
 go_wp2;all_goals go_ret
 all_goals refine⟨jI ?_,rfl⟩
 all_goals rw[HE.o]
 all_goals simp_all
def eU (k:Int)(c:Nat):Bool:=
 if c=102 then decide (k=2)else if c=112 then decide (k=3)else if c=98 then decide (k=4)
 else if c=115 then decide (4<=k)&&decide (k<=21)&& !decide (k=16)else if c=101 then decide (22<=k)&&decide (k<=29)
 else if c=97 then decide (k=25)||decide (k=29)else if c=99 then decide (k=25)else if c=111 then decide (k=4)||decide (k=10)else if c=119 then decide (k=16)else false
theorem Li (k:Int)(c:Nat)(w:World):Calls prog 120 #[.int .i64 k,.int .u8 (c:Int)] w fun e w'=>e=.returned (.bool<|eU k c)/\w'=w:=by
 by_cases WE:c=102
 ·subst WE;exact zO
 by_cases WC:c=112
 ·subst WC;exact zO
 by_cases c98:c=98
 ·subst c98;exact zO
 by_cases WB:c=115
 ·subst WB;exact zO
 by_cases WG:c=101
 ·subst WG;exact zO
 by_cases c97:c=97
 ·subst c97;exact zO
 by_cases c99:c=99
 ·subst c99;exact zO
 by_cases WD:c=111
 ·subst WD;exact zO
 by_cases WA:c=119
 ·subst WA;exact zO
 have HO:Hid (eU k c=false):=by unfold Hid eU;simp[WE,WC,c98,WB,WG,c97,c99,WD,WA]
 have n102:((c:Int)==102)=false:=bn O;have n112:((c:Int)==112)=false:=bn O;have n98:((c:Int)==98)=false:=bn O;have n115:((c:Int)==115)=false:=bn O;have n101:((c:Int)==101)=false:=bn O;have n97:((c:Int)==97)=false:=bn O;have n99:((c:Int)==99)=false:=bn O;have n111:((c:Int)==111)=false:=bn O;have n119:((c:Int)==119)=false:=bn O;clear WE WC c98 WB WG c97 c99 WD WA;go_enter func120,ntmps120
 go_wp2;go_ret;exact⟨aw HO.o.symm,rfl⟩
def vX (k n:Int):Bool:=
 if k=2 then decide (0<=n)&&decide (n<=3)else if k=3 then decide (1<=n)&&decide (n<=3)else if k=7 then decide (n=1)||decide (n=-1)else if k=16 then decide (0<=n)&&decide (n<=2)
 else if k=22 then decide (0<=n)&&decide (n<=999999999999999999)else if k=23 then decide (n=0)||decide (n=1)else decide (n=0)
def KR (k n:Int)(s:ByteArray):Bool:=
 if k=2\/k=3\/k=5\/k=6\/k=7\/k=24\/k=25 then aK s else if k=16 then ao s||(decide (n=1)&&aK s)
 else if k=27 then s.toList==[45]||s.toList==[33]else if k=28 then decide (0<bV s)else ao s
theorem EK (k n:Int)(s:ByteArray)(a:Option Addr)(l c:Nat)(w:World):Calls prog 45 #[.agg #[.int .i64 k,.int .i64 n,.string s,.slice a l c]] w fun e w'=>e=.returned (.bool<|vX k n)/\Below w.heap.size w w':=by
 have HB:∀o:Obj,Hid (Below w.heap.size w<|w.alloc o):=fun o=>bA;by_cases c2:k=2
 ·subst c2;exact IB
 by_cases c3:k=3
 ·subst c3;exact IB
 by_cases c7:k=7
 ·subst c7;exact IB
 by_cases Q4:k=16
 ·subst Q4;exact IB
 by_cases vu:k=22
 ·subst vu;exact IB
 by_cases vt:k=23
 ·subst vt;exact IB
 have HO:Hid (vX k n=decide (n=0)):=by unfold Hid vX;simp[c2,c3,c7,Q4,vu,vt]
 have n2:(k==2)=false:=bn c2;have n3:(k==3)=false:=bn c3;have n7:(k==7)=false:=bn c7;have n16:(k==16)=false:=bn Q4;have n22:(k==22)=false:=bn vu;have n23:(k==23)=false:=bn vt;clear c2 c3 c7 Q4 vu vt;go_enter func45,ntmps45
 go_wp2;go_ret;exact⟨aw (by rw[HO.o,avN];simp),(HB _).o⟩
theorem Vi (k n:Int)(s:ByteArray)(a:Option Addr)(l c:Nat)(w:World)(hs:s.size<=maxLen)(hg:4<w.heap.size)(hr:bX w 4 bd):
  Calls prog 46 #[.agg #[.int .i64 k,.int .i64 n,.string s,.slice a l c]] w fun e w'=>e=.returned (.bool<|KR k n s)/\Below w.heap.size w w':=by
 have HB:∀o:Obj,Hid (Below w.heap.size w<|w.alloc o):=fun o=>bA;have HS:=Z hs;have HR:∀o:Obj,Hid (bX (w.alloc o) 4 bd):=fun o i hi=>((HB o).o.cell (p:=⟨4,i,none⟩) hg).trans<|hr i hi;clear hs hr hg;by_cases c2:k=2
 ·subst c2;exact Xj
 by_cases c3:k=3
 ·subst c3;exact Xj
 by_cases c5:k=5
 ·subst c5;exact Xj
 by_cases c6:k=6
 ·subst c6;exact Xj
 by_cases c7:k=7
 ·subst c7;exact Xj
 by_cases c24:k=24
 ·subst c24;exact Xj
 by_cases c25:k=25
 ·subst c25;exact Xj
 by_cases Q4:k=16
 ·subst Q4;cases cm:aK s;all_goals cases he:s.toList.isEmpty
  all_goals cases h1:(n==1)
  all_goals go_enter func46,ntmps46
  all_goals go_wp2_with(go_at_call 82;refine(xK _ _ HS.o (HR _).o).mono ?_;rw[cm];rintro e w1 ⟨rfl,rfl⟩)
  all_goals go_ret
  all_goals exact⟨aw (by unfold KR;simp only[ao,cm,he,uj h1];rfl),(HB _).o⟩
 by_cases c27:k=27
 ·subst c27;cases h1:(s.toList==[45]);all_goals cases h2:(s.toList==[33])
  all_goals go_enter func46,ntmps46
  all_goals go_wp2
  all_goals go_ret
  all_goals exact⟨aw (by unfold KR;simp only[h1,h2];rfl),(HB _).o⟩
 by_cases c28:k=28
 ·subst c28;cases h1:decide (0<bV s);all_goals go_enter func46,ntmps46
  all_goals go_wp2_with(go_at_call 83;refine(lA _ _).mono ?_;rintro e w1 ⟨rfl,rfl⟩)
  all_goals go_ret
  all_goals exact⟨aw (by unfold KR;simp_all),(HB _).o⟩
 have HO:Hid (KR k n s=ao s):=by unfold Hid KR;simp[c2,c3,c5,c6,c7,c24,c25,Q4,c27,c28]
 have n2:(k==2)=false:=bn c2;have n3:(k==3)=false:=bn c3;have n5:(k==5)=false:=bn c5;have n6:(k==6)=false:=bn c6;have n7:(k==7)=false:=bn c7;have n24:(k==24)=false:=bn c24;have n25:(k==25)=false:=bn c25;have n16:(k==16)=false:=bn Q4;have n27:(k==27)=false:=bn c27;have n28:(k==28)=false:=bn c28;clear c2 c3 c5 c6 c7 c24 c25 Q4 c27 c28;cases he:s.toList.isEmpty;all_goals go_enter func46,ntmps46
 all_goals go_wp2
 all_goals go_ret
 all_goals exact⟨aw (by rw[HO.o];simp[ao,he]),(HB _).o⟩
def iL (kk:Nat->Int)(c:Nat):Nat->Nat->Nat
 |0,_=>0
 |m+1,d=>if eU (kk d) c then iL kk c m (d+1)+1 else 0
def aX (kk:Nat->Int)(len:Nat):Nat->List UInt8->Nat->Bool
 |0,_,d=>decide<|d=len
 |f+1,[],d=>decide<|d=len
 |f+1,c::r,d=>
  if r.head?=some 63 then aX kk len f r.tail (d+iL kk c.toNat (min 1<|len-d) d)
  else if r.head?=some 42 then aX kk len f r.tail (d+iL kk c.toNat (len-d) d)
  else if iL kk c.toNat (min 1<|len-d) d<1 then false else aX kk len f r (d+iL kk c.toNat (min 1<|len-d) d)
theorem fX (s:ByteArray):s.data.toList.length=s.size:=rfl
theorem BO (s:ByteArray)(a b:Nat):(s.extract a b).data.toList=(s.data.toList.drop a).take (b-a):=Lib.extract_data s a b
theorem xb (s:ByteArray):(s.extract 1 s.size).data.toList=s.data.toList.tail:=by rw[BO,awe (by rw[awf,fX];omega),drop_one]
theorem xk (s:ByteArray):s.data.toList.length=s.size:=rfl
theorem pW (s:ByteArray):s.toList.isEmpty=s.data.toList.isEmpty:=by rw[avx]
theorem LF (s:ByteArray)(c:UInt8)(w:World)(hs:s.size<=100):
  Calls prog 104 #[.string s,.string ⟨#[c]⟩] w fun e w'=>e=.returned (.bool<|decide<|s.data.toList.head?=some c)/\w'=w:=by
 have HL:=Z<|BO s 0 1;have HZ:=Z<|xk s;go_enter func104,ntmps104
 go_wp2;all_goals go_ret
 ·refine⟨aw ?_,rfl⟩;rw[avx,HL.o];cases h:s.data.toList with
  |nil=>rw[avN];simp
  |cons x l=>rw[avN];simp
 ·refine⟨aw ?_,rfl⟩;cases h:s.data.toList with
  |nil=>simp
  |cons x l=>have:=HZ.o;rw[h]at this;simp at this;omega
theorem VF (s:ByteArray)(c:UInt8)(w:World)(hs:s.size<=100):
  Calls prog 68 #[.string s,.string ⟨#[c]⟩] w fun e w'=>e=.returned (.bool<|decide<|s.data.toList.head?=some c)/\w'=w:=by
 have HC:=Z fun w=>LF s c w hs;go_enter func68,ntmps68
 go_wp2_with(go_at_call 104;refine(HC.o _).mono ?_;rintro e w' ⟨rfl,rfl⟩)
 go_ret;exact⟨rfl,rfl⟩
theorem EB {kk:Nat->Int}{c:Nat}:∀{m t d:Nat},(∀i,i<t->eU (kk<|d+i) c=true)->t<=m->(t=m\/eU (kk<|d+t) c=false)->iL kk c m d=t
  | 0,t,d,_,h,_=>by simp[iL];omega
  | m+1,0,d,_,_,h=>by
    have h':eU (kk d) c=false:=by rcases h with h|h;omega;simpa using h
    simp[iL,h']
  | m+1,t+1,d,ha,hm,h=>by
    have h0:eU (kk d) c=true:=by simpa using ha 0 O
    have:=EB (kk:=kk) (c:=c) (m:=m) (t:=t) (d:=d+1) (fun i hi=>by have:=ha (i+1) O;rwa[show d+(i+1)=d+1+i by omega]at this) O
      (by rcases h with h|h
          · exact .inl O
          · exact .inr (by rwa[show d+(t+1)=d+1+t by omega]at h))
    simp[iL,h0,this]
theorem If {kk:Nat->Int}{c:UInt8}{r:List UInt8}(h:s.data.toList=c::r):aX kk len s.size s.data.toList d=
  if r.head?=some 63 then aX kk len r.length r.tail (d+iL kk c.toNat (min 1<|len-d) d)
  else if r.head?=some 42 then aX kk len r.length r.tail (d+iL kk c.toNat (len-d) d)
  else if iL kk c.toNat (min 1<|len-d) d<1 then false else aX kk len r.length r (d+iL kk c.toNat (min 1<|len-d) d):=by
 have hz:s.size=r.length+1:=by rw[<-fX,h];rfl
 rw[hz,h];rfl
theorem ij {kk:Nat->Int}{len:Nat}:∀(f:Nat)(l:List UInt8)(d:Nat),l.length<=f->aX kk len f l d=aX kk len l.length l d
 |0,l,d,h=>by
  have:l=[]:=avY O
  subst this;rfl
 |f+1,[],d,_=>rfl
 |f+1,c::r,d,h=>by
  simp only[length_cons]at h⊢
  simp only[aX]
  rw[ij f r.tail _ aav,ij f r.tail _ aav,ij f r _ O,
   ij r.length r.tail _ aav,ij r.length r.tail _ aav]
theorem Cb (B:Nat)(w:World)(n:Nat):Below B w (w.drewN n):=⟨rfl,rfl,rfl,avF _,fun _ _=>rfl⟩
def Rest (w:World)(kk:Nat->Int)(len g off d:Nat)(v:Value):Prop:=
 ∃a cap,v=.slice a (len-d) cap/\len-d<=cap/\cap<=9223372036854775807/\(d<len->a=some ⟨g,off+d*4,none⟩)/\∀i,d<=i->i<len->w.cell? ⟨g,off+i*4,none⟩=some (.int .i64<|kk i)
theorem GR {kk:Nat->Int}(hc:∀i,d<=i->i<len->w.cell? ⟨g,off+i*4,none⟩=some (.int .i64<|kk i))(h1:t<=len-d)(h2:len-d<=cap)(h3:cap<=9223372036854775807)
  (ha:d+t<len->a=some ⟨g,off+d*4+t*4,none⟩):Rest w kk len g off (d+t) (.slice a (len-d-t)<|cap-t):=by
 refine⟨a,cap-t,by rw[show len-(d+t)=len-d-t by omega],O,O,fun h=>?_,fun i hi=>hc i O⟩;rw[ha h,show off+(d+t)*4=off+d*4+t*4 by omega]
theorem AM {kk:Nat->Int}(hc:∀i,d<=i->i<len->w.cell? ⟨g,off+i*4,none⟩=some (.int .i64<|kk i))(hl:l=len-(d+t))(h2:l<=cap)(h3:cap<=9223372036854775807)
  (ha:d+t<len->a=some ⟨g,off+d*4+t*4,none⟩):Rest w kk len g off (d+t) (.slice a l cap):=by
 refine⟨a,cap,by rw[hl],O,O,fun h=>?_,fun i hi=>hc i O⟩;rw[ha h,show off+(d+t)*4=off+d*4+t*4 by omega]
theorem Ks {kk:Nat->Int}(hl:l=0)(h3:cap<=9223372036854775807):Rest w kk len g off len (.slice a l cap):=by subst hl;exact⟨a,cap,by rw[awO],O,h3,fun h=>by omega,fun i h1 h2=>by omega⟩
theorem tq {kk:Nat->Int}{l:List UInt8}(h:s.data.toList=l):aX kk len s.size s.data.toList d=aX kk len l.length l d:=by subst h;rfl
theorem Lb (kk:Nat->Int)(len g off:Nat)(form:ByteArray)(v:Value)(w:World)(hl:len<=9223372036854775807)(hs:form.size<=100)(hg:g<w.heap.size)(hr:Rest w kk len g off 0 v):
  Calls prog 84 #[v,.string form] w fun e w'=>e=.returned (.bool<|aX kk len form.size form.data.toList 0)/\Below w.heap.size w w':=by
 obtain⟨a0,mV,rfl,EY⟩:=hr;have HR:=Z EY;generalize qJ:aX kk len form.size form.data.toList 0=res;have HRES:=Z qJ;clear EY qJ;go_enter func84,ntmps84
 go_wp2;go_loopg [0,1] form.size (fun gk kids f wr=>∃(d:Nat)(s:ByteArray),gk=s.size/\s.size<=100/\f=.string s/\d<=len/\Rest w kk len g off d kids/\Hid (aX kk len s.size s.data.toList d=res)/\Below w.heap.size w wr)
 case atStart=>exact⟨0,form,rfl,hs,rfl,O,⟨a0,mV,rfl,HR.o⟩,HRES.o,avB _ _⟩
 case round=>
  obtain⟨d,s,nE,bz,rfl,hd,⟨a,cap,rfl,hlc,Ac,ha,cy⟩,bI,I⟩:=hrel;clear HR HRES hs;cases hz:s.toList.isEmpty
  ·obtain⟨c,r,o7⟩:∃c r,s.data.toList=c::r:=by
    cases h:s.data.toList with
    |nil=>rw[pW,h]at hz;cases hz
    |cons c r=>exact⟨c,r,rfl⟩
   have cg:s.size=r.length+1:=by rw[<-fX,o7];rfl
   have h1s:(1:Int)<=(s.size:Int):=O;have h0s:0<s.size:=O;have ey:s[0]'h0s=c:=by
    have:s.data.toList[0]'(by rw[o7];simp)=c:=by simp[o7]
    rw[<-this];rfl
   subst ey;have Ob:Hid ((s.extract 1 s.size).data.toList=r):=by unfold Hid;rw[xb,o7];rfl
   have zV:=Z<|bI.o▸If o7;have Ud:=Z o7;have Nr:=Z cg;have sV:=Z nE;clear bI o7 cg nE;have VW:∀(x:UInt8)(W:World),Hid (Calls prog 68 #[.string<|s.extract 1 s.size,.string ⟨#[x]⟩] W fun e w'=>e=.returned (.bool<|decide<|r.head?=some x)/\w'=W):=fun x W=>by
    have:=VF (s.extract 1 s.size) x W (by rw[<-fX,Ob.o];have:=Nr.o;omega);rw[Ob.o]at this;exact this
   by_cases YG:r.head?=some 63
   ·have HQ:=Z YG;clear YG;go_wp2_with(go_at_call 68;refine(VW _ _).o.mono ?_;rw[avR HQ.o];rintro e _ ⟨rfl,rfl⟩)
    have Cp:Hid (res=aX kk len r.length r.tail (d+iL kk s[0].toNat (min 1<|len-d) d)):=by have:=zV.o;rw[avA HQ.o]at this;exact this
    have apH:=kk;exact afg
   by_cases q42:r.head?=some 42
   ·have HQ:=Z q42;have Y7:=Z YG;clear q42 YG;have P1:Hid True:=trivial;go_wp2_with(go_at_call 68;first|(clear P1;refine(VW 63 _).o.mono ?_;rw[avP Y7.o];rintro e _ ⟨rfl,rfl⟩)|(refine(VW 42 _).o.mono ?_;rw[avR HQ.o];rintro e _ ⟨rfl,rfl⟩))
    have Cp:Hid (res=aX kk len r.length r.tail (d+iL kk s[0].toNat (len-d) d)):=by have:=zV.o;rw[avo Y7.o,avA HQ.o]at this;exact this
    have apI:=kk;exact afg
   have Y7:=Z YG;have HQ:=Z q42;clear q42 YG;have P1:Hid True:=trivial;go_wp2_with(go_at_call 68;first|(clear P1;refine(VW 63 _).o.mono ?_;rw[avP Y7.o];rintro e _ ⟨rfl,rfl⟩)|(refine(VW 42 _).o.mono ?_;rw[avP HQ.o];rintro e _ ⟨rfl,rfl⟩))
   have Cp:Hid (res=if iL kk s[0].toNat (min 1<|len-d) d<1 then false else aX kk len r.length r (d+iL kk s[0].toNat (min 1<|len-d) d)):=by have:=zV.o;rw[avo Y7.o,avo HQ.o]at this;exact this
   have eu:(s.extract 1 s.size).size=r.length:=by rw[<-fX,Ob.o]
   have eF:Hid ((s.extract 1 s.size).size+1<=s.size/\s.size<=100):=by unfold Hid;have:=Nr.o;omega
   clear eu zV VW Ud;generalize s.extract 1 s.size=s1 at*
   obtain⟨m,hm⟩:∃m:Nat,m=min 1 (len-d):=⟨_,rfl⟩;have hml:m<=len-d:=O;have CD:(min 1 ((len-d:Nat):Int):Int)=(m:Int):=O;rw[<-hm]at Cp;have hm2:m<=1:=O;have apR:=kk;exact afm
  ·have HF:Hid (res=decide (d=len)):=by
    have:=bI.o;rw[pW,isEmpty_iff]at hz;have cg:s.size=0:=by rw[<-xk,hz];rfl
    rw[hz,cg]at this;exact this.symm
   cases h0:(((len-d:Nat):Int)==0);all_goals go_wp2
   all_goals go_ret
   all_goals refine⟨aw ?_,I⟩
   ·rw[HF.o,eq_comm,av5];have:=avH.1 h0;omega
   ·rw[HF.o,eq_comm,avy];have:=avV.1 h0;omega
def jE :List ByteArray:=[⟨#[]⟩,⟨#[102,42]⟩,⟨#[112,42,98]⟩,⟨#[]⟩,⟨#[115,42]⟩,⟨#[101]⟩,⟨#[101]⟩,⟨#[]⟩,⟨#[101,101]⟩,⟨#[97]⟩,⟨#[101,98,111,63]⟩,⟨#[101,63,98]⟩,⟨#[101,63]⟩,⟨#[99]⟩,⟨#[99]⟩,⟨#[119,42]⟩,⟨#[]⟩,⟨#[]⟩,⟨#[]⟩,⟨#[101]⟩,⟨#[101]⟩,⟨#[101]⟩,⟨#[]⟩,⟨#[]⟩,⟨#[]⟩,⟨#[101,42]⟩,⟨#[101,63]⟩,⟨#[101]⟩,⟨#[101,101]⟩,⟨#[101]⟩]
def ik :List ByteArray:=[⟨#[98]⟩,⟨#[101,98]⟩,⟨#[101,101,98]⟩]
def gZ (k n:Int):ByteArray:=if k=16 then ik.getD n.toNat ⟨#[]⟩else jE.getD k.toNat ⟨#[]⟩
def A9 (T:Nd):Bool:=aX T.kk T.q (gZ T.y T.E).size (gZ T.y T.E).data.toList 0
def mF (T:Nd):Bool:=vX T.y T.E&&KR T.y T.E T.z&&A9 T
theorem DV (k n:Int):(gZ k n).size<=100:=by
 have h:∀l∈[ik,jE],∀i,(l.getD i ⟨#[]⟩).size<=100:=by
  intro l hl i;have hm:l.getD i ⟨#[]⟩=⟨#[]⟩\/l.getD i ⟨#[]⟩∈l:=by
   by_cases hi:i<l.length
   ·right;rw[avX,av4 hi];simp
   ·left;rw[avX,List.getElem?_eq_none O];rfl
  rcases hm with h|h
  ·rw[h];decide
  ·have:∀l∈[ik,jE],∀x∈l,x.size<=100:=J;exact this l hl _ h
 unfold gZ;split
 ·exact h _ M _
 ·exact h _ M _
theorem Kr {v:Value}{hi:Nat}(hr:Row 0 hi w T v)(h0:0<hi):∃g off,g<hi/\Rest w T.kk T.q g off 0 v:=by
 obtain⟨a,cap,rfl,bo,hq⟩:=ar.1 hr;rcases hq with hq|⟨g,off,rfl,_,hg,hq⟩
 ·exact⟨0,0,h0,a,cap,rfl,O,bo.2,fun h=>by omega,fun i _ h=>by omega⟩
 ·refine⟨g,off,hg,some ⟨g,off,none⟩,cap,rfl,O,bo.2,fun h=>by simp,fun i _ h=>?_⟩;obtain⟨u,e0,_⟩:=hq i h;exact e0
structure Ci (w:World):Prop where
 words:bX w 4 bd
 f:bX w 2 jE
 cases:bX w 1 ik
 lt:4<w.heap.size
theorem gW {w':World}(h:Ci w)(I:Below w.heap.size w w'):Ci w':=by
 have:=h.lt;have hz:=I.size;exact⟨fun i hi=>(I.cell (p:=⟨4,i,none⟩) (by show 4<_;omega)).trans (h.words i hi),fun i hi=>(I.cell (p:=⟨2,i,none⟩) (by show 2<_;omega)).trans (h.f i hi),
  fun i hi=>(I.cell (p:=⟨1,i,none⟩) (by show 1<_;omega)).trans (h.cases i hi),O⟩
theorem A8 (T:Nd)(k:Nat)(z:T.y=(k:Int))(vO:k<=29)(ll:k=16->0<=T.E/\T.E<=2)(w:World)(v:Value)(hi:Nat)(hf:T.R)(gB:hi<=w.heap.size)(nB:0<hi)(hr:Row 0 hi w T v)(ht:Ci w):
    Calls prog 47 #[T.val v] w fun e w'=>e=.returned (.bool<|A9 T)/\Below w.heap.size w w':=by
  obtain⟨a,cap,hv,_⟩:=ar.1 hr;have hn:=T.I hf;have HB:∀o:Obj,Hid (Below w.heap.size w (w.alloc o)):=fun o=>bA;have be:=ht.lt;have HL:=Z (fun(W:World)(I:Below w.heap.size w W)=>by
    obtain⟨g,off,hg,EY⟩:=Kr (ah I gB hr) nB
    exact Lb T.kk T.q g off (gZ T.y T.E) v W hn (DV _ _) aaz EY)
  have fF:Hid (A9 T=aX T.kk T.q (gZ T.y T.E).size (gZ T.y T.E).data.toList 0):=rfl;unfold Nd.val;subst hv;by_cases Wf:k=16
  · subst Wf;obtain⟨c0,c2⟩:=ll rfl;obtain⟨m,hm⟩:∃m:Nat,T.E=(m:Int):=⟨T.E.toNat,O⟩;have q8:∀o:Obj,(w.alloc o).cell? ⟨1,m,none⟩=some (.string<|ik.getD m ⟨#[]⟩):=fun o=>((HB o).o.cell (p:=⟨1,m,none⟩) (by show 1<_;omega)).trans<|ht.cases m (by show m<3;omega);have hfo:gZ T.y T.E=ik.getD m ⟨#[]⟩:=by unfold gZ;rw[z,hm];rfl
    rw[hfo]at HL fF;rw[z,hm];have hm3:(m:Int)<3:=O;have hm0:(0:Int)<=(m:Int):=O;clear hf hr z hm ll c0 c2 ht hfo;generalize ik.getD m ⟨#[]⟩=fo at*
    exact afq
  · have q8:∀o:Obj,(w.alloc o).cell? ⟨2,k,none⟩=some (.string<|jE.getD k ⟨#[]⟩):=fun o=>((HB o).o.cell (p:=⟨2,k,none⟩) (by show 2<_;omega)).trans<|ht.f k (by show k<30;omega);have bY:((k:Int)==16)=false:=bn O;have hfo:gZ T.y T.E=jE.getD k ⟨#[]⟩:=by unfold gZ;rw[z,avo O];rfl
    rw[hfo]at HL fF;rw[z];have hm3:(k:Int)<30:=O;have hm0:(0:Int)<=(k:Int):=O;clear hf hr z ll ht hfo Wf;generalize T.E=tn at*
    generalize jE.getD k ⟨#[]⟩=fo at*
    exact afq
theorem yU (T:Nd)(k:Nat)(z:T.y=(k:Int))(vO:k<=29)(w:World)(v:Value)(hi:Nat)(hf:T.R)(gB:hi<=w.heap.size)(nB:0<hi)(hr:Row 0 hi w T v)(ht:Ci w):
  Calls prog 21 #[T.val v] w fun e w'=>e=.returned (.bool<|mF T)/\Below w.heap.size w w':=by
 obtain⟨a,cap,hv,_⟩:=ar.1 hr;have hs:=T.ba hf;have HB:∀o:Obj,Hid (Below w.heap.size w<|w.alloc o):=fun o=>bA;have fF:Hid (mF T=(vX T.y T.E&&KR T.y T.E T.z&&A9 T)):=rfl;have HK:=Z fun(hc:k=16->0<=T.E/\T.E<=2)(W:World)(I:Below w.heap.size w W)=>A8 T k z vO hc W v hi hf aaz nB (ah I gB hr)<|gW ht I;have HN:=Z fun(W:World)(I:Below w.heap.size w W)=>Vi T.y T.E T.z a T.q cap W (by unfold maxLen;exact hs) (gW ht I).lt (gW ht I).words;have HC:Hid (vX T.y T.E=true->k=16->0<=T.E/\T.E<=2):=fun h e=>by
  rw[z,e]at h;simpa[vX]using h
 unfold Nd.val at*
 subst hv;clear hf hr hs z ht;generalize T.y=tk at*
 generalize T.E=tn at*
 generalize T.z=ts at*
 cases h1:vX tk tn
 ·go_enter func21,ntmps21
  go_wp2_with(go_at_call 45;refine(EK _ _ _ _ _ _ _).mono ?_;rw[h1];rintro e w1 ⟨rfl,hb1⟩)
  go_ret;exact⟨aw (by rw[fF.o,h1];rfl),(HB _).o.trans<|hb1.mono M⟩
 have oR:=Z<|HC.o h1;clear HC;go_enter func21,ntmps21
 go_wp2_with(go_at_call 45;refine(EK _ _ _ _ _ _ _).mono ?_;rw[h1];rintro e w1 ⟨rfl,hb1⟩;have eu:=hb1.size;simp only[avs]at eu;obtain⟨eO,su⟩:=fc hb1;have B1:=Z<|(HB _).o.trans<|hb1.mono M)
 have F1:Hid (w1.cell? ⟨w.heap.size,0,none⟩=some (.int .i64 tk)/\w1.cell? ⟨w.heap.size,1,none⟩=some (.int .i64 tn)/\w1.cell? ⟨w.heap.size,2,none⟩=some (.string ts)/\w1.cell? ⟨w.heap.size,3,none⟩=some (.slice a T.q cap)):=by
  refine⟨?_,?_,?_,?_⟩<;>(rw[eO _ _ M];simp[go_sem])
 clear eO su hb1;cases h2:KR tk tn ts
 ·refine(HN.o _ B1.o).mono ?_;rw[h2];rintro e w2⟨rfl,hb2⟩;go_wp2;go_ret;exact⟨aw (by rw[fF.o,h1,h2];rfl),B1.o.trans<|hb2.mono O⟩
 ·refine(HN.o _ B1.o).mono ?_;rw[h2];rintro e w2⟨rfl,hb2⟩;have ed:=hb2.size;have B2:=Z<|B1.o.trans<|hb2.mono O;obtain⟨f0,f1,f2,f3⟩:=F1.o;rw[<-(fc hb2).1 _ _ O]at f0 f1 f2 f3;clear hb2;go_wp2_with fail
  refine(HK.o oR.o _ B2.o).mono ?_;cases h3:A9 T;all_goals rintro e w3⟨rfl,hb3⟩
  all_goals go_wp2
  all_goals go_ret
  all_goals exact⟨aw (by rw[fF.o,h1,h2,h3];rfl),B2.o.trans<|hb3.mono O⟩
def lens (l:List (Nd×Nat)):Nat:=(l.map fun p=>p.1.q).sum
theorem lR (a b:List (Nd×Nat)):lens (a++b)=lens a+lens b:=by simp[lens]
theorem xD (f:Nat->List (Nd×Nat)):∀n,lens ((List.range n).flatMap f)=aq (fun i=>lens<|f i) n
 |0=>rfl
 |n+1=>by rw[awV,awW,lR,xD f n];simp[aq]
theorem xe {f g:Nat->Nat}:∀{n:Nat},(∀i,i<n->f i=1+g i)->aq f n=n+aq g n
 |0,_=>rfl
 |n+1,h=>by simp only[aq];rw[xe fun i hi=>h i O,h n O];omega
theorem lQ (T:Nd):∀d,T.size=1+lens (T.pre d):=by
 induction T with
 |nil=>intro d;rfl
 |mk k n s len kids ih=>
  intro d;rw[ru,Nd.size_eq];show 1+_=1+lens ((_,d)::oT _ (d+1));have h1:lens ((Nd.mk k n s len kids,d)::oT (.mk k n s len kids) (d+1))=len+lens (oT (.mk k n s len kids)<|d+1):=by simp[lens,Nd.q]
  rw[h1];unfold oT;rw[xD,xe (f:=fun i=>((Nd.mk k n s len kids).f i).size) (g:=fun i=>lens<|((Nd.mk k n s len kids).f i).pre<|d+1) fun i _=>ih i<|d+1];rfl
theorem tR {f:Nat->List (Nd×Nat)}{p:Nd×Nat}:∀{n:Nat}{A B:List (Nd×Nat)},A++p::B=(List.range n).flatMap f->∃j,j<n/\∃A1 A2 B2,A=A1++A2/\f j=A2++p::B2
 |0,A,B,h=>by simp at h
 |n+1,A,B,h=>by
  rw[awV,awW]at h
  simp only[aw5,flatMap_nil,awG]at h
  rcases List.append_eq_append_iff.1 h with⟨C,h1,h2⟩|⟨C,h1,h2⟩
  ·cases C with
   |nil=>exact⟨n,O,A,[],B,M,by simpa using h2.symm⟩
   |cons c C'=>
    have hc:p=c/\B=C'++f n:=by simpa using h2
    rw[<-hc.1]at h1
    obtain⟨j,hj,r⟩:=tR (A:=A) (B:=C') h1.symm
    exact⟨j,O,r⟩
  ·exact⟨n,O,_,C,B,h1,h2⟩
theorem parent (T:Nd):∀(d:Nat)(A B:List (Nd×Nat))(p:Nd×Nat),A++p::B=T.pre d->(A=[]/\p.1=T)\/∃q,q∈A/\∃i,i<q.1.q/\p.1=q.1.f i:=by
 induction T with
 |nil=>
  intro d A B p h;cases A with
  |nil=>left;simp[Nd.pre]at h;exact⟨rfl,by rw[h.1]⟩
  |cons a A'=>simp[Nd.pre]at h
 |mk k n s len kids ih=>
  intro d A B p h;rw[ru]at h;cases A with
  |nil=>left;simp at h;exact⟨rfl,by rw[h.1]⟩
  |cons a A'=>
   right;simp only[cons_append,List.cons.injEq]at h;obtain⟨rfl,h⟩:=h
   obtain⟨j,hj,A1,A2,B2,rfl,hf⟩:=tR h;rcases ih j (d+1) A2 B2 p hf.symm with⟨_,y⟩|⟨q,hq,r⟩
   ·exact⟨_,awC ..,j,hj,y⟩
   ·exact⟨q,by simp[hq],r⟩
theorem sX {kk:Nat->Int}{c:Nat}:∀{m d i:Nat},i<iL kk c m d->eU (kk<|d+i) c=true
 |0,d,i,h=>by simp[iL]at h
 |m+1,d,i,h=>by
  simp only[iL]at h
  split at h
  ·rename_i h0
   cases i with
   |zero=>simpa using h0
   |succ i=>have:=sX (kk:=kk) (c:=c) (m:=m) (d:=d+1) (i:=i) O;rwa[show d+(i+1)=d+1+i by omega]
  ·omega
theorem uW {kk:Nat->Int}{len:Nat}:∀(f:Nat)(l:List UInt8)(d:Nat),aX kk len f l d=true->∀i,d<=i->i<len->∃c,eU (kk i) c=true
 |0,l,d,h,i,h1,h2=>by simp[aX]at h;omega
 |f+1,[],d,h,i,h1,h2=>by simp[aX]at h;omega
 |f+1,c::r,d,h,i,h1,h2=>by
  have key:∀(m:Nat)(l:List UInt8),aX kk len f l (d+iL kk c.toNat m d)=true->∃c,eU (kk i) c=true:=fun m l hf=>by
   by_cases hi:i<d+iL kk c.toNat m d
   ·exact⟨c.toNat,by have:=sX (kk:=kk) (c:=c.toNat) (m:=m) (d:=d) (i:=i-d) O;rwa[show d+(i-d)=i by omega]at this⟩
   ·exact uW f l _ hf i O h2
  simp only[aX]at h
  split at h
  ·exact key _ _ h
  ·split at h
   ·exact key _ _ h
   ·split at h
    ·cases h
    ·exact key _ _ h
theorem KM {k:Int}{c:Nat}(h:eU k c=true):2<=k/\k<=29:=by
 unfold eU at h;repeat' split at h
 all_goals simp at h
 all_goals omega
theorem Ml (h:mF T=true){i:Nat}(hi:i<T.q):2<=(T.f i).y/\(T.f i).y<=29:=by unfold mF at h;simp only[avw]at h;obtain⟨c,hc⟩:=uW _ _ _ h.2 i O hi;exact KM hc
def jO (T:Nd):Bool:=decide (T.y=1)&&decide (T.size<=600)&&(T.pre 0).all fun p=>mF p.1
theorem G8 {A B:List (Nd×Nat)}{p:Nd×Nat}(hT:T.y=1)(h:A++p::B=T.pre 0)(hA:∀q∈A,mF q.1=true):1<=p.1.y/\p.1.y<=29:=by
 rcases parent T 0 A B p h with⟨_,y⟩|⟨q,hq,i,hi,y⟩
 ·rw[y,hT];omega
 ·rw[y];have:=Ml (hA q hq) hi;omega
theorem Lm {A B:List (Nd×Nat)}{p:Nd×Nat}(h:A++p::B=T.pre 0)(I:600<1+lens A+p.1.q\/mF p.1=false):jO T=false:=by
 unfold jO;rcases I with I|I
 ·have hs:=lQ T 0;rw[<-h,lR]at hs;have:lens (p::B)=p.1.q+lens B:=by simp[lens]
  have h6:¬T.size<=600:=O;simp[h6]
 ·have:(T.pre 0).all (fun p=>mF p.1)=false:=by
   rw[<-h,all_append,all_cons,I];simp
  rw[this,Bool.and_false]
theorem Hk (hT:T.y=1)(h6:1+lens (T.pre 0)<=600)(hA:∀q∈T.pre 0,mF q.1=true):jO T=true:=by
 unfold jO;have hs:=lQ T 0;have h6':T.size<=600:=O;have:(T.pre 0).all (fun p=>mF p.1)=true:=by rw[avE];exact hA
 simp[hT,h6',this]
section
open Go.RowKit Go.Shelf
attribute [local go_sem] aws
theorem sf {A C:World}(h:Below A.heap.size A C):KeepsOthers A C:=⟨h.size,fun k o ho _=>(h.block k (avp.1 ho).1).trans ho⟩
def ld (T:Nd)(m:Int):Bool:=decide<|(T.size:Int)<=m
theorem KW {A B:List (Nd×Nat)}{p:Nd×Nat}(h:A++p::B=T.pre 0)(I:m<((1+lens A+p.1.q:Nat):Int)):ld T m=false:=by
 have hs:=lQ T 0;rw[<-h,lR]at hs;have:lens (p::B)=p.1.q+lens B:=by simp[lens]
 unfold ld;rw[av5];omega
theorem G9 (h:((1+lens (T.pre 0):Nat):Int)<=m):ld T m=true:=by have hs:=lQ T 0;unfold ld;rw[avy];omega
structure MoI (w:World)(m:Int)(pre:List jr)(W:World):Prop where
 below:Below w.heap.size w W
 dU:Boxed W (w.heap.size+1) 3 (.int .i64 m)
 res:Boxed W (w.heap.size+1+1) 4 (.bool false)
 cQ:Boxed W (w.heap.size+1+1+1) 3 (.int .i64 ((1+lens (pre.map key):Nat):Int))
 aR:((1+lens (pre.map key):Nat):Int)<=m
 size:w.heap.size+4<=W.heap.size
structure MoX (w:World)(T:Nd)(m:Int)(c:Code)(W:World):Prop where
 ret:c=.ret
 below:Below w.heap.size w W
 res:Boxed W (w.heap.size+1+1) 4 (.bool false)
 bad:ld T m=false
 size:w.heap.size+4<=W.heap.size
theorem KY (T:Nd)(m:Int)(w:World)(u:Value)(hi:Nat)(hf:T.R)(gB:hi<=w.heap.size)(hr:Row 0 hi w T u)(hc:T.cost<=1048576)(hm0:1<=m)(CD:m<=1000000):
    Calls prog 19 #[T.val u,.int .i64 m] w fun e w'=>e=.returned (.bool<|ld T m)/\Below w.heap.size w w':=by
  obtain⟨au,cu,hu,_⟩:=ar.1 hr;subst hu;refine(avT (n:=3)).1 ?_;refine callsIn_of_wp_marks func19 rfl trivial ?_ rfl;unfold Nd.val;simp only[ntmps19,awo,length_cons,length_nil,Nat.reduceAdd,Nat.reduceSub,awj,awi,awp,awl,nil_append,cons_append];gi_wp2_with((refine⟨trivial,?_⟩;gi_at_call 20;refine(avT.2<|rA _ _ _ _ _ _ _).mono ?_;rintro e w' ⟨rfl,rfl⟩))
  obtain⟨V,hV⟩:∃V,(((((((w.alloc<|nO T<|.slice au T.q cu).alloc<|.cells #[.int .i64 m] 3).alloc<|.cells #[.bool false] 4).alloc<|.cells #[.int .i64 1] 3).alloc<|nO T<|.slice au T.q cu).alloc<|nO T<|.slice au T.q cu).alloc<|.cells #[.func (.func 44) #[] #[]] 90)=V:=⟨_,rfl⟩;have cg:V.heap.size=w.heap.size+7:=by rw[<-hV];simp
  have aR:Below w.heap.size w V:=by
    rw[<-hV];exact(((((((avB _ w).alloc lr _).alloc M _).alloc aah _).alloc aah _).alloc aah _).alloc aah _).alloc aah _
  have c0:V.cell? ⟨w.heap.size+1+1+1+1+1,0,none⟩=some (.int .i64 T.y):=by rw[<-hV];simp[go_sem]
  have c1:V.cell? ⟨w.heap.size+1+1+1+1+1,1,none⟩=some (.int .i64 T.E):=by rw[<-hV];simp[go_sem]
  have c2:V.cell? ⟨w.heap.size+1+1+1+1+1,2,none⟩=some (.string T.z):=by rw[<-hV];simp[go_sem]
  have c3:V.cell? ⟨w.heap.size+1+1+1+1+1,3,none⟩=some (.slice au T.q cu):=by rw[<-hV];simp[go_sem]
  have c4:V.cell? ⟨w.heap.size+1+1+1+1+1+1,0,none⟩=some (.func (.func 44) #[] #[]):=by rw[<-hV];simp[go_sem]
  have b1:=Boxed.new (w.alloc<|nO T<|.slice au T.q cu) 3<|.int .i64 m;have b2:=Boxed.new ((w.alloc<|nO T<|.slice au T.q cu).alloc<|.cells #[.int .i64 m] 3) 4<|.bool false;have b3:=Boxed.new (((w.alloc<|nO T<|.slice au T.q cu).alloc<|.cells #[.int .i64 m] 3).alloc<|.cells #[.bool false] 4) 3<|.int .i64 1;simp only[avs]at b1 b2 b3;have CE:MoI w m [] V:=by
    refine⟨aR,?_,?_,?_,by simp[lens];omega,O⟩
    · rw[<-hV];exact((((b1.alloc _).alloc _).alloc _).alloc _).alloc _
    · rw[<-hV];exact(((b2.alloc _).alloc _).alloc _).alloc _
    · rw[<-hV];exact((b3.alloc _).alloc _).alloc _
  have I9:mR V.heap.size (MoI w m):=fun pre A C h I=>by
    have hz:=h.size;exact⟨h.below.trans<|I.mono O,(I.block _ O).trans h.dU,(I.block _ O).trans h.res,(I.block _ O).trans h.cQ,h.aR,by have:=I.size;omega⟩
  have Tx:∀c,mR V.heap.size (fun(_:List jr)W=>MoX w T m c W):=fun c pre A C h I=>by
    have hz:=h.size;exact⟨h.ret,h.below.trans<|I.mono O,(I.block _ O).trans h.res,h.bad,by have:=I.size;omega⟩
  rw[hV];clear hV b1 b2 b3;have hn:=T.I hf;have wa:=aY hr lr gB;refine fV (α:=jr) (encs:=CO) (S:=IG T) (Sp:=fun _=>True) (Came:=FB T w.heap.size w) (mine:=fun k=>k=w.heap.size+1+1+1) rfl O (gf:=81) (lb:=#[.pointer<|some ⟨w.heap.size+1+1+1+1+1,0,none⟩,.pointer<|some ⟨w.heap.size+1+1+1+1+1+1,0,none⟩]) rfl trivial (enters_of func81 aaf rfl)
    (fun l axc Jx W DR Ad hJ hJx Wc hY h0=>by
      have cy:∀b o,b<V.heap.size->W.cell? ⟨b,o,none⟩=V.cell? ⟨b,o,none⟩:=fun b o I=>Ad.cell (p:=⟨b,o,none⟩) I
      exact yD 2 O T (.slice au T.q cu) w.heap.size V.heap.size (w.heap.size+1+1+1+1+1) (w.heap.size+1+1+1+1+1+1) l (fun k=>k=w.heap.size+1+1+1) axc Jx w W hf hc DR O O O (fun k z=>by omega) (fun k z=>((Ad.block k O).trans<|aR.block k z)) wa hJ Wc hY h0
        ((cy _ _ O).trans c0) ((cy _ _ O).trans c1) ((cy _ _ O).trans c2) ((cy _ _ O).trans c3) ((cy _ _ O).trans c4))
    (fun _=>rfl) (MoI w m) (fun c _ W=>MoX w T m c W) I9 Tx CE
    (fun x W=>{tmps:=#[.agg #[.int .i64 T.y,.int .i64 T.E,.string T.z,.slice au T.q cu],.int .i64 m,.pointer<|some ⟨w.heap.size,0,none⟩,.pointer<|some ⟨w.heap.size+1,0,none⟩,.pointer<|some ⟨w.heap.size+1+1,0,none⟩,.pointer<|some ⟨w.heap.size+1+1+1,0,none⟩,.pointer<|some ⟨W.heap.size,0,none⟩,.agg #[.int .i64 T.y,.int .i64 T.E,.string T.z,.slice au T.q cu],.func (.func 81) #[] #[.pointer<|some ⟨w.heap.size+1+1+1+1+1,0,none⟩,.pointer<|some ⟨w.heap.size+1+1+1+1+1+1,0,none⟩],x.D.val x.v,.int .i64 (x.d:Int),undef,undef,undef,undef,undef,undef,undef,undef],defers:=[]})
    (fun x W=>W.alloc<|.cells #[.int .i64 x.D.y,.int .i64 x.D.E,.string x.D.z,x.v] 25) (fun x W=>bA) ?assign ?body ?done ?stop
  case assign=>
    exact ae3
  case body=>
    rintro l pre⟨D,d,v⟩W1 W3 r ir hz⟨⟨rest,gC⟩,NO,YI⟩nF oW;obtain⟨av,cv,hv,_⟩:=ar.1 NO;have hv:v=.slice av D.q cv:=hv;subst hv;have gC:pre.map key++(D,d)::rest=T.pre 0:=gC;have hlen:D.q<=1048576+1:=by
      have h1:=lQ T 0;rw[<-gC,lR]at h1;have h2:lens ((D,d)::rest)=D.q+lens rest:=by simp[lens]
      have:=T.be;omega
    have fp:=ir.aR;have q:=oW.cQ.cell;have qf:=oW.cQ.frozen;have qm:=oW.dU.cell;have apF:=kk;exact aff
  case done=>
    rintro D xs W hD hS ir hK;have HG:Hid (ld T m=true):=G9 (by have:=ir.aR;rw[hS]at this;exact this);have qr:=ir.res.cell;have qrf:=ir.res.frozen;have HI:=Z ir;have HK:=Z hK;clear hS ir hK CE I9 Tx c0 c1 c2 c3 c4;gi_wp2;have h:=HI.o;have r0:=h.res.set<|.bool true;have Ff:(W.setCell ⟨w.heap.size+1+1,0,none⟩<|.bool true).heap[D]?=some (.deferred<|some []):=(avz _ _ _ _ (by show D≠w.heap.size+1+1;omega)).trans HK.o;have hb3:=h.below.setCell (p:=⟨w.heap.size+1+1,0,none⟩) aas<|.bool true;revert r0 Ff hb3;generalize W.setCell ⟨w.heap.size+1+1,0,none⟩ (.bool true)=X;have apP:=kk;exact afl
  case stop=>
    have apL:=kk;exact afj
end
section
open Go.RowKit Go.Shelf
attribute [local go_sem] aws
structure TrI (w w2:World)(pre:List jr)(W:World):Prop where
 below:Below w.heap.size w W
 res:Boxed W (w.heap.size+1) 4 (.bool false)
 ok:∀x∈pre,mF x.D=true
 size:w2.heap.size+3<=W.heap.size
structure TrX (w w2:World)(T:Nd)(c:Code)(W:World):Prop where
 ret:c=.ret
 below:Below w.heap.size w W
 res:Boxed W (w.heap.size+1) 4 (.bool false)
 bad:jO T=false
 size:w2.heap.size+3<=W.heap.size
theorem Ll (h:ld T 600=false):jO T=false:=by
 unfold ld at h;have h:¬((T.size:Int)<=600):=by simpa using h
 have h6:¬T.size<=600:=O;unfold jO;simp[h6]
theorem Dp {A B:List (Nd×Nat)}{p:Nd×Nat}(h:A++p::B=T.pre 0)(I:mF p.1=false):jO T=false:=Lm h<|.inr I
theorem Ln (hT:T.y=1)(h6:ld T 600=true)(hA:∀q∈T.pre 0,mF q.1=true):jO T=true:=by
 unfold ld at h6;have h6:(T.size:Int)<=600:=by simpa using h6
 refine Hk hT ?_ hA;have:=lQ T 0;omega
theorem xJ (T:Nd)(w:World)(u:Value)(hf:T.R)(hr:Row 0 w.heap.size w T u)(hc:T.cost<=1048576)(ht:Ci w):
    Calls prog 8 #[T.val u] w fun e w'=>e=.returned (.bool<|jO T)/\Below w.heap.size w w':=by
  obtain⟨au,cu,hu,_⟩:=ar.1 hr;subst hu;have be:=ht.lt;by_cases z:T.y=1
  case neg=>
    have HO:Hid (jO T=false):=by unfold Hid jO;simp[z]
    have LW:(T.y !=1)=true:=by rw[awz];exact z
    clear z hr ht;unfold Nd.val;generalize T.y=tk at*
    go_enter func8,ntmps8
    go_wp2;refine avr (v:=.bool false) (by simp[results,results8,go_sem]) rfl ⟨aw HO.o.symm,?_⟩;exact(bA).alloc M _
  have LW:(T.y !=1)=false:=by simp[z]
  have jG:=Z z;clear z;have HM:Hid (∀(W:World),Below w.heap.size w W->Calls prog 19 #[T.val<|.slice au T.q cu,.int .i64 600] W fun e w'=>e=.returned (.bool<|ld T 600)/\Below W.heap.size W w'):=
    fun W I=>KY T 600 W _ w.heap.size hf I.size (ah I lr hr) hc O O
  unfold Nd.val at HM;obtain⟨W0,sw⟩:∃W0,(w.alloc<|nO T<|.slice au T.q cu).alloc (.cells #[.bool false] 4)=W0:=⟨_,rfl⟩;have Y3:Hid (W0.heap.size=w.heap.size+2):=by unfold Hid;rw[<-sw];simp
  have dC:Hid (Below w.heap.size w W0):=by rw[<-sw];exact(bA).alloc M _
  have cZ:Hid (W0.cell? ⟨w.heap.size,0,none⟩=some (.int .i64 T.y)/\W0.cell? ⟨w.heap.size,1,none⟩=some (.int .i64 T.E)/\W0.cell? ⟨w.heap.size,2,none⟩=some (.string T.z)/\W0.cell? ⟨w.heap.size,3,none⟩=some (.slice au T.q cu)/\Boxed W0 (w.heap.size+1) 4 (.bool false)):=by
    have b1:=Boxed.new (w.alloc<|nO T<|.slice au T.q cu) 4<|.bool false;simp only[avs]at b1;unfold Hid;rw[<-sw];exact⟨by simp[go_sem],by simp[go_sem],by simp[go_sem],by simp[go_sem],b1⟩
  have CF:=Z sw;clear sw;cases hmb:ld T 600
  case false=>
    have HO:=Z<|Ll hmb;unfold Nd.val;clear hr ht;go_enter func8,ntmps8
    go_wp2_with(go_at_call 19;rw[CF.o];refine(HM.o _ dC.o).mono ?_;rw[hmb];rintro e w2 ⟨rfl,hb2⟩;obtain⟨q0,q1,q2,q3,qb⟩:=cZ.o;have R2:=Z<|show Boxed w2 (w.heap.size+1) 4 (.bool false)from(hb2.block _ aaT).trans qb;have gi:=Z<|dC.o.trans<|hb2.mono aaT;have r1:=R2.o.cell;have r2:=R2.o.frozen;clear hb2 qb)
    refine avr (v:=.bool false) (by have:=(R2.o.set<|.bool false).cell;simp[results,results8,go_sem,this]) rfl ⟨aw HO.o.symm,?_⟩;exact gi.o.setCell (p:=⟨w.heap.size+1,0,none⟩) aao _
  have HMB:=Z hmb;refine(avT (n:=3)).1 ?_;refine callsIn_of_wp_marks func8 rfl trivial ?_ rfl;unfold Nd.val;simp only[ntmps8,awo,length_cons,length_nil,Nat.reduceAdd,Nat.reduceSub,awj,awi,awp,awl,nil_append,cons_append];gi_wp2_with(refine⟨trivial,?_⟩;first
    | (gi_at_call 19;rw[CF.o];refine(avT.2<|HM.o _ dC.o).mono ?_;rw[hmb];rintro e w2 ⟨rfl,hb2⟩;obtain⟨q0,q1,q2,q3,qb⟩:=cZ.o;rw[<-hb2.cell (p:=⟨w.heap.size,_,none⟩) (show w.heap.size<W0.heap.size by have:=Y3.o;omega)]at q0 q1 q2 q3;have R2:=Z<|show Boxed w2 (w.heap.size+1) 4 (.bool false)from(hb2.block _ aaT).trans qb;have gi:=Z<|dC.o.trans<|hb2.mono aaT;have HZ2:=Z (show w.heap.size+2<=w2.heap.size by have:=hb2.size;have:=Y3.o;omega);clear hb2 qb)
    | (gi_at_call 20;refine(avT.2 (rA _ _ _ _ _ _ _)).mono ?_;rintro e w' ⟨rfl,rfl⟩))
  obtain⟨V,hV⟩:∃V,((w2.alloc<|nO T<|.slice au T.q cu).alloc<|nO T<|.slice au T.q cu).alloc (.cells #[.func (.func 44) #[] #[]] 90)=V:=⟨_,rfl⟩;have cg:V.heap.size=w2.heap.size+3:=by rw[<-hV];simp
  have ed:=HZ2.o;have hb2V:Below w2.heap.size w2 V:=by
    rw[<-hV];exact(((avB _ w2).alloc lr _).alloc M _).alloc aah _
  have aR:Below w.heap.size w V:=gi.o.trans<|hb2V.mono O;have c0:V.cell? ⟨w2.heap.size+1,0,none⟩=some (.int .i64 T.y):=by rw[<-hV];simp[go_sem]
  have c1:V.cell? ⟨w2.heap.size+1,1,none⟩=some (.int .i64 T.E):=by rw[<-hV];simp[go_sem]
  have c2:V.cell? ⟨w2.heap.size+1,2,none⟩=some (.string T.z):=by rw[<-hV];simp[go_sem]
  have c3:V.cell? ⟨w2.heap.size+1,3,none⟩=some (.slice au T.q cu):=by rw[<-hV];simp[go_sem]
  have c4:V.cell? ⟨w2.heap.size+1+1,0,none⟩=some (.func (.func 44) #[] #[]):=by rw[<-hV];simp[go_sem]
  have CE:TrI w w2 [] V:=⟨aR,(hb2V.block _ O).trans R2.o,(fun x hx=>by cases hx),O⟩;have I9:mR V.heap.size (TrI w w2):=fun pre A C h I=>by
    have hz:=h.size;exact⟨h.below.trans<|I.mono O,(I.block _ O).trans h.res,h.ok,by have:=I.size;omega⟩
  have Tx:∀c,mR V.heap.size (fun(_:List jr)W=>TrX w w2 T c W):=fun c pre A C h I=>by
    have hz:=h.size;exact⟨h.ret,h.below.trans<|I.mono O,(I.block _ O).trans h.res,h.bad,by have:=I.size;omega⟩
  rw[hV];clear hV q0 q1 q2 q3;have HT:=Z ht;have hn:=T.I hf;refine fV (α:=jr) (encs:=CO) (S:=IG T) (Sp:=fun _=>True) (Came:=FB T w.heap.size w) (mine:=fun k=>False) rfl O (gf:=81) (lb:=#[.pointer<|some ⟨w2.heap.size+1,0,none⟩,.pointer<|some ⟨w2.heap.size+1+1,0,none⟩]) rfl trivial (enters_of func81 aaf rfl)
    (fun l axc Jx W DR Ad hJ hJx Wc hY h0=>by
      have cy:∀b o,b<V.heap.size->W.cell? ⟨b,o,none⟩=V.cell? ⟨b,o,none⟩:=fun b o I=>Ad.cell (p:=⟨b,o,none⟩) I
      exact yD 2 O T (.slice au T.q cu) w.heap.size V.heap.size (w2.heap.size+1) (w2.heap.size+1+1) l (fun k=>False) axc Jx w W hf hc DR O O O (fun k z=>z.elim) (fun k z=>((Ad.block k O).trans<|aR.block k z)) hr hJ Wc hY h0
        ((cy _ _ O).trans c0) ((cy _ _ O).trans c1) ((cy _ _ O).trans c2) ((cy _ _ O).trans c3) ((cy _ _ O).trans c4))
    (fun _=>rfl) (TrI w w2) (fun c _ W=>TrX w w2 T c W) I9 Tx CE
    (fun x W=>{tmps:=#[.agg #[.int .i64 T.y,.int .i64 T.E,.string T.z,.slice au T.q cu],.pointer<|some ⟨w.heap.size,0,none⟩,.pointer<|some ⟨w.heap.size+1,0,none⟩,.pointer<|some ⟨W.heap.size,0,none⟩,.pointer<|some ⟨w.heap.size,0,none⟩,.int .i64 T.y,.bool false,.bool false,.agg #[.int .i64 T.y,.int .i64 T.E,.string T.z,.slice au T.q cu],.bool true,.bool false,.bool false,.agg #[.int .i64 T.y,.int .i64 T.E,.string T.z,.slice au T.q cu],.func (.func 81) #[] #[.pointer<|some ⟨w2.heap.size+1,0,none⟩,.pointer<|some ⟨w2.heap.size+1+1,0,none⟩],x.D.val x.v,.int .i64 (x.d:Int),undef,undef,undef],defers:=[]})
    (fun x W=>W.alloc<|.cells #[.int .i64 x.D.y,.int .i64 x.D.E,.string x.D.z,x.v] 25) (fun x W=>bA) ?assign ?body ?done ?stop
  case assign=>
    exact ae3
  case body=>
    rintro l pre⟨D,d,v⟩W1 W3 r hi hz⟨⟨rest,gC⟩,NO,YI⟩nF oW;obtain⟨av,cv,hv,_⟩:=ar.1 NO;have hv:v=.slice av D.q cv:=hv;subst hv;have gC:pre.map key++(D,d)::rest=T.pre 0:=gC;obtain⟨jH,ze⟩:=G8 jG.o gC (fun q hq=>by obtain⟨x,hx,rfl⟩:=List.mem_map.1 hq;exact hi.ok x hx);have jH:1<=D.y:=jH;have ze:D.y<=29:=ze;obtain⟨k,z⟩:∃k:Nat,D.y=(k:Int):=⟨D.y.toNat,O⟩;have apG:=kk;exact aff
  case done=>
    rintro D xs W hD hS hi hK;have HG:Hid (jO T=true):=Ln jG.o HMB.o (fun q hq=>by rw[<-hS]at hq;obtain⟨x,hx,rfl⟩:=List.mem_map.1 hq;exact hi.ok x hx);have qr:=hi.res.cell;have qrf:=hi.res.frozen;have HI:=Z hi;have HK:=Z hK;clear hS hi hK CE I9 Tx c0 c1 c2 c3 c4;gi_wp2;have h:=HI.o;have r0:=h.res.set<|.bool true;have Ff:(W.setCell ⟨w.heap.size+1,0,none⟩<|.bool true).heap[D]?=some (.deferred<|some []):=(avz _ _ _ _ (by show D≠w.heap.size+1;omega)).trans HK.o;have hb3:=h.below.setCell (p:=⟨w.heap.size+1,0,none⟩) aao<|.bool true;revert r0 Ff hb3;generalize W.setCell ⟨w.heap.size+1,0,none⟩ (.bool true)=X;have apQ:=kk;exact afl
  case stop=>
    have apM:=kk;exact afj
end
def xX (T:Nd)(d:Nat):Bool:=(T.pre d).all fun p=>mF p.1
theorem zt (T:Nd)(d:Nat):xX T d=(mF T&&aD (fun i=>xX (T.f i)<|d+1) T.q):=by
 unfold xX;rw[ru,all_cons];congr 1;unfold oT;generalize T.q=n;induction n with
 |zero=>rfl
 |succ n ih=>rw[awV,awW,all_append,ih];simp[aD]
theorem H7 (T:Nd):∀d e,xX T d=xX T e:=by
 induction T with
 |nil=>intro d e;rfl
 |mk k n s len kids ih=>
  intro d e;rw[zt,zt];congr 1;congr 1;funext i;exact ih i (d+1)<|e+1
def gu (T:Nd):Bool:=xX T 0
theorem H8 (T:Nd):gu T=(mF T&&aD (fun i=>gu<|T.f i) T.q):=by unfold gu;rw[zt];congr 1;congr 1;funext i;exact H7 _ _ _
def fL (k:Int):Bool:=decide (22<=k)&&decide (k<=29)
def iM (k:Int):Bool:=decide (4<=k)&&decide (k<=21)&& !decide (k=16)
theorem twm (kk:Nat->Int)(c m d:Nat):iL kk c (m+1) d=if eU (kk d) c then iL kk c m (d+1)+1 else 0:=rfl
theorem tw0 (kk:Nat->Int)(c d:Nat):iL kk c 0 d=0:=rfl
theorem Uz (kk:Nat->Int)(c:Nat):∀(m d:Nat),decide (iL kk c m d=m)=aD (fun i=>eU (kk<|d+i) c) m
 |0,d=>rfl
 |m+1,d=>by
  rw[avN,avy,bj]
  constructor
  ·intro h i hi
   exact sX (m:=m+1) O
  ·intro h
   exact EB h lr<|.inl rfl
theorem SB (kk:Nat->Int)(c:Nat):∀(m d:Nat),iL kk c m d<=m
 |0,d=>avF _
 |m+1,d=>by
  rw[twm];split
  ·have:=SB kk c m<|d+1;omega
  ·omega
theorem oI (kk:Nat->Int)(len:Nat)(c:UInt8):aX kk len 2 [c,42] 0=aD (fun i=>eU (kk i) c.toNat) len:=by
 have h:aX kk len 2 [c,42] 0=decide (0+iL kk c.toNat (len-0) 0=len):=by
  simp[aX]
 rw[h];have:=Uz kk c.toNat len 0;simp only[Nat.zero_add,Nat.sub_zero]at this⊢;exact this
theorem ki (kk:Nat->Int)(len:Nat):aX kk len 0 [] 0=decide (len=0):=by simp[aX,eq_comm]
theorem l6 (kk:Nat->Int)(len:Nat)(c:UInt8):aX kk len 1 [c] 0=(decide (len=1)&&eU (kk 0) c.toNat):=by exact ae4
theorem uV (kk:Nat->Int)(len:Nat)(c c':UInt8)(h1:c'≠63)(h2:c'≠42):aX kk len 2 [c,c'] 0=(decide (len=2)&&(eU (kk 0) c.toNat&&eU (kk 1) c'.toNat)):=by
 rcases len with _|_|_|n
 ·simp[aX,iL,h1,h2]
 ·cases h:eU (kk 0) c.toNat<;>simp[aX,iL,h,h1,h2]
 ·exact ae9
 ·exact ae9
theorem D0 (kk:Nat->Int)(len:Nat)(c c' TL:UInt8)(h1:c'≠63)(h2:c'≠42)(h3:TL≠63)(h4:TL≠42):aX kk len 3 [c,c',TL] 0=(decide (len=3)&&(eU (kk 0) c.toNat&&eU (kk 1) c'.toNat&&eU (kk 2) TL.toNat)):=by
 rcases len with _|_|_|_|n
 ·simp[aX,iL,h1,h2]
 ·cases h:eU (kk 0) c.toNat<;>simp[aX,iL,h,h1,h2,h3,h4]
 ·cases h:eU (kk 0) c.toNat<;>cases h':eU (kk 1) c'.toNat<;>simp[aX,iL,h,h',h1,h2,h3,h4]
 ·exact ae5
 ·exact ae5
theorem BJ (kk:Nat->Int)(len:Nat)(c:UInt8):aX kk len 2 [c,63] 0=(decide (len=0)||(decide (len=1)&&eU (kk 0) c.toNat)):=by exact ae4
theorem Ic (kk:Nat->Int)(len:Nat):aX kk len 3 [101,63,98] 0=((decide (len=1)&&eU (kk 0) 98)||(decide (len=2)&&(eU (kk 0) 101&&eU (kk 1) 98))):=by
 have hd:eU (kk 0) 101=true->eU (kk 0) 98=false:=fun h=>by simp[eU]at h⊢;omega
 rcases len with _|_|_|n
 ·simp[aX,iL]
 ·cases h:eU (kk 0) 101<;>cases h':eU (kk 0) 98<;>simp_all[aX,iL]
 ·exact ae8
 ·exact ae8
theorem QA (kk:Nat->Int)(len:Nat):aX kk len 4 [101,98,111,63] 0=(eU (kk 0) 101&&eU (kk 1) 98&&(decide (len=2)||(decide (len=3)&&eU (kk 2) 111))):=by
 rcases len with _|_|_|_|n
 ·simp[aX,iL]
 ·cases h:eU (kk 0) 101<;>simp[aX,iL,h]
 ·cases h:eU (kk 0) 101<;>cases h':eU (kk 1) 98<;>simp[aX,iL,h,h']
 ·exact ae7
 ·exact ae7
theorem Ie (kk:Nat->Int)(len:Nat):aX kk len 3 [112,42,98] 0=(decide (1<=len)&&(aD (fun i=>eU (kk i) 112) (len-1)&&eU (kk<|len-1) 98)):=by
 have hd:∀k,eU k 112=true->eU k 98=false:=fun k h=>by simp[eU]at h⊢;omega
 have h0:aX kk len 3 [112,42,98] 0=if iL kk 98 (min 1<|len-iL kk 112 len 0) (iL kk 112 len 0)<1 then false else decide (iL kk 112 len 0+iL kk 98 (min 1<|len-iL kk 112 len 0) (iL kk 112 len 0)=len):=by
  simp[aX]
 rw[h0];have hle:=SB kk 112 len 0;have hsp:=fun i(hi:i<iL kk 112 len 0)=>sX (kk:=kk) (c:=112) (m:=len) (d:=0) (i:=i) hi;simp only[Nat.zero_add]at hsp;have hof:=fun t(h1:∀i,i<t->eU (kk<|0+i) 112=true)(h2:t<=len)(h3:t=len\/eU (kk<|0+t) 112=false)=>EB (kk:=kk) (c:=112) (m:=len) (t:=t) (d:=0) h1 h2 h3;simp only[Nat.zero_add]at hof;rw[avN];generalize ht:iL kk 112 len 0=t at*
 constructor
 ·intro h;split at h
  ·cases h
  ·rename_i hn;have be:t<len:=by
    rcases awZ t len with h|h
    ·exact h
    ·exfalso;apply hn;rw[show len-t=0 by omega];simp[iL]
   have I:eU (kk t) 98=true:=by
    rw[show min 1 (len-t)=0+1 by omega,twm]at hn;cases I:eU (kk t) 98 with
    |true=>rfl
    |false=>exfalso;apply hn;simp[I]
   have h1:iL kk 98 (min 1<|len-t) t=1:=by rw[show min 1 (len-t)=0+1 by omega,twm];simp[I,tw0]
   rw[h1]at h;have hl:len=t+1:=by have:=aw3 h;omega
   subst hl;simp only[av1,I,Bool.and_true,avw,avy];exact⟨O,eZ hsp⟩
 ·intro h;simp only[avw,avy]at h;obtain⟨h1,h2,h3⟩:=h
  have bl:=bj.1 h2;have hn:eU (kk<|len-1) 112=false:=by
   cases hx:eU (kk<|len-1) 112 with
   |false=>rfl
   |true=>rw[hd _ hx]at h3;cases h3
  have:=hof (len-1) bl O<|.inr hn;subst this;have hw:iL kk 98 (min 1<|len-(len-1)) (len-1)=1:=by rw[show min 1 (len-(len-1))=0+1 by omega,twm];simp[h3,tw0]
  rw[hw];simp;omega
theorem nt (e st:Nat->Bool)(kk:Nat->Int)(len:Nat)(c:UInt8):aG e st kk len ⟨#[c]⟩=(decide (len=1)&&bT e st kk c.toNat 0):=by unfold aG;show(decide (len=1)&&(aD _ 1))=_;simp[aD]
theorem tS (e st:Nat->Bool)(kk:Nat->Int)(len:Nat)(c c':UInt8):aG e st kk len ⟨#[c,c']⟩=(decide (len=2)&&(bT e st kk c.toNat 0&&bT e st kk c'.toNat 1)):=by unfold aG;show(decide (len=2)&&(aD _ 2))=_;simp[aD]
theorem Ka (e st:Nat->Bool)(kk:Nat->Int)(len:Nat)(c c' TL:UInt8):aG e st kk len ⟨#[c,c',TL]⟩=(decide (len=3)&&(bT e st kk c.toNat 0&&bT e st kk c'.toNat 1&&bT e st kk TL.toNat 2)):=by unfold aG;show(decide (len=3)&&(aD _ 3))=_;simp[aD]
section
def rhs (k n:Int)(s:ByteArray)(len:Nat)(kk:Nat->Int)(g:Nat->Bool):Bool:=vX k n&&KR k n s&&aX kk len (gZ k n).size (gZ k n).data.toList 0&&aD g len
theorem I1 (k:Int):eU k 101=fL k:=by simp[eU,fL]
theorem ofS (k:Int):eU k 115=iM k:=by simp[eU,iM]
theorem G0 (k:Int):eU k 98=decide (k=4):=by simp[eU]
theorem ofC (k:Int):eU k 99=decide (k=25):=by simp[eU]
theorem ofA (k:Int):eU k 97=(decide (k=25)||decide (k=29)):=by simp[eU]
theorem ofO (k:Int):eU k 111=(decide (k=4)||decide (k=10)):=by simp[eU]
theorem ofW (k:Int):eU k 119=decide (k=16):=by simp[eU]
theorem ofF (k:Int):eU k 102=decide (k=2):=by simp[eU]
theorem ofP (k:Int):eU k 112=decide (k=3):=by simp[eU]
theorem oM (p g:Nat->Bool):∀n,aD (fun i=>p i&&g i) n=(aD p n&&aD g n)
 |0=>rfl
 |n+1=>by
  simp only[aD,oM p g n]
  cases aD p n<;>cases p n<;>cases aD g n<;>cases g n<;>rfl
theorem xz (s:ByteArray)(h:aK s=true):ao s=false:=by
 unfold ao;rw[pW];cases hl:s.data.toList with
 |nil=>
  have hz:s.size=0:=by rw[<-fX,hl];rfl
  simp[aK,dE,hz]at h
 |cons=>rfl
section
variable (n :Int) (s:ByteArray) (len:Nat) (kk:Nat->Int) (g:Nat->Bool)
theorem ZZ :bq 22 n s len (fun i=>fL (kk i)&&g i) (fun i=>iM (kk i)&&g i) kk=rhs 22 n s len kk g:=by show(ao s&&(decide (0<=n)&&decide (n<=999999999999999999)&&decide (len=0)))=(decide (0<=n)&&decide (n<=999999999999999999)&&ao s&&aX kk len 0 [] 0&&aD g len);rw[ki];rcases len with _|len<;>cases ao s<;>simp[aD]
theorem ZY :bq 23 n s len (fun i=>fL (kk i)&&g i) (fun i=>iM (kk i)&&g i) kk=rhs 23 n s len kk g:=by show(ao s&&((decide (n=0)||decide (n=1))&&decide (len=0)))=((decide (n=0)||decide (n=1))&&ao s&&aX kk len 0 [] 0&&aD g len);rw[ki];rcases len with _|len<;>cases ao s<;>simp[aD]
theorem ZX :bq 24 n s len (fun i=>fL (kk i)&&g i) (fun i=>iM (kk i)&&g i) kk=rhs 24 n s len kk g:=by show(decide (n=0)&&(aK s&&decide (len=0)))=(decide (n=0)&&aK s&&aX kk len 0 [] 0&&aD g len);rw[ki];rcases len with _|len<;>cases aK s<;>simp[aD]
theorem ZW :bq 25 n s len (fun i=>fL (kk i)&&g i) (fun i=>iM (kk i)&&g i) kk=rhs 25 n s len kk g:=by show(decide (n=0)&&(aK s&&aD (fun i=>fL (kk i)&&g i) len))=(decide (n=0)&&aK s&&aX kk len 2 [101,42] 0&&aD g len);rw[oI,oM];simp only[show(101:UInt8).toNat=101 from rfl,I1];cases aK s<;>cases aD (fun i=>fL<|kk i) len<;>simp
theorem ZV :bq 26 n s len (fun i=>fL (kk i)&&g i) (fun i=>iM (kk i)&&g i) kk=rhs 26 n s len kk g:=by
 show(ao s&&decide (n=0)&&(decide (len<2)&&aD (fun i=>fL (kk i)&&g i) len))=(decide (n=0)&&ao s&&aX kk len 2 [101,63] 0&&aD g len);rw[BJ];simp only[show(101:UInt8).toNat=101 from rfl,I1];by_cases h0:len=0
 ·subst h0;cases decide (n=0)<;>cases ao s<;>rfl
 by_cases h1:len=1
 ·subst h1;simp only[aD,decide_true,Bool.true_and];exact IA
 ·have h2:¬len<2:=O;simp[h0,h1,h2]
theorem ZU :bq 27 n s len (fun i=>fL (kk i)&&g i) (fun i=>iM (kk i)&&g i) kk=rhs 27 n s len kk g:=by
 show(decide (n=0)&&((s.toList==[45]||s.toList==[33])&&aG (fun i=>fL (kk i)&&g i) (fun i=>iM (kk i)&&g i) kk len ⟨#[101]⟩))=(decide (n=0)&&(s.toList==[45]||s.toList==[33])&&aX kk len 1 [101] 0&&aD g len);rw[l6,nt];simp only[show(101:UInt8).toNat=101 from rfl,I1,bT];by_cases hl:len=1
 ·subst hl;simp only[aD,decide_true,Bool.true_and];cases decide (n=0)<;>cases (s.toList==[45]||s.toList==[33])<;>cases fL (kk 0)<;>cases g 0<;>rfl
 ·simp[hl]
theorem ZT :bq 28 n s len (fun i=>fL (kk i)&&g i) (fun i=>iM (kk i)&&g i) kk=rhs 28 n s len kk g:=by
 show(decide (n=0)&&(decide (0<bV s)&&aG (fun i=>fL (kk i)&&g i) (fun i=>iM (kk i)&&g i) kk len ⟨#[101,101]⟩))=(decide (n=0)&&decide (0<bV s)&&aX kk len 2 [101,101] 0&&aD g len);rw[uV _ _ _ _ J J,tS];simp only[show(101:UInt8).toNat=101 from rfl,I1,bT];by_cases hl:len=2
 ·subst hl;simp only[aD,decide_true,Bool.true_and];cases decide (n=0)<;>cases decide (0<bV s)<;>cases fL (kk 0)<;>cases fL (kk 1)<;>cases g 0<;>cases g 1<;>rfl
 ·simp[hl]
theorem ZS :bq 29 n s len (fun i=>fL (kk i)&&g i) (fun i=>iM (kk i)&&g i) kk=rhs 29 n s len kk g:=by exact afi
variable (cs :Nat->Bool)
theorem rhs4 :aL 4 n s len (fun i=>fL (kk i)&&g i) (fun i=>iM (kk i)&&g i) cs kk=rhs 4 n s len kk g:=by show(ao s&&decide (n=0)&&aD (fun i=>iM (kk i)&&g i) len)=(decide (n=0)&&ao s&&aX kk len 2 [115,42] 0&&aD g len);rw[oI,oM];simp only[show(115:UInt8).toNat=115 from rfl,ofS];cases decide (n=0)<;>cases ao s<;>cases aD (fun i=>iM<|kk i) len<;>cases aD g len<;>rfl
theorem rhs5 :aL 5 n s len (fun i=>fL (kk i)&&g i) (fun i=>iM (kk i)&&g i) cs kk=rhs 5 n s len kk g:=by exact ae2
theorem rhs6 :aL 6 n s len (fun i=>fL (kk i)&&g i) (fun i=>iM (kk i)&&g i) cs kk=rhs 6 n s len kk g:=by exact ae2
theorem rhs7 :aL 7 n s len (fun i=>fL (kk i)&&g i) (fun i=>iM (kk i)&&g i) cs kk=rhs 7 n s len kk g:=by
 show(!ao s&&aK s&&((decide (n=1)||decide (n=-1))&&decide (len=0)))=((decide (n=1)||decide (n=-1))&&aK s&&aX kk len 0 [] 0&&aD g len);rw[ki];have bY:=xz s;by_cases hl:len=0
 ·subst hl;cases cm:aK s
  ·cases (decide (n=1)||decide (n=-1))<;>cases ao s<;>rfl
  rw[bY cm];cases (decide (n=1)||decide (n=-1))<;>rfl
 ·simp[hl]
theorem rhs8 :aL 8 n s len (fun i=>fL (kk i)&&g i) (fun i=>iM (kk i)&&g i) cs kk=rhs 8 n s len kk g:=by
 show(ao s&&decide (n=0)&&aG (fun i=>fL (kk i)&&g i) (fun i=>iM (kk i)&&g i) kk len ⟨#[101,101]⟩)=(decide (n=0)&&ao s&&aX kk len 2 [101,101] 0&&aD g len);rw[uV _ _ _ _ J J,tS];simp only[show(101:UInt8).toNat=101 from rfl,I1,bT];by_cases hl:len=2
 ·subst hl;simp only[aD,decide_true,Bool.true_and];cases decide (n=0)<;>cases ao s<;>cases fL (kk 0)<;>cases fL (kk 1)<;>cases g 0<;>cases g 1<;>rfl
 ·simp[hl]
theorem Z2 :aL 19 n s len (fun i=>fL (kk i)&&g i) (fun i=>iM (kk i)&&g i) cs kk=rhs 19 n s len kk g:=by exact afi
theorem Z1 :aL 20 n s len (fun i=>fL (kk i)&&g i) (fun i=>iM (kk i)&&g i) cs kk=rhs 20 n s len kk g:=by exact afi
theorem Z0 :aL 21 n s len (fun i=>fL (kk i)&&g i) (fun i=>iM (kk i)&&g i) cs kk=rhs 21 n s len kk g:=by exact afi
theorem MM (k:Int)(h:(decide (k=25)||decide (k=29))=true):fL k=true:=by simp[fL]at h⊢;omega
theorem rhs9 :aL 9 n s len (fun i=>fL (kk i)&&g i) (fun i=>iM (kk i)&&g i) cs kk=rhs 9 n s len kk g:=by
 show(ao s&&decide (n=0)&&(aG (fun i=>fL (kk i)&&g i) (fun i=>iM (kk i)&&g i) kk len ⟨#[101]⟩&&(decide (kk 0=25)||decide (kk 0=29))))=(decide (n=0)&&ao s&&aX kk len 1 [97] 0&&aD g len);rw[l6,nt];simp only[show(101:UInt8).toNat=101 from rfl,show(97:UInt8).toNat=97 from rfl,ofA,bT];by_cases hl:len=1
 ·subst hl;simp only[aD,decide_true,Bool.true_and,if_true];have hc:=MM<|kk 0;cases hx:(decide (kk 0=25)||decide (kk 0=29))
  ·exact IA
  ·rw[hc hx];exact Xk
 ·simp[hl]
theorem call1 (k:Int)(h:decide (k=25)=true):fL k=true:=by simp[fL]at h⊢;omega
theorem D9 (k:Int)(h:decide (k=4)=true):iM k=true:=by simp[iM]at h⊢;omega
theorem blk2 (k:Int)(h:(decide (k=4)||decide (k=10))=true):iM k=true:=by simp[iM]at h⊢;omega
theorem Z7 :aL 13 n s len (fun i=>fL (kk i)&&g i) (fun i=>iM (kk i)&&g i) cs kk=rhs 13 n s len kk g:=by exact afa
theorem Z6 :aL 14 n s len (fun i=>fL (kk i)&&g i) (fun i=>iM (kk i)&&g i) cs kk=rhs 14 n s len kk g:=by exact afa
theorem Z4 :aL 17 n s len (fun i=>fL (kk i)&&g i) (fun i=>iM (kk i)&&g i) cs kk=rhs 17 n s len kk g:=by exact afs
theorem Z3 :aL 18 n s len (fun i=>fL (kk i)&&g i) (fun i=>iM (kk i)&&g i) cs kk=rhs 18 n s len kk g:=by exact afs
theorem Z8 :aL 12 n s len (fun i=>fL (kk i)&&g i) (fun i=>iM (kk i)&&g i) cs kk=rhs 12 n s len kk g:=by
 show(ao s&&decide (n=0)&&(decide (len=0)||aG (fun i=>fL (kk i)&&g i) (fun i=>iM (kk i)&&g i) kk len ⟨#[101]⟩))=(decide (n=0)&&ao s&&aX kk len 2 [101,63] 0&&aD g len);rw[BJ,nt];simp only[show(101:UInt8).toNat=101 from rfl,I1,bT];by_cases h0:len=0
 ·subst h0;cases decide (n=0)<;>cases ao s<;>rfl
 by_cases h1:len=1
 ·subst h1;simp only[aD];exact IA
 ·simp[h0,h1]
theorem Z5 (q8:cs=fun i=>decide (kk i=16)&&g i):aL 15 n s len (fun i=>fL (kk i)&&g i) (fun i=>iM (kk i)&&g i) cs kk=rhs 15 n s len kk g:=by subst q8;show(ao s&&decide (n=0)&&aD (fun i=>decide (kk i=16)&&g i) len)=(decide (n=0)&&ao s&&aX kk len 2 [119,42] 0&&aD g len);rw[oI,oM];simp only[show(119:UInt8).toNat=119 from rfl,ofW];cases decide (n=0)<;>cases ao s<;>cases aD (fun i=>decide<|kk i=16) len<;>cases aD g len<;>rfl
theorem rhs10 :aL 10 n s len (fun i=>fL (kk i)&&g i) (fun i=>iM (kk i)&&g i) cs kk=rhs 10 n s len kk g:=by
 show(ao s&&decide (n=0)&&(aG (fun i=>fL (kk i)&&g i) (fun i=>iM (kk i)&&g i) kk len ⟨#[101,98]⟩||aG (fun i=>fL (kk i)&&g i) (fun i=>iM (kk i)&&g i) kk len ⟨#[101,98,105]⟩))=(decide (n=0)&&ao s&&aX kk len 4 [101,98,111,63] 0&&aD g len);rw[QA,tS,Ka];simp only[show(101:UInt8).toNat=101 from rfl,I1,show(98:UInt8).toNat=98 from rfl,show(105:UInt8).toNat=105 from rfl,G0,ofO,bT];have hb1:=D9<|kk 1;have hb2:=blk2<|kk 2;by_cases h2:len=2
 ·subst h2;simp only[aD];cases hx:decide (kk 1=4)
  ·exact Xl
  ·rw[hb1 hx];exact Xl
 by_cases h3:len=3
 ·subst h3;simp only[aD];cases hx:decide (kk 1=4)
  ·exact IA
  ·rw[hb1 hx];cases hy:(decide (kk 2=4)||decide (kk 2=10))
   ·exact Xl
   ·rw[hb2 hy];cases decide (n=0)<;>cases ao s<;>cases fL (kk 0)<;>cases g 0<;>cases g 1<;>cases g 2<;>rfl
 ·simp[h2,h3]
theorem Z9 :aL 11 n s len (fun i=>fL (kk i)&&g i) (fun i=>iM (kk i)&&g i) cs kk=rhs 11 n s len kk g:=by
 show(ao s&&decide (n=0)&&(aG (fun i=>fL (kk i)&&g i) (fun i=>iM (kk i)&&g i) kk len ⟨#[98]⟩||aG (fun i=>fL (kk i)&&g i) (fun i=>iM (kk i)&&g i) kk len ⟨#[101,98]⟩))=(decide (n=0)&&ao s&&aX kk len 3 [101,63,98] 0&&aD g len);rw[Ic,nt,tS];simp only[show(101:UInt8).toNat=101 from rfl,I1,show(98:UInt8).toNat=98 from rfl,G0,bT];have aR:=D9<|kk 0;have hb1:=D9<|kk 1;by_cases h1:len=1
 ·subst h1;simp only[aD];cases hx:decide (kk 0=4)
  ·exact IA
  ·rw[aR hx];exact IA
 by_cases h2:len=2
 ·subst h2;simp only[aD];cases hx:decide (kk 1=4)
  ·exact ae6
  ·rw[hb1 hx];exact ae6
 ·simp[h1,h2]
end
end
theorem lX (T:Nd):gu T=rhs T.y T.E T.z T.q T.kk (fun i=>gu<|T.f i):=H8 T
theorem MJ (n:Int)(s:ByteArray)(len:Nat)(kk:Nat->Int)(g:Nat->Bool):gP 16 n s len (fun i=>fL (kk i)&&g i) (fun i=>iM (kk i)&&g i) kk=rhs 16 n s len kk g:=by
  have e1:gP 16 n s len (fun i=>fL (kk i)&&g i) (fun i=>iM (kk i)&&g i) kk=((ao s||(decide (n=1)&&aK s))&&
    (if n=0 then aG (fun i=>fL (kk i)&&g i) (fun i=>iM (kk i)&&g i) kk len ⟨#[98]⟩else if n=1 then aG (fun i=>fL (kk i)&&g i) (fun i=>iM (kk i)&&g i) kk len ⟨#[101,98]⟩else if n=2 then aG (fun i=>fL (kk i)&&g i) (fun i=>iM (kk i)&&g i) kk len ⟨#[101,101,98]⟩else false)):=rfl
  have e2:rhs 16 n s len kk g=(decide (0<=n)&&decide (n<=2)&&(ao s||(decide (n=1)&&aK s))&&aX kk len (gZ 16 n).size (gZ 16 n).data.toList 0&&aD g len):=rfl;rw[e1,e2];by_cases h0:n=0
  · subst h0;show((ao s||(false&&aK s))&&aG _ _ kk len ⟨#[98]⟩)=(true&&true&&(ao s||(false&&aK s))&&aX kk len 1 [98] 0&&aD g len);rw[l6,nt];simp only[show(98:UInt8).toNat=98 from rfl,G0,bT];have I:=D9<|kk 0;by_cases hl:len=1
    · subst hl;simp only[aD];cases hx:decide (kk 0=4)
      · cases ao s<;>cases g 0<;>rfl
      · rw[I hx];cases ao s<;>cases g 0<;>rfl
    · simp[hl]
  by_cases h1:n=1
  · subst h1;show((ao s||(true&&aK s))&&aG _ _ kk len ⟨#[101,98]⟩)=(true&&true&&(ao s||(true&&aK s))&&aX kk len 2 [101,98] 0&&aD g len);rw[uV _ _ _ _ J J,tS];simp only[show(98:UInt8).toNat=98 from rfl,show(101:UInt8).toNat=101 from rfl,G0,I1,bT];have I:=D9<|kk 1;by_cases hl:len=2
    · subst hl;simp only[aD];cases hx:decide (kk 1=4)
      · cases (ao s||(true&&aK s))<;>cases fL (kk 0)<;>cases g 0<;>cases g 1<;>rfl
      · rw[I hx];cases (ao s||(true&&aK s))<;>cases fL (kk 0)<;>cases g 0<;>cases g 1<;>rfl
    · simp[hl]
  by_cases h2:n=2
  · subst h2;show((ao s||(false&&aK s))&&aG _ _ kk len ⟨#[101,101,98]⟩)=(true&&true&&(ao s||(false&&aK s))&&aX kk len 3 [101,101,98] 0&&aD g len);rw[D0 _ _ _ _ _ J J J J,Ka];simp only[show(98:UInt8).toNat=98 from rfl,show(101:UInt8).toNat=101 from rfl,G0,I1,bT];have I:=D9<|kk 2;by_cases hl:len=3
    · subst hl;simp only[aD];cases hx:decide (kk 2=4)
      · cases ao s<;>cases fL (kk 0)<;>cases fL (kk 1)<;>cases g 0<;>cases g 1<;>cases g 2<;>rfl
      · rw[I hx];cases ao s<;>cases fL (kk 0)<;>cases fL (kk 1)<;>cases g 0<;>cases g 1<;>cases g 2<;>rfl
    · simp[hl]
  · rw[avo h0,avo h1,avo h2,Bool.and_false];have:(decide (0<=n)&&decide (n<=2))=false:=by
      rw[Bool.and_eq_false_iff];by_cases hx:0<=n
      · exact .inr<|avP O
      · exact .inl<|avP hx
    rw[this];rfl
theorem eqv (T:Nd):T.Q=(fL T.y&&gu T)/\T.U=(iM T.y&&gu T)/\T.aH=(decide (T.y=16)&&gu T):=by
 have step:∀T:Nd,(∀i,(T.f i).Q=(fL (T.f i).y&&gu (T.f i))/\(T.f i).U=(iM (T.f i).y&&gu (T.f i))/\(T.f i).aH=(decide ((T.f i).y=16)&&gu (T.f i)))->
   T.Q=(fL T.y&&gu T)/\T.U=(iM T.y&&gu T)/\T.aH=(decide (T.y=16)&&gu T):=by
  intro T ih;have hE:(fun i=>(T.f i).Q)=fun i=>fL (T.kk i)&&gu (T.f i):=funext fun i=>(ih i).1;have hS:(fun i=>(T.f i).U)=fun i=>iM (T.kk i)&&gu (T.f i):=funext fun i=>(ih i).2.1;have hC:(fun i=>(T.f i).aH)=fun i=>decide (T.kk i=16)&&gu (T.f i):=funext fun i=>(ih i).2.2;refine⟨?_,?_,?_⟩
  ·rw[bD,hE,hS,lX];by_cases Af:T.y=22
   ·rw[Af];exact ZZ _ _ _ _ _
   by_cases vP:T.y=23
   ·rw[vP];exact ZY _ _ _ _ _
   by_cases zp:T.y=24
   ·rw[zp];exact ZX _ _ _ _ _
   by_cases wJ:T.y=25
   ·rw[wJ];exact ZW _ _ _ _ _
   by_cases ti:T.y=26
   ·rw[ti];exact ZV _ _ _ _ _
   by_cases wy:T.y=27
   ·rw[wy];exact ZU _ _ _ _ _
   by_cases zo:T.y=28
   ·rw[zo];exact ZT _ _ _ _ _
   by_cases vO:T.y=29
   ·rw[vO];exact ZS _ _ _ _ _
   have hf:fL T.y=false:=by
    cases hx:fL T.y with
    |false=>rfl
    |true=>exfalso;simp[fL]at hx;omega
   rw[hf,aw2];unfold bq;simp only[Af,vP,zp,wJ,ti,wy,zo,vO,if_false]
  ·rw[aM,hE,hS,hC,lX];by_cases h4:T.y=4
   ·rw[h4];exact rhs4 _ _ _ _ _ _
   by_cases h5:T.y=5
   ·rw[h5];exact rhs5 _ _ _ _ _ _
   by_cases h6:T.y=6
   ·rw[h6];exact rhs6 _ _ _ _ _ _
   by_cases h7:T.y=7
   ·rw[h7];exact rhs7 _ _ _ _ _ _
   by_cases h8:T.y=8
   ·rw[h8];exact rhs8 _ _ _ _ _ _
   by_cases h9:T.y=9
   ·rw[h9];exact rhs9 _ _ _ _ _ _
   by_cases kK:T.y=10
   ·rw[kK];exact rhs10 _ _ _ _ _ _
   by_cases nH:T.y=11
   ·rw[nH];exact Z9 _ _ _ _ _ _
   by_cases qM:T.y=12
   ·rw[qM];exact Z8 _ _ _ _ _ _
   by_cases zr:T.y=13
   ·rw[zr];exact Z7 _ _ _ _ _ _
   by_cases zq:T.y=14
   ·rw[zq];exact Z6 _ _ _ _ _ _
   by_cases sQ:T.y=17
   ·rw[sQ];exact Z4 _ _ _ _ _ _
   by_cases wN:T.y=18
   ·rw[wN];exact Z3 _ _ _ _ _ _
   by_cases wM:T.y=19
   ·rw[wM];exact Z2 _ _ _ _ _ _
   by_cases wK:T.y=20
   ·rw[wK];exact Z1 _ _ _ _ _ _
   by_cases uK:T.y=21
   ·rw[uK];exact Z0 _ _ _ _ _ _
   by_cases rF:T.y=15
   ·rw[rF];exact Z5 _ _ _ _ _ _ rfl
   have hf:iM T.y=false:=by
    cases hx:iM T.y with
    |false=>rfl
    |true=>exfalso;simp[iM]at hx;omega
   rw[hf,aw2];unfold aL;simp only[h4,h5,h6,h7,h8,h9,kK,nH,qM,zr,zq,sQ,wN,wM,wK,uK,rF,or_self,if_false]
  ·rw[lI,hE,hS,lX];by_cases Wf:T.y=16
   ·rw[Wf];exact MJ _ _ _ _ _
   ·unfold gP;simp[Wf]
 induction T with
 |nil=>exact step .nil fun i=>⟨rfl,rfl,rfl⟩
 |mk k n s len kids ih=>exact step _ fun i=>ih i
theorem Dd (P:Nd):fh P=(decide (P.y=3)&&gu P):=by
 rw[lX];by_cases z:P.y=3
 ·unfold fh;rw[z];show(true&&aK P.z&&(decide (1<=P.E)&&decide (P.E<=3))&&decide (P.q=0))=(true&&((decide (1<=P.E)&&decide (P.E<=3))&&aK P.z&&aX P.kk P.q 0 [] 0&&aD _ P.q));rw[ki];by_cases hl:P.q=0
  ·rw[hl];cases aK P.z<;>cases (decide (1<=P.E)&&decide (P.E<=3))<;>rfl
  ·simp[hl]
 ·unfold fh;simp[z]
theorem Ia (T:Nd):b6 T=(decide (T.y=2)&&gu T):=by
 rw[lX];by_cases z:T.y=2
 ·unfold b6;rw[z];show(true&&aK T.z&&(decide (0<=T.E)&&decide (T.E<=3))&&decide (1<=T.q)&&(aD (fun i=>fh<|T.f i) (T.q-1)&&(decide ((T.f<|T.q-1).y=4)&&(T.f<|T.q-1).U)))=
   (true&&((decide (0<=T.E)&&decide (T.E<=3))&&aK T.z&&aX T.kk T.q 3 [112,42,98] 0&&aD (fun i=>gu<|T.f i) T.q))
  rw[Ie,(eqv _).2.1];have y:(fun i=>fh<|T.f i)=fun i=>decide (T.kk i=3)&&gu (T.f i):=funext fun i=>Dd _;rw[y,oM];simp only[ofP,G0];by_cases hl:1<=T.q
  ·obtain⟨m,hm⟩:∃m,T.q=m+1:=⟨T.q-1,O⟩;rw[hm];show _=(true&&((decide (0<=T.E)&&decide (T.E<=3))&&aK T.z&&(decide (1<=m+1)&&(aD (fun i=>decide<|T.kk i=3) m&&decide (T.kk m=4)))&&(aD (fun i=>gu<|T.f i) m&&gu (T.f m))));have I:=D9 (T.f m).y;have Tj:T.kk m=(T.f m).y:=rfl;rw[Tj];simp only[av1];cases hx:decide ((T.f m).y=4)
   ·exact afr
   ·rw[I hx];exact afr
  ·simp[hl]
 ·unfold b6;simp[z]
theorem Aw (T:Nd):jO T=cJ T:=by
 have hg:((T.pre 0).all fun p=>mF p.1)=gu T:=rfl;unfold jO cJ;rw[hg,lX];by_cases z:T.y=1
 ·rw[z];show(true&&decide (T.size<=600)&&(decide (T.E=0)&&ao T.z&&aX T.kk T.q 2 [102,42] 0&&aD (fun i=>gu<|T.f i) T.q))=(decide (T.size<=600)&&true&&decide (T.E=0)&&ao T.z&&aD (fun i=>b6<|T.f i) T.q);have y:(fun i=>b6<|T.f i)=fun i=>decide (T.kk i=2)&&gu (T.f i):=funext fun i=>Ia _;rw[y,oM,oI];simp only[show(102:UInt8).toNat=102 from rfl,ofF];cases decide (T.size<=600)<;>cases decide (T.E=0)<;>cases ao T.z<;>cases aD (fun i=>decide<|T.kk i=2) T.q<;>cases aD (fun i=>gu<|T.f i) T.q<;>rfl
 ·simp[z]
end Go.Proofs.YtgcmhaghebhjnaaGreatDoor
